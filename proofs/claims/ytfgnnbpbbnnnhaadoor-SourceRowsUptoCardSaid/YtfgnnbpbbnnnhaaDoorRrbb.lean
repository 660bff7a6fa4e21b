/- Laws. -/
import Derived.Test.YtfgnnbpbbnnnhaaDoorRrak
import Derived.Test.YtfgnnbpbbnnnhaaDoorRraz
import Derived.Test.YtfgnnbpbbnnnhaaDoorRrba
namespace Go.Proofs.YtfgnnbpbbnnnhaaDoor
open Go.RowKit Go.Maps
set_option maxRecDepth 100000 in
theorem enter_srightX (vs : Array Value) (w : World) : (callFunc 9 vs).run Tryd.prog w = .ok (.enter 9 vs) w := by go_simp
theorem tms_two {w w' : World} {B g : Nat} {t u : Tm} {t0 t1 t2 p0 p1 p2 : Int} {T1 T2 P1 P2 : Option Addr} {a1 b1 a2 b2 c1 d1 c2 d2 : Nat} (ht : TmAt w B t (.agg #[.int .i64 t0, .int .i64 t1, .int .i64 t2, .slice T1 a1 b1, .slice T2 a2 b2])) (hu : TmAt w B u (.agg #[.int .i64 p0, .int .i64 p1, .int .i64 p2, .slice P1 c1 d1, .slice P2 c2 d2])) (hb : Below B w w') (hB : B ≤ w'.heap.size) (hg : w'.heap[g]? = some (.cells #[.int .i64 t0, .int .i64 t1, .int .i64 t2, .slice T1 a1 b1, .slice T2 a2 b2, .int .i64 p0, .int .i64 p1, .int .i64 p2, .slice P1 c1 d1, .slice P2 c2 d2] 27 (0, 0))) : Tms w' w'.heap.size (some ⟨g, 0, none⟩) 2 [t, u] := by
  have p : ∀ j, w'.cell? ⟨g, j, none⟩ = (#[.int .i64 t0, .int .i64 t1, .int .i64 t2, .slice T1 a1 b1, .slice T2 a2 b2, .int .i64 p0, .int .i64 p1, .int .i64 p2, .slice P1 c1 d1, .slice P2 c2 d2] : Array Value)[j]? := fun j => cell_of_row _ _ j _ _ (0, 0) hg
  exact ⟨fun h => (by cases h), fun _ => ⟨g, 0, rfl, heap_some_lt hg, TmsAt.of fun i x hi => by
    match i, hi with
    | 0, hi => injection hi with hi; subst hi; exact ⟨_, ⟨_, _, _, _, _, rfl, p 0, p 1, p 2, p 3, p 4⟩, ht.below hb hB⟩
    | 1, hi => injection hi with hi; subst hi; exact ⟨_, ⟨_, _, _, _, _, rfl, p 5, p 6, p 7, p 8, p 9⟩, hu.below hb hB⟩⟩⟩
end Go.Proofs.YtfgnnbpbbnnnhaaDoor
