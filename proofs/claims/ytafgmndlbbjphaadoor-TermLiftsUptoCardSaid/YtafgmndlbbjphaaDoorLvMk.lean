/- What level's Num and Var answer, and gather by the plain normal form; of numbers from 0 to 2^20. -/
import Derived.Test.YtafgmndlbbjphaaDoorLvNf
namespace Go.Proofs.YtafgmndlbbjphaaDoor
open Go.RowKit Go.Maps

def LvlPost (w : World) (qs : List (Int × Int)) (e : Ending) (w' : World) : Prop :=
  ∃ v, e = .returned (.agg #[v]) ∧ w'.ownsRow w.heap.size 71 2 v qs.length (cells qs) ∧ Below w.heap.size w w'

theorem gather_nf (A : Option Addr) (ps : List (Int × Int)) (c : Nat) (w : World) (hm : Few ps.length) (h : Lev w w.heap.size A ps) (hc : A = none → c = 0) (hok : ∀ p ∈ ps, okPart p) :
    Calls Tryd.prog 41 #[.slice A ps.length c] w (LvlPost w (nf ps)) :=
  (gather_ok A ps c w hm h hc hok).mono fun _ _ ⟨v, _, he, hq, hrow, hb⟩ => by
    obtain rfl := level_nf (fun p hp => (hok p hp).1) hq
    exact ⟨v, he, hrow, hb⟩

/-- What a value is, reckoned. -/
def valS (ps : List (Int × Int)) (ns : List Int) : Int := (nf ps).foldl (fun x p => max x (numS ns p.1 + p.2)) 0
theorem fold_max (ns : List Int) : ∀ (l : List (Int × Int)) (x : Int), (∀ p ∈ l, numS ns p.1 + p.2 ≤ l.foldl (fun x p => max x (numS ns p.1 + p.2)) x) ∧ x ≤ l.foldl (fun x p => max x (numS ns p.1 + p.2)) x ∧
    (l.foldl (fun x p => max x (numS ns p.1 + p.2)) x = x ∨ ∃ p ∈ l, l.foldl (fun x p => max x (numS ns p.1 + p.2)) x = numS ns p.1 + p.2)
  | [], x => by simp
  | q :: l, x => by
    obtain ⟨h1, h2, h3⟩ := fold_max ns l (max x (numS ns q.1 + q.2))
    simp only [List.foldl_cons]
    refine ⟨fun p hp => ?_, by omega, ?_⟩
    · rw [List.mem_cons] at hp
      rcases hp with rfl | hp
      · omega
      · exact h1 p hp
    · rcases h3 with h3 | ⟨p, hp, h3⟩
      · by_cases e : x ≤ numS ns q.1 + q.2
        · exact Or.inr ⟨q, by simp, by omega⟩
        · exact Or.inl (by omega)
      · exact Or.inr ⟨p, by simp [hp], h3⟩
theorem valS_spec {ps : List (Int × Int)} {ns : List Int} (h0 : ∀ p ∈ ps, 0 ≤ p.1) : IsVal (mapOf ps) ns (valS ps ns) := by
  obtain ⟨h1, h2, h3⟩ := fold_max ns (nf ps) 0
  refine ⟨h2, fun k v hk => h1 (k, v) (((nf_level h0).2 (k, v)).2 hk), h3.imp id (fun ⟨p, hp, h⟩ => ⟨p.1, p.2, ((nf_level h0).2 p).1 hp, h⟩)⟩
theorem val_uniq {m : Int → Option Int} {ns : List Int} {x y : Int} (hx : IsVal m ns x) (hy : IsVal m ns y) : x = y := by
  obtain ⟨x0, x1, x2⟩ := hx
  obtain ⟨y0, y1, y2⟩ := hy
  rcases x2 with rfl | ⟨k, v, hk, rfl⟩
  · rcases y2 with rfl | ⟨j, u, hj, rfl⟩
    · rfl
    · have := x1 j u hj; omega
  · have h1 := y1 k v hk
    rcases y2 with rfl | ⟨j, u, hj, rfl⟩
    · omega
    · have := x1 j u hj; omega

def NumPost (w : World) (x : Int) (e : Ending) (w' : World) : Prop := e = .returned (.int .i64 x) ∧ Below w.heap.size w w'



end Go.Proofs.YtafgmndlbbjphaaDoor
