/- Laws. -/
import Derived.Test.YtkijhinhjnbnlaaDoorPpae
import Derived.Test.YtkijhinhjnbnlaaDoorPpaf
import Derived.Test.YtkijhinhjnbnlaaDoorPpag
import Derived.Maps.AppendAt
namespace Go.Proofs.YtkijhinhjnbnlaaDoor
open Go
end Go.Proofs.YtkijhinhjnbnlaaDoor
namespace Go.Proofs.YtkijhinhjnbnlaaDoor
open Go.RowKit Go.Maps
theorem tmsAt_of_cells {w : World} {g : Nat} {cur : Array Value} {fr : Nat × Nat} (h : w.heap[g]? = some (.cells cur 27 fr)) {ts : List Tm} {zs : List Value} (hz : ∀ (j : Nat) (v : Value), zs[j]? = some v → cur[j]? = some v)
    (each : ∀ (i : Nat) (t : Tm), ts[i]? = some t → ∃ c0 c1 c2 c3 c4, zs[i * 5]? = some c0 ∧ zs[i * 5 + 1]? = some c1 ∧ zs[i * 5 + 2]? = some c2 ∧ zs[i * 5 + 3]? = some c3 ∧ zs[i * 5 + 4]? = some c4 ∧ TmAt w w.heap.size t (.agg #[c0, c1, c2, c3, c4])) : TmsAt w w.heap.size g 0 ts :=
  TmsAt.of fun i t hi => by
    obtain ⟨c0, c1, c2, c3, c4, q0, q1, q2, q3, q4, q5⟩ := each i t hi
    refine ⟨_, Five.of h (o := 0 + i * 5) ⟨?_, ?_, ?_, ?_, ?_⟩, q5⟩ <;> rw [Nat.zero_add]
    · exact hz _ _ q0
    · exact hz _ _ q1
    · exact hz _ _ q2
    · exact hz _ _ q3
    · exact hz _ _ q4
/-- a row just made, with no spare room -/
def TmsFull (ts : List Tm) (x : Value) (w : World) : Prop := ∃ g cur, x = .slice (some ⟨g, 0, none⟩) ts.length ts.length ∧ w.heap[g]? = some (.cells cur 27 (0, 0)) ∧ cur.size = ts.length * 5 ∧ TmsAt w w.heap.size g 0 ts
theorem TmsFull.mono {ts : List Tm} {x : Value} {w w' : World} (h : TmsFull ts x w) (hR : Below w.heap.size w w') : TmsFull ts x w' := by
  obtain ⟨g, cur, h1, h2, h3, h4⟩ := h
  have hg := heap_some_lt h2
  refine ⟨g, cur, h1, (hR.block g hg).trans h2, h3, TmsAt.of fun i t hi => ?_⟩
  obtain ⟨v, q1, q2⟩ := h4.get i t hi
  exact ⟨v, q1.keep fun j => hR.cell (p := ⟨g, j, none⟩) hg, q2.below hR hR.size⟩
theorem TmsFull.row {ts : List Tm} {x : Value} {w : World} (h : TmsFull ts x w) : TmsV ts x w := by
  obtain ⟨g, cur, h1, h2, h3, h4⟩ := h
  exact ⟨_, _, h1, (fun e => by cases e), fun _ => ⟨g, 0, rfl, heap_some_lt h2, h4⟩⟩
theorem full_alloc {ts : List Tm} {w : World} {cs : Array Value} (hs : cs.size = ts.length * 5)
    (each : ∀ (i : Nat) (t : Tm), ts[i]? = some t → ∃ c0 c1 c2 c3 c4, cs[i * 5]? = some c0 ∧ cs[i * 5 + 1]? = some c1 ∧ cs[i * 5 + 2]? = some c2 ∧ cs[i * 5 + 3]? = some c3 ∧ cs[i * 5 + 4]? = some c4 ∧ TmAt w w.heap.size t (.agg #[c0, c1, c2, c3, c4])) :
    TmsFull ts (.slice (some ⟨w.heap.size, 0, none⟩) ts.length ts.length) (w.alloc (.cells cs 27)) := by
  have hb : Below w.heap.size w (w.alloc (.cells cs 27)) := (Below.refl _ _).alloc (Nat.le_refl _) _
  refine ⟨_, cs, rfl, heap_alloc_new w _, hs, tmsAt_of_cells (heap_alloc_new w _) (zs := cs.toList) (fun j v h => by simpa using h) fun i t hi => ?_⟩
  obtain ⟨c0, c1, c2, c3, c4, q0, q1, q2, q3, q4, q5⟩ := each i t hi
  exact ⟨c0, c1, c2, c3, c4, by simpa using q0, by simpa using q1, by simpa using q2, by simpa using q3, by simpa using q4, q5.below hb hb.size⟩
theorem full_two {t u : Tm} {c0 c1 c2 c3 c4 d0 d1 d2 d3 d4 : Value} {w : World} (h : TmAt w w.heap.size t (.agg #[c0, c1, c2, c3, c4])) (h' : TmAt w w.heap.size u (.agg #[d0, d1, d2, d3, d4])) : TmsFull [t, u] (.slice (some ⟨w.heap.size, 0, none⟩) 2 2) (w.alloc (.cells #[c0, c1, c2, c3, c4, d0, d1, d2, d3, d4] 27)) :=
  full_alloc (ts := [t, u]) rfl fun i s hi => by
    match i, hi with
    | 0, hi => injection hi with hi; subst hi; exact ⟨_, _, _, _, _, rfl, rfl, rfl, rfl, rfl, h⟩
    | 1, hi => injection hi with hi; subst hi; exact ⟨_, _, _, _, _, rfl, rfl, rfl, rfl, rfl, h'⟩
section
variable {P : Program} {S : World → Prop} {R : World → World → Prop} {o : Oper} {V : Value → World → Prop} {g : Option (Option Tmp × Bool)} {a : Act} {w w' : World}
end
end Go.Proofs.YtkijhinhjnbnlaaDoor
namespace Go.Proofs.YtkijhinhjnbnlaaDoor
open Go.RowKit Go.Maps
theorem Tm.sizeL_le_countL : ∀ ts : List Tm, (∀ t ∈ ts, t.size ≤ t.count) → Tm.sizeL ts ≤ Tm.countL ts
  | [], _ => by simp [Tm.sizeL]
  | t :: ts, h => by
    have h1 := h t (by simp)
    have h2 := Tm.sizeL_le_countL ts fun s hs => h s (by simp [hs])
    simp only [Tm.sizeL, Tm.countL]
    omega
theorem Tm.size_le_count : ∀ t : Tm, t.size ≤ t.count := by
  intro t
  induction t using Tm.ind with
  | h k n a lv kids ih =>
    have := Tm.sizeL_le_countL kids ih
    rw [Tm.size_mk, Tm.count_mk]
    omega
set_option maxRecDepth 100000 in
theorem load_tm5 {b : Nat} {w : World} {c0 c1 c2 c3 c4 : Value} (h0 : w.cell? ⟨b, 0, none⟩ = some c0) (h1 : w.cell? ⟨b, 1, none⟩ = some c1) (h2 : w.cell? ⟨b, 2, none⟩ = some c2) (h3 : w.cell? ⟨b, 3, none⟩ = some c3) (h4 : w.cell? ⟨b, 4, none⟩ = some c4) :
    (Instr.loadAt 27 (.pointer (some ⟨b, 0, none⟩))).run Tryd.prog w = .ok (.agg #[c0, c1, c2, c3, c4]) w := by go_simp
theorem load_box {b : Nat} {w w' : World} {c0 c1 c2 c3 c4 : Value} (h : w.heap[b]? = some (.cells #[c0, c1, c2, c3, c4] 27 (0, 0))) (hb : Below w.heap.size w w') : (Instr.loadAt 27 (.pointer (some ⟨b, 0, none⟩))).run Tryd.prog w' = .ok (.agg #[c0, c1, c2, c3, c4]) w' := by
  have h' := (hb.block b (heap_some_lt h)).trans h
  exact load_tm5 (cell_of_row _ _ 0 _ _ (0, 0) h') (cell_of_row _ _ 1 _ _ (0, 0) h') (cell_of_row _ _ 2 _ _ (0, 0) h') (cell_of_row _ _ 3 _ _ (0, 0) h') (cell_of_row _ _ 4 _ _ (0, 0) h')
end Go.Proofs.YtkijhinhjnbnlaaDoor
