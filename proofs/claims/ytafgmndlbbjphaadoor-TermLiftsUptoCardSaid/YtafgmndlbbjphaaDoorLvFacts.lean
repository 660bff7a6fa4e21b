/- What the greatest, the successor and the putting of small levels are, by their values. -/
import Derived.Test.YtafgmndlbbjphaaDoorLvVals
import Derived.Test.YtafgmndlbbjphaaDoorLvRuns
namespace Go.Proofs.YtafgmndlbbjphaaDoor
open Go.RowKit Go.Maps

theorem okSmall.up {p : Int × Int} (h : okSmall p) : okUp p := ⟨h.ok, by have := h.2.2.2; omega⟩
theorem fn_zero : Fn (fun _ => 0) := ⟨rfl, fun _ => Int.le_refl _⟩
theorem flat_two (a b : List (Int × Int)) : flat [a, b] = a ++ b := by simp [flat]
theorem nn_app {a b : List (Int × Int)} (ha : Nn a) (hb : Nn b) : Nn (a ++ b) := fun p hp => by
  rcases List.mem_append.1 hp with h | h
  · exact ha p h
  · exact hb p h
theorem valF_two {a b : List (Int × Int)} (ha : Nn a) (hb : Nn b) {f : Int → Int} (hf : Fn f) : valF (nf (flat [a, b])) f = max (valF a f) (valF b f) := by
  rw [flat_two, valF_nf (nn_app ha hb) hf, valF_app]
theorem two_mem {a b : List (Int × Int)} (ha : Nn a) (hb : Nn b) {p : Int × Int} (hp : p ∈ nf (flat [a, b])) : p ∈ a ∨ p ∈ b := by
  rw [flat_two] at hp
  exact List.mem_append.1 (nf_mem (nn_app ha hb).fst hp)
theorem two_len {a b : List (Int × Int)} (ha : Nn a) (hb : Nn b) : (nf (flat [a, b])).length ≤ a.length + b.length := by
  rw [flat_two, ← List.length_append]
  exact nf_len (nn_app ha hb).fst
theorem leq_two_l {a b : List (Int × Int)} (ha : Nn a) (hb : Nn b) : LeqS a (nf (flat [a, b])) := by
  refine (leq_vals ha ?_).2 fun f hf => by rw [valF_two ha hb hf]; omega
  rw [flat_two]; exact (nn_app ha hb).nf
theorem leq_two_r {a b : List (Int × Int)} (ha : Nn a) (hb : Nn b) : LeqS b (nf (flat [a, b])) := by
  refine (leq_vals hb ?_).2 fun f hf => by rw [valF_two ha hb hf]; omega
  rw [flat_two]; exact (nn_app ha hb).nf
theorem leq_two_le {a b c : List (Int × Int)} (ha : Nn a) (hb : Nn b) (hc : Nn c) (h1 : LeqS a c) (h2 : LeqS b c) : LeqS (nf (flat [a, b])) c := by
  refine (leq_vals ?_ hc).2 fun f hf => by
    rw [valF_two ha hb hf]
    have := (leq_vals ha hc).1 h1 f hf
    have := (leq_vals hb hc).1 h2 f hf
    omega
  rw [flat_two]; exact (nn_app ha hb).nf
theorem leq_succ {a : List (Int × Int)} (ha : Nn a) : LeqS a (succS a) := (leq_vals ha (nn_succ ha)).2 fun f hf => by rw [valF_succ ha hf]; omega
theorem not_succ_leq {a : List (Int × Int)} (ha : Nn a) : ¬ LeqS (succS a) a := fun h => by
  have := (leq_vals (nn_succ ha) ha).1 h _ fn_zero
  rw [valF_succ ha fn_zero] at this
  omega
theorem succ_ok {a : List (Int × Int)} (h : ∀ p ∈ a, okUp p) : (∀ p ∈ succS a, okPart p) ∧ (succS a).length ≤ a.length + 1 := by
  have h0 : ∀ p ∈ a, 0 ≤ p.1 := fun p hp => (h p hp).1.1
  have hup : ∀ p ∈ (nf a).map up1, okPart p := fun p hp => by
    obtain ⟨q, hq, rfl⟩ := List.mem_map.1 hp
    exact (h q (nf_mem h0 hq)).up
  unfold succS
  split
  · have h1 : ∀ p ∈ ([(0, 1)] : List (Int × Int)), okPart p := fun p hp => by simp at hp; subst hp; unfold okPart; omega
    refine ⟨fun p hp => h1 p (nf_mem (fun p hp => (h1 p hp).1) hp), ?_⟩
    have := nf_len (fun p hp => (h1 p hp).1)
    simp at this ⊢
    omega
  · refine ⟨fun p hp => hup p (nf_mem (fun p hp => (hup p hp).1) hp), ?_⟩
    have h2 := nf_len (fun p hp => (hup p hp).1)
    have h3 := nf_len h0
    rw [List.length_map] at h2
    omega
theorem forVar_small {bys : List (List (Int × Int))} (h : ∀ b ∈ bys, ∀ p ∈ b, okSmall p) (v : Int) : ∀ p ∈ forVar bys v, okSmall p := fun p hp => by
  unfold forVar at hp
  split at hp
  · rename_i hv
    have hlt : (v - 1).toNat < bys.length := by omega
    have hb : bys.getD (v - 1).toNat [] ∈ bys := by
      rw [List.getD_eq_getElem?_getD, List.getElem?_eq_getElem hlt]
      exact List.getElem_mem hlt
    have hok : ∀ p ∈ bys.getD (v - 1).toNat [], okPart p := fun p hp => (h _ hb p hp).ok
    unfold nfA at hp
    rw [if_pos hok] at hp
    exact h _ hb p (nf_mem (fun p hp => (hok p hp).1) hp)
  · simp at hp
theorem putS_ok {qs : List (Int × Int)} {bys : List (List (Int × Int))} (hq : ∀ p ∈ qs, okSmall p) (h : ∀ b ∈ bys, ∀ p ∈ b, okSmall p) : ∀ p ∈ putS qs bys, okPart p := fun p hp => by
  unfold putS at hp
  obtain ⟨l, hl, hpl⟩ := List.mem_flatten.1 hp
  obtain ⟨q, hqm, rfl⟩ := List.mem_map.1 hl
  have hqs := hq q hqm
  unfold raiseS at hpl
  split at hpl
  · simp at hpl
    subst hpl
    unfold okSmall at hqs
    unfold okPart
    simp only
    omega
  · obtain ⟨r, hr, rfl⟩ := List.mem_map.1 hpl
    have := forVar_small h q.1 r hr
    unfold okSmall at this hqs
    unfold okPart upD
    simp only
    omega
/-- the putting of small levels: what it is, by its values -/
theorem put_vals {ps : List (Int × Int)} {bys : List (List (Int × Int))} (hp : ∀ p ∈ ps, okSmall p) (h : ∀ b ∈ bys, ∀ p ∈ b, okSmall p) :
    (∀ p ∈ nfA (putS (nfA ps) bys), okPart p) ∧ ∀ f, Fn f → valF (nfA (putS (nfA ps) bys)) f = valF ps (sub bys f) := by
  have hok : ∀ p ∈ ps, okPart p := fun p hp' => (hp p hp').ok
  have hn : Nn ps := nn_ok hok
  refine ⟨nfA_ok _, fun f hf => ?_⟩
  have e1 : nfA ps = nf ps := if_pos hok
  rw [e1]
  have hsm : ∀ p ∈ nf ps, okSmall p := fun p hp' => hp p (nf_mem hn.fst hp')
  have e2 : nfA (putS (nf ps) bys) = nf (putS (nf ps) bys) := if_pos (putS_ok hsm h)
  rw [e2, valF_nf (nn_put hn.nf bys) hf, valF_put hn.nf bys hf, valF_nf hn (fn_sub bys f)]
theorem put_len {ps : List (Int × Int)} {bys : List (List (Int × Int))} (h9 : ∀ b ∈ bys, b.length ≤ 1048576) : (nfA (putS (nfA ps) bys)).length ≤ ps.length * 1048576 :=
  Nat.le_trans (nfA_len _) (Nat.le_trans (putS_len h9 _) (Nat.mul_le_mul_right _ (nfA_len _)))
theorem leq_put {a b : List (Int × Int)} {bys : List (List (Int × Int))} (ha : ∀ p ∈ a, okSmall p) (hb : ∀ p ∈ b, okSmall p) (h : ∀ l ∈ bys, ∀ p ∈ l, okSmall p) (hl : LeqS a b) :
    LeqS (nfA (putS (nfA a) bys)) (nfA (putS (nfA b) bys)) := by
  obtain ⟨h1, h2⟩ := put_vals ha h
  obtain ⟨h3, h4⟩ := put_vals hb h
  refine (leq_vals (nn_ok h1) (nn_ok h3)).2 fun f hf => ?_
  rw [h2 f hf, h4 f hf]
  exact (leq_vals (nn_ok fun p hp => (ha p hp).ok) (nn_ok fun p hp => (hb p hp).ok)).1 hl _ (fn_sub bys f)
theorem put_two {a b : List (Int × Int)} {bys : List (List (Int × Int))} (ha : ∀ p ∈ a, okSmall p) (hb : ∀ p ∈ b, okSmall p) (h : ∀ l ∈ bys, ∀ p ∈ l, okSmall p) :
    SameS (nfA (putS (nfA (nf (flat [a, b]))) bys)) (nf (flat [nfA (putS (nfA a) bys), nfA (putS (nfA b) bys)])) := by
  obtain ⟨h1, h2⟩ := put_vals ha h
  obtain ⟨h3, h4⟩ := put_vals hb h
  have na : Nn a := nn_ok fun p hp => (ha p hp).ok
  have nb : Nn b := nn_ok fun p hp => (hb p hp).ok
  have hm : ∀ p ∈ nf (flat [a, b]), okSmall p := fun p hp => by
    rcases two_mem na nb hp with h | h
    · exact ha p h
    · exact hb p h
  obtain ⟨h5, h6⟩ := put_vals hm h
  have n6 : Nn (nf (flat [nfA (putS (nfA a) bys), nfA (putS (nfA b) bys)])) := by
    rw [flat_two]
    exact (nn_app (nn_ok h1) (nn_ok h3)).nf
  have hv : ∀ f, Fn f → valF (nfA (putS (nfA (nf (flat [a, b]))) bys)) f = valF (nf (flat [nfA (putS (nfA a) bys), nfA (putS (nfA b) bys)])) f := fun f hf => by
    rw [h6 f hf, valF_two na nb (fn_sub bys f), valF_two (nn_ok h1) (nn_ok h3) hf, h2 f hf, h4 f hf]
  exact (same_both (nn_ok h5) n6).2 ⟨(leq_vals (nn_ok h5) n6).2 fun f hf => by rw [hv f hf]; omega, (leq_vals n6 (nn_ok h5)).2 fun f hf => by rw [hv f hf]; omega⟩
theorem valS_two {a b : List (Int × Int)} (ha : Nn a) (hb : Nn b) (ns : List Int) : valS (nf (flat [a, b])) ns = max (valS a ns) (valS b ns) := by
  have n6 : Nn (nf (flat [a, b])) := by rw [flat_two]; exact (nn_app ha hb).nf
  rw [valS_F n6, valS_F ha, valS_F hb, valF_two ha hb (fn_num ns)]

/-- x is the address of a block of one cell that was made from B on, as it was made. -/
def NewBox (B : Nat) (z : Value) (t : TypeId) (x : Value) (w : World) : Prop := ∃ g, x = .pointer (some ⟨g, 0, none⟩) ∧ B ≤ g ∧ w.heap[g]? = some (.cells #[z] t (0, 0))
theorem heap_some_lt {w : World} {g : Nat} {o : Obj} (h : w.heap[g]? = some o) : g < w.heap.size := (Array.getElem?_eq_some_iff.1 h).1
theorem NewBox.mono {B : Nat} {z : Value} {t : TypeId} {x : Value} {w w' : World} (h : NewBox B z t x w) (hR : Below w.heap.size w w') : NewBox B z t x w' := by
  obtain ⟨g, h1, h2, h3⟩ := h
  exact ⟨g, h1, h2, (hR.block g (heap_some_lt h3)).trans h3⟩
theorem NewBox.lt {B : Nat} {z : Value} {t : TypeId} {x : Value} {w : World} (h : NewBox B z t x w) : ∃ g, x = .pointer (some ⟨g, 0, none⟩) ∧ g < w.heap.size := by
  obtain ⟨g, h1, h2, h3⟩ := h
  exact ⟨g, h1, heap_some_lt h3⟩
theorem NewBox.made {B : Nat} {z : Value} {t : TypeId} {w : World} (hB : B ≤ w.heap.size) : NewBox B z t (.pointer (some ⟨w.heap.size, 0, none⟩)) (w.alloc (.cells #[z] t)) := ⟨_, rfl, hB, heap_alloc_new w _⟩
/-- x is a level whose parts were made from B on -/
def NewLev (B : Nat) (n : Nat) (ps : List (Int × Int)) (x : Value) (w : World) : Prop := ∃ A c, x = .agg #[.slice A n c] ∧ n = ps.length ∧ w.ownsRow B 71 2 (.slice A n c) n (cells ps)
theorem NewLev.mono {B n : Nat} {ps : List (Int × Int)} {x : Value} {w w' : World} (h : NewLev B n ps x w) (hR : Below w.heap.size w w') : NewLev B n ps x w' := by
  obtain ⟨A, c, h1, h2, h3⟩ := h
  exact ⟨A, c, h1, h2, h3.1, h3.2.imp id fun ⟨g, cap, cur, q1, q2, q3, q4⟩ => ⟨g, cap, cur, q1, q2, (hR.block g (heap_some_lt q3)).trans q3, q4⟩⟩
/-- a store into another type's block leaves a row -/
theorem row_set {w : World} {B : Nat} {e t : TypeId} {s n : Nat} {v u : Value} {xs : List Value} {g : Nat} {cs : Array Value} {fr : Nat × Nat} (h : w.ownsRow B e s v n xs) (hg : w.heap[g]? = some (.cells cs t fr)) (hne : t ≠ e) : (w.setCell ⟨g, 0, none⟩ u).ownsRow B e s v n xs :=
  ⟨h.1, h.2.imp id fun ⟨g', cap, cur, q1, q2, q3, q4⟩ => ⟨g', cap, cur, q1, q2, (Below.heap_setCell w _ u g' (fun e' => by
    subst e'
    rw [hg] at q3
    injection q3 with q3
    injection q3 with _ q3
    exact hne q3)).trans q3, q4⟩⟩
theorem lvAt_row {w : World} {B : Nat} {A : Option Addr} {n c : Nat} {ps : List (Int × Int)} (hn : n = ps.length) (h : w.ownsRow B 71 2 (.slice A n c) n (cells ps)) : Lev w w.heap.size A ps ∧ (A = none → c = 0) := by
  subst hn
  exact (own_lev h).2
set_option maxRecDepth 100000 in
theorem alloc_level (w : World) : (Instr.alloc 56 true (.tuple #[])).run Tryd.prog w = .ok (.pointer (some ⟨w.heap.size, 0, none⟩)) (w.alloc (.cells #[.slice none 0 0] 56)) := by
  go_simp

theorem ints_two (w : World) (x y : Int) (t : TypeId) : Ints (w.alloc (.cells #[.int .i64 x, .int .i64 y] t)) (w.alloc (.cells #[.int .i64 x, .int .i64 y] t)).heap.size (some ⟨w.heap.size, 0, none⟩) [x, y] := fun _ =>
  ⟨_, _, rfl, by simp, fun i hi => by
    have hr := heap_alloc_new w (.cells #[.int .i64 x, .int .i64 y] t)
    have hi2 : i < 2 := by simpa using hi
    rcases (show i = 0 ∨ i = 1 by omega) with rfl | rfl
    · exact cell_of_row _ _ 0 _ _ (0, 0) hr
    · exact cell_of_row _ _ 1 _ _ (0, 0) hr⟩

/-- The world grew, and these boxes hold these values. -/
def BoxL (W : World) (cs : List (Nat × Value)) (w' : World) : Prop := Below W.heap.size W w' ∧ ∀ p ∈ cs, w'.cell? ⟨p.1, 0, none⟩ = some p.2
theorem BoxL.step {W w' w2 : World} {cs : List (Nat × Value)} (hx : BoxL W cs w') (hb : Below w'.heap.size w' w2) : BoxL W cs w2 :=
  ⟨hx.1.trans (hb.mono hx.1.size), fun p hp => (hb.cell (cell_lt (hx.2 p hp))).trans (hx.2 p hp)⟩
theorem BoxL.drew {W : World} {cs : List (Nat × Value)} (h : ∀ p ∈ cs, W.cell? ⟨p.1, 0, none⟩ = some p.2) : BoxL W cs W.drew := ⟨(Below.refl _ _).drew, h⟩

section
variable {P : Program} {S : World → Prop} {R : World → World → Prop} {o : Oper} {V : Value → World → Prop} {g : Option (Option Tmp × Bool)} {a : Act} {w w' : World}
theorem StepFrom.slice {t : TypeId} {n : Nat} {ps : List (Nat × Operand)} (hop : o.op = .buildSlice t n ps.toArray) {vs : List (Nat × Value)} (hx : ps.map (fun p => (p.1, a.eval p.2)) = vs) {v : Value}
    (hrun : (Instr.buildSlice t n vs.toArray).run P w = .ok v w') (hg : gOn g a = true) (hS : S w') (hR : R w w') (hV : V v w') : StepFrom P S R o V g [] a w :=
  StepFrom.made (v := v) (w' := w') (by
    have e : (ps.toArray.map fun x => (x.1, a.eval x.2)) = vs.toArray := by rw [List.map_toArray, hx]
    unfold execOp
    simp only [hop, e]
    simp only [Sem.run_bind, hrun]
    rfl) hg hS hR hV
set_option maxRecDepth 100000 in
theorem StepFrom.max2 {x y : Operand} {ats : Array TypeId} (hop : o.op = .call { callee := .builtin .max, args := #[x, y], argTypes := ats }) {m n : Int} (hx : a.eval x = .int .i64 m) (hy : a.eval y = .int .i64 n)
    (hg : gOn g a = true) (hS : S w) (hR : R w w) (hV : V (.int .i64 (max m n)) w) : StepFrom Tryd.prog S R o V g [] a w :=
  StepFrom.ran (v := .int .i64 (max m n)) (by
    have hm : (#[x, y] : Array Operand).map a.eval = #[.int .i64 m, .int .i64 n] := by rw [List.map_toArray, List.map_cons, List.map_cons, List.map_nil, hx, hy]
    unfold execOp
    simp only [hop, resolve, hm]
    simp [go_sem]) hg hS hR hV
set_option maxRecDepth 100000 in
theorem slice_levels {w : World} (A B : Option Addr) (n m c d : Nat) : (Instr.buildSlice 23 2 [(0, Value.agg #[.slice A n c]), (1, Value.agg #[.slice B m d])].toArray).run Tryd.prog w = .ok (.slice (some ⟨w.heap.size, 0, none⟩) 2 2) (w.alloc (.cells #[.slice A n c, .slice B m d] 56)) := by
  go_simp
set_option maxRecDepth 100000 in
theorem slice_ints {w : World} (x y : Int) : (Instr.buildSlice 98 2 [(0, Value.int .i64 x), (1, Value.int .i64 y)].toArray).run Tryd.prog w = .ok (.slice (some ⟨w.heap.size, 0, none⟩) 2 2) (w.alloc (.cells #[.int .i64 x, .int .i64 y] 3)) := by
  go_simp
end
end Go.Proofs.YtafgmndlbbjphaaDoor
