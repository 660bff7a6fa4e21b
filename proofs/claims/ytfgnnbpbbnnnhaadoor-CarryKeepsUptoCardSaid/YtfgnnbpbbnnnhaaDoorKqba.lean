/- Laws. -/
import Derived.Test.YtfgnnbpbbnnnhaaDoorKqam
import Derived.Test.YtfgnnbpbbnnnhaaDoorKqap
import Derived.Test.YtfgnnbpbbnnnhaaDoorKqaw
import Derived.Great.BuildSlice
namespace Go.Proofs.YtfgnnbpbbnnnhaaDoor
open Go.RowKit Go.Maps
def zMem1 : Array Value := #[.slice none 0 0]
def zMem2 : Array Value := #[.slice none 0 0, .slice none 0 0]
def zCto1 : Array Value := #[.int .i64 0, .int .i64 0, .int .i64 0, .int .i64 0, .slice none 0 0, .slice none 0 0]
def zCto2 : Array Value := #[.int .i64 0, .int .i64 0, .int .i64 0, .int .i64 0, .slice none 0 0, .slice none 0 0, .int .i64 0, .int .i64 0, .int .i64 0, .int .i64 0, .slice none 0 0, .slice none 0 0]
def dcV (k : Int) (m c : Value) : Array Value := #[.int .i64 k, .int .i64 0, .int .i64 0, .int .i64 0, .int .i64 0, .slice none 0 0, .slice none 0 0, .int .i64 0, .int .i64 0, .int .i64 0, .slice none 0 0, .slice none 0 0, .slice none 0 0, .slice none 0 0, m, c]
def someC (a b c d : Nat) : Array Value := #[.int .i64 3, .int .i64 0, .int .i64 0, .int .i64 0, .int .i64 0, .slice none 0 0, .slice none 0 0, .int .i64 0, .int .i64 0, .int .i64 0, .slice none 0 0, .slice none 0 0, .slice none 0 0, .slice none 0 0, .slice (some ⟨a, 0, none⟩) 1 1, .slice (some ⟨b, 0, none⟩) 2 2, .int .i64 2, .int .i64 0, .int .i64 0, .int .i64 0, .int .i64 0, .slice none 0 0, .slice none 0 0, .int .i64 0, .int .i64 0, .int .i64 0, .slice none 0 0, .slice none 0 0, .slice none 0 0, .slice none 0 0, .slice none 0 0, .slice none 0 0, .int .i64 3, .int .i64 0, .int .i64 0, .int .i64 0, .int .i64 0, .slice none 0 0, .slice none 0 0, .int .i64 0, .int .i64 0, .int .i64 0, .slice none 0 0, .slice none 0 0, .slice none 0 0, .slice none 0 0, .slice (some ⟨c, 0, none⟩) 2 2, .slice (some ⟨d, 0, none⟩) 1 1, .int .i64 1, .int .i64 0, .int .i64 0, .int .i64 0, .int .i64 0, .slice none 0 0, .slice none 0 0, .int .i64 0, .int .i64 0, .int .i64 0, .slice none 0 0, .slice none 0 0, .slice none 0 0, .slice none 0 0, .slice none 0 0, .slice none 0 0, .int .i64 0, .int .i64 0, .int .i64 0, .int .i64 0, .int .i64 0, .slice none 0 0, .slice none 0 0, .int .i64 0, .int .i64 0, .int .i64 0, .slice none 0 0, .slice none 0 0, .slice none 0 0, .slice none 0 0, .slice none 0 0, .slice none 0 0]
theorem StepFrom.makeS {P : Program} {S : World → Prop} {R : World → World → Prop} {o : Oper} {V : Value → World → Prop} {g : Option (Option Tmp × Bool)} {a : Act} {w w' : World} {t : TypeId} {n m : Int} {v : Value} (hop : o.op = .makeSlice t (.const (.int .i64 n)) (.const (.int .i64 m)))
    (hrun : (Instr.makeSlice t (.int .i64 n) (.int .i64 m)).run P w = .ok v w') (hg : gOn g a = true) (hS : S w') (hR : R w w') (hV : V v w') : StepFrom P S R o V g [] a w :=
  StepFrom.made (v := v) (w' := w') (by
    unfold execOp
    simp only [hop]
    have e1 : a.eval (.const (.int .i64 n)) = .int .i64 n := rfl
    have e2 : a.eval (.const (.int .i64 m)) = .int .i64 m := rfl
    rw [e1, e2]
    simp only [Sem.run_bind, hrun]
    rfl) hg hS hR hV
set_option maxRecDepth 100000 in
theorem make_mem1 (w : World) : (Instr.makeSlice 40 (.int .i64 1) (.int .i64 1)).run Tryd.prog w = .ok (.slice (some ⟨w.heap.size, 0, none⟩) 1 1) (w.alloc (.cells zMem1 47)) := by kernel_rfl
set_option maxRecDepth 100000 in
theorem make_mem2 (w : World) : (Instr.makeSlice 40 (.int .i64 2) (.int .i64 2)).run Tryd.prog w = .ok (.slice (some ⟨w.heap.size, 0, none⟩) 2 2) (w.alloc (.cells zMem2 47)) := by kernel_rfl
set_option maxRecDepth 100000 in
theorem make_cto1 (w : World) : (Instr.makeSlice 41 (.int .i64 1) (.int .i64 1)).run Tryd.prog w = .ok (.slice (some ⟨w.heap.size, 0, none⟩) 1 1) (w.alloc (.cells zCto1 50)) := by kernel_rfl
set_option maxRecDepth 100000 in
theorem make_cto2 (w : World) : (Instr.makeSlice 41 (.int .i64 2) (.int .i64 2)).run Tryd.prog w = .ok (.slice (some ⟨w.heap.size, 0, none⟩) 2 2) (w.alloc (.cells zCto2 50)) := by kernel_rfl
set_option maxRecDepth 100000 in
theorem build_dc3 (A C : Option Addr) (n p m q : Nat) (w : World) : (Instr.build 43 [(0, Value.int .i64 3), (6, .slice A n p), (7, .slice C m q)].toArray).run Tryd.prog w = .ok (.agg (dcV 3 (.slice A n p) (.slice C m q))) w := run_build _ _ _ _ (by kernel_rfl)
set_option maxRecDepth 100000 in
theorem build_dc1 (k : Int) (w : World) : (Instr.build 43 [(0, Value.int .i64 k)].toArray).run Tryd.prog w = .ok (.agg (dcV k (.slice none 0 0) (.slice none 0 0))) w := run_build _ _ _ _ (by kernel_rfl)
set_option maxRecDepth 100000 in
theorem build_dc0 (w : World) : (Instr.build 43 ([] : List (Nat × Value)).toArray).run Tryd.prog w = .ok (.agg (dcV 0 (.slice none 0 0) (.slice none 0 0))) w := run_build _ _ _ _ (by kernel_rfl)
theorem infoDc9 : (Tryd.prog.info? 43).map (fun i => (i.zero, i.size, i.bytes)) = some (some (.agg zeroDc), 16, 256) := by kernel_rfl
set_option maxRecDepth 100000 in
theorem fill_some (a b c d : Nat) : Instr.fill (fun i => some (i * 16, 16)) ((Array.range (5 * 16)).map ((Value.agg zeroDc).cells[· % (Value.agg zeroDc).cells.size]!)) [(0, .agg (dcV 3 (.slice (some ⟨a, 0, none⟩) 1 1) (.slice (some ⟨b, 0, none⟩) 2 2))), (1, .agg (dcV 2 (.slice none 0 0) (.slice none 0 0))), (2, .agg (dcV 3 (.slice (some ⟨c, 0, none⟩) 2 2) (.slice (some ⟨d, 0, none⟩) 1 1))), (3, .agg (dcV 1 (.slice none 0 0) (.slice none 0 0))), (4, .agg (dcV 0 (.slice none 0 0) (.slice none 0 0)))] = some (someC a b c d) := by kernel_rfl
set_option maxRecDepth 100000 in
theorem build_some (a b c d : Nat) (w : World) : (Instr.buildSlice 22 5 [(0, Value.agg (dcV 3 (.slice (some ⟨a, 0, none⟩) 1 1) (.slice (some ⟨b, 0, none⟩) 2 2))), (1, .agg (dcV 2 (.slice none 0 0) (.slice none 0 0))), (2, .agg (dcV 3 (.slice (some ⟨c, 0, none⟩) 2 2) (.slice (some ⟨d, 0, none⟩) 1 1))), (3, .agg (dcV 1 (.slice none 0 0) (.slice none 0 0))), (4, .agg (dcV 0 (.slice none 0 0) (.slice none 0 0)))].toArray).run Tryd.prog w = .ok (.slice (some ⟨w.heap.size, 0, none⟩) 5 5) (w.alloc (.cells (someC a b c d) 43)) := by
  obtain ⟨i0, hi, hz0, hz1, hz2⟩ := info_parts infoDc9
  exact run_buildSlice w _ _ 5 _ _ i0 _ Tryd.underlying22 hi hz0 (by rw [hz1]; decide) (by rw [hz1]; decide) (by rw [hz1]; exact fill_some a b c d)
set_option maxRecDepth 100000 in
set_option maxHeartbeats 4000000 in
theorem some_any (w : World) : Calls Tryd.prog 47 #[] w (fun e w' => ∃ x, e = .returned x ∧ (∃ v a b c d, x = .slice (some ⟨v, 0, none⟩) 5 5 ∧ w'.heap[v]? = some (.cells (someC a b c d) 43 (0, 0)) ∧ w'.heap[a]? = some (.cells zMem1 47 (0, 0)) ∧ w'.heap[b]? = some (.cells zCto2 50 (0, 0)) ∧ w'.heap[c]? = some (.cells zMem2 47 (0, 0)) ∧ w'.heap[d]? = some (.cells zCto1 50 (0, 0))) ∧ Below w.heap.size w w') := by
  go_enter Tryd.func47, Tryd.ntmps47
  go_upto_region 1 with (fail)
  have hS : Below w.heap.size w w.drew := (Below.refl _ _).drew
  refine wp_region_tab (fun w' => Below w.heap.size w w') (fun w1 w2 : World => Below w1.heap.size w1 w2) [(fun (x : Value) (w : World) => ∃ g, x = .slice (some ⟨g, 0, none⟩) 1 1 ∧ w.heap[g]? = some (.cells zMem1 47 (0, 0))), (fun (x : Value) (w : World) => ∃ g, x = .slice (some ⟨g, 0, none⟩) 2 2 ∧ w.heap[g]? = some (.cells zCto2 50 (0, 0))), (fun (x : Value) (w : World) => ∃ g h, x = .agg (dcV 3 (.slice (some ⟨g, 0, none⟩) 1 1) (.slice (some ⟨h, 0, none⟩) 2 2)) ∧ w.heap[g]? = some (.cells zMem1 47 (0, 0)) ∧ w.heap[h]? = some (.cells zCto2 50 (0, 0))), (fun (x : Value) (_ : World) => x = (.agg (dcV 2 (.slice none 0 0) (.slice none 0 0)) : Value)), (fun (x : Value) (w : World) => ∃ g, x = .slice (some ⟨g, 0, none⟩) 2 2 ∧ w.heap[g]? = some (.cells zMem2 47 (0, 0))), (fun (x : Value) (w : World) => ∃ g, x = .slice (some ⟨g, 0, none⟩) 1 1 ∧ w.heap[g]? = some (.cells zCto1 50 (0, 0))), (fun (x : Value) (w : World) => ∃ g h, x = .agg (dcV 3 (.slice (some ⟨g, 0, none⟩) 2 2) (.slice (some ⟨h, 0, none⟩) 1 1)) ∧ w.heap[g]? = some (.cells zMem2 47 (0, 0)) ∧ w.heap[h]? = some (.cells zCto1 50 (0, 0))), (fun (x : Value) (_ : World) => x = (.agg (dcV 1 (.slice none 0 0) (.slice none 0 0)) : Value)), (fun (x : Value) (_ : World) => x = (.agg (dcV 0 (.slice none 0 0) (.slice none 0 0)) : Value)), (fun (x : Value) (w : World) => ∃ v a b c d, x = .slice (some ⟨v, 0, none⟩) 5 5 ∧ w.heap[v]? = some (.cells (someC a b c d) 43 (0, 0)) ∧ w.heap[a]? = some (.cells zMem1 47 (0, 0)) ∧ w.heap[b]? = some (.cells zCto2 50 (0, 0)) ∧ w.heap[c]? = some (.cells zMem2 47 (0, 0)) ∧ w.heap[d]? = some (.cells zCto1 50 (0, 0))), (fun (x : Value) (w : World) => ∃ v a b c d, x = .slice (some ⟨v, 0, none⟩) 5 5 ∧ w.heap[v]? = some (.cells (someC a b c d) 43 (0, 0)) ∧ w.heap[a]? = some (.cells zMem1 47 (0, 0)) ∧ w.heap[b]? = some (.cells zCto2 50 (0, 0)) ∧ w.heap[c]? = some (.cells zMem2 47 (0, 0)) ∧ w.heap[d]? = some (.cells zCto1 50 (0, 0)))] [⟨some 1, .makeSlice 40 (.const (.int .i64 1)) (.const (.int .i64 1)), none, []⟩, ⟨some 2, .makeSlice 41 (.const (.int .i64 2)) (.const (.int .i64 2)), none, []⟩, ⟨some 3, .build 43 #[(0, .const (.int .i64 3)), (6, .tmp 1), (7, .tmp 2)], none, [(1, 0), (2, 1)]⟩, ⟨some 4, .build 43 #[(0, .const (.int .i64 2))], none, []⟩, ⟨some 5, .makeSlice 40 (.const (.int .i64 2)) (.const (.int .i64 2)), none, []⟩, ⟨some 6, .makeSlice 41 (.const (.int .i64 1)) (.const (.int .i64 1)), none, []⟩, ⟨some 7, .build 43 #[(0, .const (.int .i64 3)), (6, .tmp 5), (7, .tmp 6)], none, [(5, 4), (6, 5)]⟩, ⟨some 8, .build 43 #[(0, .const (.int .i64 1))], none, []⟩, ⟨some 9, .build 43 #[], none, []⟩, ⟨some 10, .buildSlice 22 5 #[(0, .tmp 3), (1, .tmp 4), (2, .tmp 7), (3, .tmp 8), (4, .tmp 9)], none, [(3, 2), (4, 3), (7, 6), (8, 7), (9, 8)]⟩, ⟨some 0, .assign (.tmp 10), none, [(10, 9)]⟩] [some 1, some 2, some 3, some 4, some 5, some 6, some 7, some 8, some 9, some 10, some 0] (by kernel_rfl) (by kernel_rfl) (by kernel_rfl) (by kernel_rfl) (by kernel_rfl) ?hS ?hmono ?hsteps ?hfin
  case hS => exact hS
  case hmono =>
    refine MonoL.cons (fun x w1 w2 _ _ hR hx => ?_) ?_
    · obtain ⟨g, h1, h2⟩ := hx; exact ⟨g, h1, (hR.block g (heap_some_lt h2)).trans h2⟩
    refine MonoL.cons (fun x w1 w2 _ _ hR hx => ?_) ?_
    · obtain ⟨g, h1, h2⟩ := hx; exact ⟨g, h1, (hR.block g (heap_some_lt h2)).trans h2⟩
    refine MonoL.cons (fun x w1 w2 _ _ hR hx => ?_) ?_
    · obtain ⟨g, h, h1, h2, h3⟩ := hx; exact ⟨g, h, h1, (hR.block g (heap_some_lt h2)).trans h2, (hR.block h (heap_some_lt h3)).trans h3⟩
    refine MonoL.cons (fun x w1 w2 _ _ _ hx => hx) ?_
    refine MonoL.cons (fun x w1 w2 _ _ hR hx => ?_) ?_
    · obtain ⟨g, h1, h2⟩ := hx; exact ⟨g, h1, (hR.block g (heap_some_lt h2)).trans h2⟩
    refine MonoL.cons (fun x w1 w2 _ _ hR hx => ?_) ?_
    · obtain ⟨g, h1, h2⟩ := hx; exact ⟨g, h1, (hR.block g (heap_some_lt h2)).trans h2⟩
    refine MonoL.cons (fun x w1 w2 _ _ hR hx => ?_) ?_
    · obtain ⟨g, h, h1, h2, h3⟩ := hx; exact ⟨g, h, h1, (hR.block g (heap_some_lt h2)).trans h2, (hR.block h (heap_some_lt h3)).trans h3⟩
    refine MonoL.cons (fun x w1 w2 _ _ _ hx => hx) ?_
    refine MonoL.cons (fun x w1 w2 _ _ _ hx => hx) ?_
    refine MonoL.cons (fun x w1 w2 _ _ hR hx => ?_) ?_
    · obtain ⟨v, a, b, c, d, h1, h2, h3, h4, h5, h6⟩ := hx; exact ⟨v, a, b, c, d, h1, (hR.block v (heap_some_lt h2)).trans h2, (hR.block a (heap_some_lt h3)).trans h3, (hR.block b (heap_some_lt h4)).trans h4, (hR.block c (heap_some_lt h5)).trans h5, (hR.block d (heap_some_lt h6)).trans h6⟩
    refine MonoL.cons (fun x w1 w2 _ _ hR hx => ?_) ?_
    · obtain ⟨v, a, b, c, d, h1, h2, h3, h4, h5, h6⟩ := hx; exact ⟨v, a, b, c, d, h1, (hR.block v (heap_some_lt h2)).trans h2, (hR.block a (heap_some_lt h3)).trans h3, (hR.block b (heap_some_lt h4)).trans h4, (hR.block c (heap_some_lt h5)).trans h5, (hR.block d (heap_some_lt h6)).trans h6⟩
    exact MonoL.nil
  case hsteps =>
    refine StepsT.cons (fun (x : Value) (w : World) => ∃ g, x = .slice (some ⟨g, 0, none⟩) 1 1 ∧ w.heap[g]? = some (.cells zMem1 47 (0, 0))) [] rfl rfl (fun oq hop _ wq hQS => ?_) ?_
    · exact StepFrom.makeS hop (make_mem1 _) (by kernel_rfl) (hQS.alloc hQS.size _) ((Below.refl _ _).alloc (Nat.le_refl _) _) ⟨_, rfl, heap_alloc_new wq _⟩
    refine StepsT.cons (fun (x : Value) (w : World) => ∃ g, x = .slice (some ⟨g, 0, none⟩) 2 2 ∧ w.heap[g]? = some (.cells zCto2 50 (0, 0))) [] rfl rfl (fun oq hop _ wq hQS => ?_) ?_
    · exact StepFrom.makeS hop (make_cto2 _) (by kernel_rfl) (hQS.alloc hQS.size _) ((Below.refl _ _).alloc (Nat.le_refl _) _) ⟨_, rfl, heap_alloc_new wq _⟩
    refine StepsT.cons (fun (x : Value) (w : World) => ∃ g h, x = .agg (dcV 3 (.slice (some ⟨g, 0, none⟩) 1 1) (.slice (some ⟨h, 0, none⟩) 2 2)) ∧ w.heap[g]? = some (.cells zMem1 47 (0, 0)) ∧ w.heap[h]? = some (.cells zCto2 50 (0, 0))) [(1, (fun (x : Value) (w : World) => ∃ g, x = .slice (some ⟨g, 0, none⟩) 1 1 ∧ w.heap[g]? = some (.cells zMem1 47 (0, 0)))), (2, (fun (x : Value) (w : World) => ∃ g, x = .slice (some ⟨g, 0, none⟩) 2 2 ∧ w.heap[g]? = some (.cells zCto2 50 (0, 0))))] rfl rfl (fun oq hop _ wq hQS => ?_) ?_
    · refine StepFrom.more fun x1 h1 => ?_
      obtain ⟨g1, rfl, hg1⟩ := h1
      refine StepFrom.more fun x2 h2 => ?_
      obtain ⟨g2, rfl, hg2⟩ := h2
      exact StepFrom.build hop (vs := [(0, .int .i64 3), (6, .slice (some ⟨g1, 0, none⟩) 1 1), (7, .slice (some ⟨g2, 0, none⟩) 2 2)]) (by kernel_rfl) (build_dc3 _ _ _ _ _ _ _) (by kernel_rfl) hQS (Below.refl _ _) ⟨_, _, rfl, hg1, hg2⟩
    refine StepsT.cons (fun (x : Value) (_ : World) => x = (.agg (dcV 2 (.slice none 0 0) (.slice none 0 0)) : Value)) [] rfl rfl (fun oq hop _ wq hQS => ?_) ?_
    · exact StepFrom.build hop (vs := [(0, .int .i64 2)]) (by kernel_rfl) (build_dc1 _ _) (by kernel_rfl) hQS (Below.refl _ _) rfl
    refine StepsT.cons (fun (x : Value) (w : World) => ∃ g, x = .slice (some ⟨g, 0, none⟩) 2 2 ∧ w.heap[g]? = some (.cells zMem2 47 (0, 0))) [] rfl rfl (fun oq hop _ wq hQS => ?_) ?_
    · exact StepFrom.makeS hop (make_mem2 _) (by kernel_rfl) (hQS.alloc hQS.size _) ((Below.refl _ _).alloc (Nat.le_refl _) _) ⟨_, rfl, heap_alloc_new wq _⟩
    refine StepsT.cons (fun (x : Value) (w : World) => ∃ g, x = .slice (some ⟨g, 0, none⟩) 1 1 ∧ w.heap[g]? = some (.cells zCto1 50 (0, 0))) [] rfl rfl (fun oq hop _ wq hQS => ?_) ?_
    · exact StepFrom.makeS hop (make_cto1 _) (by kernel_rfl) (hQS.alloc hQS.size _) ((Below.refl _ _).alloc (Nat.le_refl _) _) ⟨_, rfl, heap_alloc_new wq _⟩
    refine StepsT.cons (fun (x : Value) (w : World) => ∃ g h, x = .agg (dcV 3 (.slice (some ⟨g, 0, none⟩) 2 2) (.slice (some ⟨h, 0, none⟩) 1 1)) ∧ w.heap[g]? = some (.cells zMem2 47 (0, 0)) ∧ w.heap[h]? = some (.cells zCto1 50 (0, 0))) [(5, (fun (x : Value) (w : World) => ∃ g, x = .slice (some ⟨g, 0, none⟩) 2 2 ∧ w.heap[g]? = some (.cells zMem2 47 (0, 0)))), (6, (fun (x : Value) (w : World) => ∃ g, x = .slice (some ⟨g, 0, none⟩) 1 1 ∧ w.heap[g]? = some (.cells zCto1 50 (0, 0))))] rfl rfl (fun oq hop _ wq hQS => ?_) ?_
    · refine StepFrom.more fun x5 h5 => ?_
      obtain ⟨g5, rfl, hg5⟩ := h5
      refine StepFrom.more fun x6 h6 => ?_
      obtain ⟨g6, rfl, hg6⟩ := h6
      exact StepFrom.build hop (vs := [(0, .int .i64 3), (6, .slice (some ⟨g5, 0, none⟩) 2 2), (7, .slice (some ⟨g6, 0, none⟩) 1 1)]) (by kernel_rfl) (build_dc3 _ _ _ _ _ _ _) (by kernel_rfl) hQS (Below.refl _ _) ⟨_, _, rfl, hg5, hg6⟩
    refine StepsT.cons (fun (x : Value) (_ : World) => x = (.agg (dcV 1 (.slice none 0 0) (.slice none 0 0)) : Value)) [] rfl rfl (fun oq hop _ wq hQS => ?_) ?_
    · exact StepFrom.build hop (vs := [(0, .int .i64 1)]) (by kernel_rfl) (build_dc1 _ _) (by kernel_rfl) hQS (Below.refl _ _) rfl
    refine StepsT.cons (fun (x : Value) (_ : World) => x = (.agg (dcV 0 (.slice none 0 0) (.slice none 0 0)) : Value)) [] rfl rfl (fun oq hop _ wq hQS => ?_) ?_
    · exact StepFrom.build hop (vs := []) (by kernel_rfl) (build_dc0 _) (by kernel_rfl) hQS (Below.refl _ _) rfl
    refine StepsT.cons (fun (x : Value) (w : World) => ∃ v a b c d, x = .slice (some ⟨v, 0, none⟩) 5 5 ∧ w.heap[v]? = some (.cells (someC a b c d) 43 (0, 0)) ∧ w.heap[a]? = some (.cells zMem1 47 (0, 0)) ∧ w.heap[b]? = some (.cells zCto2 50 (0, 0)) ∧ w.heap[c]? = some (.cells zMem2 47 (0, 0)) ∧ w.heap[d]? = some (.cells zCto1 50 (0, 0))) [(3, (fun (x : Value) (w : World) => ∃ g h, x = .agg (dcV 3 (.slice (some ⟨g, 0, none⟩) 1 1) (.slice (some ⟨h, 0, none⟩) 2 2)) ∧ w.heap[g]? = some (.cells zMem1 47 (0, 0)) ∧ w.heap[h]? = some (.cells zCto2 50 (0, 0)))), (4, (fun (x : Value) (_ : World) => x = (.agg (dcV 2 (.slice none 0 0) (.slice none 0 0)) : Value))), (7, (fun (x : Value) (w : World) => ∃ g h, x = .agg (dcV 3 (.slice (some ⟨g, 0, none⟩) 2 2) (.slice (some ⟨h, 0, none⟩) 1 1)) ∧ w.heap[g]? = some (.cells zMem2 47 (0, 0)) ∧ w.heap[h]? = some (.cells zCto1 50 (0, 0)))), (8, (fun (x : Value) (_ : World) => x = (.agg (dcV 1 (.slice none 0 0) (.slice none 0 0)) : Value))), (9, (fun (x : Value) (_ : World) => x = (.agg (dcV 0 (.slice none 0 0) (.slice none 0 0)) : Value)))] rfl rfl (fun oq hop _ wq hQS => ?_) ?_
    · refine StepFrom.more fun x3 h3 => ?_
      obtain ⟨g3, k3, rfl, hg3, hk3⟩ := h3
      refine StepFrom.more_eq ((.agg (dcV 2 (.slice none 0 0) (.slice none 0 0)) : Value)) ?_
      refine StepFrom.more fun x7 h7 => ?_
      obtain ⟨g7, k7, rfl, hg7, hk7⟩ := h7
      refine StepFrom.more_eq ((.agg (dcV 1 (.slice none 0 0) (.slice none 0 0)) : Value)) ?_
      refine StepFrom.more_eq ((.agg (dcV 0 (.slice none 0 0) (.slice none 0 0)) : Value)) ?_
      have hkp : ∀ {g : Nat} {o : Obj}, wq.heap[g]? = some o → ∀ p, (wq.alloc p).heap[g]? = some o := fun h p => (Below.heap_alloc _ _ _ (heap_some_lt h)).trans h
      exact StepFrom.slice hop (vs := [(0, .agg (dcV 3 (.slice (some ⟨g3, 0, none⟩) 1 1) (.slice (some ⟨k3, 0, none⟩) 2 2))), (1, .agg (dcV 2 (.slice none 0 0) (.slice none 0 0))), (2, .agg (dcV 3 (.slice (some ⟨g7, 0, none⟩) 2 2) (.slice (some ⟨k7, 0, none⟩) 1 1))), (3, .agg (dcV 1 (.slice none 0 0) (.slice none 0 0))), (4, .agg (dcV 0 (.slice none 0 0) (.slice none 0 0)))]) (by kernel_rfl) (build_some _ _ _ _ _) (by kernel_rfl) (hQS.alloc hQS.size _) ((Below.refl _ _).alloc (Nat.le_refl _) _) ⟨_, g3, k3, g7, k7, rfl, heap_alloc_new wq _, hkp hg3 _, hkp hk3 _, hkp hg7 _, hkp hk7 _⟩
    refine StepsT.cons (fun (x : Value) (w : World) => ∃ v a b c d, x = .slice (some ⟨v, 0, none⟩) 5 5 ∧ w.heap[v]? = some (.cells (someC a b c d) 43 (0, 0)) ∧ w.heap[a]? = some (.cells zMem1 47 (0, 0)) ∧ w.heap[b]? = some (.cells zCto2 50 (0, 0)) ∧ w.heap[c]? = some (.cells zMem2 47 (0, 0)) ∧ w.heap[d]? = some (.cells zCto1 50 (0, 0))) [(10, (fun (x : Value) (w : World) => ∃ v a b c d, x = .slice (some ⟨v, 0, none⟩) 5 5 ∧ w.heap[v]? = some (.cells (someC a b c d) 43 (0, 0)) ∧ w.heap[a]? = some (.cells zMem1 47 (0, 0)) ∧ w.heap[b]? = some (.cells zCto2 50 (0, 0)) ∧ w.heap[c]? = some (.cells zMem2 47 (0, 0)) ∧ w.heap[d]? = some (.cells zCto1 50 (0, 0))))] rfl rfl (fun oq hop _ wq hQS => ?_) ?_
    · refine StepFrom.more fun x10 h10 => ?_
      obtain ⟨v10, a10, b10, c10, d10, rfl, hv10, ha10, hb10, hc10, hd10⟩ := h10
      exact StepFrom.assign hop (v := (.slice (some ⟨v10, 0, none⟩) 5 5 : Value)) (by kernel_rfl) (by kernel_rfl) hQS (Below.refl _ _) ⟨v10, a10, b10, c10, d10, rfl, hv10, ha10, hb10, hc10, hd10⟩
    exact StepsT.nil
  case hfin =>
    intro wf hFS
    refine FinalFrom.more fun x1 h1 => ?_
    refine FinalFrom.more fun x2 h2 => ?_
    refine FinalFrom.more fun x3 h3 => ?_
    refine FinalFrom.more fun x4 h4 => ?_
    refine FinalFrom.more fun x5 h5 => ?_
    refine FinalFrom.more fun x6 h6 => ?_
    refine FinalFrom.more fun x7 h7 => ?_
    refine FinalFrom.more fun x8 h8 => ?_
    refine FinalFrom.more fun x9 h9 => ?_
    refine FinalFrom.more fun x10 h10 => ?_
    refine FinalFrom.more fun x0 h0 => ?_
    refine FinalFrom.done ?_
    have HF : Hid (Below w.heap.size w wf) := hFS
    have H0 := Lib.hid h0
    clear hS hFS h0 h1 h2 h3 h4 h5 h6 h7 h8 h9 h10
    simp only [Act.put, List.setIfInBounds_toArray, List.set_cons_zero, List.set_cons_succ]
    go_wp2
    go_ret
    exact ⟨_, rfl, H0.out, HF.out⟩
end Go.Proofs.YtfgnnbpbbnnnhaaDoor
namespace Go.Proofs.YtfgnnbpbbnnnhaaDoor
open Go.RowKit Go.Maps
def zT : Tm := .mk 0 0 0 [] []
def someL : List Dc := [⟨3, 0, zT, zT, [], [], [[]], [(0, zT), (0, zT)]⟩, ⟨2, 0, zT, zT, [], [], [], []⟩, ⟨3, 0, zT, zT, [], [], [[], []], [(0, zT)]⟩, ⟨1, 0, zT, zT, [], [], [], []⟩, ⟨0, 0, zT, zT, [], [], [], []⟩]
theorem zT_at (w : World) (B : Nat) : TmAt w B zT (.agg #[.int .i64 0, .int .i64 0, .int .i64 0, .slice none 0 0, .slice none 0 0]) := TmAt.make (lv := []) (kids := []) (fun _ => rfl) (levs_nil _ _ _) (tms_nil _ _)
theorem lev_none (w : World) (B : Nat) : Lev w B none [] := fun h => by simp at h
theorem mems_none (w : World) (B : Nat) : Mems w B none 0 [] := ⟨fun _ => rfl, fun h => by simp at h⟩
theorem ctrs_none (w : World) (B : Nat) : Ctrs w B none 0 [] := ⟨fun _ => rfl, fun h => by simp at h⟩
theorem mems_at {w : World} {g : Nat} {n : Nat} (h : w.heap[g]? = some (.cells (Array.replicate n (.slice none 0 0)) 47 (0, 0))) : Mems w w.heap.size (some ⟨g, 0, none⟩) n (List.replicate n []) := ⟨fun h => (by cases h), fun _ => ⟨g, 0, rfl, heap_some_lt h, fun i m hi => by
  rw [List.getElem?_replicate] at hi
  split at hi
  · rename_i hlt
    injection hi with hi
    subst hi
    exact ⟨none, 0, by rw [Nat.zero_add, cell_of_row _ _ i _ _ (0, 0) h, Array.getElem?_replicate, if_pos hlt]; rfl, tms_nil _ _⟩
  · cases hi⟩⟩
theorem ctrs_at {w : World} {g : Nat} {cs : Array Value} {n : Nat} (h : w.heap[g]? = some (.cells cs 50 (0, 0))) (hc : ∀ i, i < n → cs[i * 6]? = some (.int .i64 0) ∧ cs[i * 6 + 1]? = some (.int .i64 0) ∧ cs[i * 6 + 2]? = some (.int .i64 0) ∧ cs[i * 6 + 3]? = some (.int .i64 0) ∧ cs[i * 6 + 4]? = some (.slice none 0 0) ∧ cs[i * 6 + 5]? = some (.slice none 0 0)) : Ctrs w w.heap.size (some ⟨g, 0, none⟩) n (List.replicate n (0, zT)) := ⟨fun h => (by cases h), fun _ => ⟨g, 0, rfl, heap_some_lt h, fun i x hi => by
  rw [List.getElem?_replicate] at hi
  split at hi
  · rename_i hlt
    injection hi with hi
    subst hi
    obtain ⟨h0, h1, h2, h3, h4, h5⟩ := hc i hlt
    have q : ∀ j, w.cell? ⟨g, j, none⟩ = cs[j]? := fun j => cell_of_row _ _ j _ _ (0, 0) h
    refine ⟨.agg #[.int .i64 0, .int .i64 0, .int .i64 0, .slice none 0 0, .slice none 0 0], ?_, ⟨_, _, _, _, _, rfl, ?_, ?_, ?_, ?_, ?_⟩, zT_at _ _⟩
    · rw [Nat.zero_add, q]; exact h0
    · rw [Nat.zero_add, q]; exact h1
    · rw [Nat.zero_add, q]; exact h2
    · rw [Nat.zero_add, q]; exact h3
    · rw [Nat.zero_add, q]; exact h4
    · rw [Nat.zero_add, q]; exact h5
  · cases hi⟩⟩
theorem dc_at {w : World} {B : Nat} {k : Int} {A C : Option Addr} {n m : Nat} {ms : List (List Tm)} {cs : List (Int × Tm)} (h1 : Mems w B A n ms) (h2 : Ctrs w B C m cs) (hn : ms.length = n) (hm : cs.length = m) : DcAt w B ⟨k, 0, zT, zT, [], [], ms, cs⟩ (dcV k (.slice A n n) (.slice C m m)) := by
  subst hn hm
  exact ⟨_, _, _, _, _, _, _, _, _, _, none, none, A, C, 0, 0, _, _, rfl, zT_at _ _, zT_at _ _, tms_nil _ _, fun _ => rfl, lev_none _ _, h1, h2⟩
theorem lt16 {j : Nat} (h : j < 16) : j = 0 ∨ j = 1 ∨ j = 2 ∨ j = 3 ∨ j = 4 ∨ j = 5 ∨ j = 6 ∨ j = 7 ∨ j = 8 ∨ j = 9 ∨ j = 10 ∨ j = 11 ∨ j = 12 ∨ j = 13 ∨ j = 14 ∨ j = 15 := by omega
theorem dcs_some {w : World} {v a b c d : Nat} (hv : w.heap[v]? = some (.cells (someC a b c d) 43 (0, 0))) (ha : w.heap[a]? = some (.cells zMem1 47 (0, 0))) (hb : w.heap[b]? = some (.cells zCto2 50 (0, 0))) (hc : w.heap[c]? = some (.cells zMem2 47 (0, 0))) (hd : w.heap[d]? = some (.cells zCto1 50 (0, 0))) :
    Dcs w w.heap.size (some ⟨v, 0, none⟩) 5 someL := ⟨fun h => (by cases h), fun _ => ⟨v, 0, rfl, heap_some_lt hv, fun i x hi => by
  have q : ∀ j, w.cell? ⟨v, j, none⟩ = (someC a b c d)[j]? := fun j => cell_of_row _ _ j _ _ (0, 0) hv
  have c2 := ctrs_at (n := 2) hb (fun i hi => by match i, hi with | 0, _ => exact ⟨rfl, rfl, rfl, rfl, rfl, rfl⟩ | 1, _ => exact ⟨rfl, rfl, rfl, rfl, rfl, rfl⟩)
  have c1 := ctrs_at (n := 1) hd (fun i hi => by match i, hi with | 0, _ => exact ⟨rfl, rfl, rfl, rfl, rfl, rfl⟩)
  have m1 := mems_at (n := 1) ha
  have m2 := mems_at (n := 2) hc
  match i, hi with
  | 0, hi => injection hi with hi; subst hi; exact ⟨_, dc_at m1 c2 rfl rfl, fun j hj => by rw [q]; rcases lt16 hj with rfl | rfl | rfl | rfl | rfl | rfl | rfl | rfl | rfl | rfl | rfl | rfl | rfl | rfl | rfl | rfl <;> rfl⟩
  | 1, hi => injection hi with hi; subst hi; exact ⟨_, dc_at (mems_none _ _) (ctrs_none _ _) rfl rfl, fun j hj => by rw [q]; rcases lt16 hj with rfl | rfl | rfl | rfl | rfl | rfl | rfl | rfl | rfl | rfl | rfl | rfl | rfl | rfl | rfl | rfl <;> rfl⟩
  | 2, hi => injection hi with hi; subst hi; exact ⟨_, dc_at m2 c1 rfl rfl, fun j hj => by rw [q]; rcases lt16 hj with rfl | rfl | rfl | rfl | rfl | rfl | rfl | rfl | rfl | rfl | rfl | rfl | rfl | rfl | rfl | rfl <;> rfl⟩
  | 3, hi => injection hi with hi; subst hi; exact ⟨_, dc_at (mems_none _ _) (ctrs_none _ _) rfl rfl, fun j hj => by rw [q]; rcases lt16 hj with rfl | rfl | rfl | rfl | rfl | rfl | rfl | rfl | rfl | rfl | rfl | rfl | rfl | rfl | rfl | rfl <;> rfl⟩
  | 4, hi => injection hi with hi; subst hi; exact ⟨_, dc_at (mems_none _ _) (ctrs_none _ _) rfl rfl, fun j hj => by rw [q]; rcases lt16 hj with rfl | rfl | rfl | rfl | rfl | rfl | rfl | rfl | rfl | rfl | rfl | rfl | rfl | rfl | rfl | rfl <;> rfl⟩⟩⟩
theorem someL_sum : cntSum someL ≤ 1099511627776 := by decide
theorem someL_small : ∀ d ∈ someL, d.mems.length ≤ 1048576 ∧ d.ctors.length ≤ 1048576 := by
  intro d hd
  simp only [someL, List.mem_cons, List.not_mem_nil, or_false] at hd
  rcases hd with rfl | rfl | rfl | rfl | rfl <;> decide
theorem someL_bases : cyB someL 5 = [0, 12, 13, 25, 26] := by decide
theorem someO1 : cyO someL [0, 12, 13, 25, 26] 8 0 0 = some 5 := by decide
theorem someO2 : cyO someL [0, 12, 13, 25, 26] 9 0 1 = some 7 := by decide
theorem someO3 : cyO someL [0, 12, 13, 25, 26] 10 0 0 = some 9 := by decide
theorem someO4 : cyO someL [0, 12, 13, 25, 26] 3 1 0 = some 12 := by decide
/-- a name -/
def nameV (k n a : Int) : Value := .agg #[.int .i64 k, .int .i64 n, .int .i64 a, .slice none 0 0, .slice none 0 0]
theorem nameV_at (w : World) (B : Nat) (k n a : Int) : TmAt w B (.mk k n a [] []) (nameV k n a) := TmAt.make (lv := []) (kids := []) (fun _ => rfl) (levs_nil _ _ _) (tms_nil _ _)
theorem nameV_fit (k n a : Int) (h : Rng n) : (Tm.mk k n a [] []).fit := (Tm.fit_mk ..).2 ⟨h, ⟨by simp, by simp⟩, by simp, by rw [Tm.fitL]; trivial⟩
set_option maxRecDepth 100000 in
theorem name21_any (k n a : Int) (w : World) : Calls Tryd.prog 29 #[.int .i64 k, .int .i64 n, .int .i64 a] w (fun e w' => e = .returned (nameV k n a) ∧ Below w.heap.size w w') := by
  have HF : Hid (Below w.heap.size w (w.alloc (.cells #[.int .i64 k, .int .i64 n, .int .i64 a, .slice none 0 0, .slice none 0 0] 27))) := (Below.refl _ _).alloc (Nat.le_refl _) _
  unfold nameV
  go_enter Tryd.func29, Tryd.ntmps29
  go_wp2
  exact bodyPost_ret (v := .agg #[.int .i64 k, .int .i64 n, .int .i64 a, .slice none 0 0, .slice none 0 0]) (by simp [results, Tryd.results29, go_sem]) rfl ⟨rfl, HF.out⟩
end Go.Proofs.YtfgnnbpbbnnnhaaDoor
namespace Go.Proofs.YtfgnnbpbbnnnhaaDoor
open Go.RowKit Go.Maps
set_option maxRecDepth 100000 in
set_option maxHeartbeats 8000000 in
/-- awake: the chapter's examples are as they are said. -/
theorem awake21_any (w : World) (hK : KindsAt w) : Calls Tryd.prog 17 #[] w (HasPost w true) := by
  have h0 : 0 < w.heap.size := cell_lt (hK 0 (by decide))
  have HK := Lib.hid hK
  have HN := Lib.hid name21_any
  unfold nameV at HN
  clear hK
  go_enter Tryd.func17, Tryd.ntmps17
  go_wp2_with (fail)
  refine (some_any w).mono ?_
  rintro e w1 ⟨_, rfl, ⟨v, a, b, c, d, rfl, hv, ha, hb, hc, hd⟩, hb1⟩
  have hds := dcs_some hv ha hb hc hd
  have HD1 := Lib.hid hds
  have HB1 := Lib.hid hb1
  clear hv ha hb hc hd hb1
  go_wp2_with (fail)
  refine (carryAt_any someL _ 5 5 w1 hds rfl (by decide) someL_small someL_sum).mono ?_
  rintro e w2 ⟨va, rfl, hown, hb2⟩
  clear hds
  rw [someL_bases] at hown
  obtain ⟨Aa, ca, rfl, _, hI⟩ := ints_of_own9 hown rfl
  have HOV : Hid (CyOver w2 w2.heap.size someL [0, 12, 13, 25, 26] (some ⟨v, 0, none⟩) 5 5 Aa 5) := ⟨HD1.out.below hb2 hb2.size, rfl, hI, rfl, by decide, someL_small⟩
  obtain ⟨ba, oa, rfl, hbaB, hcell⟩ := hI (by decide)
  have HA1 : Hid (w2.cell? ⟨ba, oa + 1, none⟩ = some (.int .i64 12)) := hcell 1 (by decide)
  have HBA := Lib.hid hbaB
  have HB2 : Hid (Below w.heap.size w w2) := HB1.out.trans (hb2.mono HB1.out.size)
  have HT : Hid (∀ (w' : World) (k n p x : Int), Rng n → Below w2.heap.size w2 w' → cyO someL [0, 12, 13, 25, 26] k n p = some x → Calls Tryd.prog 22 #[.slice (some ⟨v, 0, none⟩) 5 5, .slice (some ⟨ba, oa, none⟩) 5 ca, .agg #[.int .i64 k, .int .i64 n, .int .i64 p, .slice none 0 0, .slice none 0 0]] w' (fun e w9 => ∃ (A1 : Option Addr) (p1 c1 : Nat) (A2 : Option Addr) (c2 : Nat), e = .returned (.agg #[.int .i64 3, .int .i64 x, .int .i64 0, .slice A1 p1 c1, .slice A2 0 c2]) ∧ Below w'.heap.size w' w9)) := fun w' k n p x hn hx ho => by
    have hbx := HB2.out.trans (hx.mono HB2.out.size)
    have := carryT_leaf ca w' (HOV.out.below hx hx.size) (by have := hbx.size; omega) (HK.out.below hbx h0) k n p [] (nameV_fit k n p hn) none 0 0 none 0 (nameV_at w' w'.heap.size k n p)
    rw [ho] at this
    exact this
  clear hown hI hcell hb2 hbaB
  go_wp2_with (fail)
  refine (HN.out 8 0 0 w2).mono ?_
  rintro e w3 ⟨rfl, hb3⟩
  have HC3 := Lib.hid hb3
  clear hb3
  go_wp2_with (fail)
  refine (HT.out w3 8 0 0 5 (by unfold Rng; omega) HC3.out someO1).mono ?_
  rintro e w4 ⟨X1, x1, y1, X2, y2, rfl, hb4⟩
  have HC4 : Hid (Below w2.heap.size w2 w4) := HC3.out.trans (hb4.mono HC3.out.size)
  clear hb4
  go_wp2_with (fail)
  refine (HN.out 9 0 1 w4).mono ?_
  rintro e w5 ⟨rfl, hb5⟩
  have HC5 : Hid (Below w2.heap.size w2 w5) := HC4.out.trans (hb5.mono HC4.out.size)
  clear hb5
  go_wp2_with (fail)
  refine (HT.out w5 9 0 1 7 (by unfold Rng; omega) HC5.out someO2).mono ?_
  rintro e w6 ⟨X3, x3, y3, X4, y4, rfl, hb6⟩
  have HC6 : Hid (Below w2.heap.size w2 w6) := HC5.out.trans (hb6.mono HC5.out.size)
  clear hb6
  go_wp2_with (fail)
  refine (HN.out 10 0 0 w6).mono ?_
  rintro e w7 ⟨rfl, hb7⟩
  have HC7 : Hid (Below w2.heap.size w2 w7) := HC6.out.trans (hb7.mono HC6.out.size)
  clear hb7
  go_wp2_with (fail)
  refine (HT.out w7 10 0 0 9 (by unfold Rng; omega) HC7.out someO3).mono ?_
  rintro e w8 ⟨X5, x5, y5, X6, y6, rfl, hb8⟩
  have HC8 : Hid (Below w2.heap.size w2 w8) := HC7.out.trans (hb8.mono HC7.out.size)
  clear hb8
  obtain ⟨w9, hw9⟩ : ∃ y, ((w8.alloc (.cells zeroTm 27)).alloc (.cells zeroTm 27)).alloc (.cells zeroTm 27) = y := ⟨_, rfl⟩
  have hb9 : Below w8.heap.size w8 w9 := by rw [← hw9]; exact (((Below.refl _ _).alloc (Nat.le_refl _) _).alloc (by simp) _).alloc (by simp; omega) _
  obtain ⟨z1, z2, _⟩ := two_allocs w8 (.cells zeroTm 27) (.cells zeroTm 27)
  have q1 : w9.heap[w8.heap.size]? = some (.cells zeroTm 27 (0, 0)) := by rw [← hw9, Below.heap_alloc _ _ _ (by simp; omega)]; exact z1
  have q2 : w9.heap[w8.heap.size + 1]? = some (.cells zeroTm 27 (0, 0)) := by rw [← hw9, Below.heap_alloc _ _ _ (by simp)]; exact z2
  have q3 : w9.heap[w8.heap.size + 1 + 1]? = some (.cells zeroTm 27 (0, 0)) := by
    rw [← hw9]
    have := heap_alloc_new ((w8.alloc (.cells zeroTm 27)).alloc (.cells zeroTm 27)) (.cells zeroTm 27)
    simpa using this
  unfold zeroTm at hw9
  obtain ⟨t1, ht1⟩ : ∃ y : Array Value, #[.int .i64 3, .int .i64 5, .int .i64 0, .slice X1 x1 y1, .slice X2 0 y2] = y := ⟨_, rfl⟩
  obtain ⟨t2, ht2⟩ : ∃ y : Array Value, #[.int .i64 3, .int .i64 7, .int .i64 0, .slice X3 x3 y3, .slice X4 0 y4] = y := ⟨_, rfl⟩
  obtain ⟨t3, ht3⟩ : ∃ y : Array Value, #[.int .i64 3, .int .i64 9, .int .i64 0, .slice X5 x5 y5, .slice X6 0 y6] = y := ⟨_, rfl⟩
  have s1 : t1.size = 5 := by rw [← ht1]; rfl
  have s2 : t2.size = 5 := by rw [← ht2]; rfl
  have s3 : t3.size = 5 := by rw [← ht3]; rfl
  have o1 : t1.all (·.oneCell') = true := by rw [← ht1]; simp [Value.oneCell']
  have o2 : t2.all (·.oneCell') = true := by rw [← ht2]; simp [Value.oneCell']
  have o3 : t3.all (·.oneCell') = true := by rw [← ht3]; simp [Value.oneCell']
  have r2 : (w9.setRow w8.heap.size t1).heap[w8.heap.size + 1]? = some (.cells zeroTm 27 (0, 0)) := (setRow_other _ _ _ _ (by omega)).trans q2
  have r3 : ((w9.setRow w8.heap.size t1).setRow (w8.heap.size + 1) t2).heap[w8.heap.size + 1 + 1]? = some (.cells zeroTm 27 (0, 0)) := (setRow_other _ _ _ _ (by omega)).trans ((setRow_other _ _ _ _ (by omega)).trans q3)
  have p1 : (((w9.setRow w8.heap.size t1).setRow (w8.heap.size + 1) t2).setRow (w8.heap.size + 1 + 1) t3).heap[w8.heap.size]? = some (.cells t1 27 (0, 0)) := (setRow_other _ _ _ _ (by omega)).trans ((setRow_other _ _ _ _ (by omega)).trans (setRow_heap _ _ _ _ _ _ q1))
  have p2 : (((w9.setRow w8.heap.size t1).setRow (w8.heap.size + 1) t2).setRow (w8.heap.size + 1 + 1) t3).heap[w8.heap.size + 1]? = some (.cells t2 27 (0, 0)) := (setRow_other _ _ _ _ (by omega)).trans (setRow_heap _ _ _ _ _ _ r2)
  have p3 : (((w9.setRow w8.heap.size t1).setRow (w8.heap.size + 1) t2).setRow (w8.heap.size + 1 + 1) t3).heap[w8.heap.size + 1 + 1]? = some (.cells t3 27 (0, 0)) := setRow_heap _ _ _ _ _ _ r3
  have hba : Below w8.heap.size w8 (((w9.setRow w8.heap.size t1).setRow (w8.heap.size + 1) t2).setRow (w8.heap.size + 1 + 1) t3) := below_setRow (below_setRow (below_setRow hb9 (Nat.le_refl _) _) (by omega) _) (by omega) _
  obtain ⟨wa, hwa⟩ : ∃ y, ((w9.setRow w8.heap.size t1).setRow (w8.heap.size + 1) t2).setRow (w8.heap.size + 1 + 1) t3 = y := ⟨_, rfl⟩
  rw [hwa] at p1 p2 p3 hba
  have HCA : Hid (Below w2.heap.size w2 wa) := HC8.out.trans (hba.mono HC8.out.size)
  have P1 := Lib.hid p1
  have P2 := Lib.hid p2
  have P3 := Lib.hid p3
  have HQ := Lib.hid (And.intro s1 (And.intro s2 s3))
  have HWA := Lib.hid hwa
  have H1 := Lib.hid ht1
  have H2 := Lib.hid ht2
  have H3 := Lib.hid ht3
  rw [ht1, ht2, ht3]
  have i1 : (Tryd.prog.info? 27).map (·.size) = some t1.size := by rw [s1]; exact infoT5
  have i2 : (Tryd.prog.info? 27).map (·.size) = some t2.size := by rw [s2]; exact infoT5
  have i3 : (Tryd.prog.info? 27).map (·.size) = some t3.size := by rw [s3]; exact infoT5
  have j1 : zeroTm.size = t1.size := by rw [s1]; rfl
  have j2 : zeroTm.size = t2.size := by rw [s2]; rfl
  have j3 : zeroTm.size = t3.size := by rw [s3]; rfl
  have I1 := Lib.hid (And.intro i1 (And.intro i2 i3))
  have J1 := Lib.hid (And.intro j1 (And.intro j2 j3))
  have O1 := Lib.hid (And.intro o1 (And.intro o2 o3))
  clear hb9 z1 z2 q2 q3 s1 s2 s3 p1 p2 p3 hba hwa ht1 ht2 ht3 i1 i2 i3 j1 j2 j3 o1 o2 o3
  go_wp2_with (first | (refine wpList_store_row rfl 27 (.tmp 3) (.tmp 13) rfl w8.heap.size t1 rfl rfl 27 zeroTm q1 I1.out.1 J1.out.1 O1.out.1 ?_) | (refine wpList_store_row rfl 27 (.tmp 4) (.tmp 17) rfl (w8.heap.size + 1) t2 rfl rfl 27 zeroTm r2 I1.out.2.1 J1.out.2.1 O1.out.2.1 ?_) | (refine wpList_store_row rfl 27 (.tmp 5) (.tmp 21) rfl (w8.heap.size + 1 + 1) t3 rfl rfl 27 zeroTm r3 I1.out.2.2 J1.out.2.2 O1.out.2.2 ?_; rw [HWA.out]) | fail)
  refine (HN.out 3 1 0 wa).mono ?_
  rintro e wb ⟨rfl, hbb⟩
  have HCB : Hid (Below wa.heap.size wa wb) := hbb
  clear hbb q1 r2 r3
  go_wp2_with (fail)
  refine (HT.out wb 3 1 0 12 (by unfold Rng; omega) (HCA.out.trans (HCB.out.mono HCA.out.size)) someO4).mono ?_
  rintro e wc ⟨X7, x7, y7, X8, y8, rfl, hbc⟩
  have hbc2 : Below wa.heap.size wa wc := HCB.out.trans (hbc.mono HCB.out.size)
  obtain ⟨wd, hwd⟩ : ∃ y, wc.alloc (.cells #[.int .i64 3, .int .i64 12, .int .i64 0, .slice X7 x7 y7, .slice X8 0 y8] 27) = y := ⟨_, rfl⟩
  have hbd : Below wc.heap.size wc wd := by rw [← hwd]; exact (Below.refl _ _).alloc (Nat.le_refl _) _
  have x9 : wd.heap[wc.heap.size]? = some (.cells #[.int .i64 3, .int .i64 12, .int .i64 0, .slice X7 x7 y7, .slice X8 0 y8] 27 (0, 0)) := by rw [← hwd]; exact heap_alloc_new wc _
  have hz := heap_alloc_new wc (.cells zeroTm 27)
  have hda : Hid ((wc.alloc (.cells zeroTm 27)).setRow wc.heap.size #[.int .i64 3, .int .i64 12, .int .i64 0, .slice X7 x7 y7, .slice X8 0 y8] = wc.alloc (.cells #[.int .i64 3, .int .i64 12, .int .i64 0, .slice X7 x7 y7, .slice X8 0 y8] 27)) := World.setRow_alloc_new _ _ _ _
  unfold zeroTm at hz hda
  have hbe : Below wa.heap.size wa wd := hbc2.trans (hbd.mono hbc2.size)
  have hbf : Below w2.heap.size w2 wd := HCA.out.trans (hbe.mono HCA.out.size)
  have e1 := (hbe.block _ (heap_some_lt P1.out)).trans P1.out
  have e2 := (hbe.block _ (heap_some_lt P2.out)).trans P2.out
  have e3 := (hbe.block _ (heap_some_lt P3.out)).trans P3.out
  rw [← H1.out] at e1
  rw [← H2.out] at e2
  rw [← H3.out] at e3
  have f0 : wd.cell? ⟨w8.heap.size, 0, none⟩ = some (.int .i64 3) := cell_of_row _ _ 0 _ _ (0, 0) e1
  have f1 : wd.cell? ⟨w8.heap.size, 1, none⟩ = some (.int .i64 5) := cell_of_row _ _ 1 _ _ (0, 0) e1
  have f2 : wd.cell? ⟨w8.heap.size + 1, 1, none⟩ = some (.int .i64 7) := cell_of_row _ _ 1 _ _ (0, 0) e2
  have f3 : wd.cell? ⟨w8.heap.size + 1, 2, none⟩ = some (.int .i64 0) := cell_of_row _ _ 2 _ _ (0, 0) e2
  have f4 : wd.cell? ⟨w8.heap.size + 1 + 1, 1, none⟩ = some (.int .i64 9) := cell_of_row _ _ 1 _ _ (0, 0) e3
  have f5 : wd.cell? ⟨wc.heap.size, 1, none⟩ = some (.int .i64 12) := cell_of_row _ _ 1 _ _ (0, 0) x9
  have f6 := (hbf.cell (p := ⟨ba, oa + 1, none⟩) HBA.out).trans HA1.out
  have HFF : Hid (Below w.heap.size w wd) := HB2.out.trans (hbf.mono HB2.out.size)
  have ij0 : (0 : Int) ≤ (1 : Int) := by decide
  have ij1 : (1 : Int) < (5 : Int) := by decide
  clear hbc hbc2 hbd x9 hbe hbf e1 e2 e3 HT HN HOV HC3 HC4 HC5 HC6 HC7 HC8 HCA HCB
  go_wp2_with (first | (refine wpList_store_row rfl 27 (.tmp 6) (.tmp 25) rfl wc.heap.size #[.int .i64 3, .int .i64 12, .int .i64 0, .slice X7 x7 y7, .slice X8 0 y8] rfl rfl 27 zeroTm hz infoT5 rfl (by simp [Value.oneCell']) ?_; rw [hda.out, hwd]) | fail)
  go_ret
  exact ⟨rfl, HFF.out⟩
end Go.Proofs.YtfgnnbpbbnnnhaaDoor
