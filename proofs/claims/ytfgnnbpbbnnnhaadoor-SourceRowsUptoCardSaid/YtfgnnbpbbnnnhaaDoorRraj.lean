/- Laws. -/
import Derived.Test.YtfgnnbpbbnnnhaaDoorRrai
namespace Go.Proofs.YtfgnnbpbbnnnhaaDoor
open Go.RowKit Go.Maps
section
variable {P : Program} {S : World → Prop} {R : World → World → Prop} {o : Oper} {V : Value → World → Prop} {g : Option (Option Tmp × Bool)} {a : Act} {w : World}
theorem StepFrom.nilCheck {x : Operand} (hop : o.op = .nilCheck x) {p : Addr} (hx : a.eval x = .pointer (some p)) (hg : gOn g a = true) (hS : S w) (hR : R w w) (hV : V (.pointer (some p)) w) : StepFrom P S R o V g [] a w :=
  StepFrom.ran (v := .pointer (some p)) (by unfold execOp; simp only [hop, hx]; rfl) hg hS hR hV
theorem StepFrom.extract {x : Operand} {i : Nat} (hop : o.op = .extract x i) {t v : Value} (hx : a.eval x = t) (hrun : (Instr.extract t i).run P w = .ok v w) (hg : gOn g a = true) (hS : S w) (hR : R w w) (hV : V v w) : StepFrom P S R o V g [] a w :=
  StepFrom.ran (v := v) (by unfold execOp; simp only [hop, hx]; simp only [Sem.run_bind, hrun]; rfl) hg hS hR hV
end
theorem set_same {w : World} {g : Nat} {cur : Array Value} {t : TypeId} {fr : Nat × Nat} (h : w.heap[g]? = some (.cells cur t fr)) (j : Nat) (v : Value) : (w.setCell ⟨g, j, none⟩ v).heap[g]? = some (.cells (cur.setIfInBounds j v) t fr) := by
  have hg := heap_some_lt h
  simp [World.setCell, Array.getElem?_modify, h]
theorem row_cell {w : World} {g : Nat} {cur : Array Value} {t : TypeId} {fr : Nat × Nat} (h : w.heap[g]? = some (.cells cur t fr)) {j : Nat} {v : Value} (hv : cur[j]? = some v) : w.cell? ⟨g, j, none⟩ = some v := by simp [World.cell?, h, hv]
theorem set_none {cur : Array Value} {j : Nat} {v : Value} (h : cur[j]? = some v) : cur.setIfInBounds j v = cur := by
  refine Array.ext_getElem? fun i => ?_
  rw [Array.getElem?_setIfInBounds]
  split
  · rename_i e
    subst e
    rw [h]
    exact if_pos (Array.getElem?_eq_some_iff.1 h).1
  · rfl
theorem grown_belowT {w w' : World} (h : Below w.heap.size w w') (r : Option Nat) : w.grownBy w' r := ⟨h.os, h.tape, h.output, h.size, fun k hk _ => h.block k hk⟩
theorem grown_set {w w' : World} {g : Nat} (h : w.grownBy w' (some g)) (j : Nat) (v : Value) : w.grownBy (w'.setCell ⟨g, j, none⟩ v) (some g) :=
  ⟨h.os, h.tape, h.output, by simp [World.setCell]; exact h.size, fun k hk hne => (Below.heap_setCell w' _ _ _ (fun e => hne (by rw [e]))).trans (h.block k hk hne)⟩
set_option maxRecDepth 100000 in
theorem enter_means (vs : Array Value) (w : World) : (callFunc 36 vs).run Tryd.prog w = .ok (.enter 36 vs) w := by go_simp
set_option maxRecDepth 100000 in
theorem load_depth {b o : Nat} {w : World} {d : Int} (h : w.cell? ⟨b, o, none⟩ = some (.int .i64 d)) : (Instr.loadAt 72 (.pointer (some ⟨b, o, none⟩))).run Tryd.prog w = .ok (.agg #[.int .i64 d]) w := by go_simp
set_option maxRecDepth 100000 in
theorem add_wrap {x y z : Int} (p q : Operand) (w : World) (h : IntKind.i64.wrap (x + y) = z) : ((do eqGuard .add 3 p q (.int .i64 x) (.int .i64 y); binOp .add 3 (.int .i64 x) (.int .i64 y) : Sem Value)).run Tryd.prog w = .ok (.int .i64 z) w := by
  subst h
  go_simp
theorem pair_zero (x y : Value) (w : World) : (Instr.extract (.tuple #[x, y]) 0).run Tryd.prog w = .ok x w := rfl
theorem pair_one (x y : Value) (w : World) : (Instr.extract (.tuple #[x, y]) 1).run Tryd.prog w = .ok y w := rfl
/-- the node's number is this one now -/
def NumPost2 (w : World) (g o : Nat) (cur : Array Value) (n : Int) (e : Ending) (w' : World) : Prop := e = .returned (.bool false) ∧ w.grownBy w' (some g) ∧ w'.heap[g]? = some (.cells (cur.setIfInBounds (o + 1) (.int .i64 n)) 27 (0, 0))
set_option maxRecDepth 100000 in
set_option maxHeartbeats 4000000 in
theorem turn_lift (d : Nat) (k n m from' : Int) (g o pf pn : Nat) (cur : Array Value) (w : World) (hg : w.heap[g]? = some (.cells cur 27 (0, 0))) (hk : cur[o]? = some (.int .i64 k)) (hn : cur[o + 1]? = some (.int .i64 n)) (hR : Rng n)
    (hf : w.cell? ⟨pf, 0, none⟩ = some (.int .i64 from')) (hm : w.cell? ⟨pn, 0, none⟩ = some (.int .i64 m)) :
    Calls Tryd.prog 35 #[.agg #[.int .i64 (d : Int)], .pointer (some ⟨g, o, none⟩), .pointer (some ⟨pf, 0, none⟩), .pointer (some ⟨pn, 0, none⟩)] w (NumPost2 w g o cur (liftN d k n from' m)) := by
  obtain ⟨w1, hw1⟩ : ∃ x, w.alloc (.cells #[.int .i64 (d : Int)] 72) = x := ⟨_, rfl⟩
  have hb1 : Below w.heap.size w w1 := by rw [← hw1]; exact (Below.refl _ _).alloc (Nat.le_refl _) _
  have x1 : w1.heap[w.heap.size]? = some (.cells #[.int .i64 (d : Int)] 72 (0, 0)) := by rw [← hw1]; exact heap_alloc_new w _
  have hgl := heap_some_lt hg
  have hg1 := (hb1.block g hgl).trans hg
  have e0 := row_cell hg1 hk
  have e1 := row_cell hg1 hn
  have eb := cell_of_one x1
  have ef := (hb1.cell (p := ⟨pf, 0, none⟩) (cell_lt hf)).trans hf
  have em := (hb1.cell (p := ⟨pn, 0, none⟩) (cell_lt hm)).trans hm
  have lb := cell_lt eb
  have lf := cell_lt ef
  have lm := cell_lt em
  have lg := cell_lt e1
  have HSTAY : Hid (∀ (w' : World) (b : Bool), Below w1.heap.size w1 w' → liftN d k n from' m = n → NumPost2 w g o cur (liftN d k n from' m) (.returned (.bool false)) w') := fun w' _ h he => by
    have hb := hb1.trans (h.mono hb1.size)
    refine ⟨rfl, grown_belowT hb _, ?_⟩
    rw [he, set_none hn]
    exact (hb.block g hgl).trans hg
  have HGO : Hid (∀ (w' : World), Below w1.heap.size w1 w' → NumPost2 w g o cur (liftN d k n from' m) (.returned (.bool false)) (w'.setCell ⟨g, o + 1, none⟩ (.int .i64 (liftN d k n from' m)))) := fun w' h => by
    have hb := hb1.trans (h.mono hb1.size)
    exact ⟨rfl, grown_set (grown_belowT hb _) _ _, set_same ((hb.block g hgl).trans hg) _ _⟩
  have HFR : Hid (∀ (w' : World), Below w1.heap.size w1 w' → w'.frozen? ⟨g, o + 1, none⟩ = false) := fun w' h => thawed ((h.block g (heap_some_lt hg1)).trans hg1) _
  have HM := Lib.hid (means_any d n w1)
  have HMW : Hid (∀ w', Below w1.heap.size w1 w' → Calls Tryd.prog 36 #[.agg #[.int .i64 (d : Int)], .int .i64 n] w' (fun e w9 => e = .returned (meansS d n) ∧ Below w'.heap.size w' w9)) := fun w' _ => means_any d n w' hR
  have HR := Lib.hid hR
  clear hg hk hn hf hm hR x1 hb1 hgl hg1 HM
  by_cases k1 : k = 1
  · subst k1
    go_enter Tryd.func35, Tryd.ntmps35
    go_upto_region 2 with (fail)
    try rw [hw1]
    clear hw1
    have hS : Below w1.heap.size w1 w1.drew := (Below.refl _ _).drew
    obtain ⟨r, hr⟩ : ∃ r : Bool, decide (n < (d : Int)) = r := ⟨_, rfl⟩
    obtain ⟨q, hq⟩ : ∃ q : Int, (if n < (d : Int) then 0 else n - (d : Int)) = q := ⟨_, rfl⟩
    have hmean : meansS d n = .tuple #[.int .i64 q, .bool (!r)] := by
      rw [← hr, ← hq]
      unfold meansS
      by_cases h : n < (d : Int) <;> simp [h]
    rw [hmean] at HMW
    have HRR := Lib.hid hr
    have HQQ := Lib.hid hq
    clear hr hq hmean
    refine wp_region_tab (fun w' => Below w1.heap.size w1 w') (fun w1 w2 : World => Below w1.heap.size w1 w2) [(fun (x : Value) (_ : World) => x = (.agg #[.int .i64 (d : Int)] : Value)), (fun (x : Value) (_ : World) => x = (.pointer (some ⟨g, o, none⟩) : Value)), (fun (x : Value) (_ : World) => x = (.pointer (some ⟨g, o, none⟩) : Value)), (fun (x : Value) (_ : World) => x = (.pointer (some ⟨g, o + 1, none⟩) : Value)), (fun (x : Value) (_ : World) => x = (.int .i64 n : Value)), (fun (x : Value) (_ : World) => x = (.tuple #[.int .i64 q, .bool (!r)] : Value)), (fun (x : Value) (_ : World) => x = (.tuple #[.int .i64 q, .bool (!r)] : Value)), (fun (x : Value) (_ : World) => x = (.int .i64 q : Value)), (fun (x : Value) (_ : World) => x = (.bool (!r) : Value)), (fun (x : Value) (_ : World) => x = (.int .i64 q : Value)), (fun (x : Value) (_ : World) => x = (.bool (!r) : Value))] [⟨some 15, .load 72 (.tmp 4), none, []⟩, ⟨some 16, .move (.tmp 1), none, []⟩, ⟨some 17, .nilCheck (.tmp 16), none, [(16, 1)]⟩, ⟨some 18, .fieldAddr 27 (.tmp 17) 1, none, [(17, 2)]⟩, ⟨some 19, .load 3 (.tmp 18), none, [(18, 3)]⟩, ⟨some 20, .call { callee := .value (.func 36), args := #[.tmp 15, .tmp 19], argTypes := #[72, 3] }, none, [(15, 0), (19, 4)]⟩, ⟨some 14, .move (.tmp 20), none, [(20, 5)]⟩, ⟨some 21, .extract (.tmp 14) 0, none, [(14, 6)]⟩, ⟨some 22, .extract (.tmp 14) 1, none, [(14, 6)]⟩, ⟨some 7, .assign (.tmp 21), none, [(21, 7)]⟩, ⟨some 8, .assign (.tmp 22), none, [(22, 8)]⟩] [some 15, some 16, some 17, some 18, some 19, some 20, some 14, some 21, some 22, some 7, some 8] (by kernel_rfl) (by kernel_rfl) (by kernel_rfl) (by kernel_rfl) (by kernel_rfl) ?hS ?hmono ?hsteps ?hfin
    case hS => exact hS
    case hmono =>
      refine MonoL.cons (fun x w1 w2 _ _ _ hx => hx) ?_
      refine MonoL.cons (fun x w1 w2 _ _ _ hx => hx) ?_
      refine MonoL.cons (fun x w1 w2 _ _ _ hx => hx) ?_
      refine MonoL.cons (fun x w1 w2 _ _ _ hx => hx) ?_
      refine MonoL.cons (fun x w1 w2 _ _ _ hx => hx) ?_
      refine MonoL.cons (fun x w1 w2 _ _ _ hx => hx) ?_
      refine MonoL.cons (fun x w1 w2 _ _ _ hx => hx) ?_
      refine MonoL.cons (fun x w1 w2 _ _ _ hx => hx) ?_
      refine MonoL.cons (fun x w1 w2 _ _ _ hx => hx) ?_
      refine MonoL.cons (fun x w1 w2 _ _ _ hx => hx) ?_
      refine MonoL.cons (fun x w1 w2 _ _ _ hx => hx) ?_
      exact MonoL.nil
    case hsteps =>
      refine StepsT.cons (fun (x : Value) (_ : World) => x = (.agg #[.int .i64 (d : Int)] : Value)) [] rfl rfl (fun oq hop _ wq hQS => ?_) ?_
      · exact StepFrom.load hop (p := (.pointer (some ⟨w.heap.size, 0, none⟩) : Value)) (by kernel_rfl) (load_depth ((hQS.cell (p := ⟨w.heap.size, 0, none⟩) lb).trans eb)) (by kernel_rfl) hQS (Below.refl _ _) rfl
      refine StepsT.cons (fun (x : Value) (_ : World) => x = (.pointer (some ⟨g, o, none⟩) : Value)) [] rfl rfl (fun oq hop _ wq hQS => ?_) ?_
      · exact StepFrom.move hop (v := (.pointer (some ⟨g, o, none⟩) : Value)) (by kernel_rfl) (by kernel_rfl) hQS (Below.refl _ _) rfl
      refine StepsT.cons (fun (x : Value) (_ : World) => x = (.pointer (some ⟨g, o, none⟩) : Value)) [(16, (fun (x : Value) (_ : World) => x = (.pointer (some ⟨g, o, none⟩) : Value)))] rfl rfl (fun oq hop _ wq hQS => ?_) ?_
      · refine StepFrom.more_eq ((.pointer (some ⟨g, o, none⟩) : Value)) ?_
        exact StepFrom.nilCheck hop (show _ = (.pointer (some ⟨g, o, none⟩) : Value) by kernel_rfl) (by kernel_rfl) hQS (Below.refl _ _) rfl
      refine StepsT.cons (fun (x : Value) (_ : World) => x = (.pointer (some ⟨g, o + 1, none⟩) : Value)) [(17, (fun (x : Value) (_ : World) => x = (.pointer (some ⟨g, o, none⟩) : Value)))] rfl rfl (fun oq hop _ wq hQS => ?_) ?_
      · refine StepFrom.more_eq ((.pointer (some ⟨g, o, none⟩) : Value)) ?_
        exact StepFrom.fieldAddr hop (p := (.pointer (some ⟨g, o, none⟩) : Value)) (by kernel_rfl) (term_field 1 (by decide)) (by kernel_rfl) hQS (Below.refl _ _) rfl
      refine StepsT.cons (fun (x : Value) (_ : World) => x = (.int .i64 n : Value)) [(18, (fun (x : Value) (_ : World) => x = (.pointer (some ⟨g, o + 1, none⟩) : Value)))] rfl rfl (fun oq hop _ wq hQS => ?_) ?_
      · refine StepFrom.more_eq ((.pointer (some ⟨g, o + 1, none⟩) : Value)) ?_
        exact StepFrom.load hop (p := (.pointer (some ⟨g, o + 1, none⟩) : Value)) (by kernel_rfl) (load_int ((hQS.cell (p := ⟨g, o + 1, none⟩) lg).trans e1)) (by kernel_rfl) hQS (Below.refl _ _) rfl
      refine StepsT.cons (fun (x : Value) (_ : World) => x = (.tuple #[.int .i64 q, .bool (!r)] : Value)) [(15, (fun (x : Value) (_ : World) => x = (.agg #[.int .i64 (d : Int)] : Value))), (19, (fun (x : Value) (_ : World) => x = (.int .i64 n : Value)))] rfl rfl (fun oq hop _ wq hQS => ?_) ?_
      · refine StepFrom.more_eq ((.agg #[.int .i64 (d : Int)] : Value)) ?_
        refine StepFrom.more_eq ((.int .i64 n : Value)) ?_
        exact StepFrom.call hop (vs := [(.agg #[.int .i64 (d : Int)] : Value), (.int .i64 n : Value)]) (by kernel_rfl) (fun w => enter_means _ w) (by kernel_rfl) ((HMW.out wq hQS).mono fun e w9 h9 => by obtain ⟨q1, q2⟩ := h9; exact ⟨_, q1, hQS.trans (q2.mono hQS.size), q2, rfl⟩)
      refine StepsT.cons (fun (x : Value) (_ : World) => x = (.tuple #[.int .i64 q, .bool (!r)] : Value)) [(20, (fun (x : Value) (_ : World) => x = (.tuple #[.int .i64 q, .bool (!r)] : Value)))] rfl rfl (fun oq hop _ wq hQS => ?_) ?_
      · refine StepFrom.more_eq ((.tuple #[.int .i64 q, .bool (!r)] : Value)) ?_
        exact StepFrom.move hop (v := (.tuple #[.int .i64 q, .bool (!r)] : Value)) (by kernel_rfl) (by kernel_rfl) hQS (Below.refl _ _) rfl
      refine StepsT.cons (fun (x : Value) (_ : World) => x = (.int .i64 q : Value)) [(14, (fun (x : Value) (_ : World) => x = (.tuple #[.int .i64 q, .bool (!r)] : Value)))] rfl rfl (fun oq hop _ wq hQS => ?_) ?_
      · refine StepFrom.more_eq ((.tuple #[.int .i64 q, .bool (!r)] : Value)) ?_
        exact StepFrom.extract hop (t := (.tuple #[.int .i64 q, .bool (!r)] : Value)) (by kernel_rfl) (pair_zero _ _ _) (by kernel_rfl) hQS (Below.refl _ _) rfl
      refine StepsT.cons (fun (x : Value) (_ : World) => x = (.bool (!r) : Value)) [(14, (fun (x : Value) (_ : World) => x = (.tuple #[.int .i64 q, .bool (!r)] : Value)))] rfl rfl (fun oq hop _ wq hQS => ?_) ?_
      · refine StepFrom.more_eq ((.tuple #[.int .i64 q, .bool (!r)] : Value)) ?_
        exact StepFrom.extract hop (t := (.tuple #[.int .i64 q, .bool (!r)] : Value)) (by kernel_rfl) (pair_one _ _ _) (by kernel_rfl) hQS (Below.refl _ _) rfl
      refine StepsT.cons (fun (x : Value) (_ : World) => x = (.int .i64 q : Value)) [(21, (fun (x : Value) (_ : World) => x = (.int .i64 q : Value)))] rfl rfl (fun oq hop _ wq hQS => ?_) ?_
      · refine StepFrom.more_eq ((.int .i64 q : Value)) ?_
        exact StepFrom.assign hop (v := (.int .i64 q : Value)) (by kernel_rfl) (by kernel_rfl) hQS (Below.refl _ _) rfl
      refine StepsT.cons (fun (x : Value) (_ : World) => x = (.bool (!r) : Value)) [(22, (fun (x : Value) (_ : World) => x = (.bool (!r) : Value)))] rfl rfl (fun oq hop _ wq hQS => ?_) ?_
      · refine StepFrom.more_eq ((.bool (!r) : Value)) ?_
        exact StepFrom.assign hop (v := (.bool (!r) : Value)) (by kernel_rfl) (by kernel_rfl) hQS (Below.refl _ _) rfl
      exact StepsT.nil
    case hfin =>
      intro wf hFS
      refine FinalFrom.more fun x15 h15 => ?_
      refine FinalFrom.more fun x16 h16 => ?_
      refine FinalFrom.more fun x17 h17 => ?_
      refine FinalFrom.more fun x18 h18 => ?_
      refine FinalFrom.more fun x19 h19 => ?_
      refine FinalFrom.more fun x20 h20 => ?_
      refine FinalFrom.more fun x14 h14 => ?_
      refine FinalFrom.more fun x21 h21 => ?_
      refine FinalFrom.more fun x22 h22 => ?_
      refine FinalFrom.more fun x7 h7 => ?_
      refine FinalFrom.more fun x8 h8 => ?_
      refine FinalFrom.done ?_
      clear hS
      simp only [Act.put, List.setIfInBounds_toArray, List.set_cons_zero, List.set_cons_succ, h15, h16, h17, h18, h19, h20, h14, h21, h22, h7, h8]
      clear h15 h16 h17 h18 h19 h20 h14 h21 h22 h7 h8
      have f1 := (hFS.cell (p := ⟨g, o + 1, none⟩) lg).trans e1
      have ff := (hFS.cell (p := ⟨pf, 0, none⟩) lf).trans ef
      have fm := (hFS.cell (p := ⟨pn, 0, none⟩) lm).trans em
      have HFS := Lib.hid hFS
      have sf := hFS.size
      have lg2 : g < wf.heap.size := by omega
      have lm2 : pn < wf.heap.size := by omega
      clear hFS e0 e1 eb ef em lb lf lm lg
      cases r with
      | true =>
        have HFIN : Hid (NumPost2 w g o cur (liftN d 1 n from' m) (.returned (.bool false)) wf) := HSTAY.out wf true HFS.out (by
          have := of_decide_eq_true HRR.out
          unfold liftN
          rw [if_neg fun x => by have := outer_iff.1 x; omega])
        clear HSTAY HGO HRR HQQ
        go_wp2
        go_ret
        exact HFIN.out
      | false =>
        have hd := of_decide_eq_false HRR.out
        have hq := HQQ.out
        rw [if_neg hd] at hq
        subst hq
        clear HRR HQQ
        by_cases hge : from' ≤ n - (d : Int)
        · obtain ⟨z, hz⟩ : ∃ z, liftN d 1 n from' m = z := ⟨_, rfl⟩
          have HL : Hid (IntKind.i64.wrap (n + m) = z) := by
            show _ = _
            rw [← hz]
            unfold liftN
            rw [if_pos (outer_iff.2 ⟨rfl, by omega, hge⟩)]
          rw [hz] at HGO
          have HZ := Lib.hid hz
          clear hz HSTAY
          go_upto_region 4 with (fail)
          have hS : Below wf.heap.size wf wf.drew := (Below.refl _ _).drew
          refine wp_region_tail 8 (fun w' => Below wf.heap.size wf w') (fun w1 w2 : World => Below w1.heap.size w1 w2) [(fun (x : Value) (_ : World) => x = (.pointer (some ⟨g, o, none⟩) : Value)), (fun (x : Value) (_ : World) => x = (.pointer (some ⟨g, o, none⟩) : Value)), (fun (x : Value) (_ : World) => x = (.pointer (some ⟨g, o + 1, none⟩) : Value)), (fun (x : Value) (_ : World) => x = (.int .i64 n : Value)), (fun (x : Value) (_ : World) => x = (.int .i64 m : Value)), (fun (x : Value) (_ : World) => x = (.int .i64 z : Value)), (fun (x : Value) (_ : World) => x = (.pointer (some ⟨g, o, none⟩) : Value)), (fun (x : Value) (_ : World) => x = (.pointer (some ⟨g, o + 1, none⟩) : Value))] [⟨some 29, .move (.tmp 1), none, []⟩, ⟨some 30, .nilCheck (.tmp 29), none, [(29, 0)]⟩, ⟨some 31, .fieldAddr 27 (.tmp 30) 1, none, [(30, 1)]⟩, ⟨some 32, .load 3 (.tmp 31), none, [(31, 2)]⟩, ⟨some 33, .load 3 (.tmp 3), none, []⟩, ⟨some 34, .binOp .add 3 (.tmp 32) (.tmp 33) 3, none, [(32, 3), (33, 4)]⟩, ⟨some 35, .nilCheck (.tmp 29), none, [(29, 0)]⟩, ⟨some 36, .fieldAddr 27 (.tmp 35) 1, none, [(35, 6)]⟩] [some 29, some 30, some 31, some 32, some 33, some 34, some 35, some 36] [] [] (by kernel_rfl) (by kernel_rfl) (by kernel_rfl) (by kernel_rfl) (by kernel_rfl) (by kernel_rfl) (by kernel_rfl) (by kernel_rfl) ?hrun ?hold ?hS ?hmono ?hsteps ?hfin
          case hrun => exact fun p hp => by cases hp
          case hold => exact fun p hp => by cases hp
          case hS => exact hS
          case hmono =>
            refine MonoL.cons (fun x w1 w2 _ _ _ hx => hx) ?_
            refine MonoL.cons (fun x w1 w2 _ _ _ hx => hx) ?_
            refine MonoL.cons (fun x w1 w2 _ _ _ hx => hx) ?_
            refine MonoL.cons (fun x w1 w2 _ _ _ hx => hx) ?_
            refine MonoL.cons (fun x w1 w2 _ _ _ hx => hx) ?_
            refine MonoL.cons (fun x w1 w2 _ _ _ hx => hx) ?_
            refine MonoL.cons (fun x w1 w2 _ _ _ hx => hx) ?_
            refine MonoL.cons (fun x w1 w2 _ _ _ hx => hx) ?_
            exact MonoL.nil
          case hsteps =>
            refine StepsT.cons (fun (x : Value) (_ : World) => x = (.pointer (some ⟨g, o, none⟩) : Value)) [] rfl rfl (fun oq hop _ wq hQS => ?_) ?_
            · exact StepFrom.move hop (v := (.pointer (some ⟨g, o, none⟩) : Value)) (by kernel_rfl) (by kernel_rfl) hQS (Below.refl _ _) rfl
            refine StepsT.cons (fun (x : Value) (_ : World) => x = (.pointer (some ⟨g, o, none⟩) : Value)) [(29, (fun (x : Value) (_ : World) => x = (.pointer (some ⟨g, o, none⟩) : Value)))] rfl rfl (fun oq hop _ wq hQS => ?_) ?_
            · refine StepFrom.more_eq ((.pointer (some ⟨g, o, none⟩) : Value)) ?_
              exact StepFrom.nilCheck hop (show _ = (.pointer (some ⟨g, o, none⟩) : Value) by kernel_rfl) (by kernel_rfl) hQS (Below.refl _ _) rfl
            refine StepsT.cons (fun (x : Value) (_ : World) => x = (.pointer (some ⟨g, o + 1, none⟩) : Value)) [(30, (fun (x : Value) (_ : World) => x = (.pointer (some ⟨g, o, none⟩) : Value)))] rfl rfl (fun oq hop _ wq hQS => ?_) ?_
            · refine StepFrom.more_eq ((.pointer (some ⟨g, o, none⟩) : Value)) ?_
              exact StepFrom.fieldAddr hop (p := (.pointer (some ⟨g, o, none⟩) : Value)) (by kernel_rfl) (term_field 1 (by decide)) (by kernel_rfl) hQS (Below.refl _ _) rfl
            refine StepsT.cons (fun (x : Value) (_ : World) => x = (.int .i64 n : Value)) [(31, (fun (x : Value) (_ : World) => x = (.pointer (some ⟨g, o + 1, none⟩) : Value)))] rfl rfl (fun oq hop _ wq hQS => ?_) ?_
            · refine StepFrom.more_eq ((.pointer (some ⟨g, o + 1, none⟩) : Value)) ?_
              exact StepFrom.load hop (p := (.pointer (some ⟨g, o + 1, none⟩) : Value)) (by kernel_rfl) (load_int ((hQS.cell (p := ⟨g, o + 1, none⟩) lg2).trans f1)) (by kernel_rfl) hQS (Below.refl _ _) rfl
            refine StepsT.cons (fun (x : Value) (_ : World) => x = (.int .i64 m : Value)) [] rfl rfl (fun oq hop _ wq hQS => ?_) ?_
            · exact StepFrom.load hop (p := (.pointer (some ⟨pn, 0, none⟩) : Value)) (by kernel_rfl) (load_int ((hQS.cell (p := ⟨pn, 0, none⟩) lm2).trans fm)) (by kernel_rfl) hQS (Below.refl _ _) rfl
            refine StepsT.cons (fun (x : Value) (_ : World) => x = (.int .i64 z : Value)) [(32, (fun (x : Value) (_ : World) => x = (.int .i64 n : Value))), (33, (fun (x : Value) (_ : World) => x = (.int .i64 m : Value)))] rfl rfl (fun oq hop _ wq hQS => ?_) ?_
            · refine StepFrom.more_eq ((.int .i64 n : Value)) ?_
              refine StepFrom.more_eq ((.int .i64 m : Value)) ?_
              exact StepFrom.bin hop (vx := (.int .i64 n : Value)) (vy := (.int .i64 m : Value)) (by kernel_rfl) (by kernel_rfl) (add_wrap _ _ _ HL.out) (by kernel_rfl) hQS (Below.refl _ _) rfl
            refine StepsT.cons (fun (x : Value) (_ : World) => x = (.pointer (some ⟨g, o, none⟩) : Value)) [(29, (fun (x : Value) (_ : World) => x = (.pointer (some ⟨g, o, none⟩) : Value)))] rfl rfl (fun oq hop _ wq hQS => ?_) ?_
            · refine StepFrom.more_eq ((.pointer (some ⟨g, o, none⟩) : Value)) ?_
              exact StepFrom.nilCheck hop (show _ = (.pointer (some ⟨g, o, none⟩) : Value) by kernel_rfl) (by kernel_rfl) hQS (Below.refl _ _) rfl
            refine StepsT.cons (fun (x : Value) (_ : World) => x = (.pointer (some ⟨g, o + 1, none⟩) : Value)) [(35, (fun (x : Value) (_ : World) => x = (.pointer (some ⟨g, o, none⟩) : Value)))] rfl rfl (fun oq hop _ wq hQS => ?_) ?_
            · refine StepFrom.more_eq ((.pointer (some ⟨g, o, none⟩) : Value)) ?_
              exact StepFrom.fieldAddr hop (p := (.pointer (some ⟨g, o, none⟩) : Value)) (by kernel_rfl) (term_field 1 (by decide)) (by kernel_rfl) hQS (Below.refl _ _) rfl
            exact StepsT.nil
          case hfin =>
            intro wg hFS
            refine FinalFrom.more fun x29 h29 => ?_
            refine FinalFrom.more fun x30 h30 => ?_
            refine FinalFrom.more fun x31 h31 => ?_
            refine FinalFrom.more fun x32 h32 => ?_
            refine FinalFrom.more fun x33 h33 => ?_
            refine FinalFrom.more fun x34 h34 => ?_
            refine FinalFrom.more fun x35 h35 => ?_
            refine FinalFrom.more fun x36 h36 => ?_
            refine FinalFrom.done ?_
            intro _
            simp only [Act.put, List.setIfInBounds_toArray, List.set_cons_zero, List.set_cons_succ, List.drop_succ_cons, List.drop_zero, h29, h30, h31, h32, h33, h34, h35, h36]
            clear h29 h30 h31 h32 h33 h34 h35 h36 hS
            have hb9 : Below w1.heap.size w1 wg := HFS.out.trans (hFS.mono sf)
            have e9 := (hFS.cell (p := ⟨g, o + 1, none⟩) lg2).trans f1
            have z9 := HFR.out wg hb9
            have HFIN := Lib.hid (HGO.out wg hb9)
            clear HGO HFR HL HMW HFS hFS hb9 f1 ff fm
            go_wp2
            go_ret
            rw [HZ.out]
            exact HFIN.out
        · have HFIN : Hid (NumPost2 w g o cur (liftN d 1 n from' m) (.returned (.bool false)) wf) := HSTAY.out wf true HFS.out (by
            unfold liftN
            rw [if_neg fun x => by have := outer_iff.1 x; omega])
          clear HSTAY HGO
          go_wp2
          go_ret
          exact HFIN.out
  · have HFIN : Hid (NumPost2 w g o cur (liftN d k n from' m) (.returned (.bool false)) w1) := HSTAY.out w1 true (Below.refl _ _) (by
      unfold liftN
      rw [if_neg fun x => k1 (outer_iff.1 x).1])
    clear HSTAY HGO HFR HMW
    go_enter Tryd.func35, Tryd.ntmps35
    go_wp2
    go_ret
    exact HFIN.out
end Go.Proofs.YtfgnnbpbbnnnhaaDoor
namespace Go.Proofs.YtfgnnbpbbnnnhaaDoor
open Go.RowKit Go.Maps
/-- a row of cells where but five are others -/
def Only5 (cur cur' : Array Value) (o : Nat) : Prop := cur'.size = cur.size ∧ ∀ j, (j < o ∨ o + 5 ≤ j) → cur'[j]? = cur[j]?
theorem Only5.trans {a b c : Array Value} {o : Nat} (h : Only5 a b o) (h' : Only5 b c o) : Only5 a c o := ⟨h'.1.trans h.1, fun j hj => (h'.2 j hj).trans (h.2 j hj)⟩
theorem Only5.set {a : Array Value} {o i : Nat} (v : Value) (h1 : o ≤ i) (h2 : i < o + 5) : Only5 a (a.setIfInBounds i v) o := ⟨by simp, fun j hj => by rw [Array.getElem?_setIfInBounds, if_neg (by omega)]⟩
/-- five cells -/
def Cells5 (cur : Array Value) (o : Nat) (c0 c1 c2 c3 c4 : Value) : Prop := cur[o]? = some c0 ∧ cur[o + 1]? = some c1 ∧ cur[o + 2]? = some c2 ∧ cur[o + 3]? = some c3 ∧ cur[o + 4]? = some c4
theorem Cells5.set1 {cur : Array Value} {o : Nat} {c0 c1 c2 c3 c4 : Value} (h : Cells5 cur o c0 c1 c2 c3 c4) (v : Value) : Cells5 (cur.setIfInBounds (o + 1) v) o c0 v c2 c3 c4 := by
  obtain ⟨h0, h1, h2, h3, h4⟩ := h
  have hs := (Array.getElem?_eq_some_iff.1 h4).1
  refine ⟨?_, ?_, ?_, ?_, ?_⟩ <;> rw [Array.getElem?_setIfInBounds]
  · rw [if_neg (by omega)]; exact h0
  · rw [if_pos rfl, if_pos (by omega)]
  · rw [if_neg (by omega)]; exact h2
  · rw [if_neg (by omega)]; exact h3
  · rw [if_neg (by omega)]; exact h4
theorem Cells5.set3 {cur : Array Value} {o : Nat} {c0 c1 c2 c3 c4 : Value} (h : Cells5 cur o c0 c1 c2 c3 c4) (v : Value) : Cells5 (cur.setIfInBounds (o + 3) v) o c0 c1 c2 v c4 := by
  obtain ⟨h0, h1, h2, h3, h4⟩ := h
  have hs := (Array.getElem?_eq_some_iff.1 h4).1
  refine ⟨?_, ?_, ?_, ?_, ?_⟩ <;> rw [Array.getElem?_setIfInBounds]
  · rw [if_neg (by omega)]; exact h0
  · rw [if_neg (by omega)]; exact h1
  · rw [if_neg (by omega)]; exact h2
  · rw [if_pos rfl, if_pos (by omega)]
  · rw [if_neg (by omega)]; exact h4
theorem Cells5.set4 {cur : Array Value} {o : Nat} {c0 c1 c2 c3 c4 : Value} (h : Cells5 cur o c0 c1 c2 c3 c4) (v : Value) : Cells5 (cur.setIfInBounds (o + 4) v) o c0 c1 c2 c3 v := by
  obtain ⟨h0, h1, h2, h3, h4⟩ := h
  have hs := (Array.getElem?_eq_some_iff.1 h4).1
  refine ⟨?_, ?_, ?_, ?_, ?_⟩ <;> rw [Array.getElem?_setIfInBounds]
  · rw [if_neg (by omega)]; exact h0
  · rw [if_neg (by omega)]; exact h1
  · rw [if_neg (by omega)]; exact h2
  · rw [if_neg (by omega)]; exact h3
  · rw [if_pos rfl, if_pos (by omega)]
/-- what a turn does with a node whose five cells lie in block g, from o on -/
def TurnPost (w : World) (g o : Nat) (cur : Array Value) (k a : Int) (vk : Value) (tn : Turned) (e : Ending) (w' : World) : Prop := w.grownBy w' (some g) ∧ match tn with
  | .go n lv => e = .returned (.bool false) ∧ WideL lv ∧ ∃ cur' Al cl, w'.heap[g]? = some (.cells cur' 27 (0, 0)) ∧ Only5 cur cur' o ∧ Cells5 cur' o (.int .i64 k) (.int .i64 n) (.int .i64 a) (.slice Al lv.length cl) vk ∧ Levs w' w'.heap.size Al lv ∧ (Al = none → cl = 0)
  | .done u => e = .returned (.bool true) ∧ ∃ cur' c0 c1 c2 c3 c4, w'.heap[g]? = some (.cells cur' 27 (0, 0)) ∧ Only5 cur cur' o ∧ Cells5 cur' o c0 c1 c2 c3 c4 ∧ OwnTm w' w.heap.size w'.heap.size u (.agg #[c0, c1, c2, c3, c4])
/-- a turn's closure does as the turn says, of nodes in blocks from B on, in worlds in which all ahead of B is as in W, down to a depth -/
def TurnOk (W : World) (B D fid : Nat) (caps : Array Value) (tr : Turn) : Prop := ∀ (d : Nat) (k n a : Int) (lv : List (List (Int × Int))) (w : World) (g o : Nat) (cur : Array Value) (Al : Option Addr) (cl : Nat) (vk : Value), d ≤ D → Rng n → SlimL lv → Below B W w → B ≤ g →
  w.heap[g]? = some (.cells cur 27 (0, 0)) → Cells5 cur o (.int .i64 k) (.int .i64 n) (.int .i64 a) (.slice Al lv.length cl) vk → Levs W B Al lv → (Al = none → cl = 0) →
  Calls Tryd.prog fid (#[.agg #[.int .i64 (d : Int)], .pointer (some ⟨g, o, none⟩)] ++ caps) w (TurnPost w g o cur k a vk (tr d k n lv))
/-- the node is this term now -/
def NodePost (w : World) (g o : Nat) (cur : Array Value) (u : Tm) (e : Ending) (w' : World) : Prop := e = .returned (.tuple #[]) ∧ w.grownBy w' (some g) ∧ ∃ cur' c0 c1 c2 c3 c4, w'.heap[g]? = some (.cells cur' 27 (0, 0)) ∧ Only5 cur cur' o ∧ Cells5 cur' o c0 c1 c2 c3 c4 ∧ OwnTm w' w.heap.size w'.heap.size u (.agg #[c0, c1, c2, c3, c4])
/-- what walk.node makes of a term -/
def NodeTm (W : World) (B D fid : Nat) (caps : Array Value) (tr : Turn) (t : Tm) : Prop := t.fit → ∀ (d : Nat) (w : World) (g o : Nat) (cur : Array Value) (c0 c1 c2 c3 c4 : Value), d + t.size ≤ D → Below B W w → B ≤ g → w.heap[g]? = some (.cells cur 27 (0, 0)) → Cells5 cur o c0 c1 c2 c3 c4 → TmAt W B t (.agg #[c0, c1, c2, c3, c4]) →
  Calls Tryd.prog 67 #[.agg #[.int .i64 (d : Int), .func (.func fid) #[] caps], .pointer (some ⟨g, o, none⟩)] w (NodePost w g o cur (t.walk tr d))
theorem infoTm : (Tryd.prog.info? 27).map (fun i => (i.zero, i.size, i.bytes)) = some (some (.agg #[.int .i64 0, .int .i64 0, .int .i64 0, .slice none 0 0, .slice none 0 0]), 5, 72) := by kernel_rfl
/-- the cells of a row of terms -/
theorem Tms.row {w : World} {B : Nat} {b : Nat} : ∀ {ts : List Tm} {o : Nat}, TmsAt w B b o ts → ∃ xs : List Value, xs.length = ts.length * 5 ∧ (∀ j v, xs[j]? = some v → w.cell? ⟨b, o + j, none⟩ = some v) ∧ (∀ v ∈ xs, v.oneCell' = true) ∧ ∀ i t, ts[i]? = some t → ∃ c0 c1 c2 c3 c4, xs[i * 5]? = some c0 ∧ xs[i * 5 + 1]? = some c1 ∧ xs[i * 5 + 2]? = some c2 ∧ xs[i * 5 + 3]? = some c3 ∧ xs[i * 5 + 4]? = some c4 ∧ TmAt w B t (.agg #[c0, c1, c2, c3, c4])
  | [], o, _ => ⟨[], by simp⟩
  | t :: ts, o, h => by
    unfold TmsAt at h
    obtain ⟨⟨v, ⟨c0, c1, c2, c3, c4, rfl, f0, f1, f2, f3, f4⟩, hv⟩, hr⟩ := h
    obtain ⟨xs, h1, h2, h3, h4⟩ := Tms.row (b := b) (o := o + 5) hr
    have hone : c0.oneCell' = true ∧ c1.oneCell' = true ∧ c2.oneCell' = true ∧ c3.oneCell' = true ∧ c4.oneCell' = true := by
      obtain ⟨k, n, a, lv, kids⟩ := t
      obtain ⟨A1, p1, A2, p2, e, _⟩ := hv.open
      injection e with e
      injection e with e
      injection e with e0 e
      injection e with e1 e
      injection e with e2 e
      injection e with e3 e
      injection e with e4 _
      subst e0 e1 e2 e3 e4
      exact ⟨rfl, rfl, rfl, rfl, rfl⟩
    refine ⟨c0 :: c1 :: c2 :: c3 :: c4 :: xs, by simp [h1]; omega, fun j v hj => ?_, fun v hm => ?_, fun i s hs => ?_⟩
    · match j, hj with
      | 0, hj => injection hj with hj; subst hj; exact f0
      | 1, hj => injection hj with hj; subst hj; exact f1
      | 2, hj => injection hj with hj; subst hj; exact f2
      | 3, hj => injection hj with hj; subst hj; exact f3
      | 4, hj => injection hj with hj; subst hj; exact f4
      | j + 5, hj =>
        have := h2 j v (by simpa using hj)
        rw [show o + (j + 5) = o + 5 + j by omega]
        exact this
    · simp only [List.mem_cons] at hm
      obtain ⟨q0, q1, q2, q3, q4⟩ := hone
      rcases hm with rfl | rfl | rfl | rfl | rfl | hm
      · exact q0
      · exact q1
      · exact q2
      · exact q3
      · exact q4
      · exact h3 v hm
    · match i, hs with
      | 0, hs =>
        injection hs with hs
        subst hs
        exact ⟨c0, c1, c2, c3, c4, rfl, rfl, rfl, rfl, rfl, hv⟩
      | i + 1, hs =>
        obtain ⟨d0, d1, d2, d3, d4, q0, q1, q2, q3, q4, q5⟩ := h4 i s (by simpa using hs)
        have e : (i + 1) * 5 = i * 5 + 5 := by omega
        refine ⟨d0, d1, d2, d3, d4, ?_, ?_, ?_, ?_, ?_, q5⟩ <;> rw [e] <;> simpa [Nat.add_assoc]
end Go.Proofs.YtfgnnbpbbnnnhaaDoor
namespace Go.Proofs.YtfgnnbpbbnnnhaaDoor
open Go.RowKit Go.Maps
theorem grown_trans {w w1 w2 : World} {r : Option Nat} (h : w.grownBy w1 r) (h2 : w1.grownBy w2 r) : w.grownBy w2 r :=
  ⟨h2.os.trans h.os, h2.tape.trans h.tape, h2.output.trans h.output, Nat.le_trans h.size h2.size, fun k hk hne => (h2.block k (by have := h.size; omega) hne).trans (h.block k hk hne)⟩
theorem grown_on {w w1 w2 : World} {r : Option Nat} {C : Nat} (h : w.grownBy w1 r) (h2 : Below C w1 w2) (hC : w.heap.size ≤ C) : w.grownBy w2 r :=
  ⟨h2.os.trans h.os, h2.tape.trans h.tape, h2.output.trans h.output, Nat.le_trans h.size h2.size, fun k hk hne => (h2.block k (by omega)).trans (h.block k hk hne)⟩
theorem grown_new {w w1 w2 : World} {r : Option Nat} {g : Nat} (h : w.grownBy w1 r) (h2 : w1.grownBy w2 (some g)) (hg : w.heap.size ≤ g) : w.grownBy w2 r :=
  ⟨h2.os.trans h.os, h2.tape.trans h.tape, h2.output.trans h.output, Nat.le_trans h.size h2.size, fun k hk hne => (h2.block k (by have := h.size; omega) (fun e => by injection e with e; omega)).trans (h.block k hk hne)⟩
theorem below_grownT {w w' : World} {g B : Nat} (h : w.grownBy w' (some g)) (hg : B ≤ g) (hB : B ≤ w.heap.size) : Below B w w' := ⟨h.os, h.tape, h.output, h.size, fun k hk => h.block k (by omega) (fun e => by injection e with e; omega)⟩
theorem grown_kept {w w' : World} {g lo hi : Nat} (h : w.grownBy w' (some g)) (hg : g < lo ∨ hi ≤ g) (hh : hi ≤ w.heap.size) : KeptIn lo hi w w' := fun b h1 h2 => h.block b (by omega) (fun e => by injection e with e; omega)
set_option maxRecDepth 100000 in
theorem enter_below (vs : Array Value) (w : World) : (callFunc 82 vs).run Tryd.prog w = .ok (.enter 82 vs) w := by go_simp
set_option maxRecDepth 100000 in
theorem load_kind {b o : Nat} {w : World} {k : Int} (h : w.cell? ⟨b, o, none⟩ = some (.int .i64 k)) : (Instr.loadAt 23 (.pointer (some ⟨b, o, none⟩))).run Tryd.prog w = .ok (.int .i64 k) w := by go_simp
set_option maxRecDepth 100000 in
theorem load_turn {b o f : Nat} {w : World} {cs : Array Value} (h : w.cell? ⟨b, o, none⟩ = some (.func (.func f) #[] cs)) : (Instr.loadAt 76 (.pointer (some ⟨b, o, none⟩))).run Tryd.prog w = .ok (.func (.func f) #[] cs) w := by go_simp
set_option maxRecDepth 100000 in
theorem walk_field0 {b o : Nat} {w : World} : (Instr.fieldAt 78 (.pointer (some ⟨b, o, none⟩)) 0).run Tryd.prog w = .ok (.pointer (some ⟨b, o, none⟩)) w := by go_simp
set_option maxRecDepth 100000 in
theorem walk_field1 {b o : Nat} {w : World} : (Instr.fieldAt 78 (.pointer (some ⟨b, o, none⟩)) 1).run Tryd.prog w = .ok (.pointer (some ⟨b, o + 1, none⟩)) w := by go_simp
set_option maxRecDepth 100000 in
theorem build_walk (d : Int) (f : Nat) (cs : Array Value) (w : World) : (Instr.build 78 [(0, Value.agg #[.int .i64 d]), (1, Value.func (.func f) #[] cs)].toArray).run Tryd.prog w = .ok (.agg #[.int .i64 d, .func (.func f) #[] cs]) w := by go_simp
theorem addr_add (b o j : Nat) : (⟨b, o, none⟩ : Addr).add j = ⟨b, o + j, none⟩ := by
  unfold Addr.add
  split
  · rename_i h
    rw [h]
    rfl
  · rfl
/-- the kids' row, walked so far -/
def KidsW (w6 : World) (g' : Nat) (cur6 : Array Value) (us : List Tm) (k : Nat) (wr : World) : Prop := w6.grownBy wr (some g') ∧ ∃ (cur : Array Value) (xs : List Value), wr.heap[g']? = some (.cells cur 27 (0, 0)) ∧ cur.size = cur6.size ∧ (∀ j, k * 5 ≤ j → cur[j]? = cur6[j]?) ∧ OwnTms wr w6.heap.size wr.heap.size (us.take k) xs ∧ ∀ j, j < k * 5 → cur[j]? = xs[j]?
theorem KidsW.start {w6 : World} {g' : Nat} {cur6 : Array Value} (us : List Tm) (h : w6.heap[g']? = some (.cells cur6 27 (0, 0))) : KidsW w6 g' cur6 us 0 w6 :=
  ⟨grown_refl _ _, cur6, [], h, rfl, fun _ _ => rfl, by simp; unfold OwnTms; exact ⟨rfl, Nat.le_refl _⟩, fun j hj => by omega⟩
theorem KidsW.next {w6 wr w7 w8 : World} {g' : Nat} {cur6 cur cur8 : Array Value} {us : List Tm} {k : Nat} {u : Tm} {xs : List Value} {c0 c1 c2 c3 c4 : Value} (hg : g' < w6.heap.size) (hu : us[k]? = some u)
    (h1 : w6.grownBy wr (some g')) (h2 : cur.size = cur6.size) (h3 : ∀ j, k * 5 ≤ j → cur[j]? = cur6[j]?) (h4 : OwnTms wr w6.heap.size wr.heap.size (us.take k) xs) (h5 : ∀ j, j < k * 5 → cur[j]? = xs[j]?)
    (hb : Below wr.heap.size wr w7) (h6 : w7.grownBy w8 (some g')) (h7 : w8.heap[g']? = some (.cells cur8 27 (0, 0))) (h8 : Only5 cur cur8 (k * 5)) (h9 : Cells5 cur8 (k * 5) c0 c1 c2 c3 c4) (h10 : OwnTm w8 w7.heap.size w8.heap.size u (.agg #[c0, c1, c2, c3, c4])) : KidsW w6 g' cur6 us (k + 1) w8 := by
  have s1 := h1.size
  have s2 := hb.size
  have s3 := h6.size
  have hk : k < us.length := (List.getElem?_eq_some_iff.1 hu).1
  have ex : xs.length = k * 5 := by rw [h4.length, List.length_take]; congr 1; omega
  refine ⟨grown_trans (grown_on h1 hb s1) h6, cur8, xs ++ [c0, c1, c2, c3, c4], h7, h8.1.trans h2, fun j hj => (h8.2 j (by omega)).trans (h3 j (by omega)), ?_, fun j hj => ?_⟩
  · rw [List.take_add_one, hu]
    refine OwnTms.snoc (mid := w7.heap.size) (by omega) h10 ?_
    exact ((h4.kept (keptIn_below hb (Nat.le_refl _))).kept (grown_kept h6 (by omega) (by omega))).up (by omega)
  · by_cases hlt : j < k * 5
    · rw [h8.2 j (by omega), h5 j hlt, List.getElem?_append_left (by omega)]
    · rw [List.getElem?_append_right (by omega), ex]
      obtain ⟨q0, q1, q2, q3, q4⟩ := h9
      obtain ⟨i, rfl⟩ : ∃ i, j = k * 5 + i := ⟨j - k * 5, by omega⟩
      rw [show k * 5 + i - k * 5 = i by omega]
      match i, (show i < 5 by omega) with
      | 0, _ => exact q0
      | 1, _ => exact q1
      | 2, _ => exact q2
      | 3, _ => exact q3
      | 4, _ => exact q4
set_option maxRecDepth 100000 in
set_option maxHeartbeats 8000000 in
theorem node_of (W : World) (B D fid : Nat) (caps : Array Value) (tr : Turn) (hD : D ≤ 1073741824) (hB : 0 < B) (hK : KindsAt W) (hcall : ∀ vs w, (callFunc fid vs).run Tryd.prog w = .ok (.enter fid vs) w) (hT : TurnOk W B D fid caps tr)
    (k n a : Int) (lv : List (List (Int × Int))) (kids : List Tm) (ih : ∀ t ∈ kids, NodeTm W B D fid caps tr t) : NodeTm W B D fid caps tr (.mk k n a lv kids) := by
  obtain ⟨i0, hi, hz0, hz1, hz2⟩ := info_parts infoTm
  intro hf d w g o cur c0 c1 c2 c3 c4 hd hb hg hx h5 ht
  obtain ⟨Al, cl, Ak, ck, e, q1, q2, q3⟩ := ht.open
  injection e with e
  injection e with e
  injection e with e0 e
  injection e with e1 e
  injection e with e2 e
  injection e with e3 e
  injection e with e4 _
  subst e0 e1 e2 e3 e4
  clear ht
  rw [Tm.fit_mk] at hf
  rw [Tm.size_mk] at hd
  obtain ⟨p2, hp2⟩ : ∃ p, kids.length = p := ⟨_, rfl⟩
  rw [hp2] at h5 hf
  have hgl := heap_some_lt hx
  obtain ⟨w1, hw1⟩ : ∃ x, w.alloc (.cells #[.int .i64 (d : Int), .func (.func fid) #[] caps] 78) = x := ⟨_, rfl⟩
  have hb1 : Below w.heap.size w w1 := by rw [← hw1]; exact (Below.refl _ _).alloc (Nat.le_refl _) _
  have hsz1 : w1.heap.size = w.heap.size + 1 := by rw [← hw1]; simp
  have x1 : w1.heap[w.heap.size]? = some (.cells #[.int .i64 (d : Int), .func (.func fid) #[] caps] 78 (0, 0)) := by rw [← hw1]; exact heap_alloc_new w _
  have hx1 := (hb1.block g hgl).trans hx
  have HT : Hid (Calls Tryd.prog fid (#[.agg #[.int .i64 (d : Int)], .pointer (some ⟨g, o, none⟩)] ++ caps) w1 (TurnPost w1 g o cur k a (.slice Ak p2 ck) (tr d k n lv))) :=
    hT d k n a lv w1 g o cur Al cl _ (by omega) hf.1 hf.2.1 (hb.trans (hb1.mono (by omega))) hg hx1 h5 q2 q1
  have y0 := cell_of_row _ _ 0 _ _ (0, 0) x1
  have y1 := cell_of_row _ _ 1 _ _ (0, 0) x1
  have HC := Lib.hid hcall
  have IH := Lib.hid ih
  have HX1 := Lib.hid x1
  have HXG := Lib.hid hx1
  have HB1 := Lib.hid hb1
  have HBW := Lib.hid hb
  have HF := Lib.hid hf
  have HD := Lib.hid hd
  have HK := Lib.hid hK
  have HB := Lib.hid hB
  have HP := Lib.hid hp2
  have HQ := Lib.hid q3
  have HG := Lib.hid hg
  have HS1 := Lib.hid hsz1
  have HGL := Lib.hid hgl
  clear hT hcall ih hK hB q1 q2 q3 hb hx h5 hf hd hp2 x1 hx1 hb1 hg hsz1 hgl
  cases htr : tr d k n lv with
  | done u =>
    rw [htr] at HT
    have HW := Lib.hid (Tm.walk_done (a := a) (kids := kids) htr)
    clear htr
    go_enter Tryd.func67, Tryd.ntmps67
    go_wp2_with (fail)
    rw [HC.out]
    refine HT.out.mono ?_
    rintro e w2 ⟨hgr, rfl, cur2, c0, c1, c2, c3, c4, hx2, ho2, hc2, hown⟩
    have HFIN : Hid (NodePost w g o cur (Tm.walk tr d (Tm.mk k n a lv kids)) (.returned (.tuple #[])) w2) :=
      ⟨rfl, grown_trans (grown_belowT HB1.out _) hgr, cur2, c0, c1, c2, c3, c4, hx2, ho2, hc2, by rw [HW.out]; exact hown.wide HB1.out.size (Nat.le_refl _)⟩
    clear hgr hx2 ho2 hc2 hown
    go_wp2
    exact bodyPost_ret (v := .tuple #[]) (by simp [results, Tryd.results67, go_sem]) rfl HFIN.out
  | go n' lv' =>
    rw [htr] at HT
    have HW := Lib.hid (Tm.walk_go (a := a) (kids := kids) htr)
    clear htr
    go_enter Tryd.func67, Tryd.ntmps67
    go_wp2_with (fail)
    rw [HC.out]
    refine HT.out.mono ?_
    rintro e w2 ⟨hgr, rfl, hslim, cur2, Al2, cl2, hx2, ho2, hc2, hl2, hz2'⟩
    obtain ⟨p1, hp1⟩ : ∃ p, lv'.length = p := ⟨_, rfl⟩
    have f3 := row_cell hx2 hc2.2.2.2.1
    rw [hp1] at f3
    have HE : Hid (Calls Tryd.prog 57 #[.slice Al2 p1 cl2, .func (.func 98) #[] #[]] w2 (EachPost w2 lv')) :=
      each_copied Al2 lv' p1 cl2 w2 hp1 (by rw [← hp1]; exact hslim.1) (fun l hl => hslim.2 l hl) hl2
    have HGR := Lib.hid hgr
    have HX2 := Lib.hid hx2
    have HO2 := Lib.hid ho2
    have HC2 := Lib.hid hc2
    have HP1 := Lib.hid hp1
    clear hgr hslim hx2 ho2 hc2 hl2 hz2' hp1 y0 y1 HC
    go_wp2_with (fail)
    refine HE.out.mono ?_
    rintro e w3 ⟨A3, c3, rfl, hrow, hb3⟩
    rw [HP1.out] at hrow ⊢
    have hx3 := (hb3.block g (heap_some_lt HX2.out)).trans HX2.out
    have hc2 := HC2.out
    rw [HP1.out] at hc2
    have f3 := row_cell hx3 hc2.2.2.2.1
    have z3 := thawed hx3 (o + 3)
    obtain ⟨w4, hw4⟩ : ∃ x, w3.setCell ⟨g, o + 3, none⟩ (.slice A3 p1 c3) = x := ⟨_, rfl⟩
    have hx4 : w4.heap[g]? = some (.cells (cur2.setIfInBounds (o + 3) (.slice A3 p1 c3)) 27 (0, 0)) := by rw [← hw4]; exact set_same hx3 _ _
    have hc4 := hc2.set3 (.slice A3 p1 c3)
    have ho4 : Only5 cur (cur2.setIfInBounds (o + 3) (.slice A3 p1 c3)) o := HO2.out.trans (Only5.set _ (by omega) (by omega))
    obtain ⟨cur4, hcur4⟩ : ∃ x, cur2.setIfInBounds (o + 3) (.slice A3 p1 c3) = x := ⟨_, rfl⟩
    rw [hcur4] at hx4 hc4 ho4
    have f4 := row_cell hx4 hc4.2.2.2.2
    have hs4 : w4.heap.size = w3.heap.size := by rw [← hw4]; simp [World.setCell]
    have hg4 : w.grownBy w4 (some g) := by
      rw [← hw4]
      exact grown_set (grown_on (grown_trans (grown_belowT HB1.out _) HGR.out) hb3 (by have := HGR.out.size; have := HS1.out; omega)) _ _
    have hrow4 : OwnRowL w4 w.heap.size w4.heap.size (.slice A3 p1 c3) lv' := by
      rw [hs4, ← hw4]
      exact (hrow.kept (keptIn_setCell _ _ _ (by have := heap_some_lt HX2.out; omega))).wide (by have := HGR.out.size; have := HS1.out; omega) (Nat.le_refl _)
    have hbox4 : w4.heap[w.heap.size]? = some (.cells #[.int .i64 (d : Int), .func (.func fid) #[] caps] 78 (0, 0)) := by
      have hne : w.heap.size ≠ g := by have := HGL.out; omega
      rw [← hw4, Below.heap_setCell _ _ _ _ hne, hb3.block _ (by have := HGR.out.size; have := HS1.out; omega), HGR.out.block _ (by have := HS1.out; omega) (fun e => hne (Option.some.inj e))]
      exact HX1.out
    have HX4 := Lib.hid hx4
    have HC4 := Lib.hid hc4
    have HO4 := Lib.hid ho4
    have HG4 := Lib.hid hg4
    have HR4 := Lib.hid hrow4
    have HB4 := Lib.hid hbox4
    clear hrow hb3 hx3 hc2 hx4 hc4 ho4 hcur4 hs4 hg4 hrow4 hbox4 HE HT HX2 HC2 HO2 HGR HX1 HXG
    have HEND : Hid (∀ (wr : World) (vk : Value) (cur6 : Array Value) (m2 : Nat) (xs : List Value), w4.grownBy wr (some g) → (∃ A c, vk = .slice A p2 c) → wr.heap[g]? = some (.cells cur6 27 (0, 0)) → cur6 = cur4.setIfInBounds (o + 4) vk → OwnRowL wr w.heap.size w4.heap.size (.slice A3 p1 c3) lv' →
        RowIn wr w4.heap.size m2 27 5 vk p2 xs → OwnTms wr m2 wr.heap.size (Tm.walkL tr d k 0 kids) xs → NodePost w g o cur (Tm.walk tr d (Tm.mk k n a lv kids)) (.returned (.tuple #[])) wr) := fun wr vk cur6 m2 xs h1 _ h2 h3 h4 h5 h6 => by
      refine ⟨rfl, grown_trans HG4.out h1, cur6, _, _, _, _, _, h2, by rw [h3]; exact HO4.out.trans (Only5.set _ (by omega) (by omega)), by rw [h3]; exact HC4.out.set4 vk, ?_⟩
      rw [HW.out]
      unfold OwnTm
      refine ⟨_, _, w4.heap.size, m2, xs, rfl, h4, ⟨A3, c3, by rw [HP1.out]⟩, ?_, h6⟩
      rw [Tm.walkL_length, HP.out]
      exact h5
    have HEMPTY : Hid (∀ w5, w4.grownBy w5 none → p2 = 0 → NodePost w g o cur (Tm.walk tr d (Tm.mk k n a lv kids)) (.returned (.tuple #[])) (w5.setCell ⟨g, o + 4, none⟩ (.slice none 0 0))) := fun w5 h1 h2 => by
      have hx5 := (h1.block g (heap_some_lt HX4.out) (by simp)).trans HX4.out
      have hs5 : (w5.setCell ⟨g, o + 4, none⟩ (.slice none 0 0)).heap.size = w5.heap.size := by simp [World.setCell]
      have h1s := h1.size
      have e0 : Tm.walkL tr d k 0 kids = [] := List.eq_nil_of_length_eq_zero (by rw [Tm.walkL_length, HP.out, h2])
      refine HEND.out _ (.slice none 0 0) _ w4.heap.size [] (grown_set (grown_on (grown_refl _ _) (grown_under h1) (Nat.le_refl _)) _ _) ⟨none, 0, by rw [h2]⟩ (set_same hx5 _ _) rfl ?_ ?_ ?_
      · exact (HR4.out.kept (keptIn_below (grown_under h1) (Nat.le_refl _))).kept (keptIn_setCell _ _ _ (by have := HGL.out; omega))
      · rw [h2]
        exact ⟨Nat.le_refl _, ⟨none, 0, rfl, by simp⟩, own_nil _ _ _ _, fun k hk => by cases hk⟩
      · rw [e0]
        unfold OwnTms
        exact ⟨rfl, by omega⟩
    rcases Ak with _ | ad
    · have hck := HQ.out.1 rfl
      subst hck
      have hp0 : p2 = 0 := by
        rcases Nat.eq_zero_or_pos p2 with h | h
        · exact h
        · obtain ⟨b, oo, e, _⟩ := HQ.out.2 (by rw [HP.out]; exact h)
          cases e
      subst hp0
      have HFIN := Lib.hid (HEMPTY.out w4 (grown_refl _ _) rfl)
      obtain ⟨w6, hw6⟩ : ∃ x, w4.setCell ⟨g, o + 4, none⟩ (.slice none 0 0) = x := ⟨_, rfl⟩
      have f6 : w6.cell? ⟨g, o + 4, none⟩ = some (.slice none 0 0) := by
        rw [← hw6]
        exact row_cell (set_same HX4.out _ _) (by rw [Array.getElem?_setIfInBounds, if_pos rfl, if_pos (Array.getElem?_eq_some_iff.1 HC4.out.2.2.2.2).1])
      have z4 := thawed HX4.out (o + 4)
      rw [hw6] at HFIN
      clear HEMPTY HEND
      go_wp2_with (at_builtin; refine (wpList_append_own_none rfl _ _ 25 rfl w4.heap.size 27 i0 5 Tryd.underlying25 hi (.slice none 0 0) 0 [] rfl (own_nil _ _ _ _) rfl ?_))
      go_wp2
      go_loopw [32] (fun i wr => i = .int .i64 0 ∧ wr = w6) (fun _ _ => 0)
      case atStart => exact ⟨rfl, rfl⟩
      case round =>
        obtain ⟨rfl, rfl⟩ := hrel
        go_wp2
        exact bodyPost_ret (v := .tuple #[]) (by simp [results, Tryd.results67, go_sem]) rfl HFIN.out
    · have hne4 : B ≤ w.heap.size := by have := HGL.out; have := HG.out; omega
      have HBW4 : Hid (Below B W w4) := HBW.out.trans (below_grownT HG4.out HG.out hne4)
      obtain ⟨xs0, hxl, hxc, hxo, hxt⟩ : ∃ xs0 : List Value, xs0.length = p2 * 5 ∧ (∀ j u, xs0[j]? = some u → w4.cell? (ad.add j) = some u) ∧ (∀ u ∈ xs0, u.oneCell' = true) ∧ ∀ i t, kids[i]? = some t → ∃ c0 c1 c2 c3 c4, xs0[i * 5]? = some c0 ∧ xs0[i * 5 + 1]? = some c1 ∧ xs0[i * 5 + 2]? = some c2 ∧ xs0[i * 5 + 3]? = some c3 ∧ xs0[i * 5 + 4]? = some c4 ∧ TmAt W B t (.agg #[c0, c1, c2, c3, c4]) := by
        rcases Nat.eq_zero_or_pos p2 with h | h
        · have e0 : kids = [] := List.eq_nil_of_length_eq_zero (by rw [HP.out, h])
          exact ⟨[], by simp [h], by simp, by simp, by simp [e0]⟩
        · obtain ⟨b, oo, e, hbB, hts⟩ := HQ.out.2 (by rw [HP.out]; exact h)
          injection e with e
          subst e
          obtain ⟨xs, h1, h2, h3, h4⟩ := Tms.row hts
          exact ⟨xs, by rw [h1, HP.out], fun j u hu => by have := (HBW4.out.cell (p := ⟨b, oo + j, none⟩) hbB).trans (h2 j u hu); rw [addr_add]; exact this, h3, h4⟩
      have HXL := Lib.hid hxl
      have HXC := Lib.hid hxc
      have HXO := Lib.hid hxo
      have HXT := Lib.hid hxt
      have p29 : p2 ≤ 1048576 := HF.out.2.2.1
      clear hxl hxc hxo hxt hne4
      go_wp2_with (at_builtin; refine (wpList_append_own_at _ rfl _ _ 25 rfl w4.heap.size 27 i0 (.agg #[.int .i64 0, .int .i64 0, .int .i64 0, .slice none 0 0, .slice none 0 0]) 5 72 Tryd.underlying25 hi hz0 hz1 hz2 rfl (by decide) (.slice none 0 0) 0 [] rfl (own_nil _ _ _ _) ad p2 ck xs0 rfl HXL.out HXC.out HXO.out ?c1 ?c2 ?c3 ?_))
      case c1 => unfold maxLen; omega
      case c2 => omega
      case c3 => exact Nat.le_refl _
      intro v w5 ho hg5 _ _
      have hg5 : w4.grownBy w5 none := hg5
      have hx5 := (hg5.block g (heap_some_lt HX4.out) (by simp)).trans HX4.out
      have f5 := row_cell hx5 HC4.out.2.2.2.2
      have z5 := thawed hx5 (o + 4)
      have hin : o + 4 < cur4.size := (Array.getElem?_eq_some_iff.1 HC4.out.2.2.2.2).1
      rcases ho.2 with ⟨rfl, hp0⟩ | ⟨g', cap, cur6, rfl, b1, b2, b3, b4, b5, b6⟩
      · have HFIN := Lib.hid (HEMPTY.out w5 hg5 hp0)
        obtain ⟨w6, hw6⟩ : ∃ x, w5.setCell ⟨g, o + 4, none⟩ (.slice none 0 0) = x := ⟨_, rfl⟩
        have f6 : w6.cell? ⟨g, o + 4, none⟩ = some (.slice none 0 0) := by
          rw [← hw6]
          exact row_cell (set_same hx5 _ _) (by rw [Array.getElem?_setIfInBounds, if_pos rfl, if_pos hin])
        rw [hw6] at HFIN
        clear HEMPTY HEND ho hg5 hx5
        go_wp2
        go_loopw [32] (fun i wr => i = .int .i64 0 ∧ wr = w6) (fun _ _ => 0)
        case atStart => exact ⟨rfl, rfl⟩
        case round =>
          obtain ⟨rfl, rfl⟩ := hrel
          go_wp2
          exact bodyPost_ret (v := .tuple #[]) (by simp [results, Tryd.results67, go_sem]) rfl HFIN.out
      · obtain ⟨w6, hw6⟩ : ∃ x, w5.setCell ⟨g, o + 4, none⟩ (.slice (some ⟨g', 0, none⟩) p2 cap) = x := ⟨_, rfl⟩
        have gg : g < g' := by have := heap_some_lt HX4.out; omega
        have hx6 : w6.heap[g]? = some (.cells (cur4.setIfInBounds (o + 4) (.slice (some ⟨g', 0, none⟩) p2 cap)) 27 (0, 0)) := by rw [← hw6]; exact set_same hx5 _ _
        have hc6 := HC4.out.set4 (.slice (some ⟨g', 0, none⟩) p2 cap)
        have hr6 : w6.heap[g']? = some (.cells cur6 27 (0, 0)) := by rw [← hw6, Below.heap_setCell _ _ _ _ (by show g' ≠ g; omega)]; exact b2
        have hs6 : w6.heap.size = w5.heap.size := by rw [← hw6]; simp [World.setCell]
        have hg46 : w4.grownBy w6 (some g) := by rw [← hw6]; exact grown_set (grown_on (grown_refl _ _) (grown_under hg5) (Nat.le_refl _)) _ _
        have f6 := row_cell hx6 hc6.2.2.2.2
        have hgl6 := heap_some_lt hr6
        have hbx6 : w6.heap[w.heap.size]? = some (.cells #[.int .i64 (d : Int), .func (.func fid) #[] caps] 78 (0, 0)) := (hg46.block _ (heap_some_lt HB4.out) (fun e => by have := HGL.out; have := Option.some.inj e; omega)).trans HB4.out
        have hbg : w.heap.size < w4.heap.size := heap_some_lt HB4.out
        have h46 := hg46.size
        have HB6 := Lib.hid hbx6
        have HX6 := Lib.hid hx6
        have HC6 := Lib.hid hc6
        have HR6 := Lib.hid hr6
        have HG46 := Lib.hid hg46
        have HBW6 : Hid (Below B W w6) := HBW4.out.trans (below_grownT hg46 HG.out (by have := HGL.out; have := HG.out; omega))
        have HXS : Hid (∀ j, j < p2 * 5 → cur6[j]? = xs0[j]?) := fun j hj => by
          rw [← b6, List.getElem?_take, if_pos hj, Array.getElem?_toList]
        have HCAP : Hid (p2 ≤ cap ∧ cap ≤ maxLen ∧ cur6.size = cap * 5) := ⟨b3, b4, b5⟩
        have HR46 : Hid (OwnRowL w6 w.heap.size w4.heap.size (.slice A3 p1 c3) lv') := HR4.out.kept (grown_kept hg46 (by have := HGL.out; omega) (Nat.le_refl _))
        clear HEMPTY ho hg5 hx5 hx6 hc6 hr6 hg46 hbx6 b2 b6 HXC HXO HX4 HC4 HO4 HB4 HR4 b3 b4 b5
        go_wp2
        go_loopw [32] (fun i wr => ∃ j : Nat, j ≤ p2 ∧ i = .int .i64 (j : Int) ∧ KidsW w6 g' cur6 (Tm.walkL tr d k 0 kids) j wr) (fun i _ => p2 - (intOf i).toNat)
        case atStart => exact ⟨0, Nat.zero_le _, rfl, KidsW.start _ HR6.out⟩
        case round =>
          obtain ⟨j, hj, rfl, hgr, curj, xs, hxr, hsr, hrest, hown, hdone⟩ := hrel
          have hgs := hgr.size
          have hxg := (hgr.block g (by omega) (fun e => by have := Option.some.inj e; omega)).trans HX6.out
          by_cases hlt : j < p2
          · obtain ⟨t, ht⟩ : ∃ t, kids[j]? = some t := ⟨_, List.getElem?_eq_getElem (by rw [HP.out]; exact hlt)⟩
            obtain ⟨c0, c1, c2, c3', c4, d0, d1, d2, d3, d4, hv⟩ := HXT.out j t ht
            have fg0 := row_cell hxg HC6.out.1
            have fg4 := row_cell hxg HC6.out.2.2.2.2
            have hbx := (hgr.block w.heap.size (by omega) (fun e => by have := Option.some.inj e; omega)).trans HB6.out
            have y0 := cell_of_row _ _ 0 _ _ (0, 0) hbx
            have y1 := cell_of_row _ _ 1 _ _ (0, 0) hbx
            have lb := heap_some_lt hbx
            have lg := heap_some_lt hxg
            have hsz := Tm.sizeL_mem (List.mem_of_getElem? ht)
            have hu := under_le k j
            have hd9 := HD.out
            have HBL : Hid (∀ w', Below wr.heap.size wr w' → Calls Tryd.prog 82 #[.agg #[.int .i64 (d : Int)], .int .i64 k, .int .i64 (j : Int)] w' (fun e w9 => e = .returned (.agg #[.int .i64 ((d + under k j : Nat) : Int)]) ∧ Below w'.heap.size w' w9)) := fun w' hx => by
              refine below_any d k j w' (by omega) (by omega) (HK.out.below (HBW6.out.trans ((below_grownT hgr (by have := HG.out; omega) (by have := HG.out; omega)).trans (hx.mono (by have := HG.out; omega)))) HB.out)
            have HN : Hid (∀ w', Below wr.heap.size wr w' → Calls Tryd.prog 67 #[.agg #[.int .i64 ((d + under k j : Nat) : Int), .func (.func fid) #[] caps], .pointer (some ⟨g', j * 5, none⟩)] w' (NodePost w' g' (j * 5) curj (t.walk tr (d + under k j)))) := fun w' hx => by
              have hx' := (hx.block g' (by omega)).trans hxr
              refine IH.out t (List.mem_of_getElem? ht) ((Tm.fitL_iff _).1 HF.out.2.2.2 t (List.mem_of_getElem? ht)) (d + under k j) w' g' (j * 5) curj c0 c1 c2 c3' c4 (by omega) (HBW6.out.trans ((below_grownT hgr (by have := HG.out; omega) (by have := HG.out; omega)).trans (hx.mono (by have := HG.out; omega)))) (by have := HG.out; omega) hx' ?_ hv
              refine ⟨?_, ?_, ?_, ?_, ?_⟩ <;> rw [hrest _ (by omega), HXS.out _ (by omega)]
              · exact d0
              · exact d1
              · exact d2
              · exact d3
              · exact d4
            have HSTEP : Hid (∀ w7 e w8, Below wr.heap.size wr w7 → NodePost w7 g' (j * 5) curj (t.walk tr (d + under k j)) e w8 → e = .returned (.tuple #[]) ∧ KidsW w6 g' cur6 (Tm.walkL tr d k 0 kids) (j + 1) w8) := fun w7 e w8 hb7 h => by
              obtain ⟨rfl, n1, cur8, b0, b1', b2', b3', b4', n2, n3, n4, n5⟩ := h
              exact ⟨rfl, KidsW.next hgl6 (u := t.walk tr (d + under k j)) (by rw [Tm.walkL_get, ht, Nat.zero_add]; rfl) hgr hsr hrest hown hdone hb7 n1 n2 n3 n4 n5⟩
            obtain ⟨d', hd'⟩ : ∃ d' : Nat, d + under k j = d' := ⟨_, rfl⟩
            rw [hd'] at HBL HN HSTEP
            have ij0 : (0 : Int) ≤ (j : Int) := by omega
            have ij1 : (j : Int) < (p2 : Int) := by omega
            clear hd' hgr hxr hsr hrest hown hdone hxg hv d0 d1 d2 d3 d4 hbx ht hsz hd9 hu hgs HEND IH HXT
            go_upto_region 7 with (fail)
            have hS : Below wr.heap.size wr wr.drew := (Below.refl _ _).drew
            refine wp_region_tail 17 (fun w' => Below wr.heap.size wr w') (fun w1 w2 : World => Below w1.heap.size w1 w2) [(fun (x : Value) (_ : World) => x = (.pointer (some ⟨w.heap.size, 0, none⟩) : Value)), (fun (x : Value) (_ : World) => x = (.agg #[.int .i64 (d : Int)] : Value)), (fun (x : Value) (_ : World) => x = (.pointer (some ⟨g, o, none⟩) : Value)), (fun (x : Value) (_ : World) => x = (.pointer (some ⟨g, o, none⟩) : Value)), (fun (x : Value) (_ : World) => x = (.pointer (some ⟨g, o, none⟩) : Value)), (fun (x : Value) (_ : World) => x = (.int .i64 k : Value)), (fun (x : Value) (_ : World) => x = (.int .i64 (j : Int) : Value)), (fun (x : Value) (_ : World) => x = (.agg #[.int .i64 (d' : Int)] : Value)), (fun (x : Value) (_ : World) => x = (.pointer (some ⟨w.heap.size, 0 + 1, none⟩) : Value)), (fun (x : Value) (_ : World) => x = (.func (.func fid) #[] caps : Value)), (fun (x : Value) (_ : World) => x = (.agg #[.int .i64 (d' : Int), .func (.func fid) #[] caps] : Value)), (fun (x : Value) (_ : World) => x = (.pointer (some ⟨g, o, none⟩) : Value)), (fun (x : Value) (_ : World) => x = (.pointer (some ⟨g, o, none⟩) : Value)), (fun (x : Value) (_ : World) => x = (.pointer (some ⟨g, o + 4, none⟩) : Value)), (fun (x : Value) (_ : World) => x = (.slice (some ⟨g', 0, none⟩) p2 cap : Value)), (fun (x : Value) (_ : World) => x = (.int .i64 (j : Int) : Value)), (fun (x : Value) (_ : World) => x = (.pointer (some ⟨g', 0 + j * 5, none⟩) : Value))] [⟨some 35, .fieldAddr 78 (.tmp 2) 0, none, []⟩, ⟨some 36, .load 72 (.tmp 35), none, [(35, 0)]⟩, ⟨some 37, .move (.tmp 1), none, []⟩, ⟨some 38, .nilCheck (.tmp 37), none, [(37, 2)]⟩, ⟨some 39, .fieldAddr 27 (.tmp 38) 0, none, [(38, 3)]⟩, ⟨some 40, .load 23 (.tmp 39), none, [(39, 4)]⟩, ⟨some 41, .move (.tmp 4), none, []⟩, ⟨some 42, .call { callee := .value (.func 82), args := #[.tmp 36, .tmp 40, .tmp 41], argTypes := #[72, 23, 3] }, none, [(36, 1), (40, 5), (41, 6)]⟩, ⟨some 43, .fieldAddr 78 (.tmp 2) 1, none, []⟩, ⟨some 44, .load 76 (.tmp 43), none, [(43, 8)]⟩, ⟨some 45, .build 78 #[(0, .tmp 42), (1, .tmp 44)], none, [(42, 7), (44, 9)]⟩, ⟨some 46, .move (.tmp 1), none, []⟩, ⟨some 47, .nilCheck (.tmp 46), none, [(46, 11)]⟩, ⟨some 48, .fieldAddr 27 (.tmp 47) 4, none, [(47, 12)]⟩, ⟨some 49, .load 25 (.tmp 48), none, [(48, 13)]⟩, ⟨some 50, .move (.tmp 4), none, []⟩, ⟨some 51, .indexAddr 25 (.tmp 49) (.tmp 50), none, [(49, 14), (50, 15)]⟩] [some 35, some 36, some 37, some 38, some 39, some 40, some 41, some 42, some 43, some 44, some 45, some 46, some 47, some 48, some 49, some 50, some 51] [] [] (by kernel_rfl) (by kernel_rfl) (by kernel_rfl) (by kernel_rfl) (by kernel_rfl) (by kernel_rfl) (by kernel_rfl) (by kernel_rfl) ?hrun ?hold ?hS ?hmono ?hsteps ?hfin
            case hrun => exact fun p hp => by cases hp
            case hold => exact fun p hp => by cases hp
            case hS => exact hS
            case hmono =>
              refine MonoL.cons (fun x w1 w2 _ _ _ hx => hx) ?_
              refine MonoL.cons (fun x w1 w2 _ _ _ hx => hx) ?_
              refine MonoL.cons (fun x w1 w2 _ _ _ hx => hx) ?_
              refine MonoL.cons (fun x w1 w2 _ _ _ hx => hx) ?_
              refine MonoL.cons (fun x w1 w2 _ _ _ hx => hx) ?_
              refine MonoL.cons (fun x w1 w2 _ _ _ hx => hx) ?_
              refine MonoL.cons (fun x w1 w2 _ _ _ hx => hx) ?_
              refine MonoL.cons (fun x w1 w2 _ _ _ hx => hx) ?_
              refine MonoL.cons (fun x w1 w2 _ _ _ hx => hx) ?_
              refine MonoL.cons (fun x w1 w2 _ _ _ hx => hx) ?_
              refine MonoL.cons (fun x w1 w2 _ _ _ hx => hx) ?_
              refine MonoL.cons (fun x w1 w2 _ _ _ hx => hx) ?_
              refine MonoL.cons (fun x w1 w2 _ _ _ hx => hx) ?_
              refine MonoL.cons (fun x w1 w2 _ _ _ hx => hx) ?_
              refine MonoL.cons (fun x w1 w2 _ _ _ hx => hx) ?_
              refine MonoL.cons (fun x w1 w2 _ _ _ hx => hx) ?_
              refine MonoL.cons (fun x w1 w2 _ _ _ hx => hx) ?_
              exact MonoL.nil
            case hsteps =>
              refine StepsT.cons (fun (x : Value) (_ : World) => x = (.pointer (some ⟨w.heap.size, 0, none⟩) : Value)) [] rfl rfl (fun oq hop _ wq hQS => ?_) ?_
              · exact StepFrom.fieldAddr hop (p := (.pointer (some ⟨w.heap.size, 0, none⟩) : Value)) (by kernel_rfl) (walk_field0) (by kernel_rfl) hQS (Below.refl _ _) rfl
              refine StepsT.cons (fun (x : Value) (_ : World) => x = (.agg #[.int .i64 (d : Int)] : Value)) [(35, (fun (x : Value) (_ : World) => x = (.pointer (some ⟨w.heap.size, 0, none⟩) : Value)))] rfl rfl (fun oq hop _ wq hQS => ?_) ?_
              · refine StepFrom.more_eq ((.pointer (some ⟨w.heap.size, 0, none⟩) : Value)) ?_
                exact StepFrom.load hop (p := (.pointer (some ⟨w.heap.size, 0, none⟩) : Value)) (by kernel_rfl) (load_depth ((hQS.cell (p := ⟨w.heap.size, 0, none⟩) lb).trans y0)) (by kernel_rfl) hQS (Below.refl _ _) rfl
              refine StepsT.cons (fun (x : Value) (_ : World) => x = (.pointer (some ⟨g, o, none⟩) : Value)) [] rfl rfl (fun oq hop _ wq hQS => ?_) ?_
              · exact StepFrom.move hop (v := (.pointer (some ⟨g, o, none⟩) : Value)) (by kernel_rfl) (by kernel_rfl) hQS (Below.refl _ _) rfl
              refine StepsT.cons (fun (x : Value) (_ : World) => x = (.pointer (some ⟨g, o, none⟩) : Value)) [(37, (fun (x : Value) (_ : World) => x = (.pointer (some ⟨g, o, none⟩) : Value)))] rfl rfl (fun oq hop _ wq hQS => ?_) ?_
              · refine StepFrom.more_eq ((.pointer (some ⟨g, o, none⟩) : Value)) ?_
                exact StepFrom.nilCheck hop (show _ = (.pointer (some ⟨g, o, none⟩) : Value) by kernel_rfl) (by kernel_rfl) hQS (Below.refl _ _) rfl
              refine StepsT.cons (fun (x : Value) (_ : World) => x = (.pointer (some ⟨g, o, none⟩) : Value)) [(38, (fun (x : Value) (_ : World) => x = (.pointer (some ⟨g, o, none⟩) : Value)))] rfl rfl (fun oq hop _ wq hQS => ?_) ?_
              · refine StepFrom.more_eq ((.pointer (some ⟨g, o, none⟩) : Value)) ?_
                exact StepFrom.fieldAddr hop (p := (.pointer (some ⟨g, o, none⟩) : Value)) (by kernel_rfl) (term_field 0 (by decide)) (by kernel_rfl) hQS (Below.refl _ _) rfl
              refine StepsT.cons (fun (x : Value) (_ : World) => x = (.int .i64 k : Value)) [(39, (fun (x : Value) (_ : World) => x = (.pointer (some ⟨g, o, none⟩) : Value)))] rfl rfl (fun oq hop _ wq hQS => ?_) ?_
              · refine StepFrom.more_eq ((.pointer (some ⟨g, o, none⟩) : Value)) ?_
                exact StepFrom.load hop (p := (.pointer (some ⟨g, o, none⟩) : Value)) (by kernel_rfl) (load_kind ((hQS.cell (p := ⟨g, o, none⟩) lg).trans fg0)) (by kernel_rfl) hQS (Below.refl _ _) rfl
              refine StepsT.cons (fun (x : Value) (_ : World) => x = (.int .i64 (j : Int) : Value)) [] rfl rfl (fun oq hop _ wq hQS => ?_) ?_
              · exact StepFrom.move hop (v := (.int .i64 (j : Int) : Value)) (by kernel_rfl) (by kernel_rfl) hQS (Below.refl _ _) rfl
              refine StepsT.cons (fun (x : Value) (_ : World) => x = (.agg #[.int .i64 (d' : Int)] : Value)) [(36, (fun (x : Value) (_ : World) => x = (.agg #[.int .i64 (d : Int)] : Value))), (40, (fun (x : Value) (_ : World) => x = (.int .i64 k : Value))), (41, (fun (x : Value) (_ : World) => x = (.int .i64 (j : Int) : Value)))] rfl rfl (fun oq hop _ wq hQS => ?_) ?_
              · refine StepFrom.more_eq ((.agg #[.int .i64 (d : Int)] : Value)) ?_
                refine StepFrom.more_eq ((.int .i64 k : Value)) ?_
                refine StepFrom.more_eq ((.int .i64 (j : Int) : Value)) ?_
                exact StepFrom.call hop (vs := [(.agg #[.int .i64 (d : Int)] : Value), (.int .i64 k : Value), (.int .i64 (j : Int) : Value)]) (by kernel_rfl) (fun w => enter_below _ w) (by kernel_rfl) ((HBL.out wq hQS).mono fun e w9 h9 => by obtain ⟨q1, q2⟩ := h9; exact ⟨_, q1, hQS.trans (q2.mono hQS.size), q2, rfl⟩)
              refine StepsT.cons (fun (x : Value) (_ : World) => x = (.pointer (some ⟨w.heap.size, 0 + 1, none⟩) : Value)) [] rfl rfl (fun oq hop _ wq hQS => ?_) ?_
              · exact StepFrom.fieldAddr hop (p := (.pointer (some ⟨w.heap.size, 0, none⟩) : Value)) (by kernel_rfl) (walk_field1) (by kernel_rfl) hQS (Below.refl _ _) rfl
              refine StepsT.cons (fun (x : Value) (_ : World) => x = (.func (.func fid) #[] caps : Value)) [(43, (fun (x : Value) (_ : World) => x = (.pointer (some ⟨w.heap.size, 0 + 1, none⟩) : Value)))] rfl rfl (fun oq hop _ wq hQS => ?_) ?_
              · refine StepFrom.more_eq ((.pointer (some ⟨w.heap.size, 0 + 1, none⟩) : Value)) ?_
                exact StepFrom.load hop (p := (.pointer (some ⟨w.heap.size, 0 + 1, none⟩) : Value)) (by kernel_rfl) (load_turn ((hQS.cell (p := ⟨w.heap.size, 1, none⟩) lb).trans y1)) (by kernel_rfl) hQS (Below.refl _ _) rfl
              refine StepsT.cons (fun (x : Value) (_ : World) => x = (.agg #[.int .i64 (d' : Int), .func (.func fid) #[] caps] : Value)) [(42, (fun (x : Value) (_ : World) => x = (.agg #[.int .i64 (d' : Int)] : Value))), (44, (fun (x : Value) (_ : World) => x = (.func (.func fid) #[] caps : Value)))] rfl rfl (fun oq hop _ wq hQS => ?_) ?_
              · refine StepFrom.more_eq ((.agg #[.int .i64 (d' : Int)] : Value)) ?_
                refine StepFrom.more_eq ((.func (.func fid) #[] caps : Value)) ?_
                exact StepFrom.build hop (vs := [(0, .agg #[.int .i64 (d' : Int)]), (1, .func (.func fid) #[] caps)]) (by kernel_rfl) (build_walk _ _ _ _) (by kernel_rfl) hQS (Below.refl _ _) rfl
              refine StepsT.cons (fun (x : Value) (_ : World) => x = (.pointer (some ⟨g, o, none⟩) : Value)) [] rfl rfl (fun oq hop _ wq hQS => ?_) ?_
              · exact StepFrom.move hop (v := (.pointer (some ⟨g, o, none⟩) : Value)) (by kernel_rfl) (by kernel_rfl) hQS (Below.refl _ _) rfl
              refine StepsT.cons (fun (x : Value) (_ : World) => x = (.pointer (some ⟨g, o, none⟩) : Value)) [(46, (fun (x : Value) (_ : World) => x = (.pointer (some ⟨g, o, none⟩) : Value)))] rfl rfl (fun oq hop _ wq hQS => ?_) ?_
              · refine StepFrom.more_eq ((.pointer (some ⟨g, o, none⟩) : Value)) ?_
                exact StepFrom.nilCheck hop (show _ = (.pointer (some ⟨g, o, none⟩) : Value) by kernel_rfl) (by kernel_rfl) hQS (Below.refl _ _) rfl
              refine StepsT.cons (fun (x : Value) (_ : World) => x = (.pointer (some ⟨g, o + 4, none⟩) : Value)) [(47, (fun (x : Value) (_ : World) => x = (.pointer (some ⟨g, o, none⟩) : Value)))] rfl rfl (fun oq hop _ wq hQS => ?_) ?_
              · refine StepFrom.more_eq ((.pointer (some ⟨g, o, none⟩) : Value)) ?_
                exact StepFrom.fieldAddr hop (p := (.pointer (some ⟨g, o, none⟩) : Value)) (by kernel_rfl) (term_field 4 (by decide)) (by kernel_rfl) hQS (Below.refl _ _) rfl
              refine StepsT.cons (fun (x : Value) (_ : World) => x = (.slice (some ⟨g', 0, none⟩) p2 cap : Value)) [(48, (fun (x : Value) (_ : World) => x = (.pointer (some ⟨g, o + 4, none⟩) : Value)))] rfl rfl (fun oq hop _ wq hQS => ?_) ?_
              · refine StepFrom.more_eq ((.pointer (some ⟨g, o + 4, none⟩) : Value)) ?_
                exact StepFrom.load hop (p := (.pointer (some ⟨g, o + 4, none⟩) : Value)) (by kernel_rfl) (load_terms ((hQS.cell (p := ⟨g, o + 4, none⟩) lg).trans fg4)) (by kernel_rfl) hQS (Below.refl _ _) rfl
              refine StepsT.cons (fun (x : Value) (_ : World) => x = (.int .i64 (j : Int) : Value)) [] rfl rfl (fun oq hop _ wq hQS => ?_) ?_
              · exact StepFrom.move hop (v := (.int .i64 (j : Int) : Value)) (by kernel_rfl) (by kernel_rfl) hQS (Below.refl _ _) rfl
              refine StepsT.cons (fun (x : Value) (_ : World) => x = (.pointer (some ⟨g', 0 + j * 5, none⟩) : Value)) [(49, (fun (x : Value) (_ : World) => x = (.slice (some ⟨g', 0, none⟩) p2 cap : Value))), (50, (fun (x : Value) (_ : World) => x = (.int .i64 (j : Int) : Value)))] rfl rfl (fun oq hop _ wq hQS => ?_) ?_
              · refine StepFrom.more_eq ((.slice (some ⟨g', 0, none⟩) p2 cap : Value)) ?_
                refine StepFrom.more_eq ((.int .i64 (j : Int) : Value)) ?_
                exact StepFrom.indexAddr hop (p := (.slice (some ⟨g', 0, none⟩) p2 cap : Value)) (q := (.int .i64 (j : Int) : Value)) (by kernel_rfl) (by kernel_rfl) (term_addr ij0 ij1) (by kernel_rfl) hQS (Below.refl _ _) rfl
              exact StepsT.nil
            case hfin =>
              intro wf hFS
              refine FinalFrom.more fun x35 h35 => ?_
              refine FinalFrom.more fun x36 h36 => ?_
              refine FinalFrom.more fun x37 h37 => ?_
              refine FinalFrom.more fun x38 h38 => ?_
              refine FinalFrom.more fun x39 h39 => ?_
              refine FinalFrom.more fun x40 h40 => ?_
              refine FinalFrom.more fun x41 h41 => ?_
              refine FinalFrom.more fun x42 h42 => ?_
              refine FinalFrom.more fun x43 h43 => ?_
              refine FinalFrom.more fun x44 h44 => ?_
              refine FinalFrom.more fun x45 h45 => ?_
              refine FinalFrom.more fun x46 h46 => ?_
              refine FinalFrom.more fun x47 h47 => ?_
              refine FinalFrom.more fun x48 h48 => ?_
              refine FinalFrom.more fun x49 h49 => ?_
              refine FinalFrom.more fun x50 h50 => ?_
              refine FinalFrom.more fun x51 h51 => ?_
              refine FinalFrom.done ?_
              intro _
              simp only [Act.put, List.setIfInBounds_toArray, List.set_cons_zero, List.set_cons_succ, List.drop_succ_cons, List.drop_zero, h35, h36, h37, h38, h39, h40, h41, h42, h43, h44, h45, h46, h47, h48, h49, h50, h51]
              clear h35 h36 h37 h38 h39 h40 h41 h42 h43 h44 h45 h46 h47 h48 h49 h50 h51 hS
              have HFS := Lib.hid hFS
              clear hFS fg0 fg4 y0 y1
              go_wp2_with (fail)
              refine (HN.out _ HFS.out).mono ?_
              intro e w8 hpost
              obtain ⟨rfl, hk8⟩ := HSTEP.out _ _ _ HFS.out hpost
              have HK8 := Lib.hid hk8
              clear hpost hk8 HSTEP HN
              go_wp2
              go_roundw
              case rel => exact ⟨j + 1, by omega, by go_num, HK8.out⟩
              case measure => simp [intOf]; omega
          · have hjp : j = p2 := by omega
            subst hjp
            have hul : (Tm.walkL tr d k 0 kids).length = j := by rw [Tm.walkL_length, HP.out]
            rw [List.take_of_length_le (by omega)] at hown
            have hxl := hown.length
            rw [hul] at hxl
            have HFIN : Hid (NodePost w g o cur (Tm.walk tr d (Tm.mk k n a lv kids)) (.returned (.tuple #[])) wr) := by
              refine HEND.out wr (.slice (some ⟨g', 0, none⟩) j cap) _ w6.heap.size xs (grown_new HG46.out hgr (by omega)) ⟨_, _, rfl⟩ hxg rfl (HR46.out.kept (grown_kept hgr (by omega) (by omega))) ⟨by omega, ⟨_, _, rfl, by omega⟩, ⟨hxl, Or.inr ⟨g', cap, curj, rfl, b1, hxr, HCAP.out.1, HCAP.out.2.1, hsr.trans HCAP.out.2.2, ?_⟩⟩, fun q hq => by have hq : g' = q := Option.some.inj hq; omega⟩ hown
              refine List.ext_getElem? fun i => ?_
              rw [List.getElem?_take]
              split
              · rename_i h
                rw [Array.getElem?_toList, hdone i h]
              · rw [List.getElem?_eq_none (by omega)]
            clear hgr hxr hsr hrest hown hdone hxg HEND
            go_wp2
            exact bodyPost_ret (v := .tuple #[]) (by simp [results, Tryd.results67, go_sem]) rfl HFIN.out
/-- walk.node makes of any node what its walk is. -/
theorem node_any (W : World) (B D fid : Nat) (caps : Array Value) (tr : Turn) (hD : D ≤ 1073741824) (hB : 0 < B) (hK : KindsAt W) (hcall : ∀ vs w, (callFunc fid vs).run Tryd.prog w = .ok (.enter fid vs) w) (hT : TurnOk W B D fid caps tr) : ∀ t, NodeTm W B D fid caps tr t := by
  intro t
  induction t using Tm.ind with
  | h k n a lv kids ih => exact node_of W B D fid caps tr hD hB hK hcall hT k n a lv kids ih
end Go.Proofs.YtfgnnbpbbnnnhaaDoor
namespace Go.Proofs.YtfgnnbpbbnnnhaaDoor
open Go.RowKit Go.Maps
/-- five cells, stored one by one -/
def store5 (w : World) (b o : Nat) (c0 c1 c2 c3 c4 : Value) : World := ((((w.setCell ⟨b, o, none⟩ c0).setCell ⟨b, o + 1, none⟩ c1).setCell ⟨b, o + 2, none⟩ c2).setCell ⟨b, o + 3, none⟩ c3).setCell ⟨b, o + 4, none⟩ c4
theorem store5_post {w : World} {b : Nat} {cur : Array Value} {t : TypeId} {fr : Nat × Nat} (h : w.heap[b]? = some (.cells cur t fr)) {o : Nat} (hs : o + 5 ≤ cur.size) (c0 c1 c2 c3 c4 : Value) :
    w.grownBy (store5 w b o c0 c1 c2 c3 c4) (some b) ∧ (store5 w b o c0 c1 c2 c3 c4).heap.size = w.heap.size ∧ ∃ cur', (store5 w b o c0 c1 c2 c3 c4).heap[b]? = some (.cells cur' t fr) ∧ Only5 cur cur' o ∧ Cells5 cur' o c0 c1 c2 c3 c4 := by
  refine ⟨grown_set (grown_set (grown_set (grown_set (grown_set (grown_refl _ _) _ _) _ _) _ _) _ _) _ _, by simp [store5, World.setCell], _, set_same (set_same (set_same (set_same (set_same h _ _) _ _) _ _) _ _) _ _, ?_, ?_⟩
  · exact ((((Only5.set _ (by omega) (by omega)).trans (Only5.set _ (by omega) (by omega))).trans (Only5.set _ (by omega) (by omega))).trans (Only5.set _ (by omega) (by omega))).trans (Only5.set _ (by omega) (by omega))
  · have s0 : o < cur.size := by omega
    have s1 : o + 1 < cur.size := by omega
    have s2 : o + 2 < cur.size := by omega
    have s3 : o + 3 < cur.size := by omega
    have s4 : o + 4 < cur.size := by omega
    refine ⟨?_, ?_, ?_, ?_, ?_⟩ <;> simp [s0, s1, s2, s3, s4]
/-- a term of the call's own, told -/
def TermPost (w : World) (u : Tm) (e : Ending) (w' : World) : Prop := ∃ v, e = .returned v ∧ OwnTm w' w.heap.size w'.heap.size u v ∧ Below w.heap.size w w'
set_option maxRecDepth 100000 in
set_option maxHeartbeats 4000000 in
theorem term_of (W : World) (B D fid : Nat) (caps : Array Value) (tr : Turn) (hD : D ≤ 1073741824) (hB : 0 < B) (hK : KindsAt W) (hcall : ∀ vs w, (callFunc fid vs).run Tryd.prog w = .ok (.enter fid vs) w) (hT : TurnOk W B D fid caps tr)
    (k n a : Int) (lv : List (List (Int × Int))) (kids : List Tm) (hf : (Tm.mk k n a lv kids).fit) (d : Nat) (w : World) (Al Ak : Option Addr) (p1 c1 p2 c2 : Nat) (hd : d + (Tm.mk k n a lv kids).size ≤ D) (hb : Below B W w) (hBw : B ≤ w.heap.size) (hv : TmAt W B (.mk k n a lv kids) (.agg #[.int .i64 k, .int .i64 n, .int .i64 a, .slice Al p1 c1, .slice Ak p2 c2])) :
    Calls Tryd.prog 37 #[.agg #[.int .i64 (d : Int), .func (.func fid) #[] caps], .agg #[.int .i64 k, .int .i64 n, .int .i64 a, .slice Al p1 c1, .slice Ak p2 c2]] w (TermPost w ((Tm.mk k n a lv kids).walk tr d)) := by
  obtain ⟨w1, hw1⟩ : ∃ x, ((w.alloc (.cells #[.int .i64 (d : Int), .func (.func fid) #[] caps] 78)).alloc (.cells #[.int .i64 k, .int .i64 n, .int .i64 a, .slice Al p1 c1, .slice Ak p2 c2] 27)).alloc (.cells #[.int .i64 0, .int .i64 0, .int .i64 0, .slice none 0 0, .slice none 0 0] 27) = x := ⟨_, rfl⟩
  have hb1 : Below w.heap.size w w1 := by rw [← hw1]; exact (((Below.refl _ _).alloc (Nat.le_refl _) _).alloc (by simp) _).alloc (by simp; omega) _
  have hs1 : w1.heap.size = w.heap.size + 3 := by rw [← hw1]; simp
  obtain ⟨z1, z2, _⟩ := two_allocs w (.cells #[.int .i64 (d : Int), .func (.func fid) #[] caps] 78) (.cells #[.int .i64 k, .int .i64 n, .int .i64 a, .slice Al p1 c1, .slice Ak p2 c2] 27)
  have x0 : w1.heap[w.heap.size]? = some (.cells #[.int .i64 (d : Int), .func (.func fid) #[] caps] 78 (0, 0)) := by rw [← hw1, Below.heap_alloc _ _ _ (by simp; omega)]; exact z1
  have x1 : w1.heap[w.heap.size + 1]? = some (.cells #[.int .i64 k, .int .i64 n, .int .i64 a, .slice Al p1 c1, .slice Ak p2 c2] 27 (0, 0)) := by rw [← hw1, Below.heap_alloc _ _ _ (by simp)]; exact z2
  have x2 : w1.heap[w.heap.size + 1 + 1]? = some (.cells #[.int .i64 0, .int .i64 0, .int .i64 0, .slice none 0 0, .slice none 0 0] 27 (0, 0)) := by
    rw [← hw1]
    have := heap_alloc_new ((w.alloc (.cells #[.int .i64 (d : Int), .func (.func fid) #[] caps] 78)).alloc (.cells #[.int .i64 k, .int .i64 n, .int .i64 a, .slice Al p1 c1, .slice Ak p2 c2] 27)) (.cells #[.int .i64 0, .int .i64 0, .int .i64 0, .slice none 0 0, .slice none 0 0] 27)
    simpa using this
  obtain ⟨u, hu⟩ : ∃ u, (Tm.mk k n a lv kids).walk tr d = u := ⟨_, rfl⟩
  rw [hu]
  have HN : Hid (Calls Tryd.prog 67 #[.agg #[.int .i64 (d : Int), .func (.func fid) #[] caps], .pointer (some ⟨w.heap.size + 1, 0, none⟩)] w1 (NodePost w1 (w.heap.size + 1) 0 #[.int .i64 k, .int .i64 n, .int .i64 a, .slice Al p1 c1, .slice Ak p2 c2] u)) := by
    rw [← hu]
    exact node_any W B D fid caps tr hD hB hK hcall hT _ hf d w1 (w.heap.size + 1) 0 _ _ _ _ _ _ hd (hb.trans (hb1.mono hBw)) (by omega) x1 ⟨rfl, rfl, rfl, rfl, rfl⟩ hv
  have y0 := cell_of_row _ _ 0 _ _ (0, 0) x0
  have y1 := cell_of_row _ _ 1 _ _ (0, 0) x0
  have X2 := Lib.hid x2
  have HB1 := Lib.hid hb1
  have HS1 := Lib.hid hs1
  clear hu hT hK hcall hf hd hb hv x0 x1 x2 hb1 hs1 z1 z2
  go_enter Tryd.func37, Tryd.ntmps37
  go_wp2_with (fail)
  refine HN.out.mono ?_
  rintro e w2 ⟨rfl, hgr, cur2, c0, c1', c2', c3, c4, hx2, _, hc2, hown⟩
  obtain ⟨k2, n2, a2, lv2, kids2⟩ := u
  obtain ⟨vl, vk, m1, m2, xs, e, w1', ⟨A5, c5, rfl⟩, w2', w3'⟩ := hown.open
  obtain ⟨A6, c6, rfl, _⟩ := w2'.2.1
  obtain ⟨p5, hp5⟩ : ∃ p, lv2.length = p := ⟨_, rfl⟩
  obtain ⟨p6, hp6⟩ : ∃ p, kids2.length = p := ⟨_, rfl⟩
  rw [hp5, hp6] at e
  injection e with e
  injection e with e
  injection e with q0 e
  injection e with q1 e
  injection e with q2 e
  injection e with q3 e
  injection e with q4 _
  subst q0 q1 q2 q3 q4
  have f0 := row_cell hx2 hc2.1
  have f1 := row_cell hx2 hc2.2.1
  have f2 := row_cell hx2 hc2.2.2.1
  have f3 := row_cell hx2 hc2.2.2.2.1
  have f4 := row_cell hx2 hc2.2.2.2.2
  have hr2 := (hgr.block (w.heap.size + 1 + 1) (by have := HS1.out; omega) (fun e => by have := Option.some.inj e; omega)).trans X2.out
  have e0 := cell_of_row _ _ 0 _ _ (0, 0) hr2
  have e1 := cell_of_row _ _ 1 _ _ (0, 0) hr2
  have e2 := cell_of_row _ _ 2 _ _ (0, 0) hr2
  have e3 := cell_of_row _ _ 3 _ _ (0, 0) hr2
  have e4 := cell_of_row _ _ 4 _ _ (0, 0) hr2
  have t0 := thawed hr2 0
  have t1 := thawed hr2 1
  have t2 := thawed hr2 2
  have t3 := thawed hr2 3
  have t4 := thawed hr2 4
  have HGR := Lib.hid hgr
  have HX2 := Lib.hid hr2
  have HOWN := Lib.hid hown
  clear hgr hx2 hc2 hown hr2 HN w1' w2' w3' hp5 hp6
  obtain ⟨g9, s9, cur9, h9, _, hc9⟩ := store5_post HX2.out (o := 0) (by simp) (.int .i64 k2) (.int .i64 n2) (.int .i64 a2) (.slice A5 p5 c5) (.slice A6 p6 c6)
  have r0 := row_cell h9 hc9.1
  have r1 := row_cell h9 hc9.2.1
  have r2 := row_cell h9 hc9.2.2.1
  have r3 := row_cell h9 hc9.2.2.2.1
  have r4 := row_cell h9 hc9.2.2.2.2
  have HFIN : Hid (TermPost w (Tm.mk k2 n2 a2 lv2 kids2) (.returned (.agg #[.int .i64 k2, .int .i64 n2, .int .i64 a2, .slice A5 p5 c5, .slice A6 p6 c6])) (store5 w2 (w.heap.size + 1 + 1) 0 (.int .i64 k2) (.int .i64 n2) (.int .i64 a2) (.slice A5 p5 c5) (.slice A6 p6 c6))) := by
    have hs1 := HS1.out
    have hgs := HGR.out.size
    refine ⟨_, rfl, ?_, (HB1.out.trans (below_grownT HGR.out (by omega) (by omega))).trans (below_grownT g9 (by omega) (by omega))⟩
    rw [s9]
    exact (HOWN.out.kept (grown_kept g9 (by omega) (Nat.le_refl _))).wide (by omega) (Nat.le_refl _)
  unfold store5 at HFIN r0 r1 r2 r3 r4
  clear g9 s9 h9 hc9 HGR HX2 HOWN
  go_wp2
  exact bodyPost_ret (v := .agg #[.int .i64 k2, .int .i64 n2, .int .i64 a2, .slice A5 p5 c5, .slice A6 p6 c6]) (by simp [results, Tryd.results37, go_sem, r0, r1, r2, r3, r4]) rfl HFIN.out
/-- walk.term answers the term's walk. -/
theorem term_any (W : World) (B D fid : Nat) (caps : Array Value) (tr : Turn) (hD : D ≤ 1073741824) (hB : 0 < B) (hK : KindsAt W) (hcall : ∀ vs w, (callFunc fid vs).run Tryd.prog w = .ok (.enter fid vs) w) (hT : TurnOk W B D fid caps tr)
    (t : Tm) (hf : t.fit) (d : Nat) (v : Value) (w : World) (hd : d + t.size ≤ D) (hb : Below B W w) (hBw : B ≤ w.heap.size) (hv : TmAt W B t v) :
    Calls Tryd.prog 37 #[.agg #[.int .i64 (d : Int), .func (.func fid) #[] caps], v] w (TermPost w (t.walk tr d)) := by
  obtain ⟨k, n, a, lv, kids⟩ := t
  have hv' := hv
  obtain ⟨Al, cl, Ak, ck, rfl, _⟩ := hv.open
  exact term_of W B D fid caps tr hD hB hK hcall hT k n a lv kids hf d w Al Ak _ cl _ ck hd hb hBw hv'
end Go.Proofs.YtfgnnbpbbnnnhaaDoor
namespace Go.Proofs.YtfgnnbpbbnnnhaaDoor
open Go.RowKit Go.Maps
set_option maxRecDepth 100000 in
theorem enter_lift1 (vs : Array Value) (w : World) : (callFunc 35 vs).run Tryd.prog w = .ok (.enter 35 vs) w := by go_simp
theorem turnOk_lift (W : World) (B D pf pn : Nat) (n from' : Int) (hf : W.cell? ⟨pf, 0, none⟩ = some (.int .i64 from')) (hn : W.cell? ⟨pn, 0, none⟩ = some (.int .i64 n)) (hpf : pf < B) (hpn : pn < B) :
    TurnOk W B D 35 #[.pointer (some ⟨pf, 0, none⟩), .pointer (some ⟨pn, 0, none⟩)] (liftT n from') := by
  intro d k m a lv w g o cur Al cl vk _ hr hs hb hg hx h5 hl hz
  refine (turn_lift d k m n from' g o pf pn cur w hx h5.1 h5.2.1 hr ((hb.cell (p := ⟨pf, 0, none⟩) hpf).trans hf) ((hb.cell (p := ⟨pn, 0, none⟩) hpn).trans hn)).mono ?_
  rintro e w' ⟨rfl, hgr, hx'⟩
  refine ⟨hgr, rfl, hs.wide, _, Al, cl, hx', Only5.set _ (by omega) (by omega), h5.set1 _, ?_, hz⟩
  have hgl := heap_some_lt hx
  have hb2 : Below B w w' := below_grownT hgr hg (by omega)
  exact (hl.keep (Nat.le_refl _) fun _ hp => hb.cell hp).keep (by have := hgr.size; omega) fun _ hp => hb2.cell hp
set_option maxRecDepth 100000 in
set_option maxHeartbeats 4000000 in
theorem lift_of (k n a : Int) (lv : List (List (Int × Int))) (kids : List Tm) (hf : (Tm.mk k n a lv kids).fit) (w : World) (Al Ak : Option Addr) (p1 c1 p2 c2 : Nat) (m from' : Int) (hd : (Tm.mk k n a lv kids).size ≤ 1073741824) (hK : KindsAt w)
    (hv : TmAt w w.heap.size (.mk k n a lv kids) (.agg #[.int .i64 k, .int .i64 n, .int .i64 a, .slice Al p1 c1, .slice Ak p2 c2])) :
    Calls Tryd.prog 10 #[.agg #[.int .i64 k, .int .i64 n, .int .i64 a, .slice Al p1 c1, .slice Ak p2 c2], .int .i64 m, .int .i64 from'] w (TermPost w ((Tm.mk k n a lv kids).walk (liftT m from') 0)) := by
  have h0 : 0 < w.heap.size := cell_lt (hK 0 (by decide))
  obtain ⟨wa, hwa⟩ : ∃ x, w.alloc (.cells #[.int .i64 k, .int .i64 n, .int .i64 a, .slice Al p1 c1, .slice Ak p2 c2] 27) = x := ⟨_, rfl⟩
  obtain ⟨w1, hw1⟩ : ∃ x, ((wa.alloc (.cells #[.int .i64 m] 3)).alloc (.cells #[.int .i64 from'] 3)).alloc (.cells #[.int .i64 0, .int .i64 0, .int .i64 0, .slice none 0 0, .slice none 0 0] 27) = x := ⟨_, rfl⟩
  have hsa : wa.heap.size = w.heap.size + 1 := by rw [← hwa]; simp
  have hba : Below w.heap.size w wa := by rw [← hwa]; exact (Below.refl _ _).alloc (Nat.le_refl _) _
  have hb1a : Below wa.heap.size wa w1 := by rw [← hw1]; exact (((Below.refl _ _).alloc (Nat.le_refl _) _).alloc (by simp) _).alloc (by simp; omega) _
  have hb1 := hba.trans (hb1a.mono (by omega))
  have hs1 : w1.heap.size = w.heap.size + 4 := by rw [← hw1]; simp [hsa]
  have xa : wa.heap[w.heap.size]? = some (.cells #[.int .i64 k, .int .i64 n, .int .i64 a, .slice Al p1 c1, .slice Ak p2 c2] 27 (0, 0)) := by rw [← hwa]; exact heap_alloc_new w _
  have x0 := (hb1a.block w.heap.size (by omega)).trans xa
  obtain ⟨z1, z2, _⟩ := two_allocs wa (.cells #[.int .i64 m] 3) (.cells #[.int .i64 from'] 3)
  rw [hsa] at z1 z2
  have x1 : w1.heap[w.heap.size + 1]? = some (.cells #[.int .i64 m] 3 (0, 0)) := by rw [← hw1, Below.heap_alloc _ _ _ (by simp [hsa])]; exact z1
  have x2 : w1.heap[w.heap.size + 1 + 1]? = some (.cells #[.int .i64 from'] 3 (0, 0)) := by rw [← hw1, Below.heap_alloc _ _ _ (by simp [hsa])]; exact z2
  have x3 : w1.heap[w.heap.size + 1 + 1 + 1]? = some (.cells #[.int .i64 0, .int .i64 0, .int .i64 0, .slice none 0 0, .slice none 0 0] 27 (0, 0)) := by
    rw [← hw1]
    have := heap_alloc_new ((wa.alloc (.cells #[.int .i64 m] 3)).alloc (.cells #[.int .i64 from'] 3)) (.cells #[.int .i64 0, .int .i64 0, .int .i64 0, .slice none 0 0, .slice none 0 0] 27)
    simpa [hsa] using this
  obtain ⟨u, hu⟩ : ∃ u, (Tm.mk k n a lv kids).walk (liftT m from') 0 = u := ⟨_, rfl⟩
  rw [hu]
  have HN : Hid (Calls Tryd.prog 37 #[.agg #[.int .i64 0, .func (.func 35) #[] #[.pointer (some ⟨w.heap.size + 1 + 1, 0, none⟩), .pointer (some ⟨w.heap.size + 1, 0, none⟩)]], .agg #[.int .i64 k, .int .i64 n, .int .i64 a, .slice Al p1 c1, .slice Ak p2 c2]] w1 (TermPost w1 u)) := by
    rw [← hu]
    exact term_any w1 w1.heap.size 1073741824 _ _ _ (Nat.le_refl _) (by omega) (hK.below hb1 h0) (fun vs w => enter_lift1 vs w) (turnOk_lift w1 _ _ _ _ m from' (cell_of_one x2) (cell_of_one x1) (heap_some_lt x2) (heap_some_lt x1)) _ hf 0 _ w1 (by omega) (Below.refl _ _) (Nat.le_refl _) (hv.below hb1 hb1.size)
  have y0 := cell_of_row _ _ 0 _ _ (0, 0) x0
  have y1 := cell_of_row _ _ 1 _ _ (0, 0) x0
  have y2 := cell_of_row _ _ 2 _ _ (0, 0) x0
  have y3 := cell_of_row _ _ 3 _ _ (0, 0) x0
  have y4 := cell_of_row _ _ 4 _ _ (0, 0) x0
  have X3 := Lib.hid x3
  have HB1 := Lib.hid hb1
  have HS1 := Lib.hid hs1
  have hmf : ∀ (W : World), (Instr.makeFunc (.func 35) #[] #[.pointer (some ⟨w.heap.size + 1 + 1, 0, none⟩), .pointer (some ⟨w.heap.size + 1, 0, none⟩)]).run Tryd.prog W = .ok (.func (.func 35) #[] #[.pointer (some ⟨w.heap.size + 1 + 1, 0, none⟩), .pointer (some ⟨w.heap.size + 1, 0, none⟩)]) W := fun _ => rfl
  clear hu hK hf hd hv x0 x1 x2 x3 xa hb1 hb1a hba hs1 z1 z2 h0
  go_enter Tryd.func10, Tryd.ntmps10
  go_wp2_with (fail)
  refine HN.out.mono ?_
  rintro e w2 ⟨v, rfl, hown, hb2⟩
  obtain ⟨k2, n2, a2, lv2, kids2⟩ := u
  obtain ⟨vl, vk, m1, m2, xs, ev, w1', ⟨A5, c5, rfl⟩, w2', w3'⟩ := hown.open
  obtain ⟨A6, c6, rfl, _⟩ := w2'.2.1
  obtain ⟨p5, hp5⟩ : ∃ p, lv2.length = p := ⟨_, rfl⟩
  obtain ⟨p6, hp6⟩ : ∃ p, kids2.length = p := ⟨_, rfl⟩
  rw [hp5, hp6] at ev
  subst ev
  have hr2 := (hb2.block (w.heap.size + 1 + 1 + 1) (by have := HS1.out; omega)).trans X3.out
  have e0 := cell_of_row _ _ 0 _ _ (0, 0) hr2
  have e1 := cell_of_row _ _ 1 _ _ (0, 0) hr2
  have e2 := cell_of_row _ _ 2 _ _ (0, 0) hr2
  have e3 := cell_of_row _ _ 3 _ _ (0, 0) hr2
  have e4 := cell_of_row _ _ 4 _ _ (0, 0) hr2
  have t0 := thawed hr2 0
  have t1 := thawed hr2 1
  have t2 := thawed hr2 2
  have t3 := thawed hr2 3
  have t4 := thawed hr2 4
  obtain ⟨g9, s9, cur9, h9, _, hc9⟩ := store5_post hr2 (o := 0) (by simp) (.int .i64 k2) (.int .i64 n2) (.int .i64 a2) (.slice A5 p5 c5) (.slice A6 p6 c6)
  have r0 := row_cell h9 hc9.1
  have r1 := row_cell h9 hc9.2.1
  have r2 := row_cell h9 hc9.2.2.1
  have r3 := row_cell h9 hc9.2.2.2.1
  have r4 := row_cell h9 hc9.2.2.2.2
  have HFIN : Hid (TermPost w (Tm.mk k2 n2 a2 lv2 kids2) (.returned (.agg #[.int .i64 k2, .int .i64 n2, .int .i64 a2, .slice A5 p5 c5, .slice A6 p6 c6])) (store5 w2 (w.heap.size + 1 + 1 + 1) 0 (.int .i64 k2) (.int .i64 n2) (.int .i64 a2) (.slice A5 p5 c5) (.slice A6 p6 c6))) := by
    have hs1 := HS1.out
    have hgs := hb2.size
    refine ⟨_, rfl, ?_, (HB1.out.trans (hb2.mono (by omega))).trans (below_grownT g9 (by omega) (by omega))⟩
    rw [s9]
    exact (hown.kept (grown_kept g9 (by omega) (Nat.le_refl _))).wide (by omega) (Nat.le_refl _)
  unfold store5 at HFIN r0 r1 r2 r3 r4
  clear g9 s9 h9 hc9 hown hb2 hr2 w1' w2' w3' hp5 hp6 HN
  go_wp2
  exact bodyPost_ret (v := .agg #[.int .i64 k2, .int .i64 n2, .int .i64 a2, .slice A5 p5 c5, .slice A6 p6 c6]) (by simp [results, Tryd.results10, go_sem, r0, r1, r2, r3, r4]) rfl HFIN.out
/-- Lift answers the term lifted. -/
theorem lift_any (t : Tm) (hf : t.fit) (v : Value) (w : World) (m from' : Int) (hd : t.size ≤ 1073741824) (hK : KindsAt w) (hv : TmAt w w.heap.size t v) :
    Calls Tryd.prog 10 #[v, .int .i64 m, .int .i64 from'] w (TermPost w (t.walk (liftT m from') 0)) := by
  obtain ⟨k, n, a, lv, kids⟩ := t
  have hv' := hv
  obtain ⟨Al, cl, Ak, ck, rfl, _⟩ := hv.open
  exact lift_of k n a lv kids hf w Al Ak _ cl _ ck m from' hd hK hv'
end Go.Proofs.YtfgnnbpbbnnnhaaDoor
namespace Go.Proofs.YtfgnnbpbbnnnhaaDoor
open Go.RowKit Go.Maps
section
variable {S : World → Prop} {R : World → World → Prop} {o : Oper} {V : Value → World → Prop} {g : Option (Option Tmp × Bool)} {a : Act} {w : World}
set_option maxRecDepth 100000 in
theorem StepFrom.lenT {x : Operand} (hop : o.op = .call { callee := .builtin .len, args := #[x], argTypes := #[25] }) {A : Option Addr} {n c : Nat} (hx : a.eval x = .slice A n c)
    (hg : gOn g a = true) (hS : S w) (hR : R w w) (hV : V (.int .i64 (n : Int)) w) : StepFrom Tryd.prog S R o V g [] a w :=
  StepFrom.ran (v := .int .i64 (n : Int)) (by
    have hm : (#[x] : Array Operand).map a.eval = #[.slice A n c] := by rw [List.map_toArray, List.map_cons, List.map_nil, hx]
    unfold execOp
    simp only [hop, resolve, hm]
    simp [go_sem]) hg hS hR hV
end
end Go.Proofs.YtfgnnbpbbnnnhaaDoor
namespace Go.Proofs.YtfgnnbpbbnnnhaaDoor
open Go.RowKit Go.Maps
end Go.Proofs.YtfgnnbpbbnnnhaaDoor
