/- What times answers. -/
import Derived.Test.YtafgmndlbbjphaaDoorTmSize
namespace Go.Proofs.YtafgmndlbbjphaaDoor
open Go.RowKit Go.Maps

set_option maxRecDepth 100000 in
theorem enter_size (vs : Array Value) (w : World) : (callFunc 12 vs).run Tryd.prog w = .ok (.enter 12 vs) w := by go_simp

set_option maxRecDepth 100000 in
set_option maxHeartbeats 1000000 in
/-- times: what two terms count for, each up to 600 -/
theorem times_any (t u : Tm) (va vb : Value) (w : World) (hc : t.size ≤ 1048576) (hc' : u.size ≤ 1048576) (ha : TmAt w w.heap.size t va) (hb : TmAt w w.heap.size u vb) :
    Calls Tryd.prog 8 #[va, vb] w (fun e w' => e = .returned (.int .i64 (min (t.size : Int) 600 + min (u.size : Int) 600)) ∧ Below w.heap.size w w') := by
  obtain ⟨s1, hs1⟩ : ∃ s, t.size = s := ⟨_, rfl⟩
  obtain ⟨s2, hs2⟩ : ∃ s, u.size = s := ⟨_, rfl⟩
  have HCA : Hid (∀ w', Below w.heap.size w w' → Calls Tryd.prog 12 #[va] w' (fun e w9 => e = .returned (.int .i64 (s1 : Int)) ∧ Below w'.heap.size w' w9)) := fun w' hx => by
    rw [← hs1]; exact size_any t (by omega) _ w' (ha.below hx hx.size)
  have HCB : Hid (∀ w', Below w.heap.size w w' → Calls Tryd.prog 12 #[vb] w' (fun e w9 => e = .returned (.int .i64 (s2 : Int)) ∧ Below w'.heap.size w' w9)) := fun w' hx => by
    rw [← hs2]; exact size_any u (by omega) _ w' (hb.below hx hx.size)
  obtain ⟨k1, n1, a1, lv1, kids1⟩ := t
  obtain ⟨k2, n2, a2, lv2, kids2⟩ := u
  obtain ⟨A1, c1, A2, c2, rfl, p1, h1, h2⟩ := ha.open
  obtain ⟨A3, c3, A4, c4, rfl, p2, h3, h4⟩ := hb.open
  obtain ⟨l1, e1⟩ : ∃ l, lv1.length = l := ⟨_, rfl⟩
  obtain ⟨l2, e2⟩ : ∃ l, kids1.length = l := ⟨_, rfl⟩
  obtain ⟨l3, e3⟩ : ∃ l, lv2.length = l := ⟨_, rfl⟩
  obtain ⟨l4, e4⟩ : ∃ l, kids2.length = l := ⟨_, rfl⟩
  rw [e1, e2] at HCA
  rw [e3, e4] at HCB
  rw [e1, e2, e3, e4, hs1, hs2]
  have HB0 : Hid (Below w.heap.size w ((w.alloc (.cells #[.int .i64 k1, .int .i64 n1, .int .i64 a1, .slice A1 l1 c1, .slice A2 l2 c2] 26)).alloc (.cells #[.int .i64 k2, .int .i64 n2, .int .i64 a2, .slice A3 l3 c3, .slice A4 l4 c4] 26))) := ((Below.refl _ _).alloc (Nat.le_refl _) _).alloc (by simp) _
  obtain ⟨x1, x2, _⟩ := two_allocs w (.cells #[.int .i64 k1, .int .i64 n1, .int .i64 a1, .slice A1 l1 c1, .slice A2 l2 c2] 26) (.cells #[.int .i64 k2, .int .i64 n2, .int .i64 a2, .slice A3 l3 c3, .slice A4 l4 c4] 26)
  have hz : w.heap.size + 1 < ((w.alloc (.cells #[.int .i64 k1, .int .i64 n1, .int .i64 a1, .slice A1 l1 c1, .slice A2 l2 c2] 26)).alloc (.cells #[.int .i64 k2, .int .i64 n2, .int .i64 a2, .slice A3 l3 c3, .slice A4 l4 c4] 26)).heap.size := by simp
  have f0 := cell_of_row _ _ 0 _ _ (0, 0) x1
  have f1 := cell_of_row _ _ 1 _ _ (0, 0) x1
  have f2 := cell_of_row _ _ 2 _ _ (0, 0) x1
  have f3 := cell_of_row _ _ 3 _ _ (0, 0) x1
  have f4 := cell_of_row _ _ 4 _ _ (0, 0) x1
  have g0 := cell_of_row _ _ 0 _ _ (0, 0) x2
  have g1 := cell_of_row _ _ 1 _ _ (0, 0) x2
  have g2 := cell_of_row _ _ 2 _ _ (0, 0) x2
  have g3 := cell_of_row _ _ 3 _ _ (0, 0) x2
  have g4 := cell_of_row _ _ 4 _ _ (0, 0) x2
  clear ha hb h1 h2 h3 h4 e1 e2 e3 e4 p1 p2 x1 x2
  rw [hs1] at hc
  rw [hs2] at hc'
  clear hs1 hs2
  go_enter Tryd.func8, Tryd.ntmps8
  go_upto_region 1 with (fail)
  obtain ⟨w1, hw1⟩ : ∃ x, (w.alloc (.cells #[.int .i64 k1, .int .i64 n1, .int .i64 a1, .slice A1 l1 c1, .slice A2 l2 c2] 26)).alloc (.cells #[.int .i64 k2, .int .i64 n2, .int .i64 a2, .slice A3 l3 c3, .slice A4 l4 c4] 26) = x := ⟨_, rfl⟩
  rw [hw1] at HB0 f0 f1 f2 f3 f4 g0 g1 g2 g3 g4 hz ⊢
  clear hw1
  have hS : Below w1.heap.size w1 w1.drew := (Below.refl _ _).drew
  have b1 : w.heap.size < w1.heap.size := by omega
  refine wp_region_tab (fun w' => Below w1.heap.size w1 w') (fun w1 w2 : World => Below w1.heap.size w1 w2) [(fun (x : Value) (_ : World) => x = (.agg #[.int .i64 k1, .int .i64 n1, .int .i64 a1, .slice A1 l1 c1, .slice A2 l2 c2] : Value)), (fun (x : Value) (_ : World) => x = (.int .i64 (s1 : Int) : Value)), (fun (x : Value) (_ : World) => x = (.int .i64 (min (s1 : Int) 600) : Value)), (fun (x : Value) (_ : World) => x = (.agg #[.int .i64 k2, .int .i64 n2, .int .i64 a2, .slice A3 l3 c3, .slice A4 l4 c4] : Value)), (fun (x : Value) (_ : World) => x = (.int .i64 (s2 : Int) : Value)), (fun (x : Value) (_ : World) => x = (.int .i64 (min (s2 : Int) 600) : Value)), (fun (x : Value) (_ : World) => x = (.int .i64 (min (s1 : Int) 600 + min (s2 : Int) 600) : Value)), (fun (x : Value) (_ : World) => x = (.int .i64 (min (s1 : Int) 600 + min (s2 : Int) 600) : Value))] [⟨some 5, .load 26 (.tmp 2), none, []⟩, ⟨some 6, .call { callee := .value (.func 12), args := #[.tmp 5], argTypes := #[26] }, none, [(5, 0)]⟩, ⟨some 7, .call { callee := .builtin .min, args := #[.tmp 6, .const (.int .i64 600)], argTypes := #[3, 3] }, none, [(6, 1)]⟩, ⟨some 8, .load 26 (.tmp 3), none, []⟩, ⟨some 9, .call { callee := .value (.func 12), args := #[.tmp 8], argTypes := #[26] }, none, [(8, 3)]⟩, ⟨some 10, .call { callee := .builtin .min, args := #[.tmp 9, .const (.int .i64 600)], argTypes := #[3, 3] }, none, [(9, 4)]⟩, ⟨some 11, .binOp .add 3 (.tmp 7) (.tmp 10) 3, none, [(7, 2), (10, 5)]⟩, ⟨some 4, .assign (.tmp 11), none, [(11, 6)]⟩] [some 5, some 6, some 7, some 8, some 9, some 10, some 11, some 4] (by kernel_rfl) (by kernel_rfl) (by kernel_rfl) (by kernel_rfl) (by kernel_rfl) ?hS ?hmono ?hsteps ?hfin
  case hS => exact hS
  case hmono =>
    refine MonoL.cons (fun x w1 w2 _ _ _ hx => hx) ?_
    refine MonoL.cons (fun x w1 w2 _ _ _ hx => hx) ?_
    refine MonoL.cons (fun x w1 w2 _ _ _ hx => hx) ?_
    refine MonoL.cons (fun x w1 w2 _ _ _ hx => hx) ?_
    refine MonoL.cons (fun x w1 w2 _ _ _ hx => hx) ?_
    refine MonoL.cons (fun x w1 w2 _ _ _ hx => hx) ?_
    refine MonoL.cons (fun x w1 w2 _ _ _ hx => hx) ?_
    refine MonoL.cons (fun x w1 w2 _ _ _ hx => hx) ?_
    exact MonoL.nil
  case hsteps =>
    refine StepsT.cons (fun (x : Value) (_ : World) => x = (.agg #[.int .i64 k1, .int .i64 n1, .int .i64 a1, .slice A1 l1 c1, .slice A2 l2 c2] : Value)) [] rfl rfl (fun oq hop _ wq hQS => ?_) ?_
    · exact StepFrom.load hop (p := (.pointer (some ⟨w.heap.size, 0, none⟩) : Value)) (by kernel_rfl) (load_term ((hQS.cell (p := ⟨w.heap.size, 0, none⟩) b1).trans f0) ((hQS.cell (p := ⟨w.heap.size, 1, none⟩) b1).trans f1) ((hQS.cell (p := ⟨w.heap.size, 2, none⟩) b1).trans f2) ((hQS.cell (p := ⟨w.heap.size, 3, none⟩) b1).trans f3) ((hQS.cell (p := ⟨w.heap.size, 4, none⟩) b1).trans f4)) (by kernel_rfl) hQS (Below.refl _ _) rfl
    refine StepsT.cons (fun (x : Value) (_ : World) => x = (.int .i64 (s1 : Int) : Value)) [(5, (fun (x : Value) (_ : World) => x = (.agg #[.int .i64 k1, .int .i64 n1, .int .i64 a1, .slice A1 l1 c1, .slice A2 l2 c2] : Value)))] rfl rfl (fun oq hop _ wq hQS => ?_) ?_
    · refine StepFrom.more_eq ((.agg #[.int .i64 k1, .int .i64 n1, .int .i64 a1, .slice A1 l1 c1, .slice A2 l2 c2] : Value)) ?_
      exact StepFrom.call hop (vs := [(.agg #[.int .i64 k1, .int .i64 n1, .int .i64 a1, .slice A1 l1 c1, .slice A2 l2 c2] : Value)]) (by kernel_rfl) (fun w => enter_size _ w) (by kernel_rfl) ((HCA.out wq (HB0.out.trans (hQS.mono HB0.out.size))).mono fun e w9 h9 => ⟨_, h9.1, hQS.trans (h9.2.mono hQS.size), h9.2, rfl⟩)
    refine StepsT.cons (fun (x : Value) (_ : World) => x = (.int .i64 (min (s1 : Int) 600) : Value)) [(6, (fun (x : Value) (_ : World) => x = (.int .i64 (s1 : Int) : Value)))] rfl rfl (fun oq hop _ wq hQS => ?_) ?_
    · refine StepFrom.more_eq ((.int .i64 (s1 : Int) : Value)) ?_
      exact StepFrom.min2 hop (by kernel_rfl) (by kernel_rfl) (by kernel_rfl) hQS (Below.refl _ _) rfl
    refine StepsT.cons (fun (x : Value) (_ : World) => x = (.agg #[.int .i64 k2, .int .i64 n2, .int .i64 a2, .slice A3 l3 c3, .slice A4 l4 c4] : Value)) [] rfl rfl (fun oq hop _ wq hQS => ?_) ?_
    · exact StepFrom.load hop (p := (.pointer (some ⟨w.heap.size + 1, 0, none⟩) : Value)) (by kernel_rfl) (load_term ((hQS.cell (p := ⟨w.heap.size + 1, 0, none⟩) hz).trans g0) ((hQS.cell (p := ⟨w.heap.size + 1, 1, none⟩) hz).trans g1) ((hQS.cell (p := ⟨w.heap.size + 1, 2, none⟩) hz).trans g2) ((hQS.cell (p := ⟨w.heap.size + 1, 3, none⟩) hz).trans g3) ((hQS.cell (p := ⟨w.heap.size + 1, 4, none⟩) hz).trans g4)) (by kernel_rfl) hQS (Below.refl _ _) rfl
    refine StepsT.cons (fun (x : Value) (_ : World) => x = (.int .i64 (s2 : Int) : Value)) [(8, (fun (x : Value) (_ : World) => x = (.agg #[.int .i64 k2, .int .i64 n2, .int .i64 a2, .slice A3 l3 c3, .slice A4 l4 c4] : Value)))] rfl rfl (fun oq hop _ wq hQS => ?_) ?_
    · refine StepFrom.more_eq ((.agg #[.int .i64 k2, .int .i64 n2, .int .i64 a2, .slice A3 l3 c3, .slice A4 l4 c4] : Value)) ?_
      exact StepFrom.call hop (vs := [(.agg #[.int .i64 k2, .int .i64 n2, .int .i64 a2, .slice A3 l3 c3, .slice A4 l4 c4] : Value)]) (by kernel_rfl) (fun w => enter_size _ w) (by kernel_rfl) ((HCB.out wq (HB0.out.trans (hQS.mono HB0.out.size))).mono fun e w9 h9 => ⟨_, h9.1, hQS.trans (h9.2.mono hQS.size), h9.2, rfl⟩)
    refine StepsT.cons (fun (x : Value) (_ : World) => x = (.int .i64 (min (s2 : Int) 600) : Value)) [(9, (fun (x : Value) (_ : World) => x = (.int .i64 (s2 : Int) : Value)))] rfl rfl (fun oq hop _ wq hQS => ?_) ?_
    · refine StepFrom.more_eq ((.int .i64 (s2 : Int) : Value)) ?_
      exact StepFrom.min2 hop (by kernel_rfl) (by kernel_rfl) (by kernel_rfl) hQS (Below.refl _ _) rfl
    refine StepsT.cons (fun (x : Value) (_ : World) => x = (.int .i64 (min (s1 : Int) 600 + min (s2 : Int) 600) : Value)) [(7, (fun (x : Value) (_ : World) => x = (.int .i64 (min (s1 : Int) 600) : Value))), (10, (fun (x : Value) (_ : World) => x = (.int .i64 (min (s2 : Int) 600) : Value)))] rfl rfl (fun oq hop _ wq hQS => ?_) ?_
    · refine StepFrom.more_eq ((.int .i64 (min (s1 : Int) 600) : Value)) ?_
      refine StepFrom.more_eq ((.int .i64 (min (s2 : Int) 600) : Value)) ?_
      exact StepFrom.bin hop (vx := (.int .i64 (min (s1 : Int) 600) : Value)) (vy := (.int .i64 (min (s2 : Int) 600) : Value)) (by kernel_rfl) (by kernel_rfl) (add_int _ _ _ _ _ (IntWalk.i64_in _ (by omega))) (by kernel_rfl) hQS (Below.refl _ _) rfl
    refine StepsT.cons (fun (x : Value) (_ : World) => x = (.int .i64 (min (s1 : Int) 600 + min (s2 : Int) 600) : Value)) [(11, (fun (x : Value) (_ : World) => x = (.int .i64 (min (s1 : Int) 600 + min (s2 : Int) 600) : Value)))] rfl rfl (fun oq hop _ wq hQS => ?_) ?_
    · refine StepFrom.more_eq ((.int .i64 (min (s1 : Int) 600 + min (s2 : Int) 600) : Value)) ?_
      exact StepFrom.assign hop (v := (.int .i64 (min (s1 : Int) 600 + min (s2 : Int) 600) : Value)) (by kernel_rfl) (by kernel_rfl) hQS (Below.refl _ _) rfl
    exact StepsT.nil
  case hfin =>
    intro wf hFS
    refine FinalFrom.more fun x5 h5 => ?_
    refine FinalFrom.more fun x6 h6 => ?_
    refine FinalFrom.more fun x7 h7 => ?_
    refine FinalFrom.more fun x8 h8 => ?_
    refine FinalFrom.more fun x9 h9 => ?_
    refine FinalFrom.more fun x10 h10 => ?_
    refine FinalFrom.more fun x11 h11 => ?_
    refine FinalFrom.more fun x4 h4 => ?_
    refine FinalFrom.done ?_
    subst h4
    have HF : Hid (Below w.heap.size w wf) := HB0.out.trans (hFS.mono HB0.out.size)
    clear hS hFS f0 f1 f2 f3 f4 g0 g1 g2 g3 g4
    simp only [Act.put, List.setIfInBounds_toArray, List.set_cons_zero, List.set_cons_succ]
    go_wp2
    go_ret
    exact ⟨rfl, HF.out⟩
end Go.Proofs.YtafgmndlbbjphaaDoor
