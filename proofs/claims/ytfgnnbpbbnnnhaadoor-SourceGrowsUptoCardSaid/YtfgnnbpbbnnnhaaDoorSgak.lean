/- Laws. -/
import Derived.Test.YtfgnnbpbbnnnhaaDoorSgaj
namespace Go.Proofs.YtfgnnbpbbnnnhaaDoor
open Go.RowKit Go.Maps
section
variable {S : World → Prop} {R : World → World → Prop} {o : Oper} {V : Value → World → Prop} {g : Option (Option Tmp × Bool)} {a : Act} {w : World}
set_option maxRecDepth 100000 in
theorem StepFrom.lenT {x : Operand} (hop : o.op = .call { callee := .builtin .len, args := #[x], argTypes := #[25] }) {A : Option Addr} {n c : Nat} (hx : a.eval x = .slice A n c)
    (hg : gOn g a = true) (hS : S w) (hR : R w w) (hV : V (.int .i64 (n : Int)) w) : StepFrom Tryd.prog S R o V g [] a w :=
  StepFrom.ran (v := .int .i64 (n : Int)) (by
    have hm : (#[x] : Array Operand).map a.eval = #[.slice A n c] := by rw [List.map_toArray, List.map_cons, List.map_nil, hx]
    unfold execOp
    simp only [hop, resolve, hm]
    simp [go_sem]) hg hS hR hV
end
set_option maxRecDepth 100000 in
theorem enter_lift (vs : Array Value) (w : World) : (callFunc 10 vs).run Tryd.prog w = .ok (.enter 10 vs) w := by go_simp
set_option maxRecDepth 100000 in
theorem sub_wrap {x y z : Int} (p q : Operand) (w : World) (h : IntKind.i64.wrap (x - y) = z) : ((do eqGuard .sub 3 p q (.int .i64 x) (.int .i64 y); binOp .sub 3 (.int .i64 x) (.int .i64 y) : Sem Value)).run Tryd.prog w = .ok (.int .i64 z) w := by
  subst h
  go_simp
set_option maxRecDepth 100000 in
theorem depth_field {b o : Nat} {w : World} : (Instr.fieldAt 72 (.pointer (some ⟨b, o, none⟩)) 0).run Tryd.prog w = .ok (.pointer (some ⟨b, o, none⟩)) w := by go_simp
set_option maxRecDepth 100000 in
set_option maxHeartbeats 8000000 in
theorem turn_put (W : World) (B D pb : Nat) (Ab : Option Addr) (nb cb : Nat) (by' : List Tm) (hD : D ≤ 1073741824) (hB : 0 < B) (hpb : pb < B) (hK : KindsAt W) (hcell : W.cell? ⟨pb, 0, none⟩ = some (.slice Ab nb cb)) (hnb : by'.length = nb) (hn6 : nb ≤ 1048576)
    (hts : Tms W B Ab cb by') (hfit : ∀ b ∈ by', b.fit ∧ b.size ≤ 1073741824) : TurnOk W B D 39 #[.pointer (some ⟨pb, 0, none⟩)] (putT by') := by
  intro d k n a lv w g o cur Al cl vk hd hr hs hb hg hx h5 hl hz
  obtain ⟨w1, hw1⟩ : ∃ x, w.alloc (.cells #[.int .i64 (d : Int)] 72) = x := ⟨_, rfl⟩
  have hb1 : Below w.heap.size w w1 := by rw [← hw1]; exact (Below.refl _ _).alloc (Nat.le_refl _) _
  have hs1 : w1.heap.size = w.heap.size + 1 := by rw [← hw1]; simp
  have x1 : w1.heap[w.heap.size]? = some (.cells #[.int .i64 (d : Int)] 72 (0, 0)) := by rw [← hw1]; exact heap_alloc_new w _
  have hgl := heap_some_lt hx
  have hg1 := (hb1.block g hgl).trans hx
  have hbw : Below B W w1 := hb.trans (hb1.mono (by omega))
  have e0 := row_cell hg1 h5.1
  have e1 := row_cell hg1 h5.2.1
  have eb := cell_of_one x1
  have ep := (hbw.cell (p := ⟨pb, 0, none⟩) hpb).trans hcell
  have lb := cell_lt eb
  have lp := cell_lt ep
  have lg := cell_lt e1
  have HSTAY : Hid (∀ (w' : World), Below w1.heap.size w1 w' → putT by' d k n lv = .go n lv → TurnPost w g o cur k a vk (putT by' d k n lv) (.returned (.bool false)) w') := fun w' h he => by
    have hb' := hb1.trans (h.mono hb1.size)
    rw [he]
    refine ⟨grown_belowT hb' _, rfl, hs.wide, cur, Al, cl, (hb'.block g hgl).trans hx, Only5.refl _ _, h5, ?_, hz⟩
    exact hl.keep (by have := hb'.size; omega) fun _ hp => (hb'.cell (by omega)).trans (hb.cell hp)
  have HFAR : Hid (∀ (w' : World) (z : Int), Below w1.heap.size w1 w' → putT by' d k n lv = .go z lv → TurnPost w g o cur k a vk (putT by' d k n lv) (.returned (.bool false)) (w'.setCell ⟨g, o + 1, none⟩ (.int .i64 z))) := fun w' z h he => by
    have hb' := hb1.trans (h.mono hb1.size)
    have hgr := grown_set (grown_belowT hb' (some g)) (o + 1) (.int .i64 z)
    have hb2 : Below B w (w'.setCell ⟨g, o + 1, none⟩ (.int .i64 z)) := below_grownT hgr hg (by omega)
    rw [he]
    refine ⟨hgr, rfl, hs.wide, _, Al, cl, set_same ((hb'.block g hgl).trans hx) _ _, Only5.set _ (by omega) (by omega), h5.set1 _, ?_, hz⟩
    exact hl.keep (by have := hgr.size; omega) fun _ hp => (hb2.cell hp).trans (hb.cell hp)
  have HNEAR : Hid (∀ (w' : World) (u : Tm) (c0 c1 c2 c3 c4 : Value), Below w1.heap.size w1 w' → putT by' d k n lv = .done u → OwnTm w' w1.heap.size w'.heap.size u (.agg #[c0, c1, c2, c3, c4]) → TurnPost w g o cur k a vk (putT by' d k n lv) (.returned (.bool true)) (store5 w' g o c0 c1 c2 c3 c4)) := fun w' u c0 c1 c2 c3 c4 h he ho => by
    have hb' := hb1.trans (h.mono hb1.size)
    have hin := (Array.getElem?_eq_some_iff.1 h5.2.2.2.2).1
    obtain ⟨q1, q2, cur', q3, q4, q5⟩ := store5_post ((hb'.block g hgl).trans hx) (o := o) (by omega) c0 c1 c2 c3 c4
    rw [he]
    refine ⟨grown_trans (grown_belowT hb' _) q1, rfl, cur', c0, c1, c2, c3, c4, q3, q4, q5, ?_⟩
    rw [q2]
    exact (ho.kept (grown_kept q1 (by omega) (Nat.le_refl _))).wide (by omega) (Nat.le_refl _)
  have HBLK : Hid (∀ (w' : World), Below w1.heap.size w1 w' → w'.heap[g]? = some (.cells cur 27 (0, 0))) := fun w' h => (h.block g (heap_some_lt hg1)).trans hg1
  have H5 := Lib.hid h5
  have HMW : Hid (∀ w', Below w1.heap.size w1 w' → Calls Tryd.prog 36 #[.agg #[.int .i64 (d : Int)], .int .i64 n] w' (fun e w9 => e = .returned (meansS d n) ∧ Below w'.heap.size w' w9)) := fun w' _ => means_any d n w' hr
  have HR := Lib.hid hr
  have HBW := Lib.hid hbw
  have HT := Lib.hid hts
  have HFIT := Lib.hid hfit
  have HK := Lib.hid hK
  have HNB := Lib.hid hnb
  have hbsz : B ≤ w1.heap.size := by omega
  clear hx h5 hcell hr hs x1 hb1 hgl hg1 hb hbw hts hfit hK hnb hs1 hl hz
  show Calls Tryd.prog 39 #[.agg #[.int .i64 (d : Int)], .pointer (some ⟨g, o, none⟩), .pointer (some ⟨pb, 0, none⟩)] w (TurnPost w g o cur k a vk (putT by' d k n lv))
  by_cases k1 : k = 1
  · subst k1
    go_enter Tryd.func39, Tryd.ntmps39
    go_upto_region 3 with (fail)
    have hS : Below w1.heap.size w1 w1.drew := (Below.refl _ _).drew
    obtain ⟨r, hr⟩ : ∃ r : Bool, decide (n < (d : Int)) = r := ⟨_, rfl⟩
    obtain ⟨q, hq⟩ : ∃ q : Int, (if n < (d : Int) then 0 else n - (d : Int)) = q := ⟨_, rfl⟩
    have hmean : meansS d n = .tuple #[.int .i64 q, .bool (!r)] := by
      rw [← hr, ← hq]
      unfold meansS
      by_cases h : n < (d : Int) <;> simp [h]
    rw [hmean] at HMW
    have HRR := Lib.hid hr
    have HQQ := Lib.hid hq
    clear hr hq hmean
    refine wp_region_tab (fun w' => Below w1.heap.size w1 w') (fun w1 w2 : World => Below w1.heap.size w1 w2) [(fun (x : Value) (_ : World) => x = (.agg #[.int .i64 (d : Int)] : Value)), (fun (x : Value) (_ : World) => x = (.pointer (some ⟨g, o, none⟩) : Value)), (fun (x : Value) (_ : World) => x = (.pointer (some ⟨g, o, none⟩) : Value)), (fun (x : Value) (_ : World) => x = (.pointer (some ⟨g, o + 1, none⟩) : Value)), (fun (x : Value) (_ : World) => x = (.int .i64 n : Value)), (fun (x : Value) (_ : World) => x = (.tuple #[.int .i64 q, .bool (!r)] : Value)), (fun (x : Value) (_ : World) => x = (.tuple #[.int .i64 q, .bool (!r)] : Value)), (fun (x : Value) (_ : World) => x = (.int .i64 q : Value)), (fun (x : Value) (_ : World) => x = (.bool (!r) : Value)), (fun (x : Value) (_ : World) => x = (.int .i64 q : Value)), (fun (x : Value) (_ : World) => x = (.bool (!r) : Value))] [⟨some 14, .load 72 (.tmp 3), none, []⟩, ⟨some 15, .move (.tmp 1), none, []⟩, ⟨some 16, .nilCheck (.tmp 15), none, [(15, 1)]⟩, ⟨some 17, .fieldAddr 27 (.tmp 16) 1, none, [(16, 2)]⟩, ⟨some 18, .load 3 (.tmp 17), none, [(17, 3)]⟩, ⟨some 19, .call { callee := .value (.func 36), args := #[.tmp 14, .tmp 18], argTypes := #[72, 3] }, none, [(14, 0), (18, 4)]⟩, ⟨some 13, .move (.tmp 19), none, [(19, 5)]⟩, ⟨some 20, .extract (.tmp 13) 0, none, [(13, 6)]⟩, ⟨some 21, .extract (.tmp 13) 1, none, [(13, 6)]⟩, ⟨some 6, .assign (.tmp 20), none, [(20, 7)]⟩, ⟨some 7, .assign (.tmp 21), none, [(21, 8)]⟩] [some 14, some 15, some 16, some 17, some 18, some 19, some 13, some 20, some 21, some 6, some 7] (by kernel_rfl) (by kernel_rfl) (by kernel_rfl) (by kernel_rfl) (by kernel_rfl) ?hS ?hmono ?hsteps ?hfin
    case hS => exact hS
    case hmono =>
      refine MonoL.cons (fun x w1 w2 _ _ _ hx => hx) ?_
      refine MonoL.cons (fun x w1 w2 _ _ _ hx => hx) ?_
      refine MonoL.cons (fun x w1 w2 _ _ _ hx => hx) ?_
      refine MonoL.cons (fun x w1 w2 _ _ _ hx => hx) ?_
      refine MonoL.cons (fun x w1 w2 _ _ _ hx => hx) ?_
      refine MonoL.cons (fun x w1 w2 _ _ _ hx => hx) ?_
      refine MonoL.cons (fun x w1 w2 _ _ _ hx => hx) ?_
      refine MonoL.cons (fun x w1 w2 _ _ _ hx => hx) ?_
      refine MonoL.cons (fun x w1 w2 _ _ _ hx => hx) ?_
      refine MonoL.cons (fun x w1 w2 _ _ _ hx => hx) ?_
      refine MonoL.cons (fun x w1 w2 _ _ _ hx => hx) ?_
      exact MonoL.nil
    case hsteps =>
      refine StepsT.cons (fun (x : Value) (_ : World) => x = (.agg #[.int .i64 (d : Int)] : Value)) [] rfl rfl (fun oq hop _ wq hQS => ?_) ?_
      · exact StepFrom.load hop (p := (.pointer (some ⟨w.heap.size, 0, none⟩) : Value)) (by kernel_rfl) (load_depth ((hQS.cell (p := ⟨w.heap.size, 0, none⟩) lb).trans eb)) (by kernel_rfl) hQS (Below.refl _ _) rfl
      refine StepsT.cons (fun (x : Value) (_ : World) => x = (.pointer (some ⟨g, o, none⟩) : Value)) [] rfl rfl (fun oq hop _ wq hQS => ?_) ?_
      · exact StepFrom.move hop (v := (.pointer (some ⟨g, o, none⟩) : Value)) (by kernel_rfl) (by kernel_rfl) hQS (Below.refl _ _) rfl
      refine StepsT.cons (fun (x : Value) (_ : World) => x = (.pointer (some ⟨g, o, none⟩) : Value)) [(15, (fun (x : Value) (_ : World) => x = (.pointer (some ⟨g, o, none⟩) : Value)))] rfl rfl (fun oq hop _ wq hQS => ?_) ?_
      · refine StepFrom.more_eq ((.pointer (some ⟨g, o, none⟩) : Value)) ?_
        exact StepFrom.nilCheck hop (show _ = (.pointer (some ⟨g, o, none⟩) : Value) by kernel_rfl) (by kernel_rfl) hQS (Below.refl _ _) rfl
      refine StepsT.cons (fun (x : Value) (_ : World) => x = (.pointer (some ⟨g, o + 1, none⟩) : Value)) [(16, (fun (x : Value) (_ : World) => x = (.pointer (some ⟨g, o, none⟩) : Value)))] rfl rfl (fun oq hop _ wq hQS => ?_) ?_
      · refine StepFrom.more_eq ((.pointer (some ⟨g, o, none⟩) : Value)) ?_
        exact StepFrom.fieldAddr hop (p := (.pointer (some ⟨g, o, none⟩) : Value)) (by kernel_rfl) (term_field 1 (by decide)) (by kernel_rfl) hQS (Below.refl _ _) rfl
      refine StepsT.cons (fun (x : Value) (_ : World) => x = (.int .i64 n : Value)) [(17, (fun (x : Value) (_ : World) => x = (.pointer (some ⟨g, o + 1, none⟩) : Value)))] rfl rfl (fun oq hop _ wq hQS => ?_) ?_
      · refine StepFrom.more_eq ((.pointer (some ⟨g, o + 1, none⟩) : Value)) ?_
        exact StepFrom.load hop (p := (.pointer (some ⟨g, o + 1, none⟩) : Value)) (by kernel_rfl) (load_int ((hQS.cell (p := ⟨g, o + 1, none⟩) lg).trans e1)) (by kernel_rfl) hQS (Below.refl _ _) rfl
      refine StepsT.cons (fun (x : Value) (_ : World) => x = (.tuple #[.int .i64 q, .bool (!r)] : Value)) [(14, (fun (x : Value) (_ : World) => x = (.agg #[.int .i64 (d : Int)] : Value))), (18, (fun (x : Value) (_ : World) => x = (.int .i64 n : Value)))] rfl rfl (fun oq hop _ wq hQS => ?_) ?_
      · refine StepFrom.more_eq ((.agg #[.int .i64 (d : Int)] : Value)) ?_
        refine StepFrom.more_eq ((.int .i64 n : Value)) ?_
        exact StepFrom.call hop (vs := [(.agg #[.int .i64 (d : Int)] : Value), (.int .i64 n : Value)]) (by kernel_rfl) (fun w => enter_means _ w) (by kernel_rfl) ((HMW.out wq hQS).mono fun e w9 h9 => by obtain ⟨q1, q2⟩ := h9; exact ⟨_, q1, hQS.trans (q2.mono hQS.size), q2, rfl⟩)
      refine StepsT.cons (fun (x : Value) (_ : World) => x = (.tuple #[.int .i64 q, .bool (!r)] : Value)) [(19, (fun (x : Value) (_ : World) => x = (.tuple #[.int .i64 q, .bool (!r)] : Value)))] rfl rfl (fun oq hop _ wq hQS => ?_) ?_
      · refine StepFrom.more_eq ((.tuple #[.int .i64 q, .bool (!r)] : Value)) ?_
        exact StepFrom.move hop (v := (.tuple #[.int .i64 q, .bool (!r)] : Value)) (by kernel_rfl) (by kernel_rfl) hQS (Below.refl _ _) rfl
      refine StepsT.cons (fun (x : Value) (_ : World) => x = (.int .i64 q : Value)) [(13, (fun (x : Value) (_ : World) => x = (.tuple #[.int .i64 q, .bool (!r)] : Value)))] rfl rfl (fun oq hop _ wq hQS => ?_) ?_
      · refine StepFrom.more_eq ((.tuple #[.int .i64 q, .bool (!r)] : Value)) ?_
        exact StepFrom.extract hop (t := (.tuple #[.int .i64 q, .bool (!r)] : Value)) (by kernel_rfl) (pair_zero _ _ _) (by kernel_rfl) hQS (Below.refl _ _) rfl
      refine StepsT.cons (fun (x : Value) (_ : World) => x = (.bool (!r) : Value)) [(13, (fun (x : Value) (_ : World) => x = (.tuple #[.int .i64 q, .bool (!r)] : Value)))] rfl rfl (fun oq hop _ wq hQS => ?_) ?_
      · refine StepFrom.more_eq ((.tuple #[.int .i64 q, .bool (!r)] : Value)) ?_
        exact StepFrom.extract hop (t := (.tuple #[.int .i64 q, .bool (!r)] : Value)) (by kernel_rfl) (pair_one _ _ _) (by kernel_rfl) hQS (Below.refl _ _) rfl
      refine StepsT.cons (fun (x : Value) (_ : World) => x = (.int .i64 q : Value)) [(20, (fun (x : Value) (_ : World) => x = (.int .i64 q : Value)))] rfl rfl (fun oq hop _ wq hQS => ?_) ?_
      · refine StepFrom.more_eq ((.int .i64 q : Value)) ?_
        exact StepFrom.assign hop (v := (.int .i64 q : Value)) (by kernel_rfl) (by kernel_rfl) hQS (Below.refl _ _) rfl
      refine StepsT.cons (fun (x : Value) (_ : World) => x = (.bool (!r) : Value)) [(21, (fun (x : Value) (_ : World) => x = (.bool (!r) : Value)))] rfl rfl (fun oq hop _ wq hQS => ?_) ?_
      · refine StepFrom.more_eq ((.bool (!r) : Value)) ?_
        exact StepFrom.assign hop (v := (.bool (!r) : Value)) (by kernel_rfl) (by kernel_rfl) hQS (Below.refl _ _) rfl
      exact StepsT.nil
    case hfin =>
      intro wf hFS
      refine FinalFrom.more fun x14 h14 => ?_
      refine FinalFrom.more fun x15 h15 => ?_
      refine FinalFrom.more fun x16 h16 => ?_
      refine FinalFrom.more fun x17 h17 => ?_
      refine FinalFrom.more fun x18 h18 => ?_
      refine FinalFrom.more fun x19 h19 => ?_
      refine FinalFrom.more fun x13 h13 => ?_
      refine FinalFrom.more fun x20 h20 => ?_
      refine FinalFrom.more fun x21 h21 => ?_
      refine FinalFrom.more fun x6 h6 => ?_
      refine FinalFrom.more fun x7 h7 => ?_
      refine FinalFrom.done ?_
      clear hS
      simp only [Act.put, List.setIfInBounds_toArray, List.set_cons_zero, List.set_cons_succ, h14, h15, h16, h17, h18, h19, h13, h20, h21, h6, h7]
      clear h14 h15 h16 h17 h18 h19 h13 h20 h21 h6 h7
      have f1 := (hFS.cell (p := ⟨g, o + 1, none⟩) lg).trans e1
      have fp := (hFS.cell (p := ⟨pb, 0, none⟩) lp).trans ep
      have fb := (hFS.cell (p := ⟨w.heap.size, 0, none⟩) lb).trans eb
      have HFS := Lib.hid hFS
      have sf := hFS.size
      have lg2 : g < wf.heap.size := by omega
      have lp2 : pb < wf.heap.size := by omega
      have lb2 : w.heap.size < wf.heap.size := by omega
      clear hFS e0 e1 eb ep lb lp lg HMW
      cases r with
      | true =>
        have HFIN := Lib.hid (HSTAY.out wf HFS.out (by
          have := of_decide_eq_true HRR.out
          unfold putT
          rw [if_neg fun x => by have := outer_iff.1 x; omega]))
        clear HSTAY HFAR HNEAR HBLK HRR HQQ
        go_wp2
        go_ret
        exact HFIN.out
      | false =>
        have hd0 := of_decide_eq_false HRR.out
        have hq := HQQ.out
        rw [if_neg hd0] at hq
        have hq0 : 0 ≤ q := by omega
        have HQ2 := Lib.hid hq
        clear HRR HQQ hq
        by_cases hge : q < (nb : Int)
        · obtain ⟨i, hi⟩ : ∃ i : Nat, nb - 1 - q.toNat = i := ⟨_, rfl⟩
          have hil : i < nb := by omega
          have iq : (nb : Int) - 1 - q = (i : Int) := by omega
          have ws1 : IntKind.i64.wrap ((nb : Int) - 1) = (nb : Int) - 1 := IntWalk.i64_in _ (by omega)
          have ws2 : IntKind.i64.wrap ((nb : Int) - 1 - q) = (i : Int) := by rw [IntWalk.i64_in _ (by omega)]; exact iq
          obtain ⟨b, hbb⟩ : ∃ b, by'[i]? = some b := ⟨_, List.getElem?_eq_getElem (by rw [HNB.out]; exact hil)⟩
          have HDONE : Hid (putT by' d 1 n lv = .done (b.walk (liftT (d : Int) 0) 0)) := by
            show _ = _
            unfold putT
            have hq := HQ2.out
            rw [if_pos (outer_iff.2 ⟨rfl, by omega, by omega⟩), if_pos (by rw [HNB.out]; omega), List.getD_eq_getElem?_getD, HNB.out, hq, hi, hbb]
            rfl
          obtain ⟨bb, bo, kb, mb, ab, A3, p3, c3, A4, p4, c4, eA, hbB, hv, f5, f6, f7, f8, f9⟩ := HT.out.at (HBW.out.trans (HFS.out.mono hbsz)) hbb
          subst eA
          have HFB := Lib.hid (HFIT.out b (List.mem_of_getElem? hbb))
          obtain ⟨u, hu⟩ : ∃ u, b.walk (liftT (d : Int) 0) 0 = u := ⟨_, rfl⟩
          rw [hu] at HDONE
          have HBF : Hid (Below B W wf) := HBW.out.trans (HFS.out.mono hbsz)
          have HL : Hid (∀ w', Below wf.heap.size wf w' → Calls Tryd.prog 10 #[.agg #[.int .i64 kb, .int .i64 mb, .int .i64 ab, .slice A3 p3 c3, .slice A4 p4 c4], .int .i64 (d : Int), .int .i64 0] w' (TermPost w' u)) := fun w' hx => by
            have hx2 : Below B W w' := HBF.out.trans (hx.mono (by omega))
            rw [← hu]
            exact lift_any b HFB.out.1 _ w' (d : Int) 0 HFB.out.2 (HK.out.below hx2 hB) (hv.below hx2 (by have := hx.size; omega))
          have lbb : bb < wf.heap.size := by omega
          have in0 : (0 : Int) ≤ (i : Int) := by omega
          have in1 : (i : Int) < (nb : Int) := by omega
          clear hu hv hbb HSTAY HFAR HT HFIT HK
          go_upto_region 5 with (fail)
          have hS : Below wf.heap.size wf wf.drew := (Below.refl _ _).drew
          refine wp_region_tail 13 (fun w' => Below wf.heap.size wf w') (fun w1 w2 : World => Below w1.heap.size w1 w2) [(fun (x : Value) (_ : World) => x = (.pointer (some ⟨g, o, none⟩) : Value)), (fun (x : Value) (_ : World) => x = (.slice (some ⟨bb, bo, none⟩) nb cb : Value)), (fun (x : Value) (_ : World) => x = (.slice (some ⟨bb, bo, none⟩) nb cb : Value)), (fun (x : Value) (_ : World) => x = (.int .i64 (nb : Int) : Value)), (fun (x : Value) (_ : World) => x = (.int .i64 ((nb : Int) - 1) : Value)), (fun (x : Value) (_ : World) => x = (.int .i64 q : Value)), (fun (x : Value) (_ : World) => x = (.int .i64 (i : Int) : Value)), (fun (x : Value) (_ : World) => x = (.pointer (some ⟨bb, bo + i * 5, none⟩) : Value)), (fun (x : Value) (_ : World) => x = (.agg #[.int .i64 kb, .int .i64 mb, .int .i64 ab, .slice A3 p3 c3, .slice A4 p4 c4] : Value)), (fun (x : Value) (_ : World) => x = (.pointer (some ⟨w.heap.size, 0, none⟩) : Value)), (fun (x : Value) (_ : World) => x = (.int .i64 (d : Int) : Value)), (fun (x : Value) (w : World) => OwnTm w wf.heap.size w.heap.size u x), (fun (x : Value) (_ : World) => x = (.pointer (some ⟨g, o, none⟩) : Value))] [⟨some 29, .move (.tmp 1), none, []⟩, ⟨some 30, .load 25 (.tmp 2), none, []⟩, ⟨some 31, .load 25 (.tmp 2), none, []⟩, ⟨some 32, .call { callee := .builtin .len, args := #[.tmp 31], argTypes := #[25] }, none, [(31, 2)]⟩, ⟨some 33, .binOp .sub 3 (.tmp 32) (.const (.int .i64 1)) 3, none, [(32, 3)]⟩, ⟨some 34, .move (.tmp 6), none, []⟩, ⟨some 35, .binOp .sub 3 (.tmp 33) (.tmp 34) 3, none, [(33, 4), (34, 5)]⟩, ⟨some 36, .indexAddr 25 (.tmp 30) (.tmp 35), none, [(30, 1), (35, 6)]⟩, ⟨some 37, .load 27 (.tmp 36), none, [(36, 7)]⟩, ⟨some 38, .fieldAddr 72 (.tmp 3) 0, none, []⟩, ⟨some 39, .load 3 (.tmp 38), none, [(38, 9)]⟩, ⟨some 40, .call { callee := .value (.func 10), args := #[.tmp 37, .tmp 39, .const (.int .i64 0)], argTypes := #[27, 3, 3] }, none, [(37, 8), (39, 10)]⟩, ⟨some 41, .nilCheck (.tmp 29), none, [(29, 0)]⟩] [some 29, some 30, some 31, some 32, some 33, some 34, some 35, some 36, some 37, some 38, some 39, some 40, some 41] [] [] (by kernel_rfl) (by kernel_rfl) (by kernel_rfl) (by kernel_rfl) (by kernel_rfl) (by kernel_rfl) (by kernel_rfl) (by kernel_rfl) ?hrun ?hold ?hS ?hmono ?hsteps ?hfin
          case hrun => exact fun p hp => by cases hp
          case hold => exact fun p hp => by cases hp
          case hS => exact hS
          case hmono =>
            refine MonoL.cons (fun x w1 w2 _ _ _ hx => hx) ?_
            refine MonoL.cons (fun x w1 w2 _ _ _ hx => hx) ?_
            refine MonoL.cons (fun x w1 w2 _ _ _ hx => hx) ?_
            refine MonoL.cons (fun x w1 w2 _ _ _ hx => hx) ?_
            refine MonoL.cons (fun x w1 w2 _ _ _ hx => hx) ?_
            refine MonoL.cons (fun x w1 w2 _ _ _ hx => hx) ?_
            refine MonoL.cons (fun x w1 w2 _ _ _ hx => hx) ?_
            refine MonoL.cons (fun x w1 w2 _ _ _ hx => hx) ?_
            refine MonoL.cons (fun x w1 w2 _ _ _ hx => hx) ?_
            refine MonoL.cons (fun x w1 w2 _ _ _ hx => hx) ?_
            refine MonoL.cons (fun x w1 w2 _ _ _ hx => hx) ?_
            refine MonoL.cons (fun x w1 w2 _ _ hR hx => ?_) ?_
            · exact (hx.kept (keptIn_below hR (Nat.le_refl _))).wide (Nat.le_refl _) hR.size
            refine MonoL.cons (fun x w1 w2 _ _ _ hx => hx) ?_
            exact MonoL.nil
          case hsteps =>
            refine StepsT.cons (fun (x : Value) (_ : World) => x = (.pointer (some ⟨g, o, none⟩) : Value)) [] rfl rfl (fun oq hop _ wq hQS => ?_) ?_
            · exact StepFrom.move hop (v := (.pointer (some ⟨g, o, none⟩) : Value)) (by kernel_rfl) (by kernel_rfl) hQS (Below.refl _ _) rfl
            refine StepsT.cons (fun (x : Value) (_ : World) => x = (.slice (some ⟨bb, bo, none⟩) nb cb : Value)) [] rfl rfl (fun oq hop _ wq hQS => ?_) ?_
            · exact StepFrom.load hop (p := (.pointer (some ⟨pb, 0, none⟩) : Value)) (by kernel_rfl) (load_terms ((hQS.cell (p := ⟨pb, 0, none⟩) lp2).trans fp)) (by kernel_rfl) hQS (Below.refl _ _) rfl
            refine StepsT.cons (fun (x : Value) (_ : World) => x = (.slice (some ⟨bb, bo, none⟩) nb cb : Value)) [] rfl rfl (fun oq hop _ wq hQS => ?_) ?_
            · exact StepFrom.load hop (p := (.pointer (some ⟨pb, 0, none⟩) : Value)) (by kernel_rfl) (load_terms ((hQS.cell (p := ⟨pb, 0, none⟩) lp2).trans fp)) (by kernel_rfl) hQS (Below.refl _ _) rfl
            refine StepsT.cons (fun (x : Value) (_ : World) => x = (.int .i64 (nb : Int) : Value)) [(31, (fun (x : Value) (_ : World) => x = (.slice (some ⟨bb, bo, none⟩) nb cb : Value)))] rfl rfl (fun oq hop _ wq hQS => ?_) ?_
            · refine StepFrom.more_eq ((.slice (some ⟨bb, bo, none⟩) nb cb : Value)) ?_
              exact StepFrom.lenT hop (show _ = (.slice (some ⟨bb, bo, none⟩) nb cb : Value) by kernel_rfl) (by kernel_rfl) hQS (Below.refl _ _) rfl
            refine StepsT.cons (fun (x : Value) (_ : World) => x = (.int .i64 ((nb : Int) - 1) : Value)) [(32, (fun (x : Value) (_ : World) => x = (.int .i64 (nb : Int) : Value)))] rfl rfl (fun oq hop _ wq hQS => ?_) ?_
            · refine StepFrom.more_eq ((.int .i64 (nb : Int) : Value)) ?_
              exact StepFrom.bin hop (vx := (.int .i64 (nb : Int) : Value)) (vy := (.int .i64 1 : Value)) (by kernel_rfl) (by kernel_rfl) (sub_wrap _ _ _ ws1) (by kernel_rfl) hQS (Below.refl _ _) rfl
            refine StepsT.cons (fun (x : Value) (_ : World) => x = (.int .i64 q : Value)) [] rfl rfl (fun oq hop _ wq hQS => ?_) ?_
            · exact StepFrom.move hop (v := (.int .i64 q : Value)) (by kernel_rfl) (by kernel_rfl) hQS (Below.refl _ _) rfl
            refine StepsT.cons (fun (x : Value) (_ : World) => x = (.int .i64 (i : Int) : Value)) [(33, (fun (x : Value) (_ : World) => x = (.int .i64 ((nb : Int) - 1) : Value))), (34, (fun (x : Value) (_ : World) => x = (.int .i64 q : Value)))] rfl rfl (fun oq hop _ wq hQS => ?_) ?_
            · refine StepFrom.more_eq ((.int .i64 ((nb : Int) - 1) : Value)) ?_
              refine StepFrom.more_eq ((.int .i64 q : Value)) ?_
              exact StepFrom.bin hop (vx := (.int .i64 ((nb : Int) - 1) : Value)) (vy := (.int .i64 q : Value)) (by kernel_rfl) (by kernel_rfl) (sub_wrap _ _ _ ws2) (by kernel_rfl) hQS (Below.refl _ _) rfl
            refine StepsT.cons (fun (x : Value) (_ : World) => x = (.pointer (some ⟨bb, bo + i * 5, none⟩) : Value)) [(30, (fun (x : Value) (_ : World) => x = (.slice (some ⟨bb, bo, none⟩) nb cb : Value))), (35, (fun (x : Value) (_ : World) => x = (.int .i64 (i : Int) : Value)))] rfl rfl (fun oq hop _ wq hQS => ?_) ?_
            · refine StepFrom.more_eq ((.slice (some ⟨bb, bo, none⟩) nb cb : Value)) ?_
              refine StepFrom.more_eq ((.int .i64 (i : Int) : Value)) ?_
              exact StepFrom.indexAddr hop (p := (.slice (some ⟨bb, bo, none⟩) nb cb : Value)) (q := (.int .i64 (i : Int) : Value)) (by kernel_rfl) (by kernel_rfl) (term_addr in0 in1) (by kernel_rfl) hQS (Below.refl _ _) rfl
            refine StepsT.cons (fun (x : Value) (_ : World) => x = (.agg #[.int .i64 kb, .int .i64 mb, .int .i64 ab, .slice A3 p3 c3, .slice A4 p4 c4] : Value)) [(36, (fun (x : Value) (_ : World) => x = (.pointer (some ⟨bb, bo + i * 5, none⟩) : Value)))] rfl rfl (fun oq hop _ wq hQS => ?_) ?_
            · refine StepFrom.more_eq ((.pointer (some ⟨bb, bo + i * 5, none⟩) : Value)) ?_
              exact StepFrom.load hop (p := (.pointer (some ⟨bb, bo + i * 5, none⟩) : Value)) (by kernel_rfl) (load_term ((hQS.cell (p := ⟨bb, bo + i * 5, none⟩) lbb).trans f5) ((hQS.cell (p := ⟨bb, bo + i * 5 + 1, none⟩) lbb).trans f6) ((hQS.cell (p := ⟨bb, bo + i * 5 + 2, none⟩) lbb).trans f7) ((hQS.cell (p := ⟨bb, bo + i * 5 + 3, none⟩) lbb).trans f8) ((hQS.cell (p := ⟨bb, bo + i * 5 + 4, none⟩) lbb).trans f9)) (by kernel_rfl) hQS (Below.refl _ _) rfl
            refine StepsT.cons (fun (x : Value) (_ : World) => x = (.pointer (some ⟨w.heap.size, 0, none⟩) : Value)) [] rfl rfl (fun oq hop _ wq hQS => ?_) ?_
            · exact StepFrom.fieldAddr hop (p := (.pointer (some ⟨w.heap.size, 0, none⟩) : Value)) (by kernel_rfl) (depth_field) (by kernel_rfl) hQS (Below.refl _ _) rfl
            refine StepsT.cons (fun (x : Value) (_ : World) => x = (.int .i64 (d : Int) : Value)) [(38, (fun (x : Value) (_ : World) => x = (.pointer (some ⟨w.heap.size, 0, none⟩) : Value)))] rfl rfl (fun oq hop _ wq hQS => ?_) ?_
            · refine StepFrom.more_eq ((.pointer (some ⟨w.heap.size, 0, none⟩) : Value)) ?_
              exact StepFrom.load hop (p := (.pointer (some ⟨w.heap.size, 0, none⟩) : Value)) (by kernel_rfl) (load_int ((hQS.cell (p := ⟨w.heap.size, 0, none⟩) lb2).trans fb)) (by kernel_rfl) hQS (Below.refl _ _) rfl
            refine StepsT.cons (fun (x : Value) (w : World) => OwnTm w wf.heap.size w.heap.size u x) [(37, (fun (x : Value) (_ : World) => x = (.agg #[.int .i64 kb, .int .i64 mb, .int .i64 ab, .slice A3 p3 c3, .slice A4 p4 c4] : Value))), (39, (fun (x : Value) (_ : World) => x = (.int .i64 (d : Int) : Value)))] rfl rfl (fun oq hop _ wq hQS => ?_) ?_
            · refine StepFrom.more_eq ((.agg #[.int .i64 kb, .int .i64 mb, .int .i64 ab, .slice A3 p3 c3, .slice A4 p4 c4] : Value)) ?_
              refine StepFrom.more_eq ((.int .i64 (d : Int) : Value)) ?_
              exact StepFrom.call hop (vs := [(.agg #[.int .i64 kb, .int .i64 mb, .int .i64 ab, .slice A3 p3 c3, .slice A4 p4 c4] : Value), (.int .i64 (d : Int) : Value), (.int .i64 0 : Value)]) (by kernel_rfl) (fun w => enter_lift _ w) (by kernel_rfl) ((HL.out wq hQS).mono fun e w9 h9 => by obtain ⟨v, q1, q2, q3⟩ := h9; exact ⟨_, q1, hQS.trans (q3.mono hQS.size), q3, q2.wide hQS.size (Nat.le_refl _)⟩)
            refine StepsT.cons (fun (x : Value) (_ : World) => x = (.pointer (some ⟨g, o, none⟩) : Value)) [(29, (fun (x : Value) (_ : World) => x = (.pointer (some ⟨g, o, none⟩) : Value)))] rfl rfl (fun oq hop _ wq hQS => ?_) ?_
            · refine StepFrom.more_eq ((.pointer (some ⟨g, o, none⟩) : Value)) ?_
              exact StepFrom.nilCheck hop (show _ = (.pointer (some ⟨g, o, none⟩) : Value) by kernel_rfl) (by kernel_rfl) hQS (Below.refl _ _) rfl
            exact StepsT.nil
          case hfin =>
            intro wg hFS
            refine FinalFrom.more fun x29 h29 => ?_
            refine FinalFrom.more fun x30 h30 => ?_
            refine FinalFrom.more fun x31 h31 => ?_
            refine FinalFrom.more fun x32 h32 => ?_
            refine FinalFrom.more fun x33 h33 => ?_
            refine FinalFrom.more fun x34 h34 => ?_
            refine FinalFrom.more fun x35 h35 => ?_
            refine FinalFrom.more fun x36 h36 => ?_
            refine FinalFrom.more fun x37 h37 => ?_
            refine FinalFrom.more fun x38 h38 => ?_
            refine FinalFrom.more fun x39 h39 => ?_
            refine FinalFrom.more fun x40 h40 => ?_
            refine FinalFrom.more fun x41 h41 => ?_
            refine FinalFrom.done ?_
            intro _
            simp only [Act.put, List.setIfInBounds_toArray, List.set_cons_zero, List.set_cons_succ, List.drop_succ_cons, List.drop_zero, h29, h30, h31, h32, h33, h34, h35, h36, h37, h38, h39, h41]
            clear h29 h30 h31 h32 h33 h34 h35 h36 h37 h38 h39 h41 hS
            have hb9 : Below w1.heap.size w1 wg := HFS.out.trans (hFS.mono sf)
            have hin := (Array.getElem?_eq_some_iff.1 H5.out.2.2.2.2).1
            have hblk := HBLK.out wg hb9
            have z0 := thawed hblk o
            have z1 := thawed hblk (o + 1)
            have z2 := thawed hblk (o + 2)
            have z3 := thawed hblk (o + 3)
            have z4 := thawed hblk (o + 4)
            have y0 := row_cell hblk H5.out.1
            have y1 := row_cell hblk H5.out.2.1
            have y2 := row_cell hblk H5.out.2.2.1
            have y3 := row_cell hblk H5.out.2.2.2.1
            have y4 := row_cell hblk H5.out.2.2.2.2
            have hown : OwnTm wg w1.heap.size wg.heap.size u x40 := h40.wide sf (Nat.le_refl _)
            obtain ⟨k2, n2, a2, lv2, kids2⟩ := u
            obtain ⟨vl, vk', m1, m2, xs, ev, w1', ⟨A5, c5, rfl⟩, w2', w3'⟩ := hown.open
            obtain ⟨A6, c6, rfl, _⟩ := w2'.2.1
            obtain ⟨p5, hp5⟩ : ∃ p, lv2.length = p := ⟨_, rfl⟩
            obtain ⟨p6, hp6⟩ : ∃ p, kids2.length = p := ⟨_, rfl⟩
            rw [hp5, hp6] at ev
            subst ev
            have HFIN := Lib.hid (HNEAR.out wg _ _ _ _ _ _ hb9 HDONE.out hown)
            unfold store5 at HFIN
            clear HNEAR HBLK HDONE HL HFS hFS hb9 f1 fp fb f5 f6 f7 f8 f9 hin hblk hown w1' w2' w3' h40 H5 hp5 hp6
            go_wp2
            go_ret
            exact HFIN.out
        · obtain ⟨z, hz⟩ : ∃ z, n - (nb : Int) = z := ⟨_, rfl⟩
          have HGO : Hid (putT by' d 1 n lv = .go z lv) := by
            show _ = _
            unfold putT
            have hq := HQ2.out
            rw [if_pos (outer_iff.2 ⟨rfl, by omega, by omega⟩), if_neg (by rw [HNB.out]; omega), HNB.out, hz]
          have ws1 : IntKind.i64.wrap (n - (nb : Int)) = z := by
            have := HR.out
            unfold Rng at this
            rw [IntWalk.i64_in _ (by omega)]
            exact hz
          clear HSTAY HNEAR HT HFIT HK hz
          go_upto_region 8 with (fail)
          have hS : Below wf.heap.size wf wf.drew := (Below.refl _ _).drew
          refine wp_region_tail 9 (fun w' => Below wf.heap.size wf w') (fun w1 w2 : World => Below w1.heap.size w1 w2) [(fun (x : Value) (_ : World) => x = (.pointer (some ⟨g, o, none⟩) : Value)), (fun (x : Value) (_ : World) => x = (.pointer (some ⟨g, o, none⟩) : Value)), (fun (x : Value) (_ : World) => x = (.pointer (some ⟨g, o + 1, none⟩) : Value)), (fun (x : Value) (_ : World) => x = (.int .i64 n : Value)), (fun (x : Value) (_ : World) => x = (.slice Ab nb cb : Value)), (fun (x : Value) (_ : World) => x = (.int .i64 (nb : Int) : Value)), (fun (x : Value) (_ : World) => x = (.int .i64 z : Value)), (fun (x : Value) (_ : World) => x = (.pointer (some ⟨g, o, none⟩) : Value)), (fun (x : Value) (_ : World) => x = (.pointer (some ⟨g, o + 1, none⟩) : Value))] [⟨some 43, .move (.tmp 1), none, []⟩, ⟨some 44, .nilCheck (.tmp 43), none, [(43, 0)]⟩, ⟨some 45, .fieldAddr 27 (.tmp 44) 1, none, [(44, 1)]⟩, ⟨some 46, .load 3 (.tmp 45), none, [(45, 2)]⟩, ⟨some 47, .load 25 (.tmp 2), none, []⟩, ⟨some 48, .call { callee := .builtin .len, args := #[.tmp 47], argTypes := #[25] }, none, [(47, 4)]⟩, ⟨some 49, .binOp .sub 3 (.tmp 46) (.tmp 48) 3, none, [(46, 3), (48, 5)]⟩, ⟨some 50, .nilCheck (.tmp 43), none, [(43, 0)]⟩, ⟨some 51, .fieldAddr 27 (.tmp 50) 1, none, [(50, 7)]⟩] [some 43, some 44, some 45, some 46, some 47, some 48, some 49, some 50, some 51] [] [] (by kernel_rfl) (by kernel_rfl) (by kernel_rfl) (by kernel_rfl) (by kernel_rfl) (by kernel_rfl) (by kernel_rfl) (by kernel_rfl) ?hrun ?hold ?hS ?hmono ?hsteps ?hfin
          case hrun => exact fun p hp => by cases hp
          case hold => exact fun p hp => by cases hp
          case hS => exact hS
          case hmono =>
            refine MonoL.cons (fun x w1 w2 _ _ _ hx => hx) ?_
            refine MonoL.cons (fun x w1 w2 _ _ _ hx => hx) ?_
            refine MonoL.cons (fun x w1 w2 _ _ _ hx => hx) ?_
            refine MonoL.cons (fun x w1 w2 _ _ _ hx => hx) ?_
            refine MonoL.cons (fun x w1 w2 _ _ _ hx => hx) ?_
            refine MonoL.cons (fun x w1 w2 _ _ _ hx => hx) ?_
            refine MonoL.cons (fun x w1 w2 _ _ _ hx => hx) ?_
            refine MonoL.cons (fun x w1 w2 _ _ _ hx => hx) ?_
            refine MonoL.cons (fun x w1 w2 _ _ _ hx => hx) ?_
            exact MonoL.nil
          case hsteps =>
            refine StepsT.cons (fun (x : Value) (_ : World) => x = (.pointer (some ⟨g, o, none⟩) : Value)) [] rfl rfl (fun oq hop _ wq hQS => ?_) ?_
            · exact StepFrom.move hop (v := (.pointer (some ⟨g, o, none⟩) : Value)) (by kernel_rfl) (by kernel_rfl) hQS (Below.refl _ _) rfl
            refine StepsT.cons (fun (x : Value) (_ : World) => x = (.pointer (some ⟨g, o, none⟩) : Value)) [(43, (fun (x : Value) (_ : World) => x = (.pointer (some ⟨g, o, none⟩) : Value)))] rfl rfl (fun oq hop _ wq hQS => ?_) ?_
            · refine StepFrom.more_eq ((.pointer (some ⟨g, o, none⟩) : Value)) ?_
              exact StepFrom.nilCheck hop (show _ = (.pointer (some ⟨g, o, none⟩) : Value) by kernel_rfl) (by kernel_rfl) hQS (Below.refl _ _) rfl
            refine StepsT.cons (fun (x : Value) (_ : World) => x = (.pointer (some ⟨g, o + 1, none⟩) : Value)) [(44, (fun (x : Value) (_ : World) => x = (.pointer (some ⟨g, o, none⟩) : Value)))] rfl rfl (fun oq hop _ wq hQS => ?_) ?_
            · refine StepFrom.more_eq ((.pointer (some ⟨g, o, none⟩) : Value)) ?_
              exact StepFrom.fieldAddr hop (p := (.pointer (some ⟨g, o, none⟩) : Value)) (by kernel_rfl) (term_field 1 (by decide)) (by kernel_rfl) hQS (Below.refl _ _) rfl
            refine StepsT.cons (fun (x : Value) (_ : World) => x = (.int .i64 n : Value)) [(45, (fun (x : Value) (_ : World) => x = (.pointer (some ⟨g, o + 1, none⟩) : Value)))] rfl rfl (fun oq hop _ wq hQS => ?_) ?_
            · refine StepFrom.more_eq ((.pointer (some ⟨g, o + 1, none⟩) : Value)) ?_
              exact StepFrom.load hop (p := (.pointer (some ⟨g, o + 1, none⟩) : Value)) (by kernel_rfl) (load_int ((hQS.cell (p := ⟨g, o + 1, none⟩) lg2).trans f1)) (by kernel_rfl) hQS (Below.refl _ _) rfl
            refine StepsT.cons (fun (x : Value) (_ : World) => x = (.slice Ab nb cb : Value)) [] rfl rfl (fun oq hop _ wq hQS => ?_) ?_
            · exact StepFrom.load hop (p := (.pointer (some ⟨pb, 0, none⟩) : Value)) (by kernel_rfl) (load_terms ((hQS.cell (p := ⟨pb, 0, none⟩) lp2).trans fp)) (by kernel_rfl) hQS (Below.refl _ _) rfl
            refine StepsT.cons (fun (x : Value) (_ : World) => x = (.int .i64 (nb : Int) : Value)) [(47, (fun (x : Value) (_ : World) => x = (.slice Ab nb cb : Value)))] rfl rfl (fun oq hop _ wq hQS => ?_) ?_
            · refine StepFrom.more_eq ((.slice Ab nb cb : Value)) ?_
              exact StepFrom.lenT hop (show _ = (.slice Ab nb cb : Value) by kernel_rfl) (by kernel_rfl) hQS (Below.refl _ _) rfl
            refine StepsT.cons (fun (x : Value) (_ : World) => x = (.int .i64 z : Value)) [(46, (fun (x : Value) (_ : World) => x = (.int .i64 n : Value))), (48, (fun (x : Value) (_ : World) => x = (.int .i64 (nb : Int) : Value)))] rfl rfl (fun oq hop _ wq hQS => ?_) ?_
            · refine StepFrom.more_eq ((.int .i64 n : Value)) ?_
              refine StepFrom.more_eq ((.int .i64 (nb : Int) : Value)) ?_
              exact StepFrom.bin hop (vx := (.int .i64 n : Value)) (vy := (.int .i64 (nb : Int) : Value)) (by kernel_rfl) (by kernel_rfl) (sub_wrap _ _ _ ws1) (by kernel_rfl) hQS (Below.refl _ _) rfl
            refine StepsT.cons (fun (x : Value) (_ : World) => x = (.pointer (some ⟨g, o, none⟩) : Value)) [(43, (fun (x : Value) (_ : World) => x = (.pointer (some ⟨g, o, none⟩) : Value)))] rfl rfl (fun oq hop _ wq hQS => ?_) ?_
            · refine StepFrom.more_eq ((.pointer (some ⟨g, o, none⟩) : Value)) ?_
              exact StepFrom.nilCheck hop (show _ = (.pointer (some ⟨g, o, none⟩) : Value) by kernel_rfl) (by kernel_rfl) hQS (Below.refl _ _) rfl
            refine StepsT.cons (fun (x : Value) (_ : World) => x = (.pointer (some ⟨g, o + 1, none⟩) : Value)) [(50, (fun (x : Value) (_ : World) => x = (.pointer (some ⟨g, o, none⟩) : Value)))] rfl rfl (fun oq hop _ wq hQS => ?_) ?_
            · refine StepFrom.more_eq ((.pointer (some ⟨g, o, none⟩) : Value)) ?_
              exact StepFrom.fieldAddr hop (p := (.pointer (some ⟨g, o, none⟩) : Value)) (by kernel_rfl) (term_field 1 (by decide)) (by kernel_rfl) hQS (Below.refl _ _) rfl
            exact StepsT.nil
          case hfin =>
            intro wg hFS
            refine FinalFrom.more fun x43 h43 => ?_
            refine FinalFrom.more fun x44 h44 => ?_
            refine FinalFrom.more fun x45 h45 => ?_
            refine FinalFrom.more fun x46 h46 => ?_
            refine FinalFrom.more fun x47 h47 => ?_
            refine FinalFrom.more fun x48 h48 => ?_
            refine FinalFrom.more fun x49 h49 => ?_
            refine FinalFrom.more fun x50 h50 => ?_
            refine FinalFrom.more fun x51 h51 => ?_
            refine FinalFrom.done ?_
            intro _
            simp only [Act.put, List.setIfInBounds_toArray, List.set_cons_zero, List.set_cons_succ, List.drop_succ_cons, List.drop_zero, h43, h44, h45, h46, h47, h48, h49, h50, h51]
            clear h43 h44 h45 h46 h47 h48 h49 h50 h51 hS
            have hb9 : Below w1.heap.size w1 wg := HFS.out.trans (hFS.mono sf)
            have hblk := HBLK.out wg hb9
            have z1 := thawed hblk (o + 1)
            have y1 := row_cell hblk H5.out.2.1
            have HFIN := Lib.hid (HFAR.out wg z hb9 HGO.out)
            clear HFAR HBLK HGO HFS hFS hb9 f1 fp fb hblk H5
            go_wp2
            go_ret
            exact HFIN.out
  · have HFIN := Lib.hid (HSTAY.out w1 (Below.refl _ _) (by
      unfold putT
      rw [if_neg fun x => k1 (outer_iff.1 x).1]))
    clear HSTAY HFAR HNEAR HBLK HMW
    go_enter Tryd.func39, Tryd.ntmps39
    go_wp2
    go_ret
    exact HFIN.out
end Go.Proofs.YtfgnnbpbbnnnhaaDoor
namespace Go.Proofs.YtfgnnbpbbnnnhaaDoor
open Go.RowKit Go.Maps
set_option maxRecDepth 100000 in
theorem enter_put1 (vs : Array Value) (w : World) : (callFunc 39 vs).run Tryd.prog w = .ok (.enter 39 vs) w := by go_simp
set_option maxRecDepth 100000 in
set_option maxHeartbeats 4000000 in
theorem put_of (k n a : Int) (lv : List (List (Int × Int))) (kids : List Tm) (hf : (Tm.mk k n a lv kids).fit) (w : World) (Al Ak Ab : Option Addr) (p1 c1 p2 c2 nb cb : Nat) (by' : List Tm) (hd : (Tm.mk k n a lv kids).size ≤ 1073741824) (hK : KindsAt w)
    (hv : TmAt w w.heap.size (.mk k n a lv kids) (.agg #[.int .i64 k, .int .i64 n, .int .i64 a, .slice Al p1 c1, .slice Ak p2 c2])) (hnb : by'.length = nb) (hn6 : nb ≤ 1048576) (hts : Tms w w.heap.size Ab cb by') (hfit : ∀ b ∈ by', b.fit ∧ b.size ≤ 1073741824) :
    Calls Tryd.prog 13 #[.agg #[.int .i64 k, .int .i64 n, .int .i64 a, .slice Al p1 c1, .slice Ak p2 c2], .slice Ab nb cb] w (TermPost w ((Tm.mk k n a lv kids).walk (putT by') 0)) := by
  have h0 : 0 < w.heap.size := cell_lt (hK 0 (by decide))
  obtain ⟨wa, hwa⟩ : ∃ x, w.alloc (.cells #[.int .i64 k, .int .i64 n, .int .i64 a, .slice Al p1 c1, .slice Ak p2 c2] 27) = x := ⟨_, rfl⟩
  obtain ⟨w1, hw1⟩ : ∃ x, (wa.alloc (.cells #[.slice Ab nb cb] 25)).alloc (.cells #[.int .i64 0, .int .i64 0, .int .i64 0, .slice none 0 0, .slice none 0 0] 27) = x := ⟨_, rfl⟩
  have hsa : wa.heap.size = w.heap.size + 1 := by rw [← hwa]; simp
  have hba : Below w.heap.size w wa := by rw [← hwa]; exact (Below.refl _ _).alloc (Nat.le_refl _) _
  have hb1a : Below wa.heap.size wa w1 := by rw [← hw1]; exact ((Below.refl _ _).alloc (Nat.le_refl _) _).alloc (by simp) _
  have hb1 := hba.trans (hb1a.mono (by omega))
  have hs1 : w1.heap.size = w.heap.size + 3 := by rw [← hw1]; simp [hsa]
  have xa : wa.heap[w.heap.size]? = some (.cells #[.int .i64 k, .int .i64 n, .int .i64 a, .slice Al p1 c1, .slice Ak p2 c2] 27 (0, 0)) := by rw [← hwa]; exact heap_alloc_new w _
  have x0 := (hb1a.block w.heap.size (by omega)).trans xa
  obtain ⟨z1, z2, _⟩ := two_allocs wa (.cells #[.slice Ab nb cb] 25) (.cells #[.int .i64 0, .int .i64 0, .int .i64 0, .slice none 0 0, .slice none 0 0] 27)
  rw [hw1, hsa] at z1 z2
  obtain ⟨u, hu⟩ : ∃ u, (Tm.mk k n a lv kids).walk (putT by') 0 = u := ⟨_, rfl⟩
  rw [hu]
  have HN : Hid (Calls Tryd.prog 37 #[.agg #[.int .i64 0, .func (.func 39) #[] #[.pointer (some ⟨w.heap.size + 1, 0, none⟩)]], .agg #[.int .i64 k, .int .i64 n, .int .i64 a, .slice Al p1 c1, .slice Ak p2 c2]] w1 (TermPost w1 u)) := by
    rw [← hu]
    exact term_any w1 w1.heap.size 1073741824 _ _ _ (Nat.le_refl _) (by omega) (hK.below hb1 h0) (fun vs w => enter_put1 vs w)
      (turn_put w1 _ _ (w.heap.size + 1) Ab nb cb by' (Nat.le_refl _) (by omega) (by omega) (hK.below hb1 h0) (cell_of_one z1) hnb hn6 (hts.below hb1 hb1.size) hfit) _ hf 0 _ w1 (by omega) (Below.refl _ _) (Nat.le_refl _) (hv.below hb1 hb1.size)
  have y0 := cell_of_row _ _ 0 _ _ (0, 0) x0
  have y1 := cell_of_row _ _ 1 _ _ (0, 0) x0
  have y2 := cell_of_row _ _ 2 _ _ (0, 0) x0
  have y3 := cell_of_row _ _ 3 _ _ (0, 0) x0
  have y4 := cell_of_row _ _ 4 _ _ (0, 0) x0
  have X3 := Lib.hid z2
  have HB1 := Lib.hid hb1
  have HS1 := Lib.hid hs1
  have hmf : ∀ (W : World), (Instr.makeFunc (.func 39) #[] #[.pointer (some ⟨w.heap.size + 1, 0, none⟩)]).run Tryd.prog W = .ok (.func (.func 39) #[] #[.pointer (some ⟨w.heap.size + 1, 0, none⟩)]) W := fun _ => rfl
  clear hu hK hf hd hv x0 xa hb1 hb1a hba hs1 z1 z2 h0 hnb hts hfit
  go_enter Tryd.func13, Tryd.ntmps13
  go_wp2_with (fail)
  refine HN.out.mono ?_
  rintro e w2 ⟨v, rfl, hown, hb2⟩
  obtain ⟨k2, n2, a2, lv2, kids2⟩ := u
  obtain ⟨vl, vk, m1, m2, xs, ev, w1', ⟨A5, c5, rfl⟩, w2', w3'⟩ := hown.open
  obtain ⟨A6, c6, rfl, _⟩ := w2'.2.1
  obtain ⟨p5, hp5⟩ : ∃ p, lv2.length = p := ⟨_, rfl⟩
  obtain ⟨p6, hp6⟩ : ∃ p, kids2.length = p := ⟨_, rfl⟩
  rw [hp5, hp6] at ev
  subst ev
  have hr2 := (hb2.block (w.heap.size + 1 + 1) (by have := HS1.out; omega)).trans X3.out
  have e0 := cell_of_row _ _ 0 _ _ (0, 0) hr2
  have e1 := cell_of_row _ _ 1 _ _ (0, 0) hr2
  have e2 := cell_of_row _ _ 2 _ _ (0, 0) hr2
  have e3 := cell_of_row _ _ 3 _ _ (0, 0) hr2
  have e4 := cell_of_row _ _ 4 _ _ (0, 0) hr2
  have t0 := thawed hr2 0
  have t1 := thawed hr2 1
  have t2 := thawed hr2 2
  have t3 := thawed hr2 3
  have t4 := thawed hr2 4
  obtain ⟨g9, s9, cur9, h9, _, hc9⟩ := store5_post hr2 (o := 0) (by simp) (.int .i64 k2) (.int .i64 n2) (.int .i64 a2) (.slice A5 p5 c5) (.slice A6 p6 c6)
  have r0 := row_cell h9 hc9.1
  have r1 := row_cell h9 hc9.2.1
  have r2 := row_cell h9 hc9.2.2.1
  have r3 := row_cell h9 hc9.2.2.2.1
  have r4 := row_cell h9 hc9.2.2.2.2
  have HFIN : Hid (TermPost w (Tm.mk k2 n2 a2 lv2 kids2) (.returned (.agg #[.int .i64 k2, .int .i64 n2, .int .i64 a2, .slice A5 p5 c5, .slice A6 p6 c6])) (store5 w2 (w.heap.size + 1 + 1) 0 (.int .i64 k2) (.int .i64 n2) (.int .i64 a2) (.slice A5 p5 c5) (.slice A6 p6 c6))) := by
    have hs1 := HS1.out
    have hgs := hb2.size
    refine ⟨_, rfl, ?_, (HB1.out.trans (hb2.mono (by omega))).trans (below_grownT g9 (by omega) (by omega))⟩
    rw [s9]
    exact (hown.kept (grown_kept g9 (by omega) (Nat.le_refl _))).wide (by omega) (Nat.le_refl _)
  unfold store5 at HFIN r0 r1 r2 r3 r4
  clear g9 s9 h9 hc9 hown hb2 hr2 w1' w2' w3' hp5 hp6 HN
  go_wp2
  exact bodyPost_ret (v := .agg #[.int .i64 k2, .int .i64 n2, .int .i64 a2, .slice A5 p5 c5, .slice A6 p6 c6]) (by simp [results, Tryd.results13, go_sem, r0, r1, r2, r3, r4]) rfl HFIN.out
/-- Put answers the term with terms put. -/
theorem putTm_any (t : Tm) (by' : List Tm) (hf : t.fit) (v : Value) (Ab : Option Addr) (nb cb : Nat) (w : World) (hd : t.size ≤ 1073741824) (hK : KindsAt w) (hv : TmAt w w.heap.size t v) (hnb : by'.length = nb) (hn6 : nb ≤ 1048576) (hts : Tms w w.heap.size Ab cb by') (hfit : ∀ b ∈ by', b.fit ∧ b.size ≤ 1073741824) :
    Calls Tryd.prog 13 #[v, .slice Ab nb cb] w (TermPost w (t.walk (putT by') 0)) := by
  obtain ⟨k, n, a, lv, kids⟩ := t
  have hv' := hv
  obtain ⟨Al, cl, Ak, ck, rfl, _⟩ := hv.open
  exact put_of k n a lv kids hf w Al Ak Ab _ cl _ ck nb cb by' hd hK hv' hnb hn6 hts hfit
end Go.Proofs.YtfgnnbpbbnnnhaaDoor
