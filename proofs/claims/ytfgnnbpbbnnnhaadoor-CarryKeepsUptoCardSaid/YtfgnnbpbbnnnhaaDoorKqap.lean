/- Laws. -/
import Derived.Test.YtfgnnbpbbnnnhaaDoorKqaj
import Derived.Test.YtfgnnbpbbnnnhaaDoorKqak
import Derived.Test.YtfgnnbpbbnnnhaaDoorKqam
import Derived.Test.YtfgnnbpbbnnnhaaDoorKqan
import Derived.Test.YtfgnnbpbbnnnhaaDoorKqao
namespace Go.Proofs.YtfgnnbpbbnnnhaaDoor
open Go.RowKit Go.Maps
section
variable {S : World → Prop} {R : World → World → Prop} {o : Oper} {V : Value → World → Prop} {g : Option (Option Tmp × Bool)} {a : Act} {w : World}
set_option maxRecDepth 100000 in
theorem StepFrom.lenT {x : Operand} (hop : o.op = .call { callee := .builtin .len, args := #[x], argTypes := #[25] }) {A : Option Addr} {n c : Nat} (hx : a.eval x = .slice A n c)
    (hg : gOn g a = true) (hS : S w) (hR : R w w) (hV : V (.int .i64 (n : Int)) w) : StepFrom Tryd.prog S R o V g [] a w :=
  StepFrom.ran (v := .int .i64 (n : Int)) (by
    have hm : (#[x] : Array Operand).map a.eval = #[.slice A n c] := by rw [List.map_toArray, List.map_cons, List.map_nil, hx]
    unfold execOp
    simp only [hop, resolve, hm]
    simp [go_sem]) hg hS hR hV
end
set_option maxRecDepth 100000 in
theorem enter_lift (vs : Array Value) (w : World) : (callFunc 10 vs).run Tryd.prog w = .ok (.enter 10 vs) w := by go_simp
set_option maxRecDepth 100000 in
theorem sub_wrap {x y z : Int} (p q : Operand) (w : World) (h : IntKind.i64.wrap (x - y) = z) : ((do eqGuard .sub 3 p q (.int .i64 x) (.int .i64 y); binOp .sub 3 (.int .i64 x) (.int .i64 y) : Sem Value)).run Tryd.prog w = .ok (.int .i64 z) w := by
  subst h
  go_simp
set_option maxRecDepth 100000 in
theorem depth_field {b o : Nat} {w : World} : (Instr.fieldAt 72 (.pointer (some ⟨b, o, none⟩)) 0).run Tryd.prog w = .ok (.pointer (some ⟨b, o, none⟩)) w := by go_simp
set_option maxRecDepth 100000 in
set_option maxHeartbeats 8000000 in
theorem turn_put (W : World) (B D pb : Nat) (Ab : Option Addr) (nb cb : Nat) (by' : List Tm) (hD : D ≤ 1073741824) (hB : 0 < B) (hpb : pb < B) (hK : KindsAt W) (hcell : W.cell? ⟨pb, 0, none⟩ = some (.slice Ab nb cb)) (hnb : by'.length = nb) (hn6 : nb ≤ 1048576)
    (hts : Tms W B Ab cb by') (hfit : ∀ b ∈ by', b.fit ∧ b.size ≤ 1073741824) : TurnOk W B D 39 #[.pointer (some ⟨pb, 0, none⟩)] (putT by') := by
  intro d k n a lv w g o cur Al cl vk hd hr hs hb hg hx h5 hl hz
  obtain ⟨w1, hw1⟩ : ∃ x, w.alloc (.cells #[.int .i64 (d : Int)] 72) = x := ⟨_, rfl⟩
  have hb1 : Below w.heap.size w w1 := by rw [← hw1]; exact (Below.refl _ _).alloc (Nat.le_refl _) _
  have hs1 : w1.heap.size = w.heap.size + 1 := by rw [← hw1]; simp
  have x1 : w1.heap[w.heap.size]? = some (.cells #[.int .i64 (d : Int)] 72 (0, 0)) := by rw [← hw1]; exact heap_alloc_new w _
  have hgl := heap_some_lt hx
  have hg1 := (hb1.block g hgl).trans hx
  have hbw : Below B W w1 := hb.trans (hb1.mono (by omega))
  have e0 := row_cell hg1 h5.1
  have e1 := row_cell hg1 h5.2.1
  have eb := cell_of_one x1
  have ep := (hbw.cell (p := ⟨pb, 0, none⟩) hpb).trans hcell
  have lb := cell_lt eb
  have lp := cell_lt ep
  have lg := cell_lt e1
  have HSTAY : Hid (∀ (w' : World), Below w1.heap.size w1 w' → putT by' d k n lv = .go n lv → TurnPost w g o cur k a vk (putT by' d k n lv) (.returned (.bool false)) w') := fun w' h he => by
    have hb' := hb1.trans (h.mono hb1.size)
    rw [he]
    refine ⟨grown_belowT hb' _, rfl, hs.wide, cur, Al, cl, (hb'.block g hgl).trans hx, Only5.refl _ _, h5, ?_, hz⟩
    exact hl.keep (by have := hb'.size; omega) fun _ hp => (hb'.cell (by omega)).trans (hb.cell hp)
  have HFAR : Hid (∀ (w' : World) (z : Int), Below w1.heap.size w1 w' → putT by' d k n lv = .go z lv → TurnPost w g o cur k a vk (putT by' d k n lv) (.returned (.bool false)) (w'.setCell ⟨g, o + 1, none⟩ (.int .i64 z))) := fun w' z h he => by
    have hb' := hb1.trans (h.mono hb1.size)
    have hgr := grown_set (grown_belowT hb' (some g)) (o + 1) (.int .i64 z)
    have hb2 : Below B w (w'.setCell ⟨g, o + 1, none⟩ (.int .i64 z)) := below_grownT hgr hg (by omega)
    rw [he]
    refine ⟨hgr, rfl, hs.wide, _, Al, cl, set_same ((hb'.block g hgl).trans hx) _ _, Only5.set _ (by omega) (by omega), h5.set1 _, ?_, hz⟩
    exact hl.keep (by have := hgr.size; omega) fun _ hp => (hb2.cell hp).trans (hb.cell hp)
  have HNEAR : Hid (∀ (w' : World) (u : Tm) (c0 c1 c2 c3 c4 : Value), Below w1.heap.size w1 w' → putT by' d k n lv = .done u → OwnTm w' w1.heap.size w'.heap.size u (.agg #[c0, c1, c2, c3, c4]) → TurnPost w g o cur k a vk (putT by' d k n lv) (.returned (.bool true)) (store5 w' g o c0 c1 c2 c3 c4)) := fun w' u c0 c1 c2 c3 c4 h he ho => by
    have hb' := hb1.trans (h.mono hb1.size)
    have hin := (Array.getElem?_eq_some_iff.1 h5.2.2.2.2).1
    obtain ⟨q1, q2, cur', q3, q4, q5⟩ := store5_post ((hb'.block g hgl).trans hx) (o := o) (by omega) c0 c1 c2 c3 c4
    rw [he]
    refine ⟨grown_trans (grown_belowT hb' _) q1, rfl, cur', c0, c1, c2, c3, c4, q3, q4, q5, ?_⟩
    rw [q2]
    exact (ho.kept (grown_kept q1 (by omega) (Nat.le_refl _))).wide (by omega) (Nat.le_refl _)
  have HBLK : Hid (∀ (w' : World), Below w1.heap.size w1 w' → w'.heap[g]? = some (.cells cur 27 (0, 0))) := fun w' h => (h.block g (heap_some_lt hg1)).trans hg1
  have H5 := Lib.hid h5
  have HMW : Hid (∀ w', Below w1.heap.size w1 w' → Calls Tryd.prog 36 #[.agg #[.int .i64 (d : Int)], .int .i64 n] w' (fun e w9 => e = .returned (meansS d n) ∧ Below w'.heap.size w' w9)) := fun w' _ => means_any d n w' hr
  have HR := Lib.hid hr
  have HBW := Lib.hid hbw
  have HT := Lib.hid hts
  have HFIT := Lib.hid hfit
  have HK := Lib.hid hK
  have HNB := Lib.hid hnb
  have hbsz : B ≤ w1.heap.size := by omega
  clear hx h5 hcell hr hs x1 hb1 hgl hg1 hb hbw hts hfit hK hnb hs1 hl hz
  show Calls Tryd.prog 39 #[.agg #[.int .i64 (d : Int)], .pointer (some ⟨g, o, none⟩), .pointer (some ⟨pb, 0, none⟩)] w (TurnPost w g o cur k a vk (putT by' d k n lv))
  by_cases k1 : k = 1
  · subst k1
    go_enter Tryd.func39, Tryd.ntmps39
    go_upto_region 3 with (fail)
    have hS : Below w1.heap.size w1 w1.drew := (Below.refl _ _).drew
    obtain ⟨r, hr⟩ : ∃ r : Bool, decide (n < (d : Int)) = r := ⟨_, rfl⟩
    obtain ⟨q, hq⟩ : ∃ q : Int, (if n < (d : Int) then 0 else n - (d : Int)) = q := ⟨_, rfl⟩
    have hmean : meansS d n = .tuple #[.int .i64 q, .bool (!r)] := by
      rw [← hr, ← hq]
      unfold meansS
      by_cases h : n < (d : Int) <;> simp [h]
    rw [hmean] at HMW
    have HRR := Lib.hid hr
    have HQQ := Lib.hid hq
    clear hr hq hmean
    refine wp_region_tab (fun w' => Below w1.heap.size w1 w') (fun w1 w2 : World => Below w1.heap.size w1 w2) [(fun (x : Value) (_ : World) => x = (.agg #[.int .i64 (d : Int)] : Value)), (fun (x : Value) (_ : World) => x = (.pointer (some ⟨g, o, none⟩) : Value)), (fun (x : Value) (_ : World) => x = (.pointer (some ⟨g, o, none⟩) : Value)), (fun (x : Value) (_ : World) => x = (.pointer (some ⟨g, o + 1, none⟩) : Value)), (fun (x : Value) (_ : World) => x = (.int .i64 n : Value)), (fun (x : Value) (_ : World) => x = (.tuple #[.int .i64 q, .bool (!r)] : Value)), (fun (x : Value) (_ : World) => x = (.tuple #[.int .i64 q, .bool (!r)] : Value)), (fun (x : Value) (_ : World) => x = (.int .i64 q : Value)), (fun (x : Value) (_ : World) => x = (.bool (!r) : Value)), (fun (x : Value) (_ : World) => x = (.int .i64 q : Value)), (fun (x : Value) (_ : World) => x = (.bool (!r) : Value))] [⟨some 14, .load 72 (.tmp 3), none, []⟩, ⟨some 15, .move (.tmp 1), none, []⟩, ⟨some 16, .nilCheck (.tmp 15), none, [(15, 1)]⟩, ⟨some 17, .fieldAddr 27 (.tmp 16) 1, none, [(16, 2)]⟩, ⟨some 18, .load 3 (.tmp 17), none, [(17, 3)]⟩, ⟨some 19, .call { callee := .value (.func 36), args := #[.tmp 14, .tmp 18], argTypes := #[72, 3] }, none, [(14, 0), (18, 4)]⟩, ⟨some 13, .move (.tmp 19), none, [(19, 5)]⟩, ⟨some 20, .extract (.tmp 13) 0, none, [(13, 6)]⟩, ⟨some 21, .extract (.tmp 13) 1, none, [(13, 6)]⟩, ⟨some 6, .assign (.tmp 20), none, [(20, 7)]⟩, ⟨some 7, .assign (.tmp 21), none, [(21, 8)]⟩] [some 14, some 15, some 16, some 17, some 18, some 19, some 13, some 20, some 21, some 6, some 7] (by kernel_rfl) (by kernel_rfl) (by kernel_rfl) (by kernel_rfl) (by kernel_rfl) ?hS ?hmono ?hsteps ?hfin
    case hS => exact hS
    case hmono =>
      refine MonoL.cons (fun x w1 w2 _ _ _ hx => hx) ?_
      refine MonoL.cons (fun x w1 w2 _ _ _ hx => hx) ?_
      refine MonoL.cons (fun x w1 w2 _ _ _ hx => hx) ?_
      refine MonoL.cons (fun x w1 w2 _ _ _ hx => hx) ?_
      refine MonoL.cons (fun x w1 w2 _ _ _ hx => hx) ?_
      refine MonoL.cons (fun x w1 w2 _ _ _ hx => hx) ?_
      refine MonoL.cons (fun x w1 w2 _ _ _ hx => hx) ?_
      refine MonoL.cons (fun x w1 w2 _ _ _ hx => hx) ?_
      refine MonoL.cons (fun x w1 w2 _ _ _ hx => hx) ?_
      refine MonoL.cons (fun x w1 w2 _ _ _ hx => hx) ?_
      refine MonoL.cons (fun x w1 w2 _ _ _ hx => hx) ?_
      exact MonoL.nil
    case hsteps =>
      refine StepsT.cons (fun (x : Value) (_ : World) => x = (.agg #[.int .i64 (d : Int)] : Value)) [] rfl rfl (fun oq hop _ wq hQS => ?_) ?_
      · exact StepFrom.load hop (p := (.pointer (some ⟨w.heap.size, 0, none⟩) : Value)) (by kernel_rfl) (load_depth ((hQS.cell (p := ⟨w.heap.size, 0, none⟩) lb).trans eb)) (by kernel_rfl) hQS (Below.refl _ _) rfl
      refine StepsT.cons (fun (x : Value) (_ : World) => x = (.pointer (some ⟨g, o, none⟩) : Value)) [] rfl rfl (fun oq hop _ wq hQS => ?_) ?_
      · exact StepFrom.move hop (v := (.pointer (some ⟨g, o, none⟩) : Value)) (by kernel_rfl) (by kernel_rfl) hQS (Below.refl _ _) rfl
      refine StepsT.cons (fun (x : Value) (_ : World) => x = (.pointer (some ⟨g, o, none⟩) : Value)) [(15, (fun (x : Value) (_ : World) => x = (.pointer (some ⟨g, o, none⟩) : Value)))] rfl rfl (fun oq hop _ wq hQS => ?_) ?_
      · refine StepFrom.more_eq ((.pointer (some ⟨g, o, none⟩) : Value)) ?_
        exact StepFrom.nilCheck hop (show _ = (.pointer (some ⟨g, o, none⟩) : Value) by kernel_rfl) (by kernel_rfl) hQS (Below.refl _ _) rfl
      refine StepsT.cons (fun (x : Value) (_ : World) => x = (.pointer (some ⟨g, o + 1, none⟩) : Value)) [(16, (fun (x : Value) (_ : World) => x = (.pointer (some ⟨g, o, none⟩) : Value)))] rfl rfl (fun oq hop _ wq hQS => ?_) ?_
      · refine StepFrom.more_eq ((.pointer (some ⟨g, o, none⟩) : Value)) ?_
        exact StepFrom.fieldAddr hop (p := (.pointer (some ⟨g, o, none⟩) : Value)) (by kernel_rfl) (term_field 1 (by decide)) (by kernel_rfl) hQS (Below.refl _ _) rfl
      refine StepsT.cons (fun (x : Value) (_ : World) => x = (.int .i64 n : Value)) [(17, (fun (x : Value) (_ : World) => x = (.pointer (some ⟨g, o + 1, none⟩) : Value)))] rfl rfl (fun oq hop _ wq hQS => ?_) ?_
      · refine StepFrom.more_eq ((.pointer (some ⟨g, o + 1, none⟩) : Value)) ?_
        exact StepFrom.load hop (p := (.pointer (some ⟨g, o + 1, none⟩) : Value)) (by kernel_rfl) (load_int ((hQS.cell (p := ⟨g, o + 1, none⟩) lg).trans e1)) (by kernel_rfl) hQS (Below.refl _ _) rfl
      refine StepsT.cons (fun (x : Value) (_ : World) => x = (.tuple #[.int .i64 q, .bool (!r)] : Value)) [(14, (fun (x : Value) (_ : World) => x = (.agg #[.int .i64 (d : Int)] : Value))), (18, (fun (x : Value) (_ : World) => x = (.int .i64 n : Value)))] rfl rfl (fun oq hop _ wq hQS => ?_) ?_
      · refine StepFrom.more_eq ((.agg #[.int .i64 (d : Int)] : Value)) ?_
        refine StepFrom.more_eq ((.int .i64 n : Value)) ?_
        exact StepFrom.call hop (vs := [(.agg #[.int .i64 (d : Int)] : Value), (.int .i64 n : Value)]) (by kernel_rfl) (fun w => enter_means _ w) (by kernel_rfl) ((HMW.out wq hQS).mono fun e w9 h9 => by obtain ⟨q1, q2⟩ := h9; exact ⟨_, q1, hQS.trans (q2.mono hQS.size), q2, rfl⟩)
      refine StepsT.cons (fun (x : Value) (_ : World) => x = (.tuple #[.int .i64 q, .bool (!r)] : Value)) [(19, (fun (x : Value) (_ : World) => x = (.tuple #[.int .i64 q, .bool (!r)] : Value)))] rfl rfl (fun oq hop _ wq hQS => ?_) ?_
      · refine StepFrom.more_eq ((.tuple #[.int .i64 q, .bool (!r)] : Value)) ?_
        exact StepFrom.move hop (v := (.tuple #[.int .i64 q, .bool (!r)] : Value)) (by kernel_rfl) (by kernel_rfl) hQS (Below.refl _ _) rfl
      refine StepsT.cons (fun (x : Value) (_ : World) => x = (.int .i64 q : Value)) [(13, (fun (x : Value) (_ : World) => x = (.tuple #[.int .i64 q, .bool (!r)] : Value)))] rfl rfl (fun oq hop _ wq hQS => ?_) ?_
      · refine StepFrom.more_eq ((.tuple #[.int .i64 q, .bool (!r)] : Value)) ?_
        exact StepFrom.extract hop (t := (.tuple #[.int .i64 q, .bool (!r)] : Value)) (by kernel_rfl) (pair_zero _ _ _) (by kernel_rfl) hQS (Below.refl _ _) rfl
      refine StepsT.cons (fun (x : Value) (_ : World) => x = (.bool (!r) : Value)) [(13, (fun (x : Value) (_ : World) => x = (.tuple #[.int .i64 q, .bool (!r)] : Value)))] rfl rfl (fun oq hop _ wq hQS => ?_) ?_
      · refine StepFrom.more_eq ((.tuple #[.int .i64 q, .bool (!r)] : Value)) ?_
        exact StepFrom.extract hop (t := (.tuple #[.int .i64 q, .bool (!r)] : Value)) (by kernel_rfl) (pair_one _ _ _) (by kernel_rfl) hQS (Below.refl _ _) rfl
      refine StepsT.cons (fun (x : Value) (_ : World) => x = (.int .i64 q : Value)) [(20, (fun (x : Value) (_ : World) => x = (.int .i64 q : Value)))] rfl rfl (fun oq hop _ wq hQS => ?_) ?_
      · refine StepFrom.more_eq ((.int .i64 q : Value)) ?_
        exact StepFrom.assign hop (v := (.int .i64 q : Value)) (by kernel_rfl) (by kernel_rfl) hQS (Below.refl _ _) rfl
      refine StepsT.cons (fun (x : Value) (_ : World) => x = (.bool (!r) : Value)) [(21, (fun (x : Value) (_ : World) => x = (.bool (!r) : Value)))] rfl rfl (fun oq hop _ wq hQS => ?_) ?_
      · refine StepFrom.more_eq ((.bool (!r) : Value)) ?_
        exact StepFrom.assign hop (v := (.bool (!r) : Value)) (by kernel_rfl) (by kernel_rfl) hQS (Below.refl _ _) rfl
      exact StepsT.nil
    case hfin =>
      intro wf hFS
      refine FinalFrom.more fun x14 h14 => ?_
      refine FinalFrom.more fun x15 h15 => ?_
      refine FinalFrom.more fun x16 h16 => ?_
      refine FinalFrom.more fun x17 h17 => ?_
      refine FinalFrom.more fun x18 h18 => ?_
      refine FinalFrom.more fun x19 h19 => ?_
      refine FinalFrom.more fun x13 h13 => ?_
      refine FinalFrom.more fun x20 h20 => ?_
      refine FinalFrom.more fun x21 h21 => ?_
      refine FinalFrom.more fun x6 h6 => ?_
      refine FinalFrom.more fun x7 h7 => ?_
      refine FinalFrom.done ?_
      clear hS
      simp only [Act.put, List.setIfInBounds_toArray, List.set_cons_zero, List.set_cons_succ, h14, h15, h16, h17, h18, h19, h13, h20, h21, h6, h7]
      clear h14 h15 h16 h17 h18 h19 h13 h20 h21 h6 h7
      have f1 := (hFS.cell (p := ⟨g, o + 1, none⟩) lg).trans e1
      have fp := (hFS.cell (p := ⟨pb, 0, none⟩) lp).trans ep
      have fb := (hFS.cell (p := ⟨w.heap.size, 0, none⟩) lb).trans eb
      have HFS := Lib.hid hFS
      have sf := hFS.size
      have lg2 : g < wf.heap.size := by omega
      have lp2 : pb < wf.heap.size := by omega
      have lb2 : w.heap.size < wf.heap.size := by omega
      clear hFS e0 e1 eb ep lb lp lg HMW
      cases r with
      | true =>
        have HFIN := Lib.hid (HSTAY.out wf HFS.out (by
          have := of_decide_eq_true HRR.out
          unfold putT
          rw [if_neg fun x => by have := outer_iff.1 x; omega]))
        clear HSTAY HFAR HNEAR HBLK HRR HQQ
        go_wp2
        go_ret
        exact HFIN.out
      | false =>
        have hd0 := of_decide_eq_false HRR.out
        have hq := HQQ.out
        rw [if_neg hd0] at hq
        have hq0 : 0 ≤ q := by omega
        have HQ2 := Lib.hid hq
        clear HRR HQQ hq
        by_cases hge : q < (nb : Int)
        · obtain ⟨i, hi⟩ : ∃ i : Nat, nb - 1 - q.toNat = i := ⟨_, rfl⟩
          have hil : i < nb := by omega
          have iq : (nb : Int) - 1 - q = (i : Int) := by omega
          have ws1 : IntKind.i64.wrap ((nb : Int) - 1) = (nb : Int) - 1 := IntWalk.i64_in _ (by omega)
          have ws2 : IntKind.i64.wrap ((nb : Int) - 1 - q) = (i : Int) := by rw [IntWalk.i64_in _ (by omega)]; exact iq
          obtain ⟨b, hbb⟩ : ∃ b, by'[i]? = some b := ⟨_, List.getElem?_eq_getElem (by rw [HNB.out]; exact hil)⟩
          have HDONE : Hid (putT by' d 1 n lv = .done (b.walk (liftT (d : Int) 0) 0)) := by
            show _ = _
            unfold putT
            have hq := HQ2.out
            rw [if_pos (outer_iff.2 ⟨rfl, by omega, by omega⟩), if_pos (by rw [HNB.out]; omega), List.getD_eq_getElem?_getD, HNB.out, hq, hi, hbb]
            rfl
          obtain ⟨bb, bo, kb, mb, ab, A3, p3, c3, A4, p4, c4, eA, hbB, hv, f5, f6, f7, f8, f9⟩ := HT.out.at (HBW.out.trans (HFS.out.mono hbsz)) hbb
          subst eA
          have HFB := Lib.hid (HFIT.out b (List.mem_of_getElem? hbb))
          obtain ⟨u, hu⟩ : ∃ u, b.walk (liftT (d : Int) 0) 0 = u := ⟨_, rfl⟩
          rw [hu] at HDONE
          have HBF : Hid (Below B W wf) := HBW.out.trans (HFS.out.mono hbsz)
          have HL : Hid (∀ w', Below wf.heap.size wf w' → Calls Tryd.prog 10 #[.agg #[.int .i64 kb, .int .i64 mb, .int .i64 ab, .slice A3 p3 c3, .slice A4 p4 c4], .int .i64 (d : Int), .int .i64 0] w' (TermPost w' u)) := fun w' hx => by
            have hx2 : Below B W w' := HBF.out.trans (hx.mono (by omega))
            rw [← hu]
            exact lift_any b HFB.out.1 _ w' (d : Int) 0 HFB.out.2 (HK.out.below hx2 hB) (hv.below hx2 (by have := hx.size; omega))
          have lbb : bb < wf.heap.size := by omega
          have in0 : (0 : Int) ≤ (i : Int) := by omega
          have in1 : (i : Int) < (nb : Int) := by omega
          clear hu hv hbb HSTAY HFAR HT HFIT HK
          go_upto_region 5 with (fail)
          have hS : Below wf.heap.size wf wf.drew := (Below.refl _ _).drew
          refine wp_region_tail 13 (fun w' => Below wf.heap.size wf w') (fun w1 w2 : World => Below w1.heap.size w1 w2) [(fun (x : Value) (_ : World) => x = (.pointer (some ⟨g, o, none⟩) : Value)), (fun (x : Value) (_ : World) => x = (.slice (some ⟨bb, bo, none⟩) nb cb : Value)), (fun (x : Value) (_ : World) => x = (.slice (some ⟨bb, bo, none⟩) nb cb : Value)), (fun (x : Value) (_ : World) => x = (.int .i64 (nb : Int) : Value)), (fun (x : Value) (_ : World) => x = (.int .i64 ((nb : Int) - 1) : Value)), (fun (x : Value) (_ : World) => x = (.int .i64 q : Value)), (fun (x : Value) (_ : World) => x = (.int .i64 (i : Int) : Value)), (fun (x : Value) (_ : World) => x = (.pointer (some ⟨bb, bo + i * 5, none⟩) : Value)), (fun (x : Value) (_ : World) => x = (.agg #[.int .i64 kb, .int .i64 mb, .int .i64 ab, .slice A3 p3 c3, .slice A4 p4 c4] : Value)), (fun (x : Value) (_ : World) => x = (.pointer (some ⟨w.heap.size, 0, none⟩) : Value)), (fun (x : Value) (_ : World) => x = (.int .i64 (d : Int) : Value)), (fun (x : Value) (w : World) => OwnTm w wf.heap.size w.heap.size u x), (fun (x : Value) (_ : World) => x = (.pointer (some ⟨g, o, none⟩) : Value))] [⟨some 29, .move (.tmp 1), none, []⟩, ⟨some 30, .load 25 (.tmp 2), none, []⟩, ⟨some 31, .load 25 (.tmp 2), none, []⟩, ⟨some 32, .call { callee := .builtin .len, args := #[.tmp 31], argTypes := #[25] }, none, [(31, 2)]⟩, ⟨some 33, .binOp .sub 3 (.tmp 32) (.const (.int .i64 1)) 3, none, [(32, 3)]⟩, ⟨some 34, .move (.tmp 6), none, []⟩, ⟨some 35, .binOp .sub 3 (.tmp 33) (.tmp 34) 3, none, [(33, 4), (34, 5)]⟩, ⟨some 36, .indexAddr 25 (.tmp 30) (.tmp 35), none, [(30, 1), (35, 6)]⟩, ⟨some 37, .load 27 (.tmp 36), none, [(36, 7)]⟩, ⟨some 38, .fieldAddr 72 (.tmp 3) 0, none, []⟩, ⟨some 39, .load 3 (.tmp 38), none, [(38, 9)]⟩, ⟨some 40, .call { callee := .value (.func 10), args := #[.tmp 37, .tmp 39, .const (.int .i64 0)], argTypes := #[27, 3, 3] }, none, [(37, 8), (39, 10)]⟩, ⟨some 41, .nilCheck (.tmp 29), none, [(29, 0)]⟩] [some 29, some 30, some 31, some 32, some 33, some 34, some 35, some 36, some 37, some 38, some 39, some 40, some 41] [] [] (by kernel_rfl) (by kernel_rfl) (by kernel_rfl) (by kernel_rfl) (by kernel_rfl) (by kernel_rfl) (by kernel_rfl) (by kernel_rfl) ?hrun ?hold ?hS ?hmono ?hsteps ?hfin
          case hrun => exact fun p hp => by cases hp
          case hold => exact fun p hp => by cases hp
          case hS => exact hS
          case hmono =>
            refine MonoL.cons (fun x w1 w2 _ _ _ hx => hx) ?_
            refine MonoL.cons (fun x w1 w2 _ _ _ hx => hx) ?_
            refine MonoL.cons (fun x w1 w2 _ _ _ hx => hx) ?_
            refine MonoL.cons (fun x w1 w2 _ _ _ hx => hx) ?_
            refine MonoL.cons (fun x w1 w2 _ _ _ hx => hx) ?_
            refine MonoL.cons (fun x w1 w2 _ _ _ hx => hx) ?_
            refine MonoL.cons (fun x w1 w2 _ _ _ hx => hx) ?_
            refine MonoL.cons (fun x w1 w2 _ _ _ hx => hx) ?_
            refine MonoL.cons (fun x w1 w2 _ _ _ hx => hx) ?_
            refine MonoL.cons (fun x w1 w2 _ _ _ hx => hx) ?_
            refine MonoL.cons (fun x w1 w2 _ _ _ hx => hx) ?_
            refine MonoL.cons (fun x w1 w2 _ _ hR hx => ?_) ?_
            · exact (hx.kept (keptIn_below hR (Nat.le_refl _))).wide (Nat.le_refl _) hR.size
            refine MonoL.cons (fun x w1 w2 _ _ _ hx => hx) ?_
            exact MonoL.nil
          case hsteps =>
            refine StepsT.cons (fun (x : Value) (_ : World) => x = (.pointer (some ⟨g, o, none⟩) : Value)) [] rfl rfl (fun oq hop _ wq hQS => ?_) ?_
            · exact StepFrom.move hop (v := (.pointer (some ⟨g, o, none⟩) : Value)) (by kernel_rfl) (by kernel_rfl) hQS (Below.refl _ _) rfl
            refine StepsT.cons (fun (x : Value) (_ : World) => x = (.slice (some ⟨bb, bo, none⟩) nb cb : Value)) [] rfl rfl (fun oq hop _ wq hQS => ?_) ?_
            · exact StepFrom.load hop (p := (.pointer (some ⟨pb, 0, none⟩) : Value)) (by kernel_rfl) (load_terms ((hQS.cell (p := ⟨pb, 0, none⟩) lp2).trans fp)) (by kernel_rfl) hQS (Below.refl _ _) rfl
            refine StepsT.cons (fun (x : Value) (_ : World) => x = (.slice (some ⟨bb, bo, none⟩) nb cb : Value)) [] rfl rfl (fun oq hop _ wq hQS => ?_) ?_
            · exact StepFrom.load hop (p := (.pointer (some ⟨pb, 0, none⟩) : Value)) (by kernel_rfl) (load_terms ((hQS.cell (p := ⟨pb, 0, none⟩) lp2).trans fp)) (by kernel_rfl) hQS (Below.refl _ _) rfl
            refine StepsT.cons (fun (x : Value) (_ : World) => x = (.int .i64 (nb : Int) : Value)) [(31, (fun (x : Value) (_ : World) => x = (.slice (some ⟨bb, bo, none⟩) nb cb : Value)))] rfl rfl (fun oq hop _ wq hQS => ?_) ?_
            · refine StepFrom.more_eq ((.slice (some ⟨bb, bo, none⟩) nb cb : Value)) ?_
              exact StepFrom.lenT hop (show _ = (.slice (some ⟨bb, bo, none⟩) nb cb : Value) by kernel_rfl) (by kernel_rfl) hQS (Below.refl _ _) rfl
            refine StepsT.cons (fun (x : Value) (_ : World) => x = (.int .i64 ((nb : Int) - 1) : Value)) [(32, (fun (x : Value) (_ : World) => x = (.int .i64 (nb : Int) : Value)))] rfl rfl (fun oq hop _ wq hQS => ?_) ?_
            · refine StepFrom.more_eq ((.int .i64 (nb : Int) : Value)) ?_
              exact StepFrom.bin hop (vx := (.int .i64 (nb : Int) : Value)) (vy := (.int .i64 1 : Value)) (by kernel_rfl) (by kernel_rfl) (sub_wrap _ _ _ ws1) (by kernel_rfl) hQS (Below.refl _ _) rfl
            refine StepsT.cons (fun (x : Value) (_ : World) => x = (.int .i64 q : Value)) [] rfl rfl (fun oq hop _ wq hQS => ?_) ?_
            · exact StepFrom.move hop (v := (.int .i64 q : Value)) (by kernel_rfl) (by kernel_rfl) hQS (Below.refl _ _) rfl
            refine StepsT.cons (fun (x : Value) (_ : World) => x = (.int .i64 (i : Int) : Value)) [(33, (fun (x : Value) (_ : World) => x = (.int .i64 ((nb : Int) - 1) : Value))), (34, (fun (x : Value) (_ : World) => x = (.int .i64 q : Value)))] rfl rfl (fun oq hop _ wq hQS => ?_) ?_
            · refine StepFrom.more_eq ((.int .i64 ((nb : Int) - 1) : Value)) ?_
              refine StepFrom.more_eq ((.int .i64 q : Value)) ?_
              exact StepFrom.bin hop (vx := (.int .i64 ((nb : Int) - 1) : Value)) (vy := (.int .i64 q : Value)) (by kernel_rfl) (by kernel_rfl) (sub_wrap _ _ _ ws2) (by kernel_rfl) hQS (Below.refl _ _) rfl
            refine StepsT.cons (fun (x : Value) (_ : World) => x = (.pointer (some ⟨bb, bo + i * 5, none⟩) : Value)) [(30, (fun (x : Value) (_ : World) => x = (.slice (some ⟨bb, bo, none⟩) nb cb : Value))), (35, (fun (x : Value) (_ : World) => x = (.int .i64 (i : Int) : Value)))] rfl rfl (fun oq hop _ wq hQS => ?_) ?_
            · refine StepFrom.more_eq ((.slice (some ⟨bb, bo, none⟩) nb cb : Value)) ?_
              refine StepFrom.more_eq ((.int .i64 (i : Int) : Value)) ?_
              exact StepFrom.indexAddr hop (p := (.slice (some ⟨bb, bo, none⟩) nb cb : Value)) (q := (.int .i64 (i : Int) : Value)) (by kernel_rfl) (by kernel_rfl) (term_addr in0 in1) (by kernel_rfl) hQS (Below.refl _ _) rfl
            refine StepsT.cons (fun (x : Value) (_ : World) => x = (.agg #[.int .i64 kb, .int .i64 mb, .int .i64 ab, .slice A3 p3 c3, .slice A4 p4 c4] : Value)) [(36, (fun (x : Value) (_ : World) => x = (.pointer (some ⟨bb, bo + i * 5, none⟩) : Value)))] rfl rfl (fun oq hop _ wq hQS => ?_) ?_
            · refine StepFrom.more_eq ((.pointer (some ⟨bb, bo + i * 5, none⟩) : Value)) ?_
              exact StepFrom.load hop (p := (.pointer (some ⟨bb, bo + i * 5, none⟩) : Value)) (by kernel_rfl) (load_term ((hQS.cell (p := ⟨bb, bo + i * 5, none⟩) lbb).trans f5) ((hQS.cell (p := ⟨bb, bo + i * 5 + 1, none⟩) lbb).trans f6) ((hQS.cell (p := ⟨bb, bo + i * 5 + 2, none⟩) lbb).trans f7) ((hQS.cell (p := ⟨bb, bo + i * 5 + 3, none⟩) lbb).trans f8) ((hQS.cell (p := ⟨bb, bo + i * 5 + 4, none⟩) lbb).trans f9)) (by kernel_rfl) hQS (Below.refl _ _) rfl
            refine StepsT.cons (fun (x : Value) (_ : World) => x = (.pointer (some ⟨w.heap.size, 0, none⟩) : Value)) [] rfl rfl (fun oq hop _ wq hQS => ?_) ?_
            · exact StepFrom.fieldAddr hop (p := (.pointer (some ⟨w.heap.size, 0, none⟩) : Value)) (by kernel_rfl) (depth_field) (by kernel_rfl) hQS (Below.refl _ _) rfl
            refine StepsT.cons (fun (x : Value) (_ : World) => x = (.int .i64 (d : Int) : Value)) [(38, (fun (x : Value) (_ : World) => x = (.pointer (some ⟨w.heap.size, 0, none⟩) : Value)))] rfl rfl (fun oq hop _ wq hQS => ?_) ?_
            · refine StepFrom.more_eq ((.pointer (some ⟨w.heap.size, 0, none⟩) : Value)) ?_
              exact StepFrom.load hop (p := (.pointer (some ⟨w.heap.size, 0, none⟩) : Value)) (by kernel_rfl) (load_int ((hQS.cell (p := ⟨w.heap.size, 0, none⟩) lb2).trans fb)) (by kernel_rfl) hQS (Below.refl _ _) rfl
            refine StepsT.cons (fun (x : Value) (w : World) => OwnTm w wf.heap.size w.heap.size u x) [(37, (fun (x : Value) (_ : World) => x = (.agg #[.int .i64 kb, .int .i64 mb, .int .i64 ab, .slice A3 p3 c3, .slice A4 p4 c4] : Value))), (39, (fun (x : Value) (_ : World) => x = (.int .i64 (d : Int) : Value)))] rfl rfl (fun oq hop _ wq hQS => ?_) ?_
            · refine StepFrom.more_eq ((.agg #[.int .i64 kb, .int .i64 mb, .int .i64 ab, .slice A3 p3 c3, .slice A4 p4 c4] : Value)) ?_
              refine StepFrom.more_eq ((.int .i64 (d : Int) : Value)) ?_
              exact StepFrom.call hop (vs := [(.agg #[.int .i64 kb, .int .i64 mb, .int .i64 ab, .slice A3 p3 c3, .slice A4 p4 c4] : Value), (.int .i64 (d : Int) : Value), (.int .i64 0 : Value)]) (by kernel_rfl) (fun w => enter_lift _ w) (by kernel_rfl) ((HL.out wq hQS).mono fun e w9 h9 => by obtain ⟨v, q1, q2, q3⟩ := h9; exact ⟨_, q1, hQS.trans (q3.mono hQS.size), q3, q2.wide hQS.size (Nat.le_refl _)⟩)
            refine StepsT.cons (fun (x : Value) (_ : World) => x = (.pointer (some ⟨g, o, none⟩) : Value)) [(29, (fun (x : Value) (_ : World) => x = (.pointer (some ⟨g, o, none⟩) : Value)))] rfl rfl (fun oq hop _ wq hQS => ?_) ?_
            · refine StepFrom.more_eq ((.pointer (some ⟨g, o, none⟩) : Value)) ?_
              exact StepFrom.nilCheck hop (show _ = (.pointer (some ⟨g, o, none⟩) : Value) by kernel_rfl) (by kernel_rfl) hQS (Below.refl _ _) rfl
            exact StepsT.nil
          case hfin =>
            intro wg hFS
            refine FinalFrom.more fun x29 h29 => ?_
            refine FinalFrom.more fun x30 h30 => ?_
            refine FinalFrom.more fun x31 h31 => ?_
            refine FinalFrom.more fun x32 h32 => ?_
            refine FinalFrom.more fun x33 h33 => ?_
            refine FinalFrom.more fun x34 h34 => ?_
            refine FinalFrom.more fun x35 h35 => ?_
            refine FinalFrom.more fun x36 h36 => ?_
            refine FinalFrom.more fun x37 h37 => ?_
            refine FinalFrom.more fun x38 h38 => ?_
            refine FinalFrom.more fun x39 h39 => ?_
            refine FinalFrom.more fun x40 h40 => ?_
            refine FinalFrom.more fun x41 h41 => ?_
            refine FinalFrom.done ?_
            intro _
            simp only [Act.put, List.setIfInBounds_toArray, List.set_cons_zero, List.set_cons_succ, List.drop_succ_cons, List.drop_zero, h29, h30, h31, h32, h33, h34, h35, h36, h37, h38, h39, h41]
            clear h29 h30 h31 h32 h33 h34 h35 h36 h37 h38 h39 h41 hS
            have hb9 : Below w1.heap.size w1 wg := HFS.out.trans (hFS.mono sf)
            have hin := (Array.getElem?_eq_some_iff.1 H5.out.2.2.2.2).1
            have hblk := HBLK.out wg hb9
            have z0 := thawed hblk o
            have z1 := thawed hblk (o + 1)
            have z2 := thawed hblk (o + 2)
            have z3 := thawed hblk (o + 3)
            have z4 := thawed hblk (o + 4)
            have y0 := row_cell hblk H5.out.1
            have y1 := row_cell hblk H5.out.2.1
            have y2 := row_cell hblk H5.out.2.2.1
            have y3 := row_cell hblk H5.out.2.2.2.1
            have y4 := row_cell hblk H5.out.2.2.2.2
            have hown : OwnTm wg w1.heap.size wg.heap.size u x40 := h40.wide sf (Nat.le_refl _)
            obtain ⟨k2, n2, a2, lv2, kids2⟩ := u
            obtain ⟨vl, vk', m1, m2, xs, ev, w1', ⟨A5, c5, rfl⟩, w2', w3'⟩ := hown.open
            obtain ⟨A6, c6, rfl, _⟩ := w2'.2.1
            obtain ⟨p5, hp5⟩ : ∃ p, lv2.length = p := ⟨_, rfl⟩
            obtain ⟨p6, hp6⟩ : ∃ p, kids2.length = p := ⟨_, rfl⟩
            rw [hp5, hp6] at ev
            subst ev
            have HFIN := Lib.hid (HNEAR.out wg _ _ _ _ _ _ hb9 HDONE.out hown)
            unfold store5 at HFIN
            clear HNEAR HBLK HDONE HL HFS hFS hb9 f1 fp fb f5 f6 f7 f8 f9 hin hblk hown w1' w2' w3' h40 H5 hp5 hp6
            go_wp2
            go_ret
            exact HFIN.out
        · obtain ⟨z, hz⟩ : ∃ z, n - (nb : Int) = z := ⟨_, rfl⟩
          have HGO : Hid (putT by' d 1 n lv = .go z lv) := by
            show _ = _
            unfold putT
            have hq := HQ2.out
            rw [if_pos (outer_iff.2 ⟨rfl, by omega, by omega⟩), if_neg (by rw [HNB.out]; omega), HNB.out, hz]
          have ws1 : IntKind.i64.wrap (n - (nb : Int)) = z := by
            have := HR.out
            unfold Rng at this
            rw [IntWalk.i64_in _ (by omega)]
            exact hz
          clear HSTAY HNEAR HT HFIT HK hz
          go_upto_region 8 with (fail)
          have hS : Below wf.heap.size wf wf.drew := (Below.refl _ _).drew
          refine wp_region_tail 9 (fun w' => Below wf.heap.size wf w') (fun w1 w2 : World => Below w1.heap.size w1 w2) [(fun (x : Value) (_ : World) => x = (.pointer (some ⟨g, o, none⟩) : Value)), (fun (x : Value) (_ : World) => x = (.pointer (some ⟨g, o, none⟩) : Value)), (fun (x : Value) (_ : World) => x = (.pointer (some ⟨g, o + 1, none⟩) : Value)), (fun (x : Value) (_ : World) => x = (.int .i64 n : Value)), (fun (x : Value) (_ : World) => x = (.slice Ab nb cb : Value)), (fun (x : Value) (_ : World) => x = (.int .i64 (nb : Int) : Value)), (fun (x : Value) (_ : World) => x = (.int .i64 z : Value)), (fun (x : Value) (_ : World) => x = (.pointer (some ⟨g, o, none⟩) : Value)), (fun (x : Value) (_ : World) => x = (.pointer (some ⟨g, o + 1, none⟩) : Value))] [⟨some 43, .move (.tmp 1), none, []⟩, ⟨some 44, .nilCheck (.tmp 43), none, [(43, 0)]⟩, ⟨some 45, .fieldAddr 27 (.tmp 44) 1, none, [(44, 1)]⟩, ⟨some 46, .load 3 (.tmp 45), none, [(45, 2)]⟩, ⟨some 47, .load 25 (.tmp 2), none, []⟩, ⟨some 48, .call { callee := .builtin .len, args := #[.tmp 47], argTypes := #[25] }, none, [(47, 4)]⟩, ⟨some 49, .binOp .sub 3 (.tmp 46) (.tmp 48) 3, none, [(46, 3), (48, 5)]⟩, ⟨some 50, .nilCheck (.tmp 43), none, [(43, 0)]⟩, ⟨some 51, .fieldAddr 27 (.tmp 50) 1, none, [(50, 7)]⟩] [some 43, some 44, some 45, some 46, some 47, some 48, some 49, some 50, some 51] [] [] (by kernel_rfl) (by kernel_rfl) (by kernel_rfl) (by kernel_rfl) (by kernel_rfl) (by kernel_rfl) (by kernel_rfl) (by kernel_rfl) ?hrun ?hold ?hS ?hmono ?hsteps ?hfin
          case hrun => exact fun p hp => by cases hp
          case hold => exact fun p hp => by cases hp
          case hS => exact hS
          case hmono =>
            refine MonoL.cons (fun x w1 w2 _ _ _ hx => hx) ?_
            refine MonoL.cons (fun x w1 w2 _ _ _ hx => hx) ?_
            refine MonoL.cons (fun x w1 w2 _ _ _ hx => hx) ?_
            refine MonoL.cons (fun x w1 w2 _ _ _ hx => hx) ?_
            refine MonoL.cons (fun x w1 w2 _ _ _ hx => hx) ?_
            refine MonoL.cons (fun x w1 w2 _ _ _ hx => hx) ?_
            refine MonoL.cons (fun x w1 w2 _ _ _ hx => hx) ?_
            refine MonoL.cons (fun x w1 w2 _ _ _ hx => hx) ?_
            refine MonoL.cons (fun x w1 w2 _ _ _ hx => hx) ?_
            exact MonoL.nil
          case hsteps =>
            refine StepsT.cons (fun (x : Value) (_ : World) => x = (.pointer (some ⟨g, o, none⟩) : Value)) [] rfl rfl (fun oq hop _ wq hQS => ?_) ?_
            · exact StepFrom.move hop (v := (.pointer (some ⟨g, o, none⟩) : Value)) (by kernel_rfl) (by kernel_rfl) hQS (Below.refl _ _) rfl
            refine StepsT.cons (fun (x : Value) (_ : World) => x = (.pointer (some ⟨g, o, none⟩) : Value)) [(43, (fun (x : Value) (_ : World) => x = (.pointer (some ⟨g, o, none⟩) : Value)))] rfl rfl (fun oq hop _ wq hQS => ?_) ?_
            · refine StepFrom.more_eq ((.pointer (some ⟨g, o, none⟩) : Value)) ?_
              exact StepFrom.nilCheck hop (show _ = (.pointer (some ⟨g, o, none⟩) : Value) by kernel_rfl) (by kernel_rfl) hQS (Below.refl _ _) rfl
            refine StepsT.cons (fun (x : Value) (_ : World) => x = (.pointer (some ⟨g, o + 1, none⟩) : Value)) [(44, (fun (x : Value) (_ : World) => x = (.pointer (some ⟨g, o, none⟩) : Value)))] rfl rfl (fun oq hop _ wq hQS => ?_) ?_
            · refine StepFrom.more_eq ((.pointer (some ⟨g, o, none⟩) : Value)) ?_
              exact StepFrom.fieldAddr hop (p := (.pointer (some ⟨g, o, none⟩) : Value)) (by kernel_rfl) (term_field 1 (by decide)) (by kernel_rfl) hQS (Below.refl _ _) rfl
            refine StepsT.cons (fun (x : Value) (_ : World) => x = (.int .i64 n : Value)) [(45, (fun (x : Value) (_ : World) => x = (.pointer (some ⟨g, o + 1, none⟩) : Value)))] rfl rfl (fun oq hop _ wq hQS => ?_) ?_
            · refine StepFrom.more_eq ((.pointer (some ⟨g, o + 1, none⟩) : Value)) ?_
              exact StepFrom.load hop (p := (.pointer (some ⟨g, o + 1, none⟩) : Value)) (by kernel_rfl) (load_int ((hQS.cell (p := ⟨g, o + 1, none⟩) lg2).trans f1)) (by kernel_rfl) hQS (Below.refl _ _) rfl
            refine StepsT.cons (fun (x : Value) (_ : World) => x = (.slice Ab nb cb : Value)) [] rfl rfl (fun oq hop _ wq hQS => ?_) ?_
            · exact StepFrom.load hop (p := (.pointer (some ⟨pb, 0, none⟩) : Value)) (by kernel_rfl) (load_terms ((hQS.cell (p := ⟨pb, 0, none⟩) lp2).trans fp)) (by kernel_rfl) hQS (Below.refl _ _) rfl
            refine StepsT.cons (fun (x : Value) (_ : World) => x = (.int .i64 (nb : Int) : Value)) [(47, (fun (x : Value) (_ : World) => x = (.slice Ab nb cb : Value)))] rfl rfl (fun oq hop _ wq hQS => ?_) ?_
            · refine StepFrom.more_eq ((.slice Ab nb cb : Value)) ?_
              exact StepFrom.lenT hop (show _ = (.slice Ab nb cb : Value) by kernel_rfl) (by kernel_rfl) hQS (Below.refl _ _) rfl
            refine StepsT.cons (fun (x : Value) (_ : World) => x = (.int .i64 z : Value)) [(46, (fun (x : Value) (_ : World) => x = (.int .i64 n : Value))), (48, (fun (x : Value) (_ : World) => x = (.int .i64 (nb : Int) : Value)))] rfl rfl (fun oq hop _ wq hQS => ?_) ?_
            · refine StepFrom.more_eq ((.int .i64 n : Value)) ?_
              refine StepFrom.more_eq ((.int .i64 (nb : Int) : Value)) ?_
              exact StepFrom.bin hop (vx := (.int .i64 n : Value)) (vy := (.int .i64 (nb : Int) : Value)) (by kernel_rfl) (by kernel_rfl) (sub_wrap _ _ _ ws1) (by kernel_rfl) hQS (Below.refl _ _) rfl
            refine StepsT.cons (fun (x : Value) (_ : World) => x = (.pointer (some ⟨g, o, none⟩) : Value)) [(43, (fun (x : Value) (_ : World) => x = (.pointer (some ⟨g, o, none⟩) : Value)))] rfl rfl (fun oq hop _ wq hQS => ?_) ?_
            · refine StepFrom.more_eq ((.pointer (some ⟨g, o, none⟩) : Value)) ?_
              exact StepFrom.nilCheck hop (show _ = (.pointer (some ⟨g, o, none⟩) : Value) by kernel_rfl) (by kernel_rfl) hQS (Below.refl _ _) rfl
            refine StepsT.cons (fun (x : Value) (_ : World) => x = (.pointer (some ⟨g, o + 1, none⟩) : Value)) [(50, (fun (x : Value) (_ : World) => x = (.pointer (some ⟨g, o, none⟩) : Value)))] rfl rfl (fun oq hop _ wq hQS => ?_) ?_
            · refine StepFrom.more_eq ((.pointer (some ⟨g, o, none⟩) : Value)) ?_
              exact StepFrom.fieldAddr hop (p := (.pointer (some ⟨g, o, none⟩) : Value)) (by kernel_rfl) (term_field 1 (by decide)) (by kernel_rfl) hQS (Below.refl _ _) rfl
            exact StepsT.nil
          case hfin =>
            intro wg hFS
            refine FinalFrom.more fun x43 h43 => ?_
            refine FinalFrom.more fun x44 h44 => ?_
            refine FinalFrom.more fun x45 h45 => ?_
            refine FinalFrom.more fun x46 h46 => ?_
            refine FinalFrom.more fun x47 h47 => ?_
            refine FinalFrom.more fun x48 h48 => ?_
            refine FinalFrom.more fun x49 h49 => ?_
            refine FinalFrom.more fun x50 h50 => ?_
            refine FinalFrom.more fun x51 h51 => ?_
            refine FinalFrom.done ?_
            intro _
            simp only [Act.put, List.setIfInBounds_toArray, List.set_cons_zero, List.set_cons_succ, List.drop_succ_cons, List.drop_zero, h43, h44, h45, h46, h47, h48, h49, h50, h51]
            clear h43 h44 h45 h46 h47 h48 h49 h50 h51 hS
            have hb9 : Below w1.heap.size w1 wg := HFS.out.trans (hFS.mono sf)
            have hblk := HBLK.out wg hb9
            have z1 := thawed hblk (o + 1)
            have y1 := row_cell hblk H5.out.2.1
            have HFIN := Lib.hid (HFAR.out wg z hb9 HGO.out)
            clear HFAR HBLK HGO HFS hFS hb9 f1 fp fb hblk H5
            go_wp2
            go_ret
            exact HFIN.out
  · have HFIN := Lib.hid (HSTAY.out w1 (Below.refl _ _) (by
      unfold putT
      rw [if_neg fun x => k1 (outer_iff.1 x).1]))
    clear HSTAY HFAR HNEAR HBLK HMW
    go_enter Tryd.func39, Tryd.ntmps39
    go_wp2
    go_ret
    exact HFIN.out
end Go.Proofs.YtfgnnbpbbnnnhaaDoor
namespace Go.Proofs.YtfgnnbpbbnnnhaaDoor
open Go.RowKit Go.Maps
set_option maxRecDepth 100000 in
theorem enter_put1 (vs : Array Value) (w : World) : (callFunc 39 vs).run Tryd.prog w = .ok (.enter 39 vs) w := by go_simp
set_option maxRecDepth 100000 in
set_option maxHeartbeats 4000000 in
theorem put_of (k n a : Int) (lv : List (List (Int × Int))) (kids : List Tm) (hf : (Tm.mk k n a lv kids).fit) (w : World) (Al Ak Ab : Option Addr) (p1 c1 p2 c2 nb cb : Nat) (by' : List Tm) (hd : (Tm.mk k n a lv kids).size ≤ 1073741824) (hK : KindsAt w)
    (hv : TmAt w w.heap.size (.mk k n a lv kids) (.agg #[.int .i64 k, .int .i64 n, .int .i64 a, .slice Al p1 c1, .slice Ak p2 c2])) (hnb : by'.length = nb) (hn6 : nb ≤ 1048576) (hts : Tms w w.heap.size Ab cb by') (hfit : ∀ b ∈ by', b.fit ∧ b.size ≤ 1073741824) :
    Calls Tryd.prog 13 #[.agg #[.int .i64 k, .int .i64 n, .int .i64 a, .slice Al p1 c1, .slice Ak p2 c2], .slice Ab nb cb] w (TermPost w ((Tm.mk k n a lv kids).walk (putT by') 0)) := by
  have h0 : 0 < w.heap.size := cell_lt (hK 0 (by decide))
  obtain ⟨wa, hwa⟩ : ∃ x, w.alloc (.cells #[.int .i64 k, .int .i64 n, .int .i64 a, .slice Al p1 c1, .slice Ak p2 c2] 27) = x := ⟨_, rfl⟩
  obtain ⟨w1, hw1⟩ : ∃ x, (wa.alloc (.cells #[.slice Ab nb cb] 25)).alloc (.cells #[.int .i64 0, .int .i64 0, .int .i64 0, .slice none 0 0, .slice none 0 0] 27) = x := ⟨_, rfl⟩
  have hsa : wa.heap.size = w.heap.size + 1 := by rw [← hwa]; simp
  have hba : Below w.heap.size w wa := by rw [← hwa]; exact (Below.refl _ _).alloc (Nat.le_refl _) _
  have hb1a : Below wa.heap.size wa w1 := by rw [← hw1]; exact ((Below.refl _ _).alloc (Nat.le_refl _) _).alloc (by simp) _
  have hb1 := hba.trans (hb1a.mono (by omega))
  have hs1 : w1.heap.size = w.heap.size + 3 := by rw [← hw1]; simp [hsa]
  have xa : wa.heap[w.heap.size]? = some (.cells #[.int .i64 k, .int .i64 n, .int .i64 a, .slice Al p1 c1, .slice Ak p2 c2] 27 (0, 0)) := by rw [← hwa]; exact heap_alloc_new w _
  have x0 := (hb1a.block w.heap.size (by omega)).trans xa
  obtain ⟨z1, z2, _⟩ := two_allocs wa (.cells #[.slice Ab nb cb] 25) (.cells #[.int .i64 0, .int .i64 0, .int .i64 0, .slice none 0 0, .slice none 0 0] 27)
  rw [hw1, hsa] at z1 z2
  obtain ⟨u, hu⟩ : ∃ u, (Tm.mk k n a lv kids).walk (putT by') 0 = u := ⟨_, rfl⟩
  rw [hu]
  have HN : Hid (Calls Tryd.prog 37 #[.agg #[.int .i64 0, .func (.func 39) #[] #[.pointer (some ⟨w.heap.size + 1, 0, none⟩)]], .agg #[.int .i64 k, .int .i64 n, .int .i64 a, .slice Al p1 c1, .slice Ak p2 c2]] w1 (TermPost w1 u)) := by
    rw [← hu]
    exact term_any w1 w1.heap.size 1073741824 _ _ _ (Nat.le_refl _) (by omega) (hK.below hb1 h0) (fun vs w => enter_put1 vs w)
      (turn_put w1 _ _ (w.heap.size + 1) Ab nb cb by' (Nat.le_refl _) (by omega) (by omega) (hK.below hb1 h0) (cell_of_one z1) hnb hn6 (hts.below hb1 hb1.size) hfit) _ hf 0 _ w1 (by omega) (Below.refl _ _) (Nat.le_refl _) (hv.below hb1 hb1.size)
  have y0 := cell_of_row _ _ 0 _ _ (0, 0) x0
  have y1 := cell_of_row _ _ 1 _ _ (0, 0) x0
  have y2 := cell_of_row _ _ 2 _ _ (0, 0) x0
  have y3 := cell_of_row _ _ 3 _ _ (0, 0) x0
  have y4 := cell_of_row _ _ 4 _ _ (0, 0) x0
  have X3 := Lib.hid z2
  have HB1 := Lib.hid hb1
  have HS1 := Lib.hid hs1
  have hmf : ∀ (W : World), (Instr.makeFunc (.func 39) #[] #[.pointer (some ⟨w.heap.size + 1, 0, none⟩)]).run Tryd.prog W = .ok (.func (.func 39) #[] #[.pointer (some ⟨w.heap.size + 1, 0, none⟩)]) W := fun _ => rfl
  clear hu hK hf hd hv x0 xa hb1 hb1a hba hs1 z1 z2 h0 hnb hts hfit
  go_enter Tryd.func13, Tryd.ntmps13
  go_wp2_with (fail)
  refine HN.out.mono ?_
  rintro e w2 ⟨v, rfl, hown, hb2⟩
  obtain ⟨k2, n2, a2, lv2, kids2⟩ := u
  obtain ⟨vl, vk, m1, m2, xs, ev, w1', ⟨A5, c5, rfl⟩, w2', w3'⟩ := hown.open
  obtain ⟨A6, c6, rfl, _⟩ := w2'.2.1
  obtain ⟨p5, hp5⟩ : ∃ p, lv2.length = p := ⟨_, rfl⟩
  obtain ⟨p6, hp6⟩ : ∃ p, kids2.length = p := ⟨_, rfl⟩
  rw [hp5, hp6] at ev
  subst ev
  have hr2 := (hb2.block (w.heap.size + 1 + 1) (by have := HS1.out; omega)).trans X3.out
  have e0 := cell_of_row _ _ 0 _ _ (0, 0) hr2
  have e1 := cell_of_row _ _ 1 _ _ (0, 0) hr2
  have e2 := cell_of_row _ _ 2 _ _ (0, 0) hr2
  have e3 := cell_of_row _ _ 3 _ _ (0, 0) hr2
  have e4 := cell_of_row _ _ 4 _ _ (0, 0) hr2
  have t0 := thawed hr2 0
  have t1 := thawed hr2 1
  have t2 := thawed hr2 2
  have t3 := thawed hr2 3
  have t4 := thawed hr2 4
  obtain ⟨g9, s9, cur9, h9, _, hc9⟩ := store5_post hr2 (o := 0) (by simp) (.int .i64 k2) (.int .i64 n2) (.int .i64 a2) (.slice A5 p5 c5) (.slice A6 p6 c6)
  have r0 := row_cell h9 hc9.1
  have r1 := row_cell h9 hc9.2.1
  have r2 := row_cell h9 hc9.2.2.1
  have r3 := row_cell h9 hc9.2.2.2.1
  have r4 := row_cell h9 hc9.2.2.2.2
  have HFIN : Hid (TermPost w (Tm.mk k2 n2 a2 lv2 kids2) (.returned (.agg #[.int .i64 k2, .int .i64 n2, .int .i64 a2, .slice A5 p5 c5, .slice A6 p6 c6])) (store5 w2 (w.heap.size + 1 + 1) 0 (.int .i64 k2) (.int .i64 n2) (.int .i64 a2) (.slice A5 p5 c5) (.slice A6 p6 c6))) := by
    have hs1 := HS1.out
    have hgs := hb2.size
    refine ⟨_, rfl, ?_, (HB1.out.trans (hb2.mono (by omega))).trans (below_grownT g9 (by omega) (by omega))⟩
    rw [s9]
    exact (hown.kept (grown_kept g9 (by omega) (Nat.le_refl _))).wide (by omega) (Nat.le_refl _)
  unfold store5 at HFIN r0 r1 r2 r3 r4
  clear g9 s9 h9 hc9 hown hb2 hr2 w1' w2' w3' hp5 hp6 HN
  go_wp2
  exact bodyPost_ret (v := .agg #[.int .i64 k2, .int .i64 n2, .int .i64 a2, .slice A5 p5 c5, .slice A6 p6 c6]) (by simp [results, Tryd.results13, go_sem, r0, r1, r2, r3, r4]) rfl HFIN.out
/-- Put answers the term with terms put. -/
theorem putTm_any (t : Tm) (by' : List Tm) (hf : t.fit) (v : Value) (Ab : Option Addr) (nb cb : Nat) (w : World) (hd : t.size ≤ 1073741824) (hK : KindsAt w) (hv : TmAt w w.heap.size t v) (hnb : by'.length = nb) (hn6 : nb ≤ 1048576) (hts : Tms w w.heap.size Ab cb by') (hfit : ∀ b ∈ by', b.fit ∧ b.size ≤ 1073741824) :
    Calls Tryd.prog 13 #[v, .slice Ab nb cb] w (TermPost w (t.walk (putT by') 0)) := by
  obtain ⟨k, n, a, lv, kids⟩ := t
  have hv' := hv
  obtain ⟨Al, cl, Ak, ck, rfl, _⟩ := hv.open
  exact put_of k n a lv kids hf w Al Ak Ab _ cl _ ck nb cb by' hd hK hv' hnb hn6 hts hfit
end Go.Proofs.YtfgnnbpbbnnnhaaDoor
namespace Go.Proofs.YtfgnnbpbbnnnhaaDoor
open Go.RowKit Go.Maps
/-- a level with levels put -/
def putL (bys : List (List (Int × Int))) (l : List (Int × Int)) : List (Int × Int) := nfA (putS (nfA l) bys)
theorem putL_len {bys : List (List (Int × Int))} (h9 : ∀ b ∈ bys, b.length ≤ 1048576) {l : List (Int × Int)} (h : l.length ≤ 1048576) : (putL bys l).length ≤ 1099511627776 := by
  have h1 := nfA_len (putS (nfA l) bys)
  have h2 := putS_len h9 (nfA l)
  have h3 := nfA_len l
  unfold putL
  omega
/-- the turn of Levels -/
def levT (bys : List (List (Int × Int))) : Turn := fun _ _ n lv => .go n (lv.map (putL bys))
/-- levels: none too long, not too many -/
def Bys (bys : List (List (Int × Int))) : Prop := bys.length ≤ 1048576 ∧ ∀ b ∈ bys, b.length ≤ 1048576
set_option maxRecDepth 100000 in
set_option maxHeartbeats 2000000 in
theorem lev1_any (A Ab : Option Addr) (ps : List (Int × Int)) (bys : List (List (Int × Int))) (n c nb cb pb : Nat) (w : World) (hn : ps.length = n) (hm : n ≤ 1048576) (h : Lev w w.heap.size A ps) (hc : A = none → c = 0)
    (hcell : w.cell? ⟨pb, 0, none⟩ = some (.slice Ab nb cb)) (hnb : bys.length = nb) (h9 : Bys bys) (hb : Levs w w.heap.size Ab bys) :
    Calls Tryd.prog 58 #[.agg #[.slice A n c], .pointer (some ⟨pb, 0, none⟩)] w (CopyPost w (putL bys ps)) := by
  obtain ⟨w1, hw1⟩ : ∃ x, (w.alloc (.cells #[.slice A n c] 39)).alloc (.cells #[.slice none 0 0] 39) = x := ⟨_, rfl⟩
  obtain ⟨x1, x2, _⟩ := two_allocs w (.cells #[.slice A n c] 39) (.cells #[.slice none 0 0] 39)
  rw [hw1] at x1 x2
  have hb1 : Below w.heap.size w w1 := by rw [← hw1]; exact ((Below.refl _ _).alloc (Nat.le_refl _) _).alloc (by simp) _
  have hs1 : w1.heap.size = w.heap.size + 2 := by rw [← hw1]; simp
  have HP : Hid (Calls Tryd.prog 59 #[.agg #[.slice A n c], .slice Ab nb cb] w1 (LvlPost w1 (putL bys ps))) := by
    have := put_any A Ab ps bys c cb w1 (by omega) ((h.below hb1).more hb1.size) hc (by have := h9.1; unfold maxLen; omega) h9.2 ((hb.below hb1).more hb1.size)
    rw [hn, hnb] at this
    exact this
  have hpb : pb < w.heap.size := cell_lt hcell
  have f0 := cell_of_one x1
  have f1 := (hb1.cell (p := ⟨pb, 0, none⟩) hpb).trans hcell
  have X2 := Lib.hid x2
  have HB1 := Lib.hid hb1
  have HS1 := Lib.hid hs1
  have HLN : Hid ((putL bys ps).length ≤ 1099511627776) := putL_len h9.2 (by omega)
  obtain ⟨qs, hqs⟩ : ∃ q, putL bys ps = q := ⟨_, rfl⟩
  rw [hqs] at HP HLN ⊢
  clear x1 x2 hb1 hs1 hcell h hc hb h9 hnb hn hqs hpb hm
  go_enter Tryd.func58, Tryd.ntmps58
  go_wp2_with (fail)
  refine HP.out.mono ?_
  rintro e w2 ⟨v, rfl, hrow, hb2⟩
  obtain ⟨A2, n2, m2, rfl⟩ := own_slice hrow
  have hsz := HS1.out
  have hr := (hb2.block (w.heap.size + 1) (by omega)).trans X2.out
  have f5 := cell_of_one hr
  have f6 := free_of_one hr
  have HFIN : Hid (CopyPost w qs (.returned (.agg #[.slice A2 n2 m2])) (w2.setCell ⟨w.heap.size + 1, 0, none⟩ (.slice A2 n2 m2))) := by
    have hz2 := hb2.size
    have hl := (own_lev hrow).1
    refine ⟨_, rfl, ⟨by simp [World.setCell]; omega, ⟨A2, m2, by rw [hl], by have := HLN.out; omega⟩, own_base (ownsRow_setCell_below hrow (by show w.heap.size + 1 < w1.heap.size; omega) _) (by omega), fun k hk => ?_⟩, (HB1.out.trans (hb2.mono (by omega))).setCell (by show w.heap.size ≤ w.heap.size + 1; omega) _⟩
    have := (hrow.lt k hk).2
    simpa [World.setCell] using this
  clear hr hrow hb2 hsz
  go_wp2
  exact bodyPost_ret (v := .agg #[.slice A2 n2 m2]) (by simp [results, Tryd.results58, go_sem, f5]) rfl HFIN.out
set_option maxRecDepth 100000 in
set_option maxHeartbeats 1000000 in
theorem each_put (F : List (Int × Int) → List (Int × Int)) (pb : Nat) (A : Option Addr) (ls : List (List (Int × Int))) (n c : Nat) (w : World) (hn : ls.length = n) (hm : n ≤ 1048576) (h6 : ∀ l ∈ ls, ∀ (Ai : Option Addr) (ni ci : Nat) (w' : World), l.length = ni → Below w.heap.size w w' → Lev w' w'.heap.size Ai l → (Ai = none → ci = 0) → Calls Tryd.prog 58 #[.agg #[.slice Ai ni ci], .pointer (some ⟨pb, 0, none⟩)] w' (CopyPost w' (F l))) (h : Levs w w.heap.size A ls) :
    Calls Tryd.prog 57 #[.slice A n c, .func (.func 58) #[] #[.pointer (some ⟨pb, 0, none⟩)]] w (EachPost w (ls.map F)) := by
  obtain ⟨i0, hi, hz0, hz1, hz2⟩ := info_parts infoLev
  have HL := Lib.hid h
  have HN := Lib.hid hn
  have H6 := Lib.hid h6
  rcases Nat.eq_zero_or_pos n with h0 | h0
  · subst h0
    have e : ls = [] := List.eq_nil_of_length_eq_zero hn
    have HF : Hid (EachPost w (ls.map F) (.returned (.slice none 0 0)) w) := by
      rw [e]
      exact ⟨none, 0, rfl, ⟨w.heap.size, [], ⟨Nat.le_refl _, ⟨none, 0, rfl, by simp⟩, own_nil _ _ _ _, fun k hk => by cases hk⟩, rfl, Nat.le_refl _⟩, Below.refl _ _⟩
    clear h h6 hn e
    go_enter Tryd.func57, Tryd.ntmps57
    go_wp2
    go_ret
    exact HF.out
  · have hne : ((n : Int) == 0) = false := by simp; omega
    clear h h6 hn
    go_enter Tryd.func57, Tryd.ntmps57
    go_wp2_with (at_make; refine wpList_make_full _ rfl _ _ 24 rfl w.heap.size 39 i0 (.agg #[.slice none 0 0]) 1 Tryd.underlying24 hi hz0 hz1 .i64 .i64 n n n rfl rfl rfl rfl ?b1 ?b2 ?b3 ?_)
    case b1 => rw [hz2]; omega
    case b2 => unfold maxLen; omega
    case b3 => exact Nat.le_refl _
    intro w1 ho1 hg1
    have HB1 : Hid (Below w.heap.size w w1) := grown_under hg1
    have HO := Lib.hid ho1
    have s1 : w.heap.size < w1.heap.size := (ho1.lt w.heap.size rfl).2
    clear ho1 hg1
    go_wp2
    go_loopw [16] (fun i wr => ∃ (k : Nat) (xs : List Value), k ≤ n ∧ i = .int .i64 (k : Int) ∧ Below w.heap.size w wr ∧ w.heap.size < wr.heap.size ∧ wr.ownsRow w.heap.size 39 1 (.slice (some ⟨w.heap.size, 0, none⟩) n n) n xs ∧ OwnLvs wr (w.heap.size + 1) wr.heap.size ((ls.map F).take k) (xs.take k)) (fun i _ => n - (intOf i).toNat)
    case atStart => exact ⟨0, _, Nat.zero_le _, rfl, HB1.out, s1, HO.out, by simp, by omega⟩
    case round =>
      obtain ⟨k, xs, hk, rfl, hb, hsz, hrow, hown⟩ := hrel
      have hbz := hb.size
      have HB := Lib.hid hb
      have HR := Lib.hid hrow
      have HOW := Lib.hid hown
      by_cases hlt : k < n
      · obtain ⟨b, o, e, hbB, hcell⟩ := HL.out (by rw [HN.out]; omega)
        subst e
        obtain ⟨Ai, ci, q0, q1, q2, _⟩ := hcell k (by rw [HN.out]; exact hlt)
        obtain ⟨l, el⟩ : ∃ l, ls[k]? = some l := ⟨_, List.getElem?_eq_getElem (by rw [HN.out]; exact hlt)⟩
        have eg : ls.getD k [] = l := by rw [List.getD_eq_getElem?_getD, el]; rfl
        rw [eg] at q0 q1
        have hl6 := H6.out l (List.mem_of_getElem? el)
        have hdum : True := trivial
        obtain ⟨ni, hni⟩ : ∃ j, l.length = j := ⟨_, rfl⟩
        rw [hni] at q0
        have c0 := (hb.cell (p := ⟨b, o + k, none⟩) hbB).trans q0
        have HC : Hid (∀ w', Below wr.heap.size wr w' → Calls Tryd.prog 58 #[.agg #[.slice Ai ni ci], .pointer (some ⟨pb, 0, none⟩)] w' (CopyPost w' (F l))) := fun w' hx => by
          have hx2 := hb.trans (hx.mono hbz)
          exact hl6 Ai ni ci w' hni hx2 ((q1.below hx2).more hx2.size) q2
        have EL := Lib.hid el
        have ij0 : (0 : Int) ≤ (k : Int) := by omega
        have ij1 : (k : Int) < (n : Int) := by omega
        clear hb hrow hown q0 q1 q2 el eg hl6 hni hcell
        go_wp2_with (fail)
        refine (HC.out _ ((Below.refl _ _).alloc (Nat.le_refl _) _)).mono ?_
        rintro e w2 ⟨v, rfl, hv, hb2⟩
        obtain ⟨A2, c2, rfl, _⟩ := hv.2.1
        have hb3 : Below wr.heap.size wr w2 := ((Below.refl _ _).alloc (Nat.le_refl _) _).trans (hb2.mono (by simp))
        have hs2 := hb3.size
        have hr2 : w2.ownsRow w.heap.size 39 1 (.slice (some ⟨w.heap.size, 0, none⟩) n n) n xs := own_in (hi := wr.heap.size) HR.out (fun k hk => (HR.out.lt k hk).2) (keptIn_below hb3 (Nat.le_refl _))
        have f2 := hr2.cellAt k (by omega)
        have z2 := hr2.frozenAt k
        have hxl : xs.length = n := by have := HR.out.1; omega
        rw [List.getElem?_eq_getElem (by omega)] at f2
        obtain ⟨u, hu⟩ : ∃ u, xs[k] = u := ⟨_, rfl⟩
        rw [hu] at f2
        have HFIN : Hid (Below w.heap.size w (w2.setCell ⟨w.heap.size, k, none⟩ (.slice A2 (F l).length c2)) ∧ w.heap.size < (w2.setCell ⟨w.heap.size, k, none⟩ (.slice A2 (F l).length c2)).heap.size ∧
            (w2.setCell ⟨w.heap.size, k, none⟩ (.slice A2 (F l).length c2)).ownsRow w.heap.size 39 1 (.slice (some ⟨w.heap.size, 0, none⟩) n n) n (xs.set k (.slice A2 (F l).length c2)) ∧
            OwnLvs (w2.setCell ⟨w.heap.size, k, none⟩ (.slice A2 (F l).length c2)) (w.heap.size + 1) (w2.setCell ⟨w.heap.size, k, none⟩ (.slice A2 (F l).length c2)).heap.size ((ls.map F).take (k + 1)) ((xs.set k (.slice A2 (F l).length c2)).take (k + 1))) := by
          have e3 : (w2.setCell ⟨w.heap.size, k, none⟩ (.slice A2 (F l).length c2)).heap.size = w2.heap.size := by simp [World.setCell]
          refine ⟨(HB.out.trans (hb3.mono hbz)).setCell (Nat.le_refl _) _, by omega, (hr2.stored k _).1, ?_⟩
          have e1 : (ls.map F).take (k + 1) = (ls.map F).take k ++ [F l] := by rw [List.take_add_one, List.getElem?_map, EL.out]; rfl
          have e2 : (xs.set k (.slice A2 (F l).length c2)).take (k + 1) = xs.take k ++ [.slice A2 (F l).length c2] := by
            rw [List.take_add_one, List.getElem?_set_self (by omega), List.take_set_of_le (Nat.le_refl _)]; rfl
          rw [e1, e2, e3]
          refine OwnLvs.snoc (mid := wr.heap.size) ?_ ?_
          · exact (hv.kept (keptIn_setCell _ _ _ (by simp; omega))).wide (by simp) (Nat.le_refl _)
          · exact (HOW.out.kept (keptIn_below hb3 (Nat.le_refl _))).kept (keptIn_setCell _ _ _ (by omega))
        obtain ⟨ni2, hni2⟩ : ∃ j, (F l).length = j := ⟨_, rfl⟩
        rw [hni2] at HFIN ⊢
        clear hv hb2 hb3 hr2 hu hni2
        go_wp2
        go_roundw
        case rel => exact ⟨k + 1, _, by omega, by go_num, HFIN.out.1, HFIN.out.2.1, HFIN.out.2.2.1, HFIN.out.2.2.2⟩
        case measure => simp [intOf]; omega
      · have hkn : k = n := by omega
        have e1 : (ls.map F).take k = ls.map F := List.take_of_length_le (by rw [List.length_map, HN.out]; omega)
        have hxl : xs.length = n := by have := hrow.1; omega
        have e2 : xs.take k = xs := List.take_of_length_le (by omega)
        rw [e1, e2] at hown
        have HF : Hid (EachPost w (ls.map F) (.returned (.slice (some ⟨w.heap.size, 0, none⟩) n n)) wr) := by
          refine ⟨some ⟨w.heap.size, 0, none⟩, n, by rw [List.length_map, HN.out], ⟨w.heap.size + 1, xs, ⟨by omega, ⟨_, _, rfl, by rw [List.length_map, HN.out]; omega⟩, by rw [List.length_map, HN.out]; exact hrow, fun k hk => by have hk2 : w.heap.size = k := Option.some.inj hk; omega⟩, hown⟩, hb⟩
        clear hb hrow hown e1 e2 hkn HR HOW
        go_wp2
        go_ret
        exact HF.out
set_option maxRecDepth 100000 in
set_option maxHeartbeats 4000000 in
theorem turn_levels (W : World) (B D pb : Nat) (Ab : Option Addr) (nb cb : Nat) (bys : List (List (Int × Int))) (hpb : pb < B) (hcell : W.cell? ⟨pb, 0, none⟩ = some (.slice Ab nb cb)) (hnb : bys.length = nb) (h9 : Bys bys)
    (hls : Levs W B Ab bys) : TurnOk W B D 56 #[.pointer (some ⟨pb, 0, none⟩)] (levT bys) := by
  intro d k n a lv w g o cur Al cl vk hd hr hs hb hg hx h5 hl hz
  obtain ⟨w1, hw1⟩ : ∃ x, w.alloc (.cells #[.int .i64 (d : Int)] 72) = x := ⟨_, rfl⟩
  have hb1 : Below w.heap.size w w1 := by rw [← hw1]; exact (Below.refl _ _).alloc (Nat.le_refl _) _
  have hs1 : w1.heap.size = w.heap.size + 1 := by rw [← hw1]; simp
  have hgl := heap_some_lt hx
  have hg1 := (hb1.block g hgl).trans hx
  have hbw : Below B W w1 := hb.trans (hb1.mono (by omega))
  obtain ⟨p1, hp1⟩ : ∃ p, lv.length = p := ⟨_, rfl⟩
  have e3 := row_cell hg1 h5.2.2.2.1
  have HE : Hid (Calls Tryd.prog 57 #[.slice Al p1 cl, .func (.func 58) #[] #[.pointer (some ⟨pb, 0, none⟩)]] w1 (EachPost w1 (lv.map (putL bys)))) := by
    refine each_put (putL bys) pb Al lv p1 cl w1 hp1 (by rw [← hp1]; exact hs.1) (fun l hl' Ai ni ci w' hni hx' hlev hci => ?_) ((hl.below hbw).more (by omega))
    have hx2 : Below B W w' := hbw.trans (hx'.mono (by omega))
    exact lev1_any Ai Ab l bys ni ci nb cb pb w' hni (by have := hs.2 l hl'; omega) hlev hci ((hx2.cell (p := ⟨pb, 0, none⟩) hpb).trans hcell) hnb h9 ((hls.below hx2).more (by have := hx'.size; omega))
  have HW : Hid (WideL (lv.map (putL bys))) := ⟨by rw [List.length_map]; exact hs.1, fun l hl' => by
    obtain ⟨l', h1, rfl⟩ := List.mem_map.1 hl'
    have := putL_len h9.2 (l := l') (by have := hs.2 l' h1; omega)
    exact this⟩
  have HX := Lib.hid hg1
  have H5 := Lib.hid h5
  have HB1 := Lib.hid hb1
  have HS1 := Lib.hid hs1
  have HMAP : Hid ((lv.map (putL bys)).length = p1) := by rw [List.length_map]; exact hp1
  obtain ⟨ls, hlse⟩ : ∃ x, lv.map (putL bys) = x := ⟨_, rfl⟩
  have HTN : Hid (levT bys d k n lv = .go n ls) := by
    show _ = _
    rw [← hlse]
    rfl
  rw [hlse] at HE HW HMAP
  rw [hp1] at e3
  rw [HTN.out]
  have hmf : ∀ (W : World), (Instr.makeFunc (.func 58) #[] #[.pointer (some ⟨pb, 0, none⟩)]).run Tryd.prog W = .ok (.func (.func 58) #[] #[.pointer (some ⟨pb, 0, none⟩)]) W := fun _ => rfl
  clear hx h5 hcell hr hs hb1 hg1 hb hbw hls h9 hnb hs1 hl hz hp1 hlse hd HTN
  show Calls Tryd.prog 56 #[.agg #[.int .i64 (d : Int)], .pointer (some ⟨g, o, none⟩), .pointer (some ⟨pb, 0, none⟩)] w (TurnPost w g o cur k a vk (.go n ls))
  go_enter Tryd.func56, Tryd.ntmps56
  go_wp2_with (fail)
  refine HE.out.mono ?_
  rintro e w2 ⟨A2, c2, rfl, hrow, hb2⟩
  rw [HMAP.out]
  rw [HMAP.out] at hrow
  have hx2 := (hb2.block g (heap_some_lt HX.out)).trans HX.out
  have z3 := thawed hx2 (o + 3)
  have f3 := row_cell hx2 H5.out.2.2.2.1
  have HFIN : Hid (TurnPost w g o cur k a vk (.go n ls) (.returned (.bool false)) (w2.setCell ⟨g, o + 3, none⟩ (.slice A2 p1 c2))) := by
    have hs1 := HS1.out
    have hz2 := hb2.size
    have hgr := grown_set (grown_belowT (HB1.out.trans (hb2.mono (by omega))) (some g)) (o + 3) (.slice A2 p1 c2)
    refine ⟨hgr, rfl, HW.out, _, A2, c2, set_same hx2 _ _, Only5.set _ (by omega) (by omega), by rw [HMAP.out]; exact H5.out.set3 _, ?_⟩
    have hk : OwnRowL (w2.setCell ⟨g, o + 3, none⟩ (.slice A2 p1 c2)) w1.heap.size w2.heap.size (.slice A2 ls.length c2) ls := by
      rw [HMAP.out]
      exact hrow.kept (keptIn_setCell _ _ _ (by omega))
    have := hk.levs
    exact ⟨this.1.more (by simp [World.setCell]), this.2⟩
  clear hrow hb2 hx2 HE
  go_wp2
  go_ret
  exact HFIN.out
set_option maxRecDepth 100000 in
theorem enter_levels1 (vs : Array Value) (w : World) : (callFunc 56 vs).run Tryd.prog w = .ok (.enter 56 vs) w := by go_simp
set_option maxRecDepth 100000 in
set_option maxHeartbeats 4000000 in
theorem levels_of (k n a : Int) (lv : List (List (Int × Int))) (kids : List Tm) (hf : (Tm.mk k n a lv kids).fit) (w : World) (Al Ak Ab : Option Addr) (p1 c1 p2 c2 nb cb : Nat) (bys : List (List (Int × Int))) (hd : (Tm.mk k n a lv kids).size ≤ 1073741824) (hK : KindsAt w)
    (hv : TmAt w w.heap.size (.mk k n a lv kids) (.agg #[.int .i64 k, .int .i64 n, .int .i64 a, .slice Al p1 c1, .slice Ak p2 c2])) (hnb : bys.length = nb) (h9 : Bys bys) (hls : Levs w w.heap.size Ab bys) :
    Calls Tryd.prog 26 #[.agg #[.int .i64 k, .int .i64 n, .int .i64 a, .slice Al p1 c1, .slice Ak p2 c2], .slice Ab nb cb] w (TermPost w ((Tm.mk k n a lv kids).walk (levT bys) 0)) := by
  have h0 : 0 < w.heap.size := cell_lt (hK 0 (by decide))
  obtain ⟨wa, hwa⟩ : ∃ x, w.alloc (.cells #[.int .i64 k, .int .i64 n, .int .i64 a, .slice Al p1 c1, .slice Ak p2 c2] 27) = x := ⟨_, rfl⟩
  obtain ⟨w1, hw1⟩ : ∃ x, (wa.alloc (.cells #[.slice Ab nb cb] 24)).alloc (.cells #[.int .i64 0, .int .i64 0, .int .i64 0, .slice none 0 0, .slice none 0 0] 27) = x := ⟨_, rfl⟩
  have hsa : wa.heap.size = w.heap.size + 1 := by rw [← hwa]; simp
  have hba : Below w.heap.size w wa := by rw [← hwa]; exact (Below.refl _ _).alloc (Nat.le_refl _) _
  have hb1a : Below wa.heap.size wa w1 := by rw [← hw1]; exact ((Below.refl _ _).alloc (Nat.le_refl _) _).alloc (by simp) _
  have hb1 := hba.trans (hb1a.mono (by omega))
  have hs1 : w1.heap.size = w.heap.size + 3 := by rw [← hw1]; simp [hsa]
  have xa : wa.heap[w.heap.size]? = some (.cells #[.int .i64 k, .int .i64 n, .int .i64 a, .slice Al p1 c1, .slice Ak p2 c2] 27 (0, 0)) := by rw [← hwa]; exact heap_alloc_new w _
  have x0 := (hb1a.block w.heap.size (by omega)).trans xa
  obtain ⟨x1, x3, _⟩ := two_allocs wa (.cells #[.slice Ab nb cb] 24) (.cells #[.int .i64 0, .int .i64 0, .int .i64 0, .slice none 0 0, .slice none 0 0] 27)
  rw [hw1, hsa] at x1 x3
  obtain ⟨u, hu⟩ : ∃ u, (Tm.mk k n a lv kids).walk (levT bys) 0 = u := ⟨_, rfl⟩
  rw [hu]
  have HN : Hid (Calls Tryd.prog 37 #[.agg #[.int .i64 0, .func (.func 56) #[] #[.pointer (some ⟨w.heap.size + 1, 0, none⟩)]], .agg #[.int .i64 k, .int .i64 n, .int .i64 a, .slice Al p1 c1, .slice Ak p2 c2]] w1 (TermPost w1 u)) := by
    rw [← hu]
    exact term_any w1 w1.heap.size 1073741824 _ _ _ (Nat.le_refl _) (by omega) (hK.below hb1 h0) (fun vs w => enter_levels1 vs w) (turn_levels w1 _ _ _ Ab nb cb bys (heap_some_lt x1) (cell_of_one x1) hnb h9 ((hls.below hb1).more hb1.size)) _ hf 0 _ w1 (by omega) (Below.refl _ _) (Nat.le_refl _) (hv.below hb1 hb1.size)
  have y0 := cell_of_row _ _ 0 _ _ (0, 0) x0
  have y1 := cell_of_row _ _ 1 _ _ (0, 0) x0
  have y2 := cell_of_row _ _ 2 _ _ (0, 0) x0
  have y3 := cell_of_row _ _ 3 _ _ (0, 0) x0
  have y4 := cell_of_row _ _ 4 _ _ (0, 0) x0
  have X3 := Lib.hid x3
  have HB1 := Lib.hid hb1
  have HS1 := Lib.hid hs1
  have hmf : ∀ (W : World), (Instr.makeFunc (.func 56) #[] #[.pointer (some ⟨w.heap.size + 1, 0, none⟩)]).run Tryd.prog W = .ok (.func (.func 56) #[] #[.pointer (some ⟨w.heap.size + 1, 0, none⟩)]) W := fun _ => rfl
  clear hu hK hf hd hv x0 x1 x3 xa hb1 hb1a hba hs1 h0 hls h9 hnb
  go_enter Tryd.func26, Tryd.ntmps26
  go_wp2_with (fail)
  refine HN.out.mono ?_
  rintro e w2 ⟨v, rfl, hown, hb2⟩
  obtain ⟨k2, n2, a2, lv2, kids2⟩ := u
  obtain ⟨vl, vk, m1, m2, xs, ev, w1', ⟨A5, c5, rfl⟩, w2', w3'⟩ := hown.open
  obtain ⟨A6, c6, rfl, _⟩ := w2'.2.1
  obtain ⟨p5, hp5⟩ : ∃ p, lv2.length = p := ⟨_, rfl⟩
  obtain ⟨p6, hp6⟩ : ∃ p, kids2.length = p := ⟨_, rfl⟩
  rw [hp5, hp6] at ev
  subst ev
  have hr2 := (hb2.block (w.heap.size + 1 + 1) (by have := HS1.out; omega)).trans X3.out
  have e0 := cell_of_row _ _ 0 _ _ (0, 0) hr2
  have e1 := cell_of_row _ _ 1 _ _ (0, 0) hr2
  have e2 := cell_of_row _ _ 2 _ _ (0, 0) hr2
  have e3 := cell_of_row _ _ 3 _ _ (0, 0) hr2
  have e4 := cell_of_row _ _ 4 _ _ (0, 0) hr2
  have t0 := thawed hr2 0
  have t1 := thawed hr2 1
  have t2 := thawed hr2 2
  have t3 := thawed hr2 3
  have t4 := thawed hr2 4
  obtain ⟨g9, s9, cur9, h9, _, hc9⟩ := store5_post hr2 (o := 0) (by simp) (.int .i64 k2) (.int .i64 n2) (.int .i64 a2) (.slice A5 p5 c5) (.slice A6 p6 c6)
  have r0 := row_cell h9 hc9.1
  have r1 := row_cell h9 hc9.2.1
  have r2 := row_cell h9 hc9.2.2.1
  have r3 := row_cell h9 hc9.2.2.2.1
  have r4 := row_cell h9 hc9.2.2.2.2
  have HFIN : Hid (TermPost w (Tm.mk k2 n2 a2 lv2 kids2) (.returned (.agg #[.int .i64 k2, .int .i64 n2, .int .i64 a2, .slice A5 p5 c5, .slice A6 p6 c6])) (store5 w2 (w.heap.size + 1 + 1) 0 (.int .i64 k2) (.int .i64 n2) (.int .i64 a2) (.slice A5 p5 c5) (.slice A6 p6 c6))) := by
    have hs1 := HS1.out
    have hgs := hb2.size
    refine ⟨_, rfl, ?_, (HB1.out.trans (hb2.mono (by omega))).trans (below_grownT g9 (by omega) (by omega))⟩
    rw [s9]
    exact (hown.kept (grown_kept g9 (by omega) (Nat.le_refl _))).wide (by omega) (Nat.le_refl _)
  unfold store5 at HFIN r0 r1 r2 r3 r4
  clear g9 s9 h9 hc9 hown hb2 hr2 w1' w2' w3' hp5 hp6 HN
  go_wp2
  exact bodyPost_ret (v := .agg #[.int .i64 k2, .int .i64 n2, .int .i64 a2, .slice A5 p5 c5, .slice A6 p6 c6]) (by simp [results, Tryd.results26, go_sem, r0, r1, r2, r3, r4]) rfl HFIN.out
/-- Levels answers the term with levels put. -/
theorem levels_any (t : Tm) (bys : List (List (Int × Int))) (hf : t.fit) (v : Value) (Ab : Option Addr) (nb cb : Nat) (w : World) (hd : t.size ≤ 1073741824) (hK : KindsAt w) (hv : TmAt w w.heap.size t v) (hnb : bys.length = nb) (h9 : Bys bys) (hls : Levs w w.heap.size Ab bys) :
    Calls Tryd.prog 26 #[v, .slice Ab nb cb] w (TermPost w (t.walk (levT bys) 0)) := by
  obtain ⟨k, n, a, lv, kids⟩ := t
  have hv' := hv
  obtain ⟨Al, cl, Ak, ck, rfl, _⟩ := hv.open
  exact levels_of k n a lv kids hf w Al Ak Ab _ cl _ ck nb cb bys hd hK hv' hnb h9 hls
end Go.Proofs.YtfgnnbpbbnnnhaaDoor
namespace Go.Proofs.YtfgnnbpbbnnnhaaDoor
open Go.RowKit Go.Maps
/-- the table of kinds: num, at, levels, kids, binds -/
def kindTab : List (Bool × Bool × Int × Int × Int) := [(false, false, 0, 0, 0), (true, false, 0, 0, 0), (false, false, 1, 0, 0), (true, false, 2, 0, 0), (false, false, 0, 2, 2), (false, false, 0, 2, 2), (false, false, 0, 2, 0), (false, false, 0, 3, 3), (true, true, 2, 0, 0), (true, true, 2, 0, 0), (true, true, 3, 0, 0), (false, true, 0, 0, 0), (false, false, 0, 2, 2), (false, false, 0, 2, 0), (false, false, 0, 1, 0), (false, false, 0, 1, 0), (false, false, 0, 2, 2), (false, false, 0, 2, 0), (false, false, 0, 5, 2), (false, false, 0, 3, 0), (false, false, 0, 0, 0), (false, false, 0, 6, 0), (true, false, 0, 0, 0), (true, true, 0, 0, 0), (false, true, 0, -1, 0)]
def kindRow (i : Nat) : Bool × Bool × Int × Int × Int := kindTab.getD i (false, false, 0, 0, 0)
/-- the table as the package's variable holds it -/
def KindsAll (w : World) : Prop := ∀ i : Nat, i < 25 → w.cell? ⟨0, i * 5, none⟩ = some (.bool (kindRow i).1) ∧ w.cell? ⟨0, i * 5 + 1, none⟩ = some (.bool (kindRow i).2.1) ∧ w.cell? ⟨0, i * 5 + 2, none⟩ = some (.int .i64 (kindRow i).2.2.1) ∧ w.cell? ⟨0, i * 5 + 3, none⟩ = some (.int .i64 (kindRow i).2.2.2.1) ∧ w.cell? ⟨0, i * 5 + 4, none⟩ = some (.int .i64 (kindRow i).2.2.2.2)
theorem kindRow_binds : ∀ i : Nat, i < 25 → (kindRow i).2.2.2.2 = bindTab.getD i 0 := by decide
theorem KindsAll.binds {w : World} (h : KindsAll w) : KindsAt w := fun i hi => by rw [← kindRow_binds i hi]; exact (h i hi).2.2.2.2
theorem KindsAll.below {w w' : World} {B : Nat} (h : KindsAll w) (hb : Below B w w') (hB : 0 < B) : KindsAll w' := fun i hi => by
  obtain ⟨h0, h1, h2, h3, h4⟩ := h i hi
  exact ⟨(hb.cell (p := ⟨0, i * 5, none⟩) hB).trans h0, (hb.cell (p := ⟨0, i * 5 + 1, none⟩) hB).trans h1, (hb.cell (p := ⟨0, i * 5 + 2, none⟩) hB).trans h2, (hb.cell (p := ⟨0, i * 5 + 3, none⟩) hB).trans h3, (hb.cell (p := ⟨0, i * 5 + 4, none⟩) hB).trans h4⟩
end Go.Proofs.YtfgnnbpbbnnnhaaDoor
namespace Go.Proofs.YtfgnnbpbbnnnhaaDoor
open Go.RowKit Go.Maps
end Go.Proofs.YtfgnnbpbbnnnhaaDoor
namespace Go.Proofs.YtfgnnbpbbnnnhaaDoor
open Go.RowKit Go.Maps
end Go.Proofs.YtfgnnbpbbnnnhaaDoor
namespace Go.Proofs.YtfgnnbpbbnnnhaaDoor
open Go.RowKit Go.Maps
end Go.Proofs.YtfgnnbpbbnnnhaaDoor
namespace Go.Proofs.YtfgnnbpbbnnnhaaDoor
open Go.RowKit Go.Maps
theorem levs_nil (w : World) (B : Nat) (A : Option Addr) : Levs w B A [] := fun h => by simp at h
theorem tms_nil (w : World) (B : Nat) : Tms w B none 0 [] := ⟨fun _ => rfl, fun h => by simp at h⟩
/-- an address of five cells -/
theorem Five.of {w : World} {b : Nat} {cur : Array Value} {t : TypeId} {fr : Nat × Nat} (h : w.heap[b]? = some (.cells cur t fr)) {o : Nat} {c0 c1 c2 c3 c4 : Value} (h5 : Cells5 cur o c0 c1 c2 c3 c4) : Five w b o (.agg #[c0, c1, c2, c3, c4]) :=
  ⟨c0, c1, c2, c3, c4, rfl, row_cell h h5.1, row_cell h h5.2.1, row_cell h h5.2.2.1, row_cell h h5.2.2.2.1, row_cell h h5.2.2.2.2⟩
end Go.Proofs.YtfgnnbpbbnnnhaaDoor
namespace Go.Proofs.YtfgnnbpbbnnnhaaDoor
open Go.RowKit Go.Maps
theorem TmAt.cells {w : World} {B : Nat} {t : Tm} {v : Value} (h : TmAt w B t v) : ∃ c0 c1 c2 c3 c4, v = .agg #[c0, c1, c2, c3, c4] := by
  obtain ⟨k, n, a, lv, kids⟩ := t
  obtain ⟨Al, cl, Ak, ck, rfl, _⟩ := h.open
  exact ⟨_, _, _, _, _, rfl⟩
set_option maxRecDepth 100000 in
theorem slice_tm {t : Tm} {v : Value} {w : World} (h : TmAt w w.heap.size t v) : (Instr.buildSlice 25 1 [(0, v)].toArray).run Tryd.prog w = .ok (.slice (some ⟨w.heap.size, 0, none⟩) 1 1) (w.alloc (.cells v.cells 27)) := by
  obtain ⟨k, n, a, lv, kids⟩ := t
  obtain ⟨Al, cl, Ak, ck, rfl, _⟩ := h.open
  go_simp
/-- a row of terms, told -/
def TmsV (ts : List Tm) (x : Value) (w : World) : Prop := ∃ A c, x = .slice A ts.length c ∧ Tms w w.heap.size A c ts
theorem TmsV.mono {ts : List Tm} {x : Value} {w w' : World} (h : TmsV ts x w) (hR : Below w.heap.size w w') : TmsV ts x w' := by
  obtain ⟨A, c, h1, h2⟩ := h
  exact ⟨A, c, h1, h2.below hR hR.size⟩
theorem tmsV_one {t : Tm} {v : Value} {w : World} (h : TmAt w w.heap.size t v) : TmsV [t] (.slice (some ⟨w.heap.size, 0, none⟩) 1 1) (w.alloc (.cells v.cells 27)) := by
  have hb : Below w.heap.size w (w.alloc (.cells v.cells 27)) := (Below.refl _ _).alloc (Nat.le_refl _) _
  have hx := heap_alloc_new w (.cells v.cells 27)
  obtain ⟨c0, c1, c2, c3, c4, rfl⟩ := h.cells
  refine ⟨_, _, rfl, (fun h => by cases h), fun _ => ⟨w.heap.size, 0, rfl, by simp, ?_⟩⟩
  unfold TmsAt
  refine ⟨⟨_, Five.of hx (o := 0) ⟨rfl, rfl, rfl, rfl, rfl⟩, h.below hb hb.size⟩, ?_⟩
  unfold TmsAt
  trivial
set_option maxRecDepth 100000 in
theorem enter_putTm (vs : Array Value) (w : World) : (callFunc 13 vs).run Tryd.prog w = .ok (.enter 13 vs) w := by go_simp
end Go.Proofs.YtfgnnbpbbnnnhaaDoor
