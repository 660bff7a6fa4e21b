/- What TermMeets answers: yes. -/
import Derived.Test.YtafgmndlbbjphaaDoorTmMeetsA
namespace Go.Proofs.YtafgmndlbbjphaaDoor
open Go.RowKit Go.Maps

set_option maxRecDepth 100000 in
set_option maxHeartbeats 16000000 in
theorem meets_of (tt ta tb : Tm) (tby : List Tm) (s0 s1 s2 s3 s4 p0 p1 p2 p3 p4 q0 q1 q2 q3 q4 : Value) (Ab : Option Addr) (nb cb : Nat) (w : World) (hK : KindsAll w) (ht : TmAt w w.heap.size tt (.agg #[s0, s1, s2, s3, s4])) (ha : TmAt w w.heap.size ta (.agg #[p0, p1, p2, p3, p4])) (hb : TmAt w w.heap.size tb (.agg #[q0, q1, q2, q3, q4])) (hby : Tms w w.heap.size Ab cb tby) (hnb : tby.length = nb)
    (ft : tt.fit) (fa : ta.fit) (fb : tb.fit) (fby : ∀ b ∈ tby, b.fit) (hc : Tm.countL (tt :: ta :: tb :: tby) ≤ 1048576) :
    Calls Tryd.prog 3 #[.agg #[s0, s1, s2, s3, s4], .agg #[p0, p1, p2, p3, p4], .agg #[q0, q1, q2, q3, q4], .slice Ab nb cb] w (HasPost w true) := by
  have h0 : 0 < w.heap.size := cell_lt (hK 0 (by decide)).1
  obtain ⟨w1, hw1⟩ : ∃ x, ((w.alloc (.cells #[s0, s1, s2, s3, s4] 26)).alloc (.cells #[p0, p1, p2, p3, p4] 26)).alloc (.cells #[q0, q1, q2, q3, q4] 26) = x := ⟨_, rfl⟩
  have hb1 : Below w.heap.size w w1 := by rw [← hw1]; exact (((Below.refl _ _).alloc (Nat.le_refl _) _).alloc (by simp) _).alloc (by simp; omega) _
  have hs1 : w1.heap.size = w.heap.size + 3 := by rw [← hw1]; simp
  obtain ⟨z1, z2, _⟩ := two_allocs w (.cells #[s0, s1, s2, s3, s4] 26) (.cells #[p0, p1, p2, p3, p4] 26)
  have x0 : w1.heap[w.heap.size]? = some (.cells #[s0, s1, s2, s3, s4] 26 (0, 0)) := by rw [← hw1, Below.heap_alloc _ _ _ (by simp; omega)]; exact z1
  have x1 : w1.heap[w.heap.size + 1]? = some (.cells #[p0, p1, p2, p3, p4] 26 (0, 0)) := by rw [← hw1, Below.heap_alloc _ _ _ (by simp)]; exact z2
  have x2 : w1.heap[w.heap.size + 1 + 1]? = some (.cells #[q0, q1, q2, q3, q4] 26 (0, 0)) := by
    rw [← hw1]
    have := heap_alloc_new ((w.alloc (.cells #[s0, s1, s2, s3, s4] 26)).alloc (.cells #[p0, p1, p2, p3, p4] 26)) (.cells #[q0, q1, q2, q3, q4] 26)
    simpa using this
  have HAW := Lib.hid (awake_any w1 (hK.below hb1 h0))
  have HK1 := Lib.hid (hK.below hb1 h0)
  have HB1 := Lib.hid hb1
  have HS1 := Lib.hid hs1
  have X0 := Lib.hid x0
  have X1 := Lib.hid x1
  have X2 := Lib.hid x2
  have HT := Lib.hid (ht.below hb1 hb1.size)
  have HA := Lib.hid (ha.below hb1 hb1.size)
  have HB := Lib.hid (hb.below hb1 hb1.size)
  have HBY := Lib.hid (hby.below hb1 hb1.size)
  have HNB := Lib.hid hnb
  have FT := Lib.hid ft
  have FA := Lib.hid fa
  have FB := Lib.hid fb
  have FBY := Lib.hid fby
  have HC := Lib.hid hc
  clear hK ht ha hb hby hnb ft fa fb fby hc h0 hb1 hs1 z1 z2 x0 x1 x2
  go_enter Tryd.func3, Tryd.ntmps3
  go_wp2_with (fail)
  refine HAW.out.mono ?_
  rintro e w2 ⟨rfl, hb2⟩
  clear hw1
  have hz2 := hb2.size
  have h0 : 0 < w1.heap.size := by have := HS1.out; omega
  have x0 := (hb2.block _ (heap_some_lt X0.out)).trans X0.out
  have x1 := (hb2.block _ (heap_some_lt X1.out)).trans X1.out
  have x2 := (hb2.block _ (heap_some_lt X2.out)).trans X2.out
  have HT2 := Lib.hid (HT.out.below hb2 hz2)
  have HA2 := Lib.hid (HA.out.below hb2 hz2)
  have HB2 := Lib.hid (HB.out.below hb2 hz2)
  have HBY2 := Lib.hid (HBY.out.below hb2 hz2)
  have HK2 := Lib.hid (HK1.out.below hb2 h0)
  have h02 : 0 < w2.heap.size := by omega
  have HEND : Hid (∀ w', Below w2.heap.size w2 w' → Below w.heap.size w w') := fun w' hx => HB1.out.trans ((hb2.trans (hx.mono hz2)).mono HB1.out.size)
  have X0 := Lib.hid x0
  have X1 := Lib.hid x1
  have X2 := Lib.hid x2
  clear hb2 hz2 x0 x1 x2 HT HA HB HBY HK1 HB1 HAW h0
  have HKB : Hid (∀ w', Below w2.heap.size w2 w' → KindsAll w') := fun w' hx => HK2.out.below hx h02
  have HBV : Hid (∀ w', Below w2.heap.size w2 w' → TmsV tby (.slice Ab nb cb) w') := fun w' hx => ⟨Ab, cb, by rw [HNB.out], HBY2.out.below hx hx.size⟩
  obtain ⟨gr, hgr⟩ : ∃ x, decide (600 < Tm.countL (tt :: ta :: tb :: tby)) = x := ⟨_, rfl⟩
  obtain ⟨tm, htm⟩ : ∃ x, Tm.tameL (tt :: ta :: tb :: tby) = x := ⟨_, rfl⟩
  obtain ⟨T1, hT1⟩ : ∃ x, min (tt.size : Int) 600 + min (ta.size : Int) 600 = x := ⟨_, rfl⟩
  obtain ⟨T2, hT2⟩ : ∃ x, min (tb.size : Int) 600 + min (ta.size : Int) 600 = x := ⟨_, rfl⟩
  have hm1 : 0 ≤ T1 ∧ T1 ≤ 1200 := by omega
  have hm2 : 0 ≤ T2 ∧ T2 ≤ 1200 := by omega
  obtain ⟨T3, hT3⟩ : ∃ x, T1 * T2 = x := ⟨_, rfl⟩
  have hw3 : IntKind.i64.wrap (T1 * T2) = T3 := by
    have l1 : 0 ≤ T1 * T2 := Int.mul_nonneg hm1.1 hm2.1
    have l2 : T1 * T2 ≤ 1200 * 1200 := Int.mul_le_mul hm1.2 hm2.2 hm2.1 (by omega)
    rw [IntWalk.i64_in _ (by omega), hT3]
  obtain ⟨tx, htx⟩ : ∃ x, decide ((36000 : Int) < T3) = x := ⟨_, rfl⟩
  have HGR : Hid (∀ (A : Option Addr) (c : Nat) w', Below w2.heap.size w2 w' → Tms w' w'.heap.size A c (tt :: ta :: tb :: tby) → Calls Tryd.prog 6 #[.slice A (tt :: ta :: tb :: tby).length c] w' (HasPost w' gr)) := fun A c w' _ h => by
    rw [← hgr]
    exact great_any _ A c _ w' rfl HC.out h
  have hcl := HC.out
  simp only [Tm.countL] at hcl
  have st := Tm.size_le_count tt
  have sa := Tm.size_le_count ta
  have sb := Tm.size_le_count tb
  have HSL : Hid (Tm.sizeL (tt :: ta :: tb :: tby) ≤ 1073741824) := Nat.le_trans (Tm.sizeL_le_countL _ fun t _ => Tm.size_le_count t) (by have := HC.out; omega)
  have HTM : Hid (∀ (A : Option Addr) (c : Nat) w', Below w2.heap.size w2 w' → Tms w' w'.heap.size A c (tt :: ta :: tb :: tby) → Calls Tryd.prog 7 #[.slice A (tt :: ta :: tb :: tby).length c] w' (HasPost w' tm)) := fun A c w' _ h => by
    rw [← htm]
    exact tame_any _ A c _ w' rfl HSL.out h
  have HX1 : Hid (∀ w', Below w2.heap.size w2 w' → Calls Tryd.prog 8 #[.agg #[s0, s1, s2, s3, s4], .agg #[p0, p1, p2, p3, p4]] w' (fun e w9 => e = .returned (.int .i64 T1) ∧ Below w'.heap.size w' w9)) := fun w' hx => by
    rw [← hT1]
    exact times_any tt ta _ _ w' (by omega) (by omega) (HT2.out.below hx hx.size) (HA2.out.below hx hx.size)
  have HX2 : Hid (∀ w', Below w2.heap.size w2 w' → Calls Tryd.prog 8 #[.agg #[q0, q1, q2, q3, q4], .agg #[p0, p1, p2, p3, p4]] w' (fun e w9 => e = .returned (.int .i64 T2) ∧ Below w'.heap.size w' w9)) := fun w' hx => by
    rw [← hT2]
    exact times_any tb ta _ _ w' (by omega) (by omega) (HB2.out.below hx hx.size) (HA2.out.below hx hx.size)
  have HN6 : Hid (tby.length ≤ 1048576) := by
    show _ ≤ _
    have := Tm.countL_length tby
    omega
  have HSZ : Hid (tt.size ≤ 1048576 ∧ ta.size ≤ 1048576 ∧ tb.size ≤ 1048576) := ⟨by omega, by omega, by omega⟩
  have HGRB := Lib.hid hgr
  have HTMB := Lib.hid htm
  have HTXB := Lib.hid htx
  have HWP := Lib.hid hw3
  clear hgr htm hT1 hT2 hT3 hw3 htx hm1 hm2 hcl st sa sb
  have hS : Below w2.heap.size w2 w2.drew := (Below.refl _ _).drew
  cases gr with
  | true =>
    go_upto_region 3 with (fail)
    refine wp_region_tab (fun w' => Below w2.heap.size w2 w') (fun w1 w2 : World => Below w1.heap.size w1 w2) [(fun (x : Value) (_ : World) => x = (.agg #[s0, s1, s2, s3, s4] : Value)), (fun (x : Value) (_ : World) => x = (.agg #[p0, p1, p2, p3, p4] : Value)), (fun (x : Value) (_ : World) => x = (.agg #[q0, q1, q2, q3, q4] : Value)), (fun (x : Value) (w : World) => TmsFull [tt, ta, tb] x w), (fun (x : Value) (_ : World) => x = (.slice Ab nb cb : Value)), (fun (x : Value) (w : World) => TmsV (tt :: ta :: tb :: tby) x w), (fun (x : Value) (_ : World) => x = (.bool true : Value)), (fun (x : Value) (_ : World) => x = (.bool true : Value)), (fun (x : Value) (_ : World) => x = undef), (fun (x : Value) (_ : World) => x = undef), (fun (x : Value) (_ : World) => x = undef), (fun (x : Value) (_ : World) => x = undef), (fun (x : Value) (_ : World) => x = undef), (fun (x : Value) (_ : World) => x = undef), (fun (x : Value) (_ : World) => x = undef), (fun (x : Value) (_ : World) => x = undef), (fun (x : Value) (_ : World) => x = (.bool true : Value)), (fun (x : Value) (_ : World) => x = (.bool true : Value)), (fun (x : Value) (_ : World) => x = undef), (fun (x : Value) (_ : World) => x = undef), (fun (x : Value) (_ : World) => x = undef), (fun (x : Value) (_ : World) => x = undef), (fun (x : Value) (_ : World) => x = undef), (fun (x : Value) (_ : World) => x = undef), (fun (x : Value) (_ : World) => x = undef), (fun (x : Value) (_ : World) => x = undef), (fun (x : Value) (_ : World) => x = (.bool true : Value))] [⟨some 13, .load 26 (.tmp 4), none, []⟩, ⟨some 14, .load 26 (.tmp 5), none, []⟩, ⟨some 15, .load 26 (.tmp 6), none, []⟩, ⟨some 16, .buildSlice 24 3 #[(0, .tmp 13), (1, .tmp 14), (2, .tmp 15)], none, [(13, 0), (14, 1), (15, 2)]⟩, ⟨some 17, .move (.tmp 3), none, []⟩, ⟨some 18, .call { callee := .builtin .append, args := #[.tmp 16, .tmp 17], argTypes := #[24, 24] }, none, [(16, 3), (17, 4)]⟩, ⟨some 19, .call { callee := .value (.func 6), args := #[.tmp 18], argTypes := #[24] }, none, [(18, 5)]⟩, ⟨some 20, .move (.tmp 19), none, [(19, 6)]⟩, ⟨some 21, .load 26 (.tmp 4), some (some 20, false), [(20, 7)]⟩, ⟨some 22, .load 26 (.tmp 5), some (some 20, false), [(20, 7)]⟩, ⟨some 23, .load 26 (.tmp 6), some (some 20, false), [(20, 7)]⟩, ⟨some 24, .buildSlice 24 3 #[(0, .tmp 21), (1, .tmp 22), (2, .tmp 23)], some (some 20, false), [(20, 7), (21, 8), (22, 9), (23, 10)]⟩, ⟨some 25, .move (.tmp 3), some (some 20, false), [(20, 7)]⟩, ⟨some 26, .call { callee := .builtin .append, args := #[.tmp 24, .tmp 25], argTypes := #[24, 24] }, some (some 20, false), [(20, 7), (24, 11), (25, 12)]⟩, ⟨some 27, .call { callee := .value (.func 7), args := #[.tmp 26], argTypes := #[24] }, some (some 20, false), [(20, 7), (26, 13)]⟩, ⟨some 28, .unOp .not 4 (.tmp 27), some (some 20, false), [(20, 7), (27, 14)]⟩, ⟨some 29, .pick (.tmp 20) (.const (Value.bool true)) (.tmp 28), none, [(20, 7), (28, 15)]⟩, ⟨some 30, .move (.tmp 29), none, [(29, 16)]⟩, ⟨some 31, .load 26 (.tmp 4), some (some 30, false), [(30, 17)]⟩, ⟨some 32, .load 26 (.tmp 5), some (some 30, false), [(30, 17)]⟩, ⟨some 33, .call { callee := .value (.func 8), args := #[.tmp 31, .tmp 32], argTypes := #[26, 26] }, some (some 30, false), [(30, 17), (31, 18), (32, 19)]⟩, ⟨some 34, .load 26 (.tmp 6), some (some 30, false), [(30, 17)]⟩, ⟨some 35, .load 26 (.tmp 5), some (some 30, false), [(30, 17)]⟩, ⟨some 36, .call { callee := .value (.func 8), args := #[.tmp 34, .tmp 35], argTypes := #[26, 26] }, some (some 30, false), [(30, 17), (34, 21), (35, 22)]⟩, ⟨some 37, .binOp .mul 3 (.tmp 33) (.tmp 36) 3, some (some 30, false), [(30, 17), (33, 20), (36, 23)]⟩, ⟨some 38, .binOp .gtr 3 (.tmp 37) (.const (.int .i64 36000)) 3, some (some 30, false), [(30, 17), (37, 24)]⟩, ⟨some 39, .pick (.tmp 30) (.const (Value.bool true)) (.tmp 38), none, [(30, 17), (38, 25)]⟩] [some 13, some 14, some 15, some 16, some 17, some 18, some 19, some 20, some 21, some 22, some 23, some 24, some 25, some 26, some 27, some 28, some 29, some 30, some 31, some 32, some 33, some 34, some 35, some 36, some 37, some 38, some 39] (by kernel_rfl) (by kernel_rfl) (by kernel_rfl) (by kernel_rfl) (by kernel_rfl) ?hS ?hmono ?hsteps ?hfin
    case hS => exact hS
    case hmono =>
      refine MonoL.cons (fun x w1 w2 _ _ _ hx => hx) ?_
      refine MonoL.cons (fun x w1 w2 _ _ _ hx => hx) ?_
      refine MonoL.cons (fun x w1 w2 _ _ _ hx => hx) ?_
      refine MonoL.cons (fun x w1 w2 _ _ hR hx => ?_) ?_
      · exact hx.mono hR
      refine MonoL.cons (fun x w1 w2 _ _ _ hx => hx) ?_
      refine MonoL.cons (fun x w1 w2 _ _ hR hx => ?_) ?_
      · exact hx.mono hR
      refine MonoL.cons (fun x w1 w2 _ _ _ hx => hx) ?_
      refine MonoL.cons (fun x w1 w2 _ _ _ hx => hx) ?_
      refine MonoL.cons (fun x w1 w2 _ _ _ hx => hx) ?_
      refine MonoL.cons (fun x w1 w2 _ _ _ hx => hx) ?_
      refine MonoL.cons (fun x w1 w2 _ _ _ hx => hx) ?_
      refine MonoL.cons (fun x w1 w2 _ _ _ hx => hx) ?_
      refine MonoL.cons (fun x w1 w2 _ _ _ hx => hx) ?_
      refine MonoL.cons (fun x w1 w2 _ _ _ hx => hx) ?_
      refine MonoL.cons (fun x w1 w2 _ _ _ hx => hx) ?_
      refine MonoL.cons (fun x w1 w2 _ _ _ hx => hx) ?_
      refine MonoL.cons (fun x w1 w2 _ _ _ hx => hx) ?_
      refine MonoL.cons (fun x w1 w2 _ _ _ hx => hx) ?_
      refine MonoL.cons (fun x w1 w2 _ _ _ hx => hx) ?_
      refine MonoL.cons (fun x w1 w2 _ _ _ hx => hx) ?_
      refine MonoL.cons (fun x w1 w2 _ _ _ hx => hx) ?_
      refine MonoL.cons (fun x w1 w2 _ _ _ hx => hx) ?_
      refine MonoL.cons (fun x w1 w2 _ _ _ hx => hx) ?_
      refine MonoL.cons (fun x w1 w2 _ _ _ hx => hx) ?_
      refine MonoL.cons (fun x w1 w2 _ _ _ hx => hx) ?_
      refine MonoL.cons (fun x w1 w2 _ _ _ hx => hx) ?_
      refine MonoL.cons (fun x w1 w2 _ _ _ hx => hx) ?_
      exact MonoL.nil
    case hsteps =>
      refine StepsT.cons (fun (x : Value) (_ : World) => x = (.agg #[s0, s1, s2, s3, s4] : Value)) [] rfl rfl (fun oq hop _ wq hQS => ?_) ?_
      · exact StepFrom.load hop (p := (.pointer (some ⟨w.heap.size, 0, none⟩) : Value)) (by kernel_rfl) (load_box X0.out hQS) (by kernel_rfl) hQS (Below.refl _ _) rfl
      refine StepsT.cons (fun (x : Value) (_ : World) => x = (.agg #[p0, p1, p2, p3, p4] : Value)) [] rfl rfl (fun oq hop _ wq hQS => ?_) ?_
      · exact StepFrom.load hop (p := (.pointer (some ⟨w.heap.size + 1, 0, none⟩) : Value)) (by kernel_rfl) (load_box X1.out hQS) (by kernel_rfl) hQS (Below.refl _ _) rfl
      refine StepsT.cons (fun (x : Value) (_ : World) => x = (.agg #[q0, q1, q2, q3, q4] : Value)) [] rfl rfl (fun oq hop _ wq hQS => ?_) ?_
      · exact StepFrom.load hop (p := (.pointer (some ⟨w.heap.size + 1 + 1, 0, none⟩) : Value)) (by kernel_rfl) (load_box X2.out hQS) (by kernel_rfl) hQS (Below.refl _ _) rfl
      refine StepsT.cons (fun (x : Value) (w : World) => TmsFull [tt, ta, tb] x w) [(13, (fun (x : Value) (_ : World) => x = (.agg #[s0, s1, s2, s3, s4] : Value))), (14, (fun (x : Value) (_ : World) => x = (.agg #[p0, p1, p2, p3, p4] : Value))), (15, (fun (x : Value) (_ : World) => x = (.agg #[q0, q1, q2, q3, q4] : Value)))] rfl rfl (fun oq hop _ wq hQS => ?_) ?_
      · refine StepFrom.more_eq ((.agg #[s0, s1, s2, s3, s4] : Value)) ?_
        refine StepFrom.more_eq ((.agg #[p0, p1, p2, p3, p4] : Value)) ?_
        refine StepFrom.more_eq ((.agg #[q0, q1, q2, q3, q4] : Value)) ?_
        exact StepFrom.slice hop (vs := [(0, .agg #[s0, s1, s2, s3, s4]), (1, .agg #[p0, p1, p2, p3, p4]), (2, .agg #[q0, q1, q2, q3, q4])]) (by kernel_rfl) slice_tm3 (by kernel_rfl) (hQS.alloc hQS.size _) ((Below.refl _ _).alloc (Nat.le_refl _) _) (full_three (HT2.out.below hQS hQS.size) (HA2.out.below hQS hQS.size) (HB2.out.below hQS hQS.size))
      refine StepsT.cons (fun (x : Value) (_ : World) => x = (.slice Ab nb cb : Value)) [] rfl rfl (fun oq hop _ wq hQS => ?_) ?_
      · exact StepFrom.move hop (v := (.slice Ab nb cb : Value)) (by kernel_rfl) (by kernel_rfl) hQS (Below.refl _ _) rfl
      refine StepsT.cons (fun (x : Value) (w : World) => TmsV (tt :: ta :: tb :: tby) x w) [(16, (fun (x : Value) (w : World) => TmsFull [tt, ta, tb] x w)), (17, (fun (x : Value) (_ : World) => x = (.slice Ab nb cb : Value)))] rfl rfl (fun oq hop _ wq hQS => ?_) ?_
      · refine StepFrom.more fun x16 h16 => ?_
        obtain h16 := h16
        refine StepFrom.more_eq ((.slice Ab nb cb : Value)) ?_
        obtain ⟨v9, w9, j1, j2, j3⟩ := append_tms oq.type h16 (HBV.out wq hQS) (by simp) (by simp) HN6.out
        exact StepFrom.append hop (vx := x16) (vy := .slice Ab nb cb) (by kernel_rfl) (by kernel_rfl) j1 (by kernel_rfl) (hQS.trans (j2.mono hQS.size)) j2 j3
      refine StepsT.cons (fun (x : Value) (_ : World) => x = (.bool true : Value)) [(18, (fun (x : Value) (w : World) => TmsV (tt :: ta :: tb :: tby) x w))] rfl rfl (fun oq hop _ wq hQS => ?_) ?_
      · refine StepFrom.more fun x18 h18 => ?_
        obtain ⟨A18, c18, rfl, k18⟩ := h18
        exact StepFrom.call hop (vs := [(.slice A18 (tt :: ta :: tb :: tby).length c18 : Value)]) (by kernel_rfl) (fun w => enter_great _ w) (by kernel_rfl) ((HGR.out A18 c18 wq hQS k18).mono fun e w9 h9 => by obtain ⟨q1, q2⟩ := h9; exact ⟨_, q1, hQS.trans (q2.mono hQS.size), q2, rfl⟩)
      refine StepsT.cons (fun (x : Value) (_ : World) => x = (.bool true : Value)) [(19, (fun (x : Value) (_ : World) => x = (.bool true : Value)))] rfl rfl (fun oq hop _ wq hQS => ?_) ?_
      · refine StepFrom.more_eq ((.bool true : Value)) ?_
        exact StepFrom.move hop (v := (.bool true : Value)) (by kernel_rfl) (by kernel_rfl) hQS (Below.refl _ _) rfl
      refine StepsT.cons (fun (x : Value) (_ : World) => x = undef) [(20, (fun (x : Value) (_ : World) => x = (.bool true : Value)))] rfl rfl (fun oq hop _ wq hQS => ?_) ?_
      · refine StepFrom.more_eq ((.bool true : Value)) ?_
        exact StepFrom.off (by kernel_rfl) hQS (Below.refl _ _) rfl
      refine StepsT.cons (fun (x : Value) (_ : World) => x = undef) [(20, (fun (x : Value) (_ : World) => x = (.bool true : Value)))] rfl rfl (fun oq hop _ wq hQS => ?_) ?_
      · refine StepFrom.more_eq ((.bool true : Value)) ?_
        exact StepFrom.off (by kernel_rfl) hQS (Below.refl _ _) rfl
      refine StepsT.cons (fun (x : Value) (_ : World) => x = undef) [(20, (fun (x : Value) (_ : World) => x = (.bool true : Value)))] rfl rfl (fun oq hop _ wq hQS => ?_) ?_
      · refine StepFrom.more_eq ((.bool true : Value)) ?_
        exact StepFrom.off (by kernel_rfl) hQS (Below.refl _ _) rfl
      refine StepsT.cons (fun (x : Value) (_ : World) => x = undef) [(20, (fun (x : Value) (_ : World) => x = (.bool true : Value))), (21, (fun (x : Value) (_ : World) => x = undef)), (22, (fun (x : Value) (_ : World) => x = undef)), (23, (fun (x : Value) (_ : World) => x = undef))] rfl rfl (fun oq hop _ wq hQS => ?_) ?_
      · refine StepFrom.more_eq ((.bool true : Value)) ?_
        refine StepFrom.more_eq (undef) ?_
        refine StepFrom.more_eq (undef) ?_
        refine StepFrom.more_eq (undef) ?_
        exact StepFrom.off (by kernel_rfl) hQS (Below.refl _ _) rfl
      refine StepsT.cons (fun (x : Value) (_ : World) => x = undef) [(20, (fun (x : Value) (_ : World) => x = (.bool true : Value)))] rfl rfl (fun oq hop _ wq hQS => ?_) ?_
      · refine StepFrom.more_eq ((.bool true : Value)) ?_
        exact StepFrom.off (by kernel_rfl) hQS (Below.refl _ _) rfl
      refine StepsT.cons (fun (x : Value) (_ : World) => x = undef) [(20, (fun (x : Value) (_ : World) => x = (.bool true : Value))), (24, (fun (x : Value) (_ : World) => x = undef)), (25, (fun (x : Value) (_ : World) => x = undef))] rfl rfl (fun oq hop _ wq hQS => ?_) ?_
      · refine StepFrom.more_eq ((.bool true : Value)) ?_
        refine StepFrom.more_eq (undef) ?_
        refine StepFrom.more_eq (undef) ?_
        exact StepFrom.off (by kernel_rfl) hQS (Below.refl _ _) rfl
      refine StepsT.cons (fun (x : Value) (_ : World) => x = undef) [(20, (fun (x : Value) (_ : World) => x = (.bool true : Value))), (26, (fun (x : Value) (_ : World) => x = undef))] rfl rfl (fun oq hop _ wq hQS => ?_) ?_
      · refine StepFrom.more_eq ((.bool true : Value)) ?_
        refine StepFrom.more_eq (undef) ?_
        exact StepFrom.off (by kernel_rfl) hQS (Below.refl _ _) rfl
      refine StepsT.cons (fun (x : Value) (_ : World) => x = undef) [(20, (fun (x : Value) (_ : World) => x = (.bool true : Value))), (27, (fun (x : Value) (_ : World) => x = undef))] rfl rfl (fun oq hop _ wq hQS => ?_) ?_
      · refine StepFrom.more_eq ((.bool true : Value)) ?_
        refine StepFrom.more_eq (undef) ?_
        exact StepFrom.off (by kernel_rfl) hQS (Below.refl _ _) rfl
      refine StepsT.cons (fun (x : Value) (_ : World) => x = (.bool true : Value)) [(20, (fun (x : Value) (_ : World) => x = (.bool true : Value))), (28, (fun (x : Value) (_ : World) => x = undef))] rfl rfl (fun oq hop _ wq hQS => ?_) ?_
      · refine StepFrom.more_eq ((.bool true : Value)) ?_
        refine StepFrom.more_eq (undef) ?_
        exact StepFrom.pick hop (b := true) (vx := (Value.bool true : Value)) (vy := undef) (by kernel_rfl) (by kernel_rfl) (by kernel_rfl) (by kernel_rfl) hQS (Below.refl _ _) rfl
      refine StepsT.cons (fun (x : Value) (_ : World) => x = (.bool true : Value)) [(29, (fun (x : Value) (_ : World) => x = (.bool true : Value)))] rfl rfl (fun oq hop _ wq hQS => ?_) ?_
      · refine StepFrom.more_eq ((.bool true : Value)) ?_
        exact StepFrom.move hop (v := (.bool true : Value)) (by kernel_rfl) (by kernel_rfl) hQS (Below.refl _ _) rfl
      refine StepsT.cons (fun (x : Value) (_ : World) => x = undef) [(30, (fun (x : Value) (_ : World) => x = (.bool true : Value)))] rfl rfl (fun oq hop _ wq hQS => ?_) ?_
      · refine StepFrom.more_eq ((.bool true : Value)) ?_
        exact StepFrom.off (by kernel_rfl) hQS (Below.refl _ _) rfl
      refine StepsT.cons (fun (x : Value) (_ : World) => x = undef) [(30, (fun (x : Value) (_ : World) => x = (.bool true : Value)))] rfl rfl (fun oq hop _ wq hQS => ?_) ?_
      · refine StepFrom.more_eq ((.bool true : Value)) ?_
        exact StepFrom.off (by kernel_rfl) hQS (Below.refl _ _) rfl
      refine StepsT.cons (fun (x : Value) (_ : World) => x = undef) [(30, (fun (x : Value) (_ : World) => x = (.bool true : Value))), (31, (fun (x : Value) (_ : World) => x = undef)), (32, (fun (x : Value) (_ : World) => x = undef))] rfl rfl (fun oq hop _ wq hQS => ?_) ?_
      · refine StepFrom.more_eq ((.bool true : Value)) ?_
        refine StepFrom.more_eq (undef) ?_
        refine StepFrom.more_eq (undef) ?_
        exact StepFrom.off (by kernel_rfl) hQS (Below.refl _ _) rfl
      refine StepsT.cons (fun (x : Value) (_ : World) => x = undef) [(30, (fun (x : Value) (_ : World) => x = (.bool true : Value)))] rfl rfl (fun oq hop _ wq hQS => ?_) ?_
      · refine StepFrom.more_eq ((.bool true : Value)) ?_
        exact StepFrom.off (by kernel_rfl) hQS (Below.refl _ _) rfl
      refine StepsT.cons (fun (x : Value) (_ : World) => x = undef) [(30, (fun (x : Value) (_ : World) => x = (.bool true : Value)))] rfl rfl (fun oq hop _ wq hQS => ?_) ?_
      · refine StepFrom.more_eq ((.bool true : Value)) ?_
        exact StepFrom.off (by kernel_rfl) hQS (Below.refl _ _) rfl
      refine StepsT.cons (fun (x : Value) (_ : World) => x = undef) [(30, (fun (x : Value) (_ : World) => x = (.bool true : Value))), (34, (fun (x : Value) (_ : World) => x = undef)), (35, (fun (x : Value) (_ : World) => x = undef))] rfl rfl (fun oq hop _ wq hQS => ?_) ?_
      · refine StepFrom.more_eq ((.bool true : Value)) ?_
        refine StepFrom.more_eq (undef) ?_
        refine StepFrom.more_eq (undef) ?_
        exact StepFrom.off (by kernel_rfl) hQS (Below.refl _ _) rfl
      refine StepsT.cons (fun (x : Value) (_ : World) => x = undef) [(30, (fun (x : Value) (_ : World) => x = (.bool true : Value))), (33, (fun (x : Value) (_ : World) => x = undef)), (36, (fun (x : Value) (_ : World) => x = undef))] rfl rfl (fun oq hop _ wq hQS => ?_) ?_
      · refine StepFrom.more_eq ((.bool true : Value)) ?_
        refine StepFrom.more_eq (undef) ?_
        refine StepFrom.more_eq (undef) ?_
        exact StepFrom.off (by kernel_rfl) hQS (Below.refl _ _) rfl
      refine StepsT.cons (fun (x : Value) (_ : World) => x = undef) [(30, (fun (x : Value) (_ : World) => x = (.bool true : Value))), (37, (fun (x : Value) (_ : World) => x = undef))] rfl rfl (fun oq hop _ wq hQS => ?_) ?_
      · refine StepFrom.more_eq ((.bool true : Value)) ?_
        refine StepFrom.more_eq (undef) ?_
        exact StepFrom.off (by kernel_rfl) hQS (Below.refl _ _) rfl
      refine StepsT.cons (fun (x : Value) (_ : World) => x = (.bool true : Value)) [(30, (fun (x : Value) (_ : World) => x = (.bool true : Value))), (38, (fun (x : Value) (_ : World) => x = undef))] rfl rfl (fun oq hop _ wq hQS => ?_) ?_
      · refine StepFrom.more_eq ((.bool true : Value)) ?_
        refine StepFrom.more_eq (undef) ?_
        exact StepFrom.pick hop (b := true) (vx := (Value.bool true : Value)) (vy := undef) (by kernel_rfl) (by kernel_rfl) (by kernel_rfl) (by kernel_rfl) hQS (Below.refl _ _) rfl
      exact StepsT.nil
    case hfin =>
      intro wf hFS
      refine FinalFrom.more fun x13 h13 => ?_
      refine FinalFrom.more fun x14 h14 => ?_
      refine FinalFrom.more fun x15 h15 => ?_
      refine FinalFrom.more fun x16 h16 => ?_
      refine FinalFrom.more fun x17 h17 => ?_
      refine FinalFrom.more fun x18 h18 => ?_
      refine FinalFrom.more fun x19 h19 => ?_
      refine FinalFrom.more fun x20 h20 => ?_
      refine FinalFrom.more fun x21 h21 => ?_
      refine FinalFrom.more fun x22 h22 => ?_
      refine FinalFrom.more fun x23 h23 => ?_
      refine FinalFrom.more fun x24 h24 => ?_
      refine FinalFrom.more fun x25 h25 => ?_
      refine FinalFrom.more fun x26 h26 => ?_
      refine FinalFrom.more fun x27 h27 => ?_
      refine FinalFrom.more fun x28 h28 => ?_
      refine FinalFrom.more fun x29 h29 => ?_
      refine FinalFrom.more fun x30 h30 => ?_
      refine FinalFrom.more fun x31 h31 => ?_
      refine FinalFrom.more fun x32 h32 => ?_
      refine FinalFrom.more fun x33 h33 => ?_
      refine FinalFrom.more fun x34 h34 => ?_
      refine FinalFrom.more fun x35 h35 => ?_
      refine FinalFrom.more fun x36 h36 => ?_
      refine FinalFrom.more fun x37 h37 => ?_
      refine FinalFrom.more fun x38 h38 => ?_
      refine FinalFrom.more fun x39 h39 => ?_
      refine FinalFrom.done ?_
      rw [show x39 = .bool true from h39]

      have HF : Hid (HasPost w true (.returned (.bool true)) wf) := ⟨rfl, HEND.out wf hFS⟩
      clear hS hFS
      simp only [Act.put, List.setIfInBounds_toArray, List.set_cons_zero, List.set_cons_succ]
      go_wp2
      go_ret
      exact HF.out
  | false =>
    cases tm with
    | false =>
      go_upto_region 3 with (fail)
      refine wp_region_tab (fun w' => Below w2.heap.size w2 w') (fun w1 w2 : World => Below w1.heap.size w1 w2) [(fun (x : Value) (_ : World) => x = (.agg #[s0, s1, s2, s3, s4] : Value)), (fun (x : Value) (_ : World) => x = (.agg #[p0, p1, p2, p3, p4] : Value)), (fun (x : Value) (_ : World) => x = (.agg #[q0, q1, q2, q3, q4] : Value)), (fun (x : Value) (w : World) => TmsFull [tt, ta, tb] x w), (fun (x : Value) (_ : World) => x = (.slice Ab nb cb : Value)), (fun (x : Value) (w : World) => TmsV (tt :: ta :: tb :: tby) x w), (fun (x : Value) (_ : World) => x = (.bool false : Value)), (fun (x : Value) (_ : World) => x = (.bool false : Value)), (fun (x : Value) (_ : World) => x = (.agg #[s0, s1, s2, s3, s4] : Value)), (fun (x : Value) (_ : World) => x = (.agg #[p0, p1, p2, p3, p4] : Value)), (fun (x : Value) (_ : World) => x = (.agg #[q0, q1, q2, q3, q4] : Value)), (fun (x : Value) (w : World) => TmsFull [tt, ta, tb] x w), (fun (x : Value) (_ : World) => x = (.slice Ab nb cb : Value)), (fun (x : Value) (w : World) => TmsV (tt :: ta :: tb :: tby) x w), (fun (x : Value) (_ : World) => x = (.bool false : Value)), (fun (x : Value) (_ : World) => x = (.bool true : Value)), (fun (x : Value) (_ : World) => x = (.bool true : Value)), (fun (x : Value) (_ : World) => x = (.bool true : Value)), (fun (x : Value) (_ : World) => x = undef), (fun (x : Value) (_ : World) => x = undef), (fun (x : Value) (_ : World) => x = undef), (fun (x : Value) (_ : World) => x = undef), (fun (x : Value) (_ : World) => x = undef), (fun (x : Value) (_ : World) => x = undef), (fun (x : Value) (_ : World) => x = undef), (fun (x : Value) (_ : World) => x = undef), (fun (x : Value) (_ : World) => x = (.bool true : Value))] [⟨some 13, .load 26 (.tmp 4), none, []⟩, ⟨some 14, .load 26 (.tmp 5), none, []⟩, ⟨some 15, .load 26 (.tmp 6), none, []⟩, ⟨some 16, .buildSlice 24 3 #[(0, .tmp 13), (1, .tmp 14), (2, .tmp 15)], none, [(13, 0), (14, 1), (15, 2)]⟩, ⟨some 17, .move (.tmp 3), none, []⟩, ⟨some 18, .call { callee := .builtin .append, args := #[.tmp 16, .tmp 17], argTypes := #[24, 24] }, none, [(16, 3), (17, 4)]⟩, ⟨some 19, .call { callee := .value (.func 6), args := #[.tmp 18], argTypes := #[24] }, none, [(18, 5)]⟩, ⟨some 20, .move (.tmp 19), none, [(19, 6)]⟩, ⟨some 21, .load 26 (.tmp 4), some (some 20, false), [(20, 7)]⟩, ⟨some 22, .load 26 (.tmp 5), some (some 20, false), [(20, 7)]⟩, ⟨some 23, .load 26 (.tmp 6), some (some 20, false), [(20, 7)]⟩, ⟨some 24, .buildSlice 24 3 #[(0, .tmp 21), (1, .tmp 22), (2, .tmp 23)], some (some 20, false), [(20, 7), (21, 8), (22, 9), (23, 10)]⟩, ⟨some 25, .move (.tmp 3), some (some 20, false), [(20, 7)]⟩, ⟨some 26, .call { callee := .builtin .append, args := #[.tmp 24, .tmp 25], argTypes := #[24, 24] }, some (some 20, false), [(20, 7), (24, 11), (25, 12)]⟩, ⟨some 27, .call { callee := .value (.func 7), args := #[.tmp 26], argTypes := #[24] }, some (some 20, false), [(20, 7), (26, 13)]⟩, ⟨some 28, .unOp .not 4 (.tmp 27), some (some 20, false), [(20, 7), (27, 14)]⟩, ⟨some 29, .pick (.tmp 20) (.const (Value.bool true)) (.tmp 28), none, [(20, 7), (28, 15)]⟩, ⟨some 30, .move (.tmp 29), none, [(29, 16)]⟩, ⟨some 31, .load 26 (.tmp 4), some (some 30, false), [(30, 17)]⟩, ⟨some 32, .load 26 (.tmp 5), some (some 30, false), [(30, 17)]⟩, ⟨some 33, .call { callee := .value (.func 8), args := #[.tmp 31, .tmp 32], argTypes := #[26, 26] }, some (some 30, false), [(30, 17), (31, 18), (32, 19)]⟩, ⟨some 34, .load 26 (.tmp 6), some (some 30, false), [(30, 17)]⟩, ⟨some 35, .load 26 (.tmp 5), some (some 30, false), [(30, 17)]⟩, ⟨some 36, .call { callee := .value (.func 8), args := #[.tmp 34, .tmp 35], argTypes := #[26, 26] }, some (some 30, false), [(30, 17), (34, 21), (35, 22)]⟩, ⟨some 37, .binOp .mul 3 (.tmp 33) (.tmp 36) 3, some (some 30, false), [(30, 17), (33, 20), (36, 23)]⟩, ⟨some 38, .binOp .gtr 3 (.tmp 37) (.const (.int .i64 36000)) 3, some (some 30, false), [(30, 17), (37, 24)]⟩, ⟨some 39, .pick (.tmp 30) (.const (Value.bool true)) (.tmp 38), none, [(30, 17), (38, 25)]⟩] [some 13, some 14, some 15, some 16, some 17, some 18, some 19, some 20, some 21, some 22, some 23, some 24, some 25, some 26, some 27, some 28, some 29, some 30, some 31, some 32, some 33, some 34, some 35, some 36, some 37, some 38, some 39] (by kernel_rfl) (by kernel_rfl) (by kernel_rfl) (by kernel_rfl) (by kernel_rfl) ?hS ?hmono ?hsteps ?hfin
      case hS => exact hS
      case hmono =>
        refine MonoL.cons (fun x w1 w2 _ _ _ hx => hx) ?_
        refine MonoL.cons (fun x w1 w2 _ _ _ hx => hx) ?_
        refine MonoL.cons (fun x w1 w2 _ _ _ hx => hx) ?_
        refine MonoL.cons (fun x w1 w2 _ _ hR hx => ?_) ?_
        · exact hx.mono hR
        refine MonoL.cons (fun x w1 w2 _ _ _ hx => hx) ?_
        refine MonoL.cons (fun x w1 w2 _ _ hR hx => ?_) ?_
        · exact hx.mono hR
        refine MonoL.cons (fun x w1 w2 _ _ _ hx => hx) ?_
        refine MonoL.cons (fun x w1 w2 _ _ _ hx => hx) ?_
        refine MonoL.cons (fun x w1 w2 _ _ _ hx => hx) ?_
        refine MonoL.cons (fun x w1 w2 _ _ _ hx => hx) ?_
        refine MonoL.cons (fun x w1 w2 _ _ _ hx => hx) ?_
        refine MonoL.cons (fun x w1 w2 _ _ hR hx => ?_) ?_
        · exact hx.mono hR
        refine MonoL.cons (fun x w1 w2 _ _ _ hx => hx) ?_
        refine MonoL.cons (fun x w1 w2 _ _ hR hx => ?_) ?_
        · exact hx.mono hR
        refine MonoL.cons (fun x w1 w2 _ _ _ hx => hx) ?_
        refine MonoL.cons (fun x w1 w2 _ _ _ hx => hx) ?_
        refine MonoL.cons (fun x w1 w2 _ _ _ hx => hx) ?_
        refine MonoL.cons (fun x w1 w2 _ _ _ hx => hx) ?_
        refine MonoL.cons (fun x w1 w2 _ _ _ hx => hx) ?_
        refine MonoL.cons (fun x w1 w2 _ _ _ hx => hx) ?_
        refine MonoL.cons (fun x w1 w2 _ _ _ hx => hx) ?_
        refine MonoL.cons (fun x w1 w2 _ _ _ hx => hx) ?_
        refine MonoL.cons (fun x w1 w2 _ _ _ hx => hx) ?_
        refine MonoL.cons (fun x w1 w2 _ _ _ hx => hx) ?_
        refine MonoL.cons (fun x w1 w2 _ _ _ hx => hx) ?_
        refine MonoL.cons (fun x w1 w2 _ _ _ hx => hx) ?_
        refine MonoL.cons (fun x w1 w2 _ _ _ hx => hx) ?_
        exact MonoL.nil
      case hsteps =>
        refine StepsT.cons (fun (x : Value) (_ : World) => x = (.agg #[s0, s1, s2, s3, s4] : Value)) [] rfl rfl (fun oq hop _ wq hQS => ?_) ?_
        · exact StepFrom.load hop (p := (.pointer (some ⟨w.heap.size, 0, none⟩) : Value)) (by kernel_rfl) (load_box X0.out hQS) (by kernel_rfl) hQS (Below.refl _ _) rfl
        refine StepsT.cons (fun (x : Value) (_ : World) => x = (.agg #[p0, p1, p2, p3, p4] : Value)) [] rfl rfl (fun oq hop _ wq hQS => ?_) ?_
        · exact StepFrom.load hop (p := (.pointer (some ⟨w.heap.size + 1, 0, none⟩) : Value)) (by kernel_rfl) (load_box X1.out hQS) (by kernel_rfl) hQS (Below.refl _ _) rfl
        refine StepsT.cons (fun (x : Value) (_ : World) => x = (.agg #[q0, q1, q2, q3, q4] : Value)) [] rfl rfl (fun oq hop _ wq hQS => ?_) ?_
        · exact StepFrom.load hop (p := (.pointer (some ⟨w.heap.size + 1 + 1, 0, none⟩) : Value)) (by kernel_rfl) (load_box X2.out hQS) (by kernel_rfl) hQS (Below.refl _ _) rfl
        refine StepsT.cons (fun (x : Value) (w : World) => TmsFull [tt, ta, tb] x w) [(13, (fun (x : Value) (_ : World) => x = (.agg #[s0, s1, s2, s3, s4] : Value))), (14, (fun (x : Value) (_ : World) => x = (.agg #[p0, p1, p2, p3, p4] : Value))), (15, (fun (x : Value) (_ : World) => x = (.agg #[q0, q1, q2, q3, q4] : Value)))] rfl rfl (fun oq hop _ wq hQS => ?_) ?_
        · refine StepFrom.more_eq ((.agg #[s0, s1, s2, s3, s4] : Value)) ?_
          refine StepFrom.more_eq ((.agg #[p0, p1, p2, p3, p4] : Value)) ?_
          refine StepFrom.more_eq ((.agg #[q0, q1, q2, q3, q4] : Value)) ?_
          exact StepFrom.slice hop (vs := [(0, .agg #[s0, s1, s2, s3, s4]), (1, .agg #[p0, p1, p2, p3, p4]), (2, .agg #[q0, q1, q2, q3, q4])]) (by kernel_rfl) slice_tm3 (by kernel_rfl) (hQS.alloc hQS.size _) ((Below.refl _ _).alloc (Nat.le_refl _) _) (full_three (HT2.out.below hQS hQS.size) (HA2.out.below hQS hQS.size) (HB2.out.below hQS hQS.size))
        refine StepsT.cons (fun (x : Value) (_ : World) => x = (.slice Ab nb cb : Value)) [] rfl rfl (fun oq hop _ wq hQS => ?_) ?_
        · exact StepFrom.move hop (v := (.slice Ab nb cb : Value)) (by kernel_rfl) (by kernel_rfl) hQS (Below.refl _ _) rfl
        refine StepsT.cons (fun (x : Value) (w : World) => TmsV (tt :: ta :: tb :: tby) x w) [(16, (fun (x : Value) (w : World) => TmsFull [tt, ta, tb] x w)), (17, (fun (x : Value) (_ : World) => x = (.slice Ab nb cb : Value)))] rfl rfl (fun oq hop _ wq hQS => ?_) ?_
        · refine StepFrom.more fun x16 h16 => ?_
          obtain h16 := h16
          refine StepFrom.more_eq ((.slice Ab nb cb : Value)) ?_
          obtain ⟨v9, w9, j1, j2, j3⟩ := append_tms oq.type h16 (HBV.out wq hQS) (by simp) (by simp) HN6.out
          exact StepFrom.append hop (vx := x16) (vy := .slice Ab nb cb) (by kernel_rfl) (by kernel_rfl) j1 (by kernel_rfl) (hQS.trans (j2.mono hQS.size)) j2 j3
        refine StepsT.cons (fun (x : Value) (_ : World) => x = (.bool false : Value)) [(18, (fun (x : Value) (w : World) => TmsV (tt :: ta :: tb :: tby) x w))] rfl rfl (fun oq hop _ wq hQS => ?_) ?_
        · refine StepFrom.more fun x18 h18 => ?_
          obtain ⟨A18, c18, rfl, k18⟩ := h18
          exact StepFrom.call hop (vs := [(.slice A18 (tt :: ta :: tb :: tby).length c18 : Value)]) (by kernel_rfl) (fun w => enter_great _ w) (by kernel_rfl) ((HGR.out A18 c18 wq hQS k18).mono fun e w9 h9 => by obtain ⟨q1, q2⟩ := h9; exact ⟨_, q1, hQS.trans (q2.mono hQS.size), q2, rfl⟩)
        refine StepsT.cons (fun (x : Value) (_ : World) => x = (.bool false : Value)) [(19, (fun (x : Value) (_ : World) => x = (.bool false : Value)))] rfl rfl (fun oq hop _ wq hQS => ?_) ?_
        · refine StepFrom.more_eq ((.bool false : Value)) ?_
          exact StepFrom.move hop (v := (.bool false : Value)) (by kernel_rfl) (by kernel_rfl) hQS (Below.refl _ _) rfl
        refine StepsT.cons (fun (x : Value) (_ : World) => x = (.agg #[s0, s1, s2, s3, s4] : Value)) [(20, (fun (x : Value) (_ : World) => x = (.bool false : Value)))] rfl rfl (fun oq hop _ wq hQS => ?_) ?_
        · refine StepFrom.more_eq ((.bool false : Value)) ?_
          exact StepFrom.load hop (p := (.pointer (some ⟨w.heap.size, 0, none⟩) : Value)) (by kernel_rfl) (load_box X0.out hQS) (by kernel_rfl) hQS (Below.refl _ _) rfl
        refine StepsT.cons (fun (x : Value) (_ : World) => x = (.agg #[p0, p1, p2, p3, p4] : Value)) [(20, (fun (x : Value) (_ : World) => x = (.bool false : Value)))] rfl rfl (fun oq hop _ wq hQS => ?_) ?_
        · refine StepFrom.more_eq ((.bool false : Value)) ?_
          exact StepFrom.load hop (p := (.pointer (some ⟨w.heap.size + 1, 0, none⟩) : Value)) (by kernel_rfl) (load_box X1.out hQS) (by kernel_rfl) hQS (Below.refl _ _) rfl
        refine StepsT.cons (fun (x : Value) (_ : World) => x = (.agg #[q0, q1, q2, q3, q4] : Value)) [(20, (fun (x : Value) (_ : World) => x = (.bool false : Value)))] rfl rfl (fun oq hop _ wq hQS => ?_) ?_
        · refine StepFrom.more_eq ((.bool false : Value)) ?_
          exact StepFrom.load hop (p := (.pointer (some ⟨w.heap.size + 1 + 1, 0, none⟩) : Value)) (by kernel_rfl) (load_box X2.out hQS) (by kernel_rfl) hQS (Below.refl _ _) rfl
        refine StepsT.cons (fun (x : Value) (w : World) => TmsFull [tt, ta, tb] x w) [(20, (fun (x : Value) (_ : World) => x = (.bool false : Value))), (21, (fun (x : Value) (_ : World) => x = (.agg #[s0, s1, s2, s3, s4] : Value))), (22, (fun (x : Value) (_ : World) => x = (.agg #[p0, p1, p2, p3, p4] : Value))), (23, (fun (x : Value) (_ : World) => x = (.agg #[q0, q1, q2, q3, q4] : Value)))] rfl rfl (fun oq hop _ wq hQS => ?_) ?_
        · refine StepFrom.more_eq ((.bool false : Value)) ?_
          refine StepFrom.more_eq ((.agg #[s0, s1, s2, s3, s4] : Value)) ?_
          refine StepFrom.more_eq ((.agg #[p0, p1, p2, p3, p4] : Value)) ?_
          refine StepFrom.more_eq ((.agg #[q0, q1, q2, q3, q4] : Value)) ?_
          exact StepFrom.slice hop (vs := [(0, .agg #[s0, s1, s2, s3, s4]), (1, .agg #[p0, p1, p2, p3, p4]), (2, .agg #[q0, q1, q2, q3, q4])]) (by kernel_rfl) slice_tm3 (by kernel_rfl) (hQS.alloc hQS.size _) ((Below.refl _ _).alloc (Nat.le_refl _) _) (full_three (HT2.out.below hQS hQS.size) (HA2.out.below hQS hQS.size) (HB2.out.below hQS hQS.size))
        refine StepsT.cons (fun (x : Value) (_ : World) => x = (.slice Ab nb cb : Value)) [(20, (fun (x : Value) (_ : World) => x = (.bool false : Value)))] rfl rfl (fun oq hop _ wq hQS => ?_) ?_
        · refine StepFrom.more_eq ((.bool false : Value)) ?_
          exact StepFrom.move hop (v := (.slice Ab nb cb : Value)) (by kernel_rfl) (by kernel_rfl) hQS (Below.refl _ _) rfl
        refine StepsT.cons (fun (x : Value) (w : World) => TmsV (tt :: ta :: tb :: tby) x w) [(20, (fun (x : Value) (_ : World) => x = (.bool false : Value))), (24, (fun (x : Value) (w : World) => TmsFull [tt, ta, tb] x w)), (25, (fun (x : Value) (_ : World) => x = (.slice Ab nb cb : Value)))] rfl rfl (fun oq hop _ wq hQS => ?_) ?_
        · refine StepFrom.more_eq ((.bool false : Value)) ?_
          refine StepFrom.more fun x24 h24 => ?_
          obtain h24 := h24
          refine StepFrom.more_eq ((.slice Ab nb cb : Value)) ?_
          obtain ⟨v9, w9, j1, j2, j3⟩ := append_tms oq.type h24 (HBV.out wq hQS) (by simp) (by simp) HN6.out
          exact StepFrom.append hop (vx := x24) (vy := .slice Ab nb cb) (by kernel_rfl) (by kernel_rfl) j1 (by kernel_rfl) (hQS.trans (j2.mono hQS.size)) j2 j3
        refine StepsT.cons (fun (x : Value) (_ : World) => x = (.bool false : Value)) [(20, (fun (x : Value) (_ : World) => x = (.bool false : Value))), (26, (fun (x : Value) (w : World) => TmsV (tt :: ta :: tb :: tby) x w))] rfl rfl (fun oq hop _ wq hQS => ?_) ?_
        · refine StepFrom.more_eq ((.bool false : Value)) ?_
          refine StepFrom.more fun x26 h26 => ?_
          obtain ⟨A26, c26, rfl, k26⟩ := h26
          exact StepFrom.call hop (vs := [(.slice A26 (tt :: ta :: tb :: tby).length c26 : Value)]) (by kernel_rfl) (fun w => enter_tame _ w) (by kernel_rfl) ((HTM.out A26 c26 wq hQS k26).mono fun e w9 h9 => by obtain ⟨q1, q2⟩ := h9; exact ⟨_, q1, hQS.trans (q2.mono hQS.size), q2, rfl⟩)
        refine StepsT.cons (fun (x : Value) (_ : World) => x = (.bool true : Value)) [(20, (fun (x : Value) (_ : World) => x = (.bool false : Value))), (27, (fun (x : Value) (_ : World) => x = (.bool false : Value)))] rfl rfl (fun oq hop _ wq hQS => ?_) ?_
        · refine StepFrom.more_eq ((.bool false : Value)) ?_
          refine StepFrom.more_eq ((.bool false : Value)) ?_
          exact StepFrom.not hop (b := false) (by kernel_rfl) (by kernel_rfl) hQS (Below.refl _ _) rfl
        refine StepsT.cons (fun (x : Value) (_ : World) => x = (.bool true : Value)) [(20, (fun (x : Value) (_ : World) => x = (.bool false : Value))), (28, (fun (x : Value) (_ : World) => x = (.bool true : Value)))] rfl rfl (fun oq hop _ wq hQS => ?_) ?_
        · refine StepFrom.more_eq ((.bool false : Value)) ?_
          refine StepFrom.more_eq ((.bool true : Value)) ?_
          exact StepFrom.pick hop (b := false) (vx := (Value.bool true : Value)) (vy := (.bool true : Value)) (by kernel_rfl) (by kernel_rfl) (by kernel_rfl) (by kernel_rfl) hQS (Below.refl _ _) rfl
        refine StepsT.cons (fun (x : Value) (_ : World) => x = (.bool true : Value)) [(29, (fun (x : Value) (_ : World) => x = (.bool true : Value)))] rfl rfl (fun oq hop _ wq hQS => ?_) ?_
        · refine StepFrom.more_eq ((.bool true : Value)) ?_
          exact StepFrom.move hop (v := (.bool true : Value)) (by kernel_rfl) (by kernel_rfl) hQS (Below.refl _ _) rfl
        refine StepsT.cons (fun (x : Value) (_ : World) => x = undef) [(30, (fun (x : Value) (_ : World) => x = (.bool true : Value)))] rfl rfl (fun oq hop _ wq hQS => ?_) ?_
        · refine StepFrom.more_eq ((.bool true : Value)) ?_
          exact StepFrom.off (by kernel_rfl) hQS (Below.refl _ _) rfl
        refine StepsT.cons (fun (x : Value) (_ : World) => x = undef) [(30, (fun (x : Value) (_ : World) => x = (.bool true : Value)))] rfl rfl (fun oq hop _ wq hQS => ?_) ?_
        · refine StepFrom.more_eq ((.bool true : Value)) ?_
          exact StepFrom.off (by kernel_rfl) hQS (Below.refl _ _) rfl
        refine StepsT.cons (fun (x : Value) (_ : World) => x = undef) [(30, (fun (x : Value) (_ : World) => x = (.bool true : Value))), (31, (fun (x : Value) (_ : World) => x = undef)), (32, (fun (x : Value) (_ : World) => x = undef))] rfl rfl (fun oq hop _ wq hQS => ?_) ?_
        · refine StepFrom.more_eq ((.bool true : Value)) ?_
          refine StepFrom.more_eq (undef) ?_
          refine StepFrom.more_eq (undef) ?_
          exact StepFrom.off (by kernel_rfl) hQS (Below.refl _ _) rfl
        refine StepsT.cons (fun (x : Value) (_ : World) => x = undef) [(30, (fun (x : Value) (_ : World) => x = (.bool true : Value)))] rfl rfl (fun oq hop _ wq hQS => ?_) ?_
        · refine StepFrom.more_eq ((.bool true : Value)) ?_
          exact StepFrom.off (by kernel_rfl) hQS (Below.refl _ _) rfl
        refine StepsT.cons (fun (x : Value) (_ : World) => x = undef) [(30, (fun (x : Value) (_ : World) => x = (.bool true : Value)))] rfl rfl (fun oq hop _ wq hQS => ?_) ?_
        · refine StepFrom.more_eq ((.bool true : Value)) ?_
          exact StepFrom.off (by kernel_rfl) hQS (Below.refl _ _) rfl
        refine StepsT.cons (fun (x : Value) (_ : World) => x = undef) [(30, (fun (x : Value) (_ : World) => x = (.bool true : Value))), (34, (fun (x : Value) (_ : World) => x = undef)), (35, (fun (x : Value) (_ : World) => x = undef))] rfl rfl (fun oq hop _ wq hQS => ?_) ?_
        · refine StepFrom.more_eq ((.bool true : Value)) ?_
          refine StepFrom.more_eq (undef) ?_
          refine StepFrom.more_eq (undef) ?_
          exact StepFrom.off (by kernel_rfl) hQS (Below.refl _ _) rfl
        refine StepsT.cons (fun (x : Value) (_ : World) => x = undef) [(30, (fun (x : Value) (_ : World) => x = (.bool true : Value))), (33, (fun (x : Value) (_ : World) => x = undef)), (36, (fun (x : Value) (_ : World) => x = undef))] rfl rfl (fun oq hop _ wq hQS => ?_) ?_
        · refine StepFrom.more_eq ((.bool true : Value)) ?_
          refine StepFrom.more_eq (undef) ?_
          refine StepFrom.more_eq (undef) ?_
          exact StepFrom.off (by kernel_rfl) hQS (Below.refl _ _) rfl
        refine StepsT.cons (fun (x : Value) (_ : World) => x = undef) [(30, (fun (x : Value) (_ : World) => x = (.bool true : Value))), (37, (fun (x : Value) (_ : World) => x = undef))] rfl rfl (fun oq hop _ wq hQS => ?_) ?_
        · refine StepFrom.more_eq ((.bool true : Value)) ?_
          refine StepFrom.more_eq (undef) ?_
          exact StepFrom.off (by kernel_rfl) hQS (Below.refl _ _) rfl
        refine StepsT.cons (fun (x : Value) (_ : World) => x = (.bool true : Value)) [(30, (fun (x : Value) (_ : World) => x = (.bool true : Value))), (38, (fun (x : Value) (_ : World) => x = undef))] rfl rfl (fun oq hop _ wq hQS => ?_) ?_
        · refine StepFrom.more_eq ((.bool true : Value)) ?_
          refine StepFrom.more_eq (undef) ?_
          exact StepFrom.pick hop (b := true) (vx := (Value.bool true : Value)) (vy := undef) (by kernel_rfl) (by kernel_rfl) (by kernel_rfl) (by kernel_rfl) hQS (Below.refl _ _) rfl
        exact StepsT.nil
      case hfin =>
        intro wf hFS
        refine FinalFrom.more fun x13 h13 => ?_
        refine FinalFrom.more fun x14 h14 => ?_
        refine FinalFrom.more fun x15 h15 => ?_
        refine FinalFrom.more fun x16 h16 => ?_
        refine FinalFrom.more fun x17 h17 => ?_
        refine FinalFrom.more fun x18 h18 => ?_
        refine FinalFrom.more fun x19 h19 => ?_
        refine FinalFrom.more fun x20 h20 => ?_
        refine FinalFrom.more fun x21 h21 => ?_
        refine FinalFrom.more fun x22 h22 => ?_
        refine FinalFrom.more fun x23 h23 => ?_
        refine FinalFrom.more fun x24 h24 => ?_
        refine FinalFrom.more fun x25 h25 => ?_
        refine FinalFrom.more fun x26 h26 => ?_
        refine FinalFrom.more fun x27 h27 => ?_
        refine FinalFrom.more fun x28 h28 => ?_
        refine FinalFrom.more fun x29 h29 => ?_
        refine FinalFrom.more fun x30 h30 => ?_
        refine FinalFrom.more fun x31 h31 => ?_
        refine FinalFrom.more fun x32 h32 => ?_
        refine FinalFrom.more fun x33 h33 => ?_
        refine FinalFrom.more fun x34 h34 => ?_
        refine FinalFrom.more fun x35 h35 => ?_
        refine FinalFrom.more fun x36 h36 => ?_
        refine FinalFrom.more fun x37 h37 => ?_
        refine FinalFrom.more fun x38 h38 => ?_
        refine FinalFrom.more fun x39 h39 => ?_
        refine FinalFrom.done ?_
        rw [show x39 = .bool true from h39]

        have HF : Hid (HasPost w true (.returned (.bool true)) wf) := ⟨rfl, HEND.out wf hFS⟩
        clear hS hFS
        simp only [Act.put, List.setIfInBounds_toArray, List.set_cons_zero, List.set_cons_succ]
        go_wp2
        go_ret
        exact HF.out
    | true =>
      cases tx with
      | true =>
        go_upto_region 3 with (fail)
        refine wp_region_tab (fun w' => Below w2.heap.size w2 w') (fun w1 w2 : World => Below w1.heap.size w1 w2) [(fun (x : Value) (_ : World) => x = (.agg #[s0, s1, s2, s3, s4] : Value)), (fun (x : Value) (_ : World) => x = (.agg #[p0, p1, p2, p3, p4] : Value)), (fun (x : Value) (_ : World) => x = (.agg #[q0, q1, q2, q3, q4] : Value)), (fun (x : Value) (w : World) => TmsFull [tt, ta, tb] x w), (fun (x : Value) (_ : World) => x = (.slice Ab nb cb : Value)), (fun (x : Value) (w : World) => TmsV (tt :: ta :: tb :: tby) x w), (fun (x : Value) (_ : World) => x = (.bool false : Value)), (fun (x : Value) (_ : World) => x = (.bool false : Value)), (fun (x : Value) (_ : World) => x = (.agg #[s0, s1, s2, s3, s4] : Value)), (fun (x : Value) (_ : World) => x = (.agg #[p0, p1, p2, p3, p4] : Value)), (fun (x : Value) (_ : World) => x = (.agg #[q0, q1, q2, q3, q4] : Value)), (fun (x : Value) (w : World) => TmsFull [tt, ta, tb] x w), (fun (x : Value) (_ : World) => x = (.slice Ab nb cb : Value)), (fun (x : Value) (w : World) => TmsV (tt :: ta :: tb :: tby) x w), (fun (x : Value) (_ : World) => x = (.bool true : Value)), (fun (x : Value) (_ : World) => x = (.bool false : Value)), (fun (x : Value) (_ : World) => x = (.bool false : Value)), (fun (x : Value) (_ : World) => x = (.bool false : Value)), (fun (x : Value) (_ : World) => x = (.agg #[s0, s1, s2, s3, s4] : Value)), (fun (x : Value) (_ : World) => x = (.agg #[p0, p1, p2, p3, p4] : Value)), (fun (x : Value) (_ : World) => x = (.int .i64 T1 : Value)), (fun (x : Value) (_ : World) => x = (.agg #[q0, q1, q2, q3, q4] : Value)), (fun (x : Value) (_ : World) => x = (.agg #[p0, p1, p2, p3, p4] : Value)), (fun (x : Value) (_ : World) => x = (.int .i64 T2 : Value)), (fun (x : Value) (_ : World) => x = (.int .i64 T3 : Value)), (fun (x : Value) (_ : World) => x = (.bool true : Value)), (fun (x : Value) (_ : World) => x = (.bool true : Value))] [⟨some 13, .load 26 (.tmp 4), none, []⟩, ⟨some 14, .load 26 (.tmp 5), none, []⟩, ⟨some 15, .load 26 (.tmp 6), none, []⟩, ⟨some 16, .buildSlice 24 3 #[(0, .tmp 13), (1, .tmp 14), (2, .tmp 15)], none, [(13, 0), (14, 1), (15, 2)]⟩, ⟨some 17, .move (.tmp 3), none, []⟩, ⟨some 18, .call { callee := .builtin .append, args := #[.tmp 16, .tmp 17], argTypes := #[24, 24] }, none, [(16, 3), (17, 4)]⟩, ⟨some 19, .call { callee := .value (.func 6), args := #[.tmp 18], argTypes := #[24] }, none, [(18, 5)]⟩, ⟨some 20, .move (.tmp 19), none, [(19, 6)]⟩, ⟨some 21, .load 26 (.tmp 4), some (some 20, false), [(20, 7)]⟩, ⟨some 22, .load 26 (.tmp 5), some (some 20, false), [(20, 7)]⟩, ⟨some 23, .load 26 (.tmp 6), some (some 20, false), [(20, 7)]⟩, ⟨some 24, .buildSlice 24 3 #[(0, .tmp 21), (1, .tmp 22), (2, .tmp 23)], some (some 20, false), [(20, 7), (21, 8), (22, 9), (23, 10)]⟩, ⟨some 25, .move (.tmp 3), some (some 20, false), [(20, 7)]⟩, ⟨some 26, .call { callee := .builtin .append, args := #[.tmp 24, .tmp 25], argTypes := #[24, 24] }, some (some 20, false), [(20, 7), (24, 11), (25, 12)]⟩, ⟨some 27, .call { callee := .value (.func 7), args := #[.tmp 26], argTypes := #[24] }, some (some 20, false), [(20, 7), (26, 13)]⟩, ⟨some 28, .unOp .not 4 (.tmp 27), some (some 20, false), [(20, 7), (27, 14)]⟩, ⟨some 29, .pick (.tmp 20) (.const (Value.bool true)) (.tmp 28), none, [(20, 7), (28, 15)]⟩, ⟨some 30, .move (.tmp 29), none, [(29, 16)]⟩, ⟨some 31, .load 26 (.tmp 4), some (some 30, false), [(30, 17)]⟩, ⟨some 32, .load 26 (.tmp 5), some (some 30, false), [(30, 17)]⟩, ⟨some 33, .call { callee := .value (.func 8), args := #[.tmp 31, .tmp 32], argTypes := #[26, 26] }, some (some 30, false), [(30, 17), (31, 18), (32, 19)]⟩, ⟨some 34, .load 26 (.tmp 6), some (some 30, false), [(30, 17)]⟩, ⟨some 35, .load 26 (.tmp 5), some (some 30, false), [(30, 17)]⟩, ⟨some 36, .call { callee := .value (.func 8), args := #[.tmp 34, .tmp 35], argTypes := #[26, 26] }, some (some 30, false), [(30, 17), (34, 21), (35, 22)]⟩, ⟨some 37, .binOp .mul 3 (.tmp 33) (.tmp 36) 3, some (some 30, false), [(30, 17), (33, 20), (36, 23)]⟩, ⟨some 38, .binOp .gtr 3 (.tmp 37) (.const (.int .i64 36000)) 3, some (some 30, false), [(30, 17), (37, 24)]⟩, ⟨some 39, .pick (.tmp 30) (.const (Value.bool true)) (.tmp 38), none, [(30, 17), (38, 25)]⟩] [some 13, some 14, some 15, some 16, some 17, some 18, some 19, some 20, some 21, some 22, some 23, some 24, some 25, some 26, some 27, some 28, some 29, some 30, some 31, some 32, some 33, some 34, some 35, some 36, some 37, some 38, some 39] (by kernel_rfl) (by kernel_rfl) (by kernel_rfl) (by kernel_rfl) (by kernel_rfl) ?hS ?hmono ?hsteps ?hfin
        case hS => exact hS
        case hmono =>
          refine MonoL.cons (fun x w1 w2 _ _ _ hx => hx) ?_
          refine MonoL.cons (fun x w1 w2 _ _ _ hx => hx) ?_
          refine MonoL.cons (fun x w1 w2 _ _ _ hx => hx) ?_
          refine MonoL.cons (fun x w1 w2 _ _ hR hx => ?_) ?_
          · exact hx.mono hR
          refine MonoL.cons (fun x w1 w2 _ _ _ hx => hx) ?_
          refine MonoL.cons (fun x w1 w2 _ _ hR hx => ?_) ?_
          · exact hx.mono hR
          refine MonoL.cons (fun x w1 w2 _ _ _ hx => hx) ?_
          refine MonoL.cons (fun x w1 w2 _ _ _ hx => hx) ?_
          refine MonoL.cons (fun x w1 w2 _ _ _ hx => hx) ?_
          refine MonoL.cons (fun x w1 w2 _ _ _ hx => hx) ?_
          refine MonoL.cons (fun x w1 w2 _ _ _ hx => hx) ?_
          refine MonoL.cons (fun x w1 w2 _ _ hR hx => ?_) ?_
          · exact hx.mono hR
          refine MonoL.cons (fun x w1 w2 _ _ _ hx => hx) ?_
          refine MonoL.cons (fun x w1 w2 _ _ hR hx => ?_) ?_
          · exact hx.mono hR
          refine MonoL.cons (fun x w1 w2 _ _ _ hx => hx) ?_
          refine MonoL.cons (fun x w1 w2 _ _ _ hx => hx) ?_
          refine MonoL.cons (fun x w1 w2 _ _ _ hx => hx) ?_
          refine MonoL.cons (fun x w1 w2 _ _ _ hx => hx) ?_
          refine MonoL.cons (fun x w1 w2 _ _ _ hx => hx) ?_
          refine MonoL.cons (fun x w1 w2 _ _ _ hx => hx) ?_
          refine MonoL.cons (fun x w1 w2 _ _ _ hx => hx) ?_
          refine MonoL.cons (fun x w1 w2 _ _ _ hx => hx) ?_
          refine MonoL.cons (fun x w1 w2 _ _ _ hx => hx) ?_
          refine MonoL.cons (fun x w1 w2 _ _ _ hx => hx) ?_
          refine MonoL.cons (fun x w1 w2 _ _ _ hx => hx) ?_
          refine MonoL.cons (fun x w1 w2 _ _ _ hx => hx) ?_
          refine MonoL.cons (fun x w1 w2 _ _ _ hx => hx) ?_
          exact MonoL.nil
        case hsteps =>
          refine StepsT.cons (fun (x : Value) (_ : World) => x = (.agg #[s0, s1, s2, s3, s4] : Value)) [] rfl rfl (fun oq hop _ wq hQS => ?_) ?_
          · exact StepFrom.load hop (p := (.pointer (some ⟨w.heap.size, 0, none⟩) : Value)) (by kernel_rfl) (load_box X0.out hQS) (by kernel_rfl) hQS (Below.refl _ _) rfl
          refine StepsT.cons (fun (x : Value) (_ : World) => x = (.agg #[p0, p1, p2, p3, p4] : Value)) [] rfl rfl (fun oq hop _ wq hQS => ?_) ?_
          · exact StepFrom.load hop (p := (.pointer (some ⟨w.heap.size + 1, 0, none⟩) : Value)) (by kernel_rfl) (load_box X1.out hQS) (by kernel_rfl) hQS (Below.refl _ _) rfl
          refine StepsT.cons (fun (x : Value) (_ : World) => x = (.agg #[q0, q1, q2, q3, q4] : Value)) [] rfl rfl (fun oq hop _ wq hQS => ?_) ?_
          · exact StepFrom.load hop (p := (.pointer (some ⟨w.heap.size + 1 + 1, 0, none⟩) : Value)) (by kernel_rfl) (load_box X2.out hQS) (by kernel_rfl) hQS (Below.refl _ _) rfl
          refine StepsT.cons (fun (x : Value) (w : World) => TmsFull [tt, ta, tb] x w) [(13, (fun (x : Value) (_ : World) => x = (.agg #[s0, s1, s2, s3, s4] : Value))), (14, (fun (x : Value) (_ : World) => x = (.agg #[p0, p1, p2, p3, p4] : Value))), (15, (fun (x : Value) (_ : World) => x = (.agg #[q0, q1, q2, q3, q4] : Value)))] rfl rfl (fun oq hop _ wq hQS => ?_) ?_
          · refine StepFrom.more_eq ((.agg #[s0, s1, s2, s3, s4] : Value)) ?_
            refine StepFrom.more_eq ((.agg #[p0, p1, p2, p3, p4] : Value)) ?_
            refine StepFrom.more_eq ((.agg #[q0, q1, q2, q3, q4] : Value)) ?_
            exact StepFrom.slice hop (vs := [(0, .agg #[s0, s1, s2, s3, s4]), (1, .agg #[p0, p1, p2, p3, p4]), (2, .agg #[q0, q1, q2, q3, q4])]) (by kernel_rfl) slice_tm3 (by kernel_rfl) (hQS.alloc hQS.size _) ((Below.refl _ _).alloc (Nat.le_refl _) _) (full_three (HT2.out.below hQS hQS.size) (HA2.out.below hQS hQS.size) (HB2.out.below hQS hQS.size))
          refine StepsT.cons (fun (x : Value) (_ : World) => x = (.slice Ab nb cb : Value)) [] rfl rfl (fun oq hop _ wq hQS => ?_) ?_
          · exact StepFrom.move hop (v := (.slice Ab nb cb : Value)) (by kernel_rfl) (by kernel_rfl) hQS (Below.refl _ _) rfl
          refine StepsT.cons (fun (x : Value) (w : World) => TmsV (tt :: ta :: tb :: tby) x w) [(16, (fun (x : Value) (w : World) => TmsFull [tt, ta, tb] x w)), (17, (fun (x : Value) (_ : World) => x = (.slice Ab nb cb : Value)))] rfl rfl (fun oq hop _ wq hQS => ?_) ?_
          · refine StepFrom.more fun x16 h16 => ?_
            obtain h16 := h16
            refine StepFrom.more_eq ((.slice Ab nb cb : Value)) ?_
            obtain ⟨v9, w9, j1, j2, j3⟩ := append_tms oq.type h16 (HBV.out wq hQS) (by simp) (by simp) HN6.out
            exact StepFrom.append hop (vx := x16) (vy := .slice Ab nb cb) (by kernel_rfl) (by kernel_rfl) j1 (by kernel_rfl) (hQS.trans (j2.mono hQS.size)) j2 j3
          refine StepsT.cons (fun (x : Value) (_ : World) => x = (.bool false : Value)) [(18, (fun (x : Value) (w : World) => TmsV (tt :: ta :: tb :: tby) x w))] rfl rfl (fun oq hop _ wq hQS => ?_) ?_
          · refine StepFrom.more fun x18 h18 => ?_
            obtain ⟨A18, c18, rfl, k18⟩ := h18
            exact StepFrom.call hop (vs := [(.slice A18 (tt :: ta :: tb :: tby).length c18 : Value)]) (by kernel_rfl) (fun w => enter_great _ w) (by kernel_rfl) ((HGR.out A18 c18 wq hQS k18).mono fun e w9 h9 => by obtain ⟨q1, q2⟩ := h9; exact ⟨_, q1, hQS.trans (q2.mono hQS.size), q2, rfl⟩)
          refine StepsT.cons (fun (x : Value) (_ : World) => x = (.bool false : Value)) [(19, (fun (x : Value) (_ : World) => x = (.bool false : Value)))] rfl rfl (fun oq hop _ wq hQS => ?_) ?_
          · refine StepFrom.more_eq ((.bool false : Value)) ?_
            exact StepFrom.move hop (v := (.bool false : Value)) (by kernel_rfl) (by kernel_rfl) hQS (Below.refl _ _) rfl
          refine StepsT.cons (fun (x : Value) (_ : World) => x = (.agg #[s0, s1, s2, s3, s4] : Value)) [(20, (fun (x : Value) (_ : World) => x = (.bool false : Value)))] rfl rfl (fun oq hop _ wq hQS => ?_) ?_
          · refine StepFrom.more_eq ((.bool false : Value)) ?_
            exact StepFrom.load hop (p := (.pointer (some ⟨w.heap.size, 0, none⟩) : Value)) (by kernel_rfl) (load_box X0.out hQS) (by kernel_rfl) hQS (Below.refl _ _) rfl
          refine StepsT.cons (fun (x : Value) (_ : World) => x = (.agg #[p0, p1, p2, p3, p4] : Value)) [(20, (fun (x : Value) (_ : World) => x = (.bool false : Value)))] rfl rfl (fun oq hop _ wq hQS => ?_) ?_
          · refine StepFrom.more_eq ((.bool false : Value)) ?_
            exact StepFrom.load hop (p := (.pointer (some ⟨w.heap.size + 1, 0, none⟩) : Value)) (by kernel_rfl) (load_box X1.out hQS) (by kernel_rfl) hQS (Below.refl _ _) rfl
          refine StepsT.cons (fun (x : Value) (_ : World) => x = (.agg #[q0, q1, q2, q3, q4] : Value)) [(20, (fun (x : Value) (_ : World) => x = (.bool false : Value)))] rfl rfl (fun oq hop _ wq hQS => ?_) ?_
          · refine StepFrom.more_eq ((.bool false : Value)) ?_
            exact StepFrom.load hop (p := (.pointer (some ⟨w.heap.size + 1 + 1, 0, none⟩) : Value)) (by kernel_rfl) (load_box X2.out hQS) (by kernel_rfl) hQS (Below.refl _ _) rfl
          refine StepsT.cons (fun (x : Value) (w : World) => TmsFull [tt, ta, tb] x w) [(20, (fun (x : Value) (_ : World) => x = (.bool false : Value))), (21, (fun (x : Value) (_ : World) => x = (.agg #[s0, s1, s2, s3, s4] : Value))), (22, (fun (x : Value) (_ : World) => x = (.agg #[p0, p1, p2, p3, p4] : Value))), (23, (fun (x : Value) (_ : World) => x = (.agg #[q0, q1, q2, q3, q4] : Value)))] rfl rfl (fun oq hop _ wq hQS => ?_) ?_
          · refine StepFrom.more_eq ((.bool false : Value)) ?_
            refine StepFrom.more_eq ((.agg #[s0, s1, s2, s3, s4] : Value)) ?_
            refine StepFrom.more_eq ((.agg #[p0, p1, p2, p3, p4] : Value)) ?_
            refine StepFrom.more_eq ((.agg #[q0, q1, q2, q3, q4] : Value)) ?_
            exact StepFrom.slice hop (vs := [(0, .agg #[s0, s1, s2, s3, s4]), (1, .agg #[p0, p1, p2, p3, p4]), (2, .agg #[q0, q1, q2, q3, q4])]) (by kernel_rfl) slice_tm3 (by kernel_rfl) (hQS.alloc hQS.size _) ((Below.refl _ _).alloc (Nat.le_refl _) _) (full_three (HT2.out.below hQS hQS.size) (HA2.out.below hQS hQS.size) (HB2.out.below hQS hQS.size))
          refine StepsT.cons (fun (x : Value) (_ : World) => x = (.slice Ab nb cb : Value)) [(20, (fun (x : Value) (_ : World) => x = (.bool false : Value)))] rfl rfl (fun oq hop _ wq hQS => ?_) ?_
          · refine StepFrom.more_eq ((.bool false : Value)) ?_
            exact StepFrom.move hop (v := (.slice Ab nb cb : Value)) (by kernel_rfl) (by kernel_rfl) hQS (Below.refl _ _) rfl
          refine StepsT.cons (fun (x : Value) (w : World) => TmsV (tt :: ta :: tb :: tby) x w) [(20, (fun (x : Value) (_ : World) => x = (.bool false : Value))), (24, (fun (x : Value) (w : World) => TmsFull [tt, ta, tb] x w)), (25, (fun (x : Value) (_ : World) => x = (.slice Ab nb cb : Value)))] rfl rfl (fun oq hop _ wq hQS => ?_) ?_
          · refine StepFrom.more_eq ((.bool false : Value)) ?_
            refine StepFrom.more fun x24 h24 => ?_
            obtain h24 := h24
            refine StepFrom.more_eq ((.slice Ab nb cb : Value)) ?_
            obtain ⟨v9, w9, j1, j2, j3⟩ := append_tms oq.type h24 (HBV.out wq hQS) (by simp) (by simp) HN6.out
            exact StepFrom.append hop (vx := x24) (vy := .slice Ab nb cb) (by kernel_rfl) (by kernel_rfl) j1 (by kernel_rfl) (hQS.trans (j2.mono hQS.size)) j2 j3
          refine StepsT.cons (fun (x : Value) (_ : World) => x = (.bool true : Value)) [(20, (fun (x : Value) (_ : World) => x = (.bool false : Value))), (26, (fun (x : Value) (w : World) => TmsV (tt :: ta :: tb :: tby) x w))] rfl rfl (fun oq hop _ wq hQS => ?_) ?_
          · refine StepFrom.more_eq ((.bool false : Value)) ?_
            refine StepFrom.more fun x26 h26 => ?_
            obtain ⟨A26, c26, rfl, k26⟩ := h26
            exact StepFrom.call hop (vs := [(.slice A26 (tt :: ta :: tb :: tby).length c26 : Value)]) (by kernel_rfl) (fun w => enter_tame _ w) (by kernel_rfl) ((HTM.out A26 c26 wq hQS k26).mono fun e w9 h9 => by obtain ⟨q1, q2⟩ := h9; exact ⟨_, q1, hQS.trans (q2.mono hQS.size), q2, rfl⟩)
          refine StepsT.cons (fun (x : Value) (_ : World) => x = (.bool false : Value)) [(20, (fun (x : Value) (_ : World) => x = (.bool false : Value))), (27, (fun (x : Value) (_ : World) => x = (.bool true : Value)))] rfl rfl (fun oq hop _ wq hQS => ?_) ?_
          · refine StepFrom.more_eq ((.bool false : Value)) ?_
            refine StepFrom.more_eq ((.bool true : Value)) ?_
            exact StepFrom.not hop (b := true) (by kernel_rfl) (by kernel_rfl) hQS (Below.refl _ _) rfl
          refine StepsT.cons (fun (x : Value) (_ : World) => x = (.bool false : Value)) [(20, (fun (x : Value) (_ : World) => x = (.bool false : Value))), (28, (fun (x : Value) (_ : World) => x = (.bool false : Value)))] rfl rfl (fun oq hop _ wq hQS => ?_) ?_
          · refine StepFrom.more_eq ((.bool false : Value)) ?_
            refine StepFrom.more_eq ((.bool false : Value)) ?_
            exact StepFrom.pick hop (b := false) (vx := (Value.bool true : Value)) (vy := (.bool false : Value)) (by kernel_rfl) (by kernel_rfl) (by kernel_rfl) (by kernel_rfl) hQS (Below.refl _ _) rfl
          refine StepsT.cons (fun (x : Value) (_ : World) => x = (.bool false : Value)) [(29, (fun (x : Value) (_ : World) => x = (.bool false : Value)))] rfl rfl (fun oq hop _ wq hQS => ?_) ?_
          · refine StepFrom.more_eq ((.bool false : Value)) ?_
            exact StepFrom.move hop (v := (.bool false : Value)) (by kernel_rfl) (by kernel_rfl) hQS (Below.refl _ _) rfl
          refine StepsT.cons (fun (x : Value) (_ : World) => x = (.agg #[s0, s1, s2, s3, s4] : Value)) [(30, (fun (x : Value) (_ : World) => x = (.bool false : Value)))] rfl rfl (fun oq hop _ wq hQS => ?_) ?_
          · refine StepFrom.more_eq ((.bool false : Value)) ?_
            exact StepFrom.load hop (p := (.pointer (some ⟨w.heap.size, 0, none⟩) : Value)) (by kernel_rfl) (load_box X0.out hQS) (by kernel_rfl) hQS (Below.refl _ _) rfl
          refine StepsT.cons (fun (x : Value) (_ : World) => x = (.agg #[p0, p1, p2, p3, p4] : Value)) [(30, (fun (x : Value) (_ : World) => x = (.bool false : Value)))] rfl rfl (fun oq hop _ wq hQS => ?_) ?_
          · refine StepFrom.more_eq ((.bool false : Value)) ?_
            exact StepFrom.load hop (p := (.pointer (some ⟨w.heap.size + 1, 0, none⟩) : Value)) (by kernel_rfl) (load_box X1.out hQS) (by kernel_rfl) hQS (Below.refl _ _) rfl
          refine StepsT.cons (fun (x : Value) (_ : World) => x = (.int .i64 T1 : Value)) [(30, (fun (x : Value) (_ : World) => x = (.bool false : Value))), (31, (fun (x : Value) (_ : World) => x = (.agg #[s0, s1, s2, s3, s4] : Value))), (32, (fun (x : Value) (_ : World) => x = (.agg #[p0, p1, p2, p3, p4] : Value)))] rfl rfl (fun oq hop _ wq hQS => ?_) ?_
          · refine StepFrom.more_eq ((.bool false : Value)) ?_
            refine StepFrom.more_eq ((.agg #[s0, s1, s2, s3, s4] : Value)) ?_
            refine StepFrom.more_eq ((.agg #[p0, p1, p2, p3, p4] : Value)) ?_
            exact StepFrom.call hop (vs := [(.agg #[s0, s1, s2, s3, s4] : Value), (.agg #[p0, p1, p2, p3, p4] : Value)]) (by kernel_rfl) (fun w => enter_times _ w) (by kernel_rfl) ((HX1.out wq hQS).mono fun e w9 h9 => by obtain ⟨q1, q2⟩ := h9; exact ⟨_, q1, hQS.trans (q2.mono hQS.size), q2, rfl⟩)
          refine StepsT.cons (fun (x : Value) (_ : World) => x = (.agg #[q0, q1, q2, q3, q4] : Value)) [(30, (fun (x : Value) (_ : World) => x = (.bool false : Value)))] rfl rfl (fun oq hop _ wq hQS => ?_) ?_
          · refine StepFrom.more_eq ((.bool false : Value)) ?_
            exact StepFrom.load hop (p := (.pointer (some ⟨w.heap.size + 1 + 1, 0, none⟩) : Value)) (by kernel_rfl) (load_box X2.out hQS) (by kernel_rfl) hQS (Below.refl _ _) rfl
          refine StepsT.cons (fun (x : Value) (_ : World) => x = (.agg #[p0, p1, p2, p3, p4] : Value)) [(30, (fun (x : Value) (_ : World) => x = (.bool false : Value)))] rfl rfl (fun oq hop _ wq hQS => ?_) ?_
          · refine StepFrom.more_eq ((.bool false : Value)) ?_
            exact StepFrom.load hop (p := (.pointer (some ⟨w.heap.size + 1, 0, none⟩) : Value)) (by kernel_rfl) (load_box X1.out hQS) (by kernel_rfl) hQS (Below.refl _ _) rfl
          refine StepsT.cons (fun (x : Value) (_ : World) => x = (.int .i64 T2 : Value)) [(30, (fun (x : Value) (_ : World) => x = (.bool false : Value))), (34, (fun (x : Value) (_ : World) => x = (.agg #[q0, q1, q2, q3, q4] : Value))), (35, (fun (x : Value) (_ : World) => x = (.agg #[p0, p1, p2, p3, p4] : Value)))] rfl rfl (fun oq hop _ wq hQS => ?_) ?_
          · refine StepFrom.more_eq ((.bool false : Value)) ?_
            refine StepFrom.more_eq ((.agg #[q0, q1, q2, q3, q4] : Value)) ?_
            refine StepFrom.more_eq ((.agg #[p0, p1, p2, p3, p4] : Value)) ?_
            exact StepFrom.call hop (vs := [(.agg #[q0, q1, q2, q3, q4] : Value), (.agg #[p0, p1, p2, p3, p4] : Value)]) (by kernel_rfl) (fun w => enter_times _ w) (by kernel_rfl) ((HX2.out wq hQS).mono fun e w9 h9 => by obtain ⟨q1, q2⟩ := h9; exact ⟨_, q1, hQS.trans (q2.mono hQS.size), q2, rfl⟩)
          refine StepsT.cons (fun (x : Value) (_ : World) => x = (.int .i64 T3 : Value)) [(30, (fun (x : Value) (_ : World) => x = (.bool false : Value))), (33, (fun (x : Value) (_ : World) => x = (.int .i64 T1 : Value))), (36, (fun (x : Value) (_ : World) => x = (.int .i64 T2 : Value)))] rfl rfl (fun oq hop _ wq hQS => ?_) ?_
          · refine StepFrom.more_eq ((.bool false : Value)) ?_
            refine StepFrom.more_eq ((.int .i64 T1 : Value)) ?_
            refine StepFrom.more_eq ((.int .i64 T2 : Value)) ?_
            exact StepFrom.bin hop (vx := (.int .i64 T1 : Value)) (vy := (.int .i64 T2 : Value)) (by kernel_rfl) (by kernel_rfl) (mul_to _ _ _ HWP.out) (by kernel_rfl) hQS (Below.refl _ _) rfl
          refine StepsT.cons (fun (x : Value) (_ : World) => x = (.bool true : Value)) [(30, (fun (x : Value) (_ : World) => x = (.bool false : Value))), (37, (fun (x : Value) (_ : World) => x = (.int .i64 T3 : Value)))] rfl rfl (fun oq hop _ wq hQS => ?_) ?_
          · refine StepFrom.more_eq ((.bool false : Value)) ?_
            refine StepFrom.more_eq ((.int .i64 T3 : Value)) ?_
            exact StepFrom.bin hop (vx := (.int .i64 T3 : Value)) (vy := (.int .i64 36000 : Value)) (by kernel_rfl) (by kernel_rfl) (gtr_to _ _ _ HTXB.out) (by kernel_rfl) hQS (Below.refl _ _) rfl
          refine StepsT.cons (fun (x : Value) (_ : World) => x = (.bool true : Value)) [(30, (fun (x : Value) (_ : World) => x = (.bool false : Value))), (38, (fun (x : Value) (_ : World) => x = (.bool true : Value)))] rfl rfl (fun oq hop _ wq hQS => ?_) ?_
          · refine StepFrom.more_eq ((.bool false : Value)) ?_
            refine StepFrom.more_eq ((.bool true : Value)) ?_
            exact StepFrom.pick hop (b := false) (vx := (Value.bool true : Value)) (vy := (.bool true : Value)) (by kernel_rfl) (by kernel_rfl) (by kernel_rfl) (by kernel_rfl) hQS (Below.refl _ _) rfl
          exact StepsT.nil
        case hfin =>
          intro wf hFS
          refine FinalFrom.more fun x13 h13 => ?_
          refine FinalFrom.more fun x14 h14 => ?_
          refine FinalFrom.more fun x15 h15 => ?_
          refine FinalFrom.more fun x16 h16 => ?_
          refine FinalFrom.more fun x17 h17 => ?_
          refine FinalFrom.more fun x18 h18 => ?_
          refine FinalFrom.more fun x19 h19 => ?_
          refine FinalFrom.more fun x20 h20 => ?_
          refine FinalFrom.more fun x21 h21 => ?_
          refine FinalFrom.more fun x22 h22 => ?_
          refine FinalFrom.more fun x23 h23 => ?_
          refine FinalFrom.more fun x24 h24 => ?_
          refine FinalFrom.more fun x25 h25 => ?_
          refine FinalFrom.more fun x26 h26 => ?_
          refine FinalFrom.more fun x27 h27 => ?_
          refine FinalFrom.more fun x28 h28 => ?_
          refine FinalFrom.more fun x29 h29 => ?_
          refine FinalFrom.more fun x30 h30 => ?_
          refine FinalFrom.more fun x31 h31 => ?_
          refine FinalFrom.more fun x32 h32 => ?_
          refine FinalFrom.more fun x33 h33 => ?_
          refine FinalFrom.more fun x34 h34 => ?_
          refine FinalFrom.more fun x35 h35 => ?_
          refine FinalFrom.more fun x36 h36 => ?_
          refine FinalFrom.more fun x37 h37 => ?_
          refine FinalFrom.more fun x38 h38 => ?_
          refine FinalFrom.more fun x39 h39 => ?_
          refine FinalFrom.done ?_
          rw [show x39 = .bool true from h39]

          have HF : Hid (HasPost w true (.returned (.bool true)) wf) := ⟨rfl, HEND.out wf hFS⟩
          clear hS hFS
          simp only [Act.put, List.setIfInBounds_toArray, List.set_cons_zero, List.set_cons_succ]
          go_wp2
          go_ret
          exact HF.out
      | false =>
        go_upto_region 3 with (fail)
        refine wp_region_tab (fun w' => Below w2.heap.size w2 w') (fun w1 w2 : World => Below w1.heap.size w1 w2) [(fun (x : Value) (_ : World) => x = (.agg #[s0, s1, s2, s3, s4] : Value)), (fun (x : Value) (_ : World) => x = (.agg #[p0, p1, p2, p3, p4] : Value)), (fun (x : Value) (_ : World) => x = (.agg #[q0, q1, q2, q3, q4] : Value)), (fun (x : Value) (w : World) => TmsFull [tt, ta, tb] x w), (fun (x : Value) (_ : World) => x = (.slice Ab nb cb : Value)), (fun (x : Value) (w : World) => TmsV (tt :: ta :: tb :: tby) x w), (fun (x : Value) (_ : World) => x = (.bool false : Value)), (fun (x : Value) (_ : World) => x = (.bool false : Value)), (fun (x : Value) (_ : World) => x = (.agg #[s0, s1, s2, s3, s4] : Value)), (fun (x : Value) (_ : World) => x = (.agg #[p0, p1, p2, p3, p4] : Value)), (fun (x : Value) (_ : World) => x = (.agg #[q0, q1, q2, q3, q4] : Value)), (fun (x : Value) (w : World) => TmsFull [tt, ta, tb] x w), (fun (x : Value) (_ : World) => x = (.slice Ab nb cb : Value)), (fun (x : Value) (w : World) => TmsV (tt :: ta :: tb :: tby) x w), (fun (x : Value) (_ : World) => x = (.bool true : Value)), (fun (x : Value) (_ : World) => x = (.bool false : Value)), (fun (x : Value) (_ : World) => x = (.bool false : Value)), (fun (x : Value) (_ : World) => x = (.bool false : Value)), (fun (x : Value) (_ : World) => x = (.agg #[s0, s1, s2, s3, s4] : Value)), (fun (x : Value) (_ : World) => x = (.agg #[p0, p1, p2, p3, p4] : Value)), (fun (x : Value) (_ : World) => x = (.int .i64 T1 : Value)), (fun (x : Value) (_ : World) => x = (.agg #[q0, q1, q2, q3, q4] : Value)), (fun (x : Value) (_ : World) => x = (.agg #[p0, p1, p2, p3, p4] : Value)), (fun (x : Value) (_ : World) => x = (.int .i64 T2 : Value)), (fun (x : Value) (_ : World) => x = (.int .i64 T3 : Value)), (fun (x : Value) (_ : World) => x = (.bool false : Value)), (fun (x : Value) (_ : World) => x = (.bool false : Value))] [⟨some 13, .load 26 (.tmp 4), none, []⟩, ⟨some 14, .load 26 (.tmp 5), none, []⟩, ⟨some 15, .load 26 (.tmp 6), none, []⟩, ⟨some 16, .buildSlice 24 3 #[(0, .tmp 13), (1, .tmp 14), (2, .tmp 15)], none, [(13, 0), (14, 1), (15, 2)]⟩, ⟨some 17, .move (.tmp 3), none, []⟩, ⟨some 18, .call { callee := .builtin .append, args := #[.tmp 16, .tmp 17], argTypes := #[24, 24] }, none, [(16, 3), (17, 4)]⟩, ⟨some 19, .call { callee := .value (.func 6), args := #[.tmp 18], argTypes := #[24] }, none, [(18, 5)]⟩, ⟨some 20, .move (.tmp 19), none, [(19, 6)]⟩, ⟨some 21, .load 26 (.tmp 4), some (some 20, false), [(20, 7)]⟩, ⟨some 22, .load 26 (.tmp 5), some (some 20, false), [(20, 7)]⟩, ⟨some 23, .load 26 (.tmp 6), some (some 20, false), [(20, 7)]⟩, ⟨some 24, .buildSlice 24 3 #[(0, .tmp 21), (1, .tmp 22), (2, .tmp 23)], some (some 20, false), [(20, 7), (21, 8), (22, 9), (23, 10)]⟩, ⟨some 25, .move (.tmp 3), some (some 20, false), [(20, 7)]⟩, ⟨some 26, .call { callee := .builtin .append, args := #[.tmp 24, .tmp 25], argTypes := #[24, 24] }, some (some 20, false), [(20, 7), (24, 11), (25, 12)]⟩, ⟨some 27, .call { callee := .value (.func 7), args := #[.tmp 26], argTypes := #[24] }, some (some 20, false), [(20, 7), (26, 13)]⟩, ⟨some 28, .unOp .not 4 (.tmp 27), some (some 20, false), [(20, 7), (27, 14)]⟩, ⟨some 29, .pick (.tmp 20) (.const (Value.bool true)) (.tmp 28), none, [(20, 7), (28, 15)]⟩, ⟨some 30, .move (.tmp 29), none, [(29, 16)]⟩, ⟨some 31, .load 26 (.tmp 4), some (some 30, false), [(30, 17)]⟩, ⟨some 32, .load 26 (.tmp 5), some (some 30, false), [(30, 17)]⟩, ⟨some 33, .call { callee := .value (.func 8), args := #[.tmp 31, .tmp 32], argTypes := #[26, 26] }, some (some 30, false), [(30, 17), (31, 18), (32, 19)]⟩, ⟨some 34, .load 26 (.tmp 6), some (some 30, false), [(30, 17)]⟩, ⟨some 35, .load 26 (.tmp 5), some (some 30, false), [(30, 17)]⟩, ⟨some 36, .call { callee := .value (.func 8), args := #[.tmp 34, .tmp 35], argTypes := #[26, 26] }, some (some 30, false), [(30, 17), (34, 21), (35, 22)]⟩, ⟨some 37, .binOp .mul 3 (.tmp 33) (.tmp 36) 3, some (some 30, false), [(30, 17), (33, 20), (36, 23)]⟩, ⟨some 38, .binOp .gtr 3 (.tmp 37) (.const (.int .i64 36000)) 3, some (some 30, false), [(30, 17), (37, 24)]⟩, ⟨some 39, .pick (.tmp 30) (.const (Value.bool true)) (.tmp 38), none, [(30, 17), (38, 25)]⟩] [some 13, some 14, some 15, some 16, some 17, some 18, some 19, some 20, some 21, some 22, some 23, some 24, some 25, some 26, some 27, some 28, some 29, some 30, some 31, some 32, some 33, some 34, some 35, some 36, some 37, some 38, some 39] (by kernel_rfl) (by kernel_rfl) (by kernel_rfl) (by kernel_rfl) (by kernel_rfl) ?hS ?hmono ?hsteps ?hfin
        case hS => exact hS
        case hmono =>
          refine MonoL.cons (fun x w1 w2 _ _ _ hx => hx) ?_
          refine MonoL.cons (fun x w1 w2 _ _ _ hx => hx) ?_
          refine MonoL.cons (fun x w1 w2 _ _ _ hx => hx) ?_
          refine MonoL.cons (fun x w1 w2 _ _ hR hx => ?_) ?_
          · exact hx.mono hR
          refine MonoL.cons (fun x w1 w2 _ _ _ hx => hx) ?_
          refine MonoL.cons (fun x w1 w2 _ _ hR hx => ?_) ?_
          · exact hx.mono hR
          refine MonoL.cons (fun x w1 w2 _ _ _ hx => hx) ?_
          refine MonoL.cons (fun x w1 w2 _ _ _ hx => hx) ?_
          refine MonoL.cons (fun x w1 w2 _ _ _ hx => hx) ?_
          refine MonoL.cons (fun x w1 w2 _ _ _ hx => hx) ?_
          refine MonoL.cons (fun x w1 w2 _ _ _ hx => hx) ?_
          refine MonoL.cons (fun x w1 w2 _ _ hR hx => ?_) ?_
          · exact hx.mono hR
          refine MonoL.cons (fun x w1 w2 _ _ _ hx => hx) ?_
          refine MonoL.cons (fun x w1 w2 _ _ hR hx => ?_) ?_
          · exact hx.mono hR
          refine MonoL.cons (fun x w1 w2 _ _ _ hx => hx) ?_
          refine MonoL.cons (fun x w1 w2 _ _ _ hx => hx) ?_
          refine MonoL.cons (fun x w1 w2 _ _ _ hx => hx) ?_
          refine MonoL.cons (fun x w1 w2 _ _ _ hx => hx) ?_
          refine MonoL.cons (fun x w1 w2 _ _ _ hx => hx) ?_
          refine MonoL.cons (fun x w1 w2 _ _ _ hx => hx) ?_
          refine MonoL.cons (fun x w1 w2 _ _ _ hx => hx) ?_
          refine MonoL.cons (fun x w1 w2 _ _ _ hx => hx) ?_
          refine MonoL.cons (fun x w1 w2 _ _ _ hx => hx) ?_
          refine MonoL.cons (fun x w1 w2 _ _ _ hx => hx) ?_
          refine MonoL.cons (fun x w1 w2 _ _ _ hx => hx) ?_
          refine MonoL.cons (fun x w1 w2 _ _ _ hx => hx) ?_
          refine MonoL.cons (fun x w1 w2 _ _ _ hx => hx) ?_
          exact MonoL.nil
        case hsteps =>
          refine StepsT.cons (fun (x : Value) (_ : World) => x = (.agg #[s0, s1, s2, s3, s4] : Value)) [] rfl rfl (fun oq hop _ wq hQS => ?_) ?_
          · exact StepFrom.load hop (p := (.pointer (some ⟨w.heap.size, 0, none⟩) : Value)) (by kernel_rfl) (load_box X0.out hQS) (by kernel_rfl) hQS (Below.refl _ _) rfl
          refine StepsT.cons (fun (x : Value) (_ : World) => x = (.agg #[p0, p1, p2, p3, p4] : Value)) [] rfl rfl (fun oq hop _ wq hQS => ?_) ?_
          · exact StepFrom.load hop (p := (.pointer (some ⟨w.heap.size + 1, 0, none⟩) : Value)) (by kernel_rfl) (load_box X1.out hQS) (by kernel_rfl) hQS (Below.refl _ _) rfl
          refine StepsT.cons (fun (x : Value) (_ : World) => x = (.agg #[q0, q1, q2, q3, q4] : Value)) [] rfl rfl (fun oq hop _ wq hQS => ?_) ?_
          · exact StepFrom.load hop (p := (.pointer (some ⟨w.heap.size + 1 + 1, 0, none⟩) : Value)) (by kernel_rfl) (load_box X2.out hQS) (by kernel_rfl) hQS (Below.refl _ _) rfl
          refine StepsT.cons (fun (x : Value) (w : World) => TmsFull [tt, ta, tb] x w) [(13, (fun (x : Value) (_ : World) => x = (.agg #[s0, s1, s2, s3, s4] : Value))), (14, (fun (x : Value) (_ : World) => x = (.agg #[p0, p1, p2, p3, p4] : Value))), (15, (fun (x : Value) (_ : World) => x = (.agg #[q0, q1, q2, q3, q4] : Value)))] rfl rfl (fun oq hop _ wq hQS => ?_) ?_
          · refine StepFrom.more_eq ((.agg #[s0, s1, s2, s3, s4] : Value)) ?_
            refine StepFrom.more_eq ((.agg #[p0, p1, p2, p3, p4] : Value)) ?_
            refine StepFrom.more_eq ((.agg #[q0, q1, q2, q3, q4] : Value)) ?_
            exact StepFrom.slice hop (vs := [(0, .agg #[s0, s1, s2, s3, s4]), (1, .agg #[p0, p1, p2, p3, p4]), (2, .agg #[q0, q1, q2, q3, q4])]) (by kernel_rfl) slice_tm3 (by kernel_rfl) (hQS.alloc hQS.size _) ((Below.refl _ _).alloc (Nat.le_refl _) _) (full_three (HT2.out.below hQS hQS.size) (HA2.out.below hQS hQS.size) (HB2.out.below hQS hQS.size))
          refine StepsT.cons (fun (x : Value) (_ : World) => x = (.slice Ab nb cb : Value)) [] rfl rfl (fun oq hop _ wq hQS => ?_) ?_
          · exact StepFrom.move hop (v := (.slice Ab nb cb : Value)) (by kernel_rfl) (by kernel_rfl) hQS (Below.refl _ _) rfl
          refine StepsT.cons (fun (x : Value) (w : World) => TmsV (tt :: ta :: tb :: tby) x w) [(16, (fun (x : Value) (w : World) => TmsFull [tt, ta, tb] x w)), (17, (fun (x : Value) (_ : World) => x = (.slice Ab nb cb : Value)))] rfl rfl (fun oq hop _ wq hQS => ?_) ?_
          · refine StepFrom.more fun x16 h16 => ?_
            obtain h16 := h16
            refine StepFrom.more_eq ((.slice Ab nb cb : Value)) ?_
            obtain ⟨v9, w9, j1, j2, j3⟩ := append_tms oq.type h16 (HBV.out wq hQS) (by simp) (by simp) HN6.out
            exact StepFrom.append hop (vx := x16) (vy := .slice Ab nb cb) (by kernel_rfl) (by kernel_rfl) j1 (by kernel_rfl) (hQS.trans (j2.mono hQS.size)) j2 j3
          refine StepsT.cons (fun (x : Value) (_ : World) => x = (.bool false : Value)) [(18, (fun (x : Value) (w : World) => TmsV (tt :: ta :: tb :: tby) x w))] rfl rfl (fun oq hop _ wq hQS => ?_) ?_
          · refine StepFrom.more fun x18 h18 => ?_
            obtain ⟨A18, c18, rfl, k18⟩ := h18
            exact StepFrom.call hop (vs := [(.slice A18 (tt :: ta :: tb :: tby).length c18 : Value)]) (by kernel_rfl) (fun w => enter_great _ w) (by kernel_rfl) ((HGR.out A18 c18 wq hQS k18).mono fun e w9 h9 => by obtain ⟨q1, q2⟩ := h9; exact ⟨_, q1, hQS.trans (q2.mono hQS.size), q2, rfl⟩)
          refine StepsT.cons (fun (x : Value) (_ : World) => x = (.bool false : Value)) [(19, (fun (x : Value) (_ : World) => x = (.bool false : Value)))] rfl rfl (fun oq hop _ wq hQS => ?_) ?_
          · refine StepFrom.more_eq ((.bool false : Value)) ?_
            exact StepFrom.move hop (v := (.bool false : Value)) (by kernel_rfl) (by kernel_rfl) hQS (Below.refl _ _) rfl
          refine StepsT.cons (fun (x : Value) (_ : World) => x = (.agg #[s0, s1, s2, s3, s4] : Value)) [(20, (fun (x : Value) (_ : World) => x = (.bool false : Value)))] rfl rfl (fun oq hop _ wq hQS => ?_) ?_
          · refine StepFrom.more_eq ((.bool false : Value)) ?_
            exact StepFrom.load hop (p := (.pointer (some ⟨w.heap.size, 0, none⟩) : Value)) (by kernel_rfl) (load_box X0.out hQS) (by kernel_rfl) hQS (Below.refl _ _) rfl
          refine StepsT.cons (fun (x : Value) (_ : World) => x = (.agg #[p0, p1, p2, p3, p4] : Value)) [(20, (fun (x : Value) (_ : World) => x = (.bool false : Value)))] rfl rfl (fun oq hop _ wq hQS => ?_) ?_
          · refine StepFrom.more_eq ((.bool false : Value)) ?_
            exact StepFrom.load hop (p := (.pointer (some ⟨w.heap.size + 1, 0, none⟩) : Value)) (by kernel_rfl) (load_box X1.out hQS) (by kernel_rfl) hQS (Below.refl _ _) rfl
          refine StepsT.cons (fun (x : Value) (_ : World) => x = (.agg #[q0, q1, q2, q3, q4] : Value)) [(20, (fun (x : Value) (_ : World) => x = (.bool false : Value)))] rfl rfl (fun oq hop _ wq hQS => ?_) ?_
          · refine StepFrom.more_eq ((.bool false : Value)) ?_
            exact StepFrom.load hop (p := (.pointer (some ⟨w.heap.size + 1 + 1, 0, none⟩) : Value)) (by kernel_rfl) (load_box X2.out hQS) (by kernel_rfl) hQS (Below.refl _ _) rfl
          refine StepsT.cons (fun (x : Value) (w : World) => TmsFull [tt, ta, tb] x w) [(20, (fun (x : Value) (_ : World) => x = (.bool false : Value))), (21, (fun (x : Value) (_ : World) => x = (.agg #[s0, s1, s2, s3, s4] : Value))), (22, (fun (x : Value) (_ : World) => x = (.agg #[p0, p1, p2, p3, p4] : Value))), (23, (fun (x : Value) (_ : World) => x = (.agg #[q0, q1, q2, q3, q4] : Value)))] rfl rfl (fun oq hop _ wq hQS => ?_) ?_
          · refine StepFrom.more_eq ((.bool false : Value)) ?_
            refine StepFrom.more_eq ((.agg #[s0, s1, s2, s3, s4] : Value)) ?_
            refine StepFrom.more_eq ((.agg #[p0, p1, p2, p3, p4] : Value)) ?_
            refine StepFrom.more_eq ((.agg #[q0, q1, q2, q3, q4] : Value)) ?_
            exact StepFrom.slice hop (vs := [(0, .agg #[s0, s1, s2, s3, s4]), (1, .agg #[p0, p1, p2, p3, p4]), (2, .agg #[q0, q1, q2, q3, q4])]) (by kernel_rfl) slice_tm3 (by kernel_rfl) (hQS.alloc hQS.size _) ((Below.refl _ _).alloc (Nat.le_refl _) _) (full_three (HT2.out.below hQS hQS.size) (HA2.out.below hQS hQS.size) (HB2.out.below hQS hQS.size))
          refine StepsT.cons (fun (x : Value) (_ : World) => x = (.slice Ab nb cb : Value)) [(20, (fun (x : Value) (_ : World) => x = (.bool false : Value)))] rfl rfl (fun oq hop _ wq hQS => ?_) ?_
          · refine StepFrom.more_eq ((.bool false : Value)) ?_
            exact StepFrom.move hop (v := (.slice Ab nb cb : Value)) (by kernel_rfl) (by kernel_rfl) hQS (Below.refl _ _) rfl
          refine StepsT.cons (fun (x : Value) (w : World) => TmsV (tt :: ta :: tb :: tby) x w) [(20, (fun (x : Value) (_ : World) => x = (.bool false : Value))), (24, (fun (x : Value) (w : World) => TmsFull [tt, ta, tb] x w)), (25, (fun (x : Value) (_ : World) => x = (.slice Ab nb cb : Value)))] rfl rfl (fun oq hop _ wq hQS => ?_) ?_
          · refine StepFrom.more_eq ((.bool false : Value)) ?_
            refine StepFrom.more fun x24 h24 => ?_
            obtain h24 := h24
            refine StepFrom.more_eq ((.slice Ab nb cb : Value)) ?_
            obtain ⟨v9, w9, j1, j2, j3⟩ := append_tms oq.type h24 (HBV.out wq hQS) (by simp) (by simp) HN6.out
            exact StepFrom.append hop (vx := x24) (vy := .slice Ab nb cb) (by kernel_rfl) (by kernel_rfl) j1 (by kernel_rfl) (hQS.trans (j2.mono hQS.size)) j2 j3
          refine StepsT.cons (fun (x : Value) (_ : World) => x = (.bool true : Value)) [(20, (fun (x : Value) (_ : World) => x = (.bool false : Value))), (26, (fun (x : Value) (w : World) => TmsV (tt :: ta :: tb :: tby) x w))] rfl rfl (fun oq hop _ wq hQS => ?_) ?_
          · refine StepFrom.more_eq ((.bool false : Value)) ?_
            refine StepFrom.more fun x26 h26 => ?_
            obtain ⟨A26, c26, rfl, k26⟩ := h26
            exact StepFrom.call hop (vs := [(.slice A26 (tt :: ta :: tb :: tby).length c26 : Value)]) (by kernel_rfl) (fun w => enter_tame _ w) (by kernel_rfl) ((HTM.out A26 c26 wq hQS k26).mono fun e w9 h9 => by obtain ⟨q1, q2⟩ := h9; exact ⟨_, q1, hQS.trans (q2.mono hQS.size), q2, rfl⟩)
          refine StepsT.cons (fun (x : Value) (_ : World) => x = (.bool false : Value)) [(20, (fun (x : Value) (_ : World) => x = (.bool false : Value))), (27, (fun (x : Value) (_ : World) => x = (.bool true : Value)))] rfl rfl (fun oq hop _ wq hQS => ?_) ?_
          · refine StepFrom.more_eq ((.bool false : Value)) ?_
            refine StepFrom.more_eq ((.bool true : Value)) ?_
            exact StepFrom.not hop (b := true) (by kernel_rfl) (by kernel_rfl) hQS (Below.refl _ _) rfl
          refine StepsT.cons (fun (x : Value) (_ : World) => x = (.bool false : Value)) [(20, (fun (x : Value) (_ : World) => x = (.bool false : Value))), (28, (fun (x : Value) (_ : World) => x = (.bool false : Value)))] rfl rfl (fun oq hop _ wq hQS => ?_) ?_
          · refine StepFrom.more_eq ((.bool false : Value)) ?_
            refine StepFrom.more_eq ((.bool false : Value)) ?_
            exact StepFrom.pick hop (b := false) (vx := (Value.bool true : Value)) (vy := (.bool false : Value)) (by kernel_rfl) (by kernel_rfl) (by kernel_rfl) (by kernel_rfl) hQS (Below.refl _ _) rfl
          refine StepsT.cons (fun (x : Value) (_ : World) => x = (.bool false : Value)) [(29, (fun (x : Value) (_ : World) => x = (.bool false : Value)))] rfl rfl (fun oq hop _ wq hQS => ?_) ?_
          · refine StepFrom.more_eq ((.bool false : Value)) ?_
            exact StepFrom.move hop (v := (.bool false : Value)) (by kernel_rfl) (by kernel_rfl) hQS (Below.refl _ _) rfl
          refine StepsT.cons (fun (x : Value) (_ : World) => x = (.agg #[s0, s1, s2, s3, s4] : Value)) [(30, (fun (x : Value) (_ : World) => x = (.bool false : Value)))] rfl rfl (fun oq hop _ wq hQS => ?_) ?_
          · refine StepFrom.more_eq ((.bool false : Value)) ?_
            exact StepFrom.load hop (p := (.pointer (some ⟨w.heap.size, 0, none⟩) : Value)) (by kernel_rfl) (load_box X0.out hQS) (by kernel_rfl) hQS (Below.refl _ _) rfl
          refine StepsT.cons (fun (x : Value) (_ : World) => x = (.agg #[p0, p1, p2, p3, p4] : Value)) [(30, (fun (x : Value) (_ : World) => x = (.bool false : Value)))] rfl rfl (fun oq hop _ wq hQS => ?_) ?_
          · refine StepFrom.more_eq ((.bool false : Value)) ?_
            exact StepFrom.load hop (p := (.pointer (some ⟨w.heap.size + 1, 0, none⟩) : Value)) (by kernel_rfl) (load_box X1.out hQS) (by kernel_rfl) hQS (Below.refl _ _) rfl
          refine StepsT.cons (fun (x : Value) (_ : World) => x = (.int .i64 T1 : Value)) [(30, (fun (x : Value) (_ : World) => x = (.bool false : Value))), (31, (fun (x : Value) (_ : World) => x = (.agg #[s0, s1, s2, s3, s4] : Value))), (32, (fun (x : Value) (_ : World) => x = (.agg #[p0, p1, p2, p3, p4] : Value)))] rfl rfl (fun oq hop _ wq hQS => ?_) ?_
          · refine StepFrom.more_eq ((.bool false : Value)) ?_
            refine StepFrom.more_eq ((.agg #[s0, s1, s2, s3, s4] : Value)) ?_
            refine StepFrom.more_eq ((.agg #[p0, p1, p2, p3, p4] : Value)) ?_
            exact StepFrom.call hop (vs := [(.agg #[s0, s1, s2, s3, s4] : Value), (.agg #[p0, p1, p2, p3, p4] : Value)]) (by kernel_rfl) (fun w => enter_times _ w) (by kernel_rfl) ((HX1.out wq hQS).mono fun e w9 h9 => by obtain ⟨q1, q2⟩ := h9; exact ⟨_, q1, hQS.trans (q2.mono hQS.size), q2, rfl⟩)
          refine StepsT.cons (fun (x : Value) (_ : World) => x = (.agg #[q0, q1, q2, q3, q4] : Value)) [(30, (fun (x : Value) (_ : World) => x = (.bool false : Value)))] rfl rfl (fun oq hop _ wq hQS => ?_) ?_
          · refine StepFrom.more_eq ((.bool false : Value)) ?_
            exact StepFrom.load hop (p := (.pointer (some ⟨w.heap.size + 1 + 1, 0, none⟩) : Value)) (by kernel_rfl) (load_box X2.out hQS) (by kernel_rfl) hQS (Below.refl _ _) rfl
          refine StepsT.cons (fun (x : Value) (_ : World) => x = (.agg #[p0, p1, p2, p3, p4] : Value)) [(30, (fun (x : Value) (_ : World) => x = (.bool false : Value)))] rfl rfl (fun oq hop _ wq hQS => ?_) ?_
          · refine StepFrom.more_eq ((.bool false : Value)) ?_
            exact StepFrom.load hop (p := (.pointer (some ⟨w.heap.size + 1, 0, none⟩) : Value)) (by kernel_rfl) (load_box X1.out hQS) (by kernel_rfl) hQS (Below.refl _ _) rfl
          refine StepsT.cons (fun (x : Value) (_ : World) => x = (.int .i64 T2 : Value)) [(30, (fun (x : Value) (_ : World) => x = (.bool false : Value))), (34, (fun (x : Value) (_ : World) => x = (.agg #[q0, q1, q2, q3, q4] : Value))), (35, (fun (x : Value) (_ : World) => x = (.agg #[p0, p1, p2, p3, p4] : Value)))] rfl rfl (fun oq hop _ wq hQS => ?_) ?_
          · refine StepFrom.more_eq ((.bool false : Value)) ?_
            refine StepFrom.more_eq ((.agg #[q0, q1, q2, q3, q4] : Value)) ?_
            refine StepFrom.more_eq ((.agg #[p0, p1, p2, p3, p4] : Value)) ?_
            exact StepFrom.call hop (vs := [(.agg #[q0, q1, q2, q3, q4] : Value), (.agg #[p0, p1, p2, p3, p4] : Value)]) (by kernel_rfl) (fun w => enter_times _ w) (by kernel_rfl) ((HX2.out wq hQS).mono fun e w9 h9 => by obtain ⟨q1, q2⟩ := h9; exact ⟨_, q1, hQS.trans (q2.mono hQS.size), q2, rfl⟩)
          refine StepsT.cons (fun (x : Value) (_ : World) => x = (.int .i64 T3 : Value)) [(30, (fun (x : Value) (_ : World) => x = (.bool false : Value))), (33, (fun (x : Value) (_ : World) => x = (.int .i64 T1 : Value))), (36, (fun (x : Value) (_ : World) => x = (.int .i64 T2 : Value)))] rfl rfl (fun oq hop _ wq hQS => ?_) ?_
          · refine StepFrom.more_eq ((.bool false : Value)) ?_
            refine StepFrom.more_eq ((.int .i64 T1 : Value)) ?_
            refine StepFrom.more_eq ((.int .i64 T2 : Value)) ?_
            exact StepFrom.bin hop (vx := (.int .i64 T1 : Value)) (vy := (.int .i64 T2 : Value)) (by kernel_rfl) (by kernel_rfl) (mul_to _ _ _ HWP.out) (by kernel_rfl) hQS (Below.refl _ _) rfl
          refine StepsT.cons (fun (x : Value) (_ : World) => x = (.bool false : Value)) [(30, (fun (x : Value) (_ : World) => x = (.bool false : Value))), (37, (fun (x : Value) (_ : World) => x = (.int .i64 T3 : Value)))] rfl rfl (fun oq hop _ wq hQS => ?_) ?_
          · refine StepFrom.more_eq ((.bool false : Value)) ?_
            refine StepFrom.more_eq ((.int .i64 T3 : Value)) ?_
            exact StepFrom.bin hop (vx := (.int .i64 T3 : Value)) (vy := (.int .i64 36000 : Value)) (by kernel_rfl) (by kernel_rfl) (gtr_to _ _ _ HTXB.out) (by kernel_rfl) hQS (Below.refl _ _) rfl
          refine StepsT.cons (fun (x : Value) (_ : World) => x = (.bool false : Value)) [(30, (fun (x : Value) (_ : World) => x = (.bool false : Value))), (38, (fun (x : Value) (_ : World) => x = (.bool false : Value)))] rfl rfl (fun oq hop _ wq hQS => ?_) ?_
          · refine StepFrom.more_eq ((.bool false : Value)) ?_
            refine StepFrom.more_eq ((.bool false : Value)) ?_
            exact StepFrom.pick hop (b := false) (vx := (Value.bool true : Value)) (vy := (.bool false : Value)) (by kernel_rfl) (by kernel_rfl) (by kernel_rfl) (by kernel_rfl) hQS (Below.refl _ _) rfl
          exact StepsT.nil
        case hfin =>
          intro wf hFS
          refine FinalFrom.more fun x13 h13 => ?_
          refine FinalFrom.more fun x14 h14 => ?_
          refine FinalFrom.more fun x15 h15 => ?_
          refine FinalFrom.more fun x16 h16 => ?_
          refine FinalFrom.more fun x17 h17 => ?_
          refine FinalFrom.more fun x18 h18 => ?_
          refine FinalFrom.more fun x19 h19 => ?_
          refine FinalFrom.more fun x20 h20 => ?_
          refine FinalFrom.more fun x21 h21 => ?_
          refine FinalFrom.more fun x22 h22 => ?_
          refine FinalFrom.more fun x23 h23 => ?_
          refine FinalFrom.more fun x24 h24 => ?_
          refine FinalFrom.more fun x25 h25 => ?_
          refine FinalFrom.more fun x26 h26 => ?_
          refine FinalFrom.more fun x27 h27 => ?_
          refine FinalFrom.more fun x28 h28 => ?_
          refine FinalFrom.more fun x29 h29 => ?_
          refine FinalFrom.more fun x30 h30 => ?_
          refine FinalFrom.more fun x31 h31 => ?_
          refine FinalFrom.more fun x32 h32 => ?_
          refine FinalFrom.more fun x33 h33 => ?_
          refine FinalFrom.more fun x34 h34 => ?_
          refine FinalFrom.more fun x35 h35 => ?_
          refine FinalFrom.more fun x36 h36 => ?_
          refine FinalFrom.more fun x37 h37 => ?_
          refine FinalFrom.more fun x38 h38 => ?_
          refine FinalFrom.more fun x39 h39 => ?_
          refine FinalFrom.done ?_
          rw [show x39 = .bool false from h39]
          clear hS
          obtain ⟨g1, g2, g3, g4, u1, cc, OT, m1, m2, m3, m4, m5, m6, m7, m8, m9⟩ := meets_terms FT.out FA.out FB.out (by have := of_decide_eq_false HGRB.out; omega) HTMB.out
          rw [HNB.out] at g1 g2 g3
          obtain ⟨l1, hl1⟩ : ∃ x, tt.walk (liftT (nb : Int) 0) 0 = x := ⟨_, rfl⟩
          rw [hl1] at g1 g2 g3
          have hfs := hFS.size
          have HTf := Lib.hid (HT2.out.below hFS hfs)
          have HAf := Lib.hid (HA2.out.below hFS hfs)
          have HBf := Lib.hid (HB2.out.below hFS hfs)
          have X0f := Lib.hid ((hFS.block _ (heap_some_lt X0.out)).trans X0.out)
          have X1f := Lib.hid ((hFS.block _ (heap_some_lt X1.out)).trans X1.out)
          have X2f := Lib.hid ((hFS.block _ (heap_some_lt X2.out)).trans X2.out)
          have HKf : Hid (∀ w', Below wf.heap.size wf w' → KindsAll w') := fun w' hx => HKB.out w' (hFS.trans (hx.mono hfs))
          have HBVf : Hid (∀ w', Below wf.heap.size wf w' → TmsV tby (.slice Ab nb cb) w') := fun w' hx => HBV.out w' (hFS.trans (hx.mono hfs))
          have HENDf : Hid (∀ w', Below wf.heap.size wf w' → Below w.heap.size w w') := fun w' hx => HEND.out w' (hFS.trans (hx.mono hfs))
          have FBS : Hid (∀ b ∈ tby, b.fit ∧ b.size ≤ 1073741824) := fun b hb => ⟨FBY.out b hb, by
            have h1 := Tm.sizeL_mem (show b ∈ (tt :: ta :: tb :: tby) by simp [hb])
            have := HSL.out
            omega⟩
          have HL1 := Lib.hid hl1
          have G1 := Lib.hid g1
          have G2 := Lib.hid g2
          have G3 := Lib.hid g3
          have G4 := Lib.hid g4
          have M1 := Lib.hid m1
          have M2 := Lib.hid m2
          have M3 := Lib.hid m3
          have M4 := Lib.hid m4
          have M5 := Lib.hid m5
          have M6 := Lib.hid m6
          have M7 := Lib.hid m7
          have M8 := Lib.hid m8
          have M9 := Lib.hid m9
          clear hFS hfs hl1 g1 g2 g3 g4 m1 m2 m3 m4 m5 m6 m7 m8 m9 HT2 HA2 HB2 X0 X1 X2 HKB HBV HEND HK2 HBY2 HGR HTM HX1 HX2 HGRB HTMB HTXB HWP
          simp only [Act.put, List.setIfInBounds_toArray, List.set_cons_zero, List.set_cons_succ]
          go_upto_region 5 with (fail)
          have hS : Below wf.heap.size wf wf.drew := (Below.refl _ _).drew
          refine wp_region_tab (fun w' => Below wf.heap.size wf w') (fun w1 w2 : World => Below w1.heap.size w1 w2) [(fun (x : Value) (_ : World) => x = (.agg #[s0, s1, s2, s3, s4] : Value)), (fun (x : Value) (_ : World) => x = (.slice Ab nb cb : Value)), (fun (x : Value) (_ : World) => x = (.int .i64 (nb : Int) : Value)), (fun (x : Value) (w : World) => TmAt w w.heap.size l1 x), (fun (x : Value) (_ : World) => x = (.slice Ab nb cb : Value)), (fun (x : Value) (w : World) => TmAt w w.heap.size tt x), (fun (x : Value) (_ : World) => x = (.agg #[s0, s1, s2, s3, s4] : Value)), (fun (x : Value) (w : World) => TmAt w w.heap.size tt x), (fun (x : Value) (_ : World) => x = (.bool true : Value)), (fun (x : Value) (_ : World) => x = (.bool false : Value))] [⟨some 40, .load 26 (.tmp 4), none, []⟩, ⟨some 41, .move (.tmp 3), none, []⟩, ⟨some 42, .call { callee := .builtin .len, args := #[.tmp 41], argTypes := #[24] }, none, [(41, 1)]⟩, ⟨some 43, .call { callee := .value (.func 11), args := #[.tmp 40, .tmp 42, .const (.int .i64 0)], argTypes := #[26, 3, 3] }, none, [(40, 0), (42, 2)]⟩, ⟨some 44, .move (.tmp 3), none, []⟩, ⟨some 45, .call { callee := .value (.func 10), args := #[.tmp 43, .tmp 44], argTypes := #[26, 24] }, none, [(43, 3), (44, 4)]⟩, ⟨some 46, .load 26 (.tmp 4), none, []⟩, ⟨some 47, .call { callee := .value (.func 11), args := #[.tmp 46, .const (.int .i64 0), .const (.int .i64 0)], argTypes := #[26, 3, 3] }, none, [(46, 6)]⟩, ⟨some 48, .call { callee := .value (.func 9), args := #[.tmp 45, .tmp 47], argTypes := #[26, 26] }, none, [(45, 5), (47, 7)]⟩, ⟨some 49, .unOp .not 4 (.tmp 48), none, [(48, 8)]⟩] [some 40, some 41, some 42, some 43, some 44, some 45, some 46, some 47, some 48, some 49] (by kernel_rfl) (by kernel_rfl) (by kernel_rfl) (by kernel_rfl) (by kernel_rfl) ?hS ?hmono ?hsteps ?hfin
          case hS => exact hS
          case hmono =>
            refine MonoL.cons (fun x w1 w2 _ _ _ hx => hx) ?_
            refine MonoL.cons (fun x w1 w2 _ _ _ hx => hx) ?_
            refine MonoL.cons (fun x w1 w2 _ _ _ hx => hx) ?_
            refine MonoL.cons (fun x w1 w2 _ _ hR hx => ?_) ?_
            · exact hx.below hR hR.size
            refine MonoL.cons (fun x w1 w2 _ _ _ hx => hx) ?_
            refine MonoL.cons (fun x w1 w2 _ _ hR hx => ?_) ?_
            · exact hx.below hR hR.size
            refine MonoL.cons (fun x w1 w2 _ _ _ hx => hx) ?_
            refine MonoL.cons (fun x w1 w2 _ _ hR hx => ?_) ?_
            · exact hx.below hR hR.size
            refine MonoL.cons (fun x w1 w2 _ _ _ hx => hx) ?_
            refine MonoL.cons (fun x w1 w2 _ _ _ hx => hx) ?_
            exact MonoL.nil
          case hsteps =>
            refine StepsT.cons (fun (x : Value) (_ : World) => x = (.agg #[s0, s1, s2, s3, s4] : Value)) [] rfl rfl (fun oq hop _ wq hQS => ?_) ?_
            · exact StepFrom.load hop (p := (.pointer (some ⟨w.heap.size, 0, none⟩) : Value)) (by kernel_rfl) (load_box X0f.out hQS) (by kernel_rfl) hQS (Below.refl _ _) rfl
            refine StepsT.cons (fun (x : Value) (_ : World) => x = (.slice Ab nb cb : Value)) [] rfl rfl (fun oq hop _ wq hQS => ?_) ?_
            · exact StepFrom.move hop (v := (.slice Ab nb cb : Value)) (by kernel_rfl) (by kernel_rfl) hQS (Below.refl _ _) rfl
            refine StepsT.cons (fun (x : Value) (_ : World) => x = (.int .i64 (nb : Int) : Value)) [(41, (fun (x : Value) (_ : World) => x = (.slice Ab nb cb : Value)))] rfl rfl (fun oq hop _ wq hQS => ?_) ?_
            · refine StepFrom.more_eq ((.slice Ab nb cb : Value)) ?_
              exact StepFrom.lenT hop (show _ = (.slice Ab nb cb : Value) by kernel_rfl) (by kernel_rfl) hQS (Below.refl _ _) rfl
            refine StepsT.cons (fun (x : Value) (w : World) => TmAt w w.heap.size l1 x) [(40, (fun (x : Value) (_ : World) => x = (.agg #[s0, s1, s2, s3, s4] : Value))), (42, (fun (x : Value) (_ : World) => x = (.int .i64 (nb : Int) : Value)))] rfl rfl (fun oq hop _ wq hQS => ?_) ?_
            · refine StepFrom.more_eq ((.agg #[s0, s1, s2, s3, s4] : Value)) ?_
              refine StepFrom.more_eq ((.int .i64 (nb : Int) : Value)) ?_
              exact StepFrom.call hop (vs := [(.agg #[s0, s1, s2, s3, s4] : Value), (.int .i64 (nb : Int) : Value), (.int .i64 0 : Value)]) (by kernel_rfl) (fun w => enter_lift _ w) (by kernel_rfl) (((show Calls Tryd.prog 11 #[.agg #[s0, s1, s2, s3, s4], .int .i64 (nb : Int), .int .i64 0] wq (TmPost wq l1) from HL1.out ▸ lift_tm tt _ wq (nb : Int) 0 FT.out (by have := HSZ.out; omega) (HKf.out wq hQS) (HTf.out.below hQS hQS.size))).mono fun e w9 h9 => by obtain ⟨v, q1, q2, q3⟩ := h9; exact ⟨_, q1, hQS.trans (q3.mono hQS.size), q3, q2⟩)
            refine StepsT.cons (fun (x : Value) (_ : World) => x = (.slice Ab nb cb : Value)) [] rfl rfl (fun oq hop _ wq hQS => ?_) ?_
            · exact StepFrom.move hop (v := (.slice Ab nb cb : Value)) (by kernel_rfl) (by kernel_rfl) hQS (Below.refl _ _) rfl
            refine StepsT.cons (fun (x : Value) (w : World) => TmAt w w.heap.size tt x) [(43, (fun (x : Value) (w : World) => TmAt w w.heap.size l1 x)), (44, (fun (x : Value) (_ : World) => x = (.slice Ab nb cb : Value)))] rfl rfl (fun oq hop _ wq hQS => ?_) ?_
            · refine StepFrom.more fun x43 h43 => ?_
              obtain h43 := h43
              refine StepFrom.more_eq ((.slice Ab nb cb : Value)) ?_
              exact StepFrom.call hop (vs := [(x43 : Value), (.slice Ab nb cb : Value)]) (by kernel_rfl) (fun w => enter_putTm _ w) (by kernel_rfl) (((show Calls Tryd.prog 10 #[x43, .slice Ab nb cb] wq (TmPost wq tt) from (congrArg (TmPost wq) G3.out) ▸ put_tm l1 tby x43 _ wq G1.out (by have := G2.out; omega) (HKf.out wq hQS) h43 HN6.out (HBVf.out wq hQS) FBS.out)).mono fun e w9 h9 => by obtain ⟨v, q1, q2, q3⟩ := h9; exact ⟨_, q1, hQS.trans (q3.mono hQS.size), q3, q2⟩)
            refine StepsT.cons (fun (x : Value) (_ : World) => x = (.agg #[s0, s1, s2, s3, s4] : Value)) [] rfl rfl (fun oq hop _ wq hQS => ?_) ?_
            · exact StepFrom.load hop (p := (.pointer (some ⟨w.heap.size, 0, none⟩) : Value)) (by kernel_rfl) (load_box X0f.out hQS) (by kernel_rfl) hQS (Below.refl _ _) rfl
            refine StepsT.cons (fun (x : Value) (w : World) => TmAt w w.heap.size tt x) [(46, (fun (x : Value) (_ : World) => x = (.agg #[s0, s1, s2, s3, s4] : Value)))] rfl rfl (fun oq hop _ wq hQS => ?_) ?_
            · refine StepFrom.more_eq ((.agg #[s0, s1, s2, s3, s4] : Value)) ?_
              exact StepFrom.call hop (vs := [(.agg #[s0, s1, s2, s3, s4] : Value), (.int .i64 0 : Value), (.int .i64 0 : Value)]) (by kernel_rfl) (fun w => enter_lift _ w) (by kernel_rfl) (((show Calls Tryd.prog 11 #[.agg #[s0, s1, s2, s3, s4], .int .i64 0, .int .i64 0] wq (TmPost wq tt) from (congrArg (TmPost wq) G4.out) ▸ lift_tm tt _ wq 0 0 FT.out (by have := HSZ.out; omega) (HKf.out wq hQS) (HTf.out.below hQS hQS.size))).mono fun e w9 h9 => by obtain ⟨v, q1, q2, q3⟩ := h9; exact ⟨_, q1, hQS.trans (q3.mono hQS.size), q3, q2⟩)
            refine StepsT.cons (fun (x : Value) (_ : World) => x = (.bool true : Value)) [(45, (fun (x : Value) (w : World) => TmAt w w.heap.size tt x)), (47, (fun (x : Value) (w : World) => TmAt w w.heap.size tt x))] rfl rfl (fun oq hop _ wq hQS => ?_) ?_
            · refine StepFrom.more fun x45 h45 => ?_
              obtain h45 := h45
              refine StepFrom.more fun x47 h47 => ?_
              obtain h47 := h47
              exact StepFrom.call hop (vs := [(x45 : Value), (x47 : Value)]) (by kernel_rfl) (fun w => enter_sameTm2 _ w) (by kernel_rfl) ((same2_any tt tt x45 x47 wq true FT.out FT.out h45 h47 (by simp)).mono fun e w9 h9 => by obtain ⟨q1, q2⟩ := h9; exact ⟨_, q1, hQS.trans (q2.mono hQS.size), q2, rfl⟩)
            refine StepsT.cons (fun (x : Value) (_ : World) => x = (.bool false : Value)) [(48, (fun (x : Value) (_ : World) => x = (.bool true : Value)))] rfl rfl (fun oq hop _ wq hQS => ?_) ?_
            · refine StepFrom.more_eq ((.bool true : Value)) ?_
              exact StepFrom.not hop (b := true) (by kernel_rfl) (by kernel_rfl) hQS (Below.refl _ _) rfl
            exact StepsT.nil
          case hfin =>
            intro wg hFS
            refine FinalFrom.more fun x40 h40 => ?_
            refine FinalFrom.more fun x41 h41 => ?_
            refine FinalFrom.more fun x42 h42 => ?_
            refine FinalFrom.more fun x43 h43 => ?_
            refine FinalFrom.more fun x44 h44 => ?_
            refine FinalFrom.more fun x45 h45 => ?_
            refine FinalFrom.more fun x46 h46 => ?_
            refine FinalFrom.more fun x47 h47 => ?_
            refine FinalFrom.more fun x48 h48 => ?_
            refine FinalFrom.more fun x49 h49 => ?_
            refine FinalFrom.done ?_
            rw [show x49 = .bool false from h49]
            clear hS
            have hfs := hFS.size
            have HTg := Lib.hid (HTf.out.below hFS hfs)
            have HAg := Lib.hid (HAf.out.below hFS hfs)
            have HBg := Lib.hid (HBf.out.below hFS hfs)
            have X0g := Lib.hid ((hFS.block _ (heap_some_lt X0f.out)).trans X0f.out)
            have X1g := Lib.hid ((hFS.block _ (heap_some_lt X1f.out)).trans X1f.out)
            have X2g := Lib.hid ((hFS.block _ (heap_some_lt X2f.out)).trans X2f.out)
            have HKg : Hid (∀ w', Below wg.heap.size wg w' → KindsAll w') := fun w' hx => HKf.out w' (hFS.trans (hx.mono hfs))
            have HENDg : Hid (∀ w', Below wg.heap.size wg w' → Below w.heap.size w w') := fun w' hx => HENDf.out w' (hFS.trans (hx.mono hfs))
            clear hFS hfs HTf HAf HBf X0f X1f X2f HKf HENDf HBVf h49
            simp only [Act.put, List.setIfInBounds_toArray, List.set_cons_zero, List.set_cons_succ]
            go_upto_region 7 with (fail)
            have hS : Below wg.heap.size wg wg.drew := (Below.refl _ _).drew
            refine wp_region_tailPW 8 (fun w' => Below wg.heap.size wg w') (fun w1 w2 : World => Below w1.heap.size w1 w2) [(fun (x : Value) (_ : World) => x = (.agg #[s0, s1, s2, s3, s4] : Value)), (fun (x : Value) (_ : World) => x = (.agg #[p0, p1, p2, p3, p4] : Value)), (fun (x : Value) (w : World) => TmsV [ta] x w), (fun (x : Value) (w : World) => TmAt w w.heap.size u1 x), (fun (x : Value) (_ : World) => x = (.agg #[q0, q1, q2, q3, q4] : Value)), (fun (x : Value) (w : World) => TmsV [tb] x w), (fun (x : Value) (w : World) => OwnV OT x w), (fun (x : Value) (w : World) => BoxV wg.heap.size x w)] [(6, NewV OT), (7, NewB)] [⟨6, 7, OffV OT⟩] [⟨some 50, .load 26 (.tmp 4), none, []⟩, ⟨some 51, .load 26 (.tmp 5), none, []⟩, ⟨some 52, .buildSlice 24 1 #[(0, .tmp 51)], none, [(51, 1)]⟩, ⟨some 53, .call { callee := .value (.func 10), args := #[.tmp 50, .tmp 52], argTypes := #[26, 24] }, none, [(50, 0), (52, 2)]⟩, ⟨some 54, .load 26 (.tmp 6), none, []⟩, ⟨some 55, .buildSlice 24 1 #[(0, .tmp 54)], none, [(54, 4)]⟩, ⟨some 56, .call { callee := .value (.func 10), args := #[.tmp 53, .tmp 55], argTypes := #[26, 24] }, none, [(53, 3), (55, 5)]⟩, ⟨some 9, .alloc 26, none, []⟩] [some 50, some 51, some 52, some 53, some 54, some 55, some 56, some 9] (by kernel_rfl) (by kernel_rfl) (by kernel_rfl) (by kernel_rfl) (by kernel_rfl) (by kernel_rfl) ?hb ?hS ?hmono ?hpr ?hsteps ?hfin
            case hb => intro q hq; obtain rfl := List.mem_singleton.1 hq; exact ⟨by simp, by simp⟩
            case hS => exact hS
            case hmono =>
              refine MonoL.cons (fun x w1 w2 _ _ _ hx => hx) ?_
              refine MonoL.cons (fun x w1 w2 _ _ _ hx => hx) ?_
              refine MonoL.cons (fun x w1 w2 _ _ hR hx => ?_) ?_
              · exact hx.mono hR
              refine MonoL.cons (fun x w1 w2 _ _ hR hx => ?_) ?_
              · exact hx.below hR hR.size
              refine MonoL.cons (fun x w1 w2 _ _ _ hx => hx) ?_
              refine MonoL.cons (fun x w1 w2 _ _ hR hx => ?_) ?_
              · exact hx.mono hR
              refine MonoL.cons (fun x w1 w2 _ _ hR hx => ?_) ?_
              · exact hx.mono hR
              refine MonoL.cons (fun x w1 w2 _ _ hR hx => ?_) ?_
              · exact hx.mono hR
              exact MonoL.nil
            case hpr =>
              exact off_ok (B := wg.heap.size) (by decide) rfl rfl rfl rfl
            case hsteps =>
              refine StepsPW.cons (fun (x : Value) (_ : World) => x = (.agg #[s0, s1, s2, s3, s4] : Value)) [] rfl rfl rfl (fun oq hop _ wq hQS => ?_) ?_
              · exact StepFrom.load hop (by kernel_rfl) (load_box X0g.out hQS) (by kernel_rfl) hQS (Below.refl _ _) rfl
              refine StepsPW.cons (fun (x : Value) (_ : World) => x = (.agg #[p0, p1, p2, p3, p4] : Value)) [] rfl rfl rfl (fun oq hop _ wq hQS => ?_) ?_
              · exact StepFrom.load hop (by kernel_rfl) (load_box X1g.out hQS) (by kernel_rfl) hQS (Below.refl _ _) rfl
              refine StepsPW.cons (fun (x : Value) (w : World) => TmsV [ta] x w) [(51, (fun (x : Value) (_ : World) => x = (.agg #[p0, p1, p2, p3, p4] : Value)))] rfl rfl rfl (fun oq hop _ wq hQS => ?_) ?_
              · refine StepFrom.more_eq ((.agg #[p0, p1, p2, p3, p4] : Value)) ?_
                exact StepFrom.slice hop (vs := [(0, .agg #[p0, p1, p2, p3, p4])]) (by kernel_rfl) (slice_tm (HAg.out.below hQS hQS.size)) (by kernel_rfl) (hQS.alloc hQS.size _) ((Below.refl _ _).alloc (Nat.le_refl _) _) (tmsV_one (HAg.out.below hQS hQS.size))
              refine StepsPW.cons (fun (x : Value) (w : World) => TmAt w w.heap.size u1 x) [(50, (fun (x : Value) (_ : World) => x = (.agg #[s0, s1, s2, s3, s4] : Value))), (52, (fun (x : Value) (w : World) => TmsV [ta] x w))] rfl rfl rfl (fun oq hop _ wq hQS => ?_) ?_
              · refine StepFrom.more_eq ((.agg #[s0, s1, s2, s3, s4] : Value)) ?_
                refine StepFrom.more fun x52 h52 => ?_
                obtain h52 := h52
                exact StepFrom.call hop (vs := [(.agg #[s0, s1, s2, s3, s4] : Value), (x52 : Value)]) (by kernel_rfl) (fun w => enter_putTm _ w) (by kernel_rfl) (((show Calls Tryd.prog 10 #[.agg #[s0, s1, s2, s3, s4], x52] wq (TmPost wq u1) from (congrArg (TmPost wq) M1.out) ▸ put_tm tt [ta] _ x52 wq FT.out (by have := HSZ.out; omega) (HKg.out wq hQS) (HTg.out.below hQS hQS.size) (by simp) h52 (fun b hb => by obtain rfl : b = ta := (by simpa using hb); exact ⟨FA.out, by have := HSZ.out; omega⟩))).mono fun e w9 h9 => by obtain ⟨v, q1, q2, q3⟩ := h9; exact ⟨_, q1, hQS.trans (q3.mono hQS.size), q3, q2⟩)
              refine StepsPW.cons (fun (x : Value) (_ : World) => x = (.agg #[q0, q1, q2, q3, q4] : Value)) [] rfl rfl rfl (fun oq hop _ wq hQS => ?_) ?_
              · exact StepFrom.load hop (by kernel_rfl) (load_box X2g.out hQS) (by kernel_rfl) hQS (Below.refl _ _) rfl
              refine StepsPW.cons (fun (x : Value) (w : World) => TmsV [tb] x w) [(54, (fun (x : Value) (_ : World) => x = (.agg #[q0, q1, q2, q3, q4] : Value)))] rfl rfl rfl (fun oq hop _ wq hQS => ?_) ?_
              · refine StepFrom.more_eq ((.agg #[q0, q1, q2, q3, q4] : Value)) ?_
                exact StepFrom.slice hop (vs := [(0, .agg #[q0, q1, q2, q3, q4])]) (by kernel_rfl) (slice_tm (HBg.out.below hQS hQS.size)) (by kernel_rfl) (hQS.alloc hQS.size _) ((Below.refl _ _).alloc (Nat.le_refl _) _) (tmsV_one (HBg.out.below hQS hQS.size))
              refine StepsPW.new (fun (x : Value) (w : World) => OwnV OT x w) (NewV OT) [(53, (fun (x : Value) (w : World) => TmAt w w.heap.size u1 x)), (55, (fun (x : Value) (w : World) => TmsV [tb] x w))] rfl rfl rfl (fun oq hop _ wq hQS => ?_) ?_
              · refine StepFrom.more fun x53 h53 => ?_
                obtain h53 := h53
                refine StepFrom.more fun x55 h55 => ?_
                obtain h55 := h55
                refine StepFrom.call hop (vs := [x53, x55]) (by kernel_rfl) (fun w => enter_putTm _ w) (by kernel_rfl) (((show Calls Tryd.prog 10 #[x53, x55] wq (TermPost wq OT) from (congrArg (TermPost wq) M4.out) ▸ put_own u1 [tb] x53 x55 wq M2.out (by have := M3.out; omega) (HKg.out wq hQS) h53 (by simp) h55 (fun b hb => by obtain rfl : b = tb := (by simpa using hb); exact ⟨FB.out, by have := HSZ.out; omega⟩))).mono fun e w9 h9 => ?_)
                obtain ⟨v, j1, j2, j3⟩ := h9
                exact ⟨_, j1, hQS.trans (j3.mono hQS.size), j3, ⟨_, _, j2, Nat.le_refl _⟩, j2⟩
              refine StepsPW.new (fun (x : Value) (w : World) => BoxV wg.heap.size x w) NewB [] rfl rfl rfl (fun oq hop _ wq hQS => ?_) ?_
              · exact StepFrom.alloc hop alloc_term (by kernel_rfl) (hQS.alloc hQS.size _) ((Below.refl _ _).alloc (Nat.le_refl _) _) ⟨⟨_, rfl, hQS.size, heap_alloc_new wq _⟩, _, rfl, Nat.le_refl _⟩
              exact StepsPW.nil
            case hfin =>
              intro wh hFS
              refine FinalFrom.more fun x50 h50 => ?_
              refine FinalFrom.more fun x51 h51 => ?_
              refine FinalFrom.more fun x52 h52 => ?_
              refine FinalFrom.more fun x53 h53 => ?_
              refine FinalFrom.more fun x54 h54 => ?_
              refine FinalFrom.more fun x55 h55 => ?_
              refine FinalFrom.more fun x56 h56 => ?_
              refine FinalFrom.more fun x9 h9 => ?_
              refine FinalFrom.done ?_
              intro hpr
              have hoff : OffV OT wh x56 x9 := hpr ⟨6, 7, OffV OT⟩ (List.mem_singleton.2 rfl) 56 9 x56 x9 (by kernel_rfl) (by kernel_rfl) (by kernel_rfl) (by kernel_rfl)
              obtain ⟨lo, hi, g7, o1, o2, eg, o3⟩ := hoff
              obtain ⟨g', eg', hgB, hgx⟩ := h9
              have egg : g' = g7 := by
                have h := eg'.symm.trans eg
                injection h with h
                injection h with h
                injection h
              rw [egg] at hgB hgx
              clear egg eg'
              subst eg
              obtain ⟨i17, i27, i37, B17, B27, n17, n27, n37, n47, rfl⟩ := own_shape o1
              obtain ⟨t1, t2, t3⟩ := store_off hgx o1 o2 o3 hgB
              obtain ⟨wi, hwi⟩ : ∃ x, store5 wh g7 0 (.int .i64 i17) (.int .i64 i27) (.int .i64 i37) (.slice B17 n17 n27) (.slice B27 n37 n47) = x := ⟨_, rfl⟩
              rw [hwi] at t1 t2 t3
              unfold store5 at hwi
              have e0 := cell_of_row _ _ 0 _ _ (0, 0) hgx
              have e1 := cell_of_row _ _ 1 _ _ (0, 0) hgx
              have e2 := cell_of_row _ _ 2 _ _ (0, 0) hgx
              have e3 := cell_of_row _ _ 3 _ _ (0, 0) hgx
              have e4 := cell_of_row _ _ 4 _ _ (0, 0) hgx
              have y0 := thawed hgx 0
              have y1 := thawed hgx 1
              have y2 := thawed hgx 2
              have y3 := thawed hgx 3
              have y4 := thawed hgx 4
              have hFS : Below wg.heap.size wg wi := hFS.trans t1
              have HO7 := Lib.hid t3
              have XO7 := Lib.hid t2
              have hfs := hFS.size
              have HTi := Lib.hid (HTg.out.below hFS hfs)
              have HAi := Lib.hid (HAg.out.below hFS hfs)
              have HBi := Lib.hid (HBg.out.below hFS hfs)
              have X0i := Lib.hid ((hFS.block _ (heap_some_lt X0g.out)).trans X0g.out)
              have X1i := Lib.hid ((hFS.block _ (heap_some_lt X1g.out)).trans X1g.out)
              have X2i := Lib.hid ((hFS.block _ (heap_some_lt X2g.out)).trans X2g.out)
              have HKi : Hid (∀ w', Below wi.heap.size wi w' → KindsAll w') := fun w' hx => HKg.out w' (hFS.trans (hx.mono hfs))
              have HENDi : Hid (∀ w', Below wi.heap.size wi w' → Below w.heap.size w w') := fun w' hx => HENDg.out w' (hFS.trans (hx.mono hfs))
              clear hS hpr o1 o2 o3 hgx hgB t1 t2 t3 hFS hfs HTg HAg HBg X0g X1g X2g HKg HENDg h50 h51 h52 h53 h54 h55 h56
              simp only [Act.put, List.setIfInBounds_toArray, List.set_cons_zero, List.set_cons_succ, List.drop_succ_cons, List.drop_zero]
              go_upto_region 8 with (fail)
              clear e0 e1 e2 e3 e4 y0 y1 y2 y3 y4 hwi
              have hS : Below wi.heap.size wi wi.drew := (Below.refl _ _).drew
              have FBC : Hid (∀ b ∈ [tb, cc], b.fit ∧ b.size ≤ 1073741824) := fun b hb => by
                rcases List.mem_cons.1 hb with rfl | hb
                · exact ⟨FB.out, by have := HSZ.out; omega⟩
                · obtain rfl : b = cc := (by simpa using hb)
                  exact ⟨M7.out, by have := M8.out; omega⟩
              refine wp_region_tailPW 9 (fun w' => Below wi.heap.size wi w') (fun w1 w2 : World => Below w1.heap.size w1 w2) [(fun (x : Value) (_ : World) => x = (.agg #[s0, s1, s2, s3, s4] : Value)), (fun (x : Value) (_ : World) => x = (.agg #[q0, q1, q2, q3, q4] : Value)), (fun (x : Value) (_ : World) => x = (.agg #[p0, p1, p2, p3, p4] : Value)), (fun (x : Value) (_ : World) => x = (.agg #[q0, q1, q2, q3, q4] : Value)), (fun (x : Value) (w : World) => TmsV [tb] x w), (fun (x : Value) (w : World) => TmAt w w.heap.size cc x), (fun (x : Value) (w : World) => TmsFull [tb, cc] x w), (fun (x : Value) (w : World) => OwnV OT x w), (fun (x : Value) (w : World) => BoxV wi.heap.size x w)] [(7, NewV OT), (8, NewB)] [⟨7, 8, OffV OT⟩] [⟨some 57, .load 26 (.tmp 4), none, []⟩, ⟨some 58, .load 26 (.tmp 6), none, []⟩, ⟨some 59, .load 26 (.tmp 5), none, []⟩, ⟨some 60, .load 26 (.tmp 6), none, []⟩, ⟨some 61, .buildSlice 24 1 #[(0, .tmp 60)], none, [(60, 3)]⟩, ⟨some 62, .call { callee := .value (.func 10), args := #[.tmp 59, .tmp 61], argTypes := #[26, 24] }, none, [(59, 2), (61, 4)]⟩, ⟨some 63, .buildSlice 24 2 #[(0, .tmp 58), (1, .tmp 62)], none, [(58, 1), (62, 5)]⟩, ⟨some 64, .call { callee := .value (.func 10), args := #[.tmp 57, .tmp 63], argTypes := #[26, 24] }, none, [(57, 0), (63, 6)]⟩, ⟨some 10, .alloc 26, none, []⟩] [some 57, some 58, some 59, some 60, some 61, some 62, some 63, some 64, some 10] (by kernel_rfl) (by kernel_rfl) (by kernel_rfl) (by kernel_rfl) (by kernel_rfl) (by kernel_rfl) ?hb ?hS ?hmono ?hpr ?hsteps ?hfin
              case hb => intro q hq; obtain rfl := List.mem_singleton.1 hq; exact ⟨by simp, by simp⟩
              case hS => exact hS
              case hmono =>
                refine MonoL.cons (fun x w1 w2 _ _ _ hx => hx) ?_
                refine MonoL.cons (fun x w1 w2 _ _ _ hx => hx) ?_
                refine MonoL.cons (fun x w1 w2 _ _ _ hx => hx) ?_
                refine MonoL.cons (fun x w1 w2 _ _ _ hx => hx) ?_
                refine MonoL.cons (fun x w1 w2 _ _ hR hx => ?_) ?_
                · exact hx.mono hR
                refine MonoL.cons (fun x w1 w2 _ _ hR hx => ?_) ?_
                · exact hx.below hR hR.size
                refine MonoL.cons (fun x w1 w2 _ _ hR hx => ?_) ?_
                · exact hx.mono hR
                refine MonoL.cons (fun x w1 w2 _ _ hR hx => ?_) ?_
                · exact hx.mono hR
                refine MonoL.cons (fun x w1 w2 _ _ hR hx => ?_) ?_
                · exact hx.mono hR
                exact MonoL.nil
              case hpr =>
                exact off_ok (B := wi.heap.size) (by decide) rfl rfl rfl rfl
              case hsteps =>
                refine StepsPW.cons (fun (x : Value) (_ : World) => x = (.agg #[s0, s1, s2, s3, s4] : Value)) [] rfl rfl rfl (fun oq hop _ wq hQS => ?_) ?_
                · exact StepFrom.load hop (by kernel_rfl) (load_box X0i.out hQS) (by kernel_rfl) hQS (Below.refl _ _) rfl
                refine StepsPW.cons (fun (x : Value) (_ : World) => x = (.agg #[q0, q1, q2, q3, q4] : Value)) [] rfl rfl rfl (fun oq hop _ wq hQS => ?_) ?_
                · exact StepFrom.load hop (by kernel_rfl) (load_box X2i.out hQS) (by kernel_rfl) hQS (Below.refl _ _) rfl
                refine StepsPW.cons (fun (x : Value) (_ : World) => x = (.agg #[p0, p1, p2, p3, p4] : Value)) [] rfl rfl rfl (fun oq hop _ wq hQS => ?_) ?_
                · exact StepFrom.load hop (by kernel_rfl) (load_box X1i.out hQS) (by kernel_rfl) hQS (Below.refl _ _) rfl
                refine StepsPW.cons (fun (x : Value) (_ : World) => x = (.agg #[q0, q1, q2, q3, q4] : Value)) [] rfl rfl rfl (fun oq hop _ wq hQS => ?_) ?_
                · exact StepFrom.load hop (by kernel_rfl) (load_box X2i.out hQS) (by kernel_rfl) hQS (Below.refl _ _) rfl
                refine StepsPW.cons (fun (x : Value) (w : World) => TmsV [tb] x w) [(60, (fun (x : Value) (_ : World) => x = (.agg #[q0, q1, q2, q3, q4] : Value)))] rfl rfl rfl (fun oq hop _ wq hQS => ?_) ?_
                · refine StepFrom.more_eq ((.agg #[q0, q1, q2, q3, q4] : Value)) ?_
                  exact StepFrom.slice hop (vs := [(0, .agg #[q0, q1, q2, q3, q4])]) (by kernel_rfl) (slice_tm (HBi.out.below hQS hQS.size)) (by kernel_rfl) (hQS.alloc hQS.size _) ((Below.refl _ _).alloc (Nat.le_refl _) _) (tmsV_one (HBi.out.below hQS hQS.size))
                refine StepsPW.cons (fun (x : Value) (w : World) => TmAt w w.heap.size cc x) [(59, (fun (x : Value) (_ : World) => x = (.agg #[p0, p1, p2, p3, p4] : Value))), (61, (fun (x : Value) (w : World) => TmsV [tb] x w))] rfl rfl rfl (fun oq hop _ wq hQS => ?_) ?_
                · refine StepFrom.more_eq ((.agg #[p0, p1, p2, p3, p4] : Value)) ?_
                  refine StepFrom.more fun x61 h61 => ?_
                  obtain h61 := h61
                  exact StepFrom.call hop (vs := [(.agg #[p0, p1, p2, p3, p4] : Value), (x61 : Value)]) (by kernel_rfl) (fun w => enter_putTm _ w) (by kernel_rfl) (((show Calls Tryd.prog 10 #[.agg #[p0, p1, p2, p3, p4], x61] wq (TmPost wq cc) from (congrArg (TmPost wq) M6.out) ▸ put_tm ta [tb] _ x61 wq FA.out (by have := HSZ.out; omega) (HKi.out wq hQS) (HAi.out.below hQS hQS.size) (by simp) h61 (fun b hb => by obtain rfl : b = tb := (by simpa using hb); exact ⟨FB.out, by have := HSZ.out; omega⟩))).mono fun e w9 h9 => by obtain ⟨v, q1, q2, q3⟩ := h9; exact ⟨_, q1, hQS.trans (q3.mono hQS.size), q3, q2⟩)
                refine StepsPW.cons (fun (x : Value) (w : World) => TmsFull [tb, cc] x w) [(58, (fun (x : Value) (_ : World) => x = (.agg #[q0, q1, q2, q3, q4] : Value))), (62, (fun (x : Value) (w : World) => TmAt w w.heap.size cc x))] rfl rfl rfl (fun oq hop _ wq hQS => ?_) ?_
                · refine StepFrom.more_eq ((.agg #[q0, q1, q2, q3, q4] : Value)) ?_
                  refine StepFrom.more fun x62 h62 => ?_
                  obtain h62 := h62
                  obtain ⟨d0, d1, d2, d3, d4, rfl⟩ := h62.cells
                  exact StepFrom.slice hop (vs := [(0, .agg #[q0, q1, q2, q3, q4]), (1, .agg #[d0, d1, d2, d3, d4])]) (by kernel_rfl) slice_tm2 (by kernel_rfl) (hQS.alloc hQS.size _) ((Below.refl _ _).alloc (Nat.le_refl _) _) (full_two (HBi.out.below hQS hQS.size) h62)
                refine StepsPW.new (fun (x : Value) (w : World) => OwnV OT x w) (NewV OT) [(57, (fun (x : Value) (_ : World) => x = (.agg #[s0, s1, s2, s3, s4] : Value))), (63, (fun (x : Value) (w : World) => TmsFull [tb, cc] x w))] rfl rfl rfl (fun oq hop _ wq hQS => ?_) ?_
                · refine StepFrom.more_eq ((.agg #[s0, s1, s2, s3, s4] : Value)) ?_
                  refine StepFrom.more fun x63 h63 => ?_
                  obtain h63 := h63
                  refine StepFrom.call hop (vs := [.agg #[s0, s1, s2, s3, s4], x63]) (by kernel_rfl) (fun w => enter_putTm _ w) (by kernel_rfl) (((show Calls Tryd.prog 10 #[.agg #[s0, s1, s2, s3, s4], x63] wq (TermPost wq OT) from (congrArg (TermPost wq) M9.out) ▸ put_own tt [tb, cc] _ x63 wq FT.out (by have := HSZ.out; omega) (HKi.out wq hQS) (HTi.out.below hQS hQS.size) (by simp) h63.row FBC.out)).mono fun e w9 h9 => ?_)
                  obtain ⟨v, j1, j2, j3⟩ := h9
                  exact ⟨_, j1, hQS.trans (j3.mono hQS.size), j3, ⟨_, _, j2, Nat.le_refl _⟩, j2⟩
                refine StepsPW.new (fun (x : Value) (w : World) => BoxV wi.heap.size x w) NewB [] rfl rfl rfl (fun oq hop _ wq hQS => ?_) ?_
                · exact StepFrom.alloc hop alloc_term (by kernel_rfl) (hQS.alloc hQS.size _) ((Below.refl _ _).alloc (Nat.le_refl _) _) ⟨⟨_, rfl, hQS.size, heap_alloc_new wq _⟩, _, rfl, Nat.le_refl _⟩
                exact StepsPW.nil
              case hfin =>
                intro wj hFS
                refine FinalFrom.more fun x57 h57 => ?_
                refine FinalFrom.more fun x58 h58 => ?_
                refine FinalFrom.more fun x59 h59 => ?_
                refine FinalFrom.more fun x60 h60 => ?_
                refine FinalFrom.more fun x61 h61 => ?_
                refine FinalFrom.more fun x62 h62 => ?_
                refine FinalFrom.more fun x63 h63 => ?_
                refine FinalFrom.more fun x64 h64 => ?_
                refine FinalFrom.more fun x10 h10 => ?_
                refine FinalFrom.done ?_
                intro hpr
                have hoff : OffV OT wj x64 x10 := hpr ⟨7, 8, OffV OT⟩ (List.mem_singleton.2 rfl) 64 10 x64 x10 (by kernel_rfl) (by kernel_rfl) (by kernel_rfl) (by kernel_rfl)
                obtain ⟨lo, hi, g8, o1, o2, eg, o3⟩ := hoff
                obtain ⟨g', eg', hgB, hgx⟩ := h10
                have egg : g' = g8 := by
                  have h := eg'.symm.trans eg
                  injection h with h
                  injection h with h
                  injection h
                rw [egg] at hgB hgx
                clear egg eg'
                subst eg
                obtain ⟨i18, i28, i38, B18, B28, n18, n28, n38, n48, rfl⟩ := own_shape o1
                obtain ⟨t1, t2, t3⟩ := store_off hgx o1 o2 o3 hgB
                obtain ⟨wk, hwk⟩ : ∃ x, store5 wj g8 0 (.int .i64 i18) (.int .i64 i28) (.int .i64 i38) (.slice B18 n18 n28) (.slice B28 n38 n48) = x := ⟨_, rfl⟩
                rw [hwk] at t1 t2 t3
                unfold store5 at hwk
                have e0 := cell_of_row _ _ 0 _ _ (0, 0) hgx
                have e1 := cell_of_row _ _ 1 _ _ (0, 0) hgx
                have e2 := cell_of_row _ _ 2 _ _ (0, 0) hgx
                have e3 := cell_of_row _ _ 3 _ _ (0, 0) hgx
                have e4 := cell_of_row _ _ 4 _ _ (0, 0) hgx
                have y0 := thawed hgx 0
                have y1 := thawed hgx 1
                have y2 := thawed hgx 2
                have y3 := thawed hgx 3
                have y4 := thawed hgx 4
                have hFS : Below wi.heap.size wi wk := hFS.trans t1
                have HO8 := Lib.hid t3
                have XO8 := Lib.hid t2
                have xo7 := (hFS.block _ (heap_some_lt XO7.out)).trans XO7.out
                have HS : Hid (Calls Tryd.prog 9 #[.agg #[.int .i64 i17, .int .i64 i27, .int .i64 i37, .slice B17 n17 n27, .slice B27 n37 n47], .agg #[.int .i64 i18, .int .i64 i28, .int .i64 i38, .slice B18 n18 n28, .slice B28 n38 n48]] wk (HasPost wk true)) :=
                  same2_any OT OT _ _ wk true M5.out M5.out (HO7.out.below hFS hFS.size) HO8.out (by simp)
                have HE : Hid (Below w.heap.size w wk) := HENDi.out wk hFS
                have HE2 : Hid (∀ w', Below wk.heap.size wk w' → Below w.heap.size w w') := fun w' hx => HENDi.out w' (hFS.trans (hx.mono hFS.size))
                have r0 := cell_of_row _ _ 0 _ _ (0, 0) xo7
                have r1 := cell_of_row _ _ 1 _ _ (0, 0) xo7
                have r2 := cell_of_row _ _ 2 _ _ (0, 0) xo7
                have r3 := cell_of_row _ _ 3 _ _ (0, 0) xo7
                have r4 := cell_of_row _ _ 4 _ _ (0, 0) xo7
                have r5 := cell_of_row _ _ 0 _ _ (0, 0) XO8.out
                have r6 := cell_of_row _ _ 1 _ _ (0, 0) XO8.out
                have r7 := cell_of_row _ _ 2 _ _ (0, 0) XO8.out
                have r8 := cell_of_row _ _ 3 _ _ (0, 0) XO8.out
                have r9 := cell_of_row _ _ 4 _ _ (0, 0) XO8.out
                clear hS hpr o1 o2 o3 hgx hgB t1 t2 t3 hFS xo7 h57 h58 h59 h60 h61 h62 h63 h64
                simp only [Act.put, List.setIfInBounds_toArray, List.set_cons_zero, List.set_cons_succ, List.drop_succ_cons, List.drop_zero]
                go_wp2_with (fail)
                refine HS.out.mono ?_
                rintro e w9 ⟨rfl, hb9⟩
                have HF : Hid (HasPost w true (.returned (.bool true)) w9) := ⟨rfl, HE2.out w9 hb9⟩
                clear hb9
                go_wp2
                go_ret
                exact HF.out
end Go.Proofs.YtafgmndlbbjphaaDoor
