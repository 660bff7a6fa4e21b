/- The law TeleEnds. -/
import Derived.Test.YtaoglkkdhdfioaaGreatDoorEvWk
import Derived.Test.YtaoglkkdhdfioaaGreatDoorTeEndsA
import Derived.KernelRfl
import Derived.Test.YtaoglkkdhdfioaaGreatDoorProg
namespace Go.Proofs.YtaoglkkdhdfioaaGreatDoor
open Go Go.Proofs
set_option maxRecDepth 100000
set_option maxHeartbeats 8000000
attribute [local go_sem] AH.seals AH.adds news List.nil_append List.cons_append AF.put AF.start Slots.set Slots.ins zipA AH.zero AH.new AH.put AH.sub ofV AV.cells List.length AF.keep AH.cut List.filter_cons List.filter_nil List.contains_cons List.contains_nil Nat.reduceBEq Bool.or_false Bool.or_true Bool.true_or Bool.false_or decide_true decide_false Bool.not_false Bool.and_true Bool.true_and Bool.and_self List.append_nil List.getElem_toArray List.getElem_cons_zero List.getElem_cons_succ Nat.reduceLT Nat.reduceAdd Nat.reduceSub Nat.reduceEqDiff andThen atEnd rounds Tryz.ntmps5 AH.only List.length_append List.filter
theorem wrap_neg {n : Int} (h : 0 ≤ n ∧ n ≤ 1048576) : IntKind.i64.wrap (-n) = -n := by
  simp [IntKind.wrap, IntKind.bits, IntKind.signed]
  omega
theorem wrap_k {k : Int} (h : -1 ≤ k ∧ k ≤ 1048576) : IntKind.i64.wrap (k + 1) = k + 1 := by
  simp [IntKind.wrap, IntKind.bits, IntKind.signed]
  omega
theorem ends_tells : Tells Tryz.prog (.func 5) [] [] (eBool true) := by
  refine tells_raw (fun b hb => by simp at hb) (.raw _) ?_
  have hv0 := v_tells 0
  have hv1 := v_tells 1
  have hv2 := v_tells 2
  have hv4 := v_tells 4
  have hv01 := lof_tells 6 [varTm 0, varTm 1]
  have hrn := rows_tells [] [] (by simp) (by unfold small; simp)
  rw [rows_refl] at hrn
  rw [eTm_agg] at hv0 hv1 hv2 hv4 hv01
  refine gives_enter Tryz.func5 rfl rfl ?_
  repeat' first
    | refine wk ?_
    | refine wa ?_
    | (refine goesL_b (by rfl) (by rfl) fun b hb => ?_; cases b <;> refine sm ?_)
    | (refine goesA_b (by rfl) (by rfl) fun b hb => ?_; cases b <;> refine sm ?_)
  refine tl hv1 ?_
  repeat' first
    | refine wk ?_
    | refine wa ?_
    | (refine goesL_b (by rfl) (by rfl) fun b hb => ?_; cases b <;> refine sm ?_)
    | (refine goesA_b (by rfl) (by rfl) fun b hb => ?_; cases b <;> refine sm ?_)
  refine goes_scope [0, 1] ?_
  refine goes_keep [0, 1, 2, 3] ?_
  refine goes_loop (fun m f h => ∃ n : Nat, n ≤ 7 ∧ m = 7 - n ∧ ((n = 0 ∧ f.keep [0, 1, 2, 3] = ⟨⟨162, [(0, eBool false), (1, .raw (.slice none 0 0)), (2, .ptr 0 0 0), (3, eInt 0)]⟩, [], none⟩ ∧ h = ⟨1, [], [(0, .cells (tmBlk 1 (tmC (tT 0))))]⟩) ∨ ∃ (j I I1 I7 : Nat) (G1 G2 G7 : List Tm), n = j + 1 ∧ I ≤ (j + 1) * 5 ∧ f.keep [0, 1, 2, 3] = ⟨⟨162, [(0, eBool false), (1, .row 3 j 0 (j + 1)), (2, .ptr 0 0 0), (3, eInt ((j + 1 : Nat) : Int))]⟩, [], none⟩ ∧ h = ⟨10, [], [(3, .cells ⟨j, 26, 5, I, tmsC (rowT (j + 1))⟩), (2, .cells ⟨0, 26, 5, 0, rowC G2⟩), (1, .cells ⟨0, 26, 5, I1, rowC G1⟩), (0, .cells (tmBlk 1 (tmC (tT (j + 1))))), (7, .cells ⟨0, 26, 5, I7, rowC G7⟩)]⟩)) ?_ 7 _ _ ⟨0, by omega, rfl, .inl ⟨rfl, rfl, rfl⟩⟩
  rintro m f h ⟨n, hn, rfl, ⟨rfl, hkf, rfl⟩ | ⟨j, I, I1, I7, G1, G2, G7, rfl, hI, hkf, rfl⟩⟩
  · refine goes_keep [0, 1, 2, 3] ?_
    rw [hkf]
    have hT := fine_tT 0 (by omega)
    have hRf : ∀ x ∈ ([] : List Tm), Fine 3 x := by simp
    have hRl : ([] : List Tm).length = 0 := rfl
    have hT0 : tT 0 = varTm 1 := rfl
    obtain ⟨t0, ht0⟩ : ∃ t0, tT 0 = t0 := ⟨_, rfl⟩
    rw [ht0] at hT ⊢
    obtain ⟨k1, n1, c1, lv1, kids1⟩ := t0
    obtain ⟨W, p1, p2, p3⟩ := puts_two [] [varTm 4, .mk 6 0 0 [] [varTm 0, varTm 1]] hRf (by omega) (by
      intro b hb
      simp at hb
      rcases hb with rfl | rfl
      · exact (fine_var (by unfold Rng; omega)).le (by omega)
      · exact (fine_two (fine_var (by unfold Rng; omega)) (fine_var (by unfold Rng; omega))).le (by omega)) (by simp)
    have h50 := lof_tells 5 [varTm 0, varTm 0]
    have h40 := lof_tells 4 [varTm 0, .mk k1 n1 c1 lv1 kids1]
    rw [eTm_agg (.mk 5 0 0 [] _)] at h50
    rw [eTm_agg (.mk 4 0 0 [] _)] at h40
    repeat' first
      | refine wk ?_
      | refine wa ?_
      | (refine goesL_b (by rfl) (by rfl) fun b hb => ?_; cases b <;> refine sm ?_)
      | (refine goesA_b (by rfl) (by rfl) fun b hb => ?_; cases b <;> refine sm ?_)
    refine goes_keep [0, 1, 2, 3, 4] ?_
    refine goes_loop (fun m f h => ∃ k : Int, -1 ≤ k ∧ k ≤ 9 ∧ m = (9 - k).toNat ∧ f.keep [0, 1, 2, 3, 4] = ⟨⟨162, [(0, eBool false), (1, .raw (.slice none 0 0)), (2, .ptr 0 0 0), (3, eInt 0), (4, eInt k)]⟩, [], none⟩ ∧ h = ⟨1, [], [(0, .cells (tmBlk 1 (tmC (.mk k1 n1 c1 lv1 kids1))))]⟩) ?_ 10 _ _ ⟨-1, by omega, by omega, rfl, rfl, rfl⟩
    rintro m f h ⟨k, hk1, hk2, rfl, hkf, rfl⟩
    refine goes_keep [0, 1, 2, 3, 4] ?_
    rw [hkf]
    rcases Int.lt_or_eq_of_le hk2 with hk | rfl
    · obtain ⟨kk, hkk⟩ : ∃ kk, IntKind.i64.wrap (k + 1) = kk := ⟨_, rfl⟩
      have hkk2 : Rng kk := by rw [← hkk]; exact wrap_in _
      have f1 := fine_two (k := 4) (fine_var hkk2) hT
      have f2 := fine_two (k := 6) hT f1
      have a1 := v_tells kk
      have a2 := lof_tells 4 [varTm kk, .mk k1 n1 c1 lv1 kids1]
      have a3 := lof_tells 6 [.mk k1 n1 c1 lv1 kids1, .mk 4 0 0 [] [varTm kk, .mk k1 n1 c1 lv1 kids1]]
      have a4 := one_tells ([] : List Tm) (.mk k1 n1 c1 lv1 kids1) k 0 (hT.good (by omega)) (fun x hx => (hRf x hx).good (by omega)) (by omega) (by omega)
      have a5 := one_tells ([] : List Tm) (.mk 6 0 0 [] [.mk k1 n1 c1 lv1 kids1, .mk 4 0 0 [] [varTm kk, .mk k1 n1 c1 lv1 kids1]]) k k (f2.good (by omega)) (fun x hx => (hRf x hx).good (by omega)) (by omega) (by omega)
      obtain ⟨V, b1, b2, b3⟩ := vars_two 0 k (by omega) (by omega)
      have c1' := vars_neg (IntKind.i64.wrap (-(0 : Int))) k (by rw [wrap_neg (by omega)]; omega)
      have d1 := own_neg (IntKind.i64.wrap (-(0 : Int))) (by rw [wrap_neg (by omega)]; omega)
      clear hT f1 f2
      rw [eTm_agg] at a1
      rw [eTm_agg (.mk 4 0 0 [] _)] at a2
      rw [eTm_agg (.mk 6 0 0 [] _)] at a3
      rw [eTm_agg (.mk k1 n1 c1 lv1 kids1)] at a4
      rw [eTm_agg (.mk 6 0 0 [] _)] at a5
      refine goes_scope [0, 1, 2, 3, 4] ?_
      refine sm ?_
      repeat' first
        | refine wk ?_
        | (refine goesL_b (by rfl) (by rfl) fun b hb => ?_; cases b <;> refine sm ?_)
      · exact absurd (of_decide_eq_false hb) (by omega)
      refine wb ?_
      rw [hkk]
      refine ta a1 ?_
      refine wb ?_
      refine tao (r := 6) a2 ?_
      refine wb ?_
      refine tao (r := 8) a3 ?_
      refine wb ?_
      repeat' first
        | refine wk ?_
        | (refine goesL_b (by rfl) (by rfl) fun b hb => ?_; cases b <;> refine sm ?_)
      refine ts a4 (.none (.pure (.agg (pure_tmC _)) (.pure (.raw _) (.pure (.raw _) .nil)))) ?_
      repeat' first
        | refine wk ?_
        | (refine goesL_b (by rfl) (by rfl) fun b hb => ?_; cases b <;> refine sm ?_)
      refine ts a5 (.none (.pure (.agg (pure_tmC _)) (.pure (.raw _) (.pure (.raw _) .nil)))) ?_
      repeat' first
        | refine wk ?_
        | (refine goesL_b (by rfl) (by rfl) fun b hb => ?_; cases b <;> refine sm ?_)
      refine tl hv4 ?_
      repeat' first
        | refine wk ?_
        | (refine goesL_b (by rfl) (by rfl) fun b hb => ?_; cases b <;> refine sm ?_)
      refine tl hv0 ?_
      repeat' first
        | refine wk ?_
        | (refine goesL_b (by rfl) (by rfl) fun b hb => ?_; cases b <;> refine sm ?_)
      refine tl hv1 ?_
      repeat' first
        | refine wk ?_
        | (refine goesL_b (by rfl) (by rfl) fun b hb => ?_; cases b <;> refine sm ?_)
      refine to (r := 12) hv01 ?_
      repeat' first
        | refine wk ?_
        | (refine goesL_b (by rfl) (by rfl) fun b hb => ?_; cases b <;> refine sm ?_)
      refine tsO 13 10 p1 (.none (.row (c := [varTm 4, .mk 6 0 0 [] [varTm 0, varTm 1]]) rfl rfl (Nat.le_of_ble_eq_true rfl) .nil)) ?_
      repeat' first
        | refine wk ?_
        | (refine goesL_b (by rfl) (by rfl) fun b hb => ?_; cases b <;> refine sm ?_)
      refine tl hv4 ?_
      repeat' first
        | refine wk ?_
        | (refine goesL_b (by rfl) (by rfl) fun b hb => ?_; cases b <;> refine sm ?_)
      refine tl hv0 ?_
      repeat' first
        | refine wk ?_
        | (refine goesL_b (by rfl) (by rfl) fun b hb => ?_; cases b <;> refine sm ?_)
      refine tl hv1 ?_
      repeat' first
        | refine wk ?_
        | (refine goesL_b (by rfl) (by rfl) fun b hb => ?_; cases b <;> refine sm ?_)
      refine to (r := 14) hv01 ?_
      repeat' first
        | refine wk ?_
        | (refine goesL_b (by rfl) (by rfl) fun b hb => ?_; cases b <;> refine sm ?_)
      refine tsO 15 10 p2 (.none (.row (c := [varTm 4, .mk 6 0 0 [] [varTm 0, varTm 1]]) rfl rfl (Nat.le_of_ble_eq_true rfl) .nil)) ?_
      repeat' first
        | refine wk ?_
        | (refine goesL_b (by rfl) (by rfl) fun b hb => ?_; cases b <;> refine sm ?_)
      refine tl p3 ?_
      repeat' first
        | refine wk ?_
        | (refine goesL_b (by rfl) (by rfl) fun b hb => ?_; cases b <;> refine sm ?_)
      refine tl b1 ?_
      repeat' first
        | refine wk ?_
        | (refine goesL_b (by rfl) (by rfl) fun b hb => ?_; cases b <;> refine sm ?_)
      refine tl b2 ?_
      repeat' first
        | refine wk ?_
        | (refine goesL_b (by rfl) (by rfl) fun b hb => ?_; cases b <;> refine sm ?_)
      refine tl b3 ?_
      repeat' first
        | refine wk ?_
        | (refine goesL_b (by rfl) (by rfl) fun b hb => ?_; cases b <;> refine sm ?_)
      refine tl c1' ?_
      repeat' first
        | refine wk ?_
        | (refine goesL_b (by rfl) (by rfl) fun b hb => ?_; cases b <;> refine sm ?_)
      refine ts hrn (.pure (pure_tms 5 []) (.none .nil)) ?_
      repeat' first
        | refine wk ?_
        | (refine goesL_b (by rfl) (by rfl) fun b hb => ?_; cases b <;> refine sm ?_)
      refine tl d1 ?_
      repeat' first
        | refine wk ?_
        | (refine goesL_b (by rfl) (by rfl) fun b hb => ?_; cases b <;> refine sm ?_)
      refine within_of (by repeat' first | exact True.intro | exact Of.raw _ | exact Of.emp | exact Of.ptr (has_nil (by rfl)) | exact Of.row (has_nil (by rfl)) | exact Of.yld (has_nil (by rfl)) | exact has_nil (by rfl) | assumption | exact Pure.of (by assumption) | exact Pure.of (pure_lvs _ _) | exact Pure.of (pure_tms _ _) | refine And.intro ?_ ?_ | exact ofC_pure (by assumption) | (refine Of.clo (fun _ ha => nomatch ha) (ofC_pure (by assumption))) | (refine Of.agg (OfC.all ?_)) | (refine Of.clo (fun _ ha => nomatch ha) (OfC.all ?_))) (by repeat' first | exact True.intro | refine And.intro ?_ ?_ | exact has_nil (by rfl)) (by first | exact True.intro | exact Of.raw _ | exact Of.ifc (Of.raw _)) (by repeat' first | exact True.intro | exact Of.raw _ | exact Of.emp | exact Of.ptr (has_nil (by rfl)) | exact Of.row (has_nil (by rfl)) | exact Of.yld (has_nil (by rfl)) | exact has_nil (by rfl) | assumption | exact Pure.of (by assumption) | exact Pure.of (pure_lvs _ _) | exact Pure.of (pure_tms _ _) | refine And.intro ?_ ?_ | exact ofC_pure (by assumption) | (refine Of.agg (OfC.all ?_)) | (refine Of.clo (fun _ ha => nomatch ha) (OfC.all ?_))) ?_
      refine sm ?_
      refine ⟨(9 - (k + 1)).toNat, by omega, k + 1, by omega, by omega, rfl, ?_, rfl⟩
      have e1 : eInt (IntKind.i64.wrap (k + 1)) = eInt (k + 1) := by rw [wrap_k ⟨hk1, by omega⟩]
      rw [← e1]
    · repeat' first
        | refine wk ?_
        | (refine goesL_b (by rfl) (by rfl) fun b hb => ?_; cases b <;> refine sm ?_)
      refine tl hv0 ?_
      repeat' first
        | refine wk ?_
        | (refine goesL_b (by rfl) (by rfl) fun b hb => ?_; cases b <;> refine sm ?_)
      refine tl hv0 ?_
      repeat' first
        | refine wk ?_
        | (refine goesL_b (by rfl) (by rfl) fun b hb => ?_; cases b <;> refine sm ?_)
      refine to (r := 1) h50 ?_
      repeat' first
        | refine wk ?_
        | (refine goesL_b (by rfl) (by rfl) fun b hb => ?_; cases b <;> refine sm ?_)
      refine wb ?_
      refine ta hv0 ?_
      refine wb ?_
      refine tao (r := 7) h40 ?_
      refine wb ?_
      repeat' first
        | refine wk ?_
        | (refine goesL_b (by rfl) (by rfl) fun b hb => ?_; cases b <;> refine sm ?_)
      refine ⟨6, by omega, 1, by omega, by omega, .inr ⟨0, 0, 10, 10, [varTm 0, varTm 0], [eT 0], [varTm 0, .mk k1 n1 c1 lv1 kids1], rfl, by omega, rfl, ?_⟩⟩
      rw [show tmsC (rowT (0 + 1)) = rowC (rowT (0 + 1)) from (rowC_eq _).symm, show tT (0 + 1) = .mk 4 0 0 [] [varTm 0, tT 0] from rfl, ht0]
      rfl
  · refine goes_keep [0, 1, 2, 3] ?_
    rw [hkf]
    have hT := fine_tT (j + 1) (by omega)
    have hRf := fine_row hn
    have hRl := rowT_length (j + 1)
    obtain ⟨R, hR⟩ : ∃ R, rowT (j + 1) = R := ⟨_, rfl⟩
    rw [hR] at hRf hRl ⊢
    obtain ⟨t0, ht0⟩ : ∃ t0, tT (j + 1) = t0 := ⟨_, rfl⟩
    rw [ht0] at hT ⊢
    obtain ⟨k1, n1, c1, lv1, kids1⟩ := t0
    have hp1 : ∀ a ∈ rowC G1, Pure a := by rw [rowC_eq]; exact pure_tmsC G1
    have hp2 : ∀ a ∈ rowC G2, Pure a := by rw [rowC_eq]; exact pure_tmsC G2
    have hp7 : ∀ a ∈ rowC G7, Pure a := by rw [rowC_eq]; exact pure_tmsC G7
    have hpR := pure_tmsC R
    rcases Nat.lt_or_eq_of_le hn with hn' | hn'
    · refine goes_snap [(3, (j + 1) * 5)] (sl := [(0, eBool false), (1, .row 3 j 0 (j + 1)), (2, .ptr 0 0 0), (3, eInt ((j + 1 : Nat) : Int))]) (bs := [(3, .cells ⟨j, 26, 5, max I ((j + 1) * 5), tmsC R⟩), (2, .cells ⟨0, 26, 5, 0, rowC G2⟩), (1, .cells ⟨0, 26, 5, I1, rowC G1⟩), (0, .cells (tmBlk 1 (tmC (.mk k1 n1 c1 lv1 kids1)))), (7, .cells ⟨0, 26, 5, I7, rowC G7⟩)]) ?_ (snapS_same _) ?_
      · rw [seals_one (c := ⟨j, 26, 5, I, tmsC R⟩) rfl (by show (j + 1) * 5 ≤ (tmsC R).length; rw [tmsC_length, hRl]; exact Nat.le_refl _)]
        exact .same (.same (.same (.same (.same .nil))))
      · obtain ⟨I2, hI2, hI3, hI4⟩ : ∃ I2, max I ((j + 1) * 5) = I2 ∧ (j + 1) * 5 ≤ I2 ∧ I2 ≤ (j + 1) * 5 := ⟨_, rfl, Nat.le_max_right .., by omega⟩
        rw [hI2]
        obtain ⟨W, p1, p2, p3⟩ := puts_two R [varTm 4, .mk 6 0 0 [] [varTm 0, varTm 1]] hRf (by omega) (by
          intro b hb
          simp at hb
          rcases hb with rfl | rfl
          · exact (fine_var (by unfold Rng; omega)).le (by omega)
          · exact (fine_two (fine_var (by unfold Rng; omega)) (fine_var (by unfold Rng; omega))).le (by omega)) (by simp)
        have hvn := v_tells ((j + 1 : Nat) : Int)
        have hvm := v_tells (IntKind.i64.wrap (2 * ((j + 1 : Nat) : Int)))
        have h5n := lof_tells 5 [varTm ((j + 1 : Nat) : Int), varTm (IntKind.i64.wrap (2 * ((j + 1 : Nat) : Int)))]
        have h4n := lof_tells 4 [varTm ((j + 1 : Nat) : Int), .mk k1 n1 c1 lv1 kids1]
        rw [eTm_agg] at hvn hvm
        rw [eTm_agg (.mk 5 0 0 [] _)] at h5n
        rw [eTm_agg (.mk 4 0 0 [] _)] at h4n
        refine goes_scope [0, 1, 2, 3] ?_
        repeat' first
          | refine wk ?_
          | (refine goesL_b (by rfl) (by rfl) fun b hb => ?_; cases b <;> refine sm ?_)
        · exact absurd (of_decide_eq_false hb) (by omega)
        refine goes_keep [0, 1, 2, 3, 4] ?_
        refine goes_loop (fun m f h => ∃ k : Int, -1 ≤ k ∧ k ≤ 9 ∧ m = (9 - k).toNat ∧ f.keep [0, 1, 2, 3, 4] = ⟨⟨162, [(0, eBool false), (1, .row 3 j 0 (j + 1)), (2, .ptr 0 0 0), (3, eInt ((j + 1 : Nat) : Int)), (4, eInt k)]⟩, [], none⟩ ∧ h = ⟨10, [], [(3, .cells ⟨j, 26, 5, I2, tmsC R⟩), (2, .cells ⟨0, 26, 5, 0, rowC G2⟩), (1, .cells ⟨0, 26, 5, I1, rowC G1⟩), (0, .cells (tmBlk 1 (tmC (.mk k1 n1 c1 lv1 kids1)))), (7, .cells ⟨0, 26, 5, I7, rowC G7⟩)]⟩) ?_ 10 _ _ ⟨-1, by omega, by omega, rfl, rfl, rfl⟩
        rintro m f h ⟨k, hk1, hk2, rfl, hkf, rfl⟩
        refine goes_keep [0, 1, 2, 3, 4] ?_
        rw [hkf]
        rcases Int.lt_or_eq_of_le hk2 with hk | rfl
        · obtain ⟨kk, hkk⟩ : ∃ kk, IntKind.i64.wrap (k + 1) = kk := ⟨_, rfl⟩
          have hkk2 : Rng kk := by rw [← hkk]; exact wrap_in _
          have f1 := fine_two (k := 4) (fine_var hkk2) hT
          have f2 := fine_two (k := 6) hT f1
          have a1 := v_tells kk
          have a2 := lof_tells 4 [varTm kk, .mk k1 n1 c1 lv1 kids1]
          have a3 := lof_tells 6 [.mk k1 n1 c1 lv1 kids1, .mk 4 0 0 [] [varTm kk, .mk k1 n1 c1 lv1 kids1]]
          have a4 := one_tells R (.mk k1 n1 c1 lv1 kids1) k ((j + 1 : Nat) : Int) (hT.good (by omega)) (fun x hx => (hRf x hx).good (by omega)) (by omega) (by omega)
          have a5 := one_tells R (.mk 6 0 0 [] [.mk k1 n1 c1 lv1 kids1, .mk 4 0 0 [] [varTm kk, .mk k1 n1 c1 lv1 kids1]]) k k (f2.good (by omega)) (fun x hx => (hRf x hx).good (by omega)) (by omega) (by omega)
          obtain ⟨V, b1, b2, b3⟩ := vars_two (j + 1) k (by omega) (by omega)
          have c1' := vars_neg (IntKind.i64.wrap (-(((j + 1 : Nat) : Int) : Int))) k (by rw [wrap_neg (by omega)]; omega)
          have d1 := own_neg (IntKind.i64.wrap (-(((j + 1 : Nat) : Int) : Int))) (by rw [wrap_neg (by omega)]; omega)
          clear hT f1 f2
          rw [eTm_agg] at a1
          rw [eTm_agg (.mk 4 0 0 [] _)] at a2
          rw [eTm_agg (.mk 6 0 0 [] _)] at a3
          rw [eTm_agg (.mk k1 n1 c1 lv1 kids1)] at a4
          rw [eTm_agg (.mk 6 0 0 [] _)] at a5
          refine goes_scope [0, 1, 2, 3, 4] ?_
          refine sm ?_
          repeat' first
            | refine wk ?_
            | (refine goesL_b (by rfl) (by rfl) fun b hb => ?_; cases b <;> refine sm ?_)
          · exact absurd (of_decide_eq_false hb) (by omega)
          refine wb ?_
          rw [hkk]
          refine ta a1 ?_
          refine wb ?_
          refine tao (r := 15) a2 ?_
          refine wb ?_
          refine tao (r := 17) a3 ?_
          refine wb ?_
          repeat' first
            | refine wk ?_
            | (refine goesL_b (by rfl) (by rfl) fun b hb => ?_; cases b <;> refine sm ?_)
          refine ts a4 (.tms (c := R) rfl hRl hI3 <| (.pure (.agg (pure_tmC _)) (.pure (.raw _) (.pure (.raw _) .nil)))) ?_
          repeat' first
            | refine wk ?_
            | (refine goesL_b (by rfl) (by rfl) fun b hb => ?_; cases b <;> refine sm ?_)
          refine ts a5 (.tms (c := R) rfl hRl hI3 <| (.pure (.agg (pure_tmC _)) (.pure (.raw _) (.pure (.raw _) .nil)))) ?_
          repeat' first
            | refine wk ?_
            | (refine goesL_b (by rfl) (by rfl) fun b hb => ?_; cases b <;> refine sm ?_)
          refine tl hv4 ?_
          repeat' first
            | refine wk ?_
            | (refine goesL_b (by rfl) (by rfl) fun b hb => ?_; cases b <;> refine sm ?_)
          refine tl hv0 ?_
          repeat' first
            | refine wk ?_
            | (refine goesL_b (by rfl) (by rfl) fun b hb => ?_; cases b <;> refine sm ?_)
          refine tl hv1 ?_
          repeat' first
            | refine wk ?_
            | (refine goesL_b (by rfl) (by rfl) fun b hb => ?_; cases b <;> refine sm ?_)
          refine to (r := 21) hv01 ?_
          repeat' first
            | refine wk ?_
            | (refine goesL_b (by rfl) (by rfl) fun b hb => ?_; cases b <;> refine sm ?_)
          refine tsO 22 10 p1 (.tms (c := R) rfl hRl hI3 <| (.row (c := [varTm 4, .mk 6 0 0 [] [varTm 0, varTm 1]]) rfl rfl (Nat.le_of_ble_eq_true rfl) .nil)) ?_
          repeat' first
            | refine wk ?_
            | (refine goesL_b (by rfl) (by rfl) fun b hb => ?_; cases b <;> refine sm ?_)
          refine tl hv4 ?_
          repeat' first
            | refine wk ?_
            | (refine goesL_b (by rfl) (by rfl) fun b hb => ?_; cases b <;> refine sm ?_)
          refine tl hv0 ?_
          repeat' first
            | refine wk ?_
            | (refine goesL_b (by rfl) (by rfl) fun b hb => ?_; cases b <;> refine sm ?_)
          refine tl hv1 ?_
          repeat' first
            | refine wk ?_
            | (refine goesL_b (by rfl) (by rfl) fun b hb => ?_; cases b <;> refine sm ?_)
          refine to (r := 23) hv01 ?_
          repeat' first
            | refine wk ?_
            | (refine goesL_b (by rfl) (by rfl) fun b hb => ?_; cases b <;> refine sm ?_)
          refine tsO 24 10 p2 (.tms (c := R) rfl hRl hI3 <| (.row (c := [varTm 4, .mk 6 0 0 [] [varTm 0, varTm 1]]) rfl rfl (Nat.le_of_ble_eq_true rfl) .nil)) ?_
          repeat' first
            | refine wk ?_
            | (refine goesL_b (by rfl) (by rfl) fun b hb => ?_; cases b <;> refine sm ?_)
          refine tl p3 ?_
          repeat' first
            | refine wk ?_
            | (refine goesL_b (by rfl) (by rfl) fun b hb => ?_; cases b <;> refine sm ?_)
          refine tl b1 ?_
          repeat' first
            | refine wk ?_
            | (refine goesL_b (by rfl) (by rfl) fun b hb => ?_; cases b <;> refine sm ?_)
          refine tl b2 ?_
          repeat' first
            | refine wk ?_
            | (refine goesL_b (by rfl) (by rfl) fun b hb => ?_; cases b <;> refine sm ?_)
          refine tl b3 ?_
          repeat' first
            | refine wk ?_
            | (refine goesL_b (by rfl) (by rfl) fun b hb => ?_; cases b <;> refine sm ?_)
          refine tl c1' ?_
          repeat' first
            | refine wk ?_
            | (refine goesL_b (by rfl) (by rfl) fun b hb => ?_; cases b <;> refine sm ?_)
          refine ts hrn (.pure (pure_tms 5 []) (.none .nil)) ?_
          repeat' first
            | refine wk ?_
            | (refine goesL_b (by rfl) (by rfl) fun b hb => ?_; cases b <;> refine sm ?_)
          refine tl d1 ?_
          repeat' first
            | refine wk ?_
            | (refine goesL_b (by rfl) (by rfl) fun b hb => ?_; cases b <;> refine sm ?_)
          refine within_of (by repeat' first | exact True.intro | exact Of.raw _ | exact Of.emp | exact Of.ptr (has_nil (by rfl)) | exact Of.row (has_nil (by rfl)) | exact Of.yld (has_nil (by rfl)) | exact has_nil (by rfl) | assumption | exact Pure.of (by assumption) | exact Pure.of (pure_lvs _ _) | exact Pure.of (pure_tms _ _) | refine And.intro ?_ ?_ | exact ofC_pure (by assumption) | (refine Of.clo (fun _ ha => nomatch ha) (ofC_pure (by assumption))) | (refine Of.agg (OfC.all ?_)) | (refine Of.clo (fun _ ha => nomatch ha) (OfC.all ?_))) (by repeat' first | exact True.intro | refine And.intro ?_ ?_ | exact has_nil (by rfl)) (by first | exact True.intro | exact Of.raw _ | exact Of.ifc (Of.raw _)) (by repeat' first | exact True.intro | exact Of.raw _ | exact Of.emp | exact Of.ptr (has_nil (by rfl)) | exact Of.row (has_nil (by rfl)) | exact Of.yld (has_nil (by rfl)) | exact has_nil (by rfl) | assumption | exact Pure.of (by assumption) | exact Pure.of (pure_lvs _ _) | exact Pure.of (pure_tms _ _) | refine And.intro ?_ ?_ | exact ofC_pure (by assumption) | (refine Of.agg (OfC.all ?_)) | (refine Of.clo (fun _ ha => nomatch ha) (OfC.all ?_))) ?_
          refine sm ?_
          refine ⟨(9 - (k + 1)).toNat, by omega, k + 1, by omega, by omega, rfl, ?_, rfl⟩
          have e1 : eInt (IntKind.i64.wrap (k + 1)) = eInt (k + 1) := by rw [wrap_k ⟨hk1, by omega⟩]
          rw [← e1]
        · repeat' first
            | refine wk ?_
            | (refine goesL_b (by rfl) (by rfl) fun b hb => ?_; cases b <;> refine sm ?_)
          refine tl hvn ?_
          repeat' first
            | refine wk ?_
            | (refine goesL_b (by rfl) (by rfl) fun b hb => ?_; cases b <;> refine sm ?_)
          refine tl hvm ?_
          repeat' first
            | refine wk ?_
            | (refine goesL_b (by rfl) (by rfl) fun b hb => ?_; cases b <;> refine sm ?_)
          refine to (r := 10) h5n ?_
          repeat' first
            | refine wk ?_
            | (refine goesL_b (by rfl) (by rfl) fun b hb => ?_; cases b <;> refine sm ?_)
          refine goesL_pushS (w := eT (j + 1)) hRl hI4 (by omega) ?_
          refine sm ?_
          repeat' first
            | refine wk ?_
            | (refine goesL_b (by rfl) (by rfl) fun b hb => ?_; cases b <;> refine sm ?_)
          refine wb ?_
          refine ta hvn ?_
          refine wb ?_
          refine tao (r := 15) h4n ?_
          refine wb ?_
          repeat' first
            | refine wk ?_
            | (refine goesL_b (by rfl) (by rfl) fun b hb => ?_; cases b <;> refine sm ?_)
          have hpS := pure_tmsC (R ++ [eT (j + 1)])
          refine within_of (by repeat' first | exact True.intro | exact Of.raw _ | exact Of.emp | exact Of.ptr (has_nil (by rfl)) | exact Of.row (has_nil (by rfl)) | exact Of.yld (has_nil (by rfl)) | exact has_nil (by rfl) | assumption | exact Pure.of (by assumption) | exact Pure.of (pure_lvs _ _) | exact Pure.of (pure_tms _ _) | refine And.intro ?_ ?_ | exact ofC_pure (by assumption) | (refine Of.clo (fun _ ha => nomatch ha) (ofC_pure (by assumption))) | (refine Of.agg (OfC.all ?_)) | (refine Of.clo (fun _ ha => nomatch ha) (OfC.all ?_))) (by repeat' first | exact True.intro | refine And.intro ?_ ?_ | exact has_nil (by rfl)) (by first | exact True.intro | exact Of.raw _ | exact Of.ifc (Of.raw _)) (by repeat' first | exact True.intro | exact Of.raw _ | exact Of.emp | exact Of.ptr (has_nil (by rfl)) | exact Of.row (has_nil (by rfl)) | exact Of.yld (has_nil (by rfl)) | exact has_nil (by rfl) | assumption | exact Pure.of (by assumption) | exact Pure.of (pure_lvs _ _) | exact Pure.of (pure_tms _ _) | refine And.intro ?_ ?_ | exact ofC_pure (by assumption) | (refine Of.agg (OfC.all ?_)) | (refine Of.clo (fun _ ha => nomatch ha) (OfC.all ?_))) ?_
          refine sm ?_
          refine ⟨7 - (j + 1 + 1), by omega, j + 1 + 1, by omega, rfl, .inr ⟨j + 1, I2, I1, I7, G1, G2, G7, rfl, by omega, ?_, ?_⟩⟩
          · have e2 : eInt (IntKind.i64.wrap (((j + 1 : Nat) : Int) + 1)) = eInt ((j + 1 + 1 : Nat) : Int) := by rw [next_nat (by omega)]
            rw [← e2]
          · rw [show rowT (j + 1 + 1) = R ++ [eT (j + 1)] by rw [rowT_succ, hR], show tT (j + 1 + 1) = .mk 4 0 0 [] [varTm ((j + 1 : Nat) : Int), .mk k1 n1 c1 lv1 kids1] by rw [← ht0]; rfl]
            rfl
    · refine goes_snap [(3, (j + 1) * 5)] (sl := [(0, eBool false), (1, .vals 5 (R.map eTm)), (2, .ptr 0 0 0), (3, eInt ((j + 1 : Nat) : Int))]) (bs := [(3, .cells ⟨j, 26, 5, max I ((j + 1) * 5), tmsC R⟩), (2, .cells ⟨0, 26, 5, 0, rowC G2⟩), (1, .cells ⟨0, 26, 5, I1, rowC G1⟩), (0, .cells (tmBlk 1 (tmC (.mk k1 n1 c1 lv1 kids1)))), (7, .cells ⟨0, 26, 5, I7, rowC G7⟩)]) ?_ (.same (.snap (snap_ownI (c := ⟨j, 26, 5, I, tmsC R⟩) rfl hRl).1 (snap_ownI (c := ⟨j, 26, 5, I, tmsC R⟩) rfl hRl).2 (.same (.same .nil)))) ?_
      · rw [seals_one (c := ⟨j, 26, 5, I, tmsC R⟩) rfl (by show (j + 1) * 5 ≤ (tmsC R).length; rw [tmsC_length, hRl]; exact Nat.le_refl _)]
        exact .same (.same (.same (.same (.same .nil))))
      · have f0 := fine_var (n := 0) (by unfold Rng; omega)
        have f1 := fine_var (n := 1) (by unfold Rng; omega)
        have f2 := fine_var (n := 2) (by unfold Rng; omega)
        have hgB : ∀ x ∈ ([.mk 0 0 0 [] [], .mk 4 0 0 [] [varTm 0], .mk 6 0 0 [] [varTm 0], .mk 6 0 0 [] [], .mk 4 0 0 [] [varTm 0, varTm 1, varTm 2], .mk 6 0 0 [] [varTm 0, varTm 1, varTm 2]] : List Tm), Good x := by
          intro x hx
          simp only [List.mem_cons, List.not_mem_nil, or_false] at hx
          rcases hx with rfl | rfl | rfl | rfl | rfl | rfl
          · exact Fine.good (fine_nil (k := 0)) (by omega)
          · exact Fine.good (fine_one (k := 4) f0) (by omega)
          · exact Fine.good (fine_one (k := 6) f0) (by omega)
          · exact Fine.good (fine_nil (k := 6)) (by omega)
          · exact Fine.good (fine_three (k := 4) f0 f1 f2) (by omega)
          · exact Fine.good (fine_three (k := 6) f0 f1 f2) (by omega)
        have hgR : ∀ x ∈ R, Good x := fun x hx => (hRf x hx).good (by omega)
        have h4a := lof_tells 4 [varTm 0]
        have h6a := lof_tells 6 [varTm 0]
        have h6n := lof_tells 6 []
        have h4c := lof_tells 4 [varTm 0, varTm 1, varTm 2]
        have h6c := lof_tells 6 [varTm 0, varTm 1, varTm 2]
        rw [eTm_agg (.mk 4 0 0 [] _)] at h4a h4c
        rw [eTm_agg (.mk 6 0 0 [] _)] at h6a h6n h6c
        have hBV : ([.mk 0 0 0 [] [], .mk 4 0 0 [] [varTm 0], .mk 6 0 0 [] [varTm 0], .mk 6 0 0 [] [], .mk 4 0 0 [] [varTm 0, varTm 1, varTm 2], .mk 6 0 0 [] [varTm 0, varTm 1, varTm 2]] : List Tm).map eTm = [.agg (tmC (.mk 0 0 0 [] [])), .agg (tmC (.mk 4 0 0 [] [varTm 0])), .agg (tmC (.mk 6 0 0 [] [varTm 0])), .agg (tmC (.mk 6 0 0 [] [])), .agg (tmC (.mk 4 0 0 [] [varTm 0, varTm 1, varTm 2])), .agg (tmC (.mk 6 0 0 [] [varTm 0, varTm 1, varTm 2]))] := by simp only [List.map_cons, List.map_nil, eTm_agg]
        have x0 := one_tells [.mk 0 0 0 [] [], .mk 4 0 0 [] [varTm 0], .mk 6 0 0 [] [varTm 0], .mk 6 0 0 [] [], .mk 4 0 0 [] [varTm 0, varTm 1, varTm 2], .mk 6 0 0 [] [varTm 0, varTm 1, varTm 2]] (.mk 0 0 0 [] []) 1 0 (hgB _ (by simp)) hgB (by simp) (by omega)
        have y0 := lof_tells 4 [.mk 0 0 0 [] [], .mk 0 0 0 [] []]
        have z0 := lof_tells 6 [.mk 0 0 0 [] [], .mk 0 0 0 [] []]
        have u0 := one_tells R (.mk 4 0 0 [] [.mk 0 0 0 [] [], .mk 0 0 0 [] []]) 2 1 ((fine_two (fine_nil (k := 0)) (fine_nil (k := 0))).good (by omega)) hgR (by omega) (by omega)
        have w0 := one_tells [] (.mk 6 0 0 [] [.mk 0 0 0 [] [], .mk 0 0 0 [] []]) 0 0 ((fine_two (fine_nil (k := 0)) (fine_nil (k := 0))).good (by omega)) (by simp) (by simp) (by omega)
        rw [hBV, eTm_agg] at x0
        rw [eTm_agg (.mk 4 0 0 [] _)] at y0 u0
        rw [eTm_agg (.mk 6 0 0 [] _)] at z0 w0
        have x1 := one_tells [.mk 0 0 0 [] [], .mk 4 0 0 [] [varTm 0], .mk 6 0 0 [] [varTm 0], .mk 6 0 0 [] [], .mk 4 0 0 [] [varTm 0, varTm 1, varTm 2], .mk 6 0 0 [] [varTm 0, varTm 1, varTm 2]] (.mk 4 0 0 [] [varTm 0]) 1 0 (hgB _ (by simp)) hgB (by simp) (by omega)
        have y1 := lof_tells 4 [.mk 4 0 0 [] [varTm 0], .mk 4 0 0 [] [varTm 0]]
        have z1 := lof_tells 6 [.mk 4 0 0 [] [varTm 0], .mk 4 0 0 [] [varTm 0]]
        have u1 := one_tells R (.mk 4 0 0 [] [.mk 4 0 0 [] [varTm 0], .mk 4 0 0 [] [varTm 0]]) 2 1 ((fine_two (fine_one (k := 4) f0) (fine_one (k := 4) f0)).good (by omega)) hgR (by omega) (by omega)
        have w1 := one_tells [] (.mk 6 0 0 [] [.mk 4 0 0 [] [varTm 0], .mk 4 0 0 [] [varTm 0]]) 0 0 ((fine_two (fine_one (k := 4) f0) (fine_one (k := 4) f0)).good (by omega)) (by simp) (by simp) (by omega)
        rw [hBV, eTm_agg] at x1
        rw [eTm_agg (.mk 4 0 0 [] _)] at y1 u1
        rw [eTm_agg (.mk 6 0 0 [] _)] at z1 w1
        have x2 := one_tells [.mk 0 0 0 [] [], .mk 4 0 0 [] [varTm 0], .mk 6 0 0 [] [varTm 0], .mk 6 0 0 [] [], .mk 4 0 0 [] [varTm 0, varTm 1, varTm 2], .mk 6 0 0 [] [varTm 0, varTm 1, varTm 2]] (.mk 6 0 0 [] [varTm 0]) 1 0 (hgB _ (by simp)) hgB (by simp) (by omega)
        have y2 := lof_tells 4 [.mk 6 0 0 [] [varTm 0], .mk 6 0 0 [] [varTm 0]]
        have z2 := lof_tells 6 [.mk 6 0 0 [] [varTm 0], .mk 6 0 0 [] [varTm 0]]
        have u2 := one_tells R (.mk 4 0 0 [] [.mk 6 0 0 [] [varTm 0], .mk 6 0 0 [] [varTm 0]]) 2 1 ((fine_two (fine_one (k := 6) f0) (fine_one (k := 6) f0)).good (by omega)) hgR (by omega) (by omega)
        have w2 := one_tells [] (.mk 6 0 0 [] [.mk 6 0 0 [] [varTm 0], .mk 6 0 0 [] [varTm 0]]) 0 0 ((fine_two (fine_one (k := 6) f0) (fine_one (k := 6) f0)).good (by omega)) (by simp) (by simp) (by omega)
        rw [hBV, eTm_agg] at x2
        rw [eTm_agg (.mk 4 0 0 [] _)] at y2 u2
        rw [eTm_agg (.mk 6 0 0 [] _)] at z2 w2
        have x3 := one_tells [.mk 0 0 0 [] [], .mk 4 0 0 [] [varTm 0], .mk 6 0 0 [] [varTm 0], .mk 6 0 0 [] [], .mk 4 0 0 [] [varTm 0, varTm 1, varTm 2], .mk 6 0 0 [] [varTm 0, varTm 1, varTm 2]] (.mk 6 0 0 [] []) 1 0 (hgB _ (by simp)) hgB (by simp) (by omega)
        have y3 := lof_tells 4 [.mk 6 0 0 [] [], .mk 6 0 0 [] []]
        have z3 := lof_tells 6 [.mk 6 0 0 [] [], .mk 6 0 0 [] []]
        have u3 := one_tells R (.mk 4 0 0 [] [.mk 6 0 0 [] [], .mk 6 0 0 [] []]) 2 1 ((fine_two (fine_nil (k := 6)) (fine_nil (k := 6))).good (by omega)) hgR (by omega) (by omega)
        have w3 := one_tells [] (.mk 6 0 0 [] [.mk 6 0 0 [] [], .mk 6 0 0 [] []]) 0 0 ((fine_two (fine_nil (k := 6)) (fine_nil (k := 6))).good (by omega)) (by simp) (by simp) (by omega)
        rw [hBV, eTm_agg] at x3
        rw [eTm_agg (.mk 4 0 0 [] _)] at y3 u3
        rw [eTm_agg (.mk 6 0 0 [] _)] at z3 w3
        have x4 := one_tells [.mk 0 0 0 [] [], .mk 4 0 0 [] [varTm 0], .mk 6 0 0 [] [varTm 0], .mk 6 0 0 [] [], .mk 4 0 0 [] [varTm 0, varTm 1, varTm 2], .mk 6 0 0 [] [varTm 0, varTm 1, varTm 2]] (.mk 4 0 0 [] [varTm 0, varTm 1, varTm 2]) 1 0 (hgB _ (by simp)) hgB (by simp) (by omega)
        have y4 := lof_tells 4 [.mk 4 0 0 [] [varTm 0, varTm 1, varTm 2], .mk 4 0 0 [] [varTm 0, varTm 1, varTm 2]]
        have z4 := lof_tells 6 [.mk 4 0 0 [] [varTm 0, varTm 1, varTm 2], .mk 4 0 0 [] [varTm 0, varTm 1, varTm 2]]
        have u4 := one_tells R (.mk 4 0 0 [] [.mk 4 0 0 [] [varTm 0, varTm 1, varTm 2], .mk 4 0 0 [] [varTm 0, varTm 1, varTm 2]]) 2 1 ((fine_two (fine_three (k := 4) f0 f1 f2) (fine_three (k := 4) f0 f1 f2)).good (by omega)) hgR (by omega) (by omega)
        have w4 := one_tells [] (.mk 6 0 0 [] [.mk 4 0 0 [] [varTm 0, varTm 1, varTm 2], .mk 4 0 0 [] [varTm 0, varTm 1, varTm 2]]) 0 0 ((fine_two (fine_three (k := 4) f0 f1 f2) (fine_three (k := 4) f0 f1 f2)).good (by omega)) (by simp) (by simp) (by omega)
        rw [hBV, eTm_agg] at x4
        rw [eTm_agg (.mk 4 0 0 [] _)] at y4 u4
        rw [eTm_agg (.mk 6 0 0 [] _)] at z4 w4
        have x5 := one_tells [.mk 0 0 0 [] [], .mk 4 0 0 [] [varTm 0], .mk 6 0 0 [] [varTm 0], .mk 6 0 0 [] [], .mk 4 0 0 [] [varTm 0, varTm 1, varTm 2], .mk 6 0 0 [] [varTm 0, varTm 1, varTm 2]] (.mk 6 0 0 [] [varTm 0, varTm 1, varTm 2]) 1 0 (hgB _ (by simp)) hgB (by simp) (by omega)
        have y5 := lof_tells 4 [.mk 6 0 0 [] [varTm 0, varTm 1, varTm 2], .mk 6 0 0 [] [varTm 0, varTm 1, varTm 2]]
        have z5 := lof_tells 6 [.mk 6 0 0 [] [varTm 0, varTm 1, varTm 2], .mk 6 0 0 [] [varTm 0, varTm 1, varTm 2]]
        have u5 := one_tells R (.mk 4 0 0 [] [.mk 6 0 0 [] [varTm 0, varTm 1, varTm 2], .mk 6 0 0 [] [varTm 0, varTm 1, varTm 2]]) 2 1 ((fine_two (fine_three (k := 6) f0 f1 f2) (fine_three (k := 6) f0 f1 f2)).good (by omega)) hgR (by omega) (by omega)
        have w5 := one_tells [] (.mk 6 0 0 [] [.mk 6 0 0 [] [varTm 0, varTm 1, varTm 2], .mk 6 0 0 [] [varTm 0, varTm 1, varTm 2]]) 0 0 ((fine_two (fine_three (k := 6) f0 f1 f2) (fine_three (k := 6) f0 f1 f2)).good (by omega)) (by simp) (by simp) (by omega)
        rw [hBV, eTm_agg] at x5
        rw [eTm_agg (.mk 4 0 0 [] _)] at y5 u5
        rw [eTm_agg (.mk 6 0 0 [] _)] at z5 w5
        have hpK := pure_tms 5 R
        generalize R.map eTm = RV at hpK u0 u1 u2 u3 u4 u5 ⊢
        repeat' first
          | refine wk ?_
          | (refine goesL_b (by rfl) (by rfl) fun b hb => ?_; cases b <;> refine sm ?_)
        · refine within_of (by repeat' first | exact True.intro | exact Of.raw _ | exact Of.emp | exact Of.ptr (has_nil (by rfl)) | exact Of.row (has_nil (by rfl)) | exact Of.yld (has_nil (by rfl)) | exact has_nil (by rfl) | assumption | exact Pure.of (by assumption) | exact Pure.of (pure_lvs _ _) | exact Pure.of (pure_tms _ _) | refine And.intro ?_ ?_ | exact ofC_pure (by assumption) | (refine Of.clo (fun _ ha => nomatch ha) (ofC_pure (by assumption))) | (refine Of.agg (OfC.all ?_)) | (refine Of.clo (fun _ ha => nomatch ha) (OfC.all ?_))) (by repeat' first | exact True.intro | refine And.intro ?_ ?_ | exact has_nil (by rfl)) (by first | exact True.intro | exact Of.raw _ | exact Of.ifc (Of.raw _)) (by repeat' first | exact True.intro | exact Of.raw _ | exact Of.emp | exact Of.ptr (has_nil (by rfl)) | exact Of.row (has_nil (by rfl)) | exact Of.yld (has_nil (by rfl)) | exact has_nil (by rfl) | assumption | exact Pure.of (by assumption) | exact Pure.of (pure_lvs _ _) | exact Pure.of (pure_tms _ _) | refine And.intro ?_ ?_ | exact ofC_pure (by assumption) | (refine Of.agg (OfC.all ?_)) | (refine Of.clo (fun _ ha => nomatch ha) (OfC.all ?_))) ?_
          refine sm ?_
          repeat' first
            | refine wk ?_
            | (refine goesL_b (by rfl) (by rfl) fun b hb => ?_; cases b <;> refine sm ?_)
          refine tl hv0 ?_
          repeat' first
            | refine wk ?_
            | (refine goesL_b (by rfl) (by rfl) fun b hb => ?_; cases b <;> refine sm ?_)
          refine to (r := 1) h4a ?_
          repeat' first
            | refine wk ?_
            | (refine goesL_b (by rfl) (by rfl) fun b hb => ?_; cases b <;> refine sm ?_)
          refine tl hv0 ?_
          repeat' first
            | refine wk ?_
            | (refine goesL_b (by rfl) (by rfl) fun b hb => ?_; cases b <;> refine sm ?_)
          refine to (r := 2) h6a ?_
          repeat' first
            | refine wk ?_
            | (refine goesL_b (by rfl) (by rfl) fun b hb => ?_; cases b <;> refine sm ?_)
          refine ts h6n (.pure (.raw _) (.none .nil)) ?_
          repeat' first
            | refine wk ?_
            | (refine goesL_b (by rfl) (by rfl) fun b hb => ?_; cases b <;> refine sm ?_)
          refine tl hv0 ?_
          repeat' first
            | refine wk ?_
            | (refine goesL_b (by rfl) (by rfl) fun b hb => ?_; cases b <;> refine sm ?_)
          refine tl hv1 ?_
          repeat' first
            | refine wk ?_
            | (refine goesL_b (by rfl) (by rfl) fun b hb => ?_; cases b <;> refine sm ?_)
          refine tl hv2 ?_
          repeat' first
            | refine wk ?_
            | (refine goesL_b (by rfl) (by rfl) fun b hb => ?_; cases b <;> refine sm ?_)
          refine to (r := 3) h4c ?_
          repeat' first
            | refine wk ?_
            | (refine goesL_b (by rfl) (by rfl) fun b hb => ?_; cases b <;> refine sm ?_)
          refine tl hv0 ?_
          repeat' first
            | refine wk ?_
            | (refine goesL_b (by rfl) (by rfl) fun b hb => ?_; cases b <;> refine sm ?_)
          refine tl hv1 ?_
          repeat' first
            | refine wk ?_
            | (refine goesL_b (by rfl) (by rfl) fun b hb => ?_; cases b <;> refine sm ?_)
          refine tl hv2 ?_
          repeat' first
            | refine wk ?_
            | (refine goesL_b (by rfl) (by rfl) fun b hb => ?_; cases b <;> refine sm ?_)
          refine to (r := 4) h6c ?_
          repeat' first
            | refine wk ?_
            | (refine goesL_b (by rfl) (by rfl) fun b hb => ?_; cases b <;> refine sm ?_)
          have hsn := snap_rowN (h := ⟨6, [], [(5, .cells ⟨0, 26, 5, 0, [eInt 0, eInt 0, eInt 0, .raw (.slice none 0 0), .raw (.slice none 0 0)] ++ rowC [.mk 4 0 0 [] [varTm 0], .mk 6 0 0 [] [varTm 0], .mk 6 0 0 [] [], .mk 4 0 0 [] [varTm 0, varTm 1, varTm 2], .mk 6 0 0 [] [varTm 0, varTm 1, varTm 2]]⟩), (4, .cells ⟨0, 26, 5, max 0 (3 * 5), rowC [varTm 0, varTm 1, varTm 2]⟩), (3, .cells ⟨0, 26, 5, max 0 (3 * 5), rowC [varTm 0, varTm 1, varTm 2]⟩), (2, .cells ⟨0, 26, 5, max 0 (1 * 5), rowC [varTm 0]⟩), (1, .cells ⟨0, 26, 5, max 0 (1 * 5), rowC [varTm 0]⟩), (0, .cells (tmBlk 1 (tmC (.mk k1 n1 c1 lv1 kids1))))]⟩) (r := 5) (c := ⟨0, 26, 5, 0, [eInt 0, eInt 0, eInt 0, .raw (.slice none 0 0), .raw (.slice none 0 0)] ++ rowC [.mk 4 0 0 [] [varTm 0], .mk 6 0 0 [] [varTm 0], .mk 6 0 0 [] [], .mk 4 0 0 [] [varTm 0, varTm 1, varTm 2], .mk 6 0 0 [] [varTm 0, varTm 1, varTm 2]]⟩) (es := [.agg (tmC (.mk 0 0 0 [] [])), .agg (tmC (.mk 4 0 0 [] [varTm 0])), .agg (tmC (.mk 6 0 0 [] [varTm 0])), .agg (tmC (.mk 6 0 0 [] [])), .agg (tmC (.mk 4 0 0 [] [varTm 0, varTm 1, varTm 2])), .agg (tmC (.mk 6 0 0 [] [varTm 0, varTm 1, varTm 2]))]) (n := 6) rfl (fun H => .pure (.raw _) (.pure (.raw _) (.pure (.raw _) (.none (.none (snap_pure (by rw [rowC_eq]; exact pure_tmsC _))))))) rfl (by
            intro e he
            simp only [List.mem_cons, List.not_mem_nil, or_false] at he
            rcases he with rfl | rfl | rfl | rfl | rfl | rfl <;> rfl) (by
            rw [← hBV]
            intro e he
            obtain ⟨t, _, rfl⟩ := List.mem_map.1 he
            exact pure_tm t) rfl
          refine goes_keep [1, 6, 7] ?_
          refine goes_snap (h := ⟨6, [], [(5, .cells ⟨0, 26, 5, 0, [eInt 0, eInt 0, eInt 0, .raw (.slice none 0 0), .raw (.slice none 0 0)] ++ rowC [.mk 4 0 0 [] [varTm 0], .mk 6 0 0 [] [varTm 0], .mk 6 0 0 [] [], .mk 4 0 0 [] [varTm 0, varTm 1, varTm 2], .mk 6 0 0 [] [varTm 0, varTm 1, varTm 2]]⟩), (4, .cells ⟨0, 26, 5, max 0 (3 * 5), rowC [varTm 0, varTm 1, varTm 2]⟩), (3, .cells ⟨0, 26, 5, max 0 (3 * 5), rowC [varTm 0, varTm 1, varTm 2]⟩), (2, .cells ⟨0, 26, 5, max 0 (1 * 5), rowC [varTm 0]⟩), (1, .cells ⟨0, 26, 5, max 0 (1 * 5), rowC [varTm 0]⟩), (0, .cells (tmBlk 1 (tmC (.mk k1 n1 c1 lv1 kids1))))]⟩) [(5, 6 * 5)] (sl := [(1, .vals 5 RV), (6, .vals 5 [.agg (tmC (.mk 0 0 0 [] [])), .agg (tmC (.mk 4 0 0 [] [varTm 0])), .agg (tmC (.mk 6 0 0 [] [varTm 0])), .agg (tmC (.mk 6 0 0 [] [])), .agg (tmC (.mk 4 0 0 [] [varTm 0, varTm 1, varTm 2])), .agg (tmC (.mk 6 0 0 [] [varTm 0, varTm 1, varTm 2]))]), (7, eInt 0)]) (bs := [(5, .cells ⟨0, 26, 5, max 0 (6 * 5), [eInt 0, eInt 0, eInt 0, .raw (.slice none 0 0), .raw (.slice none 0 0)] ++ rowC [.mk 4 0 0 [] [varTm 0], .mk 6 0 0 [] [varTm 0], .mk 6 0 0 [] [], .mk 4 0 0 [] [varTm 0, varTm 1, varTm 2], .mk 6 0 0 [] [varTm 0, varTm 1, varTm 2]]⟩), (4, .cells ⟨0, 26, 5, max 0 (3 * 5), rowC [varTm 0, varTm 1, varTm 2]⟩), (3, .cells ⟨0, 26, 5, max 0 (3 * 5), rowC [varTm 0, varTm 1, varTm 2]⟩), (2, .cells ⟨0, 26, 5, max 0 (1 * 5), rowC [varTm 0]⟩), (1, .cells ⟨0, 26, 5, max 0 (1 * 5), rowC [varTm 0]⟩), (0, .cells (tmBlk 1 (tmC (.mk k1 n1 c1 lv1 kids1))))]) ?_ (.same (.snap hsn.1 hsn.2 (.same .nil))) ?_
          · rw [seals_one (c := ⟨0, 26, 5, 0, [eInt 0, eInt 0, eInt 0, .raw (.slice none 0 0), .raw (.slice none 0 0)] ++ rowC [.mk 4 0 0 [] [varTm 0], .mk 6 0 0 [] [varTm 0], .mk 6 0 0 [] [], .mk 4 0 0 [] [varTm 0, varTm 1, varTm 2], .mk 6 0 0 [] [varTm 0, varTm 1, varTm 2]]⟩) rfl (Nat.le_of_ble_eq_true rfl)]
            exact .same (.same (.same (.same (.same (.same .nil)))))
          · clear hsn
            have hq1 : ∀ a ∈ rowC [varTm 0], Pure a := by rw [rowC_eq]; exact pure_tmsC _
            have hq3 : ∀ a ∈ rowC [varTm 0, varTm 1, varTm 2], Pure a := by rw [rowC_eq]; exact pure_tmsC _
            have hqT := pure_tmC (.mk k1 n1 c1 lv1 kids1)
            obtain ⟨BC, hBC, hq5⟩ : ∃ BC, [eInt 0, eInt 0, eInt 0, .raw (.slice none 0 0), .raw (.slice none 0 0)] ++ rowC [.mk 4 0 0 [] [varTm 0], .mk 6 0 0 [] [varTm 0], .mk 6 0 0 [] [], .mk 4 0 0 [] [varTm 0, varTm 1, varTm 2], .mk 6 0 0 [] [varTm 0, varTm 1, varTm 2]] = BC ∧ ∀ a ∈ BC, Pure a := ⟨_, rfl, fun a ha => by
              rcases List.mem_append.1 ha with h | h
              · simp only [List.mem_cons, List.not_mem_nil, or_false] at h
                rcases h with rfl | rfl | rfl | rfl | rfl <;> exact .raw _
              · rw [rowC_eq] at h
                exact pure_tmsC _ a h⟩
            rw [hBC]
            have hpB : Pure (.vals 5 [.agg (tmC (.mk 0 0 0 [] [])), .agg (tmC (.mk 4 0 0 [] [varTm 0])), .agg (tmC (.mk 6 0 0 [] [varTm 0])), .agg (tmC (.mk 6 0 0 [] [])), .agg (tmC (.mk 4 0 0 [] [varTm 0, varTm 1, varTm 2])), .agg (tmC (.mk 6 0 0 [] [varTm 0, varTm 1, varTm 2]))]) := by rw [← hBV]; exact pure_tms 5 _
            generalize rowC [varTm 0] = Q1 at hq1 ⊢
            generalize rowC [varTm 0, varTm 1, varTm 2] = Q3 at hq3 ⊢
            clear hBV hBC
            refine goes_keep [1, 6, 7] ?_
            refine goes_loop (fun m f h => ∃ i : Nat, i ≤ 6 ∧ m = 6 - i ∧ f.keep [1, 6, 7] = ⟨⟨162, [(1, .vals 5 RV), (6, .vals 5 [.agg (tmC (.mk 0 0 0 [] [])), .agg (tmC (.mk 4 0 0 [] [varTm 0])), .agg (tmC (.mk 6 0 0 [] [varTm 0])), .agg (tmC (.mk 6 0 0 [] [])), .agg (tmC (.mk 4 0 0 [] [varTm 0, varTm 1, varTm 2])), .agg (tmC (.mk 6 0 0 [] [varTm 0, varTm 1, varTm 2]))]), (7, eInt (i : Int))]⟩, [], none⟩ ∧ h = ⟨6, [], [(5, .cells ⟨0, 26, 5, max 0 (6 * 5), BC⟩), (4, .cells ⟨0, 26, 5, max 0 (3 * 5), Q3⟩), (3, .cells ⟨0, 26, 5, max 0 (3 * 5), Q3⟩), (2, .cells ⟨0, 26, 5, max 0 (1 * 5), Q1⟩), (1, .cells ⟨0, 26, 5, max 0 (1 * 5), Q1⟩), (0, .cells (tmBlk 1 (tmC (.mk k1 n1 c1 lv1 kids1))))]⟩) ?_ 6 _ _ ⟨0, by omega, rfl, rfl, rfl⟩
            rintro m f h ⟨i, hi, rfl, hkf, rfl⟩
            refine goes_keep [1, 6, 7] ?_
            rw [hkf]
            rcases (show i = 0 ∨ i = 1 ∨ i = 2 ∨ i = 3 ∨ i = 4 ∨ i = 5 ∨ i = 6 by omega) with rfl | rfl | rfl | rfl | rfl | rfl | rfl
            · refine goes_scope [1, 6, 7] ?_
              repeat' first
                | refine wk ?_
                | (refine goesL_b (by rfl) (by rfl) fun b hb => ?_; cases b <;> refine sm ?_)
              refine wb ?_
              refine ta x0 ?_
              refine wb ?_
              refine tao (r := 23) y0 ?_
              refine ta u0 ?_
              refine wb ?_
              refine tao (r := 37) z0 ?_
              refine tas [] w0 (.none (.pure (.agg (pure_tmC _)) (.pure (.raw _) (.pure (.raw _) .nil)))) ?_
              refine wb ?_
              repeat' first
                | refine wk ?_
                | (refine goesL_b (by rfl) (by rfl) fun b hb => ?_; cases b <;> refine sm ?_)
              refine within_of (by repeat' first | exact True.intro | exact Of.raw _ | exact Of.emp | exact Of.ptr (has_nil (by rfl)) | exact Of.row (has_nil (by rfl)) | exact Of.yld (has_nil (by rfl)) | exact has_nil (by rfl) | assumption | exact Pure.of (by assumption) | exact Pure.of (pure_lvs _ _) | exact Pure.of (pure_tms _ _) | refine And.intro ?_ ?_ | exact ofC_pure (by assumption) | (refine Of.clo (fun _ ha => nomatch ha) (ofC_pure (by assumption))) | (refine Of.agg (OfC.all ?_)) | (refine Of.clo (fun _ ha => nomatch ha) (OfC.all ?_))) (by repeat' first | exact True.intro | refine And.intro ?_ ?_ | exact has_nil (by rfl)) (by first | exact True.intro | exact Of.raw _ | exact Of.ifc (Of.raw _)) (by repeat' first | exact True.intro | exact Of.raw _ | exact Of.emp | exact Of.ptr (has_nil (by rfl)) | exact Of.row (has_nil (by rfl)) | exact Of.yld (has_nil (by rfl)) | exact has_nil (by rfl) | assumption | exact Pure.of (by assumption) | exact Pure.of (pure_lvs _ _) | exact Pure.of (pure_tms _ _) | refine And.intro ?_ ?_ | exact ofC_pure (by assumption) | (refine Of.agg (OfC.all ?_)) | (refine Of.clo (fun _ ha => nomatch ha) (OfC.all ?_))) ?_
              refine sm ?_
              exact ⟨6 - (0 + 1), by omega, 0 + 1, by omega, rfl, by first | rfl | trivial, by first | rfl | trivial⟩
            · refine goes_scope [1, 6, 7] ?_
              repeat' first
                | refine wk ?_
                | (refine goesL_b (by rfl) (by rfl) fun b hb => ?_; cases b <;> refine sm ?_)
              refine wb ?_
              refine ta x1 ?_
              refine wb ?_
              refine tao (r := 23) y1 ?_
              refine ta u1 ?_
              refine wb ?_
              refine tao (r := 37) z1 ?_
              refine tas [] w1 (.none (.pure (.agg (pure_tmC _)) (.pure (.raw _) (.pure (.raw _) .nil)))) ?_
              refine wb ?_
              repeat' first
                | refine wk ?_
                | (refine goesL_b (by rfl) (by rfl) fun b hb => ?_; cases b <;> refine sm ?_)
              refine within_of (by repeat' first | exact True.intro | exact Of.raw _ | exact Of.emp | exact Of.ptr (has_nil (by rfl)) | exact Of.row (has_nil (by rfl)) | exact Of.yld (has_nil (by rfl)) | exact has_nil (by rfl) | assumption | exact Pure.of (by assumption) | exact Pure.of (pure_lvs _ _) | exact Pure.of (pure_tms _ _) | refine And.intro ?_ ?_ | exact ofC_pure (by assumption) | (refine Of.clo (fun _ ha => nomatch ha) (ofC_pure (by assumption))) | (refine Of.agg (OfC.all ?_)) | (refine Of.clo (fun _ ha => nomatch ha) (OfC.all ?_))) (by repeat' first | exact True.intro | refine And.intro ?_ ?_ | exact has_nil (by rfl)) (by first | exact True.intro | exact Of.raw _ | exact Of.ifc (Of.raw _)) (by repeat' first | exact True.intro | exact Of.raw _ | exact Of.emp | exact Of.ptr (has_nil (by rfl)) | exact Of.row (has_nil (by rfl)) | exact Of.yld (has_nil (by rfl)) | exact has_nil (by rfl) | assumption | exact Pure.of (by assumption) | exact Pure.of (pure_lvs _ _) | exact Pure.of (pure_tms _ _) | refine And.intro ?_ ?_ | exact ofC_pure (by assumption) | (refine Of.agg (OfC.all ?_)) | (refine Of.clo (fun _ ha => nomatch ha) (OfC.all ?_))) ?_
              refine sm ?_
              exact ⟨6 - (1 + 1), by omega, 1 + 1, by omega, rfl, by first | rfl | trivial, by first | rfl | trivial⟩
            · refine goes_scope [1, 6, 7] ?_
              repeat' first
                | refine wk ?_
                | (refine goesL_b (by rfl) (by rfl) fun b hb => ?_; cases b <;> refine sm ?_)
              refine wb ?_
              refine ta x2 ?_
              refine wb ?_
              refine tao (r := 23) y2 ?_
              refine ta u2 ?_
              refine wb ?_
              refine tao (r := 37) z2 ?_
              refine tas [] w2 (.none (.pure (.agg (pure_tmC _)) (.pure (.raw _) (.pure (.raw _) .nil)))) ?_
              refine wb ?_
              repeat' first
                | refine wk ?_
                | (refine goesL_b (by rfl) (by rfl) fun b hb => ?_; cases b <;> refine sm ?_)
              refine within_of (by repeat' first | exact True.intro | exact Of.raw _ | exact Of.emp | exact Of.ptr (has_nil (by rfl)) | exact Of.row (has_nil (by rfl)) | exact Of.yld (has_nil (by rfl)) | exact has_nil (by rfl) | assumption | exact Pure.of (by assumption) | exact Pure.of (pure_lvs _ _) | exact Pure.of (pure_tms _ _) | refine And.intro ?_ ?_ | exact ofC_pure (by assumption) | (refine Of.clo (fun _ ha => nomatch ha) (ofC_pure (by assumption))) | (refine Of.agg (OfC.all ?_)) | (refine Of.clo (fun _ ha => nomatch ha) (OfC.all ?_))) (by repeat' first | exact True.intro | refine And.intro ?_ ?_ | exact has_nil (by rfl)) (by first | exact True.intro | exact Of.raw _ | exact Of.ifc (Of.raw _)) (by repeat' first | exact True.intro | exact Of.raw _ | exact Of.emp | exact Of.ptr (has_nil (by rfl)) | exact Of.row (has_nil (by rfl)) | exact Of.yld (has_nil (by rfl)) | exact has_nil (by rfl) | assumption | exact Pure.of (by assumption) | exact Pure.of (pure_lvs _ _) | exact Pure.of (pure_tms _ _) | refine And.intro ?_ ?_ | exact ofC_pure (by assumption) | (refine Of.agg (OfC.all ?_)) | (refine Of.clo (fun _ ha => nomatch ha) (OfC.all ?_))) ?_
              refine sm ?_
              exact ⟨6 - (2 + 1), by omega, 2 + 1, by omega, rfl, by first | rfl | trivial, by first | rfl | trivial⟩
            · refine goes_scope [1, 6, 7] ?_
              repeat' first
                | refine wk ?_
                | (refine goesL_b (by rfl) (by rfl) fun b hb => ?_; cases b <;> refine sm ?_)
              refine wb ?_
              refine ta x3 ?_
              refine wb ?_
              refine tao (r := 23) y3 ?_
              refine ta u3 ?_
              refine wb ?_
              refine tao (r := 37) z3 ?_
              refine tas [] w3 (.none (.pure (.agg (pure_tmC _)) (.pure (.raw _) (.pure (.raw _) .nil)))) ?_
              refine wb ?_
              repeat' first
                | refine wk ?_
                | (refine goesL_b (by rfl) (by rfl) fun b hb => ?_; cases b <;> refine sm ?_)
              refine within_of (by repeat' first | exact True.intro | exact Of.raw _ | exact Of.emp | exact Of.ptr (has_nil (by rfl)) | exact Of.row (has_nil (by rfl)) | exact Of.yld (has_nil (by rfl)) | exact has_nil (by rfl) | assumption | exact Pure.of (by assumption) | exact Pure.of (pure_lvs _ _) | exact Pure.of (pure_tms _ _) | refine And.intro ?_ ?_ | exact ofC_pure (by assumption) | (refine Of.clo (fun _ ha => nomatch ha) (ofC_pure (by assumption))) | (refine Of.agg (OfC.all ?_)) | (refine Of.clo (fun _ ha => nomatch ha) (OfC.all ?_))) (by repeat' first | exact True.intro | refine And.intro ?_ ?_ | exact has_nil (by rfl)) (by first | exact True.intro | exact Of.raw _ | exact Of.ifc (Of.raw _)) (by repeat' first | exact True.intro | exact Of.raw _ | exact Of.emp | exact Of.ptr (has_nil (by rfl)) | exact Of.row (has_nil (by rfl)) | exact Of.yld (has_nil (by rfl)) | exact has_nil (by rfl) | assumption | exact Pure.of (by assumption) | exact Pure.of (pure_lvs _ _) | exact Pure.of (pure_tms _ _) | refine And.intro ?_ ?_ | exact ofC_pure (by assumption) | (refine Of.agg (OfC.all ?_)) | (refine Of.clo (fun _ ha => nomatch ha) (OfC.all ?_))) ?_
              refine sm ?_
              exact ⟨6 - (3 + 1), by omega, 3 + 1, by omega, rfl, by first | rfl | trivial, by first | rfl | trivial⟩
            · refine goes_scope [1, 6, 7] ?_
              repeat' first
                | refine wk ?_
                | (refine goesL_b (by rfl) (by rfl) fun b hb => ?_; cases b <;> refine sm ?_)
              refine wb ?_
              refine ta x4 ?_
              refine wb ?_
              refine tao (r := 23) y4 ?_
              refine ta u4 ?_
              refine wb ?_
              refine tao (r := 37) z4 ?_
              refine tas [] w4 (.none (.pure (.agg (pure_tmC _)) (.pure (.raw _) (.pure (.raw _) .nil)))) ?_
              refine wb ?_
              repeat' first
                | refine wk ?_
                | (refine goesL_b (by rfl) (by rfl) fun b hb => ?_; cases b <;> refine sm ?_)
              refine within_of (by repeat' first | exact True.intro | exact Of.raw _ | exact Of.emp | exact Of.ptr (has_nil (by rfl)) | exact Of.row (has_nil (by rfl)) | exact Of.yld (has_nil (by rfl)) | exact has_nil (by rfl) | assumption | exact Pure.of (by assumption) | exact Pure.of (pure_lvs _ _) | exact Pure.of (pure_tms _ _) | refine And.intro ?_ ?_ | exact ofC_pure (by assumption) | (refine Of.clo (fun _ ha => nomatch ha) (ofC_pure (by assumption))) | (refine Of.agg (OfC.all ?_)) | (refine Of.clo (fun _ ha => nomatch ha) (OfC.all ?_))) (by repeat' first | exact True.intro | refine And.intro ?_ ?_ | exact has_nil (by rfl)) (by first | exact True.intro | exact Of.raw _ | exact Of.ifc (Of.raw _)) (by repeat' first | exact True.intro | exact Of.raw _ | exact Of.emp | exact Of.ptr (has_nil (by rfl)) | exact Of.row (has_nil (by rfl)) | exact Of.yld (has_nil (by rfl)) | exact has_nil (by rfl) | assumption | exact Pure.of (by assumption) | exact Pure.of (pure_lvs _ _) | exact Pure.of (pure_tms _ _) | refine And.intro ?_ ?_ | exact ofC_pure (by assumption) | (refine Of.agg (OfC.all ?_)) | (refine Of.clo (fun _ ha => nomatch ha) (OfC.all ?_))) ?_
              refine sm ?_
              exact ⟨6 - (4 + 1), by omega, 4 + 1, by omega, rfl, by first | rfl | trivial, by first | rfl | trivial⟩
            · refine goes_scope [1, 6, 7] ?_
              repeat' first
                | refine wk ?_
                | (refine goesL_b (by rfl) (by rfl) fun b hb => ?_; cases b <;> refine sm ?_)
              refine wb ?_
              refine ta x5 ?_
              refine wb ?_
              refine tao (r := 23) y5 ?_
              refine ta u5 ?_
              refine wb ?_
              refine tao (r := 37) z5 ?_
              refine tas [] w5 (.none (.pure (.agg (pure_tmC _)) (.pure (.raw _) (.pure (.raw _) .nil)))) ?_
              refine wb ?_
              repeat' first
                | refine wk ?_
                | (refine goesL_b (by rfl) (by rfl) fun b hb => ?_; cases b <;> refine sm ?_)
              refine within_of (by repeat' first | exact True.intro | exact Of.raw _ | exact Of.emp | exact Of.ptr (has_nil (by rfl)) | exact Of.row (has_nil (by rfl)) | exact Of.yld (has_nil (by rfl)) | exact has_nil (by rfl) | assumption | exact Pure.of (by assumption) | exact Pure.of (pure_lvs _ _) | exact Pure.of (pure_tms _ _) | refine And.intro ?_ ?_ | exact ofC_pure (by assumption) | (refine Of.clo (fun _ ha => nomatch ha) (ofC_pure (by assumption))) | (refine Of.agg (OfC.all ?_)) | (refine Of.clo (fun _ ha => nomatch ha) (OfC.all ?_))) (by repeat' first | exact True.intro | refine And.intro ?_ ?_ | exact has_nil (by rfl)) (by first | exact True.intro | exact Of.raw _ | exact Of.ifc (Of.raw _)) (by repeat' first | exact True.intro | exact Of.raw _ | exact Of.emp | exact Of.ptr (has_nil (by rfl)) | exact Of.row (has_nil (by rfl)) | exact Of.yld (has_nil (by rfl)) | exact has_nil (by rfl) | assumption | exact Pure.of (by assumption) | exact Pure.of (pure_lvs _ _) | exact Pure.of (pure_tms _ _) | refine And.intro ?_ ?_ | exact ofC_pure (by assumption) | (refine Of.agg (OfC.all ?_)) | (refine Of.clo (fun _ ha => nomatch ha) (OfC.all ?_))) ?_
              refine sm ?_
              exact ⟨6 - (5 + 1), by omega, 5 + 1, by omega, rfl, by first | rfl | trivial, by first | rfl | trivial⟩
            · repeat' first
                | refine wk ?_
                | (refine goesL_b (by rfl) (by rfl) fun b hb => ?_; cases b <;> refine sm ?_)
              refine tl awake_tells ?_
              repeat' first
                | refine wk ?_
                | (refine goesL_b (by rfl) (by rfl) fun b hb => ?_; cases b <;> refine sm ?_)
              exact ⟨rfl, _, rfl, rfl⟩
        · exact absurd (of_decide_eq_true hb) (by omega)
end Go.Proofs.YtaoglkkdhdfioaaGreatDoor
