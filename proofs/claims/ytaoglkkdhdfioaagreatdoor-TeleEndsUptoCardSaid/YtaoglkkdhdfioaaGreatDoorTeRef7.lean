/- The document's taking off of binders: the same as the program's. -/
import Derived.Test.YtaoglkkdhdfioaaGreatDoorEvWk
import Derived.Test.YtaoglkkdhdfioaaGreatDoorTeRef6
import Derived.KernelRfl
import Derived.Test.YtaoglkkdhdfioaaGreatDoorProg
namespace Go.Proofs.YtaoglkkdhdfioaaGreatDoor
open Go Go.Proofs
set_option maxRecDepth 100000
set_option maxHeartbeats 4000000
attribute [local go_sem] AH.seals AH.adds news List.nil_append List.cons_append AF.put AF.start Slots.set Slots.ins zipA AH.zero AH.new AH.put AH.sub ofV AV.cells List.length AF.keep AH.cut List.filter_cons List.filter_nil List.contains_cons List.contains_nil Nat.reduceBEq Bool.or_false Bool.or_true Bool.true_or Bool.false_or decide_true decide_false Bool.not_false Bool.and_true Bool.true_and Bool.and_self List.append_nil List.getElem_toArray List.getElem_cons_zero List.getElem_cons_succ Nat.reduceLT Nat.reduceAdd Nat.reduceSub Nat.reduceEqDiff andThen atEnd rounds Tryz.ntmps46 AH.only List.length_append List.filter
theorem openT_over : ∀ (n : Nat) (t : Tm), cntT t < n → openT n t = none
  | 0, t, h => by omega
  | n + 1, t, h => by
    cases e : t.two 4 with
    | false => exact openT_no e
    | true =>
      obtain ⟨k1, n1, a1, lv1, kids1⟩ := t
      obtain ⟨rfl, x, y, rfl⟩ := Tm.two_iff.1 e
      rw [cntT_two] at h
      rw [openT_go, openT_over n y (by omega)]
      rfl
theorem ropen_none (t : Tm) (n : Int) (hn : n < 0 ∨ (cntT t : Int) < n) (hs : t.size ≤ 1048576) : Tells Tryz.prog (.func 46) [eTm t, eInt n] [] (openV none) := by
  have hC := rcount_tells t hs
  have hpt := pure_tmC t
  refine tells_of (fun b hb => ?_) (pure_openV none) ?_
  · simp at hb; rcases hb with rfl | rfl
    · exact pure_tm t
    · exact .raw _
  rw [eTm_agg t] at hC ⊢
  have hp10 : Pure (.vals 1 []) := pure_lvs 1 []
  obtain ⟨k, m, a, lv, kids⟩ := t
  refine gives_enter Tryz.func46 rfl rfl ?_
  repeat' first
    | refine wk ?_
    | refine wa ?_
    | refine tl hC ?_
    | refine ta hC ?_
    | (refine goesL_b (by rfl) (by rfl) fun b hb => ?_; cases b <;> refine sm ?_)
    | (refine goesA_b (by rfl) (by rfl) fun b hb => ?_; cases b <;> refine sm ?_)
  · rename_i h1
    have h1 := of_decide_eq_false h1
    have hb := of_decide_eq_false hb
    exact absurd hn (by omega)
  all_goals exact ⟨rfl, _, rfl, _, [], [], rfl, .tup (j := []) (l := []) (.none (.agg (j := []) (l := []) (.pure (.raw _) (.pure (.raw _) (.pure (.raw _) (.none (.none .nil))))) (.pure (.raw _) .nil))) .nil, fun p hp => nomatch hp⟩
theorem ropen_some (t : Tm) (N : Nat) (hn : N ≤ cntT t) (hs : t.size ≤ 1048576) (hbr : t.bare) (hf : t.fit) : Tells Tryz.prog (.func 46) [eTm t, eInt (N : Int)] [] (openV (openT N t)) := by
  have hC := rcount_tells t hs
  have hpt := pure_tmC t
  refine tells_of (fun b hb => ?_) (pure_openV _) ?_
  · simp at hb; rcases hb with rfl | rfl
    · exact pure_tm t
    · exact .raw _
  have hle := cntT_le t
  have hN0 : N ≤ 1048576 := by omega
  rw [eTm_agg t] at hC ⊢
  obtain ⟨D, hD⟩ : ∃ D, openT N t = D := ⟨_, rfl⟩
  rw [hD]
  obtain ⟨t0, ht0⟩ : ∃ t0, t0 = t := ⟨_, rfl⟩
  obtain ⟨k, m, a, lv, kids⟩ := t
  refine gives_enter Tryz.func46 rfl rfl ?_
  repeat' first
    | refine wk ?_
    | refine wa ?_
    | refine tl hC ?_
    | refine ta hC ?_
    | (refine goesL_b (by rfl) (by rfl) fun b hb => ?_; cases b <;> refine sm ?_)
    | (refine goesA_b (by rfl) (by rfl) fun b hb => ?_; cases b <;> refine sm ?_)
  rotate_left
  · exact absurd (of_decide_eq_true hb) (by omega)
  refine goes_keep [1, 2, 5, 7, 8] ?_
  rw [← ht0] at hD hn hs hbr hf hpt ⊢
  refine goes_loop (fun M f h => ∃ (j : Nat) (u : Tm) (c : List Tm), j ≤ N ∧ M = N - j ∧ c.length = j ∧ N - j ≤ cntT u ∧ D = (openT (N - j) u).map (fun p => (c ++ p.1, p.2)) ∧ u.bare ∧ u.fit ∧ u.size ≤ 1048576 ∧ ((j = 0 ∧ f.keep [1, 2, 5, 7, 8] = ⟨⟨38, [(1, eInt (N : Int)), (2, .ptr 0 0 0), (5, .ptr 1 0 0), (7, .raw (.slice none 0 0)), (8, eInt 0)]⟩, [], none⟩ ∧ h = ⟨2, [], [(1, .cells (tmBlk 1 [eInt 0, eInt 0, eInt 0, .raw (.slice none 0 0), .raw (.slice none 0 0)])), (0, .cells (tmBlk 1 (tmC u)))]⟩) ∨
    ∃ (i : Nat) (g : Tm), j = i + 1 ∧ f.keep [1, 2, 5, 7, 8] = ⟨⟨38, [(1, eInt (N : Int)), (2, .ptr 0 0 0), (5, .ptr 1 0 0), (7, .row 3 i 0 (i + 1)), (8, eInt ((i + 1 : Nat) : Int))]⟩, [], none⟩ ∧ h = ⟨4, [], [(3, .cells ⟨i, 26, 5, 0, tmsC c⟩), (2, .cells (tmBlk 5 (tmC g))), (1, .cells (tmBlk 1 [eInt 0, eInt 0, eInt 0, .raw (.slice none 0 0), .raw (.slice none 0 0)])), (0, .cells (tmBlk 1 (tmC u)))]⟩)) ?_ N _ _ ⟨0, t0, [], Nat.zero_le _, by omega, rfl, hn, by rw [← hD]; simp, hbr, hf, hs, .inl ⟨rfl, rfl, by rw [ht0]; rfl⟩⟩
  rintro M f h ⟨j, u, c, hj, rfl, hc, hcu, hDu, hub, huf, hus, ⟨rfl, hkf, rfl⟩ | ⟨i, g, rfl, hkf, rfl⟩⟩
  · refine goes_keep [1, 2, 5, 7, 8] ?_
    rw [hkf]
    have hpu := pure_tmC u
    obtain rfl : c = [] := List.length_eq_zero_iff.1 hc
    rcases Nat.eq_zero_or_pos N with h0 | hpos
    · subst h0
      have hT := rcopy_tells u hus hub huf
      rw [eTm_agg] at hT
      have hov : openV D = .tup [.vals 5 [], .agg (tmC u), eBool true] := by
        rw [hDu]
        show AV.tup [.vals 5 [], eTm u, eBool true] = _
        rw [eTm_agg]
      rw [hov]
      obtain ⟨k1, n1, a1, lv1, kids1⟩ := u
      repeat' first
        | refine wk ?_
        | refine wa ?_
        | refine tl hT ?_
        | refine ta hT ?_
        | (refine goesL_b (by rfl) (by rfl) fun b hb => ?_; cases b <;> refine sm ?_)
        | (refine goesA_b (by rfl) (by rfl) fun b hb => ?_; cases b <;> refine sm ?_)
      exact ⟨rfl, _, rfl, _, [], [], rfl, .tup (j := []) (l := []) (.none (.pure (.agg hpu) (.pure (.raw _) .nil))) .nil, fun p hp => nomatch hp⟩
    · have e : u.two 4 = true := by
        cases e : u.two 4 with
        | true => rfl
        | false => have := cntT_no e; omega
      obtain ⟨k1, n1, a1, lv1, kids1⟩ := u
      obtain ⟨rfl, x, y, rfl⟩ := Tm.two_iff.1 e
      rw [cntT_two] at hcu
      have hub2 := ((Tm.bare_mk ..).1 hub).2
      have huf2 := ((Tm.fit_mk ..).1 huf).2.2.2
      rw [Tm.bareL, Tm.bareL] at hub2
      rw [Tm.fitL, Tm.fitL] at huf2
      rw [Tm.size_mk, Tm.sizeL, Tm.sizeL, Tm.sizeL] at hus
      have hT := rcopy_tells x (by omega) hub2.1 huf2.1
      rw [eTm_agg] at hT
      rw [tmC_two]
      obtain ⟨k2, n2, a2, lv2, kids2⟩ := x
      obtain ⟨k3, n3, a3, lv3, kids3⟩ := y
      repeat' first
        | refine wk ?_
        | refine wa ?_
        | refine tl hT ?_
        | refine ta hT ?_
        | (refine goesL_b (by rfl) (by rfl) fun b hb => ?_; cases b <;> refine sm ?_)
        | (refine goesA_b (by rfl) (by rfl) fun b hb => ?_; cases b <;> refine sm ?_)
      · exact absurd (of_decide_eq_false hb) (by omega)
      · refine ⟨N - 1, by omega, 1, .mk k3 n3 a3 lv3 kids3, [.mk k2 n2 a2 lv2 kids2], by omega, rfl, rfl, by omega, ?_, hub2.2.1, huf2.2.1, by omega, .inr ⟨0, .mk k2 n2 a2 lv2 kids2, rfl, rfl, ?_⟩⟩
        · rw [hDu, show N - 0 = (N - 1) + 1 by omega, openT_go]
          cases openT (N - 1) (.mk k3 n3 a3 lv3 kids3) <;> rfl
        · rw [tms_one]
          rfl
  · refine goes_keep [1, 2, 5, 7, 8] ?_
    rw [hkf]
    have hpu := pure_tmC u
    have hpg := pure_tmC g
    have hpc := pure_tmsC c
    refine goes_scope [1, 2, 5, 7, 8] ?_
    rcases Nat.lt_or_eq_of_le hj with hlt | heq
    · have e : u.two 4 = true := by
        cases e : u.two 4 with
        | true => rfl
        | false => have := cntT_no e; omega
      obtain ⟨k1, n1, a1, lv1, kids1⟩ := u
      obtain ⟨rfl, x, y, rfl⟩ := Tm.two_iff.1 e
      rw [cntT_two] at hcu
      have hub2 := ((Tm.bare_mk ..).1 hub).2
      have huf2 := ((Tm.fit_mk ..).1 huf).2.2.2
      rw [Tm.bareL, Tm.bareL] at hub2
      rw [Tm.fitL, Tm.fitL] at huf2
      rw [Tm.size_mk, Tm.sizeL, Tm.sizeL, Tm.sizeL] at hus
      have hT := rcopy_tells x (by omega) hub2.1 huf2.1
      rw [eTm_agg] at hT
      rw [tmC_two] at hpu ⊢
      have hpy := pure_tmC y
      have hpc2 := pure_tmsC (c ++ [x])
      obtain ⟨k2, n2, a2, lv2, kids2⟩ := x
      obtain ⟨k3, n3, a3, lv3, kids3⟩ := y
      repeat' first
        | refine wk ?_
        | refine wa ?_
        | refine tl hT ?_
        | refine ta hT ?_
        | (refine goesL_b (by rfl) (by rfl) fun b hb => ?_; cases b <;> refine sm ?_)
        | (refine goesA_b (by rfl) (by rfl) fun b hb => ?_; cases b <;> refine sm ?_)
      · exact absurd (of_decide_eq_false hb) (by omega)
      · refine goesL_push (c := c) (w := .mk k2 n2 a2 lv2 kids2) hc (by omega) ?_
        refine sm ?_
        repeat' first
          | refine wk ?_
          | refine wa ?_
          | (refine goesL_b (by rfl) (by rfl) fun b hb => ?_; cases b <;> refine sm ?_)
          | (refine goesA_b (by rfl) (by rfl) fun b hb => ?_; cases b <;> refine sm ?_)
        refine within_of (by repeat' first | exact True.intro | exact Of.raw _ | exact Of.emp | exact Of.ptr (has_nil (by rfl)) | exact Of.row (has_nil (by rfl)) | exact Of.yld (has_nil (by rfl)) | exact has_nil (by rfl) | assumption | exact Pure.of (by assumption) | exact Pure.of (pure_lvs _ _) | exact Pure.of (pure_tms _ _) | refine And.intro ?_ ?_ | exact ofC_pure (by assumption) | (refine Of.clo (fun _ ha => nomatch ha) (ofC_pure (by assumption))) | (refine Of.agg (OfC.all ?_)) | (refine Of.clo (fun _ ha => nomatch ha) (OfC.all ?_))) (by repeat' first | exact True.intro | refine And.intro ?_ ?_ | exact has_nil (by rfl)) (by first | exact True.intro | exact Of.raw _ | exact Of.ifc (Of.raw _)) (by repeat' first | exact True.intro | exact Of.raw _ | exact Of.emp | exact Of.ptr (has_nil (by rfl)) | exact Of.row (has_nil (by rfl)) | exact Of.yld (has_nil (by rfl)) | exact has_nil (by rfl) | assumption | exact Pure.of (by assumption) | exact Pure.of (pure_lvs _ _) | exact Pure.of (pure_tms _ _) | refine And.intro ?_ ?_ | exact ofC_pure (by assumption) | (refine Of.agg (OfC.all ?_)) | (refine Of.clo (fun _ ha => nomatch ha) (OfC.all ?_))) ?_
        refine ⟨N - (i + 2), by omega, i + 2, .mk k3 n3 a3 lv3 kids3, c ++ [.mk k2 n2 a2 lv2 kids2], by omega, rfl, by simp [hc], by omega, ?_, hub2.2.1, huf2.2.1, by omega, .inr ⟨i + 1, g, rfl, ?_, rfl⟩⟩
        · rw [hDu, show N - (i + 1) = (N - (i + 2)) + 1 by omega, openT_go]
          cases openT (N - (i + 2)) (.mk k3 n3 a3 lv3 kids3) <;> simp
        · rw [← next_nat (m := i) (by omega)]
          rfl
    · have hT := rcopy_tells u hus hub huf
      rw [eTm_agg] at hT
      have hov : openV D = .tup [.vals 5 (c.map eTm), .agg (tmC u), eBool true] := by
        rw [hDu, heq, Nat.sub_self]
        show AV.tup [.vals 5 ((c ++ []).map eTm), eTm u, eBool true] = _
        rw [eTm_agg, List.append_nil]
      rw [hov]
      obtain ⟨k1, n1, a1, lv1, kids1⟩ := u
      repeat' first
        | refine wk ?_
        | refine wa ?_
        | (refine goesL_b (by rfl) (by rfl) fun b hb => ?_; cases b <;> refine sm ?_)
        | (refine goesA_b (by rfl) (by rfl) fun b hb => ?_; cases b <;> refine sm ?_)
      · refine within_of (by repeat' first | exact True.intro | exact Of.raw _ | exact Of.emp | exact Of.ptr (has_nil (by rfl)) | exact Of.row (has_nil (by rfl)) | exact Of.yld (has_nil (by rfl)) | exact has_nil (by rfl) | assumption | exact Pure.of (by assumption) | exact Pure.of (pure_lvs _ _) | exact Pure.of (pure_tms _ _) | refine And.intro ?_ ?_ | exact ofC_pure (by assumption) | (refine Of.clo (fun _ ha => nomatch ha) (ofC_pure (by assumption))) | (refine Of.agg (OfC.all ?_)) | (refine Of.clo (fun _ ha => nomatch ha) (OfC.all ?_))) (by repeat' first | exact True.intro | refine And.intro ?_ ?_ | exact has_nil (by rfl)) (by first | exact True.intro | exact Of.raw _ | exact Of.ifc (Of.raw _)) (by repeat' first | exact True.intro | exact Of.raw _ | exact Of.emp | exact Of.ptr (has_nil (by rfl)) | exact Of.row (has_nil (by rfl)) | exact Of.yld (has_nil (by rfl)) | exact has_nil (by rfl) | assumption | exact Pure.of (by assumption) | exact Pure.of (pure_lvs _ _) | exact Pure.of (pure_tms _ _) | refine And.intro ?_ ?_ | exact ofC_pure (by assumption) | (refine Of.agg (OfC.all ?_)) | (refine Of.clo (fun _ ha => nomatch ha) (OfC.all ?_))) ?_
        refine sm ?_
        repeat' first
          | refine wk ?_
          | refine wa ?_
          | refine tl hT ?_
          | refine ta hT ?_
          | (refine goesL_b (by rfl) (by rfl) fun b hb => ?_; cases b <;> refine sm ?_)
          | (refine goesA_b (by rfl) (by rfl) fun b hb => ?_; cases b <;> refine sm ?_)
        have hsn := snap_tms (H := ⟨4, [], [(3, .cells ⟨i, 26, 5, 0, tmsC c⟩), (2, .cells (tmBlk 5 (tmC g))), (1, .cells (tmBlk 1 (tmC (.mk k1 n1 a1 lv1 kids1)))), (0, .cells (tmBlk 1 (tmC (.mk k1 n1 a1 lv1 kids1))))]⟩) (r := 3) rfl hc
        exact ⟨rfl, _, rfl, _, [(3, (i + 1) * 5)], [(3, 0 + (i + 1) * 5)], rfl, .tup (j := [(3, 0 + (i + 1) * 5)]) (l := []) (snap_then hsn.1 (.pure (.agg hpu) (.pure (.raw _) .nil))) .nil, hsn.2⟩
      · exact absurd (of_decide_eq_true hb) (by omega)
end Go.Proofs.YtaoglkkdhdfioaaGreatDoor
