/- The document's variables, and binders taken off: the same as the program's. -/
import Derived.Test.YtaoglkkdhdfioaaGreatDoorEvWk
import Derived.Test.YtaoglkkdhdfioaaGreatDoorTeRef5
import Derived.Test.YtaoglkkdhdfioaaGreatDoorTeMathZ
import Derived.KernelRfl
import Derived.Test.YtaoglkkdhdfioaaGreatDoorProg
namespace Go.Proofs.YtaoglkkdhdfioaaGreatDoor
open Go Go.Proofs
set_option maxRecDepth 100000
set_option maxHeartbeats 4000000
attribute [local go_sem] AH.seals AH.adds news List.nil_append List.cons_append AF.put AF.start Slots.set Slots.ins zipA AH.zero AH.new AH.put AH.sub ofV AV.cells List.length AF.keep AH.cut List.filter_cons List.filter_nil List.contains_cons List.contains_nil Nat.reduceBEq Bool.or_false Bool.or_true Bool.true_or Bool.false_or decide_true decide_false Bool.not_false Bool.and_true Bool.true_and Bool.and_self List.append_nil List.getElem_toArray List.getElem_cons_zero List.getElem_cons_succ Nat.reduceLT Nat.reduceAdd Nat.reduceSub Nat.reduceEqDiff andThen atEnd rounds Tryz.ntmps26 Tryz.ntmps46 AH.only List.length_append List.filter
theorem rvars_none (n from' : Int) (hn : n < 1) : Tells Tryz.prog (.func 26) [eInt n, eInt from'] [] (.vals 5 []) := by
  refine tells_of (fun b hb => ?_) (pure_tms 5 []) ?_
  · simp at hb; rcases hb with rfl | rfl <;> exact .raw _
  refine gives_enter Tryz.func26 rfl rfl ?_
  repeat' first
    | refine wk ?_
    | refine wa ?_
    | (refine goesL_b (by rfl) (by rfl) fun b hb => ?_; cases b <;> refine sm ?_)
    | (refine goesA_b (by rfl) (by rfl) fun b hb => ?_; cases b <;> refine sm ?_)
  · exact absurd (of_decide_eq_false hb) (by omega)
  · exact ⟨rfl, _, rfl, _, [], [], rfl, .none .nil, fun p hp => nomatch hp⟩
theorem rvars_tells (n : Nat) (from' : Int) (hn0 : 1 ≤ n) (hn : n ≤ 1048576) (hf : -1048576 ≤ from' ∧ from' ≤ 1048576) : Tells Tryz.prog (.func 26) [eInt (n : Int), eInt from'] [] (.vals 5 ((varsT n from').map eTm)) := by
  obtain ⟨W, hW⟩ : ∃ W, varsT n from' = W := ⟨_, rfl⟩
  have hWl : W.length = n := by rw [← hW]; unfold varsT; simp
  have kid : ∀ i : Nat, i < n → W[i]? = some (.mk 1 (IntKind.i64.wrap (from' + ((n : Int) - 1 - (i : Int)))) 0 [] []) := fun i hi => by
    rw [← hW]
    unfold varsT
    rw [List.getElem?_map, List.getElem?_range hi]
    show some (varTm (varN n from' i)) = _
    unfold varN varTm
    rw [wrap_rng (n := from' + (n : Int)) ⟨by omega, by omega⟩, wrap_rng (n := from' + (n : Int) - 1) ⟨by omega, by omega⟩, show from' + (n : Int) - 1 - (i : Int) = from' + ((n : Int) - 1 - (i : Int)) by omega]
  rw [hW]
  refine tells_of (fun b hb => ?_) (pure_tms 5 W) ?_
  · simp at hb; rcases hb with rfl | rfl <;> exact .raw _
  have e0 : IntKind.i64.wrap ((n : Int) - 1) = (n : Int) - 1 := wrap_rng ⟨by omega, by omega⟩
  refine gives_enter Tryz.func26 rfl rfl ?_
  repeat' first
    | refine wk ?_
    | refine wa ?_
    | (refine goesL_b (by rfl) (by rfl) fun b hb => ?_; cases b <;> refine sm ?_)
    | (refine goesA_b (by rfl) (by rfl) fun b hb => ?_; cases b <;> refine sm ?_)
  rotate_left
  · exact absurd (of_decide_eq_true hb) (by omega)
  rw [e0]
  refine goes_keep [0, 1, 5, 6] ?_
  refine goes_loop (fun M f h => ∃ j : Nat, j ≤ n ∧ M = n - j ∧ ((j = 0 ∧ f.keep [0, 1, 5, 6] = ⟨⟨23, [(0, eInt (n : Int)), (1, eInt from'), (5, .raw (.slice none 0 0)), (6, eInt ((n : Int) - 1))]⟩, [], none⟩ ∧ h = ⟨0, [], []⟩) ∨
    ∃ (i : Nat) (g : AV), j = i + 1 ∧ Pure g ∧ f.keep [0, 1, 5, 6] = ⟨⟨23, [(0, eInt (n : Int)), (1, eInt from'), (5, .row 1 i 0 (i + 1)), (6, eInt ((n : Int) - 1 - ((i + 1 : Nat) : Int)))]⟩, [], none⟩ ∧ h = ⟨2, [], [(1, .cells ⟨i, 26, 5, 0, tmsC (W.take (i + 1))⟩), (0, .cells ⟨0, 26, 5, 0, [eInt 1, g, eInt 0, .vals 1 [], .vals 5 []]⟩)]⟩)) ?_ n _ _ ⟨0, Nat.zero_le _, by omega, .inl ⟨rfl, rfl, rfl⟩⟩
  rintro M f h ⟨j, hj, rfl, ⟨rfl, hkf, rfl⟩ | ⟨i, g, rfl, hpg, hkf, rfl⟩⟩
  · refine goes_keep [0, 1, 5, 6] ?_
    rw [hkf]
    have hk0 := kid 0 (by omega)
    rw [show (n : Int) - 1 - ((0 : Nat) : Int) = (n : Int) - 1 by omega] at hk0
    have hT := rvar_tells (IntKind.i64.wrap (from' + ((n : Int) - 1)))
    rw [eTm_mk] at hT
    repeat' first
      | refine wk ?_
      | refine wa ?_
      | refine tl hT ?_
      | refine ta hT ?_
      | (refine goesL_b (by rfl) (by rfl) fun b hb => ?_; cases b <;> refine sm ?_)
      | (refine goesA_b (by rfl) (by rfl) fun b hb => ?_; cases b <;> refine sm ?_)
    · exact absurd (of_decide_eq_false hb) (by omega)
    · refine ⟨n - 1, by omega, 1, by omega, rfl, .inr ⟨0, eInt (IntKind.i64.wrap (from' + ((n : Int) - 1))), rfl, .raw _, ?_, ?_⟩⟩
      · rw [wrap_rng (n := (n : Int) - 1 - 1) ⟨by omega, by omega⟩]
        rfl
      · rw [show W.take (0 + 1) = _ from take_one_t hk0, tms_one]
        rfl
  · refine goes_keep [0, 1, 5, 6] ?_
    rw [hkf]
    have hp10 : Pure (.vals 1 []) := pure_lvs 1 []
    have hp50 : Pure (.vals 5 []) := pure_tms 5 []
    have hpW := pure_tmsC (W.take (i + 1))
    have hi1 : (W.take (i + 1)).length = i + 1 := by rw [List.length_take]; omega
    refine goes_scope [0, 1, 5, 6] ?_
    rcases Nat.lt_or_eq_of_le hj with hlt | heq
    · have hk1 := kid (i + 1) hlt
      have hWi := take_next hk1
      have hT := rvar_tells (IntKind.i64.wrap (from' + ((n : Int) - 1 - ((i + 1 : Nat) : Int))))
      rw [eTm_mk] at hT
      have hpW2 := pure_tmsC (W.take (i + 1) ++ [.mk 1 (IntKind.i64.wrap (from' + ((n : Int) - 1 - ((i + 1 : Nat) : Int)))) 0 [] []])
      repeat' first
        | refine wk ?_
        | refine wa ?_
        | refine tl hT ?_
        | refine ta hT ?_
        | (refine goesL_b (by rfl) (by rfl) fun b hb => ?_; cases b <;> refine sm ?_)
        | (refine goesA_b (by rfl) (by rfl) fun b hb => ?_; cases b <;> refine sm ?_)
      · exact absurd (of_decide_eq_false hb) (by omega)
      · refine goesL_push (c := W.take (i + 1)) (w := .mk 1 (IntKind.i64.wrap (from' + ((n : Int) - 1 - ((i + 1 : Nat) : Int)))) 0 [] []) hi1 (by omega) ?_
        refine sm ?_
        repeat' first
          | refine wk ?_
          | refine wa ?_
          | (refine goesL_b (by rfl) (by rfl) fun b hb => ?_; cases b <;> refine sm ?_)
          | (refine goesA_b (by rfl) (by rfl) fun b hb => ?_; cases b <;> refine sm ?_)
        refine within_of (by repeat' first | exact True.intro | exact Of.raw _ | exact Of.emp | exact Of.ptr (has_nil (by rfl)) | exact Of.row (has_nil (by rfl)) | exact Of.yld (has_nil (by rfl)) | exact has_nil (by rfl) | assumption | exact Pure.of (by assumption) | exact Pure.of (pure_lvs _ _) | exact Pure.of (pure_tms _ _) | refine And.intro ?_ ?_ | exact ofC_pure (by assumption) | (refine Of.clo (fun _ ha => nomatch ha) (ofC_pure (by assumption))) | (refine Of.agg (OfC.all ?_)) | (refine Of.clo (fun _ ha => nomatch ha) (OfC.all ?_))) (by repeat' first | exact True.intro | refine And.intro ?_ ?_ | exact has_nil (by rfl)) (by first | exact True.intro | exact Of.raw _ | exact Of.ifc (Of.raw _)) (by repeat' first | exact True.intro | exact Of.raw _ | exact Of.emp | exact Of.ptr (has_nil (by rfl)) | exact Of.row (has_nil (by rfl)) | exact Of.yld (has_nil (by rfl)) | exact has_nil (by rfl) | assumption | exact Pure.of (by assumption) | exact Pure.of (pure_lvs _ _) | exact Pure.of (pure_tms _ _) | refine And.intro ?_ ?_ | exact ofC_pure (by assumption) | (refine Of.agg (OfC.all ?_)) | (refine Of.clo (fun _ ha => nomatch ha) (OfC.all ?_))) ?_
        refine ⟨n - (i + 2), by omega, i + 2, by omega, rfl, .inr ⟨i + 1, g, rfl, hpg, ?_, ?_⟩⟩
        · rw [wrap_rng (n := (n : Int) - 1 - ((i + 1 : Nat) : Int) - 1) ⟨by omega, by omega⟩, show (n : Int) - 1 - ((i + 1 : Nat) : Int) - 1 = (n : Int) - 1 - ((i + 1 + 1 : Nat) : Int) by omega]
          rfl
        · rw [hWi]
          rfl
    · have hWt : W.take (i + 1) = W := List.take_of_length_le (by omega)
      rw [hWt] at hpW hi1 ⊢
      repeat' first
        | refine wk ?_
        | refine wa ?_
        | (refine goesL_b (by rfl) (by rfl) fun b hb => ?_; cases b <;> refine sm ?_)
        | (refine goesA_b (by rfl) (by rfl) fun b hb => ?_; cases b <;> refine sm ?_)
      · refine within_of (by repeat' first | exact True.intro | exact Of.raw _ | exact Of.emp | exact Of.ptr (has_nil (by rfl)) | exact Of.row (has_nil (by rfl)) | exact Of.yld (has_nil (by rfl)) | exact has_nil (by rfl) | assumption | exact Pure.of (by assumption) | exact Pure.of (pure_lvs _ _) | exact Pure.of (pure_tms _ _) | refine And.intro ?_ ?_ | exact ofC_pure (by assumption) | (refine Of.clo (fun _ ha => nomatch ha) (ofC_pure (by assumption))) | (refine Of.agg (OfC.all ?_)) | (refine Of.clo (fun _ ha => nomatch ha) (OfC.all ?_))) (by repeat' first | exact True.intro | refine And.intro ?_ ?_ | exact has_nil (by rfl)) (by first | exact True.intro | exact Of.raw _ | exact Of.ifc (Of.raw _)) (by repeat' first | exact True.intro | exact Of.raw _ | exact Of.emp | exact Of.ptr (has_nil (by rfl)) | exact Of.row (has_nil (by rfl)) | exact Of.yld (has_nil (by rfl)) | exact has_nil (by rfl) | assumption | exact Pure.of (by assumption) | exact Pure.of (pure_lvs _ _) | exact Pure.of (pure_tms _ _) | refine And.intro ?_ ?_ | exact ofC_pure (by assumption) | (refine Of.agg (OfC.all ?_)) | (refine Of.clo (fun _ ha => nomatch ha) (OfC.all ?_))) ?_
        refine sm ?_
        repeat' first
          | refine wk ?_
          | refine wa ?_
          | (refine goesL_b (by rfl) (by rfl) fun b hb => ?_; cases b <;> refine sm ?_)
          | (refine goesA_b (by rfl) (by rfl) fun b hb => ?_; cases b <;> refine sm ?_)
        have hsn := snap_tms (H := ⟨2, [], [(1, .cells ⟨i, 26, 5, 0, tmsC W⟩), (0, .cells ⟨0, 26, 5, 0, [eInt 1, g, eInt 0, .vals 1 [], .vals 5 []]⟩)]⟩) (r := 1) rfl hi1
        exact ⟨rfl, _, rfl, _, [(1, (i + 1) * 5)], [(1, 0 + (i + 1) * 5)], rfl, hsn.1, hsn.2⟩
      · exact absurd (of_decide_eq_true hb) (by omega)
end Go.Proofs.YtaoglkkdhdfioaaGreatDoor
