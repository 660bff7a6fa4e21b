/- The document's lifting of rows, variables: the same as the program's. -/
import Derived.Test.YtaoglkkdhdfioaaGreatDoorEvWk
import Derived.Test.YtaoglkkdhdfioaaGreatDoorTeRef4
import Derived.Test.YtaoglkkdhdfioaaGreatDoorTePush
import Derived.KernelRfl
import Derived.Test.YtaoglkkdhdfioaaGreatDoorProg
namespace Go.Proofs.YtaoglkkdhdfioaaGreatDoor
open Go Go.Proofs
set_option maxRecDepth 100000
set_option maxHeartbeats 4000000
attribute [local go_sem] AH.seals AH.adds news List.nil_append List.cons_append AF.put AF.start Slots.set Slots.ins zipA AH.zero AH.new AH.put AH.sub ofV AV.cells List.length AF.keep AH.cut List.filter_cons List.filter_nil List.contains_cons List.contains_nil Nat.reduceBEq Bool.or_false Bool.or_true Bool.true_or Bool.false_or decide_true decide_false Bool.not_false Bool.and_true Bool.true_and Bool.and_self List.append_nil List.getElem_toArray List.getElem_cons_zero List.getElem_cons_succ Nat.reduceLT Nat.reduceAdd Nat.reduceSub Nat.reduceEqDiff andThen atEnd rounds Tryz.ntmps53 Tryz.ntmps26 AH.only List.length_append List.filter
theorem rlifts_tells (m from' : Int) (row : List Tm) (hl : row.length ≤ 1048576) (hr : ∀ t ∈ row, t.bare ∧ t.fit ∧ t.size ≤ 1048576) : Tells Tryz.prog (.func 53) [.vals 5 (row.map eTm), eInt m, eInt from'] [] (.vals 5 ((liftsT m from' row).map eTm)) := by
  obtain ⟨W, hW⟩ : ∃ W, liftsT m from' row = W := ⟨_, rfl⟩
  have hWl : W.length = row.length := by rw [← hW]; unfold liftsT; simp
  rw [hW]
  have hrp := pure_tms 5 row
  refine tells_of (fun b hb => ?_) (pure_tms 5 W) ?_
  · simp at hb; rcases hb with rfl | rfl | rfl
    · exact hrp
    · exact .raw _
    · exact .raw _
  obtain ⟨K, hK⟩ : ∃ K, row.map eTm = K := ⟨_, rfl⟩
  have hKl : K.length = row.length := by rw [← hK]; simp
  rw [hK] at hrp ⊢
  have kid : ∀ (i : Nat) (u : Tm), row[i]? = some u → ∃ w, W[i]? = some w ∧ Tells Tryz.prog (.func 78) [.agg (tmC u), eInt m, eInt (IntKind.i64.wrap (from' + (i : Int)))] [] (.agg (tmC w)) := fun i u hu => by
    have hur := hr u (List.mem_of_getElem? hu)
    have hT := rLift_tells u m (IntKind.i64.wrap (from' + (i : Int))) hur.2.2 hur.1 hur.2.1
    rw [eTm_agg, eTm_agg] at hT
    refine ⟨_, ?_, hT⟩
    rw [← hW]
    unfold liftsT
    rw [List.getElem?_mapIdx, hu]
    rfl
  refine gives_enter Tryz.func53 rfl rfl ?_
  repeat' first
    | refine wk ?_
    | refine wa ?_
    | (refine goesL_b (by rfl) (by rfl) fun b hb => ?_; cases b <;> refine sm ?_)
    | (refine goesA_b (by rfl) (by rfl) fun b hb => ?_; cases b <;> refine sm ?_)
  refine goes_keep [0, 1, 2, 7, 8] ?_
  refine goes_loop (fun M f h => ∃ j : Nat, j ≤ K.length ∧ M = K.length - j ∧ ((j = 0 ∧ f.keep [0, 1, 2, 7, 8] = ⟨⟨28, [(0, .vals 5 K), (1, eInt m), (2, eInt from'), (7, .raw (.slice none 0 0)), (8, eInt 0)]⟩, [], none⟩ ∧ h = ⟨0, [], []⟩) ∨
    ∃ (i : Nat) (g : Tm), j = i + 1 ∧ f.keep [0, 1, 2, 7, 8] = ⟨⟨28, [(0, .vals 5 K), (1, eInt m), (2, eInt from'), (7, .row 1 i 0 (i + 1)), (8, eInt ((i + 1 : Nat) : Int))]⟩, [], none⟩ ∧ h = ⟨2, [], [(1, .cells ⟨i, 26, 5, 0, tmsC (W.take (i + 1))⟩), (0, .cells (tmBlk 5 (tmC g)))]⟩)) ?_ K.length _ _ ⟨0, Nat.zero_le _, by omega, .inl ⟨rfl, rfl, rfl⟩⟩
  rintro M f h ⟨j, hj, rfl, ⟨rfl, hkf, rfl⟩ | ⟨i, g, rfl, hkf, rfl⟩⟩
  · refine goes_keep [0, 1, 2, 7, 8] ?_
    rw [hkf]
    repeat' first
      | refine wk ?_
      | refine wa ?_
      | (refine goesL_b (by rfl) (by rfl) fun b hb => ?_; cases b <;> refine sm ?_)
      | (refine goesA_b (by rfl) (by rfl) fun b hb => ?_; cases b <;> refine sm ?_)
    · have hW0 : W = [] := List.eq_nil_of_length_eq_zero (by have := of_decide_eq_false hb; omega)
      rw [hW0]
      exact ⟨rfl, _, rfl, _, [], [], rfl, .none .nil, fun p hp => nomatch hp⟩
    · have hpos : 0 < K.length := by have := of_decide_eq_true hb; omega
      obtain ⟨u, hu⟩ : ∃ u, row[0]? = some u := ⟨_, List.getElem?_eq_getElem (by omega)⟩
      have hKu : K[0]? = some (.agg (tmC u)) := by rw [← hK, List.getElem?_map, hu, ← eTm_agg]; rfl
      obtain ⟨w, hWu, hT⟩ := kid 0 u hu
      obtain ⟨k1, n1, a1, lv1, kids1⟩ := u
      obtain ⟨k2, n2, a2, lv2, kids2⟩ := w
      refine goesL_index (n := 0) (by rfl) (by rfl) (by rfl) (by rfl) (by rfl) (by rfl) (by rfl) hKu ?_
      refine sm ?_
      repeat' first
        | refine wk ?_
        | refine wa ?_
        | refine tl hT ?_
        | refine ta hT ?_
        | (refine goesL_b (by rfl) (by rfl) fun b hb => ?_; cases b <;> refine sm ?_)
        | (refine goesA_b (by rfl) (by rfl) fun b hb => ?_; cases b <;> refine sm ?_)
      refine ⟨K.length - 1, by omega, 1, by omega, rfl, .inr ⟨0, .mk k2 n2 a2 lv2 kids2, rfl, rfl, ?_⟩⟩
      rw [show W.take (0 + 1) = [.mk k2 n2 a2 lv2 kids2] from take_one_t hWu, tms_one]
      rfl
  · refine goes_keep [0, 1, 2, 7, 8] ?_
    rw [hkf]
    have hpg := pure_tmC g
    have hpW := pure_tmsC (W.take (i + 1))
    have hi1 : (W.take (i + 1)).length = i + 1 := by rw [List.length_take]; omega
    refine goes_scope [0, 1, 2, 7, 8] ?_
    repeat' first
      | refine wk ?_
      | refine wa ?_
      | (refine goesL_b (by rfl) (by rfl) fun b hb => ?_; cases b <;> refine sm ?_)
      | (refine goesA_b (by rfl) (by rfl) fun b hb => ?_; cases b <;> refine sm ?_)
    · have hiK : i + 1 = K.length := by have := of_decide_eq_false hb; omega
      have hWt : W.take (i + 1) = W := List.take_of_length_le (by omega)
      rw [hWt] at hpW hi1 ⊢
      refine within_of (by repeat' first | exact True.intro | exact Of.raw _ | exact Of.emp | exact Of.ptr (has_nil (by rfl)) | exact Of.row (has_nil (by rfl)) | exact Of.yld (has_nil (by rfl)) | exact has_nil (by rfl) | assumption | exact Pure.of (by assumption) | exact Pure.of (pure_lvs _ _) | exact Pure.of (pure_tms _ _) | refine And.intro ?_ ?_ | exact ofC_pure (by assumption) | (refine Of.clo (fun _ ha => nomatch ha) (ofC_pure (by assumption))) | (refine Of.agg (OfC.all ?_)) | (refine Of.clo (fun _ ha => nomatch ha) (OfC.all ?_))) (by repeat' first | exact True.intro | refine And.intro ?_ ?_ | exact has_nil (by rfl)) (by first | exact True.intro | exact Of.raw _ | exact Of.ifc (Of.raw _)) (by repeat' first | exact True.intro | exact Of.raw _ | exact Of.emp | exact Of.ptr (has_nil (by rfl)) | exact Of.row (has_nil (by rfl)) | exact Of.yld (has_nil (by rfl)) | exact has_nil (by rfl) | assumption | exact Pure.of (by assumption) | exact Pure.of (pure_lvs _ _) | exact Pure.of (pure_tms _ _) | refine And.intro ?_ ?_ | exact ofC_pure (by assumption) | (refine Of.agg (OfC.all ?_)) | (refine Of.clo (fun _ ha => nomatch ha) (OfC.all ?_))) ?_
      refine sm ?_
      repeat' first
        | refine wk ?_
        | refine wa ?_
        | (refine goesL_b (by rfl) (by rfl) fun b hb => ?_; cases b <;> refine sm ?_)
        | (refine goesA_b (by rfl) (by rfl) fun b hb => ?_; cases b <;> refine sm ?_)
      have hsn := snap_tms (H := ⟨2, [], [(1, .cells ⟨i, 26, 5, 0, tmsC W⟩), (0, .cells (tmBlk 5 (tmC g)))]⟩) (r := 1) rfl hi1
      exact ⟨rfl, _, rfl, _, [(1, (i + 1) * 5)], [(1, 0 + (i + 1) * 5)], rfl, hsn.1, hsn.2⟩
    · have hiK : i + 1 < K.length := by have := of_decide_eq_true hb; omega
      obtain ⟨u, hu⟩ : ∃ u, row[i + 1]? = some u := ⟨_, List.getElem?_eq_getElem (by omega)⟩
      have hKu : K[i + 1]? = some (.agg (tmC u)) := by rw [← hK, List.getElem?_map, hu, ← eTm_agg]; rfl
      obtain ⟨w, hWu, hT⟩ := kid (i + 1) u hu
      have hWi := take_next hWu
      have hpW2 := pure_tmsC (W.take (i + 1) ++ [w])
      obtain ⟨k1, n1, a1, lv1, kids1⟩ := u
      obtain ⟨k2, n2, a2, lv2, kids2⟩ := w
      refine goesL_index (n := i + 1) (by rfl) (by rfl) (by rfl) (by rfl) (by rfl) (by rfl) (by rfl) hKu ?_
      refine sm ?_
      repeat' first
        | refine wk ?_
        | refine wa ?_
        | refine tl hT ?_
        | refine ta hT ?_
        | (refine goesL_b (by rfl) (by rfl) fun b hb => ?_; cases b <;> refine sm ?_)
        | (refine goesA_b (by rfl) (by rfl) fun b hb => ?_; cases b <;> refine sm ?_)
      refine goesL_push (c := W.take (i + 1)) (w := .mk k2 n2 a2 lv2 kids2) hi1 (by omega) ?_
      refine sm ?_
      repeat' first
        | refine wk ?_
        | refine wa ?_
        | (refine goesL_b (by rfl) (by rfl) fun b hb => ?_; cases b <;> refine sm ?_)
        | (refine goesA_b (by rfl) (by rfl) fun b hb => ?_; cases b <;> refine sm ?_)
      refine within_of (by repeat' first | exact True.intro | exact Of.raw _ | exact Of.emp | exact Of.ptr (has_nil (by rfl)) | exact Of.row (has_nil (by rfl)) | exact Of.yld (has_nil (by rfl)) | exact has_nil (by rfl) | assumption | exact Pure.of (by assumption) | exact Pure.of (pure_lvs _ _) | exact Pure.of (pure_tms _ _) | refine And.intro ?_ ?_ | exact ofC_pure (by assumption) | (refine Of.clo (fun _ ha => nomatch ha) (ofC_pure (by assumption))) | (refine Of.agg (OfC.all ?_)) | (refine Of.clo (fun _ ha => nomatch ha) (OfC.all ?_))) (by repeat' first | exact True.intro | refine And.intro ?_ ?_ | exact has_nil (by rfl)) (by first | exact True.intro | exact Of.raw _ | exact Of.ifc (Of.raw _)) (by repeat' first | exact True.intro | exact Of.raw _ | exact Of.emp | exact Of.ptr (has_nil (by rfl)) | exact Of.row (has_nil (by rfl)) | exact Of.yld (has_nil (by rfl)) | exact has_nil (by rfl) | assumption | exact Pure.of (by assumption) | exact Pure.of (pure_lvs _ _) | exact Pure.of (pure_tms _ _) | refine And.intro ?_ ?_ | exact ofC_pure (by assumption) | (refine Of.agg (OfC.all ?_)) | (refine Of.clo (fun _ ha => nomatch ha) (OfC.all ?_))) ?_
      refine ⟨K.length - (i + 2), by omega, i + 2, by omega, rfl, .inr ⟨i + 1, g, rfl, ?_, ?_⟩⟩
      · rw [← next_nat (m := i) (by omega)]
        rfl
      · rw [hWi]
        rfl
end Go.Proofs.YtaoglkkdhdfioaaGreatDoor
