/- The document's putting, and lifting and putting of whole terms: the same as the program's. -/
import Derived.Test.YtaoglkkdhdfioaaGreatDoorEvWk
import Derived.Test.YtaoglkkdhdfioaaGreatDoorTeRef2
import Derived.KernelRfl
import Derived.Test.YtaoglkkdhdfioaaGreatDoorProg
namespace Go.Proofs.YtaoglkkdhdfioaaGreatDoor
open Go Go.Proofs
set_option maxRecDepth 100000
set_option maxHeartbeats 4000000
attribute [local go_sem] AH.seals AH.adds news List.nil_append List.cons_append AF.put AF.start Slots.set Slots.ins zipA AH.zero AH.new AH.put AH.sub ofV AV.cells List.length AF.keep AH.cut List.filter_cons List.filter_nil List.contains_cons List.contains_nil Nat.reduceBEq Bool.or_false Bool.or_true Bool.true_or Bool.false_or decide_true decide_false Bool.not_false Bool.and_true Bool.true_and Bool.and_self List.append_nil List.getElem_toArray List.getElem_cons_zero List.getElem_cons_succ Nat.reduceLT Nat.reduceAdd Nat.reduceSub Nat.reduceEqDiff andThen atEnd rounds Tryz.ntmps104 Tryz.ntmps78 Tryz.ntmps64 AH.only List.length_append List.filter
theorem rput_tells (by' : List Tm) (hby : ∀ b ∈ by', b.bare ∧ b.fit ∧ b.size ≤ 1048576) (hbl : by'.length ≤ 1048576) (t : Tm) : ∀ (d : Nat), d + t.size ≤ 1048576 → t.bare → t.fit → Tells Tryz.prog (.func 104) [eTm t, .vals 5 (by'.map eTm), eInt (d : Int)] [] (eTm (t.walk (putT by') d)) := by
  refine Tm.ind (P := fun t => ∀ (d : Nat), d + t.size ≤ 1048576 → t.bare → t.fit → Tells Tryz.prog (.func 104) [eTm t, .vals 5 (by'.map eTm), eInt (d : Int)] [] (eTm (t.walk (putT by') d))) (fun k n a lv kids ih d hs hbr hf => ?_) t
  obtain ⟨rfl, hbk⟩ := (Tm.bare_mk ..).1 hbr
  have hf5 := (Tm.fit_mk ..).1 hf
  rw [Tm.size_mk] at hs
  have hkl := Tm.sizeL_len kids
  have hr := hf5.1
  unfold Rng at hr
  have hw : (d : Int) ≤ n → IntKind.i64.wrap (n - d) = n - d := fun h => wrap_rng ⟨by omega, by omega⟩
  have hBp : Pure (.vals 5 (by'.map eTm)) := pure_tms 5 by'
  refine tells_raw (fun b hb => ?_) (pure_tm _) ?_
  · simp at hb; rcases hb with rfl | rfl | rfl
    · exact pure_tm _
    · exact hBp
    · exact .raw _
  obtain ⟨B, hB⟩ : ∃ B, by'.map eTm = B := ⟨_, rfl⟩
  have hBl : B.length = by'.length := by rw [← hB]; simp
  rw [hB] at hBp ⊢
  by_cases hdone : k = 1 ∧ (d : Int) ≤ n ∧ n - d < by'.length
  · obtain ⟨hk, hdn, hlt⟩ := hdone
    obtain ⟨x, hx⟩ : ∃ x : Nat, n - d = x := ⟨(n - d).toNat, by omega⟩
    obtain ⟨u, hu⟩ : ∃ u, by'[by'.length - 1 - x]? = some u := ⟨_, List.getElem?_eq_getElem (by omega)⟩
    have hub := hby u (List.mem_of_getElem? hu)
    have hT := rlift_tells (d : Int) 0 u 0 (by omega) hub.1 hub.2.1
    have htr : putT by' d k n [] = .done (u.walk (liftT d 0) 0) := by
      unfold putT outer
      rw [decide_eq_true (show k = 1 ∧ (d : Int) ≤ n ∧ (0 : Int) ≤ n - d from ⟨hk, hdn, by omega⟩), if_pos rfl, if_pos hlt, hx]
      show Turned.done ((by'.getD (by'.length - 1 - x) _).walk _ _) = _
      rw [List.getD_eq_getElem?_getD, hu]
      rfl
    rw [Tm.walk_done htr]
    have hBu : B[by'.length - 1 - x]? = some (.agg (tmC u)) := by rw [← hB, List.getElem?_map, hu, ← eTm_agg]; rfl
    generalize u.walk (liftT d 0) 0 = w at hT
    rw [eTm_agg u, eTm_agg w] at hT
    rw [eTm_mk, eTm_agg w]
    generalize kids.map eTm = K
    obtain ⟨k1, n1, a1, lv1, kids1⟩ := u
    obtain ⟨k2, n2, a2, lv2, kids2⟩ := w
    have hw3 : IntKind.i64.wrap (IntKind.i64.wrap ((B.length : Int) - 1) - IntKind.i64.wrap (n - d)) = ((by'.length - 1 - x : Nat) : Int) := by
      rw [hw hdn, hx, hBl, show ((by'.length : Int) - 1) = ((by'.length - 1 : Nat) : Int) by omega, wrap_nat (by omega), show (((by'.length - 1 : Nat) : Int) - (x : Int)) = ((by'.length - 1 - x : Nat) : Int) by omega, wrap_nat (by omega)]
    subst hk
    refine gives_enter Tryz.func104 rfl rfl ?_
    repeat' first
      | refine wk ?_
      | refine wa ?_
      | (refine goesL_b (by rfl) (by rfl) fun b hb => ?_; cases b <;> refine sm ?_)
      | (refine goesA_b (by rfl) (by rfl) fun b hb => ?_; cases b <;> refine sm ?_)
    · exact absurd (of_decide_eq_false hb) (by omega)
    · exact absurd (of_decide_eq_false hb) (by rw [hw hdn]; omega)
    · rw [hw3]
      refine goesL_index (n := by'.length - 1 - x) (by rfl) (by rfl) (by rfl) (by rfl) (by rfl) (by rfl) (by rfl) hBu ?_
      refine sm ?_
      repeat' first
        | refine wk ?_
        | refine wa ?_
        | refine tl hT ?_
        | refine ta hT ?_
        | (refine goesL_b (by rfl) (by rfl) fun b hb => ?_; cases b <;> refine sm ?_)
        | (refine goesA_b (by rfl) (by rfl) fun b hb => ?_; cases b <;> refine sm ?_)
      exact ⟨rfl, _, rfl, rfl⟩
  · obtain ⟨N, hN, e1, e2⟩ : ∃ N, putT by' d k n [] = .go N [] ∧ (¬ (k = 1 ∧ (d : Int) ≤ n) → n = N) ∧ (k = 1 ∧ (d : Int) ≤ n → n - by'.length = N ∧ (by'.length : Int) ≤ n - d) := by
      by_cases ho : k = 1 ∧ (d : Int) ≤ n
      · refine ⟨n - by'.length, ?_, fun h => absurd ho h, fun _ => ⟨rfl, by have : ¬ (n - d < by'.length) := fun h => hdone ⟨ho.1, ho.2, h⟩; omega⟩⟩
        unfold putT outer
        rw [decide_eq_true (show k = 1 ∧ (d : Int) ≤ n ∧ (0 : Int) ≤ n - d from ⟨ho.1, ho.2, by omega⟩), if_pos rfl, if_neg fun h => hdone ⟨ho.1, ho.2, h⟩]
      · refine ⟨n, ?_, fun _ => rfl, fun h => absurd h ho⟩
        unfold putT outer
        rw [decide_eq_false (fun h => ho ⟨h.1, h.2.1⟩)]
        rfl
    rw [Tm.walk_go hN]
    obtain ⟨W, hW⟩ : ∃ W, Tm.walkL (putT by') d k 0 kids = W := ⟨_, rfl⟩
    have hWl : W.length = kids.length := by rw [← hW, Tm.walkL_length]
    rw [hW, eTm_mk, eTm_mk]
    have hWp := pure_tms 5 W
    obtain ⟨K, hK⟩ : ∃ K, kids.map eTm = K := ⟨_, rfl⟩
    have hKl : K.length = kids.length := by rw [← hK]; simp
    have hKp : Pure (.vals 5 K) := hK ▸ pure_tms 5 kids
    rw [hK]
    rw [hB] at ih
    refine gives_enter Tryz.func104 rfl rfl ?_
    apply share (N := N) (fun _ => ⟨⟨67, [(1, .vals 5 B), (2, eInt (d : Int)), (3, .ptr 0 0 0), (6, .ptr 1 0 0), (9, .raw (.slice none 0 0)), (10, eInt 0)]⟩, [], none⟩) (fun n' => ⟨2, [], [(1, .cells (tmBlk 1 [eInt 0, eInt 0, eInt 0, .raw (.slice none 0 0), .raw (.slice none 0 0)])), (0, .cells (tmBlk 1 [eInt k, eInt n', eInt a, .vals 1 [], .vals 5 K]))]⟩)
    · intro rest
      repeat' first
        | refine wk ?_
        | refine wa ?_
        | (refine goesL_b (by rfl) (by rfl) fun b hb => ?_; cases b <;> refine sm ?_)
        | (refine goesA_b (by rfl) (by rfl) fun b hb => ?_; cases b <;> refine sm ?_)
      · refine goes_keep [1, 2, 3, 6, 9, 10] ?_
        exact rest n (e1 fun h => by rw [h.1] at hb; cases hb)
      · refine goes_keep [1, 2, 3, 6, 9, 10] ?_
        exact rest n (e1 fun h => by have := of_decide_eq_false hb; omega)
      · rename_i h1 h2
        have hk : k = 1 := by simpa using h1
        have hdn := of_decide_eq_true h2
        have e3 := e2 ⟨hk, hdn⟩
        refine goes_keep [1, 2, 3, 6, 9, 10] ?_
        have hwn : IntKind.i64.wrap (n - (B.length : Int)) = n - by'.length := by rw [hBl]; exact wrap_rng ⟨by omega, by omega⟩
        rw [hwn]
        exact rest _ e3.1
      · rename_i h1 h2
        have hk : k = 1 := by simpa using h1
        have hdn := of_decide_eq_true h2
        have hb := of_decide_eq_true hb
        rw [hw hdn] at hb
        exact absurd ⟨hk, hdn, by omega⟩ hdone
    · intro n' hn'
      refine goes_loop (fun M f h => ∃ j : Nat, j ≤ K.length ∧ M = K.length - j ∧ ((j = 0 ∧ f.keep [1, 2, 3, 6, 9, 10] = ⟨⟨67, [(1, .vals 5 B), (2, eInt (d : Int)), (3, .ptr 0 0 0), (6, .ptr 1 0 0), (9, .raw (.slice none 0 0)), (10, eInt 0)]⟩, [], none⟩ ∧
          h = ⟨2, [], [(1, .cells (tmBlk 1 [eInt 0, eInt 0, eInt 0, .raw (.slice none 0 0), .raw (.slice none 0 0)])), (0, .cells (tmBlk 1 [eInt k, eInt n', eInt a, .vals 1 [], .vals 5 K]))]⟩) ∨
        ∃ (i : Nat) (g : Tm), j = i + 1 ∧ f.keep [1, 2, 3, 6, 9, 10] = ⟨⟨67, [(1, .vals 5 B), (2, eInt (d : Int)), (3, .ptr 0 0 0), (6, .ptr 1 0 0), (9, .row 15 i 0 (i + 1)), (10, eInt ((i + 1 : Nat) : Int))]⟩, [], none⟩ ∧
          h = ⟨17, [], [(1, .cells (tmBlk 1 [eInt 0, eInt 0, eInt 0, .raw (.slice none 0 0), .raw (.slice none 0 0)])), (0, .cells (tmBlk 1 [eInt k, eInt n', eInt a, .vals 1 [], .vals 5 K])), (14, .cells (tmBlk 5 (tmC g))), (15, .cells ⟨i, 26, 5, 0, tmsC (W.take (i + 1))⟩)]⟩)) ?_ K.length _ _ ⟨0, Nat.zero_le _, by omega, .inl ⟨rfl, rfl, rfl⟩⟩
      rintro M f h ⟨j, hj, rfl, ⟨rfl, hkf, rfl⟩ | ⟨i, g, rfl, hkf, rfl⟩⟩
      · refine goes_keep [1, 2, 3, 6, 9, 10] ?_
        rw [hkf]
        repeat' first
          | refine wk ?_
          | refine wa ?_
          | (refine goesL_b (by rfl) (by rfl) fun b hb => ?_; cases b <;> refine sm ?_)
          | (refine goesA_b (by rfl) (by rfl) fun b hb => ?_; cases b <;> refine sm ?_)
        · have hK0 : K = [] := List.eq_nil_of_length_eq_zero (by have := of_decide_eq_false hb; omega)
          have hW0 : W = [] := List.eq_nil_of_length_eq_zero (by rw [hK0] at hKl; simp at hKl; omega)
          have hT := rwith_tells k n' a kids [] (pure_tms 5 [])
          rw [eTm_mk, hK] at hT
          refine goesL_call (by rfl) (by rfl) (by rfl) (by rfl) (by rfl) (gives_nil hT ?_)
          refine sm ?_
          repeat' first
            | refine wk ?_
            | refine wa ?_
            | (refine goesL_b (by rfl) (by rfl) fun b hb => ?_; cases b <;> refine sm ?_)
            | (refine goesA_b (by rfl) (by rfl) fun b hb => ?_; cases b <;> refine sm ?_)
          rw [hW0, ← hn']
          exact ⟨rfl, _, rfl, rfl⟩
        · have hpos : 0 < K.length := by have := of_decide_eq_true hb; omega
          obtain ⟨u, hu⟩ : ∃ u, kids[0]? = some u := ⟨_, List.getElem?_eq_getElem (by omega)⟩
          have hmem := List.mem_of_getElem? hu
          have hKu : K[0]? = some (.agg (tmC u)) := by rw [← hK, List.getElem?_map, hu, ← eTm_agg]; rfl
          have hus := sizeL_in kids u hmem
          have hun : under k 0 ≤ 1 := by unfold under; split <;> omega
          have hTu := ih u hmem (d + under k 0) (by omega) ((Tm.bareL_iff _).1 hbk u hmem) ((Tm.fitL_iff _).1 hf5.2.2.2 u hmem)
          have hTb := rbelow_tells (.mk k n' a [] kids) 0 d (by omega)
          rw [eTm_mk, hK] at hTb
          have hWu := walkL_get0 (tr := putT by') (d := d) (k := k) hu
          rw [hW] at hWu
          change Tells _ _ _ _ (eInt ((d + under k 0 : Nat) : Int)) at hTb
          generalize u.walk (putT by') (d + under k 0) = w at hTu hWu
          generalize ((d + under k 0 : Nat) : Int) = dd at hTu hTb
          rw [eTm_agg u, eTm_agg w] at hTu
          have hpw := pure_tmC w
          obtain ⟨k1, n1, a1, lv1, kids1⟩ := u
          obtain ⟨k2, n2, a2, lv2, kids2⟩ := w
          refine goesA_q [] (by rfl) (qop_index (n := 0) (sz := 5) (by rfl) (by rfl) (by rfl) (by rfl) (by rfl) (by rfl) hKu) ?_
          refine sm ?_
          repeat' first
            | refine wk ?_
            | refine wa ?_
            | refine tl hTb ?_
            | refine ta hTb ?_
            | refine tl hTu ?_
            | refine ta hTu ?_
            | (refine goesL_b (by rfl) (by rfl) fun b hb => ?_; cases b <;> refine sm ?_)
            | (refine goesA_b (by rfl) (by rfl) fun b hb => ?_; cases b <;> refine sm ?_)
          have hW1 : W.take 1 = [.mk k2 n2 a2 lv2 kids2] := by
            cases W with
            | nil => simp at hWu
            | cons x W => simp at hWu; rw [hWu]; rfl
          refine ⟨K.length - 1, by omega, 1, by omega, rfl, .inr ⟨0, .mk k2 n2 a2 lv2 kids2, rfl, rfl, ?_⟩⟩
          rw [show W.take (0 + 1) = [.mk k2 n2 a2 lv2 kids2] from hW1, tmsC_cons, tmsC_nil, List.append_nil]
          rfl
      · refine goes_keep [1, 2, 3, 6, 9, 10] ?_
        rw [hkf]
        have hp10 : Pure (.vals 1 []) := pure_lvs 1 []
        have hpg := pure_tmC g
        have hpW := pure_tmsC (W.take (i + 1))
        have hi1 : (W.take (i + 1)).length = i + 1 := by rw [List.length_take]; omega
        refine goes_scope [1, 2, 3, 6, 9, 10] ?_
        repeat' first
          | refine wk ?_
          | refine wa ?_
          | (refine goesL_b (by rfl) (by rfl) fun b hb => ?_; cases b <;> refine sm ?_)
          | (refine goesA_b (by rfl) (by rfl) fun b hb => ?_; cases b <;> refine sm ?_)
        · have hiK : i + 1 = K.length := by have := of_decide_eq_false hb; omega
          have hWt : W.take (i + 1) = W := List.take_of_length_le (by omega)
          rw [hWt] at hpW hi1 ⊢
          have hT := rwith_tells k n' a kids (W.map eTm) hWp
          rw [eTm_mk, hK] at hT
          refine within_of (by repeat' first | exact True.intro | exact Of.raw _ | exact Of.emp | exact Of.ptr (has_nil (by rfl)) | exact Of.row (has_nil (by rfl)) | exact Of.yld (has_nil (by rfl)) | exact has_nil (by rfl) | assumption | exact Pure.of (by assumption) | exact Pure.of (pure_lvs _ _) | exact Pure.of (pure_tms _ _) | refine And.intro ?_ ?_ | exact ofC_pure (by assumption) | (refine Of.clo (fun _ ha => nomatch ha) (ofC_pure (by assumption))) | (refine Of.agg (OfC.all ?_)) | (refine Of.clo (fun _ ha => nomatch ha) (OfC.all ?_))) (by repeat' first | exact True.intro | refine And.intro ?_ ?_ | exact has_nil (by rfl)) (by first | exact True.intro | exact Of.raw _ | exact Of.ifc (Of.raw _)) (by repeat' first | exact True.intro | exact Of.raw _ | exact Of.emp | exact Of.ptr (has_nil (by rfl)) | exact Of.row (has_nil (by rfl)) | exact Of.yld (has_nil (by rfl)) | exact has_nil (by rfl) | assumption | exact Pure.of (by assumption) | exact Pure.of (pure_lvs _ _) | exact Pure.of (pure_tms _ _) | refine And.intro ?_ ?_ | exact ofC_pure (by assumption) | (refine Of.agg (OfC.all ?_)) | (refine Of.clo (fun _ ha => nomatch ha) (OfC.all ?_))) ?_
          refine sm ?_
          repeat' first
            | refine wk ?_
            | refine wa ?_
            | (refine goesL_b (by rfl) (by rfl) fun b hb => ?_; cases b <;> refine sm ?_)
            | (refine goesA_b (by rfl) (by rfl) fun b hb => ?_; cases b <;> refine sm ?_)
          have hz2 : ∀ e ∈ W.map eTm, e.cells.length = 5 := fun e he => by
            obtain ⟨t, _, rfl⟩ := List.mem_map.1 he
            rw [tmC_eq, tmC_length]
          have hp2 : ∀ e ∈ W.map eTm, Pure e := fun e he => by
            obtain ⟨t, _, rfl⟩ := List.mem_map.1 he
            exact pure_tm t
          refine goesL_call (by rfl) (by rfl) (by rfl) (by rfl) (by rfl) (gives_row (r := 15) (n := i + 1) (pre := [.agg [eInt k, eInt n', eInt a, .vals 1 [], .vals 5 K]]) (c := ⟨i, 26, 5, 0, tmsC W⟩) (es := W.map eTm) rfl rfl hz2 hp2 (by simp [hi1]) (fun b hb => by simp at hb; subst hb; exact hT.pure _ (by simp)) (by rfl) (by rfl) hT ?_)
          refine sm ?_
          repeat' first
            | refine wk ?_
            | refine wa ?_
            | (refine goesL_b (by rfl) (by rfl) fun b hb => ?_; cases b <;> refine sm ?_)
            | (refine goesA_b (by rfl) (by rfl) fun b hb => ?_; cases b <;> refine sm ?_)
          rw [← hn']
          exact ⟨rfl, _, rfl, rfl⟩
        · have hiK : i + 1 < K.length := by have := of_decide_eq_true hb; omega
          obtain ⟨u, hu⟩ : ∃ u, kids[i + 1]? = some u := ⟨_, List.getElem?_eq_getElem (by omega)⟩
          have hmem := List.mem_of_getElem? hu
          have hKu : K[i + 1]? = some (.agg (tmC u)) := by rw [← hK, List.getElem?_map, hu, ← eTm_agg]; rfl
          have hus := sizeL_in kids u hmem
          have hun : under k (i + 1) ≤ 1 := by unfold under; split <;> omega
          have hTu := ih u hmem (d + under k (i + 1)) (by omega) ((Tm.bareL_iff _).1 hbk u hmem) ((Tm.fitL_iff _).1 hf5.2.2.2 u hmem)
          have hTb := rbelow_tells (.mk k n' a [] kids) (i + 1) d (by omega)
          rw [eTm_mk, hK] at hTb
          have hWu := walkL_get0 (tr := putT by') (d := d) (k := k) hu
          rw [hW] at hWu
          change Tells _ _ _ _ (eInt ((d + under k (i + 1) : Nat) : Int)) at hTb
          generalize u.walk (putT by') (d + under k (i + 1)) = w at hTu hWu
          generalize ((d + under k (i + 1) : Nat) : Int) = dd at hTu hTb
          rw [eTm_agg u, eTm_agg w] at hTu
          have hpw := pure_tmC w
          have hWi : W.take (i + 1 + 1) = W.take (i + 1) ++ [w] := by rw [List.take_add_one, hWu]; rfl
          have hpW2 := pure_tmsC (W.take (i + 1) ++ [w])
          have hcs := tms_push (t := w) hi1
          obtain ⟨k1, n1, a1, lv1, kids1⟩ := u
          obtain ⟨k2, n2, a2, lv2, kids2⟩ := w
          refine goesA_q [] (by rfl) (qop_index (n := i + 1) (sz := 5) (by rfl) (by rfl) (by rfl) (by rfl) (by rfl) (by rfl) hKu) ?_
          refine sm ?_
          repeat' first
            | refine wk ?_
            | refine wa ?_
            | refine tl hTb ?_
            | refine ta hTb ?_
            | refine tl hTu ?_
            | refine ta hTu ?_
            | (refine goesL_b (by rfl) (by rfl) fun b hb => ?_; cases b <;> refine sm ?_)
            | (refine goesA_b (by rfl) (by rfl) fun b hb => ?_; cases b <;> refine sm ?_)
          refine goesA_app (n := 0) [15, 29] (now_of (c := ⟨i, 26, 5, 0, tmsC (W.take (i + 1))⟩) rfl) (Nat.zero_le _) (by unfold tops; omega) (by decide) hcs (by rfl) (by rfl) (by rfl) (by rfl) (by rfl) (by rfl) (by rfl) (by rfl) (by rfl) (by rfl) (by rfl) (by decide) (by rfl) (by rfl) (by decide) (by rfl) (by rfl) ?_
          refine sm ?_
          repeat' first
            | refine wk ?_
            | refine wa ?_
            | (refine goesL_b (by rfl) (by rfl) fun b hb => ?_; cases b <;> refine sm ?_)
            | (refine goesA_b (by rfl) (by rfl) fun b hb => ?_; cases b <;> refine sm ?_)
          refine within_of (by repeat' first | exact True.intro | exact Of.raw _ | exact Of.emp | exact Of.ptr (has_nil (by rfl)) | exact Of.row (has_nil (by rfl)) | exact Of.yld (has_nil (by rfl)) | exact has_nil (by rfl) | assumption | exact Pure.of (by assumption) | exact Pure.of (pure_lvs _ _) | exact Pure.of (pure_tms _ _) | refine And.intro ?_ ?_ | exact ofC_pure (by assumption) | (refine Of.clo (fun _ ha => nomatch ha) (ofC_pure (by assumption))) | (refine Of.agg (OfC.all ?_)) | (refine Of.clo (fun _ ha => nomatch ha) (OfC.all ?_))) (by repeat' first | exact True.intro | refine And.intro ?_ ?_ | exact has_nil (by rfl)) (by first | exact True.intro | exact Of.raw _ | exact Of.ifc (Of.raw _)) (by repeat' first | exact True.intro | exact Of.raw _ | exact Of.emp | exact Of.ptr (has_nil (by rfl)) | exact Of.row (has_nil (by rfl)) | exact Of.yld (has_nil (by rfl)) | exact has_nil (by rfl) | assumption | exact Pure.of (by assumption) | exact Pure.of (pure_lvs _ _) | exact Pure.of (pure_tms _ _) | refine And.intro ?_ ?_ | exact ofC_pure (by assumption) | (refine Of.agg (OfC.all ?_)) | (refine Of.clo (fun _ ha => nomatch ha) (OfC.all ?_))) ?_
          refine ⟨K.length - (i + 2), by omega, i + 2, by omega, rfl, .inr ⟨i + 1, g, rfl, ?_, ?_⟩⟩
          · have e2 : IntKind.i64.wrap (((i + 1 : Nat) : Int) + 1) = ((i + 1 + 1 : Nat) : Int) := by
              rw [show (((i + 1 : Nat) : Int) + 1) = ((i + 1 + 1 : Nat) : Int) from rfl, wrap_nat (by omega)]
            rw [← e2]
            rfl
          · rw [hWi]
            rfl
theorem rLift_tells (t : Tm) (m from' : Int) (hs : t.size ≤ 1048576) (hb : t.bare) (hf : t.fit) : Tells Tryz.prog (.func 78) [eTm t, eInt m, eInt from'] [] (eTm (t.walk (liftT m from') 0)) := by
  have hT := rlift_tells m from' t 0 (by omega) hb hf
  have hp := pure_tm t
  refine tells_raw (fun b hb => ?_) (pure_tm _) ?_
  · simp at hb; rcases hb with rfl | rfl | rfl
    · exact hp
    · exact .raw _
    · exact .raw _
  generalize t.walk (liftT m from') 0 = w at hT ⊢
  rw [eTm_agg t, eTm_agg w] at hT
  rw [eTm_agg t, eTm_agg w]
  obtain ⟨k1, n1, a1, lv1, kids1⟩ := t
  obtain ⟨k2, n2, a2, lv2, kids2⟩ := w
  refine gives_enter Tryz.func78 rfl rfl ?_
  repeat' first
    | refine wk ?_
    | refine wa ?_
    | refine tl hT ?_
    | refine ta hT ?_
    | (refine goesL_b (by rfl) (by rfl) fun b hb => ?_; cases b <;> refine sm ?_)
    | (refine goesA_b (by rfl) (by rfl) fun b hb => ?_; cases b <;> refine sm ?_)
  exact ⟨rfl, _, rfl, rfl⟩
theorem rPut_tells (t : Tm) (by' : List Tm) (hby : ∀ b ∈ by', b.bare ∧ b.fit ∧ b.size ≤ 1048576) (hbl : by'.length ≤ 1048576) (hs : t.size ≤ 1048576) (hb : t.bare) (hf : t.fit) : Tells Tryz.prog (.func 64) [eTm t, .vals 5 (by'.map eTm)] [] (eTm (t.walk (putT by') 0)) := by
  have hT := rput_tells by' hby hbl t 0 (by omega) hb hf
  refine tells_raw (fun b hb => ?_) (pure_tm _) ?_
  · simp at hb; rcases hb with rfl | rfl
    · exact pure_tm t
    · exact pure_tms 5 by'
  generalize t.walk (putT by') 0 = w at hT ⊢
  generalize by'.map eTm = B at hT ⊢
  rw [eTm_agg t, eTm_agg w] at hT
  rw [eTm_agg t, eTm_agg w]
  obtain ⟨k1, n1, a1, lv1, kids1⟩ := t
  obtain ⟨k2, n2, a2, lv2, kids2⟩ := w
  refine gives_enter Tryz.func64 rfl rfl ?_
  repeat' first
    | refine wk ?_
    | refine wa ?_
    | refine tl hT ?_
    | refine ta hT ?_
    | (refine goesL_b (by rfl) (by rfl) fun b hb => ?_; cases b <;> refine sm ?_)
    | (refine goesA_b (by rfl) (by rfl) fun b hb => ?_; cases b <;> refine sm ?_)
  exact ⟨rfl, _, rfl, rfl⟩
/-- nothing lifted -/
theorem walk_none (t : Tm) : ∀ d : Nat, t.fit → t.walk (liftT 0 0) d = t := by
  refine Tm.ind (P := fun t => ∀ d : Nat, t.fit → t.walk (liftT 0 0) d = t) (fun k n a lv kids ih d hf => ?_) t
  have hf5 := (Tm.fit_mk ..).1 hf
  have hn : liftN d k n 0 0 = n := by
    unfold liftN
    split
    · rw [Int.add_zero]; exact wrap_rng hf5.1
    · rfl
  rw [Tm.walk_go (n' := n) (lv' := lv) (by unfold liftT; rw [hn])]
  rw [Tm.walkL_id fun u hu j => ih u hu (d + j) ((Tm.fitL_iff _).1 hf5.2.2.2 u hu)]
theorem rcopy_tells (t : Tm) (hs : t.size ≤ 1048576) (hb : t.bare) (hf : t.fit) : Tells Tryz.prog (.func 78) [eTm t, eInt 0, eInt 0] [] (eTm t) := by
  have h := rLift_tells t 0 0 hs hb hf
  rwa [walk_none t 0 hf] at h
end Go.Proofs.YtaoglkkdhdfioaaGreatDoor
