/- (term.walk).term, term.Lift. -/
import Derived.Test.YtaoglkkdhdfioaaGreatDoorEvWk
import Derived.Test.YtaoglkkdhdfioaaGreatDoorTeNode
import Derived.KernelRfl
import Derived.Test.YtaoglkkdhdfioaaGreatDoorProg
namespace Go.Proofs.YtaoglkkdhdfioaaGreatDoor
open Go Go.Proofs
set_option maxRecDepth 100000
set_option maxHeartbeats 1000000
attribute [local go_sem] AH.seals AH.adds news List.nil_append List.cons_append AF.put AF.start Slots.set Slots.ins zipA AH.zero AH.new AH.put AH.sub ofV AV.cells List.length AF.keep AH.cut List.filter_cons List.filter_nil List.contains_cons List.contains_nil Nat.reduceBEq Bool.or_false Bool.or_true Bool.true_or Bool.false_or decide_true decide_false Bool.not_false Bool.and_true Bool.true_and Bool.and_self List.append_nil List.getElem_toArray List.getElem_cons_zero List.getElem_cons_succ Nat.reduceLT Nat.reduceAdd Nat.reduceSub Nat.reduceEqDiff andThen atEnd rounds Tryz.ntmps101 Tryz.ntmps60 Tryz.ntmps99
theorem eTm_agg (t : Tm) : eTm t = .agg (tmC t) := by
  obtain ⟨k, n, a, lv, kids⟩ := t
  rw [eTm_mk]; rfl
theorem walk_tells {F : Nat} {cap : List AV} {tr : Turn} {D : Nat} (hD : D ≤ 1073741824) (hT : TurnOk F cap tr D) (t : Tm) (d : Nat) (hd : d + t.size ≤ D) (hf : t.fit) :
    Tells Tryz.prog (.func 101) [.agg [eInt (d : Int), .clo (.func F) [] cap], eTm t] [] (eTm (t.walk tr d)) := by
  have hCp : Pure (AV.clo (.func F) [] cap) := .clo (fun a ha => nomatch ha) hT.pcap
  have hWp : Pure (AV.agg [eInt (d : Int), AV.clo (.func F) [] cap]) := .agg fun x hx => by
    simp at hx
    rcases hx with rfl | rfl
    · exact .raw _
    · exact hCp
  refine tells_raw (fun b hb => ?_) (pure_tm _) ?_
  · simp at hb; rcases hb with rfl | rfl
    · exact hWp
    · exact pure_tm t
  have hN := node_gives hD hT t d 1 0 [] [] hd hf pure_nil pure_nil rfl
  rw [List.nil_append, List.append_nil, List.nil_append, List.append_nil] at hN
  generalize t.walk tr d = u at hN ⊢
  have hlt := tmC_length t
  have hlu := tmC_length u
  have hpt := pure_tmC t
  have hpu := pure_tmC u
  have hou := tmC_one u
  have hou := tmC_one t
  rw [eTm_agg t, eTm_agg u]
  obtain ⟨k, n, a, lv, kids⟩ := t
  obtain ⟨k', n', a', lv', kids'⟩ := u
  unfold tmC nodeC at *
  refine gives_enter Tryz.func101 rfl rfl ?_
  repeat' first
    | refine wk ?_
    | (refine goesL_b (by rfl) (by rfl) fun b hb => ?_; cases b <;> refine sm ?_)
  refine goesL_call (by rfl) (by rfl) (by rfl) (by rfl) (by rfl) (gives_lentC (r := 1) (by rfl) hpt (.cons (.pure hWp) (.cons .ptr .nil)) pure_nil hN (.tup pure_nil) (by rfl) hpu ?_)
  refine sm ?_
  repeat' first
    | refine wk ?_
    | (refine goesL_b (by rfl) (by rfl) fun b hb => ?_; cases b <;> refine sm ?_)
  exact ⟨rfl, _, rfl, rfl⟩
theorem liftTurn (m from' : Int) (D : Nat) (hD : D ≤ 1073741824) : TurnOk 99 [.vptr [eInt from'], .vptr [eInt m]] (liftT m from') D := by
  refine ⟨fun a ha => ?_, fun d k n a lv kids sz off A B n' lv' hd hf hA hB hoff htr => ?_, fun d k n a lv kids sz off A B u hd hf hA hB hoff htr => ?_⟩
  · simp at ha
    rcases ha with rfl | rfl <;> exact .vptr fun x hx => by simp at hx; subst hx; exact .raw _
  · have hm := means_tells d n
    simp only [liftT] at htr
    injection htr with h1 h2
    subst h2
    refine ⟨((Tm.fit_mk k n a lv kids).1 hf).2.1, ?_⟩
    refine gives_enter Tryz.func99 rfl rfl ?_
    unfold AH.lone
    repeat' first
      | refine wk ?_
      | (refine goesL_b (by rfl) (by rfl) fun b hb => ?_; cases b <;> refine sm ?_)
    refine goesL_q (by rfl) (qop_loadP (b := eInt k) (by rfl) (by rfl) (by rfl) (by rfl) (by rfl) (get_at (C := nodeC k n a lv kids) (i := 0) hoff rfl) rfl) ?_
    refine sm ?_
    repeat' first
      | refine wk ?_
      | (refine goesL_b (by rfl) (by rfl) fun b hb => ?_; cases b <;> refine sm ?_)
    · have hk : ¬ k = 1 := by intro e; subst e; simp at hb
      refine ⟨rfl, _, rfl, rfl, ?_⟩
      rw [← h1, liftN, outer, decide_eq_false (fun h => hk h.1)]
      rfl
    · have hk : k = 1 := by simpa using hb
      have hr := ((Tm.fit_mk k n a lv kids).1 hf).1
      unfold Rng at hr
      refine goes_draw 11 [] (by rfl) (by kernel_rfl) ?_
      refine sm ?_
      repeat' first
        | (refine goesD_q (y := .raw (.bool true)) (by first | decide | exact Nat.le_of_ble_eq_true rfl) (by rfl) (by rfl) ?_; refine sm ?_)
        | (refine goesD_q (y := .raw (.bool false)) (by first | decide | exact Nat.le_of_ble_eq_true rfl) (by rfl) (by rfl) ?_; refine sm ?_)
        | (refine goesD_b (by first | decide | exact Nat.le_of_ble_eq_true rfl) (by rfl) (by rfl) fun b hb => ?_; cases b <;> refine sm ?_)
        | (refine goesD_q (by first | decide | exact Nat.le_of_ble_eq_true rfl) (by rfl) (by rfl) ?_; refine sm ?_)
        | (refine goesD_s (by first | decide | exact Nat.le_of_ble_eq_true rfl) (by rfl) (qok_rop (by rfl)) ?_; refine sm ?_)
        | (refine goesD_off (by first | decide | exact Nat.le_of_ble_eq_true rfl) (by rfl) ?_; refine sm ?_)
        | (refine goesD_end (by rfl) ?_; refine sm ?_)
        | (refine goes_seq ?_)
      refine goesD_q (by decide) (by rfl) (qop_loadP (b := eInt n) (by rfl) (by rfl) (by rfl) (by rfl) (by rfl) (get_at (C := nodeC k n a lv kids) (i := 1) hoff rfl) rfl) ?_
      refine sm ?_
      repeat' first
        | (refine goesD_q (y := .raw (.bool true)) (by first | decide | exact Nat.le_of_ble_eq_true rfl) (by rfl) (by rfl) ?_; refine sm ?_)
        | (refine goesD_q (y := .raw (.bool false)) (by first | decide | exact Nat.le_of_ble_eq_true rfl) (by rfl) (by rfl) ?_; refine sm ?_)
        | (refine goesD_b (by first | decide | exact Nat.le_of_ble_eq_true rfl) (by rfl) (by rfl) fun b hb => ?_; cases b <;> refine sm ?_)
        | (refine goesD_q (by first | decide | exact Nat.le_of_ble_eq_true rfl) (by rfl) (by rfl) ?_; refine sm ?_)
        | (refine goesD_s (by first | decide | exact Nat.le_of_ble_eq_true rfl) (by rfl) (qok_rop (by rfl)) ?_; refine sm ?_)
        | (refine goesD_off (by first | decide | exact Nat.le_of_ble_eq_true rfl) (by rfl) ?_; refine sm ?_)
        | (refine goesD_end (by rfl) ?_; refine sm ?_)
        | (refine goes_seq ?_)
      refine goesD_tells hm (by decide) (by rfl) (by rfl) (by rfl) (by rfl) (by rfl) (by rfl) (by rfl) ?_
      refine sm ?_
      by_cases hnd : n < d
      · rw [if_pos hnd]
        repeat' first
          | (refine goesD_q (y := .raw (.bool true)) (by first | decide | exact Nat.le_of_ble_eq_true rfl) (by rfl) (by rfl) ?_; refine sm ?_)
          | (refine goesD_q (y := .raw (.bool false)) (by first | decide | exact Nat.le_of_ble_eq_true rfl) (by rfl) (by rfl) ?_; refine sm ?_)
          | (refine goesD_b (by first | decide | exact Nat.le_of_ble_eq_true rfl) (by rfl) (by rfl) fun b hb => ?_; cases b <;> refine sm ?_)
          | (refine goesD_q (by first | decide | exact Nat.le_of_ble_eq_true rfl) (by rfl) (by rfl) ?_; refine sm ?_)
          | (refine goesD_s (by first | decide | exact Nat.le_of_ble_eq_true rfl) (by rfl) (qok_rop (by rfl)) ?_; refine sm ?_)
          | (refine goesD_off (by first | decide | exact Nat.le_of_ble_eq_true rfl) (by rfl) ?_; refine sm ?_)
          | (refine goesD_end (by rfl) ?_; refine sm ?_)
          | (refine goes_seq ?_)
        repeat' first
          | refine wk ?_
          | (refine goesL_b (by rfl) (by rfl) fun b hb => ?_; cases b <;> refine sm ?_)
        refine ⟨rfl, _, rfl, rfl, ?_⟩
        rw [← h1, liftN, outer, decide_eq_false (fun h => by omega)]
        rfl
      · rw [if_neg hnd, show IntKind.i64.wrap (n - d) = n - d by simp [IntKind.wrap, IntKind.bits, IntKind.signed]; omega]
        repeat' first
          | (refine goesD_q (y := .raw (.bool true)) (by first | decide | exact Nat.le_of_ble_eq_true rfl) (by rfl) (by rfl) ?_; refine sm ?_)
          | (refine goesD_q (y := .raw (.bool false)) (by first | decide | exact Nat.le_of_ble_eq_true rfl) (by rfl) (by rfl) ?_; refine sm ?_)
          | (refine goesD_b (by first | decide | exact Nat.le_of_ble_eq_true rfl) (by rfl) (by rfl) fun b hb => ?_; cases b <;> refine sm ?_)
          | (refine goesD_q (by first | decide | exact Nat.le_of_ble_eq_true rfl) (by rfl) (by rfl) ?_; refine sm ?_)
          | (refine goesD_s (by first | decide | exact Nat.le_of_ble_eq_true rfl) (by rfl) (qok_rop (by rfl)) ?_; refine sm ?_)
          | (refine goesD_off (by first | decide | exact Nat.le_of_ble_eq_true rfl) (by rfl) ?_; refine sm ?_)
          | (refine goesD_end (by rfl) ?_; refine sm ?_)
          | (refine goes_seq ?_)
        repeat' first
          | refine wk ?_
          | (refine goesL_b (by rfl) (by rfl) fun b hb => ?_; cases b <;> refine sm ?_)
        · refine ⟨rfl, _, rfl, rfl, ?_⟩
          rw [← h1, liftN, outer, decide_eq_false (fun h => by have := of_decide_eq_false hb; omega)]
          rfl
        · have hn' : n' = IntKind.i64.wrap (n + m) := by
            rw [← h1, liftN, outer, decide_eq_true (show k = 1 ∧ (d : Int) ≤ n ∧ from' ≤ n - d from ⟨hk, by omega, by have := of_decide_eq_true hb; omega⟩)]
            rfl
          refine goes_draw 8 [] (by rfl) (by kernel_rfl) ?_
          refine sm ?_
          repeat' first
            | (refine goesD_q (y := .raw (.bool true)) (by first | decide | exact Nat.le_of_ble_eq_true rfl) (by rfl) (by rfl) ?_; refine sm ?_)
            | (refine goesD_q (y := .raw (.bool false)) (by first | decide | exact Nat.le_of_ble_eq_true rfl) (by rfl) (by rfl) ?_; refine sm ?_)
            | (refine goesD_b (by first | decide | exact Nat.le_of_ble_eq_true rfl) (by rfl) (by rfl) fun b hb => ?_; cases b <;> refine sm ?_)
            | (refine goesD_q (by first | decide | exact Nat.le_of_ble_eq_true rfl) (by rfl) (by rfl) ?_; refine sm ?_)
            | (refine goesD_s (by first | decide | exact Nat.le_of_ble_eq_true rfl) (by rfl) (qok_rop (by rfl)) ?_; refine sm ?_)
            | (refine goesD_off (by first | decide | exact Nat.le_of_ble_eq_true rfl) (by rfl) ?_; refine sm ?_)
            | (refine goesD_end (by rfl) ?_; refine sm ?_)
            | (refine goes_seq ?_)
          refine goesD_q (by decide) (by rfl) (qop_loadP (b := eInt n) (by rfl) (by rfl) (by rfl) (by rfl) (by rfl) (get_at (C := nodeC k n a lv kids) (i := 1) hoff rfl) rfl) ?_
          refine sm ?_
          repeat' first
            | (refine goesD_q (y := .raw (.bool true)) (by first | decide | exact Nat.le_of_ble_eq_true rfl) (by rfl) (by rfl) ?_; refine sm ?_)
            | (refine goesD_q (y := .raw (.bool false)) (by first | decide | exact Nat.le_of_ble_eq_true rfl) (by rfl) (by rfl) ?_; refine sm ?_)
            | (refine goesD_b (by first | decide | exact Nat.le_of_ble_eq_true rfl) (by rfl) (by rfl) fun b hb => ?_; cases b <;> refine sm ?_)
            | (refine goesD_q (by first | decide | exact Nat.le_of_ble_eq_true rfl) (by rfl) (by rfl) ?_; refine sm ?_)
            | (refine goesD_s (by first | decide | exact Nat.le_of_ble_eq_true rfl) (by rfl) (qok_rop (by rfl)) ?_; refine sm ?_)
            | (refine goesD_off (by first | decide | exact Nat.le_of_ble_eq_true rfl) (by rfl) ?_; refine sm ?_)
            | (refine goesD_end (by rfl) ?_; refine sm ?_)
            | (refine goes_seq ?_)
          refine goesL_m (by rfl) (mop_storeS 1 (set_at (C := nodeC k n a lv kids) (i := 1) (ys := [eInt (IntKind.i64.wrap (n + m))]) (C' := nodeC k (IntKind.i64.wrap (n + m)) a lv kids) hoff (by show 2 ≤ 5; omega) rfl) (by rfl) (by rfl) (by rfl) (by rfl) (by rfl) (by rfl) (by simp [nodeC]; omega) (Nat.zero_le _) (by rfl)) ?_
          refine sm ?_
          repeat' first
            | refine wk ?_
            | (refine goesL_b (by rfl) (by rfl) fun b hb => ?_; cases b <;> refine sm ?_)
          refine ⟨rfl, _, rfl, rfl, ?_⟩
          rw [hn']
          rfl
  · simp [liftT] at htr
theorem lift_tells (t : Tm) (m from' : Int) (hs : t.size ≤ 1073741824) (hf : t.fit) : Tells Tryz.prog (.func 60) [eTm t, eInt m, eInt from'] [] (eTm (t.walk (liftT m from') 0)) := by
  have hT := walk_tells (Nat.le_refl _) (liftTurn m from' 1073741824 (Nat.le_refl _)) t 0 (by omega) hf
  refine tells_raw (fun b hb => ?_) (pure_tm _) ?_
  · simp at hb; rcases hb with rfl | rfl | rfl
    · exact pure_tm t
    · exact .raw _
    · exact .raw _
  generalize t.walk (liftT m from') 0 = u at hT ⊢
  rw [eTm_agg u] at hT ⊢
  rw [eTm_agg t] at hT ⊢
  obtain ⟨k, n, a, lv, kids⟩ := t
  obtain ⟨k', n', a', lv', kids'⟩ := u
  unfold tmC nodeC at *
  refine gives_enter Tryz.func60 rfl rfl ?_
  repeat' first
    | refine wk ?_
    | (refine goesL_b (by rfl) (by rfl) fun b hb => ?_; cases b <;> refine sm ?_)
  refine goesL_call (by rfl) (by rfl) (by rfl) (by rfl) (by rfl) (gives_seal (l := [(2, 0 + 1), (1, 0 + 1)]) [(2, 1), (1, 1)] hT ?_ (by rfl) (fun p hp c hc => ?_) ?_)
  · show SnapL _ [.agg [eInt 0, .clo (.func 99) [] [.ptr 2 0 0, .ptr 1 0 0]], .agg [eInt k, eInt n, eInt a, AV.vals 1 (List.map eLv lv), AV.vals 5 (List.map eTm kids)]] [.agg [eInt 0, .clo (.func 99) [] [.vptr [eInt from'], .vptr [eInt m]]], .agg [eInt k, eInt n, eInt a, AV.vals 1 (List.map eLv lv), AV.vals 5 (List.map eTm kids)]] _
    exact .agg (j := [(2, 0 + 1), (1, 0 + 1)]) (l := []) (.pure (.raw _) (.clo (j1 := []) (j2 := [(2, 0 + 1), (1, 0 + 1)]) (l := []) .nil (.vptr (n := 1) (j := []) (l := [(1, 0 + 1)]) (c := { ver := 0, elem := 3, sz := 1, imm := 1, cs := [eInt from'] }) rfl (Nat.le_refl _) (.pure (.raw _) .nil) (.vptr (n := 1) (j := []) (l := []) (c := { ver := 0, elem := 3, sz := 1, imm := 1, cs := [eInt m] }) rfl (Nat.le_refl _) (.pure (.raw _) .nil) .nil)) .nil)) (.pure (hT.pure _ (.tail _ (.head _))) .nil)
  · simp at hp
    rcases hp with rfl | rfl <;> (cases hc; exact Nat.le_refl _)
  refine sm ?_
  repeat' first
    | refine wk ?_
    | (refine goesL_b (by rfl) (by rfl) fun b hb => ?_; cases b <;> refine sm ?_)
  exact ⟨rfl, _, rfl, rfl⟩
end Go.Proofs.YtaoglkkdhdfioaaGreatDoor
