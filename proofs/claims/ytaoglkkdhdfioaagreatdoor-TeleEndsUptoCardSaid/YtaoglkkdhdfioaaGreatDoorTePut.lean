/- term.Put. -/
import Derived.Test.YtaoglkkdhdfioaaGreatDoorEvWk
import Derived.Test.YtaoglkkdhdfioaaGreatDoorTeLift
import Derived.KernelRfl
import Derived.Test.YtaoglkkdhdfioaaGreatDoorProg
namespace Go.Proofs.YtaoglkkdhdfioaaGreatDoor
open Go Go.Proofs
set_option maxRecDepth 100000
set_option maxHeartbeats 1000000
attribute [local go_sem] AH.seals AH.adds news List.nil_append List.cons_append AF.put AF.start Slots.set Slots.ins zipA AH.zero AH.new AH.put AH.sub ofV AV.cells List.length AF.keep AH.cut List.filter_cons List.filter_nil List.contains_cons List.contains_nil Nat.reduceBEq Bool.or_false Bool.or_true Bool.true_or Bool.false_or decide_true decide_false Bool.not_false Bool.and_true Bool.true_and Bool.and_self List.append_nil List.getElem_toArray List.getElem_cons_zero List.getElem_cons_succ Nat.reduceLT Nat.reduceAdd Nat.reduceSub Nat.reduceEqDiff andThen atEnd rounds Tryz.ntmps62 Tryz.ntmps103
theorem wrap_rng {n : Int} (h : Rng n) : IntKind.i64.wrap n = n := by
  unfold Rng at h
  simp [IntKind.wrap, IntKind.bits, IntKind.signed]; omega
theorem putTurn (by' : List Tm) (D : Nat) (hD : D ≤ 1073741824) (hn : by'.length ≤ 1048576) (hby : ∀ b ∈ by', b.fit ∧ b.size ≤ 1073741824) : TurnOk 103 [.vptr [.vals 5 (by'.map eTm)]] (putT by') D := by
  obtain ⟨K, hK⟩ : ∃ K, by'.map eTm = K := ⟨_, rfl⟩
  have hlen : K.length = by'.length := by rw [← hK]; simp
  have hKp : Pure (.vals 5 K) := hK ▸ pure_tms 5 by'
  rw [hK]
  -- one proof for both ends
  have key : ∀ (d : Nat) (k n a : Int) (lv : List (List (Int × Int))) (kids : List Tm) (sz off : Nat) (A B : List AV), d ≤ D → (Tm.mk k n a lv kids).fit → off = A.length →
      Gives Tryz.prog (.func 103) [.agg [eInt (d : Int)], .ptr 0 0 off] [.vptr [.vals 5 K]] (.lone (tmBlk sz (A ++ (nodeC k n a lv kids ++ B)))) fun z h' => match putT by' d k n lv with
        | .go n' lv' => z = .ret (eBool false) ∧ lv' = lv ∧ h'.get 0 = some (.cells (tmBlk sz (A ++ (nodeC k n' a lv' kids ++ B))))
        | .done u => z = .ret (eBool true) ∧ h'.get 0 = some (.cells (tmBlk sz (A ++ (tmC u ++ B)))) := by
    intro d k n a lv kids sz off A B hd hf hoff
    have hm := means_tells d n
    have hr := ((Tm.fit_mk k n a lv kids).1 hf).1
    have hr' := hr
    unfold Rng at hr'
    refine gives_enter Tryz.func103 rfl rfl ?_
    unfold AH.lone
    repeat' first
      | refine wk ?_
      | (refine goesL_b (by rfl) (by rfl) fun b hb => ?_; cases b <;> refine sm ?_)
    refine goesL_q (by rfl) (qop_loadP (b := eInt k) (by rfl) (by rfl) (by rfl) (by rfl) (by rfl) (get_at (C := nodeC k n a lv kids) (i := 0) hoff rfl) rfl) ?_
    refine sm ?_
    repeat' first
      | refine wk ?_
      | (refine goesL_b (by rfl) (by rfl) fun b hb => ?_; cases b <;> refine sm ?_)
    · have hk : k = 1 := by simpa using hb
      refine goes_draw 11 [] (by rfl) (by kernel_rfl) ?_
      refine sm ?_
      repeat' first
        | (refine goesD_q (y := .raw (.bool true)) (by first | decide | exact Nat.le_of_ble_eq_true rfl) (by rfl) (by rfl) ?_; refine sm ?_)
        | (refine goesD_q (y := .raw (.bool false)) (by first | decide | exact Nat.le_of_ble_eq_true rfl) (by rfl) (by rfl) ?_; refine sm ?_)
        | (refine goesD_b (by first | decide | exact Nat.le_of_ble_eq_true rfl) (by rfl) (by rfl) fun b hb => ?_; cases b <;> refine sm ?_)
        | (refine goesD_q (by first | decide | exact Nat.le_of_ble_eq_true rfl) (by rfl) (by rfl) ?_; refine sm ?_)
        | (refine goesD_s (by first | decide | exact Nat.le_of_ble_eq_true rfl) (by rfl) (qok_rop (by rfl)) ?_; refine sm ?_)
        | (refine goesD_off (by first | decide | exact Nat.le_of_ble_eq_true rfl) (by rfl) ?_; refine sm ?_)
        | (refine goesD_end (by rfl) ?_; refine sm ?_)
        | (refine goes_seq ?_)
      refine goesD_q (by decide) (by rfl) (qop_loadP (b := eInt n) (by rfl) (by rfl) (by rfl) (by rfl) (by rfl) (get_at (C := nodeC k n a lv kids) (i := 1) hoff rfl) rfl) ?_
      refine sm ?_
      repeat' first
        | (refine goesD_q (y := .raw (.bool true)) (by first | decide | exact Nat.le_of_ble_eq_true rfl) (by rfl) (by rfl) ?_; refine sm ?_)
        | (refine goesD_q (y := .raw (.bool false)) (by first | decide | exact Nat.le_of_ble_eq_true rfl) (by rfl) (by rfl) ?_; refine sm ?_)
        | (refine goesD_b (by first | decide | exact Nat.le_of_ble_eq_true rfl) (by rfl) (by rfl) fun b hb => ?_; cases b <;> refine sm ?_)
        | (refine goesD_q (by first | decide | exact Nat.le_of_ble_eq_true rfl) (by rfl) (by rfl) ?_; refine sm ?_)
        | (refine goesD_s (by first | decide | exact Nat.le_of_ble_eq_true rfl) (by rfl) (qok_rop (by rfl)) ?_; refine sm ?_)
        | (refine goesD_off (by first | decide | exact Nat.le_of_ble_eq_true rfl) (by rfl) ?_; refine sm ?_)
        | (refine goesD_end (by rfl) ?_; refine sm ?_)
        | (refine goes_seq ?_)
      refine goesD_tells hm (by decide) (by rfl) (by rfl) (by rfl) (by rfl) (by rfl) (by rfl) (by rfl) ?_
      refine sm ?_
      by_cases hnd : n < d
      · have hput : putT by' d k n lv = .go n lv := by
          unfold putT outer
          rw [decide_eq_false (fun h => by omega)]
          rfl
        rw [if_pos hnd, hput]
        repeat' first
          | (refine goesD_q (y := .raw (.bool true)) (by first | decide | exact Nat.le_of_ble_eq_true rfl) (by rfl) (by rfl) ?_; refine sm ?_)
          | (refine goesD_q (y := .raw (.bool false)) (by first | decide | exact Nat.le_of_ble_eq_true rfl) (by rfl) (by rfl) ?_; refine sm ?_)
          | (refine goesD_b (by first | decide | exact Nat.le_of_ble_eq_true rfl) (by rfl) (by rfl) fun b hb => ?_; cases b <;> refine sm ?_)
          | (refine goesD_q (by first | decide | exact Nat.le_of_ble_eq_true rfl) (by rfl) (by rfl) ?_; refine sm ?_)
          | (refine goesD_s (by first | decide | exact Nat.le_of_ble_eq_true rfl) (by rfl) (qok_rop (by rfl)) ?_; refine sm ?_)
          | (refine goesD_off (by first | decide | exact Nat.le_of_ble_eq_true rfl) (by rfl) ?_; refine sm ?_)
          | (refine goesD_end (by rfl) ?_; refine sm ?_)
          | (refine goes_seq ?_)
        repeat' first
          | refine wk ?_
          | (refine goesL_b (by rfl) (by rfl) fun b hb => ?_; cases b <;> refine sm ?_)
        first | exact ⟨rfl, _, rfl, rfl, rfl, rfl⟩ | exact ⟨rfl, _, rfl, rfl, trivial, rfl⟩
      · have hout : outer d k n 0 = true := decide_eq_true ⟨hk, by omega, by omega⟩
        rw [if_neg hnd, wrap_rng (show Rng (n - d) from ⟨by omega, by omega⟩)]
        repeat' first
          | (refine goesD_q (y := .raw (.bool true)) (by first | decide | exact Nat.le_of_ble_eq_true rfl) (by rfl) (by rfl) ?_; refine sm ?_)
          | (refine goesD_q (y := .raw (.bool false)) (by first | decide | exact Nat.le_of_ble_eq_true rfl) (by rfl) (by rfl) ?_; refine sm ?_)
          | (refine goesD_b (by first | decide | exact Nat.le_of_ble_eq_true rfl) (by rfl) (by rfl) fun b hb => ?_; cases b <;> refine sm ?_)
          | (refine goesD_q (by first | decide | exact Nat.le_of_ble_eq_true rfl) (by rfl) (by rfl) ?_; refine sm ?_)
          | (refine goesD_s (by first | decide | exact Nat.le_of_ble_eq_true rfl) (by rfl) (qok_rop (by rfl)) ?_; refine sm ?_)
          | (refine goesD_off (by first | decide | exact Nat.le_of_ble_eq_true rfl) (by rfl) ?_; refine sm ?_)
          | (refine goesD_end (by rfl) ?_; refine sm ?_)
          | (refine goes_seq ?_)
        repeat' first
          | refine wk ?_
          | (refine goesL_b (by rfl) (by rfl) fun b hb => ?_; cases b <;> refine sm ?_)
        · have hge : ¬ n - d < (by'.length : Int) := by have := of_decide_eq_false hb; omega
          have hput : putT by' d k n lv = .go (n - by'.length) lv := by
            unfold putT
            rw [if_pos hout, if_neg hge]
          rw [hput]
          refine goes_draw 9 [] (by rfl) (by kernel_rfl) ?_
          refine sm ?_
          repeat' first
            | (refine goesD_q (y := .raw (.bool true)) (by first | decide | exact Nat.le_of_ble_eq_true rfl) (by rfl) (by rfl) ?_; refine sm ?_)
            | (refine goesD_q (y := .raw (.bool false)) (by first | decide | exact Nat.le_of_ble_eq_true rfl) (by rfl) (by rfl) ?_; refine sm ?_)
            | (refine goesD_b (by first | decide | exact Nat.le_of_ble_eq_true rfl) (by rfl) (by rfl) fun b hb => ?_; cases b <;> refine sm ?_)
            | (refine goesD_q (by first | decide | exact Nat.le_of_ble_eq_true rfl) (by rfl) (by rfl) ?_; refine sm ?_)
            | (refine goesD_s (by first | decide | exact Nat.le_of_ble_eq_true rfl) (by rfl) (qok_rop (by rfl)) ?_; refine sm ?_)
            | (refine goesD_off (by first | decide | exact Nat.le_of_ble_eq_true rfl) (by rfl) ?_; refine sm ?_)
            | (refine goesD_end (by rfl) ?_; refine sm ?_)
            | (refine goes_seq ?_)
          refine goesD_q (by decide) (by rfl) (qop_loadP (b := eInt n) (by rfl) (by rfl) (by rfl) (by rfl) (by rfl) (get_at (C := nodeC k n a lv kids) (i := 1) hoff rfl) rfl) ?_
          refine sm ?_
          repeat' first
            | (refine goesD_q (y := .raw (.bool true)) (by first | decide | exact Nat.le_of_ble_eq_true rfl) (by rfl) (by rfl) ?_; refine sm ?_)
            | (refine goesD_q (y := .raw (.bool false)) (by first | decide | exact Nat.le_of_ble_eq_true rfl) (by rfl) (by rfl) ?_; refine sm ?_)
            | (refine goesD_b (by first | decide | exact Nat.le_of_ble_eq_true rfl) (by rfl) (by rfl) fun b hb => ?_; cases b <;> refine sm ?_)
            | (refine goesD_q (by first | decide | exact Nat.le_of_ble_eq_true rfl) (by rfl) (by rfl) ?_; refine sm ?_)
            | (refine goesD_s (by first | decide | exact Nat.le_of_ble_eq_true rfl) (by rfl) (qok_rop (by rfl)) ?_; refine sm ?_)
            | (refine goesD_off (by first | decide | exact Nat.le_of_ble_eq_true rfl) (by rfl) ?_; refine sm ?_)
            | (refine goesD_end (by rfl) ?_; refine sm ?_)
            | (refine goes_seq ?_)
          rw [hlen, wrap_rng (show Rng (n - by'.length) from ⟨by omega, by omega⟩)]
          refine goesL_m (by rfl) (mop_storeS 1 (set_at (C := nodeC k n a lv kids) (i := 1) (ys := [eInt (n - by'.length)]) (C' := nodeC k (n - by'.length) a lv kids) hoff (by show 2 ≤ 5; omega) rfl) (by rfl) (by rfl) (by rfl) (by rfl) (by rfl) (by rfl) (by simp [nodeC]; omega) (Nat.zero_le _) (by rfl)) ?_
          refine sm ?_
          repeat' first
            | refine wk ?_
            | (refine goesL_b (by rfl) (by rfl) fun b hb => ?_; cases b <;> refine sm ?_)
          first | exact ⟨rfl, _, rfl, rfl, rfl, rfl⟩ | exact ⟨rfl, _, rfl, rfl, trivial, rfl⟩
        · have hlt : n - d < (by'.length : Int) := by have := of_decide_eq_true hb; omega
          obtain ⟨o, ho⟩ : ∃ o : Nat, n - d = o := ⟨(n - d).toNat, by omega⟩
          have hol : o < by'.length := by omega
          obtain ⟨b, hb2⟩ : ∃ b, by'[by'.length - 1 - o]? = some b := ⟨_, List.getElem?_eq_getElem (by omega)⟩
          obtain ⟨hbf, hbs⟩ := hby b (List.mem_of_getElem? hb2)
          have hput : putT by' d k n lv = .done (b.walk (liftT d 0) 0) := by
            unfold putT
            rw [if_pos hout, if_pos hlt, ho, List.getD_eq_getElem?_getD, show ((o : Int)).toNat = o from rfl, hb2]
            rfl
          rw [hput]
          have hL := lift_tells b d 0 hbs hbf
          have hKb : K[by'.length - 1 - o]? = some (.agg (tmC b)) := by rw [← hK, List.getElem?_map, hb2, ← eTm_agg]; rfl
          generalize b.walk (liftT d 0) 0 = u at hL ⊢
          rw [eTm_agg b, eTm_agg u] at hL
          have hlu := tmC_length u
          have hou := tmC_one u
          obtain ⟨bk, bn, ba, bl, bks⟩ := b
          refine goes_draw 13 [] (by rfl) (by kernel_rfl) ?_
          refine sm ?_
          repeat' first
            | (refine goesD_q (y := .raw (.bool true)) (by first | decide | exact Nat.le_of_ble_eq_true rfl) (by rfl) (by rfl) ?_; refine sm ?_)
            | (refine goesD_q (y := .raw (.bool false)) (by first | decide | exact Nat.le_of_ble_eq_true rfl) (by rfl) (by rfl) ?_; refine sm ?_)
            | (refine goesD_b (by first | decide | exact Nat.le_of_ble_eq_true rfl) (by rfl) (by rfl) fun b hb => ?_; cases b <;> refine sm ?_)
            | (refine goesD_q (by first | decide | exact Nat.le_of_ble_eq_true rfl) (by rfl) (by rfl) ?_; refine sm ?_)
            | (refine goesD_s (by first | decide | exact Nat.le_of_ble_eq_true rfl) (by rfl) (qok_rop (by rfl)) ?_; refine sm ?_)
            | (refine goesD_off (by first | decide | exact Nat.le_of_ble_eq_true rfl) (by rfl) ?_; refine sm ?_)
            | (refine goesD_end (by rfl) ?_; refine sm ?_)
            | (refine goes_seq ?_)
          have e1 : IntKind.i64.wrap ((K.length : Int) - 1) = (K.length : Int) - 1 := wrap_rng ⟨by omega, by omega⟩
          have e2 : IntKind.i64.wrap ((K.length : Int) - 1 - (n - d)) = ((by'.length - 1 - o : Nat) : Int) := by
            rw [wrap_rng ⟨by omega, by omega⟩]; omega
          rw [e1, e2]
          refine goesD_index (m := by'.length - 1 - o) (by decide) (by rfl) (by rfl) (by rfl) (by rfl) (by rfl) (by rfl) (by rfl) hKb ?_
          refine sm ?_
          repeat' first
            | (refine goesD_q (y := .raw (.bool true)) (by first | decide | exact Nat.le_of_ble_eq_true rfl) (by rfl) (by rfl) ?_; refine sm ?_)
            | (refine goesD_q (y := .raw (.bool false)) (by first | decide | exact Nat.le_of_ble_eq_true rfl) (by rfl) (by rfl) ?_; refine sm ?_)
            | (refine goesD_b (by first | decide | exact Nat.le_of_ble_eq_true rfl) (by rfl) (by rfl) fun b hb => ?_; cases b <;> refine sm ?_)
            | (refine goesD_q (by first | decide | exact Nat.le_of_ble_eq_true rfl) (by rfl) (by rfl) ?_; refine sm ?_)
            | (refine goesD_s (by first | decide | exact Nat.le_of_ble_eq_true rfl) (by rfl) (qok_rop (by rfl)) ?_; refine sm ?_)
            | (refine goesD_off (by first | decide | exact Nat.le_of_ble_eq_true rfl) (by rfl) ?_; refine sm ?_)
            | (refine goesD_end (by rfl) ?_; refine sm ?_)
            | (refine goes_seq ?_)
          refine goesD_tells hL (by decide) (by rfl) (by rfl) (by rfl) (by rfl) (by rfl) (by rfl) (by rfl) ?_
          refine sm ?_
          repeat' first
            | (refine goesD_q (y := .raw (.bool true)) (by first | decide | exact Nat.le_of_ble_eq_true rfl) (by rfl) (by rfl) ?_; refine sm ?_)
            | (refine goesD_q (y := .raw (.bool false)) (by first | decide | exact Nat.le_of_ble_eq_true rfl) (by rfl) (by rfl) ?_; refine sm ?_)
            | (refine goesD_b (by first | decide | exact Nat.le_of_ble_eq_true rfl) (by rfl) (by rfl) fun b hb => ?_; cases b <;> refine sm ?_)
            | (refine goesD_q (by first | decide | exact Nat.le_of_ble_eq_true rfl) (by rfl) (by rfl) ?_; refine sm ?_)
            | (refine goesD_s (by first | decide | exact Nat.le_of_ble_eq_true rfl) (by rfl) (qok_rop (by rfl)) ?_; refine sm ?_)
            | (refine goesD_off (by first | decide | exact Nat.le_of_ble_eq_true rfl) (by rfl) ?_; refine sm ?_)
            | (refine goesD_end (by rfl) ?_; refine sm ?_)
            | (refine goes_seq ?_)
          have hset : setsA (A ++ (nodeC k n a lv kids ++ B)) off (tmC u) = A ++ (tmC u ++ B) := setsA_mid _ _ _ _ _ hoff (by rw [hlu]; rfl)
          refine goesL_m (by rfl) (mop_storeS (b := .agg (tmC u)) 5 hset (by rfl) (by rfl) (by rfl) (by rfl) (by rfl) hlu (by simp [nodeC]; omega) (Nat.zero_le _) hou) ?_
          refine sm ?_
          repeat' first
            | refine wk ?_
            | (refine goesL_b (by rfl) (by rfl) fun b hb => ?_; cases b <;> refine sm ?_)
          exact ⟨rfl, _, rfl, rfl, rfl⟩
    · have hk : ¬ k = 1 := by simpa using hb
      have hput : putT by' d k n lv = .go n lv := by
        unfold putT outer
        rw [decide_eq_false (fun h => hk h.1)]
        rfl
      rw [hput]
      first | exact ⟨rfl, _, rfl, rfl, rfl, rfl⟩ | exact ⟨rfl, _, rfl, rfl, trivial, rfl⟩
  refine ⟨fun a ha => ?_, fun d k n a lv kids sz off A B n' lv' hd hf hA hB hoff htr => ?_, fun d k n a lv kids sz off A B u hd hf hA hB hoff htr => ?_⟩
  · simp at ha
    subst ha
    exact .vptr fun x hx => by simp at hx; subst hx; exact hKp
  · have := key d k n a lv kids sz off A B hd hf hoff
    rw [htr] at this
    have hlv : lv' = lv := by obtain ⟨_, _, _, _, h, _⟩ := this; exact h
    refine ⟨by rw [hlv]; exact ((Tm.fit_mk k n a lv kids).1 hf).2.1, this.mono fun z h' hz => ⟨hz.1, hz.2.2⟩⟩
  · have := key d k n a lv kids sz off A B hd hf hoff
    rw [htr] at this
    exact this
theorem put_tells (t : Tm) (by' : List Tm) (hs : t.size ≤ 1073741824) (hf : t.fit) (hn : by'.length ≤ 1048576) (hby : ∀ b ∈ by', b.fit ∧ b.size ≤ 1073741824) : Tells Tryz.prog (.func 62) [eTm t, .vals 5 (by'.map eTm)] [] (eTm (t.walk (putT by') 0)) := by
  have hT := walk_tells (Nat.le_refl _) (putTurn by' 1073741824 (Nat.le_refl _) hn hby) t 0 (by omega) hf
  have hKp := pure_tms 5 by'
  refine tells_raw (fun b hb => ?_) (pure_tm _) ?_
  · simp at hb; rcases hb with rfl | rfl
    · exact pure_tm t
    · exact hKp
  generalize t.walk (putT by') 0 = u at hT ⊢
  rw [eTm_agg u] at hT ⊢
  rw [eTm_agg t] at hT ⊢
  obtain ⟨K, hK⟩ : ∃ K, by'.map eTm = K := ⟨_, rfl⟩
  rw [hK] at hT hKp ⊢
  obtain ⟨k, n, a, lv, kids⟩ := t
  obtain ⟨k', n', a', lv', kids'⟩ := u
  unfold tmC nodeC at *
  refine gives_enter Tryz.func62 rfl rfl ?_
  repeat' first
    | refine wk ?_
    | (refine goesL_b (by rfl) (by rfl) fun b hb => ?_; cases b <;> refine sm ?_)
  refine goesL_call (by rfl) (by rfl) (by rfl) (by rfl) (by rfl) (gives_seal (l := [(1, 0 + 1)]) [(1, 1)] hT ?_ (by rfl) (fun p hp c hc => ?_) ?_)
  · show SnapL _ [.agg [eInt 0, .clo (.func 103) [] [.ptr 1 0 0]], .agg [eInt k, eInt n, eInt a, AV.vals 1 (List.map eLv lv), AV.vals 5 (List.map eTm kids)]] [.agg [eInt 0, .clo (.func 103) [] [.vptr [.vals 5 K]]], .agg [eInt k, eInt n, eInt a, AV.vals 1 (List.map eLv lv), AV.vals 5 (List.map eTm kids)]] _
    exact .agg (j := [(1, 0 + 1)]) (l := []) (.pure (.raw _) (.clo (j1 := []) (j2 := [(1, 0 + 1)]) (l := []) .nil (.vptr (n := 1) (j := []) (l := []) (c := { ver := 0, elem := 22, sz := 1, imm := 1, cs := [.vals 5 K] }) rfl (Nat.le_refl _) (.pure hKp .nil) .nil) .nil)) (.pure (hT.pure _ (.tail _ (.head _))) .nil)
  · simp at hp
    subst hp
    cases hc; exact Nat.le_refl _
  refine sm ?_
  repeat' first
    | refine wk ?_
    | (refine goesL_b (by rfl) (by rfl) fun b hb => ?_; cases b <;> refine sm ?_)
  exact ⟨rfl, _, rfl, rfl⟩
end Go.Proofs.YtaoglkkdhdfioaaGreatDoor
