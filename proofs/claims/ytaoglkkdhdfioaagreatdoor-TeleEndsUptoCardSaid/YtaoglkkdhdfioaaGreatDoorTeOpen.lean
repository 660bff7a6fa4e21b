/- throw.Holds; tele.Open. -/
import Derived.Test.YtaoglkkdhdfioaaGreatDoorEvWk
import Derived.Test.YtaoglkkdhdfioaaGreatDoorTeTele
import Derived.Test.YtaoglkkdhdfioaaGreatDoorTeTold
import Derived.Test.YtaoglkkdhdfioaaGreatDoorEvTw
import Derived.KernelRfl
import Derived.Test.YtaoglkkdhdfioaaGreatDoorProg
namespace Go.Proofs.YtaoglkkdhdfioaaGreatDoor
open Go Go.Proofs
set_option maxRecDepth 100000
set_option maxHeartbeats 2000000
attribute [local go_sem] AH.seals AH.adds news List.nil_append List.cons_append AF.put AF.start Slots.set Slots.ins zipA AH.zero AH.new AH.put AH.sub ofV AV.cells List.length AF.keep AH.cut List.filter_cons List.filter_nil List.contains_cons List.contains_nil Nat.reduceBEq Bool.or_false Bool.or_true Bool.true_or Bool.false_or decide_true decide_false Bool.not_false Bool.and_true Bool.true_and Bool.and_self List.append_nil List.getElem_toArray List.getElem_cons_zero List.getElem_cons_succ Nat.reduceLT Nat.reduceAdd Nat.reduceSub Nat.reduceEqDiff andThen atEnd rounds Tryz.ntmps45 Tryz.ntmps77 Tryz.ntmps14 Tryz.ntmps42 Tryz.ntmps44
/-- so many binders taken off -/
def openT : Nat → Tm → Option (List Tm × Tm)
  | 0, t => some ([], t)
  | n + 1, .mk 4 _ _ _ [x, y] => (openT n y).map fun p => (x :: p.1, p.2)
  | _ + 1, _ => none
theorem openT_go {m : Nat} {n a : Int} {lv : List (List (Int × Int))} {x y : Tm} : openT (m + 1) (.mk 4 n a lv [x, y]) = (openT m y).map fun p => (x :: p.1, p.2) := by rw [openT]
theorem openT_no {m : Nat} {t : Tm} (h : t.two 4 = false) : openT (m + 1) t = none := by
  unfold openT
  split
  · rename_i e; cases e
  · simp [Tm.two] at h
  · rfl
abbrev zeroTm : Tm := .mk 0 0 0 [] []
def openV : Option (List Tm × Tm) → AV
  | some p => .tup [.vals 5 (p.1.map eTm), eTm p.2, eBool true]
  | none => .tup [.vals 5 [], eTm zeroTm, eBool false]
/-- what is snapped, and pure values behind it -/
theorem snap_then {h : AH} {us bs A C : List AV} {l : List (Nat × Nat)} (hs : SnapL h us bs l) (ht : SnapL h A C []) : SnapL h (us ++ A) (bs ++ C) l := by
  induction hs with
  | nil => exact ht
  | pure hp _ ih => exact .pure hp ih
  | none _ ih => exact .none ih
  | emp _ ih => exact .emp ih
  | row hc hl hz hs hp _ _ ih => exact .row hc hl hz hs hp ih
  | agg hs _ _ ih => exact .agg hs ih
  | tup hs _ _ ih => exact .tup hs ih
  | ifc hs _ _ ih => exact .ifc hs ih
  | clo h1 h2 _ _ _ ih => exact .clo h1 h2 ih
  | vptr hc hn hs _ _ ih => exact .vptr hc hn hs ih
theorem pure_openV (o : Option (List Tm × Tm)) : Pure (openV o) := by
  cases o with
  | none =>
    refine .tup fun a ha => ?_
    simp at ha
    rcases ha with rfl | rfl | rfl
    · exact pure_tms 5 []
    · exact pure_tm _
    · exact .raw _
  | some p =>
    refine .tup fun a ha => ?_
    simp at ha
    rcases ha with rfl | rfl | rfl
    · exact pure_tms 5 _
    · exact pure_tm _
    · exact .raw _
theorem open_tells (t : Tm) (n : Int) (hn : n ≤ 1048576) (hs : t.size ≤ 1048576) (hf : t.fit) : Tells Tryz.prog (.func 14) [eTm t, eInt n] [] (openV (if n < 0 then none else openT n.toNat t)) := by
  have hpt := pure_tmC t
  refine tells_of (fun b hb => ?_) ?_ ?_
  · simp at hb; rcases hb with rfl | rfl
    · exact pure_tm t
    · exact .raw _
  · exact pure_openV _
  rw [eTm_agg t]
  refine gives_enter Tryz.func14 rfl rfl ?_
  obtain ⟨k, m, a, lv, kids⟩ := t
  repeat' first
    | refine wk ?_
    | (refine goesL_b (by rfl) (by rfl) fun b hb => ?_; cases b <;> refine sm ?_)
  refine goesL_call (by rfl) (by rfl) (by rfl) (by rfl) (by rfl) (gives_enter Tryz.func45 rfl rfl ?_)
  refine sm ?_
  repeat' first
    | refine wk ?_
    | (refine goesL_b (by rfl) (by rfl) fun b hb => ?_; cases b <;> refine sm ?_)
  refine goesL_call (by rfl) (by rfl) (by rfl) (by rfl) (by rfl) (gives_told 77 Tryz.func77 rfl rfl (fun _ _ => rfl) 18 ?_)
  refine gives_enter Tryz.func77 rfl rfl ?_
  refine sm ?_
  repeat' first
    | refine wk ?_
    | (refine goesL_b (by rfl) (by rfl) fun b hb => ?_; cases b <;> refine sm ?_)
  refine goesL_call (by rfl) (by rfl) (by rfl) (by rfl) (by rfl) (gives_enter Tryz.func42 rfl rfl ?_)
  refine sm ?_
  repeat' first
    | refine wk ?_
    | (refine goesL_b (by rfl) (by rfl) fun b hb => ?_; cases b <;> refine sm ?_)
  · have hneg : n < 0 := by have := of_decide_eq_false hb; omega
    rw [if_pos hneg]
    refine goesL_call (by rfl) (by rfl) (by rfl) (by rfl) (by rfl) (throws_row (r := 6) (n := 1) (pre := [eInt 18]) (c := ⟨0, 4, 1, 0, [eBool false]⟩) (es := [eBool false]) rfl rfl (by intro e he; simp at he; subst he; rfl) (by simp; exact .raw _) rfl (by simp; exact .raw _) (by rfl) (by rfl) (must_no 18) ?_)
    refine And.intro rfl ?_
    refine And.intro rfl (Or.inr ⟨18, rfl, ?_⟩)
    refine (show GoesL _ _ _ _ _ _ from ?_)
    refine sm ?_
    repeat' first
      | refine wk ?_
      | (refine goesL_b (by rfl) (by rfl) fun b hb => ?_; cases b <;> refine sm ?_)
    refine ⟨rfl, _, rfl, ?_⟩
    refine sm ?_
    repeat' first
      | refine wk ?_
      | (refine goesL_b (by rfl) (by rfl) fun b hb => ?_; cases b <;> refine sm ?_)
    exact ⟨rfl, _, rfl, _, [], [], rfl, .tup (j := []) (l := []) (.none (.agg (j := []) (l := []) (.pure (.raw _) (.pure (.raw _) (.pure (.raw _) (.none (.none .nil))))) (.pure (.raw _) .nil))) .nil, fun p hp => nomatch hp⟩
  · have hpos : ¬ n < 0 := by have := of_decide_eq_true hb; omega
    rw [if_neg hpos]
    obtain ⟨N, rfl⟩ : ∃ N : Nat, n = N := ⟨n.toNat, by omega⟩
    rw [show ((N : Int)).toNat = N from rfl]
    refine goesL_call (by rfl) (by rfl) (by rfl) (by rfl) (by rfl) (gives_row (r := 6) (n := 1) (pre := [eInt 18]) (c := ⟨0, 4, 1, 0, [eBool true]⟩) (es := [eBool true]) rfl rfl (by intro e he; simp at he; subst he; rfl) (by simp; exact .raw _) rfl (by simp; exact .raw _) (by rfl) (by rfl) (must_yes 18) ?_)
    refine sm ?_
    repeat' first
      | refine wk ?_
      | (refine goesL_b (by rfl) (by rfl) fun b hb => ?_; cases b <;> refine sm ?_)
    refine goes_loop (fun m' f h => ∃ (u : Tm) (c : List Tm) (j : Nat), m' = N - j ∧ j ≤ N ∧ openT N (.mk k m a lv kids) = (openT (N - j) u).map (fun p => (c ++ p.1, p.2)) ∧ c.length = j ∧ u.fit ∧ j + u.size ≤ (Tm.mk k m a lv kids).size ∧ f.keep [1, 6, 7] = ⟨⟨12, [(1, .ptr 4 0 0), (6, eInt (N : Int)), (7, eInt (j : Int))]⟩, [], none⟩ ∧
      ((c = [] ∧ h = ⟨7, [], [(6, .cells ⟨0, 4, 1, 1, [eBool true]⟩), (5, .cells ⟨0, 1, 1, 0, [.clo (.func 42) [] [.ptr 1 0 0, .ptr 4 0 0]]⟩), (4, .cells ⟨0, 65, 1, 0, [.ptr 3 0 0]⟩), (3, .cells ⟨0, 67, 1, 0, .raw (.slice none 0 0) :: tmC u⟩), (2, .cells (tmBlk 1 [eInt 0, eInt 0, eInt 0, .raw (.slice none 0 0), .raw (.slice none 0 0)])), (1, .cells ⟨0, 3, 1, 0, [eInt (N : Int)]⟩), (0, .cells (tmBlk 1 (tmC (.mk k m a lv kids))))]⟩) ∨ ∃ m1 : Nat, c.length = m1 + 1 ∧ h = ⟨23, [], [(22, .cells ⟨m1, 26, 5, 0, tmsC c⟩), (7, .cells ⟨0, 4, 1, 1, [eBool true]⟩), (6, .cells ⟨0, 4, 1, 1, [eBool true]⟩), (5, .cells ⟨0, 1, 1, 0, [.clo (.func 42) [] [.ptr 1 0 0, .ptr 4 0 0]]⟩), (4, .cells ⟨0, 65, 1, 0, [.ptr 3 0 0]⟩), (3, .cells ⟨0, 67, 1, 0, .row 22 m1 0 (m1 + 1) :: tmC u⟩), (2, .cells (tmBlk 1 [eInt 0, eInt 0, eInt 0, .raw (.slice none 0 0), .raw (.slice none 0 0)])), (1, .cells ⟨0, 3, 1, 0, [eInt (N : Int)]⟩), (0, .cells (tmBlk 1 (tmC (.mk k m a lv kids)))), (21, .cells (tmBlk 5 [eInt 0, eInt 0, eInt 0, .raw (.slice none 0 0), .raw (.slice none 0 0)]))]⟩)) ?_ N _ _ ⟨_, [], 0, rfl, Nat.zero_le _, by simp, rfl, hf, by omega, rfl, .inl ⟨rfl, rfl⟩⟩
    rintro m' f h ⟨u, c, j, rfl, hj, ho, hc, huf, hus, hkf, ⟨rfl, rfl⟩ | ⟨m1, hm1, rfl⟩⟩
    · refine goes_keep [1, 6, 7] ?_
      rw [hkf]
      obtain rfl : 0 = j := hc
      have hW := two_tells u 4
      repeat' first
        | refine wk ?_
        | (refine goesL_b (by rfl) (by rfl) fun b hb => ?_; cases b <;> refine sm ?_)
      · have hN : N = 0 := by have := of_decide_eq_false hb; omega
        subst hN
        have hov : openV ((openT (0 - 0) u).map (fun p => ([] ++ p.1, p.2))) = .tup [.vals 5 [], .agg (tmC u), eBool true] := by
          show AV.tup [.vals 5 [], eTm u, eBool true] = _
          rw [eTm_agg]
        rw [ho, hov]
        have hTu := tcopied_tells u (by omega) huf
        rw [eTm_agg u] at hTu
        have hpu := pure_tmC u
        obtain ⟨k1, n1, a1, lv1, kids1⟩ := u
        refine ⟨rfl, _, rfl, ?_⟩
        refine (show GoesL _ _ _ _ _ _ from ?_)
        try refine sm ?_
        repeat' first
          | refine wk ?_
          | (refine goesL_b (by rfl) (by rfl) fun b hb => ?_; cases b <;> refine sm ?_)
        refine ⟨rfl, _, rfl, .inl ⟨0, rfl, ?_⟩⟩
        refine (show GoesL _ _ _ _ _ _ from ?_)
        try refine sm ?_
        repeat' first
          | refine wk ?_
          | (refine goesL_b (by rfl) (by rfl) fun b hb => ?_; cases b <;> refine sm ?_)
        refine ⟨rfl, _, rfl, ?_⟩
        refine (show GoesL _ _ _ _ _ _ from ?_)
        try refine sm ?_
        repeat' first
          | refine wk ?_
          | (refine goesL_b (by rfl) (by rfl) fun b hb => ?_; cases b <;> refine sm ?_)
        refine goes_draw 9 [] (by rfl) (by kernel_rfl) ?_
        refine sm ?_
        repeat' first
          | (refine goesD_q (y := .raw (.bool true)) (by first | decide | exact Nat.le_of_ble_eq_true rfl) (by rfl) (by rfl) ?_; refine sm ?_)
          | (refine goesD_q (y := .raw (.bool false)) (by first | decide | exact Nat.le_of_ble_eq_true rfl) (by rfl) (by rfl) ?_; refine sm ?_)
          | (refine goesD_b (by first | decide | exact Nat.le_of_ble_eq_true rfl) (by rfl) (by rfl) fun b hb => ?_; cases b <;> refine sm ?_)
          | (refine goesD_q (by first | decide | exact Nat.le_of_ble_eq_true rfl) (by rfl) (by rfl) ?_; refine sm ?_)
          | (refine goesD_s (by first | decide | exact Nat.le_of_ble_eq_true rfl) (by rfl) (qok_rop (by rfl)) ?_; refine sm ?_)
          | (refine goesD_off (by first | decide | exact Nat.le_of_ble_eq_true rfl) (by rfl) ?_; refine sm ?_)
          | (refine goesD_end (by rfl) ?_; refine sm ?_)
          | (refine goes_seq ?_)
        refine goesD_tells hTu (by decide) (by rfl) (by rfl) (by rfl) (by rfl) (by rfl) (by rfl) (by rfl) ?_
        refine sm ?_
        repeat' first
          | (refine goesD_q (y := .raw (.bool true)) (by first | decide | exact Nat.le_of_ble_eq_true rfl) (by rfl) (by rfl) ?_; refine sm ?_)
          | (refine goesD_q (y := .raw (.bool false)) (by first | decide | exact Nat.le_of_ble_eq_true rfl) (by rfl) (by rfl) ?_; refine sm ?_)
          | (refine goesD_b (by first | decide | exact Nat.le_of_ble_eq_true rfl) (by rfl) (by rfl) fun b hb => ?_; cases b <;> refine sm ?_)
          | (refine goesD_q (by first | decide | exact Nat.le_of_ble_eq_true rfl) (by rfl) (by rfl) ?_; refine sm ?_)
          | (refine goesD_s (by first | decide | exact Nat.le_of_ble_eq_true rfl) (by rfl) (qok_rop (by rfl)) ?_; refine sm ?_)
          | (refine goesD_off (by first | decide | exact Nat.le_of_ble_eq_true rfl) (by rfl) ?_; refine sm ?_)
          | (refine goesD_end (by rfl) ?_; refine sm ?_)
          | (refine goes_seq ?_)
        repeat' first
          | refine wk ?_
          | (refine goesL_b (by rfl) (by rfl) fun b hb => ?_; cases b <;> refine sm ?_)
        exact ⟨rfl, _, rfl, _, [], [], rfl, .tup (j := []) (l := []) (.none (.pure (.agg hpu) (.pure (.raw _) .nil))) .nil, fun p hp => nomatch hp⟩
      · refine goesL_call (by rfl) (by rfl) (by rfl) (by rfl) (by rfl) (gives_enter Tryz.func44 rfl rfl ?_)
        rw [eTm_agg u] at hW
        refine sm ?_
        cases e : u.two 4 with
        | false =>
          rw [e] at hW
          have hno : openT N (.mk k m a lv kids) = none := by
            rw [ho, show N - 0 = (N - 0 - 1) + 1 by have := of_decide_eq_true hb; omega, openT_no e]
            rfl
          rw [hno]
          obtain ⟨k1, n1, a1, lv1, kids1⟩ := u
          repeat' first
            | refine wk ?_
            | (refine goesL_b (by rfl) (by rfl) fun b hb => ?_; cases b <;> refine sm ?_)
          refine goesL_tells hW (by rfl) (by rfl) (by rfl) (by rfl) (by rfl) (by rfl) ?_
          refine sm ?_
          repeat' first
            | refine wk ?_
            | (refine goesL_b (by rfl) (by rfl) fun b hb => ?_; cases b <;> refine sm ?_)
          refine goesL_call (by rfl) (by rfl) (by rfl) (by rfl) (by rfl) (throws_row (r := 7) (n := 1) (pre := [eInt 18]) (c := ⟨0, 4, 1, 0, [eBool false]⟩) (es := [eBool false]) rfl rfl (by intro e he; simp at he; subst he; rfl) (by simp; exact .raw _) rfl (by simp; exact .raw _) (by rfl) (by rfl) (must_no 18) ?_)
          refine And.intro rfl ?_
          refine And.intro rfl ?_
          refine And.intro rfl (Or.inr ⟨18, rfl, ?_⟩)
          refine (show GoesL _ _ _ _ _ _ from ?_)
          try refine sm ?_
          repeat' first
            | refine wk ?_
            | (refine goesL_b (by rfl) (by rfl) fun b hb => ?_; cases b <;> refine sm ?_)
          refine ⟨rfl, _, rfl, ?_⟩
          refine (show GoesL _ _ _ _ _ _ from ?_)
          try refine sm ?_
          repeat' first
            | refine wk ?_
            | (refine goesL_b (by rfl) (by rfl) fun b hb => ?_; cases b <;> refine sm ?_)
          exact ⟨rfl, _, rfl, _, [], [], rfl, .tup (j := []) (l := []) (.none (.agg (j := []) (l := []) (.pure (.raw _) (.pure (.raw _) (.pure (.raw _) (.none (.none .nil))))) (.pure (.raw _) .nil))) .nil, fun p hp => nomatch hp⟩
        | true =>
          rw [e] at hW
          obtain ⟨k1, n1, a1, lv1, kids1⟩ := u
          obtain ⟨rfl, x, y, rfl⟩ := Tm.two_iff.1 e
          rw [tmC_two] at hW ⊢
          rw [Tm.fit_mk, Tm.fitL, Tm.fitL] at huf
          rw [Tm.size_mk 4, Tm.sizeL, Tm.sizeL, Tm.sizeL] at hus
          have hTx := tcopied_tells x (by omega) huf.2.2.2.1
          rw [eTm_agg x] at hTx
          have hpx := pure_tmC x
          have hpy := pure_tmC y
          obtain ⟨k2, n2, a2, lv2, kids2⟩ := x
          obtain ⟨k3, n3, a3, lv3, kids3⟩ := y
          repeat' first
            | refine wk ?_
            | (refine goesL_b (by rfl) (by rfl) fun b hb => ?_; cases b <;> refine sm ?_)
          refine goesL_tells hW (by rfl) (by rfl) (by rfl) (by rfl) (by rfl) (by rfl) ?_
          refine sm ?_
          repeat' first
            | refine wk ?_
            | (refine goesL_b (by rfl) (by rfl) fun b hb => ?_; cases b <;> refine sm ?_)
          refine goesL_call (by rfl) (by rfl) (by rfl) (by rfl) (by rfl) (gives_row (r := 7) (n := 1) (pre := [eInt 18]) (c := ⟨0, 4, 1, 0, [eBool true]⟩) (es := [eBool true]) rfl rfl (by intro e he; simp at he; subst he; rfl) (by simp; exact .raw _) rfl (by simp; exact .raw _) (by rfl) (by rfl) (must_yes 18) ?_)
          refine sm ?_
          repeat' first
            | refine wk ?_
            | (refine goesL_b (by rfl) (by rfl) fun b hb => ?_; cases b <;> refine sm ?_)
          refine goes_drawT 14 [] [.val (some 24) (.ptr 22 0 0), .put 22 (.cells (tmBlk 5 (tmC (.mk k2 n2 a2 lv2 kids2))))] [.val (some 25) (.ptr 3 0 0), .val (some 26) (.ptr 3 0 0), .put 3 (.cells ⟨0, 67, 1, 0, [.row 22 0 0 1, eInt 4, eInt n1, eInt a1, .vals 1 (lv1.map eLv), .vals 5 [.agg (tmC (.mk k2 n2 a2 lv2 kids2)), .agg (tmC (.mk k3 n3 a3 lv3 kids3))]]⟩)] (by rfl) (by kernel_rfl) (by kernel_rfl) (by rfl) ?_
          refine sm ?_
          repeat' first
            | (refine goesD_q (y := .raw (.bool true)) (by first | decide | exact Nat.le_of_ble_eq_true rfl) (by rfl) (by rfl) ?_; refine sm ?_)
            | (refine goesD_q (y := .raw (.bool false)) (by first | decide | exact Nat.le_of_ble_eq_true rfl) (by rfl) (by rfl) ?_; refine sm ?_)
            | (refine goesD_b (by first | decide | exact Nat.le_of_ble_eq_true rfl) (by rfl) (by rfl) fun b hb => ?_; cases b <;> refine sm ?_)
            | (refine goesD_q (by first | decide | exact Nat.le_of_ble_eq_true rfl) (by rfl) (by rfl) ?_; refine sm ?_)
            | (refine goesD_s (by first | decide | exact Nat.le_of_ble_eq_true rfl) (by rfl) (qok_rop (by rfl)) ?_; refine sm ?_)
            | (refine goesD_off (by first | decide | exact Nat.le_of_ble_eq_true rfl) (by rfl) ?_; refine sm ?_)
            | (refine goesD_end (by rfl) ?_; refine sm ?_)
            | (refine goes_seq ?_)
          refine goesD_tells hTx (by decide) (by rfl) (by rfl) (by rfl) (by rfl) (by rfl) (by rfl) (by rfl) ?_
          refine sm ?_
          repeat' first
            | (refine goesD_q (y := .raw (.bool true)) (by first | decide | exact Nat.le_of_ble_eq_true rfl) (by rfl) (by rfl) ?_; refine sm ?_)
            | (refine goesD_q (y := .raw (.bool false)) (by first | decide | exact Nat.le_of_ble_eq_true rfl) (by rfl) (by rfl) ?_; refine sm ?_)
            | (refine goesD_b (by first | decide | exact Nat.le_of_ble_eq_true rfl) (by rfl) (by rfl) fun b hb => ?_; cases b <;> refine sm ?_)
            | (refine goesD_q (by first | decide | exact Nat.le_of_ble_eq_true rfl) (by rfl) (by rfl) ?_; refine sm ?_)
            | (refine goesD_s (by first | decide | exact Nat.le_of_ble_eq_true rfl) (by rfl) (qok_rop (by rfl)) ?_; refine sm ?_)
            | (refine goesD_off (by first | decide | exact Nat.le_of_ble_eq_true rfl) (by rfl) ?_; refine sm ?_)
            | (refine goesD_end (by rfl) ?_; refine sm ?_)
            | (refine goes_seq ?_)
          refine goesD_n 0 (by decide) (by rfl) (by rfl) (Nat.zero_le _) ?_
          refine sm ?_
          refine goesD_endT (by rfl) ?_
          refine ⟨(_, _), step_n (by rfl) (by rfl) (by rfl), ?_, ?_, ?_⟩
          · repeat' first
              | exact True.intro
              | refine And.intro ?_ ?_
              | exact step_eq (s := (_, _)) (step_q (by rfl) (by rfl) (by rfl)) (by rfl)
              | exact step_eq (s := (_, _)) (step_m (by rfl) (by rfl) (by rfl)) (by rfl)
          · repeat' first
              | exact True.intro
              | refine And.intro ?_ ?_
              | exact step_eq (s := (_, _)) (step_q (by rfl) (by rfl) (by rfl)) (by rfl)
              | exact step_eq (s := (_, _)) (step_m (by rfl) (by rfl) (by rfl)) (by rfl)
          · simp only [rowsS, List.take_succ_cons, List.take_zero, List.nil_append, List.cons_append, List.foldl_cons, List.foldl_nil, Eff.run, List.length_cons, List.length_nil, go_sem, ↓reduceIte, reduceCtorEq]
            repeat' first
              | refine wk ?_
              | (refine goesL_b (by rfl) (by rfl) fun b hb => ?_; cases b <;> refine sm ?_)
            refine And.intro rfl ⟨_, rfl, ?_⟩
            refine (show GoesL _ _ _ _ _ _ from ?_)
            try refine sm ?_
            repeat' first
              | refine wk ?_
              | (refine goesL_b (by rfl) (by rfl) fun b hb => ?_; cases b <;> refine sm ?_)
            refine ⟨N - 1, by have := of_decide_eq_true hb; omega, .mk k3 n3 a3 lv3 kids3, [.mk k2 n2 a2 lv2 kids2], 1, rfl, by have := of_decide_eq_true hb; omega, ?_, rfl, huf.2.2.2.2.1, by omega, by first | rfl | trivial, .inr ⟨0, rfl, ?_⟩⟩
            · rw [ho, show N - 0 = (N - 1) + 1 by have := of_decide_eq_true hb; omega, openT_go]
              cases openT (N - 1) (.mk k3 n3 a3 lv3 kids3) <;> rfl
            · rw [show tmsC [Tm.mk k2 n2 a2 lv2 kids2] = tmC (.mk k2 n2 a2 lv2 kids2) by rw [tmsC_cons, tmsC_nil, List.append_nil]]
              rfl
    · refine goes_keep [1, 6, 7] ?_
      rw [hkf]
      obtain rfl : j = m1 + 1 := by omega
      have hW := two_tells u 4
      have hpt0 := pure_tmC (.mk k m a lv kids)
      have hpc := pure_tmsC c
      have hpu0 := pure_tmC u
      refine goes_scope [1, 6, 7] ?_
      repeat' first
        | refine wk ?_
        | (refine goesL_b (by rfl) (by rfl) fun b hb => ?_; cases b <;> refine sm ?_)
      · have hN : N = m1 + 1 := by have := of_decide_eq_false hb; omega
        subst hN
        have hov : openV ((openT (m1 + 1 - (m1 + 1)) u).map (fun p => (c ++ p.1, p.2))) = .tup [.vals 5 (c.map eTm), .agg (tmC u), eBool true] := by
          rw [Nat.sub_self]
          show AV.tup [.vals 5 ((c ++ []).map eTm), eTm u, eBool true] = _
          rw [eTm_agg, List.append_nil]
        rw [ho, hov]
        have hTu := tcopied_tells u (by omega) huf
        rw [eTm_agg u] at hTu
        have hpu := pure_tmC u
        obtain ⟨k1, n1, a1, lv1, kids1⟩ := u
        refine within_of (by repeat' first | exact True.intro | exact Of.raw _ | exact Of.emp | exact Of.ptr (has_nil (by rfl)) | exact Of.row (has_nil (by rfl)) | exact Of.yld (has_nil (by rfl)) | exact has_nil (by rfl) | assumption | exact Pure.of (by assumption) | exact Pure.of (pure_lvs _ _) | exact Pure.of (pure_tms _ _) | refine And.intro ?_ ?_ | exact ofC_pure (by assumption) | (refine Of.clo (fun _ ha => nomatch ha) (ofC_pure (by assumption))) | (refine Of.agg (OfC.all ?_)) | (refine Of.clo (fun _ ha => nomatch ha) (OfC.all ?_))) (by repeat' first | exact True.intro | refine And.intro ?_ ?_ | exact has_nil (by rfl)) (by first | exact True.intro | exact Of.raw _ | exact Of.ifc (Of.raw _)) (by repeat' first | exact True.intro | exact Of.raw _ | exact Of.emp | exact Of.ptr (has_nil (by rfl)) | exact Of.row (has_nil (by rfl)) | exact Of.yld (has_nil (by rfl)) | exact has_nil (by rfl) | assumption | exact Pure.of (by assumption) | exact Pure.of (pure_lvs _ _) | exact Pure.of (pure_tms _ _) | refine And.intro ?_ ?_ | exact ofC_pure (by assumption) | (refine Of.agg (OfC.all ?_)) | (refine Of.clo (fun _ ha => nomatch ha) (OfC.all ?_))) ?_
        refine ⟨rfl, _, rfl, ?_⟩
        refine (show GoesL _ _ _ _ _ _ from ?_)
        try refine sm ?_
        repeat' first
          | refine wk ?_
          | (refine goesL_b (by rfl) (by rfl) fun b hb => ?_; cases b <;> refine sm ?_)
        refine ⟨rfl, _, rfl, .inl ⟨0, rfl, ?_⟩⟩
        refine (show GoesL _ _ _ _ _ _ from ?_)
        try refine sm ?_
        repeat' first
          | refine wk ?_
          | (refine goesL_b (by rfl) (by rfl) fun b hb => ?_; cases b <;> refine sm ?_)
        refine ⟨rfl, _, rfl, ?_⟩
        refine (show GoesL _ _ _ _ _ _ from ?_)
        try refine sm ?_
        repeat' first
          | refine wk ?_
          | (refine goesL_b (by rfl) (by rfl) fun b hb => ?_; cases b <;> refine sm ?_)
        refine goes_draw 9 [] (by rfl) (by kernel_rfl) ?_
        refine sm ?_
        repeat' first
          | (refine goesD_q (y := .raw (.bool true)) (by first | decide | exact Nat.le_of_ble_eq_true rfl) (by rfl) (by rfl) ?_; refine sm ?_)
          | (refine goesD_q (y := .raw (.bool false)) (by first | decide | exact Nat.le_of_ble_eq_true rfl) (by rfl) (by rfl) ?_; refine sm ?_)
          | (refine goesD_b (by first | decide | exact Nat.le_of_ble_eq_true rfl) (by rfl) (by rfl) fun b hb => ?_; cases b <;> refine sm ?_)
          | (refine goesD_q (by first | decide | exact Nat.le_of_ble_eq_true rfl) (by rfl) (by rfl) ?_; refine sm ?_)
          | (refine goesD_s (by first | decide | exact Nat.le_of_ble_eq_true rfl) (by rfl) (qok_rop (by rfl)) ?_; refine sm ?_)
          | (refine goesD_off (by first | decide | exact Nat.le_of_ble_eq_true rfl) (by rfl) ?_; refine sm ?_)
          | (refine goesD_end (by rfl) ?_; refine sm ?_)
          | (refine goes_seq ?_)
        refine goesD_tells hTu (by decide) (by rfl) (by rfl) (by rfl) (by rfl) (by rfl) (by rfl) (by rfl) ?_
        refine sm ?_
        repeat' first
          | (refine goesD_q (y := .raw (.bool true)) (by first | decide | exact Nat.le_of_ble_eq_true rfl) (by rfl) (by rfl) ?_; refine sm ?_)
          | (refine goesD_q (y := .raw (.bool false)) (by first | decide | exact Nat.le_of_ble_eq_true rfl) (by rfl) (by rfl) ?_; refine sm ?_)
          | (refine goesD_b (by first | decide | exact Nat.le_of_ble_eq_true rfl) (by rfl) (by rfl) fun b hb => ?_; cases b <;> refine sm ?_)
          | (refine goesD_q (by first | decide | exact Nat.le_of_ble_eq_true rfl) (by rfl) (by rfl) ?_; refine sm ?_)
          | (refine goesD_s (by first | decide | exact Nat.le_of_ble_eq_true rfl) (by rfl) (qok_rop (by rfl)) ?_; refine sm ?_)
          | (refine goesD_off (by first | decide | exact Nat.le_of_ble_eq_true rfl) (by rfl) ?_; refine sm ?_)
          | (refine goesD_end (by rfl) ?_; refine sm ?_)
          | (refine goes_seq ?_)
        repeat' first
          | refine wk ?_
          | (refine goesL_b (by rfl) (by rfl) fun b hb => ?_; cases b <;> refine sm ?_)
        have hz2 : ∀ e ∈ c.map eTm, e.cells.length = 5 := fun e he => by
          obtain ⟨t, _, rfl⟩ := List.mem_map.1 he
          rw [tmC_eq, tmC_length]
        have hp2 : ∀ e ∈ c.map eTm, Pure e := fun e he => by
          obtain ⟨t, _, rfl⟩ := List.mem_map.1 he
          exact pure_tm t
        exact ⟨rfl, _, rfl, _, [(22, (m1 + 1) * 5)], [(22, 0 + (m1 + 1) * 5)], rfl, .tup (j := [(22, 0 + (m1 + 1) * 5)]) (l := []) (snap_then (snap_own (c := ⟨m1, 26, 5, 0, tmsC c⟩) (es := c.map eTm) (n := m1 + 1) rfl rfl hz2 hp2 (by simp [hm1])).1 (.pure (.agg hpu) (.pure (.raw _) .nil))) .nil, (snap_own (c := ⟨m1, 26, 5, 0, tmsC c⟩) (es := c.map eTm) (n := m1 + 1) rfl rfl hz2 hp2 (by simp [hm1])).2⟩
      · refine goesL_call (by rfl) (by rfl) (by rfl) (by rfl) (by rfl) (gives_enter Tryz.func44 rfl rfl ?_)
        rw [eTm_agg u] at hW
        refine sm ?_
        cases e : u.two 4 with
        | false =>
          rw [e] at hW
          have hno : openT N (.mk k m a lv kids) = none := by
            rw [ho, show N - (m1 + 1) = (N - (m1 + 1) - 1) + 1 by have := of_decide_eq_true hb; omega, openT_no e]
            rfl
          rw [hno]
          have hpu := pure_tmC u
          obtain ⟨k1, n1, a1, lv1, kids1⟩ := u
          repeat' first
            | refine wk ?_
            | (refine goesL_b (by rfl) (by rfl) fun b hb => ?_; cases b <;> refine sm ?_)
          refine goesL_tells hW (by rfl) (by rfl) (by rfl) (by rfl) (by rfl) (by rfl) ?_
          refine sm ?_
          repeat' first
            | refine wk ?_
            | (refine goesL_b (by rfl) (by rfl) fun b hb => ?_; cases b <;> refine sm ?_)
          refine goesL_call (by rfl) (by rfl) (by rfl) (by rfl) (by rfl) (throws_row (r := 23) (n := 1) (pre := [eInt 18]) (c := ⟨0, 4, 1, 0, [eBool false]⟩) (es := [eBool false]) rfl rfl (by intro e he; simp at he; subst he; rfl) (by simp; exact .raw _) rfl (by simp; exact .raw _) (by rfl) (by rfl) (must_no 18) ?_)
          refine And.intro rfl ?_
          refine within_of (by repeat' first | exact True.intro | exact Of.raw _ | exact Of.emp | exact Of.ptr (has_nil (by rfl)) | exact Of.row (has_nil (by rfl)) | exact Of.yld (has_nil (by rfl)) | exact has_nil (by rfl) | assumption | exact Pure.of (by assumption) | exact Pure.of (pure_lvs _ _) | exact Pure.of (pure_tms _ _) | refine And.intro ?_ ?_ | exact ofC_pure (by assumption) | (refine Of.clo (fun _ ha => nomatch ha) (ofC_pure (by assumption))) | (refine Of.agg (OfC.all ?_)) | (refine Of.clo (fun _ ha => nomatch ha) (OfC.all ?_))) (by repeat' first | exact True.intro | refine And.intro ?_ ?_ | exact has_nil (by rfl)) (by first | exact True.intro | exact Of.raw _ | exact Of.ifc (Of.raw _)) (by repeat' first | exact True.intro | exact Of.raw _ | exact Of.emp | exact Of.ptr (has_nil (by rfl)) | exact Of.row (has_nil (by rfl)) | exact Of.yld (has_nil (by rfl)) | exact has_nil (by rfl) | assumption | exact Pure.of (by assumption) | exact Pure.of (pure_lvs _ _) | exact Pure.of (pure_tms _ _) | refine And.intro ?_ ?_ | exact ofC_pure (by assumption) | (refine Of.agg (OfC.all ?_)) | (refine Of.clo (fun _ ha => nomatch ha) (OfC.all ?_))) ?_
          refine And.intro rfl ?_
          refine And.intro rfl (Or.inr ⟨18, rfl, ?_⟩)
          refine (show GoesL _ _ _ _ _ _ from ?_)
          try refine sm ?_
          repeat' first
            | refine wk ?_
            | (refine goesL_b (by rfl) (by rfl) fun b hb => ?_; cases b <;> refine sm ?_)
          refine ⟨rfl, _, rfl, ?_⟩
          refine (show GoesL _ _ _ _ _ _ from ?_)
          try refine sm ?_
          repeat' first
            | refine wk ?_
            | (refine goesL_b (by rfl) (by rfl) fun b hb => ?_; cases b <;> refine sm ?_)
          exact ⟨rfl, _, rfl, _, [], [], rfl, .tup (j := []) (l := []) (.none (.agg (j := []) (l := []) (.pure (.raw _) (.pure (.raw _) (.pure (.raw _) (.none (.none .nil))))) (.pure (.raw _) .nil))) .nil, fun p hp => nomatch hp⟩
        | true =>
          rw [e] at hW
          obtain ⟨k1, n1, a1, lv1, kids1⟩ := u
          obtain ⟨rfl, x, y, rfl⟩ := Tm.two_iff.1 e
          rw [tmC_two] at hW ⊢
          rw [Tm.fit_mk, Tm.fitL, Tm.fitL] at huf
          rw [Tm.size_mk 4, Tm.sizeL, Tm.sizeL, Tm.sizeL] at hus
          have hTx := tcopied_tells x (by omega) huf.2.2.2.1
          rw [eTm_agg x] at hTx
          have hpx := pure_tmC x
          have hpy := pure_tmC y
          have hcx : tmsC (c ++ [x]) = tmsC c ++ tmC x := by rw [tmsC_append, tmsC_cons, tmsC_nil, List.append_nil]
          have hpcx := pure_tmsC (c ++ [x])
          obtain ⟨k2, n2, a2, lv2, kids2⟩ := x
          obtain ⟨k3, n3, a3, lv3, kids3⟩ := y
          repeat' first
            | refine wk ?_
            | (refine goesL_b (by rfl) (by rfl) fun b hb => ?_; cases b <;> refine sm ?_)
          refine goesL_tells hW (by rfl) (by rfl) (by rfl) (by rfl) (by rfl) (by rfl) ?_
          refine sm ?_
          repeat' first
            | refine wk ?_
            | (refine goesL_b (by rfl) (by rfl) fun b hb => ?_; cases b <;> refine sm ?_)
          refine goesL_call (by rfl) (by rfl) (by rfl) (by rfl) (by rfl) (gives_row (r := 23) (n := 1) (pre := [eInt 18]) (c := ⟨0, 4, 1, 0, [eBool true]⟩) (es := [eBool true]) rfl rfl (by intro e he; simp at he; subst he; rfl) (by simp; exact .raw _) rfl (by simp; exact .raw _) (by rfl) (by rfl) (must_yes 18) ?_)
          refine sm ?_
          repeat' first
            | refine wk ?_
            | (refine goesL_b (by rfl) (by rfl) fun b hb => ?_; cases b <;> refine sm ?_)
          refine goes_drawT 14 [] [.val (some 24) (.ptr 22 (m1 + 1) (0 + (m1 + 1) * 5)), .put 22 (.cells ⟨m1 + 1, 26, 5, 0, tmsC (c ++ [.mk k2 n2 a2 lv2 kids2])⟩)] [.val (some 25) (.ptr 3 0 0), .val (some 26) (.ptr 3 0 0), .put 3 (.cells ⟨0, 67, 1, 0, [.row 22 (m1 + 1) 0 (m1 + 1 + 1), eInt 4, eInt n1, eInt a1, .vals 1 (lv1.map eLv), .vals 5 [.agg (tmC (.mk k2 n2 a2 lv2 kids2)), .agg (tmC (.mk k3 n3 a3 lv3 kids3))]]⟩)] (by rfl) (by kernel_rfl) (by kernel_rfl) (by rfl) ?_
          refine sm ?_
          repeat' first
            | (refine goesD_q (y := .raw (.bool true)) (by first | decide | exact Nat.le_of_ble_eq_true rfl) (by rfl) (by rfl) ?_; refine sm ?_)
            | (refine goesD_q (y := .raw (.bool false)) (by first | decide | exact Nat.le_of_ble_eq_true rfl) (by rfl) (by rfl) ?_; refine sm ?_)
            | (refine goesD_b (by first | decide | exact Nat.le_of_ble_eq_true rfl) (by rfl) (by rfl) fun b hb => ?_; cases b <;> refine sm ?_)
            | (refine goesD_q (by first | decide | exact Nat.le_of_ble_eq_true rfl) (by rfl) (by rfl) ?_; refine sm ?_)
            | (refine goesD_s (by first | decide | exact Nat.le_of_ble_eq_true rfl) (by rfl) (qok_rop (by rfl)) ?_; refine sm ?_)
            | (refine goesD_off (by first | decide | exact Nat.le_of_ble_eq_true rfl) (by rfl) ?_; refine sm ?_)
            | (refine goesD_end (by rfl) ?_; refine sm ?_)
            | (refine goes_seq ?_)
          refine goesD_tells hTx (by decide) (by rfl) (by rfl) (by rfl) (by rfl) (by rfl) (by rfl) (by rfl) ?_
          refine sm ?_
          repeat' first
            | (refine goesD_q (y := .raw (.bool true)) (by first | decide | exact Nat.le_of_ble_eq_true rfl) (by rfl) (by rfl) ?_; refine sm ?_)
            | (refine goesD_q (y := .raw (.bool false)) (by first | decide | exact Nat.le_of_ble_eq_true rfl) (by rfl) (by rfl) ?_; refine sm ?_)
            | (refine goesD_b (by first | decide | exact Nat.le_of_ble_eq_true rfl) (by rfl) (by rfl) fun b hb => ?_; cases b <;> refine sm ?_)
            | (refine goesD_q (by first | decide | exact Nat.le_of_ble_eq_true rfl) (by rfl) (by rfl) ?_; refine sm ?_)
            | (refine goesD_s (by first | decide | exact Nat.le_of_ble_eq_true rfl) (by rfl) (qok_rop (by rfl)) ?_; refine sm ?_)
            | (refine goesD_off (by first | decide | exact Nat.le_of_ble_eq_true rfl) (by rfl) ?_; refine sm ?_)
            | (refine goesD_end (by rfl) ?_; refine sm ?_)
            | (refine goes_seq ?_)
          refine goesD_s (by decide) (by rfl) (qok_lenR (by rfl) (by rfl) (by rfl) (by rfl) (by rfl) (by rfl) (now_of (c := ⟨m1, 26, 5, 0, tmsC c⟩) rfl)) ?_
          refine sm ?_
          refine goesD_n 0 (by decide) (by rfl) (by rfl) (Nat.zero_le _) ?_
          refine sm ?_
          refine goesD_endT (by rfl) ?_
          have hlc : (tmsC c).length = (m1 + 1) * 5 := by rw [tmsC_length, hm1]
          have hset : setsA ((tmsC c).take ((m1 + 1) * 5) ++ [eInt 0, eInt 0, eInt 0, .raw (.slice none 0 0), .raw (.slice none 0 0)]) (0 + (m1 + 1) * 5) (AV.agg (tmC (.mk k2 n2 a2 lv2 kids2))).cells = tmsC (c ++ [.mk k2 n2 a2 lv2 kids2]) := by
            rw [hcx, List.take_of_length_le (by omega)]
            have := setsA_mid (tmsC c) [eInt 0, eInt 0, eInt 0, .raw (.slice none 0 0), .raw (.slice none 0 0)] [] (tmC (.mk k2 n2 a2 lv2 kids2)) (0 + (m1 + 1) * 5) (by omega) rfl
            rw [List.append_nil, List.append_nil] at this
            exact this
          refine ⟨(_, _), step_m (by rfl) (by rfl) (mop_append (len := m1 + 1) (n := 0) (bs := [eInt 0, eInt 0, eInt 0, .raw (.slice none 0 0), .raw (.slice none 0 0)]) (by rfl) (by rfl) (by rfl) (by rfl) (by rfl) (by rfl) (by rfl) (by rfl) (by rfl) (by decide) (by rfl) (by rfl) (by rfl) (now_of (c := ⟨m1, 26, 5, 0, tmsC c⟩) rfl) (by rfl) (by rfl) (Nat.zero_le _) (by unfold tops; omega) (by decide)), ?_, ?_, ?_⟩
          · repeat' first
              | exact True.intro
              | refine And.intro ?_ ?_
              | exact step_eq (s := (_, _)) (step_q (by rfl) (by rfl) (qop_indexR (n := m1 + 1) (sz := 5) (by rfl) (by rfl) (by rfl) (by rfl) (by rfl) (by rfl) (now_of (r := 22) (c := ⟨m1 + 1, 26, 5, 0, (tmsC c).take ((m1 + 1) * 5) ++ [eInt 0, eInt 0, eInt 0, .raw (.slice none 0 0), .raw (.slice none 0 0)]⟩) rfl) (by omega) rfl)) (by rfl)
              | exact step_eq (s := (_, _)) (step_m (by rfl) (by rfl) (mop_storeS (b := .agg (tmC (.mk k2 n2 a2 lv2 kids2))) 5 hset (by rfl) (by rfl) (by rfl) (by rfl) (now_of (r := 22) (c := ⟨m1 + 1, 26, 5, 0, (tmsC c).take ((m1 + 1) * 5) ++ [eInt 0, eInt 0, eInt 0, .raw (.slice none 0 0), .raw (.slice none 0 0)]⟩) rfl) (by rfl) (by simp; omega) (Nat.zero_le _) (by rfl))) (by rfl)
          · repeat' first
              | exact True.intro
              | refine And.intro ?_ ?_
              | exact step_eq (s := (_, _)) (step_q (by rfl) (by rfl) (by rfl)) (by rfl)
              | exact step_eq (s := (_, _)) (step_m (by rfl) (by rfl) (by rfl)) (by rfl)
          · simp only [rowsS, List.take_succ_cons, List.take_zero, List.nil_append, List.cons_append, List.foldl_cons, List.foldl_nil, Eff.run, List.length_cons, List.length_nil, go_sem, ↓reduceIte, reduceCtorEq]
            repeat' first
              | refine wk ?_
              | (refine goesL_b (by rfl) (by rfl) fun b hb => ?_; cases b <;> refine sm ?_)
            refine And.intro rfl ⟨_, rfl, ?_⟩
            refine (show GoesL _ _ _ _ _ _ from ?_)
            try refine sm ?_
            repeat' first
              | refine wk ?_
              | (refine goesL_b (by rfl) (by rfl) fun b hb => ?_; cases b <;> refine sm ?_)
            refine within_of (by repeat' first | exact True.intro | exact Of.raw _ | exact Of.emp | exact Of.ptr (has_nil (by rfl)) | exact Of.row (has_nil (by rfl)) | exact Of.yld (has_nil (by rfl)) | exact has_nil (by rfl) | assumption | exact Pure.of (by assumption) | exact Pure.of (pure_lvs _ _) | exact Pure.of (pure_tms _ _) | refine And.intro ?_ ?_ | exact ofC_pure (by assumption) | (refine Of.clo (fun _ ha => nomatch ha) (ofC_pure (by assumption))) | (refine Of.agg (OfC.all ?_)) | (refine Of.clo (fun _ ha => nomatch ha) (OfC.all ?_))) (by repeat' first | exact True.intro | refine And.intro ?_ ?_ | exact has_nil (by rfl)) (by first | exact True.intro | exact Of.raw _ | exact Of.ifc (Of.raw _)) (by repeat' first | exact True.intro | exact Of.raw _ | exact Of.emp | exact Of.ptr (has_nil (by rfl)) | exact Of.row (has_nil (by rfl)) | exact Of.yld (has_nil (by rfl)) | exact has_nil (by rfl) | assumption | exact Pure.of (by assumption) | exact Pure.of (pure_lvs _ _) | exact Pure.of (pure_tms _ _) | refine And.intro ?_ ?_ | exact ofC_pure (by assumption) | (refine Of.agg (OfC.all ?_)) | (refine Of.clo (fun _ ha => nomatch ha) (OfC.all ?_))) ?_
            refine ⟨N - (m1 + 1 + 1), by have := of_decide_eq_true hb; omega, .mk k3 n3 a3 lv3 kids3, c ++ [.mk k2 n2 a2 lv2 kids2], m1 + 1 + 1, rfl, by have := of_decide_eq_true hb; omega, ?_, by simp [hm1], huf.2.2.2.2.1, by omega, ?_, .inr ⟨m1 + 1, by simp [hm1], rfl⟩⟩
            · rw [ho, show N - (m1 + 1) = (N - (m1 + 1 + 1)) + 1 by have := of_decide_eq_true hb; omega, openT_go]
              cases openT (N - (m1 + 1 + 1)) (.mk k3 n3 a3 lv3 kids3) <;> simp
            · have e2 : IntKind.i64.wrap (((m1 + 1 : Nat) : Int) + 1) = ((m1 + 1 + 1 : Nat) : Int) := by
                rw [show (((m1 + 1 : Nat) : Int) + 1) = ((m1 + 1 + 1 : Nat) : Int) from rfl, wrap_nat (by omega)]
              rw [← e2]
              rfl
end Go.Proofs.YtaoglkkdhdfioaaGreatDoor
