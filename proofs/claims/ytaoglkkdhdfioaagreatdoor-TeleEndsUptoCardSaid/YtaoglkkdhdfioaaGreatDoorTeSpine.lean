/- tele.Spine. -/
import Derived.Test.YtaoglkkdhdfioaaGreatDoorEvWk
import Derived.Test.YtaoglkkdhdfioaaGreatDoorTeAbove
import Derived.Test.YtaoglkkdhdfioaaGreatDoorEvTw
import Derived.Test.YtaoglkkdhdfioaaGreatDoorTeRev
import Derived.KernelRfl
import Derived.Test.YtaoglkkdhdfioaaGreatDoorProg
namespace Go.Proofs.YtaoglkkdhdfioaaGreatDoor
open Go Go.Proofs
set_option maxRecDepth 100000
set_option maxHeartbeats 2000000
attribute [local go_sem] AH.seals AH.adds news List.nil_append List.cons_append AF.put AF.start Slots.set Slots.ins zipA AH.zero AH.new AH.put AH.sub ofV AV.cells List.length AF.keep AH.cut List.filter_cons List.filter_nil List.contains_cons List.contains_nil Nat.reduceBEq Bool.or_false Bool.or_true Bool.true_or Bool.false_or decide_true decide_false Bool.not_false Bool.and_true Bool.true_and Bool.and_self List.append_nil List.getElem_toArray List.getElem_cons_zero List.getElem_cons_succ Nat.reduceLT Nat.reduceAdd Nat.reduceSub Nat.reduceEqDiff andThen atEnd rounds Tryz.ntmps41 Tryz.ntmps13 Tryz.ntmps40 Tryz.ntmps74 givenA leftA AH.drop1 AH.drop AH.without List.foldl_cons List.foldl_nil List.zip_cons_cons List.zip_nil_left
/-- a term's head, and its arguments -/
def headT : Tm → Tm
  | .mk 6 _ _ _ [f, _] => headT f
  | t => t
def argsT : Tm → List Tm
  | .mk 6 _ _ _ [f, x] => argsT f ++ [x]
  | _ => []
theorem headT_app {n a : Int} {lv : List (List (Int × Int))} {x y : Tm} : headT (.mk 6 n a lv [x, y]) = headT x := by rw [headT]
theorem argsT_app {n a : Int} {lv : List (List (Int × Int))} {x y : Tm} : argsT (.mk 6 n a lv [x, y]) = argsT x ++ [y] := by rw [argsT]
theorem headT_no {t : Tm} (h : t.two 6 = false) : headT t = t := by
  unfold headT
  split
  · simp [Tm.two] at h
  · rfl
theorem argsT_no {t : Tm} (h : t.two 6 = false) : argsT t = [] := by
  unfold argsT
  split
  · simp [Tm.two] at h
  · rfl
def spineT (t : Tm) : Tm × List Tm := (headT t, argsT t)
theorem spineT_app {n a : Int} {lv : List (List (Int × Int))} {x y : Tm} : spineT (.mk 6 n a lv [x, y]) = ((spineT x).1, (spineT x).2 ++ [y]) := by unfold spineT; rw [headT_app, argsT_app]
theorem spineT_no {t : Tm} (h : t.two 6 = false) : spineT t = (t, []) := by unfold spineT; rw [headT_no h, argsT_no h]
theorem reverse_nil : Tells Tryz.prog (.func 41) [.raw (.slice none 0 0)] [] unitT := by
  refine tells_raw (fun b hb => ?_) (.tup pure_nil) ?_
  · simp at hb; subst hb; exact .raw _
  refine gives_enter Tryz.func41 rfl rfl ?_
  repeat' first
    | refine wk ?_
    | (refine goesL_b (by rfl) (by rfl) fun b hb => ?_; cases b <;> refine sm ?_)
  refine goes_loop (fun m f h => f = ⟨⟨28, [(0, .raw (.slice none 0 0)), (2, eInt 0), (3, eInt (-1)), (4, .raw (.slice none 0 0)), (5, eInt 0), (6, eInt (-1))]⟩, [], none⟩ ∧ h = ⟨0, [], []⟩) ?_ 0 _ _ ⟨rfl, rfl⟩
  rintro m f h ⟨rfl, rfl⟩
  repeat' first
    | refine wk ?_
    | (refine goesL_b (by rfl) (by rfl) fun b hb => ?_; cases b <;> refine sm ?_)
  exact ⟨rfl, _, rfl, rfl⟩
theorem spine_tells (t : Tm) (hs : t.size ≤ 1048576) (hf : t.fit) : Tells Tryz.prog (.func 13) [eTm t] [] (.tup [eTm (headT t), .vals 5 ((argsT t).map eTm)]) := by
  have hpt := pure_tmC t
  refine tells_of (fun b hb => ?_) (.tup fun a ha => ?_) ?_
  · simp at hb; subst hb; exact pure_tm t
  · simp at ha; rcases ha with rfl | rfl
    · exact pure_tm _
    · exact pure_tms 5 _
  rw [eTm_agg t]
  refine gives_enterM Tryz.func13 rfl rfl ?_
  obtain ⟨k, n, a, lv, kids⟩ := t
  repeat' first
    | refine wk ?_
    | (refine goesL_b (by rfl) (by rfl) fun b hb => ?_; cases b <;> refine sm ?_)
  refine goesL_call (by rfl) (by rfl) (by rfl) (by rfl) (by rfl) (gives_enter Tryz.func40 rfl rfl ?_)
  refine sm ?_
  repeat' first
    | refine wk ?_
    | (refine goesL_b (by rfl) (by rfl) fun b hb => ?_; cases b <;> refine sm ?_)
  refine ⟨rfl, _, rfl, ?_⟩
  refine sm ?_
  repeat' first
    | refine wk ?_
    | (refine goesL_b (by rfl) (by rfl) fun b hb => ?_; cases b <;> refine sm ?_)
  refine goes_keep [2, 3, 4, 5, 10] ?_
  refine goes_range (by rfl) Tryz.func74 rfl rfl rfl fun L0 hL0 => ?_
  simp only [go_sem, ↓reduceIte, reduceCtorEq] at hL0 ⊢
  refine gives_enter Tryz.func74 rfl rfl ?_
  refine sm ?_
  refine goes_block ?_
  refine goes_loop (fun m f h => ∃ (u : Tm) (c : List Tm), m = u.size ∧ u.fit ∧ c.length + u.size ≤ (Tm.mk k n a lv kids).size ∧ f.keep [0, 1] = ⟨⟨21, [(0, .yld 6), (1, .ptr 4 0 0)]⟩, [], none⟩ ∧
    spineT (.mk k n a lv kids) = ((spineT u).1, (spineT u).2 ++ c.reverse) ∧ ((c = [] ∧ u = .mk k n a lv kids ∧ h = ⟨7, [], [(6, .loop L0), (5, .mark), (4, .cells (tmBlk 1 (tmC u))), (3, .cells (tmBlk 1 (tmC u))), (2, .cells ⟨0, 22, 1, 0, [.raw (.slice none 0 0)]⟩), (1, .cells (tmBlk 1 [eInt 0, eInt 0, eInt 0, .raw (.slice none 0 0), .raw (.slice none 0 0)])), (0, .cells (tmBlk 1 (tmC (.mk k n a lv kids))))]⟩) ∨
    ∃ (m : Nat) (g19 g20 : Tm), c.length = m + 1 ∧ h = ⟨27, [], [(26, .cells ⟨m, 26, 5, 0, tmsC c⟩), (20, .cells (tmBlk 1 (tmC g20))), (19, .cells (tmBlk 1 (tmC g19))), (6, .loop L0), (5, .mark), (4, .cells (tmBlk 1 (tmC u))), (3, .cells (tmBlk 1 (tmC u))), (2, .cells ⟨0, 22, 1, 0, [.row 26 m 0 (m + 1)]⟩), (1, .cells (tmBlk 1 [eInt 0, eInt 0, eInt 0, .raw (.slice none 0 0), .raw (.slice none 0 0)])), (0, .cells (tmBlk 1 (tmC (.mk k n a lv kids)))), (25, .cells (tmBlk 5 [eInt 0, eInt 0, eInt 0, .raw (.slice none 0 0), .raw (.slice none 0 0)]))]⟩)) ?_ (Tm.mk k n a lv kids).size _ _ ⟨_, [], rfl, hf, by simp, rfl, by simp, .inl ⟨rfl, rfl, rfl⟩⟩
  rintro m f h ⟨u, c, rfl, huf, hus, hkf, hsp, ⟨rfl, hu, rfl⟩ | ⟨m, g19, g20, hc, rfl⟩⟩
  · refine goes_keep [0, 1] ?_
    rw [hkf]
    have hW := two_tells u 6
    cases e : u.two 6 with
    | false =>
      rw [e, eTm_agg u] at hW
      have hTu := tcopied_tells u (by omega) huf
      rw [spineT_no e] at hsp
      have hh : headT (.mk k n a lv kids) = u ∧ argsT (.mk k n a lv kids) = [] := by
        have h1 := congrArg Prod.fst hsp
        have h2 := congrArg Prod.snd hsp
        exact ⟨h1, h2⟩
      rw [hh.1, hh.2]
      rw [eTm_agg u] at hTu ⊢
      have hpu := pure_tmC u
      obtain ⟨k1, n1, a1, lv1, kids1⟩ := u
      repeat' first
        | refine wk ?_
        | (refine goesL_b (by rfl) (by rfl) fun b hb => ?_; cases b <;> refine sm ?_)
      refine goes_draw 12 [] (by rfl) (by kernel_rfl) ?_
      refine sm ?_
      repeat' first
        | (refine goesD_q (y := .raw (.bool true)) (by first | decide | exact Nat.le_of_ble_eq_true rfl) (by rfl) (by rfl) ?_; refine sm ?_)
        | (refine goesD_q (y := .raw (.bool false)) (by first | decide | exact Nat.le_of_ble_eq_true rfl) (by rfl) (by rfl) ?_; refine sm ?_)
        | (refine goesD_b (by first | decide | exact Nat.le_of_ble_eq_true rfl) (by rfl) (by rfl) fun b hb => ?_; cases b <;> refine sm ?_)
        | (refine goesD_q (by first | decide | exact Nat.le_of_ble_eq_true rfl) (by rfl) (by rfl) ?_; refine sm ?_)
        | (refine goesD_s (by first | decide | exact Nat.le_of_ble_eq_true rfl) (by rfl) (qok_rop (by rfl)) ?_; refine sm ?_)
        | (refine goesD_off (by first | decide | exact Nat.le_of_ble_eq_true rfl) (by rfl) ?_; refine sm ?_)
        | (refine goesD_end (by rfl) ?_; refine sm ?_)
        | (refine goes_seq ?_)
      refine goesD_tells hW (by decide) (by rfl) (by rfl) (by rfl) (by rfl) (by rfl) (by rfl) (by rfl) ?_
      refine sm ?_
      repeat' first
        | (refine goesD_q (y := .raw (.bool true)) (by first | decide | exact Nat.le_of_ble_eq_true rfl) (by rfl) (by rfl) ?_; refine sm ?_)
        | (refine goesD_q (y := .raw (.bool false)) (by first | decide | exact Nat.le_of_ble_eq_true rfl) (by rfl) (by rfl) ?_; refine sm ?_)
        | (refine goesD_b (by first | decide | exact Nat.le_of_ble_eq_true rfl) (by rfl) (by rfl) fun b hb => ?_; cases b <;> refine sm ?_)
        | (refine goesD_q (by first | decide | exact Nat.le_of_ble_eq_true rfl) (by rfl) (by rfl) ?_; refine sm ?_)
        | (refine goesD_s (by first | decide | exact Nat.le_of_ble_eq_true rfl) (by rfl) (qok_rop (by rfl)) ?_; refine sm ?_)
        | (refine goesD_off (by first | decide | exact Nat.le_of_ble_eq_true rfl) (by rfl) ?_; refine sm ?_)
        | (refine goesD_end (by rfl) ?_; refine sm ?_)
        | (refine goes_seq ?_)
      repeat' first
        | refine wk ?_
        | (refine goesL_b (by rfl) (by rfl) fun b hb => ?_; cases b <;> refine sm ?_)
      refine ⟨rfl, _, rfl, _, L0, rfl, rfl, by rw [hL0]; simp, ?_⟩
      rw [show L0.pending = none by rw [hL0]]
      show Goes _ _ _ _ _
      refine sm ?_
      repeat' first
        | refine wk ?_
        | (refine goesL_b (by rfl) (by rfl) fun b hb => ?_; cases b <;> refine sm ?_)
      refine goesL_tells reverse_nil (by rfl) (by rfl) (by rfl) (by rfl) (by rfl) (by rfl) ?_
      refine sm ?_
      repeat' first
        | refine wk ?_
        | (refine goesL_b (by rfl) (by rfl) fun b hb => ?_; cases b <;> refine sm ?_)
      refine goes_free [.val (some 23) (.agg (tmC (.mk k1 n1 a1 lv1 kids1))), .val (some 24) (.agg (tmC (.mk k1 n1 a1 lv1 kids1))), .val (some 25) (.raw (.slice none 0 0)), .put 1 (.cells (tmBlk 1 (tmC (.mk k1 n1 a1 lv1 kids1)))), .val (some 3) (.raw (.slice none 0 0))] [0, 1, 2, 3, 4] (by rfl) (by kernel_rfl) ?_ ?_
      · repeat' first
          | exact True.intro
          | exact step_eq (s := (_, _)) (step_q (by rfl) (by rfl) (by rfl)) (by rfl)
          | exact step_eq (s := (_, _)) (step_m (by rfl) (by rfl) (by rfl)) (by rfl)
          | exact step_eq (s := (_, _)) (step_tells hTu (by rfl) (by rfl) (by rfl) (by rfl) (by rfl) (by rfl) (by rfl)) (by rfl)
          | refine And.intro ?_ ?_
          | exact rfl
          | kernel_rfl
      simp only [freeS, List.foldl_cons, List.foldl_nil, List.getElem?_cons_zero, List.getElem?_cons_succ, Eff.run, go_sem, ↓reduceIte, reduceCtorEq]
      repeat' first
        | refine wk ?_
        | (refine goesL_b (by rfl) (by rfl) fun b hb => ?_; cases b <;> refine sm ?_)
      refine ⟨fun m hm => Nat.zero_le _, no_loop rfl, _, rfl, ?_⟩
      refine ⟨_, [], _, rfl, .tup (.pure (.agg hpu) (.none .nil)) .nil, fun p hp => nomatch hp⟩
    | true =>
      rw [e, eTm_agg u] at hW
      obtain ⟨k1, n1, a1, lv1, kids1⟩ := u
      obtain ⟨rfl, x, y, rfl⟩ := Tm.two_iff.1 e
      rw [tmC_two] at hW ⊢
      rw [Tm.fit_mk, Tm.fitL, Tm.fitL] at huf
      rw [Tm.size_mk 6, Tm.sizeL, Tm.sizeL, Tm.sizeL] at hus
      have hTy := tcopied_tells y (by omega) huf.2.2.2.2.1
      rw [eTm_agg y] at hTy
      have hpx := pure_tmC x
      have hpy := pure_tmC y
      obtain ⟨k2, n2, a2, lv2, kids2⟩ := x
      obtain ⟨k3, n3, a3, lv3, kids3⟩ := y
      repeat' first
        | refine wk ?_
        | (refine goesL_b (by rfl) (by rfl) fun b hb => ?_; cases b <;> refine sm ?_)
      refine goes_draw 12 [] (by rfl) (by kernel_rfl) ?_
      refine sm ?_
      repeat' first
        | (refine goesD_q (y := .raw (.bool true)) (by first | decide | exact Nat.le_of_ble_eq_true rfl) (by rfl) (by rfl) ?_; refine sm ?_)
        | (refine goesD_q (y := .raw (.bool false)) (by first | decide | exact Nat.le_of_ble_eq_true rfl) (by rfl) (by rfl) ?_; refine sm ?_)
        | (refine goesD_b (by first | decide | exact Nat.le_of_ble_eq_true rfl) (by rfl) (by rfl) fun b hb => ?_; cases b <;> refine sm ?_)
        | (refine goesD_q (by first | decide | exact Nat.le_of_ble_eq_true rfl) (by rfl) (by rfl) ?_; refine sm ?_)
        | (refine goesD_s (by first | decide | exact Nat.le_of_ble_eq_true rfl) (by rfl) (qok_rop (by rfl)) ?_; refine sm ?_)
        | (refine goesD_off (by first | decide | exact Nat.le_of_ble_eq_true rfl) (by rfl) ?_; refine sm ?_)
        | (refine goesD_end (by rfl) ?_; refine sm ?_)
        | (refine goes_seq ?_)
      refine goesD_tells hW (by decide) (by rfl) (by rfl) (by rfl) (by rfl) (by rfl) (by rfl) (by rfl) ?_
      refine sm ?_
      repeat' first
        | (refine goesD_q (y := .raw (.bool true)) (by first | decide | exact Nat.le_of_ble_eq_true rfl) (by rfl) (by rfl) ?_; refine sm ?_)
        | (refine goesD_q (y := .raw (.bool false)) (by first | decide | exact Nat.le_of_ble_eq_true rfl) (by rfl) (by rfl) ?_; refine sm ?_)
        | (refine goesD_b (by first | decide | exact Nat.le_of_ble_eq_true rfl) (by rfl) (by rfl) fun b hb => ?_; cases b <;> refine sm ?_)
        | (refine goesD_q (by first | decide | exact Nat.le_of_ble_eq_true rfl) (by rfl) (by rfl) ?_; refine sm ?_)
        | (refine goesD_s (by first | decide | exact Nat.le_of_ble_eq_true rfl) (by rfl) (qok_rop (by rfl)) ?_; refine sm ?_)
        | (refine goesD_off (by first | decide | exact Nat.le_of_ble_eq_true rfl) (by rfl) ?_; refine sm ?_)
        | (refine goesD_end (by rfl) ?_; refine sm ?_)
        | (refine goes_seq ?_)
      refine goesL_yield (by rfl) (by rfl) (by rfl) (by rfl) (by rfl) ?_
      refine gives_yld (L := L0) (by rfl) (by rw [hL0]) (by rw [hL0]; rfl) ?_
      subst hL0
      refine sm ?_
      repeat' first
        | refine wk ?_
        | (refine goesL_b (by rfl) (by rfl) fun b hb => ?_; cases b <;> refine sm ?_)
      refine ⟨by first | rfl | trivial, by first | rfl | trivial, ?_⟩
      repeat' first
        | refine wk ?_
        | (refine goesL_b (by rfl) (by rfl) fun b hb => ?_; cases b <;> refine sm ?_)
      refine goes_drawT 5 [] [.val (some 20) (.ptr 26 0 0), .put 26 (.cells (tmBlk 5 (tmC (.mk k3 n3 a3 lv3 kids3))))] [.put 2 (.cells ⟨0, 22, 1, 0, [.row 26 0 0 1]⟩)] (by rfl) (by kernel_rfl) (by kernel_rfl) (by rfl) ?_
      refine sm ?_
      repeat' first
        | (refine goesD_q (y := .raw (.bool true)) (by first | decide | exact Nat.le_of_ble_eq_true rfl) (by rfl) (by rfl) ?_; refine sm ?_)
        | (refine goesD_q (y := .raw (.bool false)) (by first | decide | exact Nat.le_of_ble_eq_true rfl) (by rfl) (by rfl) ?_; refine sm ?_)
        | (refine goesD_b (by first | decide | exact Nat.le_of_ble_eq_true rfl) (by rfl) (by rfl) fun b hb => ?_; cases b <;> refine sm ?_)
        | (refine goesD_q (by first | decide | exact Nat.le_of_ble_eq_true rfl) (by rfl) (by rfl) ?_; refine sm ?_)
        | (refine goesD_s (by first | decide | exact Nat.le_of_ble_eq_true rfl) (by rfl) (qok_rop (by rfl)) ?_; refine sm ?_)
        | (refine goesD_off (by first | decide | exact Nat.le_of_ble_eq_true rfl) (by rfl) ?_; refine sm ?_)
        | (refine goesD_end (by rfl) ?_; refine sm ?_)
        | (refine goes_seq ?_)
      refine goesD_tells hTy (by decide) (by rfl) (by rfl) (by rfl) (by rfl) (by rfl) (by rfl) (by rfl) ?_
      refine sm ?_
      repeat' first
        | (refine goesD_q (y := .raw (.bool true)) (by first | decide | exact Nat.le_of_ble_eq_true rfl) (by rfl) (by rfl) ?_; refine sm ?_)
        | (refine goesD_q (y := .raw (.bool false)) (by first | decide | exact Nat.le_of_ble_eq_true rfl) (by rfl) (by rfl) ?_; refine sm ?_)
        | (refine goesD_b (by first | decide | exact Nat.le_of_ble_eq_true rfl) (by rfl) (by rfl) fun b hb => ?_; cases b <;> refine sm ?_)
        | (refine goesD_q (by first | decide | exact Nat.le_of_ble_eq_true rfl) (by rfl) (by rfl) ?_; refine sm ?_)
        | (refine goesD_s (by first | decide | exact Nat.le_of_ble_eq_true rfl) (by rfl) (qok_rop (by rfl)) ?_; refine sm ?_)
        | (refine goesD_off (by first | decide | exact Nat.le_of_ble_eq_true rfl) (by rfl) ?_; refine sm ?_)
        | (refine goesD_end (by rfl) ?_; refine sm ?_)
        | (refine goes_seq ?_)
      refine goesD_n 0 (by decide) (by rfl) (by rfl) (Nat.zero_le _) ?_
      refine sm ?_
      refine goesD_endT (by rfl) ?_
      refine ⟨(_, _), step_n (by rfl) (by rfl) (by rfl), ?_, ?_, ?_⟩
      · repeat' first
          | exact True.intro
          | refine And.intro ?_ ?_
          | exact step_eq (s := (_, _)) (step_q (by rfl) (by rfl) (by rfl)) (by rfl)
          | exact step_eq (s := (_, _)) (step_m (by rfl) (by rfl) (by rfl)) (by rfl)
      · repeat' first
          | exact True.intro
          | refine And.intro ?_ ?_
          | exact step_eq (s := (_, _)) (step_q (by rfl) (by rfl) (by rfl)) (by rfl)
          | exact step_eq (s := (_, _)) (step_m (by rfl) (by rfl) (by rfl)) (by rfl)
      · refine ⟨_, true, .ready, none, rfl, rfl, ?_⟩
        refine sm ?_
        repeat' first
          | refine wk ?_
          | (refine goesL_b (by rfl) (by rfl) fun b hb => ?_; cases b <;> refine sm ?_)
        refine ⟨(Tm.mk k2 n2 a2 lv2 kids2).size, by rw [Tm.size_mk 6, Tm.sizeL, Tm.sizeL, Tm.sizeL]; omega, .mk k2 n2 a2 lv2 kids2, [.mk k3 n3 a3 lv3 kids3], rfl, huf.2.2.2.1, by simp only [List.length_cons, List.length_nil] at hus ⊢; omega, by first | rfl | trivial, ?_, .inr ⟨0, .mk k2 n2 a2 lv2 kids2, .mk k3 n3 a3 lv3 kids3, rfl, ?_⟩⟩
        · rw [hsp, spineT_app]
          simp
        · rw [show tmsC [Tm.mk k3 n3 a3 lv3 kids3] = tmC (.mk k3 n3 a3 lv3 kids3) by rw [tmsC_cons, tmsC_nil, List.append_nil]]
          rfl
  · refine goes_keep [0, 1] ?_
    rw [hkf]
    refine goes_scope [0, 1] ?_
    have hW := two_tells u 6
    have hpt0 := pure_tmC (.mk k n a lv kids)
    have hpc := pure_tmsC c
    have hp19 := pure_tmC g19
    have hp20 := pure_tmC g20
    cases e : u.two 6 with
    | false =>
      rw [e, eTm_agg u] at hW
      have hTu := tcopied_tells u (by omega) huf
      rw [spineT_no e] at hsp
      have hh : headT (.mk k n a lv kids) = u ∧ argsT (.mk k n a lv kids) = c.reverse := by
        have h1 := congrArg Prod.fst hsp
        have h2 := congrArg Prod.snd hsp
        exact ⟨h1, h2⟩
      have hus1 : 1 ≤ u.size := by obtain ⟨_, _, _, _, _⟩ := u; rw [Tm.size_mk]; omega
      rw [hh.1, hh.2]
      rw [eTm_agg u] at hTu ⊢
      have hpu := pure_tmC u
      obtain ⟨k1, n1, a1, lv1, kids1⟩ := u
      repeat' first
        | refine wk ?_
        | (refine goesL_b (by rfl) (by rfl) fun b hb => ?_; cases b <;> refine sm ?_)
      refine goes_draw 12 [] (by rfl) (by kernel_rfl) ?_
      refine sm ?_
      repeat' first
        | (refine goesD_q (y := .raw (.bool true)) (by first | decide | exact Nat.le_of_ble_eq_true rfl) (by rfl) (by rfl) ?_; refine sm ?_)
        | (refine goesD_q (y := .raw (.bool false)) (by first | decide | exact Nat.le_of_ble_eq_true rfl) (by rfl) (by rfl) ?_; refine sm ?_)
        | (refine goesD_b (by first | decide | exact Nat.le_of_ble_eq_true rfl) (by rfl) (by rfl) fun b hb => ?_; cases b <;> refine sm ?_)
        | (refine goesD_q (by first | decide | exact Nat.le_of_ble_eq_true rfl) (by rfl) (by rfl) ?_; refine sm ?_)
        | (refine goesD_s (by first | decide | exact Nat.le_of_ble_eq_true rfl) (by rfl) (qok_rop (by rfl)) ?_; refine sm ?_)
        | (refine goesD_off (by first | decide | exact Nat.le_of_ble_eq_true rfl) (by rfl) ?_; refine sm ?_)
        | (refine goesD_end (by rfl) ?_; refine sm ?_)
        | (refine goes_seq ?_)
      refine goesD_tells hW (by decide) (by rfl) (by rfl) (by rfl) (by rfl) (by rfl) (by rfl) (by rfl) ?_
      refine sm ?_
      repeat' first
        | (refine goesD_q (y := .raw (.bool true)) (by first | decide | exact Nat.le_of_ble_eq_true rfl) (by rfl) (by rfl) ?_; refine sm ?_)
        | (refine goesD_q (y := .raw (.bool false)) (by first | decide | exact Nat.le_of_ble_eq_true rfl) (by rfl) (by rfl) ?_; refine sm ?_)
        | (refine goesD_b (by first | decide | exact Nat.le_of_ble_eq_true rfl) (by rfl) (by rfl) fun b hb => ?_; cases b <;> refine sm ?_)
        | (refine goesD_q (by first | decide | exact Nat.le_of_ble_eq_true rfl) (by rfl) (by rfl) ?_; refine sm ?_)
        | (refine goesD_s (by first | decide | exact Nat.le_of_ble_eq_true rfl) (by rfl) (qok_rop (by rfl)) ?_; refine sm ?_)
        | (refine goesD_off (by first | decide | exact Nat.le_of_ble_eq_true rfl) (by rfl) ?_; refine sm ?_)
        | (refine goesD_end (by rfl) ?_; refine sm ?_)
        | (refine goes_seq ?_)
      repeat' first
        | refine wk ?_
        | (refine goesL_b (by rfl) (by rfl) fun b hb => ?_; cases b <;> refine sm ?_)
      subst hL0
      refine within_of (by repeat' first | exact True.intro | exact Of.raw _ | exact Of.emp | exact Of.ptr (has_nil (by rfl)) | exact Of.row (has_nil (by rfl)) | exact Of.yld (has_nil (by rfl)) | exact has_nil (by rfl) | assumption | exact Pure.of (by assumption) | exact Pure.of (pure_lvs _ _) | exact Pure.of (pure_tms _ _) | refine And.intro ?_ ?_ | exact ofC_pure (by assumption) | (refine Of.clo (fun _ ha => nomatch ha) (ofC_pure (by assumption))) | (refine Of.agg (OfC.all ?_)) | (refine Of.clo (fun _ ha => nomatch ha) (OfC.all ?_))) (by repeat' first | exact True.intro | refine And.intro ?_ ?_ | exact has_nil (by rfl)) (by first | exact True.intro | exact Of.raw _ | exact Of.ifc (Of.raw _)) (by repeat' first | exact True.intro | exact Of.raw _ | exact Of.emp | exact Of.ptr (has_nil (by rfl)) | exact Of.row (has_nil (by rfl)) | exact Of.yld (has_nil (by rfl)) | exact has_nil (by rfl) | assumption | exact Pure.of (by assumption) | exact Pure.of (pure_lvs _ _) | exact Pure.of (pure_tms _ _) | refine And.intro ?_ ?_ | exact ofC_pure (by assumption) | (refine Of.agg (OfC.all ?_)) | (refine Of.clo (fun _ ha => nomatch ha) (OfC.all ?_))) ?_
      refine ⟨rfl, _, rfl, _, _, rfl, rfl, by simp, ?_⟩
      show Goes _ _ _ _ _
      refine sm ?_
      repeat' first
        | refine wk ?_
        | (refine goesL_b (by rfl) (by rfl) fun b hb => ?_; cases b <;> refine sm ?_)
      refine goesL_call (by rfl) (by rfl) (by rfl) (by rfl) (by rfl) (gives_reverse (k := m) (c := c) rfl hc (Nat.succ_pos _) (by omega) ?_)
      refine sm ?_
      repeat' first
        | refine wk ?_
        | (refine goesL_b (by rfl) (by rfl) fun b hb => ?_; cases b <;> refine sm ?_)
      refine goes_free [.val (some 23) (.agg (tmC (.mk k1 n1 a1 lv1 kids1))), .val (some 24) (.agg (tmC (.mk k1 n1 a1 lv1 kids1))), .val (some 25) (.row 26 m 0 (m + 1)), .put 1 (.cells (tmBlk 1 (tmC (.mk k1 n1 a1 lv1 kids1)))), .val (some 3) (.row 26 m 0 (m + 1))] [0, 1, 2, 3, 4] (by rfl) (by kernel_rfl) ?_ ?_
      · repeat' first
          | exact True.intro
          | exact step_eq (s := (_, _)) (step_q (by rfl) (by rfl) (by rfl)) (by rfl)
          | exact step_eq (s := (_, _)) (step_m (by rfl) (by rfl) (by rfl)) (by rfl)
          | exact step_eq (s := (_, _)) (step_tells hTu (by rfl) (by rfl) (by rfl) (by rfl) (by rfl) (by rfl) (by rfl)) (by rfl)
          | refine And.intro ?_ ?_
          | exact rfl
          | kernel_rfl
      simp only [freeS, List.foldl_cons, List.foldl_nil, List.getElem?_cons_zero, List.getElem?_cons_succ, Eff.run, go_sem, ↓reduceIte, reduceCtorEq]
      repeat' first
        | refine wk ?_
        | (refine goesL_b (by rfl) (by rfl) fun b hb => ?_; cases b <;> refine sm ?_)
      have hz2 : ∀ e ∈ c.reverse.map eTm, e.cells.length = 5 := fun e he => by
        obtain ⟨t, _, rfl⟩ := List.mem_map.1 he
        rw [tmC_eq, tmC_length]
      have hp2 : ∀ e ∈ c.reverse.map eTm, Pure e := fun e he => by
        obtain ⟨t, _, rfl⟩ := List.mem_map.1 he
        exact pure_tm t
      refine ⟨fun m hm => Nat.zero_le _, no_loop rfl, _, rfl, ?_⟩
      exact ⟨_, [(26, (m + 1) * 5)], [(26, 0 + (m + 1) * 5)], rfl, .tup (j := [(26, 0 + (m + 1) * 5)]) (l := []) (.pure (.agg hpu) (snap_own (c := ⟨m, 26, 5, 0, tmsC c.reverse⟩) (es := c.reverse.map eTm) (n := m + 1) rfl rfl hz2 hp2 (by simp [hc])).1) .nil, (snap_own (c := ⟨m, 26, 5, 0, tmsC c.reverse⟩) (es := c.reverse.map eTm) (n := m + 1) rfl rfl hz2 hp2 (by simp [hc])).2⟩
    | true =>
      rw [e, eTm_agg u] at hW
      obtain ⟨k1, n1, a1, lv1, kids1⟩ := u
      obtain ⟨rfl, x, y, rfl⟩ := Tm.two_iff.1 e
      rw [tmC_two] at hW ⊢
      rw [Tm.fit_mk, Tm.fitL, Tm.fitL] at huf
      rw [Tm.size_mk 6, Tm.sizeL, Tm.sizeL, Tm.sizeL] at hus
      have hTy := tcopied_tells y (by omega) huf.2.2.2.2.1
      rw [eTm_agg y] at hTy
      have hpx := pure_tmC x
      have hpy := pure_tmC y
      have hcy : tmsC (c ++ [y]) = tmsC c ++ tmC y := by rw [tmsC_append, tmsC_cons, tmsC_nil, List.append_nil]
      obtain ⟨k2, n2, a2, lv2, kids2⟩ := x
      obtain ⟨k3, n3, a3, lv3, kids3⟩ := y
      have hlc : (tmsC c).length = (m + 1) * 5 := by rw [tmsC_length, hc]
      have hcm : m + 1 + 1 ≤ 1048576 := by omega
      have hpcy := pure_tmsC (c ++ [.mk k3 n3 a3 lv3 kids3])
      repeat' first
        | refine wk ?_
        | (refine goesL_b (by rfl) (by rfl) fun b hb => ?_; cases b <;> refine sm ?_)
      refine goes_draw 12 [] (by rfl) (by kernel_rfl) ?_
      refine sm ?_
      repeat' first
        | (refine goesD_q (y := .raw (.bool true)) (by first | decide | exact Nat.le_of_ble_eq_true rfl) (by rfl) (by rfl) ?_; refine sm ?_)
        | (refine goesD_q (y := .raw (.bool false)) (by first | decide | exact Nat.le_of_ble_eq_true rfl) (by rfl) (by rfl) ?_; refine sm ?_)
        | (refine goesD_b (by first | decide | exact Nat.le_of_ble_eq_true rfl) (by rfl) (by rfl) fun b hb => ?_; cases b <;> refine sm ?_)
        | (refine goesD_q (by first | decide | exact Nat.le_of_ble_eq_true rfl) (by rfl) (by rfl) ?_; refine sm ?_)
        | (refine goesD_s (by first | decide | exact Nat.le_of_ble_eq_true rfl) (by rfl) (qok_rop (by rfl)) ?_; refine sm ?_)
        | (refine goesD_off (by first | decide | exact Nat.le_of_ble_eq_true rfl) (by rfl) ?_; refine sm ?_)
        | (refine goesD_end (by rfl) ?_; refine sm ?_)
        | (refine goes_seq ?_)
      refine goesD_tells hW (by decide) (by rfl) (by rfl) (by rfl) (by rfl) (by rfl) (by rfl) (by rfl) ?_
      refine sm ?_
      repeat' first
        | (refine goesD_q (y := .raw (.bool true)) (by first | decide | exact Nat.le_of_ble_eq_true rfl) (by rfl) (by rfl) ?_; refine sm ?_)
        | (refine goesD_q (y := .raw (.bool false)) (by first | decide | exact Nat.le_of_ble_eq_true rfl) (by rfl) (by rfl) ?_; refine sm ?_)
        | (refine goesD_b (by first | decide | exact Nat.le_of_ble_eq_true rfl) (by rfl) (by rfl) fun b hb => ?_; cases b <;> refine sm ?_)
        | (refine goesD_q (by first | decide | exact Nat.le_of_ble_eq_true rfl) (by rfl) (by rfl) ?_; refine sm ?_)
        | (refine goesD_s (by first | decide | exact Nat.le_of_ble_eq_true rfl) (by rfl) (qok_rop (by rfl)) ?_; refine sm ?_)
        | (refine goesD_off (by first | decide | exact Nat.le_of_ble_eq_true rfl) (by rfl) ?_; refine sm ?_)
        | (refine goesD_end (by rfl) ?_; refine sm ?_)
        | (refine goes_seq ?_)
      refine goesL_yield (by rfl) (by rfl) (by rfl) (by rfl) (by rfl) ?_
      refine gives_yld (L := L0) (by rfl) (by rw [hL0]) (by rw [hL0]; rfl) ?_
      subst hL0
      refine sm ?_
      repeat' first
        | refine wk ?_
        | (refine goesL_b (by rfl) (by rfl) fun b hb => ?_; cases b <;> refine sm ?_)
      refine ⟨by first | rfl | trivial, by first | rfl | trivial, ?_⟩
      repeat' first
        | refine wk ?_
        | (refine goesL_b (by rfl) (by rfl) fun b hb => ?_; cases b <;> refine sm ?_)
      refine goes_drawT 5 [] [.val (some 20) (.ptr 26 (m + 1) (0 + (m + 1) * 5)), .put 26 (.cells ⟨m + 1, 26, 5, 0, tmsC (c ++ [.mk k3 n3 a3 lv3 kids3])⟩)] [.put 2 (.cells ⟨0, 22, 1, 0, [.row 26 (m + 1) 0 (m + 1 + 1)]⟩)] (by rfl) (by kernel_rfl) (by kernel_rfl) (by rfl) ?_
      refine sm ?_
      repeat' first
        | (refine goesD_q (y := .raw (.bool true)) (by first | decide | exact Nat.le_of_ble_eq_true rfl) (by rfl) (by rfl) ?_; refine sm ?_)
        | (refine goesD_q (y := .raw (.bool false)) (by first | decide | exact Nat.le_of_ble_eq_true rfl) (by rfl) (by rfl) ?_; refine sm ?_)
        | (refine goesD_b (by first | decide | exact Nat.le_of_ble_eq_true rfl) (by rfl) (by rfl) fun b hb => ?_; cases b <;> refine sm ?_)
        | (refine goesD_q (by first | decide | exact Nat.le_of_ble_eq_true rfl) (by rfl) (by rfl) ?_; refine sm ?_)
        | (refine goesD_s (by first | decide | exact Nat.le_of_ble_eq_true rfl) (by rfl) (qok_rop (by rfl)) ?_; refine sm ?_)
        | (refine goesD_off (by first | decide | exact Nat.le_of_ble_eq_true rfl) (by rfl) ?_; refine sm ?_)
        | (refine goesD_end (by rfl) ?_; refine sm ?_)
        | (refine goes_seq ?_)
      refine goesD_tells hTy (by decide) (by rfl) (by rfl) (by rfl) (by rfl) (by rfl) (by rfl) (by rfl) ?_
      refine sm ?_
      repeat' first
        | (refine goesD_q (y := .raw (.bool true)) (by first | decide | exact Nat.le_of_ble_eq_true rfl) (by rfl) (by rfl) ?_; refine sm ?_)
        | (refine goesD_q (y := .raw (.bool false)) (by first | decide | exact Nat.le_of_ble_eq_true rfl) (by rfl) (by rfl) ?_; refine sm ?_)
        | (refine goesD_b (by first | decide | exact Nat.le_of_ble_eq_true rfl) (by rfl) (by rfl) fun b hb => ?_; cases b <;> refine sm ?_)
        | (refine goesD_q (by first | decide | exact Nat.le_of_ble_eq_true rfl) (by rfl) (by rfl) ?_; refine sm ?_)
        | (refine goesD_s (by first | decide | exact Nat.le_of_ble_eq_true rfl) (by rfl) (qok_rop (by rfl)) ?_; refine sm ?_)
        | (refine goesD_off (by first | decide | exact Nat.le_of_ble_eq_true rfl) (by rfl) ?_; refine sm ?_)
        | (refine goesD_end (by rfl) ?_; refine sm ?_)
        | (refine goes_seq ?_)
      refine goesD_s (by decide) (by rfl) (qok_lenR (by rfl) (by rfl) (by rfl) (by rfl) (by rfl) (by rfl) (now_of (c := ⟨m, 26, 5, 0, tmsC c⟩) rfl)) ?_
      refine sm ?_
      refine goesD_n 0 (by decide) (by rfl) (by rfl) (Nat.zero_le _) ?_
      refine sm ?_
      refine goesD_endT (by rfl) ?_
      have hset : setsA ((tmsC c).take ((m + 1) * 5) ++ [eInt 0, eInt 0, eInt 0, .raw (.slice none 0 0), .raw (.slice none 0 0)]) (0 + (m + 1) * 5) (AV.agg (tmC (.mk k3 n3 a3 lv3 kids3))).cells = tmsC (c ++ [.mk k3 n3 a3 lv3 kids3]) := by
        rw [hcy, List.take_of_length_le (by omega)]
        have := setsA_mid (tmsC c) [eInt 0, eInt 0, eInt 0, .raw (.slice none 0 0), .raw (.slice none 0 0)] [] (tmC (.mk k3 n3 a3 lv3 kids3)) (0 + (m + 1) * 5) (by omega) rfl
        rw [List.append_nil, List.append_nil] at this
        exact this
      refine ⟨(_, _), step_m (by rfl) (by rfl) (mop_append (len := m + 1) (n := 0) (bs := [eInt 0, eInt 0, eInt 0, .raw (.slice none 0 0), .raw (.slice none 0 0)]) (by rfl) (by rfl) (by rfl) (by rfl) (by rfl) (by rfl) (by rfl) (by rfl) (by rfl) (by decide) (by rfl) (by rfl) (by rfl) (now_of (c := ⟨m, 26, 5, 0, tmsC c⟩) rfl) (by rfl) (by rfl) (Nat.zero_le _) (by unfold tops; omega) (by decide)), ?_, ?_, ?_⟩
      · repeat' first
          | exact True.intro
          | refine And.intro ?_ ?_
          | exact step_eq (s := (_, _)) (step_q (by rfl) (by rfl) (qop_indexR (n := m + 1) (sz := 5) (by rfl) (by rfl) (by rfl) (by rfl) (by rfl) (by rfl) (now_of (r := 26) (c := ⟨m + 1, 26, 5, 0, (tmsC c).take ((m + 1) * 5) ++ [eInt 0, eInt 0, eInt 0, .raw (.slice none 0 0), .raw (.slice none 0 0)]⟩) rfl) (by omega) rfl)) (by rfl)
          | exact step_eq (s := (_, _)) (step_m (by rfl) (by rfl) (mop_storeS (b := .agg (tmC (.mk k3 n3 a3 lv3 kids3))) 5 hset (by rfl) (by rfl) (by rfl) (by rfl) (now_of (r := 26) (c := ⟨m + 1, 26, 5, 0, (tmsC c).take ((m + 1) * 5) ++ [eInt 0, eInt 0, eInt 0, .raw (.slice none 0 0), .raw (.slice none 0 0)]⟩) rfl) (by rfl) (by simp; omega) (Nat.zero_le _) (by rfl))) (by rfl)
      · repeat' first
          | exact True.intro
          | refine And.intro ?_ ?_
          | exact step_eq (s := (_, _)) (step_m (by rfl) (by rfl) (by rfl)) (by rfl)
      · refine ⟨_, true, .ready, none, rfl, rfl, ?_⟩
        refine sm ?_
        repeat' first
          | refine wk ?_
          | (refine goesL_b (by rfl) (by rfl) fun b hb => ?_; cases b <;> refine sm ?_)
        refine within_of (by repeat' first | exact True.intro | exact Of.raw _ | exact Of.emp | exact Of.ptr (has_nil (by rfl)) | exact Of.row (has_nil (by rfl)) | exact Of.yld (has_nil (by rfl)) | exact has_nil (by rfl) | assumption | exact Pure.of (by assumption) | exact Pure.of (pure_lvs _ _) | exact Pure.of (pure_tms _ _) | refine And.intro ?_ ?_ | exact ofC_pure (by assumption) | (refine Of.clo (fun _ ha => nomatch ha) (ofC_pure (by assumption))) | (refine Of.agg (OfC.all ?_)) | (refine Of.clo (fun _ ha => nomatch ha) (OfC.all ?_))) (by repeat' first | exact True.intro | refine And.intro ?_ ?_ | exact has_nil (by rfl)) (by first | exact True.intro | exact Of.raw _ | exact Of.ifc (Of.raw _)) (by repeat' first | exact True.intro | exact Of.raw _ | exact Of.emp | exact Of.ptr (has_nil (by rfl)) | exact Of.row (has_nil (by rfl)) | exact Of.yld (has_nil (by rfl)) | exact has_nil (by rfl) | assumption | exact Pure.of (by assumption) | exact Pure.of (pure_lvs _ _) | exact Pure.of (pure_tms _ _) | refine And.intro ?_ ?_ | exact ofC_pure (by assumption) | (refine Of.agg (OfC.all ?_)) | (refine Of.clo (fun _ ha => nomatch ha) (OfC.all ?_))) ?_
        refine ⟨(Tm.mk k2 n2 a2 lv2 kids2).size, by rw [Tm.size_mk 6, Tm.sizeL, Tm.sizeL, Tm.sizeL]; omega, .mk k2 n2 a2 lv2 kids2, c ++ [.mk k3 n3 a3 lv3 kids3], rfl, huf.2.2.2.1, by simp only [List.length_append, List.length_cons, List.length_nil]; omega, by first | rfl | trivial, ?_, .inr ⟨m + 1, g19, g20, by simp [hc], rfl⟩⟩
        rw [hsp, spineT_app]
        simp
end Go.Proofs.YtaoglkkdhdfioaaGreatDoor
