/- The law's examples. -/
import Derived.Test.YtaoglkkdhdfioaaGreatDoorEvWk
import Derived.Test.YtaoglkkdhdfioaaGreatDoorTeLaw4Z
import Derived.Test.YtaoglkkdhdfioaaGreatDoorTeSpine
import Derived.KernelRfl
import Derived.Test.YtaoglkkdhdfioaaGreatDoorProg
namespace Go.Proofs.YtaoglkkdhdfioaaGreatDoor
open Go Go.Proofs
set_option maxRecDepth 100000
set_option maxHeartbeats 2000000
attribute [local go_sem] AH.seals AH.adds news List.nil_append List.cons_append AF.put AF.start Slots.set Slots.ins zipA AH.zero AH.new AH.put AH.sub ofV AV.cells List.length AF.keep AH.cut List.filter_cons List.filter_nil List.contains_cons List.contains_nil Nat.reduceBEq Bool.or_false Bool.or_true Bool.true_or Bool.false_or decide_true decide_false Bool.not_false Bool.and_true Bool.true_and Bool.and_self List.append_nil List.getElem_toArray List.getElem_cons_zero List.getElem_cons_succ Nat.reduceLT Nat.reduceAdd Nat.reduceSub Nat.reduceEqDiff andThen atEnd rounds Tryz.ntmps33 Tryz.ntmps34 Tryz.ntmps7
theorem v_tells (n : Int) : Tells Tryz.prog (.func 33) [eInt n] [] (eTm (varTm n)) := by
  refine tells_of (fun b hb => ?_) (pure_tm _) ?_
  · simp at hb; subst hb; exact .raw _
  refine gives_enter Tryz.func33 rfl rfl ?_
  repeat' first
    | refine wk ?_
    | (refine goesL_b (by rfl) (by rfl) fun b hb => ?_; cases b <;> refine sm ?_)
  exact ⟨rfl, _, rfl, _, [], [], rfl, .agg (j := []) (l := []) (.pure (.raw _) (.pure (.raw _) (.pure (.raw _) (.none (.none .nil))))) .nil, fun p hp => nomatch hp⟩
theorem lof_tells (k : Int) (ts : List Tm) : Tells Tryz.prog (.func 34) [eInt k, .vals 5 (ts.map eTm)] [] (eTm (.mk k 0 0 [] ts)) := by
  have hp := pure_tms 5 ts
  refine tells_of (fun b hb => ?_) (pure_tm _) ?_
  · simp at hb; rcases hb with rfl | rfl
    · exact .raw _
    · exact hp
  rw [eTm_mk]
  generalize ts.map eTm = K at hp ⊢
  refine gives_enter Tryz.func34 rfl rfl ?_
  repeat' first
    | refine wk ?_
    | (refine goesL_b (by rfl) (by rfl) fun b hb => ?_; cases b <;> refine sm ?_)
  exact ⟨rfl, _, rfl, _, [], [], rfl, .agg (j := []) (l := []) (.pure (.raw _) (.pure (.raw _) (.pure (.raw _) (.none (.pure hp .nil))))) .nil, fun p hp => nomatch hp⟩
/-- a row of ours that stands, among values -/
theorem snapM {H : AH} {r n : Nat} {c : Cells} {es pre post : List AV} (hg : H.get r = some (.cells c)) (hcs : c.cs = es.flatMap AV.cells) (hz : ∀ e ∈ es, e.cells.length = c.sz) (hp : ∀ e ∈ es, Pure e) (hn : es.length = n) (hlen : c.cs.length = n * c.sz) (hpre : ∀ a ∈ pre, Pure a) (hpost : ∀ a ∈ post, Pure a) :
    SnapL H (pre ++ .row r c.ver 0 n :: post) (pre ++ .vals c.sz es :: post) [(r, 0 + n * c.sz)] := by
  have hnow : H.now r c.ver = some c := now_of hg
  have h0 := SnapL.row (h := H) (k := c.ver) (off := 0) (len := n) (j := []) hnow hn (fun j e he => hz e (List.mem_of_getElem? he)) (by
    rw [List.drop_zero, ← hlen, List.take_length, hcs]
    exact snap_pure (fun a ha => by
      obtain ⟨e, he, hae⟩ := List.mem_flatMap.1 ha
      exact (hp e he).cells a hae)) hp (snap_pure hpost)
  exact snap_ahead h0 hpre
/-- a call of a drawn region, among whose arguments is a row of ours that stands -/
theorem goesD_row {P : Program} {ops : Array Oper} {n0 n : Nat} {h0 : AH} {T : AF → AH → Prop} {o : Oper} {l : List Oper} {f : AF} {B : List (Option Cells)} {c : Call} {x : Operand} {fn : Fn} {z : AV} (r m : Nat) (cc : Cells) (es pre post : List AV) (hk : Tells P fn (pre ++ .vals cc.sz es :: post) [] z)
    (hn : B.length < n) (hg : guardA ops f o = some true) (hc : o.op = Op.call c) (hx : c.callee = Callee.value x) (hf : f.ev x = some (AV.clo fn [] [])) (ha : f.evs c.args.toList = some (pre ++ .row r cc.ver 0 m :: post))
    (hgt : (h0.adds n0 B).get r = some (.cells cc)) (hcs : cc.cs = es.flatMap AV.cells) (hz : ∀ e ∈ es, e.cells.length = cc.sz) (hp : ∀ e ∈ es, Pure e) (hm : es.length = m) (hlen : cc.cs.length = m * cc.sz) (him : m * cc.sz ≤ cc.imm) (hpre : ∀ a ∈ pre, Pure a) (hpost : ∀ a ∈ post, Pure a)
    (hr : GoesD P ops n0 h0 n T l (f.put o.dst z) (B ++ [none])) : GoesD P ops n0 h0 n T (o :: l) f B := by
  refine goesD_call (first := []) (cap := []) (cap' := []) (l0 := [(r, 0 + m * cc.sz)]) hn hg hc hx hf ha ?_ ?_ ?_ hk hr
  · rw [List.nil_append, List.append_nil, List.append_nil]
    exact snapM hgt hcs hz hp hm hlen hpre hpost
  · simp
  · intro p hp c' hc'
    simp at hp
    subst hp
    rw [hgt] at hc'
    injection hc' with hc'; injection hc' with hc'
    subst hc'
    exact him
theorem two_vars {a b : Tm} : ∀ e ∈ [eTm a, eTm b], e.cells.length = 5 := by
  intro e he
  simp at he
  rcases he with rfl | rfl <;> rw [tmC_eq, tmC_length]
theorem two_pure {a b : Tm} : ∀ e ∈ [eTm a, eTm b], Pure e := by
  intro e he
  simp at he
  rcases he with rfl | rfl <;> exact pure_tm _
theorem awake_tells : Tells Tryz.prog (.func 7) [] [] (eBool true) := by
  refine tells_raw (fun b hb => by simp at hb) (.raw _) ?_
  have fv : ∀ n : Int, Rng n → (varTm n).fit := fun n h => (Tm.fit_mk _ _ _ _ _).2 ⟨h, slim_nil, by simp, by rw [Tm.fitL]; trivial⟩
  have sv : ∀ n : Int, (varTm n).size = 1 := fun _ => rfl
  have h9 := v_tells 9
  have h1 := v_tells 1
  have h2 := v_tells 2
  have h3 := v_tells 3
  have ho1 := lof_tells 6 [varTm 9, varTm 1]
  have ho2 := lof_tells 6 [.mk 6 0 0 [] [varTm 9, varTm 1], varTm 2]
  have hsp := spine_tells (.mk 6 0 0 [] [.mk 6 0 0 [] [varTm 9, varTm 1], varTm 2]) (by decide) (by
    refine (Tm.fit_mk _ _ _ _ _).2 ⟨rng_zero, slim_nil, by simp, ?_⟩
    rw [Tm.fitL, Tm.fitL, Tm.fitL]
    refine ⟨(Tm.fit_mk _ _ _ _ _).2 ⟨rng_zero, slim_nil, by simp, ?_⟩, fv 2 (by unfold Rng; omega), trivial⟩
    rw [Tm.fitL, Tm.fitL, Tm.fitL]
    exact ⟨fv 9 (by unfold Rng; omega), fv 1 (by unfold Rng; omega), trivial⟩)
  refine gives_enter Tryz.func7 rfl rfl ?_
  repeat' first
    | refine wk ?_
    | (refine goesL_b (by rfl) (by rfl) fun b hb => ?_; cases b <;> refine sm ?_)
  refine goesL_tells h9 (by rfl) (by rfl) (by rfl) (by rfl) (by rfl) (by rfl) ?_
  refine sm ?_
  repeat' first
    | refine wk ?_
    | (refine goesL_b (by rfl) (by rfl) fun b hb => ?_; cases b <;> refine sm ?_)
  refine goesL_tells h1 (by rfl) (by rfl) (by rfl) (by rfl) (by rfl) (by rfl) ?_
  refine sm ?_
  repeat' first
    | refine wk ?_
    | (refine goesL_b (by rfl) (by rfl) fun b hb => ?_; cases b <;> refine sm ?_)
  refine goesL_call (by rfl) (by rfl) (by rfl) (by rfl) (by rfl) (gives_row (r := 0) (n := 2) (pre := [eInt 6]) (c := tmBlk 5 (tmC (varTm 9) ++ tmC (varTm 1))) (es := [eTm (varTm 9), eTm (varTm 1)]) (by rfl) (by rfl) two_vars two_pure rfl (by simp; exact .raw _) (by rfl) (by rfl) ho1 ?_)
  refine (show GoesL _ _ _ _ _ _ from ?_)
  refine sm ?_
  repeat' first
    | refine wk ?_
    | (refine goesL_b (by rfl) (by rfl) fun b hb => ?_; cases b <;> refine sm ?_)
  refine goesL_tells h2 (by rfl) (by rfl) (by rfl) (by rfl) (by rfl) (by rfl) ?_
  refine sm ?_
  repeat' first
    | refine wk ?_
    | (refine goesL_b (by rfl) (by rfl) fun b hb => ?_; cases b <;> refine sm ?_)
  refine goesL_call (by rfl) (by rfl) (by rfl) (by rfl) (by rfl) (gives_row (r := 1) (n := 2) (pre := [eInt 6]) (c := tmBlk 5 (tmC (.mk 6 0 0 [] [varTm 9, varTm 1]) ++ tmC (varTm 2))) (es := [eTm (.mk 6 0 0 [] [varTm 9, varTm 1]), eTm (varTm 2)]) (by rfl) (by rfl) two_vars two_pure rfl (by simp; exact .raw _) (by rfl) (by rfl) ho2 ?_)
  refine (show GoesL _ _ _ _ _ _ from ?_)
  refine sm ?_
  repeat' first
    | refine wk ?_
    | (refine goesL_b (by rfl) (by rfl) fun b hb => ?_; cases b <;> refine sm ?_)
  refine goesL_tells hsp (by rfl) (by rfl) (by rfl) (by rfl) (by rfl) (by rfl) ?_
  refine sm ?_
  repeat' first
    | refine wk ?_
    | (refine goesL_b (by rfl) (by rfl) fun b hb => ?_; cases b <;> refine sm ?_)
  have hpis := pis_tells [varTm 1, varTm 2] (varTm 3) (by decide) (fv 3 (by unfold Rng; omega)) (by
    rw [Tm.fitL, Tm.fitL, Tm.fitL]
    exact ⟨fv 1 (by unfold Rng; omega), fv 2 (by unfold Rng; omega), trivial⟩)
  have hq1 := lof_tells 4 [varTm 2, varTm 3]
  have hq2 := lof_tells 4 [varTm 1, .mk 4 0 0 [] [varTm 2, varTm 3]]
  have hs1 := same_tells (aboveT 4 (varTm 3) [varTm 1, varTm 2]) (.mk 4 0 0 [] [varTm 1, .mk 4 0 0 [] [varTm 2, varTm 3]]) (by decide)
  have hvs := vars_tells 2 1 (by decide)
  have hr1 := rows_tells (varsT 2 1) [varTm 2, varTm 1] (by decide) (by unfold small; decide)
  have hs2 := same_tells (headT (.mk 6 0 0 [] [.mk 6 0 0 [] [varTm 9, varTm 1], varTm 2])) (varTm 9) (by decide)
  have hr2 := rows_tells (argsT (.mk 6 0 0 [] [.mk 6 0 0 [] [varTm 9, varTm 1], varTm 2])) [varTm 1, varTm 2] (by decide) (by unfold small; decide)
  rw [show (aboveT 4 (varTm 3) [varTm 1, varTm 2]).same (.mk 4 0 0 [] [varTm 1, .mk 4 0 0 [] [varTm 2, varTm 3]]) = true from by decide] at hs1
  rw [show sameL Tm.same (varsT 2 1) [varTm 2, varTm 1] = true from by decide] at hr1
  rw [show (headT (.mk 6 0 0 [] [.mk 6 0 0 [] [varTm 9, varTm 1], varTm 2])).same (varTm 9) = true from by decide] at hs2
  rw [show sameL Tm.same (argsT (.mk 6 0 0 [] [.mk 6 0 0 [] [varTm 9, varTm 1], varTm 2])) [varTm 1, varTm 2] = true from by decide] at hr2
  refine goes_draw 32 [] (by rfl) (by kernel_rfl) ?_
  refine sm ?_
  repeat' first
    | (refine goesD_q (y := .raw (.bool true)) (by first | decide | exact Nat.le_of_ble_eq_true rfl) (by rfl) (by rfl) ?_; refine sm ?_)
    | (refine goesD_q (y := .raw (.bool false)) (by first | decide | exact Nat.le_of_ble_eq_true rfl) (by rfl) (by rfl) ?_; refine sm ?_)
    | (refine goesD_b (by first | decide | exact Nat.le_of_ble_eq_true rfl) (by rfl) (by rfl) fun b hb => ?_; cases b <;> refine sm ?_)
    | (refine goesD_q (by first | decide | exact Nat.le_of_ble_eq_true rfl) (by rfl) (by rfl) ?_; refine sm ?_)
    | (refine goesD_s (by first | decide | exact Nat.le_of_ble_eq_true rfl) (by rfl) (qok_rop (by rfl)) ?_; refine sm ?_)
    | (refine goesD_off (by first | decide | exact Nat.le_of_ble_eq_true rfl) (by rfl) ?_; refine sm ?_)
    | (refine goesD_end (by rfl) ?_; refine sm ?_)
    | (refine goes_seq ?_)
  refine goesD_tells h1 (by decide) (by rfl) (by rfl) (by rfl) (by rfl) (by rfl) (by rfl) (by rfl) ?_
  refine sm ?_
  repeat' first
    | (refine goesD_q (y := .raw (.bool true)) (by first | decide | exact Nat.le_of_ble_eq_true rfl) (by rfl) (by rfl) ?_; refine sm ?_)
    | (refine goesD_q (y := .raw (.bool false)) (by first | decide | exact Nat.le_of_ble_eq_true rfl) (by rfl) (by rfl) ?_; refine sm ?_)
    | (refine goesD_b (by first | decide | exact Nat.le_of_ble_eq_true rfl) (by rfl) (by rfl) fun b hb => ?_; cases b <;> refine sm ?_)
    | (refine goesD_q (by first | decide | exact Nat.le_of_ble_eq_true rfl) (by rfl) (by rfl) ?_; refine sm ?_)
    | (refine goesD_s (by first | decide | exact Nat.le_of_ble_eq_true rfl) (by rfl) (qok_rop (by rfl)) ?_; refine sm ?_)
    | (refine goesD_off (by first | decide | exact Nat.le_of_ble_eq_true rfl) (by rfl) ?_; refine sm ?_)
    | (refine goesD_end (by rfl) ?_; refine sm ?_)
    | (refine goes_seq ?_)
  refine goesD_tells h2 (by decide) (by rfl) (by rfl) (by rfl) (by rfl) (by rfl) (by rfl) (by rfl) ?_
  refine sm ?_
  repeat' first
    | (refine goesD_q (y := .raw (.bool true)) (by first | decide | exact Nat.le_of_ble_eq_true rfl) (by rfl) (by rfl) ?_; refine sm ?_)
    | (refine goesD_q (y := .raw (.bool false)) (by first | decide | exact Nat.le_of_ble_eq_true rfl) (by rfl) (by rfl) ?_; refine sm ?_)
    | (refine goesD_b (by first | decide | exact Nat.le_of_ble_eq_true rfl) (by rfl) (by rfl) fun b hb => ?_; cases b <;> refine sm ?_)
    | (refine goesD_q (by first | decide | exact Nat.le_of_ble_eq_true rfl) (by rfl) (by rfl) ?_; refine sm ?_)
    | (refine goesD_s (by first | decide | exact Nat.le_of_ble_eq_true rfl) (by rfl) (qok_rop (by rfl)) ?_; refine sm ?_)
    | (refine goesD_off (by first | decide | exact Nat.le_of_ble_eq_true rfl) (by rfl) ?_; refine sm ?_)
    | (refine goesD_end (by rfl) ?_; refine sm ?_)
    | (refine goes_seq ?_)
  refine goesD_n 10 (by decide) (by rfl) (by rfl) (by decide) ?_
  refine sm ?_
  repeat' first
    | (refine goesD_q (y := .raw (.bool true)) (by first | decide | exact Nat.le_of_ble_eq_true rfl) (by rfl) (by rfl) ?_; refine sm ?_)
    | (refine goesD_q (y := .raw (.bool false)) (by first | decide | exact Nat.le_of_ble_eq_true rfl) (by rfl) (by rfl) ?_; refine sm ?_)
    | (refine goesD_b (by first | decide | exact Nat.le_of_ble_eq_true rfl) (by rfl) (by rfl) fun b hb => ?_; cases b <;> refine sm ?_)
    | (refine goesD_q (by first | decide | exact Nat.le_of_ble_eq_true rfl) (by rfl) (by rfl) ?_; refine sm ?_)
    | (refine goesD_s (by first | decide | exact Nat.le_of_ble_eq_true rfl) (by rfl) (qok_rop (by rfl)) ?_; refine sm ?_)
    | (refine goesD_off (by first | decide | exact Nat.le_of_ble_eq_true rfl) (by rfl) ?_; refine sm ?_)
    | (refine goesD_end (by rfl) ?_; refine sm ?_)
    | (refine goes_seq ?_)
  refine goesD_tells h3 (by decide) (by rfl) (by rfl) (by rfl) (by rfl) (by rfl) (by rfl) (by rfl) ?_
  refine sm ?_
  repeat' first
    | (refine goesD_q (y := .raw (.bool true)) (by first | decide | exact Nat.le_of_ble_eq_true rfl) (by rfl) (by rfl) ?_; refine sm ?_)
    | (refine goesD_q (y := .raw (.bool false)) (by first | decide | exact Nat.le_of_ble_eq_true rfl) (by rfl) (by rfl) ?_; refine sm ?_)
    | (refine goesD_b (by first | decide | exact Nat.le_of_ble_eq_true rfl) (by rfl) (by rfl) fun b hb => ?_; cases b <;> refine sm ?_)
    | (refine goesD_q (by first | decide | exact Nat.le_of_ble_eq_true rfl) (by rfl) (by rfl) ?_; refine sm ?_)
    | (refine goesD_s (by first | decide | exact Nat.le_of_ble_eq_true rfl) (by rfl) (qok_rop (by rfl)) ?_; refine sm ?_)
    | (refine goesD_off (by first | decide | exact Nat.le_of_ble_eq_true rfl) (by rfl) ?_; refine sm ?_)
    | (refine goesD_end (by rfl) ?_; refine sm ?_)
    | (refine goes_seq ?_)
  refine goesD_row 5 2 { tmBlk 5 (tmC (varTm 1) ++ tmC (varTm 2)) with imm := 10 } [eTm (varTm 1), eTm (varTm 2)] [] [eTm (varTm 3)] hpis (by decide) (by rfl) (by rfl) (by rfl) (by rfl) (by rfl) (by rfl) (by rfl) two_vars two_pure (by rfl) (by rfl) (by decide) (by simp) (by intro a ha; simp at ha; subst ha; first | exact .raw _ | exact pure_tm _ | exact pure_tms 5 _) ?_
  refine sm ?_
  repeat' first
    | (refine goesD_q (y := .raw (.bool true)) (by first | decide | exact Nat.le_of_ble_eq_true rfl) (by rfl) (by rfl) ?_; refine sm ?_)
    | (refine goesD_q (y := .raw (.bool false)) (by first | decide | exact Nat.le_of_ble_eq_true rfl) (by rfl) (by rfl) ?_; refine sm ?_)
    | (refine goesD_b (by first | decide | exact Nat.le_of_ble_eq_true rfl) (by rfl) (by rfl) fun b hb => ?_; cases b <;> refine sm ?_)
    | (refine goesD_q (by first | decide | exact Nat.le_of_ble_eq_true rfl) (by rfl) (by rfl) ?_; refine sm ?_)
    | (refine goesD_s (by first | decide | exact Nat.le_of_ble_eq_true rfl) (by rfl) (qok_rop (by rfl)) ?_; refine sm ?_)
    | (refine goesD_off (by first | decide | exact Nat.le_of_ble_eq_true rfl) (by rfl) ?_; refine sm ?_)
    | (refine goesD_end (by rfl) ?_; refine sm ?_)
    | (refine goes_seq ?_)
  refine goesD_tells h1 (by decide) (by rfl) (by rfl) (by rfl) (by rfl) (by rfl) (by rfl) (by rfl) ?_
  refine sm ?_
  repeat' first
    | (refine goesD_q (y := .raw (.bool true)) (by first | decide | exact Nat.le_of_ble_eq_true rfl) (by rfl) (by rfl) ?_; refine sm ?_)
    | (refine goesD_q (y := .raw (.bool false)) (by first | decide | exact Nat.le_of_ble_eq_true rfl) (by rfl) (by rfl) ?_; refine sm ?_)
    | (refine goesD_b (by first | decide | exact Nat.le_of_ble_eq_true rfl) (by rfl) (by rfl) fun b hb => ?_; cases b <;> refine sm ?_)
    | (refine goesD_q (by first | decide | exact Nat.le_of_ble_eq_true rfl) (by rfl) (by rfl) ?_; refine sm ?_)
    | (refine goesD_s (by first | decide | exact Nat.le_of_ble_eq_true rfl) (by rfl) (qok_rop (by rfl)) ?_; refine sm ?_)
    | (refine goesD_off (by first | decide | exact Nat.le_of_ble_eq_true rfl) (by rfl) ?_; refine sm ?_)
    | (refine goesD_end (by rfl) ?_; refine sm ?_)
    | (refine goes_seq ?_)
  refine goesD_tells h2 (by decide) (by rfl) (by rfl) (by rfl) (by rfl) (by rfl) (by rfl) (by rfl) ?_
  refine sm ?_
  repeat' first
    | (refine goesD_q (y := .raw (.bool true)) (by first | decide | exact Nat.le_of_ble_eq_true rfl) (by rfl) (by rfl) ?_; refine sm ?_)
    | (refine goesD_q (y := .raw (.bool false)) (by first | decide | exact Nat.le_of_ble_eq_true rfl) (by rfl) (by rfl) ?_; refine sm ?_)
    | (refine goesD_b (by first | decide | exact Nat.le_of_ble_eq_true rfl) (by rfl) (by rfl) fun b hb => ?_; cases b <;> refine sm ?_)
    | (refine goesD_q (by first | decide | exact Nat.le_of_ble_eq_true rfl) (by rfl) (by rfl) ?_; refine sm ?_)
    | (refine goesD_s (by first | decide | exact Nat.le_of_ble_eq_true rfl) (by rfl) (qok_rop (by rfl)) ?_; refine sm ?_)
    | (refine goesD_off (by first | decide | exact Nat.le_of_ble_eq_true rfl) (by rfl) ?_; refine sm ?_)
    | (refine goesD_end (by rfl) ?_; refine sm ?_)
    | (refine goes_seq ?_)
  refine goesD_tells h3 (by decide) (by rfl) (by rfl) (by rfl) (by rfl) (by rfl) (by rfl) (by rfl) ?_
  refine sm ?_
  repeat' first
    | (refine goesD_q (y := .raw (.bool true)) (by first | decide | exact Nat.le_of_ble_eq_true rfl) (by rfl) (by rfl) ?_; refine sm ?_)
    | (refine goesD_q (y := .raw (.bool false)) (by first | decide | exact Nat.le_of_ble_eq_true rfl) (by rfl) (by rfl) ?_; refine sm ?_)
    | (refine goesD_b (by first | decide | exact Nat.le_of_ble_eq_true rfl) (by rfl) (by rfl) fun b hb => ?_; cases b <;> refine sm ?_)
    | (refine goesD_q (by first | decide | exact Nat.le_of_ble_eq_true rfl) (by rfl) (by rfl) ?_; refine sm ?_)
    | (refine goesD_s (by first | decide | exact Nat.le_of_ble_eq_true rfl) (by rfl) (qok_rop (by rfl)) ?_; refine sm ?_)
    | (refine goesD_off (by first | decide | exact Nat.le_of_ble_eq_true rfl) (by rfl) ?_; refine sm ?_)
    | (refine goesD_end (by rfl) ?_; refine sm ?_)
    | (refine goes_seq ?_)
  refine goesD_n 10 (by decide) (by rfl) (by rfl) (by decide) ?_
  refine sm ?_
  repeat' first
    | (refine goesD_q (y := .raw (.bool true)) (by first | decide | exact Nat.le_of_ble_eq_true rfl) (by rfl) (by rfl) ?_; refine sm ?_)
    | (refine goesD_q (y := .raw (.bool false)) (by first | decide | exact Nat.le_of_ble_eq_true rfl) (by rfl) (by rfl) ?_; refine sm ?_)
    | (refine goesD_b (by first | decide | exact Nat.le_of_ble_eq_true rfl) (by rfl) (by rfl) fun b hb => ?_; cases b <;> refine sm ?_)
    | (refine goesD_q (by first | decide | exact Nat.le_of_ble_eq_true rfl) (by rfl) (by rfl) ?_; refine sm ?_)
    | (refine goesD_s (by first | decide | exact Nat.le_of_ble_eq_true rfl) (by rfl) (qok_rop (by rfl)) ?_; refine sm ?_)
    | (refine goesD_off (by first | decide | exact Nat.le_of_ble_eq_true rfl) (by rfl) ?_; refine sm ?_)
    | (refine goesD_end (by rfl) ?_; refine sm ?_)
    | (refine goes_seq ?_)
  refine goesD_row 11 2 { tmBlk 5 (tmC (varTm 2) ++ tmC (varTm 3)) with imm := 10 } [eTm (varTm 2), eTm (varTm 3)] [eInt 4] [] hq1 (by decide) (by rfl) (by rfl) (by rfl) (by rfl) (by rfl) (by rfl) (by rfl) two_vars two_pure (by rfl) (by rfl) (by decide) (by intro a ha; simp at ha; subst ha; first | exact .raw _ | exact pure_tm _ | exact pure_tms 5 _) (by simp) ?_
  refine sm ?_
  repeat' first
    | (refine goesD_q (y := .raw (.bool true)) (by first | decide | exact Nat.le_of_ble_eq_true rfl) (by rfl) (by rfl) ?_; refine sm ?_)
    | (refine goesD_q (y := .raw (.bool false)) (by first | decide | exact Nat.le_of_ble_eq_true rfl) (by rfl) (by rfl) ?_; refine sm ?_)
    | (refine goesD_b (by first | decide | exact Nat.le_of_ble_eq_true rfl) (by rfl) (by rfl) fun b hb => ?_; cases b <;> refine sm ?_)
    | (refine goesD_q (by first | decide | exact Nat.le_of_ble_eq_true rfl) (by rfl) (by rfl) ?_; refine sm ?_)
    | (refine goesD_s (by first | decide | exact Nat.le_of_ble_eq_true rfl) (by rfl) (qok_rop (by rfl)) ?_; refine sm ?_)
    | (refine goesD_off (by first | decide | exact Nat.le_of_ble_eq_true rfl) (by rfl) ?_; refine sm ?_)
    | (refine goesD_end (by rfl) ?_; refine sm ?_)
    | (refine goes_seq ?_)
  refine goesD_n 10 (by decide) (by rfl) (by rfl) (by decide) ?_
  refine sm ?_
  repeat' first
    | (refine goesD_q (y := .raw (.bool true)) (by first | decide | exact Nat.le_of_ble_eq_true rfl) (by rfl) (by rfl) ?_; refine sm ?_)
    | (refine goesD_q (y := .raw (.bool false)) (by first | decide | exact Nat.le_of_ble_eq_true rfl) (by rfl) (by rfl) ?_; refine sm ?_)
    | (refine goesD_b (by first | decide | exact Nat.le_of_ble_eq_true rfl) (by rfl) (by rfl) fun b hb => ?_; cases b <;> refine sm ?_)
    | (refine goesD_q (by first | decide | exact Nat.le_of_ble_eq_true rfl) (by rfl) (by rfl) ?_; refine sm ?_)
    | (refine goesD_s (by first | decide | exact Nat.le_of_ble_eq_true rfl) (by rfl) (qok_rop (by rfl)) ?_; refine sm ?_)
    | (refine goesD_off (by first | decide | exact Nat.le_of_ble_eq_true rfl) (by rfl) ?_; refine sm ?_)
    | (refine goesD_end (by rfl) ?_; refine sm ?_)
    | (refine goes_seq ?_)
  refine goesD_row 13 2 { tmBlk 5 (tmC (varTm 1) ++ tmC (.mk 4 0 0 [] [varTm 2, varTm 3])) with imm := 10 } [eTm (varTm 1), eTm (.mk 4 0 0 [] [varTm 2, varTm 3])] [eInt 4] [] hq2 (by decide) (by rfl) (by rfl) (by rfl) (by rfl) (by rfl) (by rfl) (by rfl) two_vars two_pure (by rfl) (by rfl) (by decide) (by intro a ha; simp at ha; subst ha; first | exact .raw _ | exact pure_tm _ | exact pure_tms 5 _) (by simp) ?_
  refine sm ?_
  repeat' first
    | (refine goesD_q (y := .raw (.bool true)) (by first | decide | exact Nat.le_of_ble_eq_true rfl) (by rfl) (by rfl) ?_; refine sm ?_)
    | (refine goesD_q (y := .raw (.bool false)) (by first | decide | exact Nat.le_of_ble_eq_true rfl) (by rfl) (by rfl) ?_; refine sm ?_)
    | (refine goesD_b (by first | decide | exact Nat.le_of_ble_eq_true rfl) (by rfl) (by rfl) fun b hb => ?_; cases b <;> refine sm ?_)
    | (refine goesD_q (by first | decide | exact Nat.le_of_ble_eq_true rfl) (by rfl) (by rfl) ?_; refine sm ?_)
    | (refine goesD_s (by first | decide | exact Nat.le_of_ble_eq_true rfl) (by rfl) (qok_rop (by rfl)) ?_; refine sm ?_)
    | (refine goesD_off (by first | decide | exact Nat.le_of_ble_eq_true rfl) (by rfl) ?_; refine sm ?_)
    | (refine goesD_end (by rfl) ?_; refine sm ?_)
    | (refine goes_seq ?_)
  refine goesD_tells hs1 (by decide) (by rfl) (by rfl) (by rfl) (by rfl) (by rfl) (by rfl) (by rfl) ?_
  refine sm ?_
  repeat' first
    | (refine goesD_q (y := .raw (.bool true)) (by first | decide | exact Nat.le_of_ble_eq_true rfl) (by rfl) (by rfl) ?_; refine sm ?_)
    | (refine goesD_q (y := .raw (.bool false)) (by first | decide | exact Nat.le_of_ble_eq_true rfl) (by rfl) (by rfl) ?_; refine sm ?_)
    | (refine goesD_b (by first | decide | exact Nat.le_of_ble_eq_true rfl) (by rfl) (by rfl) fun b hb => ?_; cases b <;> refine sm ?_)
    | (refine goesD_q (by first | decide | exact Nat.le_of_ble_eq_true rfl) (by rfl) (by rfl) ?_; refine sm ?_)
    | (refine goesD_s (by first | decide | exact Nat.le_of_ble_eq_true rfl) (by rfl) (qok_rop (by rfl)) ?_; refine sm ?_)
    | (refine goesD_off (by first | decide | exact Nat.le_of_ble_eq_true rfl) (by rfl) ?_; refine sm ?_)
    | (refine goesD_end (by rfl) ?_; refine sm ?_)
    | (refine goes_seq ?_)
  refine goesD_tells hvs (by decide) (by rfl) (by rfl) (by rfl) (by rfl) (by rfl) (by rfl) (by rfl) ?_
  refine sm ?_
  repeat' first
    | (refine goesD_q (y := .raw (.bool true)) (by first | decide | exact Nat.le_of_ble_eq_true rfl) (by rfl) (by rfl) ?_; refine sm ?_)
    | (refine goesD_q (y := .raw (.bool false)) (by first | decide | exact Nat.le_of_ble_eq_true rfl) (by rfl) (by rfl) ?_; refine sm ?_)
    | (refine goesD_b (by first | decide | exact Nat.le_of_ble_eq_true rfl) (by rfl) (by rfl) fun b hb => ?_; cases b <;> refine sm ?_)
    | (refine goesD_q (by first | decide | exact Nat.le_of_ble_eq_true rfl) (by rfl) (by rfl) ?_; refine sm ?_)
    | (refine goesD_s (by first | decide | exact Nat.le_of_ble_eq_true rfl) (by rfl) (qok_rop (by rfl)) ?_; refine sm ?_)
    | (refine goesD_off (by first | decide | exact Nat.le_of_ble_eq_true rfl) (by rfl) ?_; refine sm ?_)
    | (refine goesD_end (by rfl) ?_; refine sm ?_)
    | (refine goes_seq ?_)
  refine goesD_tells h2 (by decide) (by rfl) (by rfl) (by rfl) (by rfl) (by rfl) (by rfl) (by rfl) ?_
  refine sm ?_
  repeat' first
    | (refine goesD_q (y := .raw (.bool true)) (by first | decide | exact Nat.le_of_ble_eq_true rfl) (by rfl) (by rfl) ?_; refine sm ?_)
    | (refine goesD_q (y := .raw (.bool false)) (by first | decide | exact Nat.le_of_ble_eq_true rfl) (by rfl) (by rfl) ?_; refine sm ?_)
    | (refine goesD_b (by first | decide | exact Nat.le_of_ble_eq_true rfl) (by rfl) (by rfl) fun b hb => ?_; cases b <;> refine sm ?_)
    | (refine goesD_q (by first | decide | exact Nat.le_of_ble_eq_true rfl) (by rfl) (by rfl) ?_; refine sm ?_)
    | (refine goesD_s (by first | decide | exact Nat.le_of_ble_eq_true rfl) (by rfl) (qok_rop (by rfl)) ?_; refine sm ?_)
    | (refine goesD_off (by first | decide | exact Nat.le_of_ble_eq_true rfl) (by rfl) ?_; refine sm ?_)
    | (refine goesD_end (by rfl) ?_; refine sm ?_)
    | (refine goes_seq ?_)
  refine goesD_tells h1 (by decide) (by rfl) (by rfl) (by rfl) (by rfl) (by rfl) (by rfl) (by rfl) ?_
  refine sm ?_
  repeat' first
    | (refine goesD_q (y := .raw (.bool true)) (by first | decide | exact Nat.le_of_ble_eq_true rfl) (by rfl) (by rfl) ?_; refine sm ?_)
    | (refine goesD_q (y := .raw (.bool false)) (by first | decide | exact Nat.le_of_ble_eq_true rfl) (by rfl) (by rfl) ?_; refine sm ?_)
    | (refine goesD_b (by first | decide | exact Nat.le_of_ble_eq_true rfl) (by rfl) (by rfl) fun b hb => ?_; cases b <;> refine sm ?_)
    | (refine goesD_q (by first | decide | exact Nat.le_of_ble_eq_true rfl) (by rfl) (by rfl) ?_; refine sm ?_)
    | (refine goesD_s (by first | decide | exact Nat.le_of_ble_eq_true rfl) (by rfl) (qok_rop (by rfl)) ?_; refine sm ?_)
    | (refine goesD_off (by first | decide | exact Nat.le_of_ble_eq_true rfl) (by rfl) ?_; refine sm ?_)
    | (refine goesD_end (by rfl) ?_; refine sm ?_)
    | (refine goes_seq ?_)
  refine goesD_n 10 (by decide) (by rfl) (by rfl) (by decide) ?_
  refine sm ?_
  repeat' first
    | (refine goesD_q (y := .raw (.bool true)) (by first | decide | exact Nat.le_of_ble_eq_true rfl) (by rfl) (by rfl) ?_; refine sm ?_)
    | (refine goesD_q (y := .raw (.bool false)) (by first | decide | exact Nat.le_of_ble_eq_true rfl) (by rfl) (by rfl) ?_; refine sm ?_)
    | (refine goesD_b (by first | decide | exact Nat.le_of_ble_eq_true rfl) (by rfl) (by rfl) fun b hb => ?_; cases b <;> refine sm ?_)
    | (refine goesD_q (by first | decide | exact Nat.le_of_ble_eq_true rfl) (by rfl) (by rfl) ?_; refine sm ?_)
    | (refine goesD_s (by first | decide | exact Nat.le_of_ble_eq_true rfl) (by rfl) (qok_rop (by rfl)) ?_; refine sm ?_)
    | (refine goesD_off (by first | decide | exact Nat.le_of_ble_eq_true rfl) (by rfl) ?_; refine sm ?_)
    | (refine goesD_end (by rfl) ?_; refine sm ?_)
    | (refine goes_seq ?_)
  refine goesD_row 20 2 { tmBlk 5 (tmC (varTm 2) ++ tmC (varTm 1)) with imm := 10 } [eTm (varTm 2), eTm (varTm 1)] [.vals 5 ((varsT 2 1).map eTm)] [] hr1 (by decide) (by rfl) (by rfl) (by rfl) (by rfl) (by rfl) (by rfl) (by rfl) two_vars two_pure (by rfl) (by rfl) (by decide) (by intro a ha; simp at ha; subst ha; first | exact .raw _ | exact pure_tm _ | exact pure_tms 5 _) (by simp) ?_
  refine sm ?_
  repeat' first
    | (refine goesD_q (y := .raw (.bool true)) (by first | decide | exact Nat.le_of_ble_eq_true rfl) (by rfl) (by rfl) ?_; refine sm ?_)
    | (refine goesD_q (y := .raw (.bool false)) (by first | decide | exact Nat.le_of_ble_eq_true rfl) (by rfl) (by rfl) ?_; refine sm ?_)
    | (refine goesD_b (by first | decide | exact Nat.le_of_ble_eq_true rfl) (by rfl) (by rfl) fun b hb => ?_; cases b <;> refine sm ?_)
    | (refine goesD_q (by first | decide | exact Nat.le_of_ble_eq_true rfl) (by rfl) (by rfl) ?_; refine sm ?_)
    | (refine goesD_s (by first | decide | exact Nat.le_of_ble_eq_true rfl) (by rfl) (qok_rop (by rfl)) ?_; refine sm ?_)
    | (refine goesD_off (by first | decide | exact Nat.le_of_ble_eq_true rfl) (by rfl) ?_; refine sm ?_)
    | (refine goesD_end (by rfl) ?_; refine sm ?_)
    | (refine goes_seq ?_)
  refine goesD_tells h9 (by decide) (by rfl) (by rfl) (by rfl) (by rfl) (by rfl) (by rfl) (by rfl) ?_
  refine sm ?_
  repeat' first
    | (refine goesD_q (y := .raw (.bool true)) (by first | decide | exact Nat.le_of_ble_eq_true rfl) (by rfl) (by rfl) ?_; refine sm ?_)
    | (refine goesD_q (y := .raw (.bool false)) (by first | decide | exact Nat.le_of_ble_eq_true rfl) (by rfl) (by rfl) ?_; refine sm ?_)
    | (refine goesD_b (by first | decide | exact Nat.le_of_ble_eq_true rfl) (by rfl) (by rfl) fun b hb => ?_; cases b <;> refine sm ?_)
    | (refine goesD_q (by first | decide | exact Nat.le_of_ble_eq_true rfl) (by rfl) (by rfl) ?_; refine sm ?_)
    | (refine goesD_s (by first | decide | exact Nat.le_of_ble_eq_true rfl) (by rfl) (qok_rop (by rfl)) ?_; refine sm ?_)
    | (refine goesD_off (by first | decide | exact Nat.le_of_ble_eq_true rfl) (by rfl) ?_; refine sm ?_)
    | (refine goesD_end (by rfl) ?_; refine sm ?_)
    | (refine goes_seq ?_)
  refine goesD_tells hs2 (by decide) (by rfl) (by rfl) (by rfl) (by rfl) (by rfl) (by rfl) (by rfl) ?_
  refine sm ?_
  repeat' first
    | (refine goesD_q (y := .raw (.bool true)) (by first | decide | exact Nat.le_of_ble_eq_true rfl) (by rfl) (by rfl) ?_; refine sm ?_)
    | (refine goesD_q (y := .raw (.bool false)) (by first | decide | exact Nat.le_of_ble_eq_true rfl) (by rfl) (by rfl) ?_; refine sm ?_)
    | (refine goesD_b (by first | decide | exact Nat.le_of_ble_eq_true rfl) (by rfl) (by rfl) fun b hb => ?_; cases b <;> refine sm ?_)
    | (refine goesD_q (by first | decide | exact Nat.le_of_ble_eq_true rfl) (by rfl) (by rfl) ?_; refine sm ?_)
    | (refine goesD_s (by first | decide | exact Nat.le_of_ble_eq_true rfl) (by rfl) (qok_rop (by rfl)) ?_; refine sm ?_)
    | (refine goesD_off (by first | decide | exact Nat.le_of_ble_eq_true rfl) (by rfl) ?_; refine sm ?_)
    | (refine goesD_end (by rfl) ?_; refine sm ?_)
    | (refine goes_seq ?_)
  refine goesD_tells h1 (by decide) (by rfl) (by rfl) (by rfl) (by rfl) (by rfl) (by rfl) (by rfl) ?_
  refine sm ?_
  repeat' first
    | (refine goesD_q (y := .raw (.bool true)) (by first | decide | exact Nat.le_of_ble_eq_true rfl) (by rfl) (by rfl) ?_; refine sm ?_)
    | (refine goesD_q (y := .raw (.bool false)) (by first | decide | exact Nat.le_of_ble_eq_true rfl) (by rfl) (by rfl) ?_; refine sm ?_)
    | (refine goesD_b (by first | decide | exact Nat.le_of_ble_eq_true rfl) (by rfl) (by rfl) fun b hb => ?_; cases b <;> refine sm ?_)
    | (refine goesD_q (by first | decide | exact Nat.le_of_ble_eq_true rfl) (by rfl) (by rfl) ?_; refine sm ?_)
    | (refine goesD_s (by first | decide | exact Nat.le_of_ble_eq_true rfl) (by rfl) (qok_rop (by rfl)) ?_; refine sm ?_)
    | (refine goesD_off (by first | decide | exact Nat.le_of_ble_eq_true rfl) (by rfl) ?_; refine sm ?_)
    | (refine goesD_end (by rfl) ?_; refine sm ?_)
    | (refine goes_seq ?_)
  refine goesD_tells h2 (by decide) (by rfl) (by rfl) (by rfl) (by rfl) (by rfl) (by rfl) (by rfl) ?_
  refine sm ?_
  repeat' first
    | (refine goesD_q (y := .raw (.bool true)) (by first | decide | exact Nat.le_of_ble_eq_true rfl) (by rfl) (by rfl) ?_; refine sm ?_)
    | (refine goesD_q (y := .raw (.bool false)) (by first | decide | exact Nat.le_of_ble_eq_true rfl) (by rfl) (by rfl) ?_; refine sm ?_)
    | (refine goesD_b (by first | decide | exact Nat.le_of_ble_eq_true rfl) (by rfl) (by rfl) fun b hb => ?_; cases b <;> refine sm ?_)
    | (refine goesD_q (by first | decide | exact Nat.le_of_ble_eq_true rfl) (by rfl) (by rfl) ?_; refine sm ?_)
    | (refine goesD_s (by first | decide | exact Nat.le_of_ble_eq_true rfl) (by rfl) (qok_rop (by rfl)) ?_; refine sm ?_)
    | (refine goesD_off (by first | decide | exact Nat.le_of_ble_eq_true rfl) (by rfl) ?_; refine sm ?_)
    | (refine goesD_end (by rfl) ?_; refine sm ?_)
    | (refine goes_seq ?_)
  refine goesD_n 10 (by decide) (by rfl) (by rfl) (by decide) ?_
  refine sm ?_
  repeat' first
    | (refine goesD_q (y := .raw (.bool true)) (by first | decide | exact Nat.le_of_ble_eq_true rfl) (by rfl) (by rfl) ?_; refine sm ?_)
    | (refine goesD_q (y := .raw (.bool false)) (by first | decide | exact Nat.le_of_ble_eq_true rfl) (by rfl) (by rfl) ?_; refine sm ?_)
    | (refine goesD_b (by first | decide | exact Nat.le_of_ble_eq_true rfl) (by rfl) (by rfl) fun b hb => ?_; cases b <;> refine sm ?_)
    | (refine goesD_q (by first | decide | exact Nat.le_of_ble_eq_true rfl) (by rfl) (by rfl) ?_; refine sm ?_)
    | (refine goesD_s (by first | decide | exact Nat.le_of_ble_eq_true rfl) (by rfl) (qok_rop (by rfl)) ?_; refine sm ?_)
    | (refine goesD_off (by first | decide | exact Nat.le_of_ble_eq_true rfl) (by rfl) ?_; refine sm ?_)
    | (refine goesD_end (by rfl) ?_; refine sm ?_)
    | (refine goes_seq ?_)
  refine goesD_row 32 2 { tmBlk 5 (tmC (varTm 1) ++ tmC (varTm 2)) with imm := 10 } [eTm (varTm 1), eTm (varTm 2)] [.vals 5 ((argsT (.mk 6 0 0 [] [.mk 6 0 0 [] [varTm 9, varTm 1], varTm 2])).map eTm)] [] hr2 (by decide) (by rfl) (by rfl) (by rfl) (by rfl) (by rfl) (by rfl) (by rfl) two_vars two_pure (by rfl) (by rfl) (by decide) (by intro a ha; simp at ha; subst ha; first | exact .raw _ | exact pure_tm _ | exact pure_tms 5 _) (by simp) ?_
  refine sm ?_
  repeat' first
    | (refine goesD_q (y := .raw (.bool true)) (by first | decide | exact Nat.le_of_ble_eq_true rfl) (by rfl) (by rfl) ?_; refine sm ?_)
    | (refine goesD_q (y := .raw (.bool false)) (by first | decide | exact Nat.le_of_ble_eq_true rfl) (by rfl) (by rfl) ?_; refine sm ?_)
    | (refine goesD_b (by first | decide | exact Nat.le_of_ble_eq_true rfl) (by rfl) (by rfl) fun b hb => ?_; cases b <;> refine sm ?_)
    | (refine goesD_q (by first | decide | exact Nat.le_of_ble_eq_true rfl) (by rfl) (by rfl) ?_; refine sm ?_)
    | (refine goesD_s (by first | decide | exact Nat.le_of_ble_eq_true rfl) (by rfl) (qok_rop (by rfl)) ?_; refine sm ?_)
    | (refine goesD_off (by first | decide | exact Nat.le_of_ble_eq_true rfl) (by rfl) ?_; refine sm ?_)
    | (refine goesD_end (by rfl) ?_; refine sm ?_)
    | (refine goes_seq ?_)
  repeat' first
    | refine wk ?_
    | (refine goesL_b (by rfl) (by rfl) fun b hb => ?_; cases b <;> refine sm ?_)
  exact ⟨rfl, _, rfl, rfl⟩
end Go.Proofs.YtaoglkkdhdfioaaGreatDoor
