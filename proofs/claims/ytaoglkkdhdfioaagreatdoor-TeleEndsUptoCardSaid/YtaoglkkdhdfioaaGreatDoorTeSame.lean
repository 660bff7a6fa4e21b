/- spandrelkit's sameness of levels and terms. -/
import Derived.Test.YtaoglkkdhdfioaaGreatDoorEvWk
import Derived.Test.YtaoglkkdhdfioaaGreatDoorEvX
import Derived.KernelRfl
import Derived.WalkKit
import Derived.Test.YtaoglkkdhdfioaaGreatDoorProg
namespace Go.Proofs.YtaoglkkdhdfioaaGreatDoor
open Go Go.Proofs
set_option maxRecDepth 100000
set_option maxHeartbeats 1000000
attribute [local go_sem] AH.seals AH.adds news List.nil_append List.cons_append AF.put AF.start Slots.set Slots.ins zipA AH.zero AH.new AH.put AH.sub ofV AV.cells List.length AF.keep AH.cut List.filter_cons List.filter_nil List.contains_cons List.contains_nil Nat.reduceBEq Bool.or_false Bool.or_true Bool.true_or Bool.false_or decide_true decide_false Bool.not_false Bool.and_true Bool.true_and Bool.and_self List.append_nil List.getElem_toArray List.getElem_cons_zero List.getElem_cons_succ Nat.reduceLT Nat.reduceAdd Nat.reduceSub Nat.reduceEqDiff andThen atEnd rounds Tryz.ntmps27 Tryz.ntmps63 Tryz.ntmps105 Tryz.ntmps66 Tryz.ntmps54
theorem neq_part (x1 x2 y1 y2 : Int) (p q : Operand) (w : World) : ((do eqGuard .neq 100 p q (.agg #[.int .i64 x1, .int .i64 x2]) (.agg #[.int .i64 y1, .int .i64 y2]); binOp .neq 100 (.agg #[.int .i64 x1, .int .i64 x2]) (.agg #[.int .i64 y1, .int .i64 y2]) : Sem Value)).run Tryz.prog w = .ok (.bool (!((x1, x2) == (y1, y2)))) w := by
  by_cases h1 : x1 = y1
  · by_cases h2 : x2 = y2
    · go_simp
    · go_simp
  · go_simp
theorem sameparts_row (xs ys : List (Int × Int)) (hx : small xs.length) : Tells Tryz.prog (.func 105) [.vals 2 (xs.map ePart), .vals 2 (ys.map ePart)] [] (eBool (sameL (fun x y : Int × Int => x == y) xs ys)) := by
  have hXp : Pure (.vals 2 (xs.map ePart)) := pure_parts 2 xs
  have hYp : Pure (.vals 2 (ys.map ePart)) := pure_parts 2 ys
  refine tells_raw (fun b hb => ?_) (.raw _) ?_
  · simp at hb; rcases hb with rfl | rfl <;> assumption
  obtain ⟨X, hX⟩ : ∃ L, xs.map ePart = L := ⟨_, rfl⟩
  obtain ⟨Y, hY⟩ : ∃ L, ys.map ePart = L := ⟨_, rfl⟩
  rw [hX, hY]
  rw [hX] at hXp
  rw [hY] at hYp
  have hlX : X.length = xs.length := by rw [← hX]; simp
  have hlY : Y.length = ys.length := by rw [← hY]; simp
  refine gives_enter Tryz.func105 rfl rfl ?_
  repeat' first
    | refine wk ?_
    | (refine goesL_b (by rfl) (by rfl) fun b hb => ?_; cases b <;> refine sm ?_)
  · have hXY : X.length = Y.length := by
      have : ¬ ((X.length : Int) ≠ (Y.length : Int)) := by simpa using hb
      omega
    refine goes_keep [0, 1, 4, 5] ?_
    refine goes_loop (fun m f h => ∃ j : Nat, j ≤ X.length ∧ m = X.length - j ∧ f = ⟨⟨26, [(0, .vals 2 X), (1, .vals 2 Y), (4, eBool false), (5, eInt (j : Int))]⟩, [], none⟩ ∧ h = ⟨0, [], []⟩ ∧ ∀ (i : Nat) x y, i < j → xs[i]? = some x → ys[i]? = some y → (x == y) = true) ?_ X.length _ _ ⟨0, Nat.zero_le _, rfl, rfl, rfl, fun i x y hi => absurd hi (Nat.not_lt_zero i)⟩
    rintro m f h ⟨j, hj, rfl, rfl, rfl, hall⟩
    refine goes_scope [0, 1, 4, 5] ?_
    repeat' first
      | refine wk ?_
      | (refine goesL_b (by rfl) (by rfl) fun b hb => ?_; cases b <;> refine sm ?_)
    · refine within_of (by repeat' first | exact True.intro | exact Of.raw _ | exact Of.emp | exact Of.ptr (has_nil (by rfl)) | exact Of.row (has_nil (by rfl)) | exact Of.yld (has_nil (by rfl)) | exact has_nil (by rfl) | assumption | exact Pure.of (by assumption) | exact Pure.of (pure_lvs _ _) | exact Pure.of (pure_tms _ _) | refine And.intro ?_ ?_ | exact ofC_pure (by assumption) | (refine Of.clo (fun _ ha => nomatch ha) (ofC_pure (by assumption))) | (refine Of.agg (OfC.all ?_)) | (refine Of.clo (fun _ ha => nomatch ha) (OfC.all ?_))) (by repeat' first | exact True.intro | refine And.intro ?_ ?_ | exact has_nil (by rfl)) (by first | exact True.intro | exact Of.raw _ | exact Of.ifc (Of.raw _)) (by repeat' first | exact True.intro | exact Of.raw _ | exact Of.emp | exact Of.ptr (has_nil (by rfl)) | exact Of.row (has_nil (by rfl)) | exact Of.yld (has_nil (by rfl)) | exact has_nil (by rfl) | assumption | exact Pure.of (by assumption) | exact Pure.of (pure_lvs _ _) | exact Pure.of (pure_tms _ _) | refine And.intro ?_ ?_ | exact ofC_pure (by assumption) | (refine Of.agg (OfC.all ?_)) | (refine Of.clo (fun _ ha => nomatch ha) (OfC.all ?_))) ?_
      have hj' : j = X.length := by have := of_decide_eq_false hb; omega
      subst hj'
      refine sm ?_
      repeat' first
        | refine wk ?_
        | (refine goesL_b (by rfl) (by rfl) fun b hb => ?_; cases b <;> refine sm ?_)
      refine ⟨rfl, _, rfl, ?_⟩
      rw [sameL_yes (by omega) fun i x y h1 h2 => hall i x y (by have := (List.getElem?_eq_some_iff.1 h1).1; omega) h1 h2]
    · have hj' : j < X.length := by have := of_decide_eq_true hb; omega
      obtain ⟨x, hxj⟩ : ∃ u, xs[j]? = some u := ⟨_, List.getElem?_eq_getElem (by omega)⟩
      obtain ⟨y, hyj⟩ : ∃ u, ys[j]? = some u := ⟨_, List.getElem?_eq_getElem (by omega)⟩
      have hXj : X[j]? = some (ePart x) := by rw [← hX, List.getElem?_map, hxj]; rfl
      have hYj : Y[j]? = some (ePart y) := by rw [← hY, List.getElem?_map, hyj]; rfl
      obtain ⟨x1, x2⟩ := x
      obtain ⟨y1, y2⟩ := y
      obtain ⟨b, hbq⟩ : ∃ b, ((x1, x2) == (y1, y2)) = b := ⟨_, rfl⟩
      refine goes_draw 9 [] (by rfl) (by kernel_rfl) ?_
      refine sm ?_
      repeat' first
        | (refine goesD_q (y := .raw (.bool true)) (by first | decide | exact Nat.le_of_ble_eq_true rfl) (by rfl) (by rfl) ?_; refine sm ?_)
        | (refine goesD_q (y := .raw (.bool false)) (by first | decide | exact Nat.le_of_ble_eq_true rfl) (by rfl) (by rfl) ?_; refine sm ?_)
        | (refine goesD_b (by first | decide | exact Nat.le_of_ble_eq_true rfl) (by rfl) (by rfl) fun b hb => ?_; cases b <;> refine sm ?_)
        | (refine goesD_q (by first | decide | exact Nat.le_of_ble_eq_true rfl) (by rfl) (by rfl) ?_; refine sm ?_)
        | (refine goesD_s (by first | decide | exact Nat.le_of_ble_eq_true rfl) (by rfl) (qok_rop (by rfl)) ?_; refine sm ?_)
        | (refine goesD_off (by first | decide | exact Nat.le_of_ble_eq_true rfl) (by rfl) ?_; refine sm ?_)
        | (refine goesD_end (by rfl) ?_; refine sm ?_)
        | (refine goes_seq ?_)
      refine goesD_index (m := j) (by decide) (by rfl) (by rfl) (by rfl) (by rfl) (by rfl) (by rfl) (by rfl) hXj ?_
      refine sm ?_
      repeat' first
        | (refine goesD_q (y := .raw (.bool true)) (by first | decide | exact Nat.le_of_ble_eq_true rfl) (by rfl) (by rfl) ?_; refine sm ?_)
        | (refine goesD_q (y := .raw (.bool false)) (by first | decide | exact Nat.le_of_ble_eq_true rfl) (by rfl) (by rfl) ?_; refine sm ?_)
        | (refine goesD_b (by first | decide | exact Nat.le_of_ble_eq_true rfl) (by rfl) (by rfl) fun b hb => ?_; cases b <;> refine sm ?_)
        | (refine goesD_q (by first | decide | exact Nat.le_of_ble_eq_true rfl) (by rfl) (by rfl) ?_; refine sm ?_)
        | (refine goesD_s (by first | decide | exact Nat.le_of_ble_eq_true rfl) (by rfl) (qok_rop (by rfl)) ?_; refine sm ?_)
        | (refine goesD_off (by first | decide | exact Nat.le_of_ble_eq_true rfl) (by rfl) ?_; refine sm ?_)
        | (refine goesD_end (by rfl) ?_; refine sm ?_)
        | (refine goes_seq ?_)
      refine goesD_index (m := j) (by decide) (by rfl) (by rfl) (by rfl) (by rfl) (by rfl) (by rfl) (by rfl) hYj ?_
      refine sm ?_
      repeat' first
        | (refine goesD_q (y := .raw (.bool true)) (by first | decide | exact Nat.le_of_ble_eq_true rfl) (by rfl) (by rfl) ?_; refine sm ?_)
        | (refine goesD_q (y := .raw (.bool false)) (by first | decide | exact Nat.le_of_ble_eq_true rfl) (by rfl) (by rfl) ?_; refine sm ?_)
        | (refine goesD_b (by first | decide | exact Nat.le_of_ble_eq_true rfl) (by rfl) (by rfl) fun b hb => ?_; cases b <;> refine sm ?_)
        | (refine goesD_q (by first | decide | exact Nat.le_of_ble_eq_true rfl) (by rfl) (by rfl) ?_; refine sm ?_)
        | (refine goesD_s (by first | decide | exact Nat.le_of_ble_eq_true rfl) (by rfl) (qok_rop (by rfl)) ?_; refine sm ?_)
        | (refine goesD_off (by first | decide | exact Nat.le_of_ble_eq_true rfl) (by rfl) ?_; refine sm ?_)
        | (refine goesD_end (by rfl) ?_; refine sm ?_)
        | (refine goes_seq ?_)
      refine goesD_s (by decide) (by rfl) (qok_bin (A := .agg #[.int .i64 x1, .int .i64 x2]) (B := .agg #[.int .i64 y1, .int .i64 y2]) (v := .bool (!b)) (by rfl) (by rfl) (by rfl) fun w => by rw [← hbq]; exact neq_part x1 x2 y1 y2 _ _ w) ?_
      refine sm ?_
      obtain ⟨nb, hnb⟩ : ∃ nb, (!b) = nb := ⟨_, rfl⟩
      rw [hnb]
      cases nb
      · repeat' first
          | (refine goesD_q (y := .raw (.bool true)) (by first | decide | exact Nat.le_of_ble_eq_true rfl) (by rfl) (by rfl) ?_; refine sm ?_)
          | (refine goesD_q (y := .raw (.bool false)) (by first | decide | exact Nat.le_of_ble_eq_true rfl) (by rfl) (by rfl) ?_; refine sm ?_)
          | (refine goesD_b (by first | decide | exact Nat.le_of_ble_eq_true rfl) (by rfl) (by rfl) fun b hb => ?_; cases b <;> refine sm ?_)
          | (refine goesD_q (by first | decide | exact Nat.le_of_ble_eq_true rfl) (by rfl) (by rfl) ?_; refine sm ?_)
          | (refine goesD_s (by first | decide | exact Nat.le_of_ble_eq_true rfl) (by rfl) (qok_rop (by rfl)) ?_; refine sm ?_)
          | (refine goesD_off (by first | decide | exact Nat.le_of_ble_eq_true rfl) (by rfl) ?_; refine sm ?_)
          | (refine goesD_end (by rfl) ?_; refine sm ?_)
          | (refine goes_seq ?_)
        repeat' first
          | refine wk ?_
          | (refine goesL_b (by rfl) (by rfl) fun b hb => ?_; cases b <;> refine sm ?_)
        refine within_of (by repeat' first | exact True.intro | exact Of.raw _ | exact Of.emp | exact Of.ptr (has_nil (by rfl)) | exact Of.row (has_nil (by rfl)) | exact Of.yld (has_nil (by rfl)) | exact has_nil (by rfl) | assumption | exact Pure.of (by assumption) | exact Pure.of (pure_lvs _ _) | exact Pure.of (pure_tms _ _) | refine And.intro ?_ ?_ | exact ofC_pure (by assumption) | (refine Of.clo (fun _ ha => nomatch ha) (ofC_pure (by assumption))) | (refine Of.agg (OfC.all ?_)) | (refine Of.clo (fun _ ha => nomatch ha) (OfC.all ?_))) (by repeat' first | exact True.intro | refine And.intro ?_ ?_ | exact has_nil (by rfl)) (by first | exact True.intro | exact Of.raw _ | exact Of.ifc (Of.raw _)) (by repeat' first | exact True.intro | exact Of.raw _ | exact Of.emp | exact Of.ptr (has_nil (by rfl)) | exact Of.row (has_nil (by rfl)) | exact Of.yld (has_nil (by rfl)) | exact has_nil (by rfl) | assumption | exact Pure.of (by assumption) | exact Pure.of (pure_lvs _ _) | exact Pure.of (pure_tms _ _) | refine And.intro ?_ ?_ | exact ofC_pure (by assumption) | (refine Of.agg (OfC.all ?_)) | (refine Of.clo (fun _ ha => nomatch ha) (OfC.all ?_))) ?_
        refine ⟨X.length - (j + 1), by omega, j + 1, by omega, rfl, ?_, rfl, fun i x' y' hi h1 h2 => ?_⟩
        · have e2 : IntKind.i64.wrap ((j : Int) + 1) = ((j + 1 : Nat) : Int) := by
            unfold small at hx
            rw [show ((j : Int) + 1) = ((j + 1 : Nat) : Int) from rfl, wrap_nat (by omega)]
          rw [e2]
          rfl
        · rcases Nat.lt_succ_iff_lt_or_eq.1 hi with hi | rfl
          · exact hall i x' y' hi h1 h2
          · rw [hxj] at h1; rw [hyj] at h2
            injection h1 with h1; injection h2 with h2
            subst h1 h2
            show ((x1, x2) == (y1, y2)) = _; rw [hbq]; cases b <;> simp_all
      · repeat' first
          | (refine goesD_q (y := .raw (.bool true)) (by first | decide | exact Nat.le_of_ble_eq_true rfl) (by rfl) (by rfl) ?_; refine sm ?_)
          | (refine goesD_q (y := .raw (.bool false)) (by first | decide | exact Nat.le_of_ble_eq_true rfl) (by rfl) (by rfl) ?_; refine sm ?_)
          | (refine goesD_b (by first | decide | exact Nat.le_of_ble_eq_true rfl) (by rfl) (by rfl) fun b hb => ?_; cases b <;> refine sm ?_)
          | (refine goesD_q (by first | decide | exact Nat.le_of_ble_eq_true rfl) (by rfl) (by rfl) ?_; refine sm ?_)
          | (refine goesD_s (by first | decide | exact Nat.le_of_ble_eq_true rfl) (by rfl) (qok_rop (by rfl)) ?_; refine sm ?_)
          | (refine goesD_off (by first | decide | exact Nat.le_of_ble_eq_true rfl) (by rfl) ?_; refine sm ?_)
          | (refine goesD_end (by rfl) ?_; refine sm ?_)
          | (refine goes_seq ?_)
        repeat' first
          | refine wk ?_
          | (refine goesL_b (by rfl) (by rfl) fun b hb => ?_; cases b <;> refine sm ?_)
        refine within_of (by repeat' first | exact True.intro | exact Of.raw _ | exact Of.emp | exact Of.ptr (has_nil (by rfl)) | exact Of.row (has_nil (by rfl)) | exact Of.yld (has_nil (by rfl)) | exact has_nil (by rfl) | assumption | exact Pure.of (by assumption) | exact Pure.of (pure_lvs _ _) | exact Pure.of (pure_tms _ _) | refine And.intro ?_ ?_ | exact ofC_pure (by assumption) | (refine Of.clo (fun _ ha => nomatch ha) (ofC_pure (by assumption))) | (refine Of.agg (OfC.all ?_)) | (refine Of.clo (fun _ ha => nomatch ha) (OfC.all ?_))) (by repeat' first | exact True.intro | refine And.intro ?_ ?_ | exact has_nil (by rfl)) (by first | exact True.intro | exact Of.raw _ | exact Of.ifc (Of.raw _)) (by repeat' first | exact True.intro | exact Of.raw _ | exact Of.emp | exact Of.ptr (has_nil (by rfl)) | exact Of.row (has_nil (by rfl)) | exact Of.yld (has_nil (by rfl)) | exact has_nil (by rfl) | assumption | exact Pure.of (by assumption) | exact Pure.of (pure_lvs _ _) | exact Pure.of (pure_tms _ _) | refine And.intro ?_ ?_ | exact ofC_pure (by assumption) | (refine Of.agg (OfC.all ?_)) | (refine Of.clo (fun _ ha => nomatch ha) (OfC.all ?_))) ?_
        refine ⟨rfl, _, rfl, ?_⟩
        rw [sameL_no j hxj hyj (by show ((x1, x2) == (y1, y2)) = _; rw [hbq]; cases b <;> simp_all)]
  · refine ⟨rfl, _, rfl, ?_⟩
    rw [sameL_len (by have : (X.length : Int) ≠ (Y.length : Int) := by simpa using hb
                      omega)]
theorem samelevel (ps qs : List (Int × Int)) (h : small ps.length) : Tells Tryz.prog (.func 66) [eLv ps, eLv qs] [] (eBool (sameL (fun x y : Int × Int => x == y) ps qs)) := by
  have hT := sameparts_row ps qs h
  refine tells_raw (fun b hb => ?_) (.raw _) ?_
  · simp at hb; rcases hb with rfl | rfl <;> exact pure_lv _
  unfold eLv
  refine gives_enter Tryz.func66 rfl rfl ?_
  repeat' first
    | refine wk ?_
    | (refine goesL_b (by rfl) (by rfl) fun b hb => ?_; cases b <;> refine sm ?_)
  refine goesL_tells hT (by rfl) (by rfl) (by rfl) (by rfl) (by rfl) (by rfl) ?_
  refine sm ?_
  repeat' first
    | refine wk ?_
    | (refine goesL_b (by rfl) (by rfl) fun b hb => ?_; cases b <;> refine sm ?_)
  all_goals (refine ⟨rfl, _, rfl, ?_⟩; simp_all)
theorem samelevels_row (eq : List (Int × Int) → List (Int × Int) → Bool) (xs ys : List (List (Int × Int))) (hx : small xs.length) (hE : ∀ x ∈ xs, ∀ y ∈ ys, Tells Tryz.prog (.func 66) [eLv x, eLv y] [] (eBool (eq x y))) : Tells Tryz.prog (.func 27) [.vals 1 (xs.map eLv), .vals 1 (ys.map eLv)] [] (eBool (sameL eq xs ys)) := by
  have hXp : Pure (.vals 1 (xs.map eLv)) := pure_lvs 1 xs
  have hYp : Pure (.vals 1 (ys.map eLv)) := pure_lvs 1 ys
  refine tells_raw (fun b hb => ?_) (.raw _) ?_
  · simp at hb; rcases hb with rfl | rfl <;> assumption
  obtain ⟨X, hX⟩ : ∃ L, xs.map eLv = L := ⟨_, rfl⟩
  obtain ⟨Y, hY⟩ : ∃ L, ys.map eLv = L := ⟨_, rfl⟩
  rw [hX, hY]
  rw [hX] at hXp
  rw [hY] at hYp
  have hlX : X.length = xs.length := by rw [← hX]; simp
  have hlY : Y.length = ys.length := by rw [← hY]; simp
  refine gives_enter Tryz.func27 rfl rfl ?_
  repeat' first
    | refine wk ?_
    | (refine goesL_b (by rfl) (by rfl) fun b hb => ?_; cases b <;> refine sm ?_)
  · have hXY : X.length = Y.length := by
      have : ¬ ((X.length : Int) ≠ (Y.length : Int)) := by simpa using hb
      omega
    refine goes_keep [0, 1, 4, 5] ?_
    refine goes_loop (fun m f h => ∃ j : Nat, j ≤ X.length ∧ m = X.length - j ∧ f = ⟨⟨27, [(0, .vals 1 X), (1, .vals 1 Y), (4, eBool false), (5, eInt (j : Int))]⟩, [], none⟩ ∧ h = ⟨0, [], []⟩ ∧ ∀ (i : Nat) x y, i < j → xs[i]? = some x → ys[i]? = some y → eq x y = true) ?_ X.length _ _ ⟨0, Nat.zero_le _, rfl, rfl, rfl, fun i x y hi => absurd hi (Nat.not_lt_zero i)⟩
    rintro m f h ⟨j, hj, rfl, rfl, rfl, hall⟩
    refine goes_scope [0, 1, 4, 5] ?_
    repeat' first
      | refine wk ?_
      | (refine goesL_b (by rfl) (by rfl) fun b hb => ?_; cases b <;> refine sm ?_)
    · refine within_of (by repeat' first | exact True.intro | exact Of.raw _ | exact Of.emp | exact Of.ptr (has_nil (by rfl)) | exact Of.row (has_nil (by rfl)) | exact Of.yld (has_nil (by rfl)) | exact has_nil (by rfl) | assumption | exact Pure.of (by assumption) | exact Pure.of (pure_lvs _ _) | exact Pure.of (pure_tms _ _) | refine And.intro ?_ ?_ | exact ofC_pure (by assumption) | (refine Of.clo (fun _ ha => nomatch ha) (ofC_pure (by assumption))) | (refine Of.agg (OfC.all ?_)) | (refine Of.clo (fun _ ha => nomatch ha) (OfC.all ?_))) (by repeat' first | exact True.intro | refine And.intro ?_ ?_ | exact has_nil (by rfl)) (by first | exact True.intro | exact Of.raw _ | exact Of.ifc (Of.raw _)) (by repeat' first | exact True.intro | exact Of.raw _ | exact Of.emp | exact Of.ptr (has_nil (by rfl)) | exact Of.row (has_nil (by rfl)) | exact Of.yld (has_nil (by rfl)) | exact has_nil (by rfl) | assumption | exact Pure.of (by assumption) | exact Pure.of (pure_lvs _ _) | exact Pure.of (pure_tms _ _) | refine And.intro ?_ ?_ | exact ofC_pure (by assumption) | (refine Of.agg (OfC.all ?_)) | (refine Of.clo (fun _ ha => nomatch ha) (OfC.all ?_))) ?_
      have hj' : j = X.length := by have := of_decide_eq_false hb; omega
      subst hj'
      refine sm ?_
      repeat' first
        | refine wk ?_
        | (refine goesL_b (by rfl) (by rfl) fun b hb => ?_; cases b <;> refine sm ?_)
      refine ⟨rfl, _, rfl, ?_⟩
      rw [sameL_yes (by omega) fun i x y h1 h2 => hall i x y (by have := (List.getElem?_eq_some_iff.1 h1).1; omega) h1 h2]
    · have hj' : j < X.length := by have := of_decide_eq_true hb; omega
      obtain ⟨x, hxj⟩ : ∃ u, xs[j]? = some u := ⟨_, List.getElem?_eq_getElem (by omega)⟩
      obtain ⟨y, hyj⟩ : ∃ u, ys[j]? = some u := ⟨_, List.getElem?_eq_getElem (by omega)⟩
      have hXj : X[j]? = some (eLv x) := by rw [← hX, List.getElem?_map, hxj]; rfl
      have hYj : Y[j]? = some (eLv y) := by rw [← hY, List.getElem?_map, hyj]; rfl
      have hT := hE x (List.mem_of_getElem? hxj) y (List.mem_of_getElem? hyj)
      obtain ⟨b, hbq⟩ : ∃ b, eq x y = b := ⟨_, rfl⟩
      rw [hbq] at hT
      refine goes_draw 10 [] (by rfl) (by kernel_rfl) ?_
      refine sm ?_
      repeat' first
        | (refine goesD_q (y := .raw (.bool true)) (by first | decide | exact Nat.le_of_ble_eq_true rfl) (by rfl) (by rfl) ?_; refine sm ?_)
        | (refine goesD_q (y := .raw (.bool false)) (by first | decide | exact Nat.le_of_ble_eq_true rfl) (by rfl) (by rfl) ?_; refine sm ?_)
        | (refine goesD_b (by first | decide | exact Nat.le_of_ble_eq_true rfl) (by rfl) (by rfl) fun b hb => ?_; cases b <;> refine sm ?_)
        | (refine goesD_q (by first | decide | exact Nat.le_of_ble_eq_true rfl) (by rfl) (by rfl) ?_; refine sm ?_)
        | (refine goesD_s (by first | decide | exact Nat.le_of_ble_eq_true rfl) (by rfl) (qok_rop (by rfl)) ?_; refine sm ?_)
        | (refine goesD_off (by first | decide | exact Nat.le_of_ble_eq_true rfl) (by rfl) ?_; refine sm ?_)
        | (refine goesD_end (by rfl) ?_; refine sm ?_)
        | (refine goes_seq ?_)
      refine goesD_index (m := j) (by decide) (by rfl) (by rfl) (by rfl) (by rfl) (by rfl) (by rfl) (by rfl) hXj ?_
      refine sm ?_
      repeat' first
        | (refine goesD_q (y := .raw (.bool true)) (by first | decide | exact Nat.le_of_ble_eq_true rfl) (by rfl) (by rfl) ?_; refine sm ?_)
        | (refine goesD_q (y := .raw (.bool false)) (by first | decide | exact Nat.le_of_ble_eq_true rfl) (by rfl) (by rfl) ?_; refine sm ?_)
        | (refine goesD_b (by first | decide | exact Nat.le_of_ble_eq_true rfl) (by rfl) (by rfl) fun b hb => ?_; cases b <;> refine sm ?_)
        | (refine goesD_q (by first | decide | exact Nat.le_of_ble_eq_true rfl) (by rfl) (by rfl) ?_; refine sm ?_)
        | (refine goesD_s (by first | decide | exact Nat.le_of_ble_eq_true rfl) (by rfl) (qok_rop (by rfl)) ?_; refine sm ?_)
        | (refine goesD_off (by first | decide | exact Nat.le_of_ble_eq_true rfl) (by rfl) ?_; refine sm ?_)
        | (refine goesD_end (by rfl) ?_; refine sm ?_)
        | (refine goes_seq ?_)
      refine goesD_index (m := j) (by decide) (by rfl) (by rfl) (by rfl) (by rfl) (by rfl) (by rfl) (by rfl) hYj ?_
      refine sm ?_
      repeat' first
        | (refine goesD_q (y := .raw (.bool true)) (by first | decide | exact Nat.le_of_ble_eq_true rfl) (by rfl) (by rfl) ?_; refine sm ?_)
        | (refine goesD_q (y := .raw (.bool false)) (by first | decide | exact Nat.le_of_ble_eq_true rfl) (by rfl) (by rfl) ?_; refine sm ?_)
        | (refine goesD_b (by first | decide | exact Nat.le_of_ble_eq_true rfl) (by rfl) (by rfl) fun b hb => ?_; cases b <;> refine sm ?_)
        | (refine goesD_q (by first | decide | exact Nat.le_of_ble_eq_true rfl) (by rfl) (by rfl) ?_; refine sm ?_)
        | (refine goesD_s (by first | decide | exact Nat.le_of_ble_eq_true rfl) (by rfl) (qok_rop (by rfl)) ?_; refine sm ?_)
        | (refine goesD_off (by first | decide | exact Nat.le_of_ble_eq_true rfl) (by rfl) ?_; refine sm ?_)
        | (refine goesD_end (by rfl) ?_; refine sm ?_)
        | (refine goes_seq ?_)
      refine goesD_tells hT (by decide) (by rfl) (by rfl) (by rfl) (by rfl) (by rfl) (by rfl) (by rfl) ?_
      refine sm ?_
      repeat' first
        | (refine goesD_q (y := .raw (.bool true)) (by first | decide | exact Nat.le_of_ble_eq_true rfl) (by rfl) (by rfl) ?_; refine sm ?_)
        | (refine goesD_q (y := .raw (.bool false)) (by first | decide | exact Nat.le_of_ble_eq_true rfl) (by rfl) (by rfl) ?_; refine sm ?_)
        | (refine goesD_b (by first | decide | exact Nat.le_of_ble_eq_true rfl) (by rfl) (by rfl) fun b hb => ?_; cases b <;> refine sm ?_)
        | (refine goesD_q (by first | decide | exact Nat.le_of_ble_eq_true rfl) (by rfl) (by rfl) ?_; refine sm ?_)
        | (refine goesD_s (by first | decide | exact Nat.le_of_ble_eq_true rfl) (by rfl) (qok_rop (by rfl)) ?_; refine sm ?_)
        | (refine goesD_off (by first | decide | exact Nat.le_of_ble_eq_true rfl) (by rfl) ?_; refine sm ?_)
        | (refine goesD_end (by rfl) ?_; refine sm ?_)
        | (refine goes_seq ?_)
      · repeat' first
          | refine wk ?_
          | (refine goesL_b (by rfl) (by rfl) fun b hb => ?_; cases b <;> refine sm ?_)
        refine within_of (by repeat' first | exact True.intro | exact Of.raw _ | exact Of.emp | exact Of.ptr (has_nil (by rfl)) | exact Of.row (has_nil (by rfl)) | exact Of.yld (has_nil (by rfl)) | exact has_nil (by rfl) | assumption | exact Pure.of (by assumption) | exact Pure.of (pure_lvs _ _) | exact Pure.of (pure_tms _ _) | refine And.intro ?_ ?_ | exact ofC_pure (by assumption) | (refine Of.clo (fun _ ha => nomatch ha) (ofC_pure (by assumption))) | (refine Of.agg (OfC.all ?_)) | (refine Of.clo (fun _ ha => nomatch ha) (OfC.all ?_))) (by repeat' first | exact True.intro | refine And.intro ?_ ?_ | exact has_nil (by rfl)) (by first | exact True.intro | exact Of.raw _ | exact Of.ifc (Of.raw _)) (by repeat' first | exact True.intro | exact Of.raw _ | exact Of.emp | exact Of.ptr (has_nil (by rfl)) | exact Of.row (has_nil (by rfl)) | exact Of.yld (has_nil (by rfl)) | exact has_nil (by rfl) | assumption | exact Pure.of (by assumption) | exact Pure.of (pure_lvs _ _) | exact Pure.of (pure_tms _ _) | refine And.intro ?_ ?_ | exact ofC_pure (by assumption) | (refine Of.agg (OfC.all ?_)) | (refine Of.clo (fun _ ha => nomatch ha) (OfC.all ?_))) ?_
        refine ⟨X.length - (j + 1), by omega, j + 1, by omega, rfl, ?_, rfl, fun i x' y' hi h1 h2 => ?_⟩
        · have e2 : IntKind.i64.wrap ((j : Int) + 1) = ((j + 1 : Nat) : Int) := by
            unfold small at hx
            rw [show ((j : Int) + 1) = ((j + 1 : Nat) : Int) from rfl, wrap_nat (by omega)]
          rw [e2]
          rfl
        · rcases Nat.lt_succ_iff_lt_or_eq.1 hi with hi | rfl
          · exact hall i x' y' hi h1 h2
          · rw [hxj] at h1; rw [hyj] at h2
            injection h1 with h1; injection h2 with h2
            subst h1 h2
            rw [hbq]; cases b <;> simp_all
      · repeat' first
          | refine wk ?_
          | (refine goesL_b (by rfl) (by rfl) fun b hb => ?_; cases b <;> refine sm ?_)
        refine within_of (by repeat' first | exact True.intro | exact Of.raw _ | exact Of.emp | exact Of.ptr (has_nil (by rfl)) | exact Of.row (has_nil (by rfl)) | exact Of.yld (has_nil (by rfl)) | exact has_nil (by rfl) | assumption | exact Pure.of (by assumption) | exact Pure.of (pure_lvs _ _) | exact Pure.of (pure_tms _ _) | refine And.intro ?_ ?_ | exact ofC_pure (by assumption) | (refine Of.clo (fun _ ha => nomatch ha) (ofC_pure (by assumption))) | (refine Of.agg (OfC.all ?_)) | (refine Of.clo (fun _ ha => nomatch ha) (OfC.all ?_))) (by repeat' first | exact True.intro | refine And.intro ?_ ?_ | exact has_nil (by rfl)) (by first | exact True.intro | exact Of.raw _ | exact Of.ifc (Of.raw _)) (by repeat' first | exact True.intro | exact Of.raw _ | exact Of.emp | exact Of.ptr (has_nil (by rfl)) | exact Of.row (has_nil (by rfl)) | exact Of.yld (has_nil (by rfl)) | exact has_nil (by rfl) | assumption | exact Pure.of (by assumption) | exact Pure.of (pure_lvs _ _) | exact Pure.of (pure_tms _ _) | refine And.intro ?_ ?_ | exact ofC_pure (by assumption) | (refine Of.agg (OfC.all ?_)) | (refine Of.clo (fun _ ha => nomatch ha) (OfC.all ?_))) ?_
        refine ⟨rfl, _, rfl, ?_⟩
        rw [sameL_no j hxj hyj (by rw [hbq]; cases b <;> simp_all)]
  · refine ⟨rfl, _, rfl, ?_⟩
    rw [sameL_len (by have : (X.length : Int) ≠ (Y.length : Int) := by simpa using hb
                      omega)]

theorem sameterms_row (eq : Tm → Tm → Bool) (xs ys : List (Tm)) (hx : small xs.length) (hE : ∀ x ∈ xs, ∀ y ∈ ys, Tells Tryz.prog (.func 54) [eTm x, eTm y] [] (eBool (eq x y))) : Tells Tryz.prog (.func 63) [.vals 5 (xs.map eTm), .vals 5 (ys.map eTm)] [] (eBool (sameL eq xs ys)) := by
  have hXp : Pure (.vals 5 (xs.map eTm)) := pure_tms 5 xs
  have hYp : Pure (.vals 5 (ys.map eTm)) := pure_tms 5 ys
  refine tells_raw (fun b hb => ?_) (.raw _) ?_
  · simp at hb; rcases hb with rfl | rfl <;> assumption
  obtain ⟨X, hX⟩ : ∃ L, xs.map eTm = L := ⟨_, rfl⟩
  obtain ⟨Y, hY⟩ : ∃ L, ys.map eTm = L := ⟨_, rfl⟩
  rw [hX, hY]
  rw [hX] at hXp
  rw [hY] at hYp
  have hlX : X.length = xs.length := by rw [← hX]; simp
  have hlY : Y.length = ys.length := by rw [← hY]; simp
  refine gives_enter Tryz.func63 rfl rfl ?_
  repeat' first
    | refine wk ?_
    | (refine goesL_b (by rfl) (by rfl) fun b hb => ?_; cases b <;> refine sm ?_)
  · have hXY : X.length = Y.length := by
      have : ¬ ((X.length : Int) ≠ (Y.length : Int)) := by simpa using hb
      omega
    refine goes_keep [0, 1, 4, 5] ?_
    refine goes_loop (fun m f h => ∃ j : Nat, j ≤ X.length ∧ m = X.length - j ∧ f = ⟨⟨27, [(0, .vals 5 X), (1, .vals 5 Y), (4, eBool false), (5, eInt (j : Int))]⟩, [], none⟩ ∧ h = ⟨0, [], []⟩ ∧ ∀ (i : Nat) x y, i < j → xs[i]? = some x → ys[i]? = some y → eq x y = true) ?_ X.length _ _ ⟨0, Nat.zero_le _, rfl, rfl, rfl, fun i x y hi => absurd hi (Nat.not_lt_zero i)⟩
    rintro m f h ⟨j, hj, rfl, rfl, rfl, hall⟩
    refine goes_scope [0, 1, 4, 5] ?_
    repeat' first
      | refine wk ?_
      | (refine goesL_b (by rfl) (by rfl) fun b hb => ?_; cases b <;> refine sm ?_)
    · refine within_of (by repeat' first | exact True.intro | exact Of.raw _ | exact Of.emp | exact Of.ptr (has_nil (by rfl)) | exact Of.row (has_nil (by rfl)) | exact Of.yld (has_nil (by rfl)) | exact has_nil (by rfl) | assumption | exact Pure.of (by assumption) | exact Pure.of (pure_lvs _ _) | exact Pure.of (pure_tms _ _) | refine And.intro ?_ ?_ | exact ofC_pure (by assumption) | (refine Of.clo (fun _ ha => nomatch ha) (ofC_pure (by assumption))) | (refine Of.agg (OfC.all ?_)) | (refine Of.clo (fun _ ha => nomatch ha) (OfC.all ?_))) (by repeat' first | exact True.intro | refine And.intro ?_ ?_ | exact has_nil (by rfl)) (by first | exact True.intro | exact Of.raw _ | exact Of.ifc (Of.raw _)) (by repeat' first | exact True.intro | exact Of.raw _ | exact Of.emp | exact Of.ptr (has_nil (by rfl)) | exact Of.row (has_nil (by rfl)) | exact Of.yld (has_nil (by rfl)) | exact has_nil (by rfl) | assumption | exact Pure.of (by assumption) | exact Pure.of (pure_lvs _ _) | exact Pure.of (pure_tms _ _) | refine And.intro ?_ ?_ | exact ofC_pure (by assumption) | (refine Of.agg (OfC.all ?_)) | (refine Of.clo (fun _ ha => nomatch ha) (OfC.all ?_))) ?_
      have hj' : j = X.length := by have := of_decide_eq_false hb; omega
      subst hj'
      refine sm ?_
      repeat' first
        | refine wk ?_
        | (refine goesL_b (by rfl) (by rfl) fun b hb => ?_; cases b <;> refine sm ?_)
      refine ⟨rfl, _, rfl, ?_⟩
      rw [sameL_yes (by omega) fun i x y h1 h2 => hall i x y (by have := (List.getElem?_eq_some_iff.1 h1).1; omega) h1 h2]
    · have hj' : j < X.length := by have := of_decide_eq_true hb; omega
      obtain ⟨x, hxj⟩ : ∃ u, xs[j]? = some u := ⟨_, List.getElem?_eq_getElem (by omega)⟩
      obtain ⟨y, hyj⟩ : ∃ u, ys[j]? = some u := ⟨_, List.getElem?_eq_getElem (by omega)⟩
      have hXj : X[j]? = some (eTm x) := by rw [← hX, List.getElem?_map, hxj]; rfl
      have hYj : Y[j]? = some (eTm y) := by rw [← hY, List.getElem?_map, hyj]; rfl
      have hT := hE x (List.mem_of_getElem? hxj) y (List.mem_of_getElem? hyj)
      obtain ⟨k1, n1, a1, lv1, kids1⟩ := x
      obtain ⟨k2, n2, a2, lv2, kids2⟩ := y
      rw [eTm_mk] at hXj hYj
      rw [eTm_mk, eTm_mk] at hT
      obtain ⟨b, hbq⟩ : ∃ b, eq (.mk k1 n1 a1 lv1 kids1) (.mk k2 n2 a2 lv2 kids2) = b := ⟨_, rfl⟩
      rw [hbq] at hT
      refine goes_draw 10 [] (by rfl) (by kernel_rfl) ?_
      refine sm ?_
      repeat' first
        | (refine goesD_q (y := .raw (.bool true)) (by first | decide | exact Nat.le_of_ble_eq_true rfl) (by rfl) (by rfl) ?_; refine sm ?_)
        | (refine goesD_q (y := .raw (.bool false)) (by first | decide | exact Nat.le_of_ble_eq_true rfl) (by rfl) (by rfl) ?_; refine sm ?_)
        | (refine goesD_b (by first | decide | exact Nat.le_of_ble_eq_true rfl) (by rfl) (by rfl) fun b hb => ?_; cases b <;> refine sm ?_)
        | (refine goesD_q (by first | decide | exact Nat.le_of_ble_eq_true rfl) (by rfl) (by rfl) ?_; refine sm ?_)
        | (refine goesD_s (by first | decide | exact Nat.le_of_ble_eq_true rfl) (by rfl) (qok_rop (by rfl)) ?_; refine sm ?_)
        | (refine goesD_off (by first | decide | exact Nat.le_of_ble_eq_true rfl) (by rfl) ?_; refine sm ?_)
        | (refine goesD_end (by rfl) ?_; refine sm ?_)
        | (refine goes_seq ?_)
      refine goesD_index (m := j) (by decide) (by rfl) (by rfl) (by rfl) (by rfl) (by rfl) (by rfl) (by rfl) hXj ?_
      refine sm ?_
      repeat' first
        | (refine goesD_q (y := .raw (.bool true)) (by first | decide | exact Nat.le_of_ble_eq_true rfl) (by rfl) (by rfl) ?_; refine sm ?_)
        | (refine goesD_q (y := .raw (.bool false)) (by first | decide | exact Nat.le_of_ble_eq_true rfl) (by rfl) (by rfl) ?_; refine sm ?_)
        | (refine goesD_b (by first | decide | exact Nat.le_of_ble_eq_true rfl) (by rfl) (by rfl) fun b hb => ?_; cases b <;> refine sm ?_)
        | (refine goesD_q (by first | decide | exact Nat.le_of_ble_eq_true rfl) (by rfl) (by rfl) ?_; refine sm ?_)
        | (refine goesD_s (by first | decide | exact Nat.le_of_ble_eq_true rfl) (by rfl) (qok_rop (by rfl)) ?_; refine sm ?_)
        | (refine goesD_off (by first | decide | exact Nat.le_of_ble_eq_true rfl) (by rfl) ?_; refine sm ?_)
        | (refine goesD_end (by rfl) ?_; refine sm ?_)
        | (refine goes_seq ?_)
      refine goesD_index (m := j) (by decide) (by rfl) (by rfl) (by rfl) (by rfl) (by rfl) (by rfl) (by rfl) hYj ?_
      refine sm ?_
      repeat' first
        | (refine goesD_q (y := .raw (.bool true)) (by first | decide | exact Nat.le_of_ble_eq_true rfl) (by rfl) (by rfl) ?_; refine sm ?_)
        | (refine goesD_q (y := .raw (.bool false)) (by first | decide | exact Nat.le_of_ble_eq_true rfl) (by rfl) (by rfl) ?_; refine sm ?_)
        | (refine goesD_b (by first | decide | exact Nat.le_of_ble_eq_true rfl) (by rfl) (by rfl) fun b hb => ?_; cases b <;> refine sm ?_)
        | (refine goesD_q (by first | decide | exact Nat.le_of_ble_eq_true rfl) (by rfl) (by rfl) ?_; refine sm ?_)
        | (refine goesD_s (by first | decide | exact Nat.le_of_ble_eq_true rfl) (by rfl) (qok_rop (by rfl)) ?_; refine sm ?_)
        | (refine goesD_off (by first | decide | exact Nat.le_of_ble_eq_true rfl) (by rfl) ?_; refine sm ?_)
        | (refine goesD_end (by rfl) ?_; refine sm ?_)
        | (refine goes_seq ?_)
      refine goesD_tells hT (by decide) (by rfl) (by rfl) (by rfl) (by rfl) (by rfl) (by rfl) (by rfl) ?_
      refine sm ?_
      repeat' first
        | (refine goesD_q (y := .raw (.bool true)) (by first | decide | exact Nat.le_of_ble_eq_true rfl) (by rfl) (by rfl) ?_; refine sm ?_)
        | (refine goesD_q (y := .raw (.bool false)) (by first | decide | exact Nat.le_of_ble_eq_true rfl) (by rfl) (by rfl) ?_; refine sm ?_)
        | (refine goesD_b (by first | decide | exact Nat.le_of_ble_eq_true rfl) (by rfl) (by rfl) fun b hb => ?_; cases b <;> refine sm ?_)
        | (refine goesD_q (by first | decide | exact Nat.le_of_ble_eq_true rfl) (by rfl) (by rfl) ?_; refine sm ?_)
        | (refine goesD_s (by first | decide | exact Nat.le_of_ble_eq_true rfl) (by rfl) (qok_rop (by rfl)) ?_; refine sm ?_)
        | (refine goesD_off (by first | decide | exact Nat.le_of_ble_eq_true rfl) (by rfl) ?_; refine sm ?_)
        | (refine goesD_end (by rfl) ?_; refine sm ?_)
        | (refine goes_seq ?_)
      · repeat' first
          | refine wk ?_
          | (refine goesL_b (by rfl) (by rfl) fun b hb => ?_; cases b <;> refine sm ?_)
        refine within_of (by repeat' first | exact True.intro | exact Of.raw _ | exact Of.emp | exact Of.ptr (has_nil (by rfl)) | exact Of.row (has_nil (by rfl)) | exact Of.yld (has_nil (by rfl)) | exact has_nil (by rfl) | assumption | exact Pure.of (by assumption) | exact Pure.of (pure_lvs _ _) | exact Pure.of (pure_tms _ _) | refine And.intro ?_ ?_ | exact ofC_pure (by assumption) | (refine Of.clo (fun _ ha => nomatch ha) (ofC_pure (by assumption))) | (refine Of.agg (OfC.all ?_)) | (refine Of.clo (fun _ ha => nomatch ha) (OfC.all ?_))) (by repeat' first | exact True.intro | refine And.intro ?_ ?_ | exact has_nil (by rfl)) (by first | exact True.intro | exact Of.raw _ | exact Of.ifc (Of.raw _)) (by repeat' first | exact True.intro | exact Of.raw _ | exact Of.emp | exact Of.ptr (has_nil (by rfl)) | exact Of.row (has_nil (by rfl)) | exact Of.yld (has_nil (by rfl)) | exact has_nil (by rfl) | assumption | exact Pure.of (by assumption) | exact Pure.of (pure_lvs _ _) | exact Pure.of (pure_tms _ _) | refine And.intro ?_ ?_ | exact ofC_pure (by assumption) | (refine Of.agg (OfC.all ?_)) | (refine Of.clo (fun _ ha => nomatch ha) (OfC.all ?_))) ?_
        refine ⟨X.length - (j + 1), by omega, j + 1, by omega, rfl, ?_, rfl, fun i x' y' hi h1 h2 => ?_⟩
        · have e2 : IntKind.i64.wrap ((j : Int) + 1) = ((j + 1 : Nat) : Int) := by
            unfold small at hx
            rw [show ((j : Int) + 1) = ((j + 1 : Nat) : Int) from rfl, wrap_nat (by omega)]
          rw [e2]
          rfl
        · rcases Nat.lt_succ_iff_lt_or_eq.1 hi with hi | rfl
          · exact hall i x' y' hi h1 h2
          · rw [hxj] at h1; rw [hyj] at h2
            injection h1 with h1; injection h2 with h2
            subst h1 h2
            rw [hbq]; cases b <;> simp_all
      · repeat' first
          | refine wk ?_
          | (refine goesL_b (by rfl) (by rfl) fun b hb => ?_; cases b <;> refine sm ?_)
        refine within_of (by repeat' first | exact True.intro | exact Of.raw _ | exact Of.emp | exact Of.ptr (has_nil (by rfl)) | exact Of.row (has_nil (by rfl)) | exact Of.yld (has_nil (by rfl)) | exact has_nil (by rfl) | assumption | exact Pure.of (by assumption) | exact Pure.of (pure_lvs _ _) | exact Pure.of (pure_tms _ _) | refine And.intro ?_ ?_ | exact ofC_pure (by assumption) | (refine Of.clo (fun _ ha => nomatch ha) (ofC_pure (by assumption))) | (refine Of.agg (OfC.all ?_)) | (refine Of.clo (fun _ ha => nomatch ha) (OfC.all ?_))) (by repeat' first | exact True.intro | refine And.intro ?_ ?_ | exact has_nil (by rfl)) (by first | exact True.intro | exact Of.raw _ | exact Of.ifc (Of.raw _)) (by repeat' first | exact True.intro | exact Of.raw _ | exact Of.emp | exact Of.ptr (has_nil (by rfl)) | exact Of.row (has_nil (by rfl)) | exact Of.yld (has_nil (by rfl)) | exact has_nil (by rfl) | assumption | exact Pure.of (by assumption) | exact Pure.of (pure_lvs _ _) | exact Pure.of (pure_tms _ _) | refine And.intro ?_ ?_ | exact ofC_pure (by assumption) | (refine Of.agg (OfC.all ?_)) | (refine Of.clo (fun _ ha => nomatch ha) (OfC.all ?_))) ?_
        refine ⟨rfl, _, rfl, ?_⟩
        rw [sameL_no j hxj hyj (by rw [hbq]; cases b <;> simp_all)]
  · refine ⟨rfl, _, rfl, ?_⟩
    rw [sameL_len (by have : (X.length : Int) ≠ (Y.length : Int) := by simpa using hb
                      omega)]

theorem samelevels (xs ys : List (List (Int × Int))) (h : lensSum xs ≤ 1048576) : Tells Tryz.prog (.func 27) [.vals 1 (xs.map eLv), .vals 1 (ys.map eLv)] [] (eBool (sameL (sameL fun x y : Int × Int => x == y) xs ys)) :=
  samelevels_row _ xs ys (by have := lensSum_len xs; unfold small; omega) fun x hx y _ => samelevel x y (by have := lensSum_mem xs x hx; unfold small; omega)
theorem sameterm (t : Tm) : t.count ≤ 1048576 → ∀ u : Tm, Tells Tryz.prog (.func 54) [eTm t, eTm u] [] (eBool (t.same u)) := by
  induction t using Tm.ind with
  | h k n a lv kids ih =>
  intro hc u
  obtain ⟨k', n', a', lv', kids'⟩ := u
  rw [Tm.count_mk] at hc
  have hL := samelevels lv lv' (by omega)
  have hK := sameterms_row Tm.same kids kids' (by have := Tm.countL_len kids; unfold small; omega) fun x hx y _ => ih x hx (by have := Tm.countL_mem kids x hx; omega) y
  refine tells_raw (fun b hb => ?_) (.raw _) ?_
  · simp at hb; rcases hb with rfl | rfl <;> exact pure_tm _
  rw [eTm_mk, eTm_mk, Tm.same_mk]
  obtain ⟨rl, hrl⟩ : ∃ b, sameL (sameL fun x y : Int × Int => x == y) lv lv' = b := ⟨_, rfl⟩
  obtain ⟨rk, hrk⟩ : ∃ b, sameL Tm.same kids kids' = b := ⟨_, rfl⟩
  rw [hrl] at hL
  rw [hrk] at hK
  rw [hrl, hrk]
  refine gives_enter Tryz.func54 rfl rfl ?_
  repeat' first
    | refine wk ?_
    | (refine goesL_b (by rfl) (by rfl) fun b hb => ?_; cases b <;> refine sm ?_)
  case h.refine_2.true.true.true =>
    refine goesL_tells hL (by rfl) (by rfl) (by rfl) (by rfl) (by rfl) (by rfl) ?_
    refine sm ?_
    cases rl
    · repeat' first
        | refine wk ?_
        | (refine goesL_b (by rfl) (by rfl) fun b hb => ?_; cases b <;> refine sm ?_)
      all_goals (refine ⟨rfl, _, rfl, ?_⟩; simp_all)
    · repeat' first
        | refine wk ?_
        | (refine goesL_b (by rfl) (by rfl) fun b hb => ?_; cases b <;> refine sm ?_)
      refine goesL_tells hK (by rfl) (by rfl) (by rfl) (by rfl) (by rfl) (by rfl) ?_
      refine sm ?_
      cases rk
      · repeat' first
          | refine wk ?_
          | (refine goesL_b (by rfl) (by rfl) fun b hb => ?_; cases b <;> refine sm ?_)
        all_goals (refine ⟨rfl, _, rfl, ?_⟩; simp_all)
      · repeat' first
          | refine wk ?_
          | (refine goesL_b (by rfl) (by rfl) fun b hb => ?_; cases b <;> refine sm ?_)
        all_goals (refine ⟨rfl, _, rfl, ?_⟩; simp_all)
  all_goals (refine ⟨rfl, _, rfl, ?_⟩; simp_all)
end Go.Proofs.YtaoglkkdhdfioaaGreatDoor
