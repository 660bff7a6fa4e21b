/- tele.Vars, Lifts, Puts. -/
import Derived.Test.YtaoglkkdhdfioaaGreatDoorEvWk
import Derived.Test.YtaoglkkdhdfioaaGreatDoorTeOpen
import Derived.Test.YtaoglkkdhdfioaaGreatDoorTeAbove
import Derived.KernelRfl
import Derived.Test.YtaoglkkdhdfioaaGreatDoorProg
namespace Go.Proofs.YtaoglkkdhdfioaaGreatDoor
open Go Go.Proofs
set_option maxRecDepth 100000
set_option maxHeartbeats 2000000
attribute [local go_sem] AH.seals AH.adds news List.nil_append List.cons_append AF.put AF.start Slots.set Slots.ins zipA AH.zero AH.new AH.put AH.sub ofV AV.cells List.length AF.keep AH.cut List.filter_cons List.filter_nil List.contains_cons List.contains_nil Nat.reduceBEq Bool.or_false Bool.or_true Bool.true_or Bool.false_or decide_true decide_false Bool.not_false Bool.and_true Bool.true_and Bool.and_self List.append_nil List.getElem_toArray List.getElem_cons_zero List.getElem_cons_succ Nat.reduceLT Nat.reduceAdd Nat.reduceSub Nat.reduceEqDiff andThen atEnd rounds Tryz.ntmps25 Tryz.ntmps22 Tryz.ntmps58 Tryz.ntmps59 Tryz.ntmps19
theorem lifts1_tells (m from' i : Int) (t : Tm) (hs : t.size ≤ 1073741824) (hf : t.fit) : Tells Tryz.prog (.func 59) [eInt i, eTm t] [.vptr [eInt m], .vptr [eInt from']] (eTm (t.walk (liftT m (IntKind.i64.wrap (from' + i))) 0)) := by
  have hT := lift_tells t m (IntKind.i64.wrap (from' + i)) hs hf
  refine tells_raw (fun b hb => ?_) (pure_tm _) ?_
  · simp at hb; rcases hb with rfl | rfl | rfl | rfl
    · exact .raw _
    · exact pure_tm t
    · exact .vptr (by simp; exact .raw _)
    · exact .vptr (by simp; exact .raw _)
  generalize t.walk (liftT m (IntKind.i64.wrap (from' + i))) 0 = u at hT ⊢
  rw [eTm_agg u] at hT ⊢
  rw [eTm_agg t] at hT ⊢
  obtain ⟨k, n, a, lv, kids⟩ := t
  obtain ⟨k', n', a', lv', kids'⟩ := u
  refine gives_enter Tryz.func59 rfl rfl ?_
  repeat' first
    | refine wk ?_
    | (refine goesL_b (by rfl) (by rfl) fun b hb => ?_; cases b <;> refine sm ?_)
  refine goesL_tells hT (by rfl) (by rfl) (by rfl) (by rfl) (by rfl) (by rfl) ?_
  refine sm ?_
  repeat' first
    | refine wk ?_
    | (refine goesL_b (by rfl) (by rfl) fun b hb => ?_; cases b <;> refine sm ?_)
  exact ⟨rfl, _, rfl, rfl⟩
theorem each_tells (F : Nat) (cap : List AV) (g : Nat → Tm → Tm) (row : List Tm) (hcap : ∀ a ∈ cap, Pure a) (hn : row.length ≤ 1048576) (hT : ∀ (i : Nat) (u : Tm), row[i]? = some u → Tells Tryz.prog (.func F) [eInt (i : Int), eTm u] cap (eTm (g i u))) : Tells Tryz.prog (.func 58) [.vals 5 (row.map eTm), .clo (.func F) [] cap] [] (.vals 5 ((row.mapIdx g).map eTm)) := by
  obtain ⟨K, hK⟩ : ∃ K, row.map eTm = K := ⟨_, rfl⟩
  have hlen : K.length = row.length := by rw [← hK]; simp
  have hKp : Pure (.vals 5 K) := hK ▸ pure_tms 5 row
  refine tells_of (fun b hb => ?_) (pure_tms 5 _) ?_
  · simp at hb; rcases hb with rfl | rfl
    · exact pure_tms 5 row
    · exact .clo (by simp) hcap
  rw [hK]
  refine gives_enter Tryz.func58 rfl rfl ?_
  repeat' first
    | refine wk ?_
    | (refine goesL_b (by rfl) (by rfl) fun b hb => ?_; cases b <;> refine sm ?_)
  refine goes_keep [1, 5, 8, 9, 10] ?_
  refine goes_loop (fun m f' h => ∃ (j : Nat) (c : List Tm), j ≤ K.length ∧ m = K.length - j ∧ c = (row.take j).mapIdx g ∧ c.length = j ∧
    ((j = 0 ∧ f'.keep [1, 5, 8, 9, 10] = ⟨⟨24, [(1, .clo (.func F) [] cap), (5, .raw (.slice none 0 0)), (8, .vals 5 K), (9, eInt (K.length : Int)), (10, eInt 0)]⟩, [], none⟩ ∧ h = ⟨0, [], []⟩) ∨
     ∃ m1 : Nat, j = m1 + 1 ∧ f'.keep [1, 5, 8, 9, 10] = ⟨⟨24, [(1, .clo (.func F) [] cap), (5, .row 2 m1 0 (m1 + 1)), (8, .vals 5 K), (9, eInt (K.length : Int)), (10, eInt ((m1 + 1 : Nat) : Int))]⟩, [], none⟩ ∧ ∃ g0 g1 : List AV, (∀ a ∈ g0, Pure a) ∧ (∀ a ∈ g1, Pure a) ∧ h = ⟨3, [], [(2, .cells ⟨m1, 26, 5, 0, tmsC c⟩), (1, .cells (tmBlk 5 g1)), (0, .cells (tmBlk 1 g0))]⟩)) ?_ K.length _ _ ⟨0, [], Nat.zero_le _, rfl, rfl, rfl, .inl ⟨rfl, rfl, rfl⟩⟩
  rintro m f' h ⟨j, c, hj, rfl, hc, hcl, ⟨rfl, hkf, rfl⟩ | ⟨m1, rfl, hkf, g0, g1, hg0, hg1, rfl⟩⟩
  all_goals (refine goes_keep [1, 5, 8, 9, 10] ?_; rw [hkf])
  · obtain rfl : c = [] := List.length_eq_zero_iff.1 hcl
    rcases Nat.eq_zero_or_pos K.length with h0 | hpos
    · have hrow : row = [] := List.length_eq_zero_iff.1 (by omega)
      have hK0 : K = [] := List.length_eq_zero_iff.1 h0
      subst hrow hK0
      repeat' first
        | refine wk ?_
        | (refine goesL_b (by rfl) (by rfl) fun b hb => ?_; cases b <;> refine sm ?_)
      exact ⟨rfl, _, rfl, _, [], [], rfl, .none .nil, fun p hp => nomatch hp⟩
    · obtain ⟨u, hu⟩ : ∃ u, row[0]? = some u := ⟨_, List.getElem?_eq_getElem (by omega)⟩
      have hKu : K[0]? = some (.agg (tmC u)) := by rw [← hK, List.getElem?_map, hu, ← eTm_agg]; rfl
      have hTu := hT 0 u hu
      have hcg : (row.take (0 + 1)).mapIdx g = [g 0 u] := by
        cases row with
        | nil => cases hu
        | cons x xs => injection hu with hu; subst hu; simp
      generalize g 0 u = v at hTu hcg
      rw [eTm_agg u, eTm_agg v] at hTu
      have hpu := pure_tmC u
      obtain ⟨k1, n1, a1, lv1, kids1⟩ := u
      obtain ⟨k2, n2, a2, lv2, kids2⟩ := v
      repeat' first
        | refine wk ?_
        | (refine goesL_b (by rfl) (by rfl) fun b hb => ?_; cases b <;> refine sm ?_)
      · exact absurd (of_decide_eq_false hb) (by omega)
      refine goesL_index (n := 0) (by rfl) (by rfl) (by rfl) (by rfl) (by rfl) (by rfl) (by rfl) hKu ?_
      refine sm ?_
      repeat' first
        | refine wk ?_
        | (refine goesL_b (by rfl) (by rfl) fun b hb => ?_; cases b <;> refine sm ?_)
      refine goesL_tells hTu (by rfl) (by rfl) (by rfl) (by rfl) (by rfl) (by rfl) ?_
      refine sm ?_
      repeat' first
        | refine wk ?_
        | (refine goesL_b (by rfl) (by rfl) fun b hb => ?_; cases b <;> refine sm ?_)
      refine ⟨K.length - 1, by omega, 1, [.mk k2 n2 a2 lv2 kids2], by omega, rfl, hcg.symm, rfl, .inr ⟨0, rfl, by first | rfl | trivial, tmC (.mk k1 n1 a1 lv1 kids1), tmC (.mk k2 n2 a2 lv2 kids2), hpu, pure_tmC _, ?_⟩⟩
      rw [show tmsC [Tm.mk k2 n2 a2 lv2 kids2] = tmC (.mk k2 n2 a2 lv2 kids2) by rw [tmsC_cons, tmsC_nil, List.append_nil]]
      rfl
  · have hpc := pure_tmsC c
    refine goes_scope [1, 5, 8, 9, 10] ?_
    rcases Nat.lt_or_eq_of_le hj with hj' | hj'
    · obtain ⟨u, hu⟩ : ∃ u, row[m1 + 1]? = some u := ⟨_, List.getElem?_eq_getElem (by omega)⟩
      have hKu : K[m1 + 1]? = some (.agg (tmC u)) := by rw [← hK, List.getElem?_map, hu, ← eTm_agg]; rfl
      have hTu := hT (m1 + 1) u hu
      have hcg : (row.take (m1 + 1 + 1)).mapIdx g = c ++ [g (m1 + 1) u] := by
        rw [hc, List.take_add_one, hu, Option.toList_some, List.mapIdx_append, List.length_take, Nat.min_eq_left (by omega)]
        simp
      generalize g (m1 + 1) u = v at hTu hcg
      rw [eTm_agg u, eTm_agg v] at hTu
      have hpu := pure_tmC u
      have hcy : tmsC (c ++ [v]) = tmsC c ++ tmC v := by rw [tmsC_append, tmsC_cons, tmsC_nil, List.append_nil]
      have hpcv := pure_tmsC (c ++ [v])
      have hlc : (tmsC c).length = (m1 + 1) * 5 := by rw [tmsC_length, hcl]
      obtain ⟨k1, n1, a1, lv1, kids1⟩ := u
      obtain ⟨k2, n2, a2, lv2, kids2⟩ := v
      repeat' first
        | refine wk ?_
        | (refine goesL_b (by rfl) (by rfl) fun b hb => ?_; cases b <;> refine sm ?_)
      · exact absurd (of_decide_eq_false hb) (by omega)
      refine goesL_index (n := m1 + 1) (by rfl) (by rfl) (by rfl) (by rfl) (by rfl) (by rfl) (by rfl) hKu ?_
      refine sm ?_
      repeat' first
        | refine wk ?_
        | (refine goesL_b (by rfl) (by rfl) fun b hb => ?_; cases b <;> refine sm ?_)
      refine goesL_tells hTu (by rfl) (by rfl) (by rfl) (by rfl) (by rfl) (by rfl) ?_
      refine sm ?_
      repeat' first
        | refine wk ?_
        | (refine goesL_b (by rfl) (by rfl) fun b hb => ?_; cases b <;> refine sm ?_)
      have hap : (tmsC c).take ((m1 + 1) * 5) ++ tmC (.mk k2 n2 a2 lv2 kids2) = tmsC (c ++ [.mk k2 n2 a2 lv2 kids2]) := by rw [hcy, List.take_of_length_le (by omega)]
      refine goesL_m (by rfl) (mop_append (len := m1 + 1) (n := 0) (bs := tmC (.mk k2 n2 a2 lv2 kids2)) (by rfl) (by rfl) (by rfl) (by rfl) (by rfl) (by rfl) (by rfl) (by rfl) (by rfl) (by decide) (by rfl) (by rfl) (by rfl) (now_of (c := ⟨m1, 26, 5, 0, tmsC c⟩) rfl) (by rfl) (by rfl) (Nat.zero_le _) (by unfold tops; omega) (by decide)) ?_
      refine sm ?_
      rw [hap]
      repeat' first
        | refine wk ?_
        | (refine goesL_b (by rfl) (by rfl) fun b hb => ?_; cases b <;> refine sm ?_)
      refine within_of (by repeat' first | exact True.intro | exact Of.raw _ | exact Of.emp | exact Of.ptr (has_nil (by rfl)) | exact Of.row (has_nil (by rfl)) | exact Of.yld (has_nil (by rfl)) | exact has_nil (by rfl) | assumption | exact Pure.of (by assumption) | exact Pure.of (pure_lvs _ _) | exact Pure.of (pure_tms _ _) | refine And.intro ?_ ?_ | exact ofC_pure (by assumption) | (refine Of.clo (fun _ ha => nomatch ha) (ofC_pure (by assumption))) | (refine Of.agg (OfC.all ?_)) | (refine Of.clo (fun _ ha => nomatch ha) (OfC.all ?_))) (by repeat' first | exact True.intro | refine And.intro ?_ ?_ | exact has_nil (by rfl)) (by first | exact True.intro | exact Of.raw _ | exact Of.ifc (Of.raw _)) (by repeat' first | exact True.intro | exact Of.raw _ | exact Of.emp | exact Of.ptr (has_nil (by rfl)) | exact Of.row (has_nil (by rfl)) | exact Of.yld (has_nil (by rfl)) | exact has_nil (by rfl) | assumption | exact Pure.of (by assumption) | exact Pure.of (pure_lvs _ _) | exact Pure.of (pure_tms _ _) | refine And.intro ?_ ?_ | exact ofC_pure (by assumption) | (refine Of.agg (OfC.all ?_)) | (refine Of.clo (fun _ ha => nomatch ha) (OfC.all ?_))) ?_
      refine ⟨K.length - (m1 + 1 + 1), by omega, m1 + 1 + 1, c ++ [.mk k2 n2 a2 lv2 kids2], by omega, rfl, hcg.symm, by simp [hcl], .inr ⟨m1 + 1, rfl, ?_, g0, g1, hg0, hg1, rfl⟩⟩
      have e2 : IntKind.i64.wrap (((m1 + 1 : Nat) : Int) + 1) = ((m1 + 1 + 1 : Nat) : Int) := by
        rw [show (((m1 + 1 : Nat) : Int) + 1) = ((m1 + 1 + 1 : Nat) : Int) from rfl, wrap_nat (by omega)]
      rw [← e2]
      rfl
    · have hcr : row.mapIdx g = c := by
        rw [hc, List.take_of_length_le (by omega)]
      rw [hcr]
      repeat' first
        | refine wk ?_
        | (refine goesL_b (by rfl) (by rfl) fun b hb => ?_; cases b <;> refine sm ?_)
      · refine within_of (by repeat' first | exact True.intro | exact Of.raw _ | exact Of.emp | exact Of.ptr (has_nil (by rfl)) | exact Of.row (has_nil (by rfl)) | exact Of.yld (has_nil (by rfl)) | exact has_nil (by rfl) | assumption | exact Pure.of (by assumption) | exact Pure.of (pure_lvs _ _) | exact Pure.of (pure_tms _ _) | refine And.intro ?_ ?_ | exact ofC_pure (by assumption) | (refine Of.clo (fun _ ha => nomatch ha) (ofC_pure (by assumption))) | (refine Of.agg (OfC.all ?_)) | (refine Of.clo (fun _ ha => nomatch ha) (OfC.all ?_))) (by repeat' first | exact True.intro | refine And.intro ?_ ?_ | exact has_nil (by rfl)) (by first | exact True.intro | exact Of.raw _ | exact Of.ifc (Of.raw _)) (by repeat' first | exact True.intro | exact Of.raw _ | exact Of.emp | exact Of.ptr (has_nil (by rfl)) | exact Of.row (has_nil (by rfl)) | exact Of.yld (has_nil (by rfl)) | exact has_nil (by rfl) | assumption | exact Pure.of (by assumption) | exact Pure.of (pure_lvs _ _) | exact Pure.of (pure_tms _ _) | refine And.intro ?_ ?_ | exact ofC_pure (by assumption) | (refine Of.agg (OfC.all ?_)) | (refine Of.clo (fun _ ha => nomatch ha) (OfC.all ?_))) ?_
        refine sm ?_
        repeat' first
          | refine wk ?_
          | (refine goesL_b (by rfl) (by rfl) fun b hb => ?_; cases b <;> refine sm ?_)
        have hz2 : ∀ e ∈ c.map eTm, e.cells.length = 5 := fun e he => by
          obtain ⟨t, _, rfl⟩ := List.mem_map.1 he
          rw [tmC_eq, tmC_length]
        have hp2 : ∀ e ∈ c.map eTm, Pure e := fun e he => by
          obtain ⟨t, _, rfl⟩ := List.mem_map.1 he
          exact pure_tm t
        exact ⟨rfl, _, rfl, _, [(2, (m1 + 1) * 5)], [(2, 0 + (m1 + 1) * 5)], rfl, (snap_own (c := ⟨m1, 26, 5, 0, tmsC c⟩) (es := c.map eTm) (n := m1 + 1) rfl rfl hz2 hp2 (by simp [hcl])).1, (snap_own (c := ⟨m1, 26, 5, 0, tmsC c⟩) (es := c.map eTm) (n := m1 + 1) rfl rfl hz2 hp2 (by simp [hcl])).2⟩
      · exact absurd (of_decide_eq_true hb) (by omega)
/-- a row lifted -/
def liftsT (m from' : Int) (row : List Tm) : List Tm := row.mapIdx fun i t => t.walk (liftT m (IntKind.i64.wrap (from' + (i : Int)))) 0
theorem lifts_tells (m from' : Int) (row : List Tm) (hn : row.length ≤ 1048576) (hs : ∀ t ∈ row, t.size ≤ 1073741824) (hf : ∀ t ∈ row, t.fit) : Tells Tryz.prog (.func 19) [.vals 5 (row.map eTm), eInt m, eInt from'] [] (.vals 5 ((liftsT m from' row).map eTm)) := by
  have hT := each_tells 59 [.vptr [eInt m], .vptr [eInt from']] (fun i t => t.walk (liftT m (IntKind.i64.wrap (from' + (i : Int)))) 0) row (by
    intro a ha
    simp at ha
    rcases ha with rfl | rfl
    · exact .vptr (by simp; exact .raw _)
    · exact .vptr (by simp; exact .raw _)) hn fun i u hu => lifts1_tells m from' i u (hs u (List.mem_of_getElem? hu)) (hf u (List.mem_of_getElem? hu))
  refine tells_raw (fun b hb => ?_) (pure_tms 5 _) ?_
  · simp at hb; rcases hb with rfl | rfl | rfl
    · exact pure_tms 5 row
    · exact .raw _
    · exact .raw _
  have hp := pure_tms 5 row
  show Gives _ _ _ _ _ fun r _ => r = .ret (.vals 5 (List.map eTm (List.mapIdx (fun i t => t.walk (liftT m (IntKind.i64.wrap (from' + (i : Int)))) 0) row)))
  generalize List.mapIdx (fun (i : Nat) (t : Tm) => t.walk (liftT m (IntKind.i64.wrap (from' + (i : Int)))) 0) row = out at hT ⊢
  generalize List.map eTm row = K at hT hp ⊢
  generalize List.map eTm out = O at hT ⊢
  refine gives_enter Tryz.func19 rfl rfl ?_
  repeat' first
    | refine wk ?_
    | (refine goesL_b (by rfl) (by rfl) fun b hb => ?_; cases b <;> refine sm ?_)
  refine goesL_call (by rfl) (by rfl) (by rfl) (by rfl) (by rfl) (gives_seal (l := [(0, 0 + 1), (1, 0 + 1)]) [(0, 1), (1, 1)] hT ?_ (by rfl) (fun p hp c hc => ?_) ?_)
  · show SnapL _ [.vals 5 K, .clo (.func 59) [] [.ptr 0 0 0, .ptr 1 0 0]] [.vals 5 K, .clo (.func 59) [] [.vptr [eInt m], .vptr [eInt from']]] _
    exact .pure hp (.clo (j1 := []) (j2 := [(0, 0 + 1), (1, 0 + 1)]) (l := []) .nil (.vptr (n := 1) (j := []) (l := [(1, 0 + 1)]) (c := { ver := 0, elem := 3, sz := 1, imm := 1, cs := [eInt m] }) rfl (Nat.le_refl _) (.pure (.raw _) .nil) (.vptr (n := 1) (j := []) (l := []) (c := { ver := 0, elem := 3, sz := 1, imm := 1, cs := [eInt from'] }) rfl (Nat.le_refl _) (.pure (.raw _) .nil) .nil)) .nil)
  · simp at hp
    rcases hp with rfl | rfl <;> (cases hc; exact Nat.le_refl _)
  refine sm ?_
  repeat' first
    | refine wk ?_
    | (refine goesL_b (by rfl) (by rfl) fun b hb => ?_; cases b <;> refine sm ?_)
  exact ⟨rfl, _, rfl, rfl⟩
theorem aboveT_size (k : Int) (b : Tm) : ∀ row : List Tm, (aboveT k b row).size = b.size + Tm.sizeL row + row.length
  | [] => rfl
  | t :: ts => by
    have ih := aboveT_size k b ts
    show (Tm.mk k 0 0 [] [t, aboveT k b ts]).size = _
    rw [Tm.size_mk, Tm.sizeL, Tm.sizeL, Tm.sizeL, Tm.sizeL, ih, List.length_cons]
    omega
theorem slim_nil : SlimL ([] : List (List (Int × Int))) := by first | exact trivial | simp [SlimL]
theorem rng_zero : Rng 0 := by unfold Rng; omega
theorem aboveT_fit (k : Int) (b : Tm) (hb : b.fit) : ∀ row : List Tm, Tm.fitL row → (aboveT k b row).fit
  | [], _ => hb
  | t :: ts, h => by
    rw [Tm.fitL] at h
    have ih := aboveT_fit k b hb ts h.2
    show (Tm.mk k 0 0 [] [t, aboveT k b ts]).fit
    rw [Tm.fit_mk, Tm.fitL, Tm.fitL, Tm.fitL]
    exact ⟨rng_zero, slim_nil, by simp, h.1, ih, trivial⟩
theorem puts_tells (row by' : List Tm) (hs : 1 + Tm.sizeL row ≤ 1048576) (hl : Tm.fitL row) (hn : by'.length ≤ 1048576) (hby : ∀ b ∈ by', b.fit ∧ b.size ≤ 1073741824) (hsw : ((aboveT 4 zeroTm row).walk (putT by') 0).size ≤ 1048576) (hfw : ((aboveT 4 zeroTm row).walk (putT by') 0).fit) :
    Tells Tryz.prog (.func 22) [.vals 5 (row.map eTm), .vals 5 (by'.map eTm)] [] (.vals 5 (((openT row.length ((aboveT 4 zeroTm row).walk (putT by') 0)).elim [] Prod.fst).map eTm)) := by
  have hz : zeroTm.fit := (Tm.fit_mk _ _ _ _ _).2 ⟨rng_zero, slim_nil, by simp, by rw [Tm.fitL]; trivial⟩
  have hll := Tm.sizeL_len row
  have hA := above_tells row 4 zeroTm (by rw [show zeroTm.size = 1 from rfl]; omega) hz hl
  have hfa : (aboveT 4 zeroTm row).fit ∧ (aboveT 4 zeroTm row).size ≤ 1073741824 := ⟨aboveT_fit 4 zeroTm hz row hl, by rw [aboveT_size, show zeroTm.size = 1 from rfl]; omega⟩
  have hP := put_tells (aboveT 4 zeroTm row) by' hfa.2 hfa.1 hn hby
  generalize (aboveT 4 zeroTm row).walk (putT by') 0 = w at hP hsw hfw ⊢
  generalize aboveT 4 zeroTm row = ab at hA hP
  have hO := open_tells w (row.length : Int) (by omega) hsw hfw
  rw [if_neg (by omega), show ((row.length : Int)).toNat = row.length from rfl] at hO
  refine tells_raw (fun b hb => ?_) (pure_tms 5 _) ?_
  · simp at hb; rcases hb with rfl | rfl
    · exact pure_tms 5 row
    · exact pure_tms 5 by'
  have hp1 := pure_tms 5 row
  have hp2 := pure_tms 5 by'
  have hlen : (row.map eTm).length = row.length := by simp
  obtain ⟨ts, u, b, ho, hres⟩ : ∃ (ts : List Tm) (u : Tm) (b : Bool), openV (openT row.length w) = .tup [.vals 5 (ts.map eTm), eTm u, eBool b] ∧ (openT row.length w).elim [] Prod.fst = ts := by
    cases openT row.length w with
    | none => exact ⟨[], zeroTm, false, rfl, rfl⟩
    | some p => exact ⟨p.1, p.2, true, rfl, rfl⟩
  rw [hres]
  rw [ho] at hO
  rw [eTm_agg ab] at hA hP
  rw [eTm_agg w] at hP hO
  rw [eTm_agg u] at hO
  rw [← hlen] at hO
  generalize List.map eTm row = K at hA hO hp1 ⊢
  generalize List.map eTm by' = B at hP hp2 ⊢
  generalize List.map eTm ts = O at hO ⊢
  obtain ⟨k, n, a, lv, kids⟩ := ab
  obtain ⟨k1, n1, a1, lv1, kids1⟩ := w
  obtain ⟨k2, n2, a2, lv2, kids2⟩ := u
  refine gives_enter Tryz.func22 rfl rfl ?_
  repeat' first
    | refine wk ?_
    | (refine goesL_b (by rfl) (by rfl) fun b hb => ?_; cases b <;> refine sm ?_)
  refine goesL_call (by rfl) (by rfl) (by rfl) (by rfl) (by rfl) (gives_seal (l := []) [] hA (.pure hp1 (.pure (.raw _) (.agg (j := []) (l := []) (.pure (.raw _) (.pure (.raw _) (.pure (.raw _) (.none (.none .nil))))) .nil))) (by rfl) (fun p hp => nomatch hp) ?_)
  refine sm ?_
  repeat' first
    | refine wk ?_
    | (refine goesL_b (by rfl) (by rfl) fun b hb => ?_; cases b <;> refine sm ?_)
  refine goesL_tells hP (by rfl) (by rfl) (by rfl) (by rfl) (by rfl) (by rfl) ?_
  refine sm ?_
  repeat' first
    | refine wk ?_
    | (refine goesL_b (by rfl) (by rfl) fun b hb => ?_; cases b <;> refine sm ?_)
  refine goesL_tells hO (by rfl) (by rfl) (by rfl) (by rfl) (by rfl) (by rfl) ?_
  refine sm ?_
  repeat' first
    | refine wk ?_
    | (refine goesL_b (by rfl) (by rfl) fun b hb => ?_; cases b <;> refine sm ?_)
  all_goals exact ⟨rfl, _, rfl, rfl⟩
/-- a row of ours told as values, though its cells are not yet those of values -/
theorem snap_rowN {h : AH} {r n : Nat} {c : Cells} {es : List AV} (hg : h.get r = some (.cells c)) (hcs : ∀ H, SnapL H c.cs (es.flatMap AV.cells) []) (hlen : c.cs.length = n * c.sz) (hz : ∀ e ∈ es, e.cells.length = c.sz) (hp : ∀ e ∈ es, Pure e) (hn : es.length = n) :
    SnapL (h.seals [(r, n * c.sz)]) [.row r c.ver 0 n] [.vals c.sz es] [(r, 0 + n * c.sz)] ∧ Sealed (h.seals [(r, n * c.sz)]) [(r, 0 + n * c.sz)] := by
  have hget : (h.seals [(r, n * c.sz)]).get r = some (.cells { c with imm := max c.imm (n * c.sz) }) := by
    show (h.seal (r, n * c.sz)).get r = _
    unfold AH.seal
    simp only [hg, hlen, Nat.le_refl, if_true]
    show AH.find (AH.sub h.blk r _) r = _
    rw [AH.find_sub, if_pos rfl]
  have hnow : (h.seals [(r, n * c.sz)]).now r c.ver = some { c with imm := max c.imm (n * c.sz) } := by
    unfold AH.now
    rw [hget]
    simp
  refine ⟨?_, fun p hpm c' hc' => ?_⟩
  · have := SnapL.row (h := h.seals [(r, n * c.sz)]) (k := c.ver) (off := 0) (j := []) hnow hn (fun j e he => hz e (List.mem_of_getElem? he)) (by
      show SnapL _ ((c.cs.drop 0).take (n * c.sz)) _ _
      rw [List.drop_zero, ← hlen, List.take_length]
      exact hcs _) hp .nil
    exact this
  · simp at hpm
    subst hpm
    rw [hget] at hc'
    injection hc' with hc'; injection hc' with hc'
    subst hc'
    show n * c.sz ≤ max c.imm (n * c.sz)
    omega
/-- variables, the outermost first -/
def varN (n : Nat) (from' : Int) (i : Nat) : Int := IntKind.i64.wrap (IntKind.i64.wrap (IntKind.i64.wrap (from' + (n : Int)) - 1) - (i : Int))
def varTm (v : Int) : Tm := .mk 1 v 0 [] []
def varsT (n : Nat) (from' : Int) : List Tm := (List.range n).map fun i => varTm (varN n from' i)
def varC (c : List Int) : List AV := c.flatMap fun v => [eInt 1, eInt v, eInt 0, .raw (.slice none 0 0), .raw (.slice none 0 0)]
theorem varC_length : ∀ c : List Int, (varC c).length = c.length * 5
  | [] => rfl
  | v :: c => by
    have ih := varC_length c
    show ([eInt 1, eInt v, eInt 0, AV.raw (.slice none 0 0), AV.raw (.slice none 0 0)] ++ varC c).length = _
    rw [List.length_append, ih]
    show 5 + c.length * 5 = (c.length + 1) * 5
    omega
theorem varC_snap (H : AH) : ∀ c : List Int, SnapL H (varC c) ((c.map fun v => eTm (varTm v)).flatMap AV.cells) []
  | [] => .nil
  | v :: c => by
    have ih := varC_snap H c
    show SnapL H ([eInt 1, eInt v, eInt 0, AV.raw (.slice none 0 0), AV.raw (.slice none 0 0)] ++ varC c) ([eInt 1, eInt v, eInt 0, .vals 1 [], .vals 5 []] ++ ((c.map fun v => eTm (varTm v)).flatMap AV.cells)) []
    exact .pure (.raw _) (.pure (.raw _) (.pure (.raw _) (.none (.none ih))))
theorem varC_pure (c : List Int) : ∀ a ∈ varC c, Pure a := fun a ha => by
  obtain ⟨v, _, hv⟩ := List.mem_flatMap.1 ha
  simp at hv
  rcases hv with rfl | rfl | rfl | rfl <;> exact .raw _
theorem varC_append (c d : List Int) : varC (c ++ d) = varC c ++ varC d := List.flatMap_append ..
theorem vars_tells (n : Nat) (from' : Int) (hn : n ≤ 1048576) : Tells Tryz.prog (.func 25) [eInt (n : Int), eInt from'] [] (.vals 5 ((varsT n from').map eTm)) := by
  refine tells_of (fun b hb => ?_) (pure_tms 5 _) ?_
  · simp at hb; rcases hb with rfl | rfl
    · exact .raw _
    · exact .raw _
  refine gives_enter Tryz.func25 rfl rfl ?_
  repeat' first
    | refine wk ?_
    | (refine goesL_b (by rfl) (by rfl) fun b hb => ?_; cases b <;> refine sm ?_)
  refine goes_keep [0, 1, 5, 7, 8] ?_
  refine goes_loop (fun m f' h => ∃ (j : Nat) (c : List Int), j ≤ n ∧ m = n - j ∧ c = (List.range j).map (varN n from') ∧ c.length = j ∧
    ((j = 0 ∧ f'.keep [0, 1, 5, 7, 8] = ⟨⟨23, [(0, eInt (n : Int)), (1, eInt from'), (5, .raw (.slice none 0 0)), (7, eInt (n : Int)), (8, eInt 0)]⟩, [], none⟩ ∧ h = ⟨0, [], []⟩) ∨
     ∃ m1 : Nat, j = m1 + 1 ∧ f'.keep [0, 1, 5, 7, 8] = ⟨⟨23, [(0, eInt (n : Int)), (1, eInt from'), (5, .row 1 m1 0 (m1 + 1)), (7, eInt (n : Int)), (8, eInt ((m1 + 1 : Nat) : Int))]⟩, [], none⟩ ∧ ∃ g0 : List AV, (∀ a ∈ g0, Pure a) ∧ h = ⟨2, [], [(1, .cells ⟨m1, 26, 5, 0, varC c⟩), (0, .cells (tmBlk 5 g0))]⟩)) ?_ n _ _ ⟨0, [], Nat.zero_le _, rfl, rfl, rfl, .inl ⟨rfl, rfl, rfl⟩⟩
  rintro m f' h ⟨j, c, hj, rfl, hc, hcl, ⟨rfl, hkf, rfl⟩ | ⟨m1, rfl, hkf, g0, hg0, rfl⟩⟩
  all_goals (refine goes_keep [0, 1, 5, 7, 8] ?_; rw [hkf])
  · obtain rfl : c = [] := List.length_eq_zero_iff.1 hcl
    rcases Nat.eq_zero_or_pos n with rfl | hpos
    · repeat' first
        | refine wk ?_
        | (refine goesL_b (by rfl) (by rfl) fun b hb => ?_; cases b <;> refine sm ?_)
      exact ⟨rfl, _, rfl, _, [], [], rfl, .none .nil, fun p hp => nomatch hp⟩
    · repeat' first
        | refine wk ?_
        | (refine goesL_b (by rfl) (by rfl) fun b hb => ?_; cases b <;> refine sm ?_)
      · exact absurd (of_decide_eq_false hb) (by omega)
      exact ⟨n - 1, by omega, 1, [varN n from' 0], by omega, rfl, rfl, rfl, .inr ⟨0, rfl, by first | rfl | trivial, [eInt 1, eInt (varN n from' 0), eInt 0, .raw (.slice none 0 0), .raw (.slice none 0 0)], by simpa [varC] using varC_pure [varN n from' 0], rfl⟩⟩
  · have hpc := varC_pure c
    have hlc := varC_length c
    refine goes_scope [0, 1, 5, 7, 8] ?_
    rcases Nat.lt_or_eq_of_le hj with hj' | hj'
    · have hcg : (List.range (m1 + 1 + 1)).map (varN n from') = c ++ [varN n from' (m1 + 1)] := by
        rw [List.range_succ, List.map_append, hc]
        rfl
      have hap : (varC c).take ((m1 + 1) * 5) ++ [eInt 1, eInt (varN n from' (m1 + 1)), eInt 0, .raw (.slice none 0 0), .raw (.slice none 0 0)] = varC (c ++ [varN n from' (m1 + 1)]) := by
        rw [varC_append, List.take_of_length_le (by rw [hlc, hcl]; exact Nat.le_refl _)]
        rfl
      have hpcv := varC_pure (c ++ [varN n from' (m1 + 1)])
      repeat' first
        | refine wk ?_
        | (refine goesL_b (by rfl) (by rfl) fun b hb => ?_; cases b <;> refine sm ?_)
      · exact absurd (of_decide_eq_false hb) (by omega)
      refine goesL_m (by rfl) (mop_append (len := m1 + 1) (n := 0) (bs := [eInt 1, eInt (varN n from' (m1 + 1)), eInt 0, .raw (.slice none 0 0), .raw (.slice none 0 0)]) (by rfl) (by rfl) (by rfl) (by rfl) (by rfl) (by rfl) (by rfl) (by rfl) (by rfl) (by decide) (by rfl) (by rfl) (by rfl) (now_of (c := ⟨m1, 26, 5, 0, varC c⟩) rfl) (by rfl) (by rfl) (Nat.zero_le _) (by unfold tops; omega) (by decide)) ?_
      refine sm ?_
      rw [hap]
      repeat' first
        | refine wk ?_
        | (refine goesL_b (by rfl) (by rfl) fun b hb => ?_; cases b <;> refine sm ?_)
      refine within_of (by repeat' first | exact True.intro | exact Of.raw _ | exact Of.emp | exact Of.ptr (has_nil (by rfl)) | exact Of.row (has_nil (by rfl)) | exact Of.yld (has_nil (by rfl)) | exact has_nil (by rfl) | assumption | exact Pure.of (by assumption) | exact Pure.of (pure_lvs _ _) | exact Pure.of (pure_tms _ _) | refine And.intro ?_ ?_ | exact ofC_pure (by assumption) | (refine Of.clo (fun _ ha => nomatch ha) (ofC_pure (by assumption))) | (refine Of.agg (OfC.all ?_)) | (refine Of.clo (fun _ ha => nomatch ha) (OfC.all ?_))) (by repeat' first | exact True.intro | refine And.intro ?_ ?_ | exact has_nil (by rfl)) (by first | exact True.intro | exact Of.raw _ | exact Of.ifc (Of.raw _)) (by repeat' first | exact True.intro | exact Of.raw _ | exact Of.emp | exact Of.ptr (has_nil (by rfl)) | exact Of.row (has_nil (by rfl)) | exact Of.yld (has_nil (by rfl)) | exact has_nil (by rfl) | assumption | exact Pure.of (by assumption) | exact Pure.of (pure_lvs _ _) | exact Pure.of (pure_tms _ _) | refine And.intro ?_ ?_ | exact ofC_pure (by assumption) | (refine Of.agg (OfC.all ?_)) | (refine Of.clo (fun _ ha => nomatch ha) (OfC.all ?_))) ?_
      refine ⟨n - (m1 + 1 + 1), by omega, m1 + 1 + 1, c ++ [varN n from' (m1 + 1)], by omega, rfl, hcg.symm, by simp [hcl], .inr ⟨m1 + 1, rfl, ?_, g0, hg0, rfl⟩⟩
      have e2 : IntKind.i64.wrap (((m1 + 1 : Nat) : Int) + 1) = ((m1 + 1 + 1 : Nat) : Int) := by
        rw [show (((m1 + 1 : Nat) : Int) + 1) = ((m1 + 1 + 1 : Nat) : Int) from rfl, wrap_nat (by omega)]
      rw [← e2]
      rfl
    · have hcr : varsT n from' = c.map varTm := by
        rw [hc, ← hj', List.map_map]
        rfl
      rw [hcr]
      repeat' first
        | refine wk ?_
        | (refine goesL_b (by rfl) (by rfl) fun b hb => ?_; cases b <;> refine sm ?_)
      · refine within_of (by repeat' first | exact True.intro | exact Of.raw _ | exact Of.emp | exact Of.ptr (has_nil (by rfl)) | exact Of.row (has_nil (by rfl)) | exact Of.yld (has_nil (by rfl)) | exact has_nil (by rfl) | assumption | exact Pure.of (by assumption) | exact Pure.of (pure_lvs _ _) | exact Pure.of (pure_tms _ _) | refine And.intro ?_ ?_ | exact ofC_pure (by assumption) | (refine Of.clo (fun _ ha => nomatch ha) (ofC_pure (by assumption))) | (refine Of.agg (OfC.all ?_)) | (refine Of.clo (fun _ ha => nomatch ha) (OfC.all ?_))) (by repeat' first | exact True.intro | refine And.intro ?_ ?_ | exact has_nil (by rfl)) (by first | exact True.intro | exact Of.raw _ | exact Of.ifc (Of.raw _)) (by repeat' first | exact True.intro | exact Of.raw _ | exact Of.emp | exact Of.ptr (has_nil (by rfl)) | exact Of.row (has_nil (by rfl)) | exact Of.yld (has_nil (by rfl)) | exact has_nil (by rfl) | assumption | exact Pure.of (by assumption) | exact Pure.of (pure_lvs _ _) | exact Pure.of (pure_tms _ _) | refine And.intro ?_ ?_ | exact ofC_pure (by assumption) | (refine Of.agg (OfC.all ?_)) | (refine Of.clo (fun _ ha => nomatch ha) (OfC.all ?_))) ?_
        refine sm ?_
        repeat' first
          | refine wk ?_
          | (refine goesL_b (by rfl) (by rfl) fun b hb => ?_; cases b <;> refine sm ?_)
        have hz2 : ∀ e ∈ c.map fun v => eTm (varTm v), e.cells.length = 5 := fun e he => by
          obtain ⟨t, _, rfl⟩ := List.mem_map.1 he
          rfl
        have hp2 : ∀ e ∈ c.map fun v => eTm (varTm v), Pure e := fun e he => by
          obtain ⟨t, _, rfl⟩ := List.mem_map.1 he
          exact pure_tm _
        have hsn := snap_rowN (h := ⟨2, [], [(1, .cells ⟨m1, 26, 5, 0, varC c⟩), (0, .cells (tmBlk 5 g0))]⟩) (r := 1) (c := ⟨m1, 26, 5, 0, varC c⟩) (es := c.map fun v => eTm (varTm v)) (n := m1 + 1) rfl (fun H => varC_snap H c) (by rw [hlc, hcl]) hz2 hp2 (by simp [hcl])
        rw [List.map_map]
        exact ⟨rfl, _, rfl, _, [(1, (m1 + 1) * 5)], [(1, 0 + (m1 + 1) * 5)], rfl, hsn.1, hsn.2⟩
      · exact absurd (of_decide_eq_true hb) (by omega)
end Go.Proofs.YtaoglkkdhdfioaaGreatDoor
