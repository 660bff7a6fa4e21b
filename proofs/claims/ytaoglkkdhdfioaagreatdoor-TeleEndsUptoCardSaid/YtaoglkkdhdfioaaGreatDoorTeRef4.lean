/- The document's counting of binders, variables, laying of binders and arguments: the same as the program's. -/
import Derived.Test.YtaoglkkdhdfioaaGreatDoorEvWk
import Derived.Test.YtaoglkkdhdfioaaGreatDoorTeRef3
import Derived.Test.YtaoglkkdhdfioaaGreatDoorTeOpen
import Derived.Test.YtaoglkkdhdfioaaGreatDoorTeLifts
import Derived.KernelRfl
import Derived.Test.YtaoglkkdhdfioaaGreatDoorProg
namespace Go.Proofs.YtaoglkkdhdfioaaGreatDoor
open Go Go.Proofs
set_option maxRecDepth 100000
set_option maxHeartbeats 4000000
attribute [local go_sem] AH.seals AH.adds news List.nil_append List.cons_append AF.put AF.start Slots.set Slots.ins zipA AH.zero AH.new AH.put AH.sub ofV AV.cells List.length AF.keep AH.cut List.filter_cons List.filter_nil List.contains_cons List.contains_nil Nat.reduceBEq Bool.or_false Bool.or_true Bool.true_or Bool.false_or decide_true decide_false Bool.not_false Bool.and_true Bool.true_and Bool.and_self List.append_nil List.getElem_toArray List.getElem_cons_zero List.getElem_cons_succ Nat.reduceLT Nat.reduceAdd Nat.reduceSub Nat.reduceEqDiff andThen atEnd rounds Tryz.ntmps52 Tryz.ntmps79 Tryz.ntmps48 Tryz.ntmps49 Tryz.ntmps50 Tryz.ntmps65 Tryz.ntmps26 AH.only List.length_append List.filter
theorem two_clash {k k1 n1 a1 : Int} {lv1 : List (List (Int × Int))} {kids1 : List Tm} (h1 : (k1 == k) = true) (h2 : (((kids1.map eTm).length : Int) == 2) = true) (e : (Tm.mk k1 n1 a1 lv1 kids1).two k = false) : False := by
  have h1 : k1 = k := by simpa using h1
  have h2 : kids1.length = 2 := by
    have : ((kids1.map eTm).length : Int) = 2 := by simpa using h2
    simp at this
    omega
  simp [Tm.two, h1, h2] at e
theorem rcount_tells (t : Tm) (hs : t.size ≤ 1048576) : Tells Tryz.prog (.func 52) [eTm t] [] (eInt (cntT t : Int)) := by
  have hpt := pure_tmC t
  refine tells_raw (fun b hb => ?_) (.raw _) ?_
  · simp at hb; subst hb; exact pure_tm t
  rw [eTm_agg t]
  refine gives_enter Tryz.func52 rfl rfl ?_
  obtain ⟨k, n, a, lv, kids⟩ := t
  repeat' first
    | refine wk ?_
    | refine wa ?_
    | (refine goesL_b (by rfl) (by rfl) fun b hb => ?_; cases b <;> refine sm ?_)
    | (refine goesA_b (by rfl) (by rfl) fun b hb => ?_; cases b <;> refine sm ?_)
  refine goes_keep [1, 2, 3] ?_
  refine goes_loop (fun m f h => ∃ (u : Tm) (j : Nat), m = u.size ∧ j + cntT u = cntT (.mk k n a lv kids) ∧ f.keep [1, 2, 3] = ⟨⟨20, [(1, .ptr 0 0 0), (2, eInt 0), (3, eInt (j : Int))]⟩, [], none⟩ ∧ h = ⟨1, [], [(0, Blk.cells (tmBlk 1 (tmC u)))]⟩) ?_ _ _ _ ⟨.mk k n a lv kids, 0, rfl, by omega, rfl, rfl⟩
  rintro m f h ⟨u, j, rfl, hj, hkf, rfl⟩
  refine goes_keep [1, 2, 3] ?_
  rw [hkf]
  have hpu := pure_tmC u
  have hle := cntT_le (.mk k n a lv kids)
  cases e : u.two 4 with
  | false =>
    have hc0 := cntT_no e
    obtain ⟨k1, n1, a1, lv1, kids1⟩ := u
    repeat' first
      | refine wk ?_
      | refine wa ?_
      | (refine goesL_b (by rfl) (by rfl) fun b hb => ?_; cases b <;> refine sm ?_)
      | (refine goesA_b (by rfl) (by rfl) fun b hb => ?_; cases b <;> refine sm ?_)
    · exact ⟨rfl, _, rfl, by rw [show cntT (.mk k n a lv kids) = j by omega]⟩
    · exact ⟨rfl, _, rfl, by rw [show cntT (.mk k n a lv kids) = j by omega]⟩
    · exact (two_clash ‹(k1 == 4) = true› hb e).elim
  | true =>
    obtain ⟨k1, n1, a1, lv1, kids1⟩ := u
    obtain ⟨rfl, x, y, rfl⟩ := Tm.two_iff.1 e
    rw [cntT_two] at hj
    have hpy := pure_tmC y
    rw [tmC_two] at hpu ⊢
    obtain ⟨k2, n2, a2, lv2, kids2⟩ := y
    repeat' first
      | refine wk ?_
      | refine wa ?_
      | (refine goesL_b (by rfl) (by rfl) fun b hb => ?_; cases b <;> refine sm ?_)
      | (refine goesA_b (by rfl) (by rfl) fun b hb => ?_; cases b <;> refine sm ?_)
    refine ⟨(Tm.mk k2 n2 a2 lv2 kids2).size, by rw [Tm.size_mk 4, Tm.sizeL, Tm.sizeL, Tm.sizeL]; omega, .mk k2 n2 a2 lv2 kids2, j + 1, rfl, by omega, ?_, rfl⟩
    have e2 : IntKind.i64.wrap ((j : Int) + 1) = ((j + 1 : Nat) : Int) := by
      rw [show ((j : Int) + 1) = ((j + 1 : Nat) : Int) from rfl, wrap_nat (by omega)]
    rw [e2]
/-- slots as they are -/
theorem rabove_tells (k : Int) (row : List Tm) (b : Tm) (hs : b.size ≤ 1048576) (hb : b.bare) (hf : b.fit) (hr : ∀ t ∈ row, t.bare ∧ t.fit ∧ t.size ≤ 1048576) (hl : row.length ≤ 1048576) : Tells Tryz.prog (.func 79) [eInt k, .vals 5 (row.map eTm), eTm b] [] (eTm (aboveT k b row)) := by
  have hC := rcopy_tells b hs hb hf
  have hpb := pure_tm b
  refine tells_raw (fun x hx => ?_) (pure_tm _) ?_
  · simp at hx; rcases hx with rfl | rfl | rfl
    · exact .raw _
    · exact pure_tms 5 row
    · exact hpb
  obtain ⟨K, hK⟩ : ∃ K, row.map eTm = K := ⟨_, rfl⟩
  have hKl : K.length = row.length := by rw [← hK]; simp
  have hKp : Pure (.vals 5 K) := hK ▸ pure_tms 5 row
  rw [hK, eTm_agg b]
  rw [eTm_agg b] at hC
  have hpC := pure_tmC b
  have hCb : tmC b = tmC b := rfl
  obtain ⟨D, hD⟩ : ∃ D, aboveT k b row = D := ⟨_, rfl⟩
  rw [hD]
  obtain ⟨k1, n1, a1, lv1, kids1⟩ := b
  refine gives_enter Tryz.func79 rfl rfl ?_
  repeat' first
    | refine wk ?_
    | refine wa ?_
    | refine tl hC ?_
    | refine ta hC ?_
    | (refine goesL_b (by rfl) (by rfl) fun b hb => ?_; cases b <;> refine sm ?_)
    | (refine goesA_b (by rfl) (by rfl) fun b hb => ?_; cases b <;> refine sm ?_)
  refine goes_keep [0, 1, 6, 7, 8] ?_
  have e0 : IntKind.i64.wrap ((K.length : Int) - 1) = (K.length : Int) - 1 := wrap_rng ⟨by omega, by omega⟩
  rw [e0]
  refine goes_loop (fun M f h => ∃ (p : Nat) (u : Tm), p ≤ K.length ∧ p = M ∧ aboveT k u (row.take p) = D ∧ f.keep [0, 1, 6, 7, 8] = ⟨⟨28, [(0, eInt k), (1, .vals 5 K), (6, .ptr 1 0 0), (7, .ptr 2 0 0), (8, eInt ((p : Int) - 1))]⟩, [], none⟩ ∧
    h = ⟨3, [], [(2, .cells (tmBlk 1 (tmC u))), (1, .cells (tmBlk 1 [eInt 0, eInt 0, eInt 0, .raw (.slice none 0 0), .raw (.slice none 0 0)])), (0, .cells (tmBlk 1 (tmC (.mk k1 n1 a1 lv1 kids1))))]⟩) ?_ K.length _ _ ⟨K.length, .mk k1 n1 a1 lv1 kids1, Nat.le_refl _, rfl, by rw [List.take_of_length_le (by omega)]; exact hD, rfl, rfl⟩
  rintro p f h ⟨p, u, hp, rfl, hu, hkf, rfl⟩
  refine goes_keep [0, 1, 6, 7, 8] ?_
  rw [hkf]
  have hpu := pure_tmC u
  cases p with
  | zero =>
    obtain rfl : u = D := by rw [← hu]; rfl
    rw [eTm_agg u]
    obtain ⟨k2, n2, a2, lv2, kids2⟩ := u
    repeat' first
      | refine wk ?_
      | refine wa ?_
      | (refine goesL_b (by rfl) (by rfl) fun b hb => ?_; cases b <;> refine sm ?_)
      | (refine goesA_b (by rfl) (by rfl) fun b hb => ?_; cases b <;> refine sm ?_)
    exact ⟨rfl, _, rfl, rfl⟩
  | succ q =>
    rw [show (((q + 1 : Nat) : Int) - 1) = (q : Int) by omega]
    obtain ⟨x, hx⟩ : ∃ x, row[q]? = some x := ⟨_, List.getElem?_eq_getElem (by omega)⟩
    have hxr := hr x (List.mem_of_getElem? hx)
    have hTx := rcopy_tells x hxr.2.2 hxr.1 hxr.2.1
    have hKx : K[q]? = some (.agg (tmC x)) := by rw [← hK, List.getElem?_map, hx, ← eTm_agg]; rfl
    have hpx := pure_tmC x
    have hux : aboveT k (.mk k 0 0 [] [x, u]) (row.take q) = D := by
      rw [← hu, List.take_add_one, hx]
      unfold aboveT
      rw [List.foldr_append]
      rfl
    have hz2 : ∀ e ∈ [x, u].map eTm, e.cells.length = 5 := fun e he => by
      obtain ⟨t, _, rfl⟩ := List.mem_map.1 he
      rw [tmC_eq, tmC_length]
    have hp2 : ∀ e ∈ [x, u].map eTm, Pure e := fun e he => by
      obtain ⟨t, _, rfl⟩ := List.mem_map.1 he
      exact pure_tm t
    have hcs : tmC x ++ tmC u = ([x, u].map eTm).flatMap AV.cells := by
      show _ = tmsC [x, u]
      rw [tmsC_cons, tmsC_cons, tmsC_nil, List.append_nil]
    have hnew := eTm_mk k 0 0 [] [x, u]
    have hpn := pure_tmC (.mk k 0 0 [] [x, u])
    rw [eTm_agg x] at hTx
    obtain ⟨k2, n2, a2, lv2, kids2⟩ := u
    obtain ⟨k3, n3, a3, lv3, kids3⟩ := x
    refine goes_scope [0, 1, 6, 7, 8] ?_
    repeat' first
      | refine wk ?_
      | refine wa ?_
      | (refine goesL_b (by rfl) (by rfl) fun b hb => ?_; cases b <;> refine sm ?_)
      | (refine goesA_b (by rfl) (by rfl) fun b hb => ?_; cases b <;> refine sm ?_)
    · refine goesA_q [] (by rfl) (qop_index (n := q) (sz := 5) (by rfl) (by rfl) (by rfl) (by rfl) (by rfl) (by rfl) hKx) ?_
      refine sm ?_
      repeat' first
        | refine wa ?_
        | refine ta hTx ?_
        | (refine goesA_b (by rfl) (by rfl) fun b hb => ?_; cases b <;> refine sm ?_)
      have hso := snap_own (h := ⟨13, [], [(2, .cells (tmBlk 1 [eInt k, eInt 0, eInt 0, .raw (.slice none 0 0), .row 10 0 0 2])), (1, .cells (tmBlk 1 [eInt 0, eInt 0, eInt 0, .raw (.slice none 0 0), .raw (.slice none 0 0)])), (0, .cells (tmBlk 1 (tmC (.mk k1 n1 a1 lv1 kids1)))), (10, .cells ⟨0, 26, 5, 0, tmC (.mk k3 n3 a3 lv3 kids3) ++ tmC (.mk k2 n2 a2 lv2 kids2)⟩)]⟩) (r := 10) (n := 2) (c := ⟨0, 26, 5, 0, tmC (.mk k3 n3 a3 lv3 kids3) ++ tmC (.mk k2 n2 a2 lv2 kids2)⟩) (es := [(.mk k3 n3 a3 lv3 kids3), (.mk k2 n2 a2 lv2 kids2)].map eTm) rfl hcs hz2 hp2 rfl
      refine goes_keep [0, 1, 6, 7, 8] ?_
      refine goes_snap (h := ⟨13, [], [(2, .cells (tmBlk 1 [eInt k, eInt 0, eInt 0, .raw (.slice none 0 0), .row 10 0 0 2])), (1, .cells (tmBlk 1 [eInt 0, eInt 0, eInt 0, .raw (.slice none 0 0), .raw (.slice none 0 0)])), (0, .cells (tmBlk 1 (tmC (.mk k1 n1 a1 lv1 kids1)))), (10, .cells ⟨0, 26, 5, 0, tmC (.mk k3 n3 a3 lv3 kids3) ++ tmC (.mk k2 n2 a2 lv2 kids2)⟩)]⟩) [(10, 2 * 5)] (sl := [(0, eInt k), (1, .vals 5 K), (6, .ptr 1 0 0), (7, .ptr 2 0 0), (8, eInt (q : Int))]) (bs := [(2, .cells (tmBlk 1 (tmC (.mk k 0 0 [] [(.mk k3 n3 a3 lv3 kids3), (.mk k2 n2 a2 lv2 kids2)])))), (1, .cells (tmBlk 1 [eInt 0, eInt 0, eInt 0, .raw (.slice none 0 0), .raw (.slice none 0 0)])), (0, .cells (tmBlk 1 (tmC (.mk k1 n1 a1 lv1 kids1)))), (10, .cells ⟨0, 26, 5, max 0 (2 * 5), tmC (.mk k3 n3 a3 lv3 kids3) ++ tmC (.mk k2 n2 a2 lv2 kids2)⟩)]) ?_ (snapS_same _) ?_
      · have hn5 : tmC (.mk k 0 0 [] [(.mk k3 n3 a3 lv3 kids3), (.mk k2 n2 a2 lv2 kids2)]) = [eInt k, eInt 0, eInt 0, .vals 1 [], .vals 5 ([(.mk k3 n3 a3 lv3 kids3), (.mk k2 n2 a2 lv2 kids2)].map eTm)] := rfl
        rw [hn5]
        exact .cells (l := [(10, 0 + 2 * 5)]) (.pure (.raw _) (.pure (.raw _) (.pure (.raw _) (.none hso.1)))) hso.2 (.same (.same (.same .nil)))
      · repeat' first
          | refine wk ?_
          | refine wa ?_
          | (refine goesL_b (by rfl) (by rfl) fun b hb => ?_; cases b <;> refine sm ?_)
          | (refine goesA_b (by rfl) (by rfl) fun b hb => ?_; cases b <;> refine sm ?_)
        refine within_of (by repeat' first | exact True.intro | exact Of.raw _ | exact Of.emp | exact Of.ptr (has_nil (by rfl)) | exact Of.row (has_nil (by rfl)) | exact Of.yld (has_nil (by rfl)) | exact has_nil (by rfl) | assumption | exact Pure.of (by assumption) | exact Pure.of (pure_lvs _ _) | exact Pure.of (pure_tms _ _) | refine And.intro ?_ ?_ | exact ofC_pure (by assumption) | (refine Of.clo (fun _ ha => nomatch ha) (ofC_pure (by assumption))) | (refine Of.agg (OfC.all ?_)) | (refine Of.clo (fun _ ha => nomatch ha) (OfC.all ?_))) (by repeat' first | exact True.intro | refine And.intro ?_ ?_ | exact has_nil (by rfl)) (by first | exact True.intro | exact Of.raw _ | exact Of.ifc (Of.raw _)) (by repeat' first | exact True.intro | exact Of.raw _ | exact Of.emp | exact Of.ptr (has_nil (by rfl)) | exact Of.row (has_nil (by rfl)) | exact Of.yld (has_nil (by rfl)) | exact has_nil (by rfl) | assumption | exact Pure.of (by assumption) | exact Pure.of (pure_lvs _ _) | exact Pure.of (pure_tms _ _) | refine And.intro ?_ ?_ | exact ofC_pure (by assumption) | (refine Of.agg (OfC.all ?_)) | (refine Of.clo (fun _ ha => nomatch ha) (OfC.all ?_))) ?_
        have e1 : IntKind.i64.wrap ((q : Int) - 1) = (q : Int) - 1 := wrap_rng ⟨by omega, by omega⟩
        refine ⟨q, by omega, q, .mk k 0 0 [] [.mk k3 n3 a3 lv3 kids3, .mk k2 n2 a2 lv2 kids2], by omega, rfl, hux, ?_, rfl⟩
        rw [e1]
        rfl
theorem rPis_tells (row : List Tm) (b : Tm) (hs : b.size ≤ 1048576) (hb : b.bare) (hf : b.fit) (hr : ∀ t ∈ row, t.bare ∧ t.fit ∧ t.size ≤ 1048576) (hl : row.length ≤ 1048576) : Tells Tryz.prog (.func 48) [.vals 5 (row.map eTm), eTm b] [] (eTm (aboveT 4 b row)) := by
  have hT := rabove_tells 4 row b hs hb hf hr hl
  have hpb := pure_tm b
  refine tells_raw (fun x hx => ?_) (pure_tm _) ?_
  · simp at hx; rcases hx with rfl | rfl
    · exact pure_tms 5 row
    · exact hpb
  generalize aboveT 4 b row = w at hT ⊢
  generalize row.map eTm = K at hT ⊢
  rw [eTm_agg b, eTm_agg w] at hT
  rw [eTm_agg b, eTm_agg w]
  obtain ⟨k1, n1, a1, lv1, kids1⟩ := b
  obtain ⟨k2, n2, a2, lv2, kids2⟩ := w
  refine gives_enter Tryz.func48 rfl rfl ?_
  repeat' first
    | refine wk ?_
    | refine wa ?_
    | refine tl hT ?_
    | refine ta hT ?_
    | (refine goesL_b (by rfl) (by rfl) fun b hb => ?_; cases b <;> refine sm ?_)
    | (refine goesA_b (by rfl) (by rfl) fun b hb => ?_; cases b <;> refine sm ?_)
  exact ⟨rfl, _, rfl, rfl⟩
theorem rLams_tells (row : List Tm) (b : Tm) (hs : b.size ≤ 1048576) (hb : b.bare) (hf : b.fit) (hr : ∀ t ∈ row, t.bare ∧ t.fit ∧ t.size ≤ 1048576) (hl : row.length ≤ 1048576) : Tells Tryz.prog (.func 49) [.vals 5 (row.map eTm), eTm b] [] (eTm (aboveT 5 b row)) := by
  have hT := rabove_tells 5 row b hs hb hf hr hl
  have hpb := pure_tm b
  refine tells_raw (fun x hx => ?_) (pure_tm _) ?_
  · simp at hx; rcases hx with rfl | rfl
    · exact pure_tms 5 row
    · exact hpb
  generalize aboveT 5 b row = w at hT ⊢
  generalize row.map eTm = K at hT ⊢
  rw [eTm_agg b, eTm_agg w] at hT
  rw [eTm_agg b, eTm_agg w]
  obtain ⟨k1, n1, a1, lv1, kids1⟩ := b
  obtain ⟨k2, n2, a2, lv2, kids2⟩ := w
  refine gives_enter Tryz.func49 rfl rfl ?_
  repeat' first
    | refine wk ?_
    | refine wa ?_
    | refine tl hT ?_
    | refine ta hT ?_
    | (refine goesL_b (by rfl) (by rfl) fun b hb => ?_; cases b <;> refine sm ?_)
    | (refine goesA_b (by rfl) (by rfl) fun b hb => ?_; cases b <;> refine sm ?_)
  exact ⟨rfl, _, rfl, rfl⟩
theorem rvar_tells (n : Int) : Tells Tryz.prog (.func 65) [eInt n] [] (eTm (.mk 1 n 0 [] [])) := by
  have hp := pure_tm (.mk 1 n 0 [] [])
  rw [eTm_mk] at hp ⊢
  refine tells_of (fun x hx => ?_) hp ?_
  · simp at hx; subst hx; exact .raw _
  refine gives_enter Tryz.func65 rfl rfl ?_
  repeat' first
    | refine wk ?_
    | refine wa ?_
    | (refine goesL_b (by rfl) (by rfl) fun b hb => ?_; cases b <;> refine sm ?_)
    | (refine goesA_b (by rfl) (by rfl) fun b hb => ?_; cases b <;> refine sm ?_)
  exact ⟨rfl, _, rfl, _, [], [], rfl, .agg (j := []) (l := []) (.pure (.raw _) (.pure (.raw _) (.pure (.raw _) (.none (.none .nil))))) .nil, fun p hp => nomatch hp⟩
end Go.Proofs.YtaoglkkdhdfioaaGreatDoor
