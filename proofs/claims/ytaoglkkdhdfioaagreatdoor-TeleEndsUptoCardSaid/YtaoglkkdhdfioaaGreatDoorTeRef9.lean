/- The document's arguments, and putting in rows: the same as the program's. -/
import Derived.Test.YtaoglkkdhdfioaaGreatDoorEvWk
import Derived.Test.YtaoglkkdhdfioaaGreatDoorTeRef8
import Derived.Test.YtaoglkkdhdfioaaGreatDoorTeTele
import Derived.KernelRfl
import Derived.Test.YtaoglkkdhdfioaaGreatDoorProg
namespace Go.Proofs.YtaoglkkdhdfioaaGreatDoor
open Go Go.Proofs
set_option maxRecDepth 100000
set_option maxHeartbeats 4000000
attribute [local go_sem] AH.seals AH.adds news List.nil_append List.cons_append AF.put AF.start Slots.set Slots.ins zipA AH.zero AH.new AH.put AH.sub ofV AV.cells List.length AF.keep AH.cut List.filter_cons List.filter_nil List.contains_cons List.contains_nil Nat.reduceBEq Bool.or_false Bool.or_true Bool.true_or Bool.false_or decide_true decide_false Bool.not_false Bool.and_true Bool.true_and Bool.and_self List.append_nil List.getElem_toArray List.getElem_cons_zero List.getElem_cons_succ Nat.reduceLT Nat.reduceAdd Nat.reduceSub Nat.reduceEqDiff andThen atEnd rounds Tryz.ntmps50 Tryz.ntmps24 AH.only List.length_append List.filter
theorem rapps_tells (b : Tm) (row : List Tm) (hs : b.size ≤ 1048576) (hb : b.bare) (hf : b.fit) (hr : ∀ t ∈ row, t.bare ∧ t.fit ∧ t.size ≤ 1048576) (hl : row.length ≤ 1048576) : Tells Tryz.prog (.func 50) [eTm b, .vals 5 (row.map eTm)] [] (eTm (appsT b row)) := by
  have hC := rcopy_tells b hs hb hf
  have hpb := pure_tm b
  refine tells_raw (fun x hx => ?_) (pure_tm _) ?_
  · simp at hx; rcases hx with rfl | rfl
    · exact hpb
    · exact pure_tms 5 row
  obtain ⟨K, hK⟩ : ∃ K, row.map eTm = K := ⟨_, rfl⟩
  have hKl : K.length = row.length := by rw [← hK]; simp
  have hKp : Pure (.vals 5 K) := hK ▸ pure_tms 5 row
  rw [hK, eTm_agg b]
  rw [eTm_agg b] at hC
  have hpC := pure_tmC b
  have hCb : tmC b = tmC b := rfl
  obtain ⟨D, hD⟩ : ∃ D, appsT b row = D := ⟨_, rfl⟩
  rw [hD]
  obtain ⟨k1, n1, a1, lv1, kids1⟩ := b
  refine gives_enter Tryz.func50 rfl rfl ?_
  repeat' first
    | refine wk ?_
    | refine wa ?_
    | refine tl hC ?_
    | refine ta hC ?_
    | (refine goesL_b (by rfl) (by rfl) fun b hb => ?_; cases b <;> refine sm ?_)
    | (refine goesA_b (by rfl) (by rfl) fun b hb => ?_; cases b <;> refine sm ?_)
  refine goes_keep [1, 4, 5, 6] ?_
  refine goes_loop (fun M f h => ∃ (p : Nat) (u : Tm), p ≤ K.length ∧ M = K.length - p ∧ appsT (.mk k1 n1 a1 lv1 kids1) (row.take p) = u ∧ f.keep [1, 4, 5, 6] = ⟨⟨24, [(1, .vals 5 K), (4, .ptr 1 0 0), (5, .ptr 2 0 0), (6, eInt (p : Int))]⟩, [], none⟩ ∧
    h = ⟨3, [], [(2, .cells (tmBlk 1 (tmC u))), (1, .cells (tmBlk 1 [eInt 0, eInt 0, eInt 0, .raw (.slice none 0 0), .raw (.slice none 0 0)])), (0, .cells (tmBlk 1 (tmC (.mk k1 n1 a1 lv1 kids1))))]⟩) ?_ K.length _ _ ⟨0, .mk k1 n1 a1 lv1 kids1, Nat.zero_le _, by omega, rfl, rfl, rfl⟩
  rintro M f h ⟨p, u, hp, rfl, hu, hkf, rfl⟩
  refine goes_keep [1, 4, 5, 6] ?_
  rw [hkf]
  have hpu := pure_tmC u
  rcases Nat.lt_or_eq_of_le hp with hlt | heq
  · obtain ⟨x, hx⟩ : ∃ x, row[p]? = some x := ⟨_, List.getElem?_eq_getElem (by omega)⟩
    have hxr := hr x (List.mem_of_getElem? hx)
    have hTx := rcopy_tells x hxr.2.2 hxr.1 hxr.2.1
    have hKx : K[p]? = some (.agg (tmC x)) := by rw [← hK, List.getElem?_map, hx, ← eTm_agg]; rfl
    have hpx := pure_tmC x
    have hux := appsT_take (.mk k1 n1 a1 lv1 kids1) hx
    rw [hu] at hux
    have hz2 : ∀ e ∈ [u, x].map eTm, e.cells.length = 5 := fun e he => by
      obtain ⟨t, _, rfl⟩ := List.mem_map.1 he
      rw [tmC_eq, tmC_length]
    have hp2 : ∀ e ∈ [u, x].map eTm, Pure e := fun e he => by
      obtain ⟨t, _, rfl⟩ := List.mem_map.1 he
      exact pure_tm t
    have hcs : tmC u ++ tmC x = ([u, x].map eTm).flatMap AV.cells := by
      show _ = tmsC [u, x]
      rw [tmsC_cons, tmsC_cons, tmsC_nil, List.append_nil]
    have hpn := pure_tmC (.mk 6 0 0 [] [u, x])
    rw [eTm_agg x] at hTx
    obtain ⟨k2, n2, a2, lv2, kids2⟩ := u
    obtain ⟨k3, n3, a3, lv3, kids3⟩ := x
    refine goes_scope [1, 4, 5, 6] ?_
    repeat' first
      | refine wk ?_
      | refine wa ?_
      | (refine goesL_b (by rfl) (by rfl) fun b hb => ?_; cases b <;> refine sm ?_)
      | (refine goesA_b (by rfl) (by rfl) fun b hb => ?_; cases b <;> refine sm ?_)
    · exact absurd (of_decide_eq_false hb) (by omega)
    · refine goesA_q [] (by rfl) (qop_index (n := p) (sz := 5) (by rfl) (by rfl) (by rfl) (by rfl) (by rfl) (by rfl) hKx) ?_
      refine sm ?_
      repeat' first
        | refine wa ?_
        | refine ta hTx ?_
        | (refine goesA_b (by rfl) (by rfl) fun b hb => ?_; cases b <;> refine sm ?_)
      have hso := snap_own (h := ⟨12, [], [(2, .cells (tmBlk 1 [eInt 6, eInt 0, eInt 0, .raw (.slice none 0 0), .row 9 0 0 2])), (1, .cells (tmBlk 1 [eInt 0, eInt 0, eInt 0, .raw (.slice none 0 0), .raw (.slice none 0 0)])), (0, .cells (tmBlk 1 (tmC (.mk k1 n1 a1 lv1 kids1)))), (9, .cells ⟨0, 26, 5, 0, tmC (.mk k2 n2 a2 lv2 kids2) ++ tmC (.mk k3 n3 a3 lv3 kids3)⟩)]⟩) (r := 9) (n := 2) (c := ⟨0, 26, 5, 0, tmC (.mk k2 n2 a2 lv2 kids2) ++ tmC (.mk k3 n3 a3 lv3 kids3)⟩) (es := [(.mk k2 n2 a2 lv2 kids2), (.mk k3 n3 a3 lv3 kids3)].map eTm) rfl hcs hz2 hp2 rfl
      refine goes_keep [1, 4, 5, 6] ?_
      refine goes_snap (h := ⟨12, [], [(2, .cells (tmBlk 1 [eInt 6, eInt 0, eInt 0, .raw (.slice none 0 0), .row 9 0 0 2])), (1, .cells (tmBlk 1 [eInt 0, eInt 0, eInt 0, .raw (.slice none 0 0), .raw (.slice none 0 0)])), (0, .cells (tmBlk 1 (tmC (.mk k1 n1 a1 lv1 kids1)))), (9, .cells ⟨0, 26, 5, 0, tmC (.mk k2 n2 a2 lv2 kids2) ++ tmC (.mk k3 n3 a3 lv3 kids3)⟩)]⟩) [(9, 2 * 5)] (sl := [(1, .vals 5 K), (4, .ptr 1 0 0), (5, .ptr 2 0 0), (6, eInt (p : Int))]) (bs := [(2, .cells (tmBlk 1 (tmC (.mk 6 0 0 [] [(.mk k2 n2 a2 lv2 kids2), (.mk k3 n3 a3 lv3 kids3)])))), (1, .cells (tmBlk 1 [eInt 0, eInt 0, eInt 0, .raw (.slice none 0 0), .raw (.slice none 0 0)])), (0, .cells (tmBlk 1 (tmC (.mk k1 n1 a1 lv1 kids1)))), (9, .cells ⟨0, 26, 5, max 0 (2 * 5), tmC (.mk k2 n2 a2 lv2 kids2) ++ tmC (.mk k3 n3 a3 lv3 kids3)⟩)]) ?_ (snapS_same _) ?_
      · have hn5 : tmC (.mk 6 0 0 [] [(.mk k2 n2 a2 lv2 kids2), (.mk k3 n3 a3 lv3 kids3)]) = [eInt 6, eInt 0, eInt 0, .vals 1 [], .vals 5 ([(.mk k2 n2 a2 lv2 kids2), (.mk k3 n3 a3 lv3 kids3)].map eTm)] := rfl
        rw [hn5]
        exact .cells (l := [(9, 0 + 2 * 5)]) (.pure (.raw _) (.pure (.raw _) (.pure (.raw _) (.none hso.1)))) hso.2 (.same (.same (.same .nil)))
      · repeat' first
          | refine wk ?_
          | refine wa ?_
          | (refine goesL_b (by rfl) (by rfl) fun b hb => ?_; cases b <;> refine sm ?_)
          | (refine goesA_b (by rfl) (by rfl) fun b hb => ?_; cases b <;> refine sm ?_)
        refine within_of (by repeat' first | exact True.intro | exact Of.raw _ | exact Of.emp | exact Of.ptr (has_nil (by rfl)) | exact Of.row (has_nil (by rfl)) | exact Of.yld (has_nil (by rfl)) | exact has_nil (by rfl) | assumption | exact Pure.of (by assumption) | exact Pure.of (pure_lvs _ _) | exact Pure.of (pure_tms _ _) | refine And.intro ?_ ?_ | exact ofC_pure (by assumption) | (refine Of.clo (fun _ ha => nomatch ha) (ofC_pure (by assumption))) | (refine Of.agg (OfC.all ?_)) | (refine Of.clo (fun _ ha => nomatch ha) (OfC.all ?_))) (by repeat' first | exact True.intro | refine And.intro ?_ ?_ | exact has_nil (by rfl)) (by first | exact True.intro | exact Of.raw _ | exact Of.ifc (Of.raw _)) (by repeat' first | exact True.intro | exact Of.raw _ | exact Of.emp | exact Of.ptr (has_nil (by rfl)) | exact Of.row (has_nil (by rfl)) | exact Of.yld (has_nil (by rfl)) | exact has_nil (by rfl) | assumption | exact Pure.of (by assumption) | exact Pure.of (pure_lvs _ _) | exact Pure.of (pure_tms _ _) | refine And.intro ?_ ?_ | exact ofC_pure (by assumption) | (refine Of.agg (OfC.all ?_)) | (refine Of.clo (fun _ ha => nomatch ha) (OfC.all ?_))) ?_
        refine ⟨K.length - (p + 1), by omega, p + 1, .mk 6 0 0 [] [(.mk k2 n2 a2 lv2 kids2), (.mk k3 n3 a3 lv3 kids3)], by omega, rfl, hux, ?_, rfl⟩
        have e2 : IntKind.i64.wrap ((p : Int) + 1) = ((p + 1 : Nat) : Int) := by
          rw [show ((p : Int) + 1) = ((p + 1 : Nat) : Int) from rfl, wrap_nat (by omega)]
        rw [← e2]
        rfl
  · obtain rfl : u = D := by rw [← hu, List.take_of_length_le (by omega)]; exact hD
    rw [eTm_agg u]
    obtain ⟨k2, n2, a2, lv2, kids2⟩ := u
    repeat' first
      | refine wk ?_
      | refine wa ?_
      | (refine goesL_b (by rfl) (by rfl) fun b hb => ?_; cases b <;> refine sm ?_)
      | (refine goesA_b (by rfl) (by rfl) fun b hb => ?_; cases b <;> refine sm ?_)
    · exact ⟨rfl, _, rfl, rfl⟩
    · exact absurd (of_decide_eq_true hb) (by omega)
theorem openT_succ {n : Nat} {u : Tm} {x : Tm} {l : List Tm} {v : Tm} (h : openT (n + 1) u = some (x :: l, v)) : ∃ n1 a1 lv1 y, u = .mk 4 n1 a1 lv1 [x, y] ∧ openT n y = some (l, v) := by
  cases e : u.two 4 with
  | false => rw [openT_no e] at h; cases h
  | true =>
    obtain ⟨k1, n1, a1, lv1, kids1⟩ := u
    obtain ⟨rfl, x', y, rfl⟩ := Tm.two_iff.1 e
    rw [openT_go] at h
    cases ho : openT n y with
    | none => rw [ho] at h; cases h
    | some q =>
      rw [ho] at h
      simp at h
      obtain ⟨⟨rfl, h1⟩, h2⟩ := h
      exact ⟨n1, a1, lv1, y, rfl, by rw [ho, ← h1, ← h2]⟩
theorem rputs_tells (row by' : List Tm) (hr : ∀ t ∈ row, t.bare ∧ t.fit ∧ t.size ≤ 1048576) (hl : row.length ≤ 1048576) (hby : ∀ b ∈ by', b.bare ∧ b.fit ∧ b.size ≤ 1048576) (hbl : by'.length ≤ 1048576) (hs : (aboveT 4 zeroTm row).size ≤ 1048576) (hbr : (aboveT 4 zeroTm row).bare) (hf : (aboveT 4 zeroTm row).fit) :
    Tells Tryz.prog (.func 24) [.vals 5 (row.map eTm), .vals 5 (by'.map eTm)] [] (.vals 5 ((walksAt (putT by') 0 row).map eTm)) := by
  have hz : zeroTm.bare := (Tm.bare_mk ..).2 ⟨rfl, by rw [Tm.bareL]; trivial⟩
  have hzf : zeroTm.fit := (Tm.fit_mk ..).2 ⟨⟨by omega, by omega⟩, ⟨by simp, by simp⟩, by simp, by rw [Tm.fitL]; trivial⟩
  have hT1 := rPis_tells row zeroTm (by rw [show zeroTm.size = 1 from rfl]; omega) hz hzf hr hl
  have hT2 := rPut_tells (aboveT 4 zeroTm row) by' hby hbl hs hbr hf
  have hop := puts_open by' zeroTm row
  obtain ⟨W, hW⟩ : ∃ W, walksAt (putT by') 0 row = W := ⟨_, rfl⟩
  have hWl : W.length = row.length := by rw [← hW]; exact walksAt_length ..
  rw [hW] at hop ⊢
  refine tells_of (fun b hb => ?_) (pure_tms 5 W) ?_
  · simp at hb; rcases hb with rfl | rfl
    · exact pure_tms 5 row
    · exact pure_tms 5 by'
  obtain ⟨K, hK⟩ : ∃ K, row.map eTm = K := ⟨_, rfl⟩
  have hKl : K.length = row.length := by rw [← hK]; simp
  have hKp : Pure (.vals 5 K) := hK ▸ pure_tms 5 row
  have hBp := pure_tms 5 by'
  generalize by'.map eTm = B at hT2 hBp ⊢
  rw [hK] at hT1 ⊢
  rw [← hKl] at hop
  generalize (aboveT 4 zeroTm row).walk (putT by') 0 = w at hT2 hop
  generalize aboveT 4 zeroTm row = q at hT1 hT2
  generalize zeroTm.walk (putT by') K.length = v at hop
  rw [eTm_agg q] at hT1 hT2
  rw [eTm_agg w] at hT2
  have hpw := pure_tmC w
  obtain ⟨w0, hw0⟩ : ∃ w0, w0 = w := ⟨_, rfl⟩
  obtain ⟨k1, n1, a1, lv1, kids1⟩ := q
  obtain ⟨k2, n2, a2, lv2, kids2⟩ := w
  refine gives_enter Tryz.func24 rfl rfl ?_
  repeat' first
    | refine wk ?_
    | refine wa ?_
    | (refine goesL_b (by rfl) (by rfl) fun b hb => ?_; cases b <;> refine sm ?_)
    | (refine goesA_b (by rfl) (by rfl) fun b hb => ?_; cases b <;> refine sm ?_)
  refine goesL_call (by rfl) (by rfl) (by rfl) (by rfl) (by rfl) (gives_seal (args' := [.vals 5 K, eTm zeroTm]) (l := []) [] hT1 (.pure hKp (.agg (j := []) (l := []) (.pure (.raw _) (.pure (.raw _) (.pure (.raw _) (.none (.none .nil))))) .nil)) rfl (fun p hp => nomatch hp) ?_)
  refine sm ?_
  repeat' first
    | refine wk ?_
    | refine wa ?_
    | refine tl hT2 ?_
    | refine ta hT2 ?_
    | (refine goesL_b (by rfl) (by rfl) fun b hb => ?_; cases b <;> refine sm ?_)
    | (refine goesA_b (by rfl) (by rfl) fun b hb => ?_; cases b <;> refine sm ?_)
  refine goes_keep [0, 5, 6, 7] ?_
  rw [← hw0] at hop
  refine goes_loop (fun M f h => ∃ (j : Nat) (u : Tm), j ≤ K.length ∧ M = K.length - j ∧ openT (K.length - j) u = some (W.drop j, v) ∧ ((j = 0 ∧ f.keep [0, 5, 6, 7] = ⟨⟨31, [(0, .vals 5 K), (5, .ptr 0 0 0), (6, .raw (.slice none 0 0)), (7, eInt 0)]⟩, [], none⟩ ∧ h = ⟨1, [], [(0, .cells (tmBlk 1 (tmC u)))]⟩) ∨
    ∃ (i : Nat) (g : Tm), j = i + 1 ∧ f.keep [0, 5, 6, 7] = ⟨⟨31, [(0, .vals 5 K), (5, .ptr 0 0 0), (6, .row 2 i 0 (i + 1)), (7, eInt ((i + 1 : Nat) : Int))]⟩, [], none⟩ ∧ h = ⟨3, [], [(2, .cells ⟨i, 26, 5, 0, tmsC (W.take (i + 1))⟩), (1, .cells (tmBlk 5 (tmC g))), (0, .cells (tmBlk 1 (tmC u)))]⟩)) ?_ K.length _ _ ⟨0, w0, Nat.zero_le _, by omega, hop, .inl ⟨rfl, rfl, by rw [hw0]; rfl⟩⟩
  rintro M f h ⟨j, u, hj, rfl, hou, ⟨rfl, hkf, rfl⟩ | ⟨i, g, rfl, hkf, rfl⟩⟩
  · refine goes_keep [0, 5, 6, 7] ?_
    rw [hkf]
    rcases Nat.eq_zero_or_pos K.length with h0 | hpos
    · have hW0 : W = [] := List.eq_nil_of_length_eq_zero (by omega)
      rw [hW0]
      repeat' first
        | refine wk ?_
        | refine wa ?_
        | (refine goesL_b (by rfl) (by rfl) fun b hb => ?_; cases b <;> refine sm ?_)
        | (refine goesA_b (by rfl) (by rfl) fun b hb => ?_; cases b <;> refine sm ?_)
      · exact ⟨rfl, _, rfl, _, [], [], rfl, .none .nil, fun p hp => nomatch hp⟩
      · exact absurd (of_decide_eq_true hb) (by omega)
    · obtain ⟨x, hx⟩ : ∃ x, W[0]? = some x := ⟨_, List.getElem?_eq_getElem (by omega)⟩
      have hdr : W.drop 0 = x :: W.drop 1 := by
        cases W with
        | nil => simp at hx
        | cons z W => simp at hx; subst hx; rfl
      rw [hdr, show K.length - 0 = (K.length - 1) + 1 by omega] at hou
      obtain ⟨n3, a3, lv3, y, rfl, hoy⟩ := openT_succ hou
      rw [tmC_two]
      obtain ⟨k4, n4, a4, lv4, kids4⟩ := x
      obtain ⟨k5, n5, a5, lv5, kids5⟩ := y
      repeat' first
        | refine wk ?_
        | refine wa ?_
        | (refine goesL_b (by rfl) (by rfl) fun b hb => ?_; cases b <;> refine sm ?_)
        | (refine goesA_b (by rfl) (by rfl) fun b hb => ?_; cases b <;> refine sm ?_)
      · exact absurd (of_decide_eq_false hb) (by omega)
      · refine ⟨K.length - 1, by omega, 1, .mk k5 n5 a5 lv5 kids5, by omega, rfl, hoy, .inr ⟨0, .mk k4 n4 a4 lv4 kids4, rfl, rfl, ?_⟩⟩
        rw [show W.take (0 + 1) = _ from take_one_t hx, tms_one]
        rfl
  · refine goes_keep [0, 5, 6, 7] ?_
    rw [hkf]
    have hpu := pure_tmC u
    have hpg := pure_tmC g
    have hpW := pure_tmsC (W.take (i + 1))
    have hi1 : (W.take (i + 1)).length = i + 1 := by rw [List.length_take]; omega
    refine goes_scope [0, 5, 6, 7] ?_
    rcases Nat.lt_or_eq_of_le hj with hlt | heq
    · obtain ⟨x, hx⟩ : ∃ x, W[i + 1]? = some x := ⟨_, List.getElem?_eq_getElem (by omega)⟩
      have hdr : W.drop (i + 1) = x :: W.drop (i + 1 + 1) := by
        have hlt2 : i + 1 < W.length := by omega
        rw [List.drop_eq_getElem_cons hlt2]
        rw [List.getElem?_eq_getElem hlt2] at hx
        injection hx with hx
        rw [hx]
      rw [hdr, show K.length - (i + 1) = (K.length - (i + 2)) + 1 by omega] at hou
      obtain ⟨n3, a3, lv3, y, rfl, hoy⟩ := openT_succ hou
      have hWi := take_next hx
      have hpW2 := pure_tmsC (W.take (i + 1) ++ [x])
      have hpy := pure_tmC y
      rw [tmC_two] at hpu ⊢
      obtain ⟨k4, n4, a4, lv4, kids4⟩ := x
      obtain ⟨k5, n5, a5, lv5, kids5⟩ := y
      repeat' first
        | refine wk ?_
        | refine wa ?_
        | (refine goesL_b (by rfl) (by rfl) fun b hb => ?_; cases b <;> refine sm ?_)
        | (refine goesA_b (by rfl) (by rfl) fun b hb => ?_; cases b <;> refine sm ?_)
      · exact absurd (of_decide_eq_false hb) (by omega)
      · refine goesL_push (c := W.take (i + 1)) (w := .mk k4 n4 a4 lv4 kids4) hi1 (by omega) ?_
        refine sm ?_
        repeat' first
          | refine wk ?_
          | refine wa ?_
          | (refine goesL_b (by rfl) (by rfl) fun b hb => ?_; cases b <;> refine sm ?_)
          | (refine goesA_b (by rfl) (by rfl) fun b hb => ?_; cases b <;> refine sm ?_)
        refine within_of (by repeat' first | exact True.intro | exact Of.raw _ | exact Of.emp | exact Of.ptr (has_nil (by rfl)) | exact Of.row (has_nil (by rfl)) | exact Of.yld (has_nil (by rfl)) | exact has_nil (by rfl) | assumption | exact Pure.of (by assumption) | exact Pure.of (pure_lvs _ _) | exact Pure.of (pure_tms _ _) | refine And.intro ?_ ?_ | exact ofC_pure (by assumption) | (refine Of.clo (fun _ ha => nomatch ha) (ofC_pure (by assumption))) | (refine Of.agg (OfC.all ?_)) | (refine Of.clo (fun _ ha => nomatch ha) (OfC.all ?_))) (by repeat' first | exact True.intro | refine And.intro ?_ ?_ | exact has_nil (by rfl)) (by first | exact True.intro | exact Of.raw _ | exact Of.ifc (Of.raw _)) (by repeat' first | exact True.intro | exact Of.raw _ | exact Of.emp | exact Of.ptr (has_nil (by rfl)) | exact Of.row (has_nil (by rfl)) | exact Of.yld (has_nil (by rfl)) | exact has_nil (by rfl) | assumption | exact Pure.of (by assumption) | exact Pure.of (pure_lvs _ _) | exact Pure.of (pure_tms _ _) | refine And.intro ?_ ?_ | exact ofC_pure (by assumption) | (refine Of.agg (OfC.all ?_)) | (refine Of.clo (fun _ ha => nomatch ha) (OfC.all ?_))) ?_
        refine ⟨K.length - (i + 2), by omega, i + 2, .mk k5 n5 a5 lv5 kids5, by omega, rfl, hoy, .inr ⟨i + 1, g, rfl, ?_, ?_⟩⟩
        · rw [← next_nat (m := i) (by omega)]
          rfl
        · rw [hWi]
          rfl
    · have hWt : W.take (i + 1) = W := List.take_of_length_le (by omega)
      rw [hWt] at hpW hi1 ⊢
      repeat' first
        | refine wk ?_
        | refine wa ?_
        | (refine goesL_b (by rfl) (by rfl) fun b hb => ?_; cases b <;> refine sm ?_)
        | (refine goesA_b (by rfl) (by rfl) fun b hb => ?_; cases b <;> refine sm ?_)
      · refine within_of (by repeat' first | exact True.intro | exact Of.raw _ | exact Of.emp | exact Of.ptr (has_nil (by rfl)) | exact Of.row (has_nil (by rfl)) | exact Of.yld (has_nil (by rfl)) | exact has_nil (by rfl) | assumption | exact Pure.of (by assumption) | exact Pure.of (pure_lvs _ _) | exact Pure.of (pure_tms _ _) | refine And.intro ?_ ?_ | exact ofC_pure (by assumption) | (refine Of.clo (fun _ ha => nomatch ha) (ofC_pure (by assumption))) | (refine Of.agg (OfC.all ?_)) | (refine Of.clo (fun _ ha => nomatch ha) (OfC.all ?_))) (by repeat' first | exact True.intro | refine And.intro ?_ ?_ | exact has_nil (by rfl)) (by first | exact True.intro | exact Of.raw _ | exact Of.ifc (Of.raw _)) (by repeat' first | exact True.intro | exact Of.raw _ | exact Of.emp | exact Of.ptr (has_nil (by rfl)) | exact Of.row (has_nil (by rfl)) | exact Of.yld (has_nil (by rfl)) | exact has_nil (by rfl) | assumption | exact Pure.of (by assumption) | exact Pure.of (pure_lvs _ _) | exact Pure.of (pure_tms _ _) | refine And.intro ?_ ?_ | exact ofC_pure (by assumption) | (refine Of.agg (OfC.all ?_)) | (refine Of.clo (fun _ ha => nomatch ha) (OfC.all ?_))) ?_
        refine sm ?_
        repeat' first
          | refine wk ?_
          | refine wa ?_
          | (refine goesL_b (by rfl) (by rfl) fun b hb => ?_; cases b <;> refine sm ?_)
          | (refine goesA_b (by rfl) (by rfl) fun b hb => ?_; cases b <;> refine sm ?_)
        have hsn := snap_tms (H := ⟨3, [], [(2, .cells ⟨i, 26, 5, 0, tmsC W⟩), (1, .cells (tmBlk 5 (tmC g))), (0, .cells (tmBlk 1 (tmC u)))]⟩) (r := 2) rfl hi1
        exact ⟨rfl, _, rfl, _, [(2, (i + 1) * 5)], [(2, 0 + (i + 1) * 5)], rfl, hsn.1, hsn.2⟩
      · exact absurd (of_decide_eq_true hb) (by omega)
end Go.Proofs.YtaoglkkdhdfioaaGreatDoor
