/- (types).above, tele.Pis: a range over slices.Backward. -/
import Derived.Test.YtaoglkkdhdfioaaGreatDoorEvWk
import Derived.Test.YtaoglkkdhdfioaaGreatDoorTeTele
import Derived.Test.YtaoglkkdhdfioaaGreatDoorEvTw
import Derived.KernelRfl
import Derived.Test.YtaoglkkdhdfioaaGreatDoorProg
namespace Go.Proofs.YtaoglkkdhdfioaaGreatDoor
open Go Go.Proofs
set_option maxRecDepth 100000
set_option maxHeartbeats 1000000
attribute [local go_sem] AH.seals AH.adds news List.nil_append List.cons_append AF.put AF.start Slots.set Slots.ins zipA AH.zero AH.new AH.put AH.sub ofV AV.cells List.length AF.keep AH.cut List.filter_cons List.filter_nil List.contains_cons List.contains_nil Nat.reduceBEq Bool.or_false Bool.or_true Bool.true_or Bool.false_or decide_true decide_false Bool.not_false Bool.and_true Bool.true_and Bool.and_self List.append_nil List.getElem_toArray List.getElem_cons_zero List.getElem_cons_succ Nat.reduceLT Nat.reduceAdd Nat.reduceSub Nat.reduceEqDiff andThen atEnd rounds Tryz.ntmps73 Tryz.ntmps109 Tryz.ntmps37 Tryz.ntmps10 givenA leftA AH.drop1 AH.drop AH.without List.foldl_cons List.foldl_nil List.zip_cons_cons List.zip_nil_left
theorem backward_tells (K : List AV) (hK : Pure (.vals 5 K)) : Tells Tryz.prog (.func 73) [.vals 5 K] [] (.clo (.func 109) [] [.vptr [.vals 5 K]]) := by
  refine tells_of (fun b hb => ?_) (.clo (fun a ha => nomatch ha) fun a ha => ?_) ?_
  · simp at hb; subst hb; exact hK
  · simp at ha; subst ha; exact .vptr fun x hx => by simp at hx; subst hx; exact hK
  refine gives_enter Tryz.func73 rfl rfl ?_
  repeat' first
    | refine wk ?_
    | (refine goesL_b (by rfl) (by rfl) fun b hb => ?_; cases b <;> refine sm ?_)
  refine ⟨rfl, _, rfl, _, [(0, 1)], [(0, 0 + 1)], rfl, .clo (j1 := []) (j2 := [(0, 0 + 1)]) (l := []) .nil (.vptr (n := 1) (j := []) (l := []) (c := { ver := 0, elem := 59, sz := 1, imm := 1, cs := [.vals 5 K] }) rfl (Nat.le_refl _) (.pure hK .nil) .nil) .nil, fun p hp c hc => ?_⟩
  simp at hp
  subst hp
  cases hc; exact Nat.le_refl _
/-- the elements come, the last one first -/
theorem backward_gives {K : List AV} (hK : Pure (.vals 5 K)) (h5 : ∀ e ∈ K, ∃ t, e = .agg (tmC t)) (hn : K.length ≤ 1048576) (r : Nat) (J : Nat → AH → Prop) {h : AH} {R : Res → AH → Prop} (h0 : J 0 h) (hstep : ∀ (j i : Nat) (e : AV) (h : AH), j + i + 1 = K.length → K[i]? = some e → J j h → GivesY Tryz.prog r [eInt (i : Int), e] h fun b h' => b = true ∧ J (j + 1) h') (hend : ∀ h, J K.length h → R (.ret unitT) h) :
    Gives Tryz.prog (.func 109) [.yld r] [.vptr [.vals 5 K]] h R := by
  refine gives_enter Tryz.func109 rfl rfl ?_
  repeat' first
    | refine wk ?_
    | (refine goesL_b (by rfl) (by rfl) fun b hb => ?_; cases b <;> refine sm ?_)
  have hst : ∀ (j : Nat), j ≤ K.length → IntKind.i64.wrap ((K.length : Int) - 1 - j) = (K.length : Int) - 1 - j := fun j hj => wrap_rng ⟨by omega, by omega⟩
  rw [show ((K.length : Int) - 1) = (K.length : Int) - 1 - ((0 : Nat) : Int) by omega, hst 0 (Nat.zero_le _)]
  refine goes_keep [0, 1, 3] ?_
  refine goes_loop (fun m f h => ∃ j : Nat, j ≤ K.length ∧ m = K.length - j ∧ J j h ∧ f.keep [0, 1, 3] = ⟨⟨19, [(0, .yld r), (1, .vptr [.vals 5 K]), (3, eInt ((K.length : Int) - 1 - j))]⟩, [], none⟩) ?_ K.length _ _ ⟨0, Nat.zero_le _, rfl, h0, rfl⟩
  rintro m f h ⟨j, hj, rfl, hJ, hkf⟩
  refine goes_keep [0, 1, 3] ?_
  rw [hkf]
  rcases Nat.lt_or_eq_of_le hj with hj' | rfl
  · obtain ⟨i, hi⟩ : ∃ i, j + i + 1 = K.length := ⟨K.length - 1 - j, by omega⟩
    have hcast : (K.length : Int) - 1 - j = (i : Int) := by omega
    rw [hcast]
    obtain ⟨e, he⟩ : ∃ e, K[i]? = some e := ⟨_, List.getElem?_eq_getElem (by omega)⟩
    have hY := hstep j i e h hi he hJ
    obtain ⟨t, rfl⟩ := h5 e (List.mem_of_getElem? he)
    obtain ⟨k, n, a, lv, kids⟩ := t
    repeat' first
      | refine wk ?_
      | (refine goesL_b (by rfl) (by rfl) fun b hb => ?_; cases b <;> refine sm ?_)
    refine goesL_index (n := i) (by rfl) (by rfl) (by rfl) (by rfl) (by rfl) (by rfl) (by rfl) he ?_
    refine sm ?_
    repeat' first
      | refine wk ?_
      | (refine goesL_b (by rfl) (by rfl) fun b hb => ?_; cases b <;> refine sm ?_)
    refine goesL_yield (by rfl) (by rfl) (by rfl) (by rfl) (by rfl) (hY.mono fun b h' hb => ?_)
    obtain ⟨rfl, hJ'⟩ := hb
    refine sm ?_
    repeat' first
      | refine wk ?_
      | (refine goesL_b (by rfl) (by rfl) fun b hb => ?_; cases b <;> refine sm ?_)
    have e2 : IntKind.i64.wrap ((i : Int) - 1) = (K.length : Int) - 1 - ((j + 1 : Nat) : Int) := by
      rw [wrap_rng ⟨by omega, by omega⟩]; omega
    refine ⟨K.length - (j + 1), by omega, j + 1, by omega, rfl, hJ', ?_⟩
    rw [← e2]
    try rfl
  · repeat' first
      | refine wk ?_
      | (refine goesL_b (by rfl) (by rfl) fun b hb => ?_; cases b <;> refine sm ?_)
    all_goals first | exact ⟨rfl, _, rfl, hend h hJ⟩ | exact absurd (of_decide_eq_true hb) (by omega)
theorem aboveT_drop (k : Int) (b : Tm) {row : List Tm} {i : Nat} {u : Tm} (h : row[i]? = some u) : aboveT k b (row.drop i) = .mk k 0 0 [] [u, aboveT k b (row.drop (i + 1))] := by
  obtain ⟨hi, rfl⟩ := List.getElem?_eq_some_iff.1 h
  rw [List.drop_eq_getElem_cons hi]
  rfl
theorem above_tells (row : List Tm) (k : Int) (b : Tm) (hs : b.size + Tm.sizeL row ≤ 1048576) (hf : b.fit) (hl : Tm.fitL row) : Tells Tryz.prog (.func 37) [.vals 5 (row.map eTm), eInt k, eTm b] [] (eTm (aboveT k b row)) := by
  have hT := tcopied_tells b (by omega) hf
  have hll := Tm.sizeL_len row
  obtain ⟨K, hK⟩ : ∃ K, row.map eTm = K := ⟨_, rfl⟩
  have hlen : K.length = row.length := by rw [← hK]; simp
  have hKp : Pure (.vals 5 K) := hK ▸ pure_tms 5 row
  have h5 : ∀ e ∈ K, ∃ t, e = .agg (tmC t) := fun e he => by
    rw [← hK] at he
    obtain ⟨t, _, rfl⟩ := List.mem_map.1 he
    exact ⟨t, eTm_agg t⟩
  have hB := backward_tells K hKp
  refine tells_raw (fun b hb => ?_) (pure_tm _) ?_
  · simp at hb; rcases hb with rfl | rfl | rfl
    · exact pure_tms 5 row
    · exact .raw _
    · exact pure_tm _
  rw [hK]
  rw [eTm_agg b] at hT ⊢
  have hpb := pure_tmC b
  refine gives_enterM Tryz.func37 rfl rfl ?_
  obtain ⟨bk, bn, ba, bl, bks⟩ := b
  repeat' first
    | refine wk ?_
    | (refine goesL_b (by rfl) (by rfl) fun b hb => ?_; cases b <;> refine sm ?_)
  refine goesL_tells hT (by rfl) (by rfl) (by rfl) (by rfl) (by rfl) (by rfl) ?_
  refine sm ?_
  repeat' first
    | refine wk ?_
    | (refine goesL_b (by rfl) (by rfl) fun b hb => ?_; cases b <;> refine sm ?_)
  refine goesL_tells hB (by rfl) (by rfl) (by rfl) (by rfl) (by rfl) (by rfl) ?_
  refine sm ?_
  repeat' first
    | refine wk ?_
    | (refine goesL_b (by rfl) (by rfl) fun b hb => ?_; cases b <;> refine sm ?_)
  refine goes_keep [4, 6, 7, 13] ?_
  refine goes_range (by rfl) Tryz.func109 rfl rfl rfl fun L0 hL0 => ?_
  simp only [go_sem, ↓reduceIte, reduceCtorEq] at hL0 ⊢
  refine backward_gives hKp h5 (by omega) 5 (fun j h => h = ⟨6, [], [(5, .loop L0), (4, .mark), (3, .cells (tmBlk 1 (tmC (aboveT k (.mk bk bn ba bl bks) (row.drop (K.length - j)))))), (2, .cells (tmBlk 1 [eInt 0, eInt 0, eInt 0, .raw (.slice none 0 0), .raw (.slice none 0 0)])), (1, .cells (tmBlk 1 (tmC (.mk bk bn ba bl bks)))), (0, .cells { ver := 0, elem := 23, sz := 1, imm := 0, cs := [eInt k] })]⟩) ?_ ?_ ?_
  · show _ = _
    rw [show K.length - 0 = row.length by omega, List.drop_length]
    rfl
  · rintro j i e h hji he rfl
    obtain ⟨u, hu⟩ : ∃ u, row[i]? = some u := ⟨_, List.getElem?_eq_getElem (by omega)⟩
    obtain rfl : e = .agg (tmC u) := by
      rw [← hK, List.getElem?_map, hu] at he
      injection he with he
      rw [← he, eTm_agg]
    have hsu := size_mem hu
    have hTu := tcopied_tells u (by omega) (fit_mem hl hu)
    have hd := aboveT_drop k (.mk bk bn ba bl bks) hu
    rw [show K.length - j = i + 1 by omega, show K.length - (j + 1) = i by omega]
    have hO := of_tells k [u, aboveT k (.mk bk bn ba bl bks) (row.drop (i + 1))]
    rw [← hd] at hO
    generalize aboveT k (.mk bk bn ba bl bks) (row.drop (i + 1)) = acc at hO ⊢
    generalize aboveT k (.mk bk bn ba bl bks) (row.drop i) = nxt at hO ⊢
    have hrow : [u, acc].map eTm = [.agg (tmC u), .agg (tmC acc)] := by rw [← eTm_agg, ← eTm_agg]; rfl
    rw [hrow, eTm_agg nxt] at hO
    rw [eTm_agg u] at hTu
    have hpu := pure_tmC u
    have hpa := pure_tmC acc
    have hpn := pure_tmC nxt
    have hpb := pure_tmC (.mk bk bn ba bl bks)
    obtain ⟨k1, n1, a1, lv1, kids1⟩ := acc
    obtain ⟨k2, n2, a2, lv2, kids2⟩ := u
    obtain ⟨k3, n3, a3, lv3, kids3⟩ := nxt
    have hCl := hB.out
    refine givesY_cut ?_
    refine gives_yld (L := L0) (by rfl) (by rw [hL0]) (by rw [hL0]; rfl) ?_
    subst hL0
    refine sm ?_
    repeat' first
      | refine wk ?_
      | (refine goesL_b (by rfl) (by rfl) fun b hb => ?_; cases b <;> refine sm ?_)
    refine ⟨by first | rfl | trivial, by first | rfl | trivial, ?_⟩
    repeat' first
      | refine wk ?_
      | (refine goesL_b (by rfl) (by rfl) fun b hb => ?_; cases b <;> refine sm ?_)
    refine goes_draw 5 [] (by rfl) (by kernel_rfl) ?_
    refine sm ?_
    repeat' first
      | (refine goesD_q (y := .raw (.bool true)) (by first | decide | exact Nat.le_of_ble_eq_true rfl) (by rfl) (by rfl) ?_; refine sm ?_)
      | (refine goesD_q (y := .raw (.bool false)) (by first | decide | exact Nat.le_of_ble_eq_true rfl) (by rfl) (by rfl) ?_; refine sm ?_)
      | (refine goesD_b (by first | decide | exact Nat.le_of_ble_eq_true rfl) (by rfl) (by rfl) fun b hb => ?_; cases b <;> refine sm ?_)
      | (refine goesD_q (by first | decide | exact Nat.le_of_ble_eq_true rfl) (by rfl) (by rfl) ?_; refine sm ?_)
      | (refine goesD_s (by first | decide | exact Nat.le_of_ble_eq_true rfl) (by rfl) (qok_rop (by rfl)) ?_; refine sm ?_)
      | (refine goesD_off (by first | decide | exact Nat.le_of_ble_eq_true rfl) (by rfl) ?_; refine sm ?_)
      | (refine goesD_end (by rfl) ?_; refine sm ?_)
      | (refine goes_seq ?_)
    refine goesD_tells hTu (by decide) (by rfl) (by rfl) (by rfl) (by rfl) (by rfl) (by rfl) (by rfl) ?_
    refine sm ?_
    repeat' first
      | (refine goesD_q (y := .raw (.bool true)) (by first | decide | exact Nat.le_of_ble_eq_true rfl) (by rfl) (by rfl) ?_; refine sm ?_)
      | (refine goesD_q (y := .raw (.bool false)) (by first | decide | exact Nat.le_of_ble_eq_true rfl) (by rfl) (by rfl) ?_; refine sm ?_)
      | (refine goesD_b (by first | decide | exact Nat.le_of_ble_eq_true rfl) (by rfl) (by rfl) fun b hb => ?_; cases b <;> refine sm ?_)
      | (refine goesD_q (by first | decide | exact Nat.le_of_ble_eq_true rfl) (by rfl) (by rfl) ?_; refine sm ?_)
      | (refine goesD_s (by first | decide | exact Nat.le_of_ble_eq_true rfl) (by rfl) (qok_rop (by rfl)) ?_; refine sm ?_)
      | (refine goesD_off (by first | decide | exact Nat.le_of_ble_eq_true rfl) (by rfl) ?_; refine sm ?_)
      | (refine goesD_end (by rfl) ?_; refine sm ?_)
      | (refine goes_seq ?_)
    refine goesD_n 0 (by decide) (by rfl) (by rfl) (Nat.zero_le _) ?_
    refine sm ?_
    repeat' first
      | (refine goesD_q (y := .raw (.bool true)) (by first | decide | exact Nat.le_of_ble_eq_true rfl) (by rfl) (by rfl) ?_; refine sm ?_)
      | (refine goesD_q (y := .raw (.bool false)) (by first | decide | exact Nat.le_of_ble_eq_true rfl) (by rfl) (by rfl) ?_; refine sm ?_)
      | (refine goesD_b (by first | decide | exact Nat.le_of_ble_eq_true rfl) (by rfl) (by rfl) fun b hb => ?_; cases b <;> refine sm ?_)
      | (refine goesD_q (by first | decide | exact Nat.le_of_ble_eq_true rfl) (by rfl) (by rfl) ?_; refine sm ?_)
      | (refine goesD_s (by first | decide | exact Nat.le_of_ble_eq_true rfl) (by rfl) (qok_rop (by rfl)) ?_; refine sm ?_)
      | (refine goesD_off (by first | decide | exact Nat.le_of_ble_eq_true rfl) (by rfl) ?_; refine sm ?_)
      | (refine goesD_end (by rfl) ?_; refine sm ?_)
      | (refine goes_seq ?_)
    refine goesL_call (by rfl) (by rfl) (by rfl) (by rfl) (by rfl) (gives_row (r := 11) (n := 2) (pre := [eInt k]) (c := tmBlk 5 (tmC (.mk k2 n2 a2 lv2 kids2) ++ tmC (.mk k1 n1 a1 lv1 kids1))) (es := [.agg (tmC (.mk k2 n2 a2 lv2 kids2)), .agg (tmC (.mk k1 n1 a1 lv1 kids1))]) (by rfl) (by rfl) (by simp [tmC_length, AV.cells]) (by simp; exact ⟨.agg hpu, .agg hpa⟩) (by rfl) (by simp; exact .raw _) (by rfl) (by rfl) hO ?_)
    refine sm ?_
    repeat' first
      | refine wk ?_
      | (refine goesL_b (by rfl) (by rfl) fun b hb => ?_; cases b <;> refine sm ?_)
    exact ⟨_, true, .ready, none, rfl, rfl, OfH.all (by refine sm ?_; repeat' first | exact True.intro | exact Of.raw _ | exact Of.emp | exact Of.ptr (has_nil (by rfl)) | exact Of.row (has_nil (by rfl)) | exact Of.yld (has_nil (by rfl)) | assumption | exact Pure.of (by assumption) | exact Pure.of (pure_lvs _ _) | exact Pure.of (pure_tms _ _) | exact has_nil (by rfl) | refine And.intro ?_ ?_ | exact ofC_pure (by assumption) | (refine Of.agg (OfC.all ?_)) | (refine Of.clo (fun _ ha => nomatch ha) (OfC.all ?_))), rfl, rfl⟩
  · rintro h rfl
    rw [show K.length - K.length = 0 by omega, List.drop_zero]
    refine ⟨_, L0, rfl, by rfl, by rw [hL0]; simp, ?_⟩
    rw [show L0.pending = none by rw [hL0]]
    show Goes _ _ _ _ _
    refine sm ?_
    generalize aboveT k (.mk bk bn ba bl bks) row = res
    rw [eTm_agg res]
    obtain ⟨k1, n1, a1, lv1, kids1⟩ := res
    repeat' first
      | refine wk ?_
      | (refine goesL_b (by rfl) (by rfl) fun b hb => ?_; cases b <;> refine sm ?_)
    exact ⟨fun m hm => Nat.zero_le _, no_loop rfl, _, rfl, rfl⟩
theorem pis_tells (row : List Tm) (b : Tm) (hs : b.size + Tm.sizeL row ≤ 1048576) (hf : b.fit) (hl : Tm.fitL row) : Tells Tryz.prog (.func 10) [.vals 5 (row.map eTm), eTm b] [] (eTm (aboveT 4 b row)) := by
  have hT := above_tells row 4 b hs hf hl
  refine tells_raw (fun b hb => ?_) (pure_tm _) ?_
  · simp at hb; rcases hb with rfl | rfl
    · exact pure_tms 5 row
    · exact pure_tm _
  generalize aboveT 4 b row = res at hT ⊢
  rw [eTm_agg res] at hT ⊢
  rw [eTm_agg b] at hT ⊢
  obtain ⟨bk, bn, ba, bl, bks⟩ := b
  obtain ⟨k1, n1, a1, lv1, kids1⟩ := res
  generalize row.map eTm = K at hT ⊢
  refine gives_enter Tryz.func10 rfl rfl ?_
  repeat' first
    | refine wk ?_
    | (refine goesL_b (by rfl) (by rfl) fun b hb => ?_; cases b <;> refine sm ?_)
  refine goesL_tells hT (by rfl) (by rfl) (by rfl) (by rfl) (by rfl) (by rfl) ?_
  refine sm ?_
  repeat' first
    | refine wk ?_
    | (refine goesL_b (by rfl) (by rfl) fun b hb => ?_; cases b <;> refine sm ?_)
  exact ⟨rfl, _, rfl, rfl⟩
end Go.Proofs.YtaoglkkdhdfioaaGreatDoor
