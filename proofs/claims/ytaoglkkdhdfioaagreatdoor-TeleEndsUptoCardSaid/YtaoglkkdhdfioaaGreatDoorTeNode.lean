/- (term.walk).node: a node turned in its place. -/
import Derived.Test.YtaoglkkdhdfioaaGreatDoorEvWk
import Derived.Test.YtaoglkkdhdfioaaGreatDoorTeCopied
import Derived.Test.YtaoglkkdhdfioaaGreatDoorTeEach
import Derived.KernelRfl
import Derived.Test.YtaoglkkdhdfioaaGreatDoorProg
namespace Go.Proofs.YtaoglkkdhdfioaaGreatDoor
open Go Go.Proofs
set_option maxRecDepth 100000
set_option maxHeartbeats 1000000
attribute [local go_sem] AH.seals AH.adds news List.nil_append List.cons_append AF.put AF.start Slots.set Slots.ins zipA AH.zero AH.new AH.put AH.sub ofV AV.cells List.length AF.keep AH.cut List.filter_cons List.filter_nil List.contains_cons List.contains_nil Nat.reduceBEq Bool.or_false Bool.or_true Bool.true_or Bool.false_or decide_true decide_false Bool.not_false Bool.and_true Bool.true_and Bool.and_self List.append_nil List.getElem_toArray List.getElem_cons_zero List.getElem_cons_succ Nat.reduceLT Nat.reduceAdd Nat.reduceSub Nat.reduceEqDiff andThen atEnd rounds Tryz.ntmps132
theorem pure_nil : ∀ a ∈ ([] : List AV), Pure a := fun a ha => nomatch ha
theorem pure_app {A C B : List AV} (hA : ∀ x ∈ A, Pure x) (hC : ∀ x ∈ C, Pure x) (hB : ∀ x ∈ B, Pure x) : ∀ x ∈ A ++ (C ++ B), Pure x := fun x hx => by
  rcases List.mem_append.1 hx with h1 | h1
  · exact hA x h1
  · rcases List.mem_append.1 h1 with h2 | h2
    · exact hC x h2
    · exact hB x h2
abbrev unitT : AV := .tup []
/-- a node's cells -/
def nodeC (k n a : Int) (lv : List (List (Int × Int))) (kids : List Tm) : List AV := [eInt k, eInt n, eInt a, .vals 1 (lv.map eLv), .vals 5 (kids.map eTm)]
/-- a node's cells, whatever its kids lie in -/
def nodeV (k n a : Int) (lv : List (List (Int × Int))) (r : AV) : List AV := [eInt k, eInt n, eInt a, .vals 1 (lv.map eLv), r]
def tmC : Tm → List AV
  | .mk k n a lv kids => nodeC k n a lv kids
theorem tmC_eq (t : Tm) : (eTm t).cells = tmC t := by
  obtain ⟨k, n, a, lv, kids⟩ := t
  rw [eTm_mk]; rfl
theorem pure_nodeC (k n a : Int) (lv : List (List (Int × Int))) (kids : List Tm) : ∀ x ∈ nodeC k n a lv kids, Pure x := fun x hx => by
  simp [nodeC] at hx
  rcases hx with rfl | rfl | rfl | rfl | rfl
  · exact .raw _
  · exact .raw _
  · exact .raw _
  · exact pure_lvs 1 lv
  · exact pure_tms 5 kids
theorem pure_tmC (t : Tm) : ∀ x ∈ tmC t, Pure x := by
  obtain ⟨k, n, a, lv, kids⟩ := t
  exact pure_nodeC k n a lv kids
theorem tmC_length (t : Tm) : (tmC t).length = 5 := by
  obtain ⟨k, n, a, lv, kids⟩ := t
  rfl
/-- a row's cells -/
def tmsC (ts : List Tm) : List AV := (ts.map eTm).flatMap AV.cells
theorem tmsC_nil : tmsC [] = [] := rfl
theorem tmsC_cons (t : Tm) (ts : List Tm) : tmsC (t :: ts) = tmC t ++ tmsC ts := by
  unfold tmsC
  rw [List.map_cons, List.flatMap_cons, tmC_eq]
theorem tmsC_append (ts us : List Tm) : tmsC (ts ++ us) = tmsC ts ++ tmsC us := by simp [tmsC]
theorem tmsC_length : ∀ ts : List Tm, (tmsC ts).length = ts.length * 5
  | [] => rfl
  | t :: ts => by rw [tmsC_cons, List.length_append, tmC_length, tmsC_length ts, List.length_cons]; omega
theorem pure_tmsC (ts : List Tm) : ∀ x ∈ tmsC ts, Pure x := fun x hx => by
  obtain ⟨e, he, hx⟩ := List.mem_flatMap.1 hx
  obtain ⟨t, _, rfl⟩ := List.mem_map.1 he
  exact (pure_tm t).cells x hx
theorem tmC_one (t : Tm) : (tmC t).all AV.one = true := by
  obtain ⟨k, n, a, lv, kids⟩ := t
  rfl
theorem tmsC_one (ts : List Tm) : ∀ e ∈ ts.map eTm, ∀ a ∈ e.cells, a.one = true := fun e he a ha => by
  obtain ⟨t, _, rfl⟩ := List.mem_map.1 he
  rw [tmC_eq] at ha
  exact List.all_eq_true.1 (tmC_one t) a ha
theorem snap_pre {h : AH} {us bs : List AV} {l : List (Nat × Nat)} (hs : SnapL h us bs l) : ∀ {A : List AV}, (∀ a ∈ A, Pure a) → SnapL h (A ++ us) (A ++ bs) l
  | [], _ => hs
  | a :: A, hp => .pure (hp a (List.mem_cons_self ..)) (snap_pre hs fun b hb => hp b (List.mem_cons_of_mem _ hb))
theorem snapS_same {h : AH} : ∀ l : List (Nat × AV), SnapS h l l
  | [] => .nil
  | _ :: l => .same (snapS_same l)
abbrev tmBlk (sz : Nat) (cs : List AV) : Cells := ⟨0, 26, sz, 0, cs⟩
/-- what a turn is made of, turns so, in its place -/
structure TurnOk (F : Nat) (cap : List AV) (tr : Turn) (D : Nat) : Prop where
  pcap : ∀ a ∈ cap, Pure a
  go : ∀ (d : Nat) (k n a : Int) (lv : List (List (Int × Int))) (kids : List Tm) (sz off : Nat) (A B : List AV) (n' : Int) (lv' : List (List (Int × Int))), d ≤ D → (Tm.mk k n a lv kids).fit → (∀ x ∈ A, Pure x) → (∀ x ∈ B, Pure x) → off = A.length → tr d k n lv = .go n' lv' →
    SlimL lv' ∧ Gives Tryz.prog (.func F) [.agg [eInt (d : Int)], .ptr 0 0 off] cap (.lone (tmBlk sz (A ++ (nodeC k n a lv kids ++ B)))) fun z h' => z = .ret (eBool false) ∧ h'.get 0 = some (.cells (tmBlk sz (A ++ (nodeC k n' a lv' kids ++ B))))
  done : ∀ (d : Nat) (k n a : Int) (lv : List (List (Int × Int))) (kids : List Tm) (sz off : Nat) (A B : List AV) (u : Tm), d ≤ D → (Tm.mk k n a lv kids).fit → (∀ x ∈ A, Pure x) → (∀ x ∈ B, Pure x) → off = A.length → tr d k n lv = .done u →
    Gives Tryz.prog (.func F) [.agg [eInt (d : Int)], .ptr 0 0 off] cap (.lone (tmBlk sz (A ++ (nodeC k n a lv kids ++ B)))) fun z h' => z = .ret (eBool true) ∧ h'.get 0 = some (.cells (tmBlk sz (A ++ (tmC u ++ B))))
theorem node_gives {F : Nat} {cap : List AV} {tr : Turn} {D : Nat} (hD : D ≤ 1073741824) (hT : TurnOk F cap tr D) (t : Tm) : ∀ (d sz off : Nat) (A B : List AV), d + t.size ≤ D → t.fit → (∀ x ∈ A, Pure x) → (∀ x ∈ B, Pure x) → off = A.length →
    Gives Tryz.prog (.func 132) [.agg [eInt (d : Int), .clo (.func F) [] cap], .ptr 0 0 off] [] (.lone (tmBlk sz (A ++ (tmC t ++ B)))) fun z h' => z = .ret unitT ∧ h'.get 0 = some (.cells (tmBlk sz (A ++ (tmC (t.walk tr d) ++ B)))) := by
  induction t using Tm.ind with
  | h k n a lv kids ih =>
  intro d sz off A B hd hf hA hB hoff
  have hCp : Pure (AV.clo (.func F) [] cap) := .clo (fun a ha => nomatch ha) hT.pcap
  have hdp : Pure (AV.agg [eInt (d : Int)]) := .agg fun x hx => by simp at hx; subst hx; exact .raw _
  have hsize : d ≤ D := by omega
  have hAB : ∀ C : List AV, (∀ x ∈ C, Pure x) → ∀ x ∈ A ++ (C ++ B), Pure x := fun C hC x hx => by
    rcases List.mem_append.1 hx with h1 | h1
    · exact hA x h1
    · rcases List.mem_append.1 h1 with h2 | h2
      · exact hC x h2
      · exact hB x h2
  refine gives_enter Tryz.func132 rfl rfl ?_
  show Goes _ _ _ (.lone (tmBlk sz (A ++ (nodeC k n a lv kids ++ B)))) _
  unfold AH.lone
  repeat' first
    | refine wk ?_
    | (refine goesL_b (by rfl) (by rfl) fun b hb => ?_; cases b <;> refine sm ?_)
  cases htr : tr d k n lv with
  | done u =>
    refine goesL_call (by rfl) (by rfl) (by rfl) (by rfl) (by rfl) (gives_lentC (r := 0) (by rfl) (hAB _ (pure_nodeC k n a lv kids)) (.cons (.pure hdp) (.cons .ptr .nil)) hT.pcap (hT.done d k n a lv kids sz off A B u hsize hf hA hB hoff htr) (.raw _) (by simp [tmC_length, nodeC]; omega) (hAB _ (pure_tmC u)) ?_)
    refine sm ?_
    repeat' first
      | refine wk ?_
      | (refine goesL_b (by rfl) (by rfl) fun b hb => ?_; cases b <;> refine sm ?_)
    rw [Tm.walk_done htr]
    refine ⟨rfl, _, rfl, rfl, rfl⟩
  | go n' lv' =>
    obtain ⟨hslim, hgo⟩ := hT.go d k n a lv kids sz off A B n' lv' hsize hf hA hB hoff htr
    refine goesL_call (by rfl) (by rfl) (by rfl) (by rfl) (by rfl) (gives_lentC (r := 0) (by rfl) (hAB _ (pure_nodeC k n a lv kids)) (.cons (.pure hdp) (.cons .ptr .nil)) hT.pcap hgo (.raw _) (by simp [nodeC]) (hAB _ (pure_nodeC k n' a lv' kids)) ?_)
    refine sm ?_
    repeat' first
      | refine wk ?_
      | (refine goesL_b (by rfl) (by rfl) fun b hb => ?_; cases b <;> refine sm ?_)
    have hls := eachLevel_tells lv' id 149 [] (fun a ha => nomatch ha) hslim.1 fun l hl => copied_tells l (by have := hslim.2 l hl; omega)
    rw [List.map_id] at hls
    refine goesL_q (by rfl) (qop_loadP (b := .vals 1 (lv'.map eLv)) (by rfl) (by rfl) (by rfl) (by rfl) (by rfl) (get_at (i := 3) hoff rfl) rfl) ?_
    refine sm ?_
    refine goesL_tells hls (by rfl) (by rfl) (by rfl) (by rfl) (by rfl) (by rfl) ?_
    refine sm ?_
    repeat' first
      | refine wk ?_
      | (refine goesL_b (by rfl) (by rfl) fun b hb => ?_; cases b <;> refine sm ?_)
    refine goesL_m (by rfl) (mop_storeS 1 (set_at (C := nodeC k n' a lv' kids) (i := 3) (ys := [.vals 1 (lv'.map eLv)]) (C' := nodeC k n' a lv' kids) hoff (by show 4 ≤ 5; omega) rfl) (by rfl) (by rfl) (by rfl) (by rfl) (by rfl) (by rfl) (by simp [nodeC]; omega) (Nat.zero_le _) (by rfl)) ?_
    refine sm ?_
    repeat' first
      | refine wk ?_
      | (refine goesL_b (by rfl) (by rfl) fun b hb => ?_; cases b <;> refine sm ?_)
    refine goesL_q (by rfl) (qop_loadP (b := .vals 5 (kids.map eTm)) (by rfl) (by rfl) (by rfl) (by rfl) (by rfl) (get_at (i := 4) hoff rfl) rfl) ?_
    refine sm ?_
    rw [Tm.walk_go htr]
    show GoesL _ _ _ _ _ _
    by_cases h0 : kids = []
    · subst h0
      repeat' first
        | refine wk ?_
        | (refine goesL_b (by rfl) (by rfl) fun b hb => ?_; cases b <;> refine sm ?_)
      refine goesL_m (by rfl) (mop_storeS 1 (set_at (C := nodeC k n' a lv' []) (i := 4) (ys := [.raw (.slice none 0 0)]) (C' := nodeV k n' a lv' (.raw (.slice none 0 0))) hoff (by show 5 ≤ 5; omega) rfl) (by rfl) (by rfl) (by rfl) (by rfl) (by rfl) (by rfl) (by simp [nodeC]; omega) (Nat.zero_le _) (by rfl)) ?_
      refine sm ?_
      repeat' first
        | refine wk ?_
        | (refine goesL_b (by rfl) (by rfl) fun b hb => ?_; cases b <;> refine sm ?_)
      refine goesL_q (by rfl) (qop_loadP (b := .raw (.slice none 0 0)) (by rfl) (by rfl) (by rfl) (by rfl) (by rfl) (get_at (C := nodeV k n' a lv' _) (i := 4) hoff rfl) rfl) ?_
      refine sm ?_
      repeat' first
        | refine wk ?_
        | (refine goesL_b (by rfl) (by rfl) fun b hb => ?_; cases b <;> refine sm ?_)
      refine goes_keep [1, 2, 31, 32] ?_
      refine goes_snap [] (sl := [(1, .ptr 0 0 off), (2, .ptr 1 0 0), (31, eInt 0), (32, eInt 0)]) (bs := [(1, Blk.cells { ver := 0, elem := 137, sz := 1, imm := 0, cs := [eInt (d : Int), AV.clo (Fn.func F) [] cap] }), (0, Blk.cells (tmBlk sz (A ++ (nodeC k n' a lv' [] ++ B))))])
        (.same (.cells (snap_pre (.pure (.raw _) (.pure (.raw _) (.pure (.raw _) (.pure (pure_lvs 1 lv') (.none (snap_pure hB)))))) hA) (fun p hp => nomatch hp) .nil)) (snapS_same _) ?_
      refine goes_loop (fun m f h => f = ⟨⟨54, [(1, .ptr 0 0 off), (2, .ptr 1 0 0), (31, eInt 0), (32, eInt 0)]⟩, [], none⟩ ∧ h = ⟨2, [], [(1, Blk.cells { ver := 0, elem := 137, sz := 1, imm := 0, cs := [eInt (d : Int), AV.clo (Fn.func F) [] cap] }), (0, Blk.cells (tmBlk sz (A ++ (nodeC k n' a lv' [] ++ B))))]⟩) ?_ 0 _ _ ⟨rfl, rfl⟩
      rintro m f h ⟨rfl, rfl⟩
      repeat' first
        | refine wk ?_
        | (refine goesL_b (by rfl) (by rfl) fun b hb => ?_; cases b <;> refine sm ?_)
      exact ⟨rfl, _, rfl, rfl, rfl⟩
    · obtain ⟨K, hK⟩ : ∃ K, kids.map eTm = K := ⟨_, rfl⟩
      have hlen : K.length = kids.length := by rw [← hK]; simp
      have hpos : 0 < kids.length := List.length_pos_iff.2 h0
      have hone : ∀ e ∈ K, ∀ a ∈ e.cells, a.one = true := hK ▸ tmsC_one kids
      rw [hK]
      have hf5 := (Tm.fit_mk k n a lv kids).1 hf
      repeat' first
        | refine wk ?_
        | (refine goesL_b (by rfl) (by rfl) fun b hb => ?_; cases b <;> refine sm ?_)
      refine goesL_n (by rfl) (nop_append (es := K) (by rfl) (by rfl) (by rfl) (by rfl) (by rfl) (by rfl) (by rfl) (by rfl) (by rfl) (by decide) (by rfl) (by rfl) (by omega) (by unfold tops; omega) hone) ?_
      refine sm ?_
      repeat' first
        | refine wk ?_
        | (refine goesL_b (by rfl) (by rfl) fun b hb => ?_; cases b <;> refine sm ?_)
      refine goesL_m (by rfl) (mop_storeS 1 (set_at (C := nodeC k n' a lv' kids) (i := 4) (ys := [.row 2 0 0 K.length]) (C' := nodeV k n' a lv' (.row 2 0 0 K.length)) hoff (by show 5 ≤ 5; omega) rfl) (by rfl) (by rfl) (by rfl) (by rfl) (by rfl) (by rfl) (by simp [nodeC]; omega) (Nat.zero_le _) (by rfl)) ?_
      refine sm ?_
      repeat' first
        | refine wk ?_
        | (refine goesL_b (by rfl) (by rfl) fun b hb => ?_; cases b <;> refine sm ?_)
      refine goesL_q (by rfl) (qop_loadP (b := .row 2 0 0 K.length) (by rfl) (by rfl) (by rfl) (by rfl) (by rfl) (get_at (C := nodeV k n' a lv' _) (i := 4) hoff rfl) rfl) ?_
      refine sm ?_
      repeat' first
        | refine wk ?_
        | (refine goesL_b (by rfl) (by rfl) fun b hb => ?_; cases b <;> refine sm ?_)
      refine goes_keep [1, 2, 31, 32] ?_
      have hrow : List.flatMap AV.cells K = tmsC ((Tm.walkL tr d k 0 kids).take 0) ++ tmsC (kids.drop 0) := by rw [← hK]; rfl
      refine goes_loop (fun m f h => ∃ j : Nat, j ≤ K.length ∧ m = K.length - j ∧ f = ⟨⟨54, [(1, .ptr 0 0 off), (2, .ptr 1 0 0), (31, eInt (K.length : Int)), (32, eInt (j : Int))]⟩, [], none⟩ ∧
        h = ⟨3, [], [(2, Blk.cells { ver := 0, elem := 26, sz := 5, imm := 0, cs := tmsC ((Tm.walkL tr d k 0 kids).take j) ++ tmsC (kids.drop j) }), (1, Blk.cells { ver := 0, elem := 137, sz := 1, imm := 0, cs := [eInt (d : Int), AV.clo (Fn.func F) [] cap] }), (0, Blk.cells (tmBlk sz (A ++ (nodeV k n' a lv' (.row 2 0 0 K.length) ++ B))))]⟩) ?_ K.length _ _ ⟨0, Nat.zero_le _, rfl, rfl, by rw [← hrow]; rfl⟩
      rintro m f h ⟨j, hj, rfl, rfl, rfl⟩
      rcases Nat.lt_or_eq_of_le hj with hj' | rfl
      · obtain ⟨u, hu⟩ : ∃ u, kids[j]? = some u := ⟨_, List.getElem?_eq_getElem (by omega)⟩
        have hmem := List.mem_of_getElem? hu
        have hk5 : kids.drop j = u :: kids.drop (j + 1) := by
          rw [List.drop_eq_getElem_cons (by omega)]
          congr 1
          have := List.getElem?_eq_getElem (l := kids) (i := j) (by omega)
          rw [hu] at this
          injection this with this
          exact this.symm
        have hwj : (Tm.walkL tr d k 0 kids)[j]? = some (u.walk tr (d + under k j)) := by rw [Tm.walkL_get, hu]; simp
        have htk : (Tm.walkL tr d k 0 kids).take (j + 1) = (Tm.walkL tr d k 0 kids).take j ++ [u.walk tr (d + under k j)] := by rw [List.take_add_one, hwj]; rfl
        have hoff2 : 0 + j * 5 = (tmsC ((Tm.walkL tr d k 0 kids).take j)).length := by
          rw [tmsC_length, List.length_take, Tm.walkL_length]; omega
        have hsz : d + under k j + u.size ≤ D := by
          have h1 := Tm.sizeL_take kids j u hu
          have h2 := Tm.sizeL_le kids (j + 1)
          rw [Tm.size_mk] at hd
          have : under k j ≤ 1 := by unfold under; split <;> omega
          omega
        have hcell := ih u hmem (d + under k j) 5 (0 + j * 5) _ (tmsC (kids.drop (j + 1))) hsz ((Tm.fitL_iff kids).1 hf5.2.2.2 u hmem) (pure_tmsC _) (pure_tmsC _) hoff2
        have hcs0 : tmsC ((Tm.walkL tr d k 0 kids).take j) ++ tmsC (kids.drop j) = tmsC ((Tm.walkL tr d k 0 kids).take j) ++ (tmC u ++ tmsC (kids.drop (j + 1))) := by rw [hk5, tmsC_cons]
        have hcs1 : tmsC ((Tm.walkL tr d k 0 kids).take j) ++ (tmC (u.walk tr (d + under k j)) ++ tmsC (kids.drop (j + 1))) = tmsC ((Tm.walkL tr d k 0 kids).take (j + 1)) ++ tmsC (kids.drop (j + 1)) := by rw [htk, tmsC_append, tmsC_cons, tmsC_nil, List.append_nil, List.append_assoc]
        have hT2 := below_tells d k j (by omega) (by have := hf5.2.2.1; omega)
        rw [hcs0]
        refine goes_scope [1, 2, 31, 32] ?_
        repeat' first
          | refine wk ?_
          | (refine goesL_b (by rfl) (by rfl) fun b hb => ?_; cases b <;> refine sm ?_)
        · exact absurd (of_decide_eq_false hb) (by omega)
        refine goes_draw 17 [] (by rfl) (by kernel_rfl) ?_
        refine sm ?_
        repeat' first
          | (refine goesD_q (y := .raw (.bool true)) (by first | decide | exact Nat.le_of_ble_eq_true rfl) (by rfl) (by rfl) ?_; refine sm ?_)
          | (refine goesD_q (y := .raw (.bool false)) (by first | decide | exact Nat.le_of_ble_eq_true rfl) (by rfl) (by rfl) ?_; refine sm ?_)
          | (refine goesD_b (by first | decide | exact Nat.le_of_ble_eq_true rfl) (by rfl) (by rfl) fun b hb => ?_; cases b <;> refine sm ?_)
          | (refine goesD_q (by first | decide | exact Nat.le_of_ble_eq_true rfl) (by rfl) (by rfl) ?_; refine sm ?_)
          | (refine goesD_s (by first | decide | exact Nat.le_of_ble_eq_true rfl) (by rfl) (qok_rop (by rfl)) ?_; refine sm ?_)
          | (refine goesD_off (by first | decide | exact Nat.le_of_ble_eq_true rfl) (by rfl) ?_; refine sm ?_)
          | (refine goesD_end (by rfl) ?_; refine sm ?_)
          | (refine goes_seq ?_)
        refine goesD_q (by decide) (by rfl) (qop_loadP (b := eInt k) (by rfl) (by rfl) (by rfl) (by rfl) (by rfl) (get_at (C := nodeV k n' a lv' _) (i := 0) hoff rfl) rfl) ?_
        refine sm ?_
        repeat' first
          | (refine goesD_q (y := .raw (.bool true)) (by first | decide | exact Nat.le_of_ble_eq_true rfl) (by rfl) (by rfl) ?_; refine sm ?_)
          | (refine goesD_q (y := .raw (.bool false)) (by first | decide | exact Nat.le_of_ble_eq_true rfl) (by rfl) (by rfl) ?_; refine sm ?_)
          | (refine goesD_b (by first | decide | exact Nat.le_of_ble_eq_true rfl) (by rfl) (by rfl) fun b hb => ?_; cases b <;> refine sm ?_)
          | (refine goesD_q (by first | decide | exact Nat.le_of_ble_eq_true rfl) (by rfl) (by rfl) ?_; refine sm ?_)
          | (refine goesD_s (by first | decide | exact Nat.le_of_ble_eq_true rfl) (by rfl) (qok_rop (by rfl)) ?_; refine sm ?_)
          | (refine goesD_off (by first | decide | exact Nat.le_of_ble_eq_true rfl) (by rfl) ?_; refine sm ?_)
          | (refine goesD_end (by rfl) ?_; refine sm ?_)
          | (refine goes_seq ?_)
        refine goesD_tells hT2 (by decide) (by rfl) (by rfl) (by rfl) (by rfl) (by rfl) (by rfl) (by rfl) ?_
        refine sm ?_
        repeat' first
          | (refine goesD_q (y := .raw (.bool true)) (by first | decide | exact Nat.le_of_ble_eq_true rfl) (by rfl) (by rfl) ?_; refine sm ?_)
          | (refine goesD_q (y := .raw (.bool false)) (by first | decide | exact Nat.le_of_ble_eq_true rfl) (by rfl) (by rfl) ?_; refine sm ?_)
          | (refine goesD_b (by first | decide | exact Nat.le_of_ble_eq_true rfl) (by rfl) (by rfl) fun b hb => ?_; cases b <;> refine sm ?_)
          | (refine goesD_q (by first | decide | exact Nat.le_of_ble_eq_true rfl) (by rfl) (by rfl) ?_; refine sm ?_)
          | (refine goesD_s (by first | decide | exact Nat.le_of_ble_eq_true rfl) (by rfl) (qok_rop (by rfl)) ?_; refine sm ?_)
          | (refine goesD_off (by first | decide | exact Nat.le_of_ble_eq_true rfl) (by rfl) ?_; refine sm ?_)
          | (refine goesD_end (by rfl) ?_; refine sm ?_)
          | (refine goes_seq ?_)
        refine goesD_q (by decide) (by rfl) (qop_loadP (b := .row 2 0 0 K.length) (by rfl) (by rfl) (by rfl) (by rfl) (by rfl) (get_at (C := nodeV k n' a lv' _) (i := 4) hoff rfl) rfl) ?_
        refine sm ?_
        repeat' first
          | (refine goesD_q (y := .raw (.bool true)) (by first | decide | exact Nat.le_of_ble_eq_true rfl) (by rfl) (by rfl) ?_; refine sm ?_)
          | (refine goesD_q (y := .raw (.bool false)) (by first | decide | exact Nat.le_of_ble_eq_true rfl) (by rfl) (by rfl) ?_; refine sm ?_)
          | (refine goesD_b (by first | decide | exact Nat.le_of_ble_eq_true rfl) (by rfl) (by rfl) fun b hb => ?_; cases b <;> refine sm ?_)
          | (refine goesD_q (by first | decide | exact Nat.le_of_ble_eq_true rfl) (by rfl) (by rfl) ?_; refine sm ?_)
          | (refine goesD_s (by first | decide | exact Nat.le_of_ble_eq_true rfl) (by rfl) (qok_rop (by rfl)) ?_; refine sm ?_)
          | (refine goesD_off (by first | decide | exact Nat.le_of_ble_eq_true rfl) (by rfl) ?_; refine sm ?_)
          | (refine goesD_end (by rfl) ?_; refine sm ?_)
          | (refine goes_seq ?_)
        refine goesD_q (by decide) (by rfl) (qop_indexR (n := j) (sz := 5) (by rfl) (by rfl) (by rfl) (by rfl) (by rfl) (by rfl) (by rfl) hj' (by rfl)) ?_
        refine sm ?_
        repeat' first
          | (refine goesD_q (y := .raw (.bool true)) (by first | decide | exact Nat.le_of_ble_eq_true rfl) (by rfl) (by rfl) ?_; refine sm ?_)
          | (refine goesD_q (y := .raw (.bool false)) (by first | decide | exact Nat.le_of_ble_eq_true rfl) (by rfl) (by rfl) ?_; refine sm ?_)
          | (refine goesD_b (by first | decide | exact Nat.le_of_ble_eq_true rfl) (by rfl) (by rfl) fun b hb => ?_; cases b <;> refine sm ?_)
          | (refine goesD_q (by first | decide | exact Nat.le_of_ble_eq_true rfl) (by rfl) (by rfl) ?_; refine sm ?_)
          | (refine goesD_s (by first | decide | exact Nat.le_of_ble_eq_true rfl) (by rfl) (qok_rop (by rfl)) ?_; refine sm ?_)
          | (refine goesD_off (by first | decide | exact Nat.le_of_ble_eq_true rfl) (by rfl) ?_; refine sm ?_)
          | (refine goesD_end (by rfl) ?_; refine sm ?_)
          | (refine goes_seq ?_)
        have hCp2 : Pure (AV.agg [eInt ((d + under k j : Nat) : Int), AV.clo (.func F) [] cap]) := .agg fun x hx => by
          simp at hx
          rcases hx with rfl | rfl
          · exact .raw _
          · exact hCp
        refine goesL_call (by rfl) (by rfl) (by rfl) (by rfl) (by rfl) (gives_lentC (r := 2) (by rfl) (pure_app (pure_tmsC _) (pure_tmC u) (pure_tmsC _)) (.cons (.pure hCp2) (.cons .ptr .nil)) pure_nil hcell (.tup pure_nil) (by simp [tmC_length]) (pure_app (pure_tmsC _) (pure_tmC _) (pure_tmsC _)) ?_)
        rw [hcs1]
        refine sm ?_
        repeat' first
          | refine wk ?_
          | (refine goesL_b (by rfl) (by rfl) fun b hb => ?_; cases b <;> refine sm ?_)
        have hP0 : ∀ x ∈ tmsC ((Tm.walkL tr d k 0 kids).take (j + 1)) ++ tmsC (kids.drop (j + 1)), Pure x := fun x hx => (List.mem_append.1 hx).elim (pure_tmsC _ x) (pure_tmsC _ x)
        have hP1 : ∀ x ∈ A ++ (nodeV k n' a lv' (.row 2 0 0 K.length) ++ B), Of (AH.has ⟨3, [], [(2, Blk.cells { ver := 0, elem := 26, sz := 5, imm := 0, cs := tmsC ((Tm.walkL tr d k 0 kids).take j) ++ (tmC u ++ tmsC (kids.drop (j + 1))) }), (1, Blk.cells { ver := 0, elem := 137, sz := 1, imm := 0, cs := [eInt (d : Int), AV.clo (Fn.func F) [] cap] }), (0, Blk.cells (tmBlk sz (A ++ (nodeV k n' a lv' (.row 2 0 0 K.length) ++ B))))]⟩) x := fun x hx => by
          rcases List.mem_append.1 hx with h1 | h1
          · exact (hA x h1).of
          · rcases List.mem_append.1 h1 with h2 | h2
            · simp [nodeV] at h2
              rcases h2 with rfl | rfl | rfl | rfl | rfl
              · exact .raw _
              · exact .raw _
              · exact .raw _
              · exact (pure_lvs 1 lv').of
              · exact .row (has_nil rfl)
            · exact (hB x h2).of
        have hP2 := OfC.of hP1
        refine within_of (by repeat' first | exact True.intro | exact Of.raw _ | exact Of.emp | exact Of.ptr (has_nil (by rfl)) | exact Of.row (has_nil (by rfl)) | exact Of.yld (has_nil (by rfl)) | exact has_nil (by rfl) | assumption | exact Pure.of (by assumption) | exact Pure.of (pure_lvs _ _) | exact Pure.of (pure_tms _ _) | refine And.intro ?_ ?_ | exact ofC_pure (by assumption) | (refine Of.clo (fun _ ha => nomatch ha) (ofC_pure (by assumption))) | (refine Of.agg (OfC.all ?_)) | (refine Of.clo (fun _ ha => nomatch ha) (OfC.all ?_))) (by repeat' first | exact True.intro | refine And.intro ?_ ?_ | exact has_nil (by rfl)) (by first | exact True.intro | exact Of.raw _ | exact Of.ifc (Of.raw _)) (by repeat' first | exact True.intro | exact Of.raw _ | exact Of.emp | exact Of.ptr (has_nil (by rfl)) | exact Of.row (has_nil (by rfl)) | exact Of.yld (has_nil (by rfl)) | exact has_nil (by rfl) | assumption | exact Pure.of (by assumption) | exact Pure.of (pure_lvs _ _) | exact Pure.of (pure_tms _ _) | refine And.intro ?_ ?_ | exact ofC_pure (by assumption) | (refine Of.agg (OfC.all ?_)) | (refine Of.clo (fun _ ha => nomatch ha) (OfC.all ?_))) ?_
        refine ⟨K.length - (j + 1), by omega, j + 1, by omega, rfl, ?_, rfl⟩
        have e2 : IntKind.i64.wrap ((j : Int) + 1) = ((j + 1 : Nat) : Int) := by
          have := hf5.2.2.1
          rw [show ((j : Int) + 1) = ((j + 1 : Nat) : Int) from rfl, wrap_nat (by omega)]
        rw [e2]
        rfl
      · have hWl : (Tm.walkL tr d k 0 kids).length = K.length := by rw [Tm.walkL_length, hlen]
        have hcsW : tmsC ((Tm.walkL tr d k 0 kids).take K.length) ++ tmsC (kids.drop K.length) = tmsC (Tm.walkL tr d k 0 kids) := by
          rw [hlen, List.drop_length, tmsC_nil, List.append_nil, List.take_of_length_le (by rw [Tm.walkL_length]; omega)]
        rw [hcsW]
        generalize hWe : Tm.walkL tr d k 0 kids = W at hWl
        refine goes_snap [(2, K.length * 5)] (sl := [(1, .ptr 0 0 off), (2, .ptr 1 0 0), (31, eInt (K.length : Int)), (32, eInt (K.length : Int))]) (bs := [(2, Blk.cells { ver := 0, elem := 26, sz := 5, imm := max 0 (K.length * 5), cs := tmsC W }), (1, Blk.cells { ver := 0, elem := 137, sz := 1, imm := 0, cs := [eInt (d : Int), AV.clo (Fn.func F) [] cap] }), (0, Blk.cells (tmBlk sz (A ++ (nodeC k n' a lv' W ++ B))))])
          ?_ (snapS_same _) ?_
        · rw [seals_one (c := { ver := 0, elem := 26, sz := 5, imm := 0, cs := tmsC W }) rfl (by show K.length * 5 ≤ (tmsC W).length; rw [tmsC_length, hWl]; omega)]
          refine .same (.same (.cells (l := [(2, 0 + K.length * 5)]) (snap_pre (.pure (.raw _) (.pure (.raw _) (.pure (.raw _) (.pure (pure_lvs 1 lv') (.row (c := { ver := 0, elem := 26, sz := 5, imm := max 0 (K.length * 5), cs := tmsC W }) (es := W.map eTm) (j := []) rfl (by simp [hWl]) (fun i e he => ?_) ?_ (fun e he => ?_) (snap_pure hB)))))) hA) (sealed_one rfl (by show 0 + K.length * 5 ≤ max 0 (K.length * 5); omega)) .nil))
          · obtain ⟨t, _, rfl⟩ := List.mem_map.1 (List.mem_of_getElem? he)
            rw [tmC_eq, tmC_length]
          · show SnapL _ ((tmsC W).drop 0 |>.take (K.length * 5)) _ _
            rw [List.drop_zero, List.take_of_length_le (by rw [tmsC_length, hWl]; omega)]
            exact snap_pure (pure_tmsC W)
          · obtain ⟨t, _, rfl⟩ := List.mem_map.1 he
            exact pure_tm t
        · repeat' first
            | refine wk ?_
            | (refine goesL_b (by rfl) (by rfl) fun b hb => ?_; cases b <;> refine sm ?_)
          · exact ⟨rfl, _, rfl, rfl, rfl⟩
          · exact absurd (of_decide_eq_true hb) (by omega)
end Go.Proofs.YtaoglkkdhdfioaaGreatDoor
