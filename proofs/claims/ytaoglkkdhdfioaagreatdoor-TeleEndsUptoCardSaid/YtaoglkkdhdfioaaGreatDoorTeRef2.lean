/- The document's lifting and putting: the same as the program's. -/
import Derived.Test.YtaoglkkdhdfioaaGreatDoorEvWk
import Derived.Test.YtaoglkkdhdfioaaGreatDoorTePut
import Derived.KernelRfl
import Derived.Test.YtaoglkkdhdfioaaGreatDoorProg
namespace Go.Proofs.YtaoglkkdhdfioaaGreatDoor
open Go Go.Proofs
set_option maxRecDepth 100000
set_option maxHeartbeats 2000000
attribute [local go_sem] AH.seals AH.adds news List.nil_append List.cons_append AF.put AF.start Slots.set Slots.ins zipA AH.zero AH.new AH.put AH.sub ofV AV.cells List.length AF.keep AH.cut List.filter_cons List.filter_nil List.contains_cons List.contains_nil Nat.reduceBEq Bool.or_false Bool.or_true Bool.true_or Bool.false_or decide_true decide_false Bool.not_false Bool.and_true Bool.true_and Bool.and_self List.append_nil List.getElem_toArray List.getElem_cons_zero List.getElem_cons_succ Nat.reduceLT Nat.reduceAdd Nat.reduceSub Nat.reduceEqDiff andThen atEnd rounds Tryz.ntmps151 Tryz.ntmps133 Tryz.ntmps152 Tryz.ntmps134 Tryz.ntmps112 AH.only List.length_append List.filter
def Tm.kind : Tm → Int
  | .mk k _ _ _ _ => k
theorem binds_ref (k : Int) (i : Nat) : binds k i = ((decide (k = 4) || decide (k = 5) || decide (k = 12) || decide (k = 16) || decide (k = 18)) && decide (i = 1) || decide (k = 7) && decide (i = 2)) := by
  unfold binds
  by_cases h : 1 ≤ k ∧ k ≤ 24
  · obtain ⟨n, rfl⟩ : ∃ n : Nat, k = n := ⟨k.toNat, by omega⟩
    have hn : 1 ≤ n ∧ n ≤ 24 := by omega
    have : n = 1 ∨ n = 2 ∨ n = 3 ∨ n = 4 ∨ n = 5 ∨ n = 6 ∨ n = 7 ∨ n = 8 ∨ n = 9 ∨ n = 10 ∨ n = 11 ∨ n = 12 ∨ n = 13 ∨ n = 14 ∨ n = 15 ∨ n = 16 ∨ n = 17 ∨ n = 18 ∨ n = 19 ∨ n = 20 ∨ n = 21 ∨ n = 22 ∨ n = 23 ∨ n = 24 := by omega
    rcases this with rfl | rfl | rfl | rfl | rfl | rfl | rfl | rfl | rfl | rfl | rfl | rfl | rfl | rfl | rfl | rfl | rfl | rfl | rfl | rfl | rfl | rfl | rfl | rfl <;> simp [kindRow, kindTab] <;> omega
  · have : ¬ k = 4 ∧ ¬ k = 5 ∧ ¬ k = 12 ∧ ¬ k = 16 ∧ ¬ k = 18 ∧ ¬ k = 7 := by omega
    obtain ⟨h1, h2, h3, h4, h5, h6⟩ := this
    simp [h1, h2, h3, h4, h5, h6]
    intro a b
    omega
theorem binds_ref2 (k : Int) (i : Nat) : binds k i = (((k == 4) || (k == 5) || (k == 12) || (k == 16) || (k == 18)) && ((i : Int) == 1) || (k == 7) && ((i : Int) == 2)) := by
  rw [binds_ref]
  have e1 : ((i : Int) == 1) = decide (i = 1) := by
    by_cases h : i = 1
    · subst h; rfl
    · have : ¬ (i : Int) = 1 := by omega
      simp [h, this]
  have e2 : ((i : Int) == 2) = decide (i = 2) := by
    by_cases h : i = 2
    · subst h; rfl
    · have : ¬ (i : Int) = 2 := by omega
      simp [h, this]
  rw [e1, e2]
  rfl
theorem rbinds_tells (k : Int) (i : Nat) : Tells Tryz.prog (.func 151) [eInt k, eInt (i : Int)] [] (eBool (binds k i)) := by
  refine tells_raw (fun b hb => ?_) (.raw _) ?_
  · simp at hb; rcases hb with rfl | rfl <;> exact .raw _
  rw [binds_ref2]
  refine gives_enter Tryz.func151 rfl rfl ?_
  repeat' first
    | refine wk ?_
    | refine wa ?_
    | (refine goesL_b (by rfl) (by rfl) fun b hb => ?_; cases b <;> refine sm ?_)
    | (refine goesA_b (by rfl) (by rfl) fun b hb => ?_; cases b <;> refine sm ?_)
  all_goals (refine ⟨rfl, _, rfl, ?_⟩; refine congrArg (fun b => Res.ret (eBool b)) ?_; simp_all)
theorem rbelow_tells (t : Tm) (i d : Nat) (hd : d ≤ 1073741824) : Tells Tryz.prog (.func 133) [eTm t, eInt (i : Int), eInt (d : Int)] [] (eInt ((d + under t.kind i : Nat) : Int)) := by
  have hpt := pure_tmC t
  have hB := rbinds_tells t.kind i
  refine tells_raw (fun b hb => ?_) (.raw _) ?_
  · simp at hb; rcases hb with rfl | rfl | rfl
    · exact pure_tm t
    · exact .raw _
    · exact .raw _
  rw [eTm_agg t]
  unfold under
  obtain ⟨k, n, a, lv, kids⟩ := t
  have hw : IntKind.i64.wrap ((d : Int) + 1) = ((d + 1 : Nat) : Int) := by
    rw [show ((d : Int) + 1) = ((d + 1 : Nat) : Int) from rfl, wrap_nat (by omega)]
  change Tells Tryz.prog (.func 151) [eInt k, eInt (i : Int)] [] (eBool (binds k i)) at hB
  show Gives _ _ _ _ _ fun r _ => r = .ret (eInt ((d + if binds k i then 1 else 0 : Nat) : Int))
  generalize binds k i = b at hB ⊢
  refine gives_enter Tryz.func133 rfl rfl ?_
  cases b with
  | true =>
    repeat' first
      | refine wk ?_
      | refine wa ?_
      | refine tl hB ?_
      | refine ta hB ?_
      | (refine goesL_b (by rfl) (by rfl) fun b hb => ?_; cases b <;> refine sm ?_)
      | (refine goesA_b (by rfl) (by rfl) fun b hb => ?_; cases b <;> refine sm ?_)
    refine ⟨rfl, _, rfl, ?_⟩
    rw [hw]
    try rfl
  | false =>
    repeat' first
      | refine wk ?_
      | refine wa ?_
      | refine tl hB ?_
      | refine ta hB ?_
      | (refine goesL_b (by rfl) (by rfl) fun b hb => ?_; cases b <;> refine sm ?_)
      | (refine goesA_b (by rfl) (by rfl) fun b hb => ?_; cases b <;> refine sm ?_)
    exact ⟨rfl, _, rfl, rfl⟩
/-- one continuation for several ways -/
theorem share {P : Program} {c : Code} {Q : Ex → AF → AH → Prop} {α : Type} {N : α} {T : Prop} (f : α → AF) (h : α → AH) (k : (∀ x, x = N → Goes P c (f x) (h x) Q) → T) (pf : ∀ x, x = N → Goes P c (f x) (h x) Q) : T := k pf
theorem push_cs {es : List AV} {e : AV} {sz m : Nat} {bs : List AV} (hz : ∀ x ∈ es, x.cells.length = sz) (hm : es.length = m) (hb : bs = e.cells) : (es.flatMap AV.cells).take (m * sz) ++ bs = (es ++ [e]).flatMap AV.cells := by
  have hl : (es.flatMap AV.cells).length = m * sz := by
    subst hm
    clear hb
    induction es with
    | nil => simp
    | cons x es ih =>
      rw [List.flatMap_cons, List.length_append, hz x (List.mem_cons_self ..), ih fun y hy => hz y (List.mem_cons_of_mem _ hy), List.length_cons, Nat.succ_mul]
      omega
  rw [List.take_of_length_le (by omega), List.flatMap_append, hb]
  simp
theorem tms_push {c : List Tm} {t : Tm} {m : Nat} (hm : c.length = m) : (tmsC c).take (m * 5) ++ tmC t = tmsC (c ++ [t]) := by
  rw [List.take_of_length_le (by rw [tmsC_length]; omega), tmsC_append, tmsC_cons, tmsC_nil, List.append_nil]
mutual
/-- without levels -/
def Tm.bare : Tm → Prop
  | .mk _ _ _ lv kids => lv = [] ∧ Tm.bareL kids
def Tm.bareL : List Tm → Prop
  | [] => True
  | t :: ts => t.bare ∧ Tm.bareL ts
end
theorem Tm.bare_mk (k n a : Int) (lv : List (List (Int × Int))) (kids : List Tm) : (Tm.mk k n a lv kids).bare ↔ lv = [] ∧ Tm.bareL kids := by rw [Tm.bare]
theorem Tm.bareL_iff : ∀ ts : List Tm, Tm.bareL ts ↔ ∀ t ∈ ts, t.bare
  | [] => by simp [Tm.bareL]
  | t :: ts => by
    have := Tm.bareL_iff ts
    simp [Tm.bareL, this]
theorem rlevels_nil : Tells Tryz.prog (.func 152) [.vals 1 []] [] (.vals 1 []) := by
  refine tells_of (fun b hb => ?_) (pure_lvs 1 []) ?_
  · simp at hb; subst hb; exact pure_lvs 1 []
  refine gives_enter Tryz.func152 rfl rfl ?_
  repeat' first
    | refine wk ?_
    | refine wa ?_
    | (refine goesL_b (by rfl) (by rfl) fun b hb => ?_; cases b <;> refine sm ?_)
    | (refine goesA_b (by rfl) (by rfl) fun b hb => ?_; cases b <;> refine sm ?_)
  refine goes_loop (fun m f h => f = ⟨⟨23, [(0, .vals 1 []), (2, .raw (.slice none 0 0)), (3, .raw (.slice none 0 0)), (4, eInt 0)]⟩, [], none⟩ ∧ h = ⟨0, [], []⟩) ?_ 0 _ _ ⟨rfl, rfl⟩
  rintro m f h ⟨rfl, rfl⟩
  repeat' first
    | refine wk ?_
    | refine wa ?_
    | (refine goesL_b (by rfl) (by rfl) fun b hb => ?_; cases b <;> refine sm ?_)
    | (refine goesA_b (by rfl) (by rfl) fun b hb => ?_; cases b <;> refine sm ?_)
  exact ⟨rfl, _, rfl, _, [], [], rfl, .none .nil, fun p hp => nomatch hp⟩
theorem rwith_tells (k n a : Int) (kids : List Tm) (K : List AV) (hK : Pure (.vals 5 K)) : Tells Tryz.prog (.func 134) [eTm (.mk k n a [] kids), .vals 5 K] [] (.agg [eInt k, eInt n, eInt a, .vals 1 [], .vals 5 K]) := by
  have hk0 := pure_tms 5 kids
  refine tells_raw (fun b hb => ?_) (.agg fun b hb => ?_) ?_
  · simp at hb; rcases hb with rfl | rfl
    · exact pure_tm _
    · exact hK
  · simp at hb
    rcases hb with rfl | rfl | rfl | rfl | rfl
    · exact .raw _
    · exact .raw _
    · exact .raw _
    · exact pure_lvs 1 []
    · exact hK
  rw [eTm_mk]
  generalize kids.map eTm = K0 at hk0 ⊢
  refine gives_enter Tryz.func134 rfl rfl ?_
  repeat' first
    | refine wk ?_
    | refine wa ?_
    | refine tl rlevels_nil ?_
    | refine ta rlevels_nil ?_
    | (refine goesL_b (by rfl) (by rfl) fun b hb => ?_; cases b <;> refine sm ?_)
    | (refine goesA_b (by rfl) (by rfl) fun b hb => ?_; cases b <;> refine sm ?_)
  exact ⟨rfl, _, rfl, rfl⟩
theorem walkL_get0 {tr : Turn} {d : Nat} {k : Int} {kids : List Tm} {j : Nat} {u : Tm} (h : kids[j]? = some u) : (Tm.walkL tr d k 0 kids)[j]? = some (u.walk tr (d + under k j)) := by
  rw [Tm.walkL_get, h, Nat.zero_add]; rfl
theorem sizeL_in : ∀ (ts : List Tm) (t : Tm), t ∈ ts → t.size ≤ Tm.sizeL ts
  | [], t, h => by cases h
  | s :: ts, t, h => by
    simp only [Tm.sizeL]
    rcases List.mem_cons.1 h with rfl | h
    · omega
    · have := sizeL_in ts t h; omega
theorem gives_nil {P : Program} {fn : Fn} {b z : AV} {sz : Nat} {h : AH} {R : Res → AH → Prop} (hT : Tells P fn [b, .vals sz []] [] z) (hR : R (.ret z) h) : Gives P fn [b, .raw (.slice none 0 0)] [] h R :=
  gives_seal (l := []) [] hT (.pure (hT.pure b (by simp)) (.none .nil)) rfl (fun p hp => nomatch hp) hR
theorem rlift_tells (m from' : Int) (t : Tm) : ∀ (d : Nat), d + t.size ≤ 1048576 → t.bare → t.fit → Tells Tryz.prog (.func 112) [eTm t, eInt m, eInt from', eInt (d : Int)] [] (eTm (t.walk (liftT m from') d)) := by
  refine Tm.ind (P := fun t => ∀ (d : Nat), d + t.size ≤ 1048576 → t.bare → t.fit → Tells Tryz.prog (.func 112) [eTm t, eInt m, eInt from', eInt (d : Int)] [] (eTm (t.walk (liftT m from') d))) (fun k n a lv kids ih d hs hbr hf => ?_) t
  obtain ⟨rfl, hbk⟩ := (Tm.bare_mk ..).1 hbr
  have hf5 := (Tm.fit_mk ..).1 hf
  rw [Tm.size_mk] at hs
  have hkl := Tm.sizeL_len kids
  have hpt := pure_tmC (.mk k n a [] kids)
  rw [Tm.walk_go (n' := liftN d k n from' m) (lv' := []) (by unfold liftT; rfl)]
  obtain ⟨W, hW⟩ : ∃ W, Tm.walkL (liftT m from') d k 0 kids = W := ⟨_, rfl⟩
  have hWl : W.length = kids.length := by rw [← hW, Tm.walkL_length]
  rw [hW]
  refine tells_raw (fun b hb => ?_) (pure_tm _) ?_
  · simp at hb; rcases hb with rfl | rfl | rfl | rfl
    · exact pure_tm _
    · exact .raw _
    · exact .raw _
    · exact .raw _
  rw [eTm_mk, eTm_mk]
  have hWp := pure_tms 5 W
  obtain ⟨K, hK⟩ : ∃ K, kids.map eTm = K := ⟨_, rfl⟩
  have hKl : K.length = kids.length := by rw [← hK]; simp
  have hKp : Pure (.vals 5 K) := hK ▸ pure_tms 5 kids
  rw [hK]
  refine gives_enter Tryz.func112 rfl rfl ?_
  have hno : ¬ (k = 1 ∧ (d : Int) ≤ n ∧ from' ≤ n - d) → n = liftN d k n from' m := fun h => by
    rw [liftN, outer, decide_eq_false h]; rfl
  have hyes : (k = 1 ∧ (d : Int) ≤ n ∧ from' ≤ n - d) → IntKind.i64.wrap (n + m) = liftN d k n from' m := fun h => by
    rw [liftN, outer, decide_eq_true h]; rfl
  have hr := hf5.1
  unfold Rng at hr
  have hw : (d : Int) ≤ n → IntKind.i64.wrap (n - d) = n - d := fun h => wrap_rng ⟨by omega, by omega⟩
  apply share (N := liftN d k n from' m) (fun _ => ⟨⟨58, [(1, eInt m), (2, eInt from'), (3, eInt (d : Int)), (4, .ptr 0 0 0), (8, .ptr 1 0 0), (9, .raw (.slice none 0 0)), (10, eInt 0)]⟩, [], none⟩) (fun n' => ⟨2, [], [(1, .cells (tmBlk 1 [eInt 0, eInt 0, eInt 0, .raw (.slice none 0 0), .raw (.slice none 0 0)])), (0, .cells (tmBlk 1 [eInt k, eInt n', eInt a, .vals 1 [], .vals 5 K]))]⟩)
  · intro rest
    repeat' first
      | refine wk ?_
      | refine wa ?_
      | (refine goesL_b (by rfl) (by rfl) fun b hb => ?_; cases b <;> refine sm ?_)
      | (refine goesA_b (by rfl) (by rfl) fun b hb => ?_; cases b <;> refine sm ?_)
    · refine goes_keep [1, 2, 3, 4, 8, 9, 10] ?_
      exact rest n (hno fun h => by rw [h.1] at hb; cases hb)
    · refine goes_keep [1, 2, 3, 4, 8, 9, 10] ?_
      exact rest n (hno fun h => by have := of_decide_eq_false hb; omega)
    · rename_i h1 h2
      refine goes_keep [1, 2, 3, 4, 8, 9, 10] ?_
      exact rest n (hno fun h => by have := of_decide_eq_false hb; rw [hw h.2.1] at this; omega)
    · rename_i h1 h2
      refine goes_keep [1, 2, 3, 4, 8, 9, 10] ?_
      have h2 := of_decide_eq_true h2
      have hb := of_decide_eq_true hb
      rw [hw h2] at hb
      exact rest _ (hyes ⟨by simpa using h1, h2, hb⟩)
  · intro n' hn'
    refine goes_loop (fun M f h => ∃ j : Nat, j ≤ K.length ∧ M = K.length - j ∧ ((j = 0 ∧ f.keep [1, 2, 3, 4, 8, 9, 10] = ⟨⟨58, [(1, eInt m), (2, eInt from'), (3, eInt (d : Int)), (4, .ptr 0 0 0), (8, .ptr 1 0 0), (9, .raw (.slice none 0 0)), (10, eInt 0)]⟩, [], none⟩ ∧
        h = ⟨2, [], [(1, .cells (tmBlk 1 [eInt 0, eInt 0, eInt 0, .raw (.slice none 0 0), .raw (.slice none 0 0)])), (0, .cells (tmBlk 1 [eInt k, eInt n', eInt a, .vals 1 [], .vals 5 K]))]⟩) ∨
      ∃ (i : Nat) (g : Tm), j = i + 1 ∧ f.keep [1, 2, 3, 4, 8, 9, 10] = ⟨⟨58, [(1, eInt m), (2, eInt from'), (3, eInt (d : Int)), (4, .ptr 0 0 0), (8, .ptr 1 0 0), (9, .row 16 i 0 (i + 1)), (10, eInt ((i + 1 : Nat) : Int))]⟩, [], none⟩ ∧
        h = ⟨18, [], [(1, .cells (tmBlk 1 [eInt 0, eInt 0, eInt 0, .raw (.slice none 0 0), .raw (.slice none 0 0)])), (0, .cells (tmBlk 1 [eInt k, eInt n', eInt a, .vals 1 [], .vals 5 K])), (15, .cells (tmBlk 5 (tmC g))), (16, .cells ⟨i, 26, 5, 0, tmsC (W.take (i + 1))⟩)]⟩)) ?_ K.length _ _ ⟨0, Nat.zero_le _, by omega, .inl ⟨rfl, rfl, rfl⟩⟩
    rintro M f h ⟨j, hj, rfl, ⟨rfl, hkf, rfl⟩ | ⟨i, g, rfl, hkf, rfl⟩⟩
    · refine goes_keep [1, 2, 3, 4, 8, 9, 10] ?_
      rw [hkf]
      repeat' first
        | refine wk ?_
        | refine wa ?_
        | (refine goesL_b (by rfl) (by rfl) fun b hb => ?_; cases b <;> refine sm ?_)
        | (refine goesA_b (by rfl) (by rfl) fun b hb => ?_; cases b <;> refine sm ?_)
      · have hK0 : K = [] := List.eq_nil_of_length_eq_zero (by have := of_decide_eq_false hb; omega)
        have hW0 : W = [] := List.eq_nil_of_length_eq_zero (by rw [hK0] at hKl; simp at hKl; omega)
        have hT := rwith_tells k n' a kids [] (pure_tms 5 [])
        rw [eTm_mk, hK] at hT
        refine goesL_call (by rfl) (by rfl) (by rfl) (by rfl) (by rfl) (gives_nil hT ?_)
        refine sm ?_
        repeat' first
          | refine wk ?_
          | refine wa ?_
          | (refine goesL_b (by rfl) (by rfl) fun b hb => ?_; cases b <;> refine sm ?_)
          | (refine goesA_b (by rfl) (by rfl) fun b hb => ?_; cases b <;> refine sm ?_)
        rw [hW0, ← hn']
        exact ⟨rfl, _, rfl, rfl⟩
      · have hpos : 0 < K.length := by have := of_decide_eq_true hb; omega
        obtain ⟨u, hu⟩ : ∃ u, kids[0]? = some u := ⟨_, List.getElem?_eq_getElem (by omega)⟩
        have hmem := List.mem_of_getElem? hu
        have hKu : K[0]? = some (.agg (tmC u)) := by rw [← hK, List.getElem?_map, hu, ← eTm_agg]; rfl
        have hus := sizeL_in kids u hmem
        have hun : under k 0 ≤ 1 := by unfold under; split <;> omega
        have hTu := ih u hmem (d + under k 0) (by omega) ((Tm.bareL_iff _).1 hbk u hmem) ((Tm.fitL_iff _).1 hf5.2.2.2 u hmem)
        have hTb := rbelow_tells (.mk k n' a [] kids) 0 d (by omega)
        rw [eTm_mk, hK] at hTb
        have hWu := walkL_get0 (tr := liftT m from') (d := d) (k := k) hu
        rw [hW] at hWu
        change Tells _ _ _ _ (eInt ((d + under k 0 : Nat) : Int)) at hTb
        generalize u.walk (liftT m from') (d + under k 0) = w at hTu hWu
        generalize ((d + under k 0 : Nat) : Int) = dd at hTu hTb
        rw [eTm_agg u, eTm_agg w] at hTu
        have hpw := pure_tmC w
        obtain ⟨k1, n1, a1, lv1, kids1⟩ := u
        obtain ⟨k2, n2, a2, lv2, kids2⟩ := w
        refine goesA_q [] (by rfl) (qop_index (n := 0) (sz := 5) (by rfl) (by rfl) (by rfl) (by rfl) (by rfl) (by rfl) hKu) ?_
        refine sm ?_
        repeat' first
          | refine wk ?_
          | refine wa ?_
          | refine tl hTb ?_
          | refine ta hTb ?_
          | refine tl hTu ?_
          | refine ta hTu ?_
          | (refine goesL_b (by rfl) (by rfl) fun b hb => ?_; cases b <;> refine sm ?_)
          | (refine goesA_b (by rfl) (by rfl) fun b hb => ?_; cases b <;> refine sm ?_)
        have hW1 : W.take 1 = [.mk k2 n2 a2 lv2 kids2] := by
          cases W with
          | nil => simp at hWu
          | cons x W => simp at hWu; rw [hWu]; rfl
        refine ⟨K.length - 1, by omega, 1, by omega, rfl, .inr ⟨0, .mk k2 n2 a2 lv2 kids2, rfl, rfl, ?_⟩⟩
        rw [show W.take (0 + 1) = [.mk k2 n2 a2 lv2 kids2] from hW1, tmsC_cons, tmsC_nil, List.append_nil]
        rfl
    · refine goes_keep [1, 2, 3, 4, 8, 9, 10] ?_
      rw [hkf]
      have hp10 : Pure (.vals 1 []) := pure_lvs 1 []
      have hpg := pure_tmC g
      have hpW := pure_tmsC (W.take (i + 1))
      have hi1 : (W.take (i + 1)).length = i + 1 := by rw [List.length_take]; omega
      refine goes_scope [1, 2, 3, 4, 8, 9, 10] ?_
      repeat' first
        | refine wk ?_
        | refine wa ?_
        | (refine goesL_b (by rfl) (by rfl) fun b hb => ?_; cases b <;> refine sm ?_)
        | (refine goesA_b (by rfl) (by rfl) fun b hb => ?_; cases b <;> refine sm ?_)
      · have hiK : i + 1 = K.length := by have := of_decide_eq_false hb; omega
        have hWt : W.take (i + 1) = W := List.take_of_length_le (by omega)
        rw [hWt] at hpW hi1 ⊢
        have hT := rwith_tells k n' a kids (W.map eTm) hWp
        rw [eTm_mk, hK] at hT
        refine within_of (by repeat' first | exact True.intro | exact Of.raw _ | exact Of.emp | exact Of.ptr (has_nil (by rfl)) | exact Of.row (has_nil (by rfl)) | exact Of.yld (has_nil (by rfl)) | exact has_nil (by rfl) | assumption | exact Pure.of (by assumption) | exact Pure.of (pure_lvs _ _) | exact Pure.of (pure_tms _ _) | refine And.intro ?_ ?_ | exact ofC_pure (by assumption) | (refine Of.clo (fun _ ha => nomatch ha) (ofC_pure (by assumption))) | (refine Of.agg (OfC.all ?_)) | (refine Of.clo (fun _ ha => nomatch ha) (OfC.all ?_))) (by repeat' first | exact True.intro | refine And.intro ?_ ?_ | exact has_nil (by rfl)) (by first | exact True.intro | exact Of.raw _ | exact Of.ifc (Of.raw _)) (by repeat' first | exact True.intro | exact Of.raw _ | exact Of.emp | exact Of.ptr (has_nil (by rfl)) | exact Of.row (has_nil (by rfl)) | exact Of.yld (has_nil (by rfl)) | exact has_nil (by rfl) | assumption | exact Pure.of (by assumption) | exact Pure.of (pure_lvs _ _) | exact Pure.of (pure_tms _ _) | refine And.intro ?_ ?_ | exact ofC_pure (by assumption) | (refine Of.agg (OfC.all ?_)) | (refine Of.clo (fun _ ha => nomatch ha) (OfC.all ?_))) ?_
        refine sm ?_
        repeat' first
          | refine wk ?_
          | refine wa ?_
          | (refine goesL_b (by rfl) (by rfl) fun b hb => ?_; cases b <;> refine sm ?_)
          | (refine goesA_b (by rfl) (by rfl) fun b hb => ?_; cases b <;> refine sm ?_)
        have hz2 : ∀ e ∈ W.map eTm, e.cells.length = 5 := fun e he => by
          obtain ⟨t, _, rfl⟩ := List.mem_map.1 he
          rw [tmC_eq, tmC_length]
        have hp2 : ∀ e ∈ W.map eTm, Pure e := fun e he => by
          obtain ⟨t, _, rfl⟩ := List.mem_map.1 he
          exact pure_tm t
        refine goesL_call (by rfl) (by rfl) (by rfl) (by rfl) (by rfl) (gives_row (r := 16) (n := i + 1) (pre := [.agg [eInt k, eInt n', eInt a, .vals 1 [], .vals 5 K]]) (c := ⟨i, 26, 5, 0, tmsC W⟩) (es := W.map eTm) rfl rfl hz2 hp2 (by simp [hi1]) (fun b hb => by simp at hb; subst hb; exact hT.pure _ (by simp)) (by rfl) (by rfl) hT ?_)
        refine sm ?_
        repeat' first
          | refine wk ?_
          | refine wa ?_
          | (refine goesL_b (by rfl) (by rfl) fun b hb => ?_; cases b <;> refine sm ?_)
          | (refine goesA_b (by rfl) (by rfl) fun b hb => ?_; cases b <;> refine sm ?_)
        rw [← hn']
        exact ⟨rfl, _, rfl, rfl⟩
      · have hiK : i + 1 < K.length := by have := of_decide_eq_true hb; omega
        obtain ⟨u, hu⟩ : ∃ u, kids[i + 1]? = some u := ⟨_, List.getElem?_eq_getElem (by omega)⟩
        have hmem := List.mem_of_getElem? hu
        have hKu : K[i + 1]? = some (.agg (tmC u)) := by rw [← hK, List.getElem?_map, hu, ← eTm_agg]; rfl
        have hus := sizeL_in kids u hmem
        have hun : under k (i + 1) ≤ 1 := by unfold under; split <;> omega
        have hTu := ih u hmem (d + under k (i + 1)) (by omega) ((Tm.bareL_iff _).1 hbk u hmem) ((Tm.fitL_iff _).1 hf5.2.2.2 u hmem)
        have hTb := rbelow_tells (.mk k n' a [] kids) (i + 1) d (by omega)
        rw [eTm_mk, hK] at hTb
        have hWu := walkL_get0 (tr := liftT m from') (d := d) (k := k) hu
        rw [hW] at hWu
        change Tells _ _ _ _ (eInt ((d + under k (i + 1) : Nat) : Int)) at hTb
        generalize u.walk (liftT m from') (d + under k (i + 1)) = w at hTu hWu
        generalize ((d + under k (i + 1) : Nat) : Int) = dd at hTu hTb
        rw [eTm_agg u, eTm_agg w] at hTu
        have hpw := pure_tmC w
        have hWi : W.take (i + 1 + 1) = W.take (i + 1) ++ [w] := by rw [List.take_add_one, hWu]; rfl
        have hpW2 := pure_tmsC (W.take (i + 1) ++ [w])
        have hcs := tms_push (t := w) hi1
        obtain ⟨k1, n1, a1, lv1, kids1⟩ := u
        obtain ⟨k2, n2, a2, lv2, kids2⟩ := w
        refine goesA_q [] (by rfl) (qop_index (n := i + 1) (sz := 5) (by rfl) (by rfl) (by rfl) (by rfl) (by rfl) (by rfl) hKu) ?_
        refine sm ?_
        repeat' first
          | refine wk ?_
          | refine wa ?_
          | refine tl hTb ?_
          | refine ta hTb ?_
          | refine tl hTu ?_
          | refine ta hTu ?_
          | (refine goesL_b (by rfl) (by rfl) fun b hb => ?_; cases b <;> refine sm ?_)
          | (refine goesA_b (by rfl) (by rfl) fun b hb => ?_; cases b <;> refine sm ?_)
        refine goesA_app (n := 0) [16, 31] (now_of (c := ⟨i, 26, 5, 0, tmsC (W.take (i + 1))⟩) rfl) (Nat.zero_le _) (by unfold tops; omega) (by decide) hcs (by rfl) (by rfl) (by rfl) (by rfl) (by rfl) (by rfl) (by rfl) (by rfl) (by rfl) (by rfl) (by rfl) (by decide) (by rfl) (by rfl) (by decide) (by rfl) (by rfl) ?_
        refine sm ?_
        repeat' first
          | refine wk ?_
          | refine wa ?_
          | (refine goesL_b (by rfl) (by rfl) fun b hb => ?_; cases b <;> refine sm ?_)
          | (refine goesA_b (by rfl) (by rfl) fun b hb => ?_; cases b <;> refine sm ?_)
        refine within_of (by repeat' first | exact True.intro | exact Of.raw _ | exact Of.emp | exact Of.ptr (has_nil (by rfl)) | exact Of.row (has_nil (by rfl)) | exact Of.yld (has_nil (by rfl)) | exact has_nil (by rfl) | assumption | exact Pure.of (by assumption) | exact Pure.of (pure_lvs _ _) | exact Pure.of (pure_tms _ _) | refine And.intro ?_ ?_ | exact ofC_pure (by assumption) | (refine Of.clo (fun _ ha => nomatch ha) (ofC_pure (by assumption))) | (refine Of.agg (OfC.all ?_)) | (refine Of.clo (fun _ ha => nomatch ha) (OfC.all ?_))) (by repeat' first | exact True.intro | refine And.intro ?_ ?_ | exact has_nil (by rfl)) (by first | exact True.intro | exact Of.raw _ | exact Of.ifc (Of.raw _)) (by repeat' first | exact True.intro | exact Of.raw _ | exact Of.emp | exact Of.ptr (has_nil (by rfl)) | exact Of.row (has_nil (by rfl)) | exact Of.yld (has_nil (by rfl)) | exact has_nil (by rfl) | assumption | exact Pure.of (by assumption) | exact Pure.of (pure_lvs _ _) | exact Pure.of (pure_tms _ _) | refine And.intro ?_ ?_ | exact ofC_pure (by assumption) | (refine Of.agg (OfC.all ?_)) | (refine Of.clo (fun _ ha => nomatch ha) (OfC.all ?_))) ?_
        refine ⟨K.length - (i + 2), by omega, i + 2, by omega, rfl, .inr ⟨i + 1, g, rfl, ?_, ?_⟩⟩
        · have e2 : IntKind.i64.wrap (((i + 1 : Nat) : Int) + 1) = ((i + 1 + 1 : Nat) : Int) := by
            rw [show (((i + 1 : Nat) : Int) + 1) = ((i + 1 + 1 : Nat) : Int) from rfl, wrap_nat (by omega)]
          rw [← e2]
          rfl
        · rw [hWi]
          rfl
end Go.Proofs.YtaoglkkdhdfioaaGreatDoor
