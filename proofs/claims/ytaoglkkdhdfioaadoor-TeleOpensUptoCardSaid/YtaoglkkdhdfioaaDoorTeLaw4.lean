/- The law's own words: same, rows, great, clean. -/
import Derived.Test.YtaoglkkdhdfioaaDoorEvWk
import Derived.Test.YtaoglkkdhdfioaaDoorTeLifts
import Derived.Test.YtaoglkkdhdfioaaDoorTeOf
import Derived.Test.YtaoglkkdhdfioaaDoorTeSame
import Derived.KernelRfl
import Derived.Test.YtaoglkkdhdfioaaDoorProg
namespace Go.Proofs.YtaoglkkdhdfioaaDoor
open Go Go.Proofs
set_option maxRecDepth 100000
set_option maxHeartbeats 2000000
attribute [local go_sem] AH.seals AH.adds news List.nil_append List.cons_append AF.put AF.start Slots.set Slots.ins zipA AH.zero AH.new AH.put AH.sub ofV AV.cells List.length AF.keep AH.cut List.filter_cons List.filter_nil List.contains_cons List.contains_nil Nat.reduceBEq Bool.or_false Bool.or_true Bool.true_or Bool.false_or decide_true decide_false Bool.not_false Bool.and_true Bool.true_and Bool.and_self List.append_nil List.getElem_toArray List.getElem_cons_zero List.getElem_cons_succ Nat.reduceLT Nat.reduceAdd Nat.reduceSub Nat.reduceEqDiff andThen atEnd rounds Tryd.ntmps5 Tryd.ntmps10 Tryd.ntmps9 Tryd.ntmps14
theorem same_tells (t u : Tm) (h : t.count ≤ 1048576) : Tells Tryd.prog (.func 10) [eTm t, eTm u] [] (eBool (t.same u)) := by
  have hT := sameterm t h u
  generalize t.same u = b at hT ⊢
  refine tells_raw (fun b hb => ?_) (.raw _) ?_
  · simp at hb; rcases hb with rfl | rfl <;> exact pure_tm _
  rw [eTm_agg t, eTm_agg u] at hT ⊢
  obtain ⟨k, n, a, lv, kids⟩ := t
  obtain ⟨k1, n1, a1, lv1, kids1⟩ := u
  refine gives_enter Tryd.func10 rfl rfl ?_
  repeat' first
    | refine wk ?_
    | (refine goesL_b (by rfl) (by rfl) fun b hb => ?_; cases b <;> refine sm ?_)
  refine goesL_tells hT (by rfl) (by rfl) (by rfl) (by rfl) (by rfl) (by rfl) ?_
  refine sm ?_
  repeat' first
    | refine wk ?_
    | (refine goesL_b (by rfl) (by rfl) fun b hb => ?_; cases b <;> refine sm ?_)
  all_goals (refine ⟨rfl, _, rfl, ?_⟩; rw [hb])
theorem rows_tells (xs ys : List Tm) (h : ∀ x ∈ xs, x.count ≤ 1048576) (hn : small xs.length) : Tells Tryd.prog (.func 9) [.vals 5 (xs.map eTm), .vals 5 (ys.map eTm)] [] (eBool (sameL Tm.same xs ys)) := by
  have hT := sameterms_row Tm.same xs ys hn fun x hx y _ => sameterm x (h x hx) y
  generalize sameL Tm.same xs ys = b at hT ⊢
  refine tells_raw (fun b hb => ?_) (.raw _) ?_
  · simp at hb; rcases hb with rfl | rfl <;> exact pure_tms 5 _
  generalize xs.map eTm = X at hT ⊢
  generalize ys.map eTm = Y at hT ⊢
  refine gives_enter Tryd.func9 rfl rfl ?_
  repeat' first
    | refine wk ?_
    | (refine goesL_b (by rfl) (by rfl) fun b hb => ?_; cases b <;> refine sm ?_)
  refine goesL_tells hT (by rfl) (by rfl) (by rfl) (by rfl) (by rfl) (by rfl) ?_
  refine sm ?_
  repeat' first
    | refine wk ?_
    | (refine goesL_b (by rfl) (by rfl) fun b hb => ?_; cases b <;> refine sm ?_)
  all_goals (refine ⟨rfl, _, rfl, ?_⟩; rw [hb])
/-- a call whose first argument is a row of ours -/
theorem gives_first {P : Program} {fn : Fn} {post : List AV} {z : AV} {h : AH} {r n : Nat} {c : Cells} {es : List AV} {R : Res → AH → Prop} (hg : h.get r = some (.cells c)) (hcs : c.cs = es.flatMap AV.cells) (hz : ∀ e ∈ es, e.cells.length = c.sz) (hp : ∀ e ∈ es, Pure e) (hn : es.length = n) (hpost : ∀ a ∈ post, Pure a)
    (hT : Tells P fn (.vals c.sz es :: post) [] z) (hR : R (.ret z) (h.seals [(r, n * c.sz)])) : Gives P fn (.row r c.ver 0 n :: post) [] h R := by
  have hs := snap_own hg hcs hz hp hn
  refine gives_seal (l := [(r, 0 + n * c.sz)]) [(r, n * c.sz)] hT ?_ rfl hs.2 hR
  rw [List.append_nil, List.append_nil]
  exact snap_then (A := post) (C := post) hs.1 (snap_pure hpost)
theorem great_tells (t : Tm) (l : List Tm) (hs : t.size + Tm.sizeL l ≤ 1048576) (hf : t.fit) (hl : Tm.fitL l) : Tells Tryd.prog (.func 5) [eTm t, .vals 5 (l.map eTm)] [] (eBool (decide ((600 : Int) < (tsofN 600 0 (t :: l) : Int)))) := by
  have hT := termsOf_tells (t :: l) 600 (by rw [Tm.sizeL]; exact hs) (by rw [Tm.fitL]; exact ⟨hf, hl⟩) (by omega)
  have hll := Tm.sizeL_len l
  generalize tsofN 600 0 (t :: l) = x at hT ⊢
  refine tells_raw (fun b hb => ?_) (.raw _) ?_
  · simp at hb; rcases hb with rfl | rfl
    · exact pure_tm t
    · exact pure_tms 5 l
  have hz2 : ∀ e ∈ (t :: l).map eTm, e.cells.length = 5 := fun e he => by
    obtain ⟨t, _, rfl⟩ := List.mem_map.1 he
    rw [tmC_eq, tmC_length]
  have hp2 : ∀ e ∈ (t :: l).map eTm, Pure e := fun e he => by
    obtain ⟨t, _, rfl⟩ := List.mem_map.1 he
    exact pure_tm t
  have hpt := pure_tmC t
  cases l with
  | nil =>
    have hr0 : [t].map eTm = [.agg (tmC t)] := by rw [List.map_cons, eTm_agg]; rfl
    rw [hr0] at hT
    rw [eTm_agg t]
    obtain ⟨k, n, a, lv, kids⟩ := t
    refine gives_enter Tryd.func5 rfl rfl ?_
    repeat' first
      | refine wk ?_
      | (refine goesL_b (by rfl) (by rfl) fun b hb => ?_; cases b <;> refine sm ?_)
    refine goesL_call (by rfl) (by rfl) (by rfl) (by rfl) (by rfl) (gives_first (r := 1) (n := 1) (c := tmBlk 5 (tmC (.mk k n a lv kids))) (es := [.agg (tmC (.mk k n a lv kids))]) (post := [eInt 600]) rfl (by simp [AV.cells, tmBlk]) (by rw [← hr0]; exact hz2) (by rw [← hr0]; exact hp2) rfl (by simp; exact .raw _) hT ?_)
    refine sm ?_
    repeat' first
      | refine wk ?_
      | (refine goesL_b (by rfl) (by rfl) fun b hb => ?_; cases b <;> refine sm ?_)
    all_goals (refine ⟨rfl, _, rfl, ?_⟩; exact congrArg (fun b => Res.ret (AV.raw (Value.bool b))) hb.symm)
  | cons u l' =>
    have hpl := pure_tms 5 (u :: l')
    have hcl : ((u :: l').map eTm).flatMap AV.cells = tmC u ++ tmsC l' := by
      rw [show ((u :: l').map eTm).flatMap AV.cells = tmsC (u :: l') from rfl, tmsC_cons]
    have hlenL : ((u :: l').map eTm).length = l'.length + 1 := by simp
    have hone : (tmC u ++ tmsC l').all AV.one = true := by
      rw [← hcl, List.all_eq_true]
      intro x hx
      obtain ⟨e, he, hxe⟩ := List.mem_flatMap.1 hx
      exact tmsC_one (u :: l') e he x hxe
    have hall : tmC t ++ (tmC u ++ tmsC l') = ((t :: u :: l').map eTm).flatMap AV.cells := by
      rw [show ((t :: u :: l').map eTm).flatMap AV.cells = tmsC (t :: u :: l') from rfl, tmsC_cons, tmsC_cons]
    have hT' := hT
    rw [eTm_agg t]
    have hnn : (t :: u :: l').length = l'.length + 2 := rfl
    generalize hR : (t :: u :: l').map eTm = R at hT hz2 hp2 hall
    have hRl : R.length = 1 + (l'.length + 1) := by rw [← hR]; simp; omega
    generalize hK : (u :: l').map eTm = K at hpl hcl hlenL
    obtain ⟨k, n, a, lv, kids⟩ := t
    refine gives_enter Tryd.func5 rfl rfl ?_
    repeat' first
      | refine wk ?_
      | (refine goesL_b (by rfl) (by rfl) fun b hb => ?_; cases b <;> refine sm ?_)
    refine goesL_m (by rfl) (mop_append (len := 1) (n := l'.length) (bs := tmC u ++ tmsC l') (by rfl) (by rfl) (by rfl) (by rfl) (by rfl) (by rfl) (by rfl) (by rfl) (by rfl) (by decide) (by rw [← hcl, ← hlenL]; rfl) hone (by rfl) (now_of (c := tmBlk 5 (tmC (.mk k n a lv kids))) rfl) (by rfl) (by rfl) (Nat.zero_le _) (by unfold tops; omega) (by unfold tops; simp at hll; omega)) ?_
    refine sm ?_
    have hcs : (tmC (.mk k n a lv kids)).take (1 * 5) ++ (tmC u ++ tmsC l') = R.flatMap AV.cells := by
      rw [List.take_of_length_le (by rw [tmC_length]; omega), hall]
    refine goesL_call (by rfl) (by rfl) (by rfl) (by rfl) (by rfl) (gives_first (r := 1) (n := 1 + (l'.length + 1)) (c := ⟨1, 26, 5, 0, (tmC (.mk k n a lv kids)).take (1 * 5) ++ (tmC u ++ tmsC l')⟩) (es := R) (post := [eInt 600]) rfl hcs hz2 hp2 hRl (by simp; exact .raw _) hT ?_)
    have hsl := seals_one (h := ⟨2, [], [(1, .cells ⟨1, 26, 5, 0, (tmC (.mk k n a lv kids)).take (1 * 5) ++ (tmC u ++ tmsC l')⟩), (0, .cells (tmBlk 1 (tmC (.mk k n a lv kids))))]⟩) (r := 1) (m := (1 + (l'.length + 1)) * 5) (c := ⟨1, 26, 5, 0, (tmC (.mk k n a lv kids)).take (1 * 5) ++ (tmC u ++ tmsC l')⟩) rfl (by
      show _ ≤ ((tmC (.mk k n a lv kids)).take (1 * 5) ++ (tmC u ++ tmsC l')).length
      rw [List.take_of_length_le (by rw [tmC_length]; omega), List.length_append, List.length_append, tmC_length, tmC_length, tmsC_length]
      omega)
    refine (show GoesL _ _ _ _ _ _ from ?_)
    refine sm ?_
    repeat' first
      | refine wk ?_
      | (refine goesL_b (by rfl) (by rfl) fun b hb => ?_; cases b <;> refine sm ?_)
    all_goals (refine ⟨rfl, _, rfl, ?_⟩; exact congrArg (fun b => Res.ret (AV.raw (Value.bool b))) hb.symm)
/-- no KApp of the spine has anything but its kids -/
def cleanB : Tm → Bool
  | .mk 6 n a lv [x, _] => n == 0 && a == 0 && lv.isEmpty && cleanB x
  | _ => true
theorem cleanB_app {n a : Int} {lv : List (List (Int × Int))} {x y : Tm} : cleanB (.mk 6 n a lv [x, y]) = (n == 0 && a == 0 && lv.isEmpty && cleanB x) := by rw [cleanB]
theorem cleanB_no {t : Tm} (h : t.two 6 = false) : cleanB t = true := by
  unfold cleanB
  split
  · simp [Tm.two] at h
  · rfl
theorem clean_tells (t : Tm) (hs : t.size ≤ 1048576) (hf : t.fit) : Tells Tryd.prog (.func 14) [eTm t] [] (eBool (cleanB t)) := by
  refine tells_raw (fun b hb => ?_) (.raw _) ?_
  · simp at hb; subst hb; exact pure_tm t
  rw [eTm_agg t]
  obtain ⟨k, n, a, lv, kids⟩ := t
  refine gives_enter Tryd.func14 rfl rfl ?_
  repeat' first
    | refine wk ?_
    | (refine goesL_b (by rfl) (by rfl) fun b hb => ?_; cases b <;> refine sm ?_)
  refine goes_keep [1, 2] ?_
  refine goes_loop (fun m f' h => ∃ u : Tm, m = u.size ∧ cleanB (.mk k n a lv kids) = cleanB u ∧ u.fit ∧ f'.keep [1, 2] = ⟨⟨30, [(1, .ptr 0 0 0), (2, .raw (.bool false))]⟩, [], none⟩ ∧ h = ⟨1, [], [(0, .cells (tmBlk 1 (tmC u)))]⟩) ?_ (Tm.mk k n a lv kids).size _ _ ⟨_, rfl, rfl, hf, rfl, rfl⟩
  rintro m f' h ⟨u, rfl, hcl, huf, hkf, rfl⟩
  refine goes_keep [1, 2] ?_
  rw [hkf]
  have hpu := pure_tmC u
  refine goes_scope [1, 2] ?_
  cases e : u.two 6 with
  | false =>
    rw [hcl, cleanB_no e]
    obtain ⟨k1, n1, a1, lv1, kids1⟩ := u
    repeat' first
      | refine wk ?_
      | (refine goesL_b (by rfl) (by rfl) fun b hb => ?_; cases b <;> refine sm ?_)
    · refine within_of (by repeat' first | exact True.intro | exact Of.raw _ | exact Of.emp | exact Of.ptr (has_nil (by rfl)) | exact Of.row (has_nil (by rfl)) | exact Of.yld (has_nil (by rfl)) | exact has_nil (by rfl) | assumption | exact Pure.of (by assumption) | exact Pure.of (pure_lvs _ _) | exact Pure.of (pure_tms _ _) | refine And.intro ?_ ?_ | exact ofC_pure (by assumption) | (refine Of.clo (fun _ ha => nomatch ha) (ofC_pure (by assumption))) | (refine Of.agg (OfC.all ?_)) | (refine Of.clo (fun _ ha => nomatch ha) (OfC.all ?_))) (by repeat' first | exact True.intro | refine And.intro ?_ ?_ | exact has_nil (by rfl)) (by first | exact True.intro | exact Of.raw _ | exact Of.ifc (Of.raw _)) (by repeat' first | exact True.intro | exact Of.raw _ | exact Of.emp | exact Of.ptr (has_nil (by rfl)) | exact Of.row (has_nil (by rfl)) | exact Of.yld (has_nil (by rfl)) | exact has_nil (by rfl) | assumption | exact Pure.of (by assumption) | exact Pure.of (pure_lvs _ _) | exact Pure.of (pure_tms _ _) | refine And.intro ?_ ?_ | exact ofC_pure (by assumption) | (refine Of.agg (OfC.all ?_)) | (refine Of.clo (fun _ ha => nomatch ha) (OfC.all ?_))) ?_
      refine sm ?_
      repeat' first
        | refine wk ?_
        | (refine goesL_b (by rfl) (by rfl) fun b hb => ?_; cases b <;> refine sm ?_)
      exact ⟨rfl, _, rfl, rfl⟩
    · refine within_of (by repeat' first | exact True.intro | exact Of.raw _ | exact Of.emp | exact Of.ptr (has_nil (by rfl)) | exact Of.row (has_nil (by rfl)) | exact Of.yld (has_nil (by rfl)) | exact has_nil (by rfl) | assumption | exact Pure.of (by assumption) | exact Pure.of (pure_lvs _ _) | exact Pure.of (pure_tms _ _) | refine And.intro ?_ ?_ | exact ofC_pure (by assumption) | (refine Of.clo (fun _ ha => nomatch ha) (ofC_pure (by assumption))) | (refine Of.agg (OfC.all ?_)) | (refine Of.clo (fun _ ha => nomatch ha) (OfC.all ?_))) (by repeat' first | exact True.intro | refine And.intro ?_ ?_ | exact has_nil (by rfl)) (by first | exact True.intro | exact Of.raw _ | exact Of.ifc (Of.raw _)) (by repeat' first | exact True.intro | exact Of.raw _ | exact Of.emp | exact Of.ptr (has_nil (by rfl)) | exact Of.row (has_nil (by rfl)) | exact Of.yld (has_nil (by rfl)) | exact has_nil (by rfl) | assumption | exact Pure.of (by assumption) | exact Pure.of (pure_lvs _ _) | exact Pure.of (pure_tms _ _) | refine And.intro ?_ ?_ | exact ofC_pure (by assumption) | (refine Of.agg (OfC.all ?_)) | (refine Of.clo (fun _ ha => nomatch ha) (OfC.all ?_))) ?_
      refine sm ?_
      repeat' first
        | refine wk ?_
        | (refine goesL_b (by rfl) (by rfl) fun b hb => ?_; cases b <;> refine sm ?_)
      exact ⟨rfl, _, rfl, rfl⟩
    all_goals
      exfalso
      have h1 : k1 = 6 := by simpa using ‹(k1 == 6) = true›
      have h2 : (((kids1.map eTm).length : Nat) : Int) = 2 := by simpa using ‹((((kids1.map eTm).length : Nat) : Int) == 2) = true›
      rw [List.length_map] at h2
      simp [Tm.two] at e
      exact e h1 (by omega)
  | true =>
    obtain ⟨k1, n1, a1, lv1, kids1⟩ := u
    obtain ⟨rfl, x, y, rfl⟩ := Tm.two_iff.1 e
    have hpx := pure_tmC x
    have hpy := pure_tmC y
    rw [Tm.fit_mk, Tm.fitL, Tm.fitL] at huf
    rw [tmC_two]
    obtain ⟨L, hL⟩ : ∃ L, lv1.map eLv = L := ⟨_, rfl⟩
    have hLl : L.length = lv1.length := by rw [← hL]; simp
    have hLp : Pure (.vals 1 L) := hL ▸ pure_lvs 1 lv1
    rw [hL]
    have hpr : Pure (.vals 5 [.agg (tmC x), .agg (tmC y)]) := by
      rw [← eTm_agg, ← eTm_agg]
      exact pure_tms 5 [x, y]
    obtain ⟨k2, n2, a2, lv2, kids2⟩ := x
    repeat' first
      | refine wk ?_
      | (refine goesL_b (by rfl) (by rfl) fun b hb => ?_; cases b <;> refine sm ?_)
    · refine within_of (by repeat' first | exact True.intro | exact Of.raw _ | exact Of.emp | exact Of.ptr (has_nil (by rfl)) | exact Of.row (has_nil (by rfl)) | exact Of.yld (has_nil (by rfl)) | exact has_nil (by rfl) | assumption | exact Pure.of (by assumption) | exact Pure.of (pure_lvs _ _) | exact Pure.of (pure_tms _ _) | refine And.intro ?_ ?_ | exact ofC_pure (by assumption) | (refine Of.clo (fun _ ha => nomatch ha) (ofC_pure (by assumption))) | (refine Of.agg (OfC.all ?_)) | (refine Of.clo (fun _ ha => nomatch ha) (OfC.all ?_))) (by repeat' first | exact True.intro | refine And.intro ?_ ?_ | exact has_nil (by rfl)) (by first | exact True.intro | exact Of.raw _ | exact Of.ifc (Of.raw _)) (by repeat' first | exact True.intro | exact Of.raw _ | exact Of.emp | exact Of.ptr (has_nil (by rfl)) | exact Of.row (has_nil (by rfl)) | exact Of.yld (has_nil (by rfl)) | exact has_nil (by rfl) | assumption | exact Pure.of (by assumption) | exact Pure.of (pure_lvs _ _) | exact Pure.of (pure_tms _ _) | refine And.intro ?_ ?_ | exact ofC_pure (by assumption) | (refine Of.agg (OfC.all ?_)) | (refine Of.clo (fun _ ha => nomatch ha) (OfC.all ?_))) ?_
      refine ⟨(Tm.mk k2 n2 a2 lv2 kids2).size, by rw [Tm.size_mk 6, Tm.sizeL, Tm.sizeL, Tm.sizeL]; omega, .mk k2 n2 a2 lv2 kids2, rfl, ?_, huf.2.2.2.1, by first | rfl | trivial, rfl⟩
      have hlv : lv1 = [] := List.length_eq_zero_iff.1 (by
        have h0 : ((L.length : Nat) : Int) = 0 := bne_eq_false_iff_eq.1 hb
        omega)
      subst hlv
      rw [hcl, cleanB_app]
      simp_all
    all_goals
      have hcf : cleanB (.mk k n a lv kids) = false := by
        rw [hcl, cleanB_app]
        cases lv1 <;> simp_all
      rw [hcf]
      refine (show within _ _ _ _ _ _ from ?_)
    · refine within_of (by repeat' first | exact True.intro | exact Of.raw _ | exact Of.emp | exact Of.ptr (has_nil (by rfl)) | exact Of.row (has_nil (by rfl)) | exact Of.yld (has_nil (by rfl)) | exact has_nil (by rfl) | assumption | exact Pure.of (by assumption) | exact Pure.of (pure_lvs _ _) | exact Pure.of (pure_tms _ _) | refine And.intro ?_ ?_ | exact ofC_pure (by assumption) | (refine Of.clo (fun _ ha => nomatch ha) (ofC_pure (by assumption))) | (refine Of.agg (OfC.all ?_)) | (refine Of.clo (fun _ ha => nomatch ha) (OfC.all ?_))) (by repeat' first | exact True.intro | refine And.intro ?_ ?_ | exact has_nil (by rfl)) (by first | exact True.intro | exact Of.raw _ | exact Of.ifc (Of.raw _)) (by repeat' first | exact True.intro | exact Of.raw _ | exact Of.emp | exact Of.ptr (has_nil (by rfl)) | exact Of.row (has_nil (by rfl)) | exact Of.yld (has_nil (by rfl)) | exact has_nil (by rfl) | assumption | exact Pure.of (by assumption) | exact Pure.of (pure_lvs _ _) | exact Pure.of (pure_tms _ _) | refine And.intro ?_ ?_ | exact ofC_pure (by assumption) | (refine Of.agg (OfC.all ?_)) | (refine Of.clo (fun _ ha => nomatch ha) (OfC.all ?_))) ?_
      refine sm ?_
      repeat' first
        | refine wk ?_
        | (refine goesL_b (by rfl) (by rfl) fun b hb => ?_; cases b <;> refine sm ?_)
      exact ⟨rfl, _, rfl, rfl⟩
    · refine within_of (by repeat' first | exact True.intro | exact Of.raw _ | exact Of.emp | exact Of.ptr (has_nil (by rfl)) | exact Of.row (has_nil (by rfl)) | exact Of.yld (has_nil (by rfl)) | exact has_nil (by rfl) | assumption | exact Pure.of (by assumption) | exact Pure.of (pure_lvs _ _) | exact Pure.of (pure_tms _ _) | refine And.intro ?_ ?_ | exact ofC_pure (by assumption) | (refine Of.clo (fun _ ha => nomatch ha) (ofC_pure (by assumption))) | (refine Of.agg (OfC.all ?_)) | (refine Of.clo (fun _ ha => nomatch ha) (OfC.all ?_))) (by repeat' first | exact True.intro | refine And.intro ?_ ?_ | exact has_nil (by rfl)) (by first | exact True.intro | exact Of.raw _ | exact Of.ifc (Of.raw _)) (by repeat' first | exact True.intro | exact Of.raw _ | exact Of.emp | exact Of.ptr (has_nil (by rfl)) | exact Of.row (has_nil (by rfl)) | exact Of.yld (has_nil (by rfl)) | exact has_nil (by rfl) | assumption | exact Pure.of (by assumption) | exact Pure.of (pure_lvs _ _) | exact Pure.of (pure_tms _ _) | refine And.intro ?_ ?_ | exact ofC_pure (by assumption) | (refine Of.agg (OfC.all ?_)) | (refine Of.clo (fun _ ha => nomatch ha) (OfC.all ?_))) ?_
      refine sm ?_
      repeat' first
        | refine wk ?_
        | (refine goesL_b (by rfl) (by rfl) fun b hb => ?_; cases b <;> refine sm ?_)
      exact ⟨rfl, _, rfl, rfl⟩
    · refine within_of (by repeat' first | exact True.intro | exact Of.raw _ | exact Of.emp | exact Of.ptr (has_nil (by rfl)) | exact Of.row (has_nil (by rfl)) | exact Of.yld (has_nil (by rfl)) | exact has_nil (by rfl) | assumption | exact Pure.of (by assumption) | exact Pure.of (pure_lvs _ _) | exact Pure.of (pure_tms _ _) | refine And.intro ?_ ?_ | exact ofC_pure (by assumption) | (refine Of.clo (fun _ ha => nomatch ha) (ofC_pure (by assumption))) | (refine Of.agg (OfC.all ?_)) | (refine Of.clo (fun _ ha => nomatch ha) (OfC.all ?_))) (by repeat' first | exact True.intro | refine And.intro ?_ ?_ | exact has_nil (by rfl)) (by first | exact True.intro | exact Of.raw _ | exact Of.ifc (Of.raw _)) (by repeat' first | exact True.intro | exact Of.raw _ | exact Of.emp | exact Of.ptr (has_nil (by rfl)) | exact Of.row (has_nil (by rfl)) | exact Of.yld (has_nil (by rfl)) | exact has_nil (by rfl) | assumption | exact Pure.of (by assumption) | exact Pure.of (pure_lvs _ _) | exact Pure.of (pure_tms _ _) | refine And.intro ?_ ?_ | exact ofC_pure (by assumption) | (refine Of.agg (OfC.all ?_)) | (refine Of.clo (fun _ ha => nomatch ha) (OfC.all ?_))) ?_
      refine sm ?_
      repeat' first
        | refine wk ?_
        | (refine goesL_b (by rfl) (by rfl) fun b hb => ?_; cases b <;> refine sm ?_)
      exact ⟨rfl, _, rfl, rfl⟩
end Go.Proofs.YtaoglkkdhdfioaaDoor
