/- throw.Must; build.Two, Of; tele.copied, Apps, Count. -/
import Derived.Test.YtaoglkkdhdfioaaGreatDoorEvWk
import Derived.Test.YtaoglkkdhdfioaaGreatDoorTePut
import Derived.KernelRfl
import Derived.Test.YtaoglkkdhdfioaaGreatDoorProg
namespace Go.Proofs.YtaoglkkdhdfioaaGreatDoor
open Go Go.Proofs
set_option maxRecDepth 100000
set_option maxHeartbeats 1000000
attribute [local go_sem] AH.seals AH.adds news List.nil_append List.cons_append AF.put AF.start Slots.set Slots.ins zipA AH.zero AH.new AH.put AH.sub ofV AV.cells List.length AF.keep AH.cut List.filter_cons List.filter_nil List.contains_cons List.contains_nil Nat.reduceBEq Bool.or_false Bool.or_true Bool.true_or Bool.false_or decide_true decide_false Bool.not_false Bool.and_true Bool.true_and Bool.and_self List.append_nil List.getElem_toArray List.getElem_cons_zero List.getElem_cons_succ Nat.reduceLT Nat.reduceAdd Nat.reduceSub Nat.reduceEqDiff andThen atEnd rounds Tryz.ntmps43 Tryz.ntmps75 Tryz.ntmps39 Tryz.ntmps38 Tryz.ntmps11 Tryz.ntmps51
/-- what a function throws at values: whatever there is besides -/
structure Throws (P : Program) (fn : Fn) (args cap : List AV) (z : AV) : Prop where
  pure : ∀ a ∈ args ++ cap, Pure a
  out : Pure z
  run : ∃ h', Run P (.call fn args cap .zero) (.call (.pan z) h')
theorem Throws.gives {P : Program} {fn : Fn} {args cap args' cap' : List AV} {z : AV} {h : AH} {l : List (Nat × Nat)} {R : Res → AH → Prop} (L : List (Nat × Nat)) (ht : Throws P fn args' cap' z) (ha : SnapL (h.seals L) (args ++ cap) (args' ++ cap') l) (hal : args.length = args'.length) (hs : Sealed (h.seals L) l) (hr : R (.pan z) (h.seals L)) : Gives P fn args cap h R := by
  obtain ⟨h', k1⟩ := ht.run
  exact ⟨_, _, .purex (l1 := []) (l2 := []) ha hal hs ht.pure k1 (.pure ht.out .nil) (fun p hp => nomatch hp) ht.out, hr⟩
theorem throws_row {P : Program} {fn : Fn} {pre args args' : List AV} {z : AV} {h : AH} {r n : Nat} {c : Cells} {es : List AV} {R : Res → AH → Prop} (hg : h.get r = some (.cells c)) (hcs : c.cs = es.flatMap AV.cells) (hz : ∀ e ∈ es, e.cells.length = c.sz) (hp : ∀ e ∈ es, Pure e) (hn : es.length = n) (hpre : ∀ a ∈ pre, Pure a)
    (ha : args = pre ++ [.row r c.ver 0 n]) (ha' : args' = pre ++ [.vals c.sz es]) (ht : Throws P fn args' [] z) (hr : R (.pan z) (h.seals [(r, n * c.sz)])) : Gives P fn args [] h R := by
  obtain ⟨k1, k2⟩ := snap_own hg hcs hz hp hn
  subst ha ha'
  refine ht.gives [(r, n * c.sz)] ?_ (by simp) k2 hr
  rw [List.append_nil, List.append_nil]
  exact snap_ahead k1 hpre
theorem must_yes (e : Int) : Tells Tryz.prog (.func 43) [eInt e, .vals 1 [eBool true]] [] unitT := by
  refine tells_raw (fun b hb => ?_) (.tup pure_nil) ?_
  · simp at hb; rcases hb with rfl | rfl
    · exact .raw _
    · exact .vals fun x hx => by simp at hx; subst hx; exact .raw _
  refine gives_enter Tryz.func43 rfl rfl ?_
  repeat' first
    | refine wk ?_
    | (refine goesL_b (by rfl) (by rfl) fun b hb => ?_; cases b <;> refine sm ?_)
  refine goes_loop (fun m f h => (m = 1 ∧ f = ⟨⟨17, [(0, eInt e), (1, .vals 1 [eBool true]), (6, .vals 1 [eBool true]), (7, eInt 1), (8, eInt 0)]⟩, [], none⟩ ∧ h = ⟨0, [], []⟩) ∨ (m = 0 ∧ f = ⟨⟨17, [(6, .vals 1 [eBool true]), (7, eInt 1), (8, eInt 1)]⟩, [], none⟩ ∧ h = ⟨0, [], []⟩)) ?_ 1 _ _ (.inl ⟨rfl, rfl, rfl⟩)
  have hbp : Pure (AV.vals 1 [eBool true]) := .vals fun x hx => by simp at hx; subst hx; exact .raw _
  rintro m f h (⟨rfl, rfl, rfl⟩ | ⟨rfl, rfl, rfl⟩)
  · refine goes_scope [6, 7, 8] ?_
    repeat' first
      | refine wk ?_
      | (refine goesL_b (by rfl) (by rfl) fun b hb => ?_; cases b <;> refine sm ?_)
    refine within_of (by repeat' first | exact True.intro | exact Of.raw _ | exact Of.emp | exact Of.ptr (has_nil (by rfl)) | exact Of.row (has_nil (by rfl)) | exact Of.yld (has_nil (by rfl)) | exact has_nil (by rfl) | assumption | exact Pure.of (by assumption) | exact Pure.of (pure_lvs _ _) | exact Pure.of (pure_tms _ _) | refine And.intro ?_ ?_ | exact ofC_pure (by assumption) | (refine Of.clo (fun _ ha => nomatch ha) (ofC_pure (by assumption))) | (refine Of.agg (OfC.all ?_)) | (refine Of.clo (fun _ ha => nomatch ha) (OfC.all ?_))) (by repeat' first | exact True.intro | refine And.intro ?_ ?_ | exact has_nil (by rfl)) (by first | exact True.intro | exact Of.raw _ | exact Of.ifc (Of.raw _)) (by repeat' first | exact True.intro | exact Of.raw _ | exact Of.emp | exact Of.ptr (has_nil (by rfl)) | exact Of.row (has_nil (by rfl)) | exact Of.yld (has_nil (by rfl)) | exact has_nil (by rfl) | assumption | exact Pure.of (by assumption) | exact Pure.of (pure_lvs _ _) | exact Pure.of (pure_tms _ _) | refine And.intro ?_ ?_ | exact ofC_pure (by assumption) | (refine Of.agg (OfC.all ?_)) | (refine Of.clo (fun _ ha => nomatch ha) (OfC.all ?_))) ?_
    exact ⟨0, Nat.zero_lt_one, .inr ⟨rfl, rfl, rfl⟩⟩
  · repeat' first
      | refine wk ?_
      | (refine goesL_b (by rfl) (by rfl) fun b hb => ?_; cases b <;> refine sm ?_)
    exact ⟨rfl, _, rfl, rfl⟩
theorem must_no (e : Int) : Throws Tryz.prog (.func 43) [eInt e, .vals 1 [eBool false]] [] (.ifc 69 (eInt e)) := by
  have hk : Gives Tryz.prog (.func 43) [eInt e, .vals 1 [eBool false]] [] .zero fun r _ => r = .pan (.ifc 69 (eInt e)) := by
    refine gives_enter Tryz.func43 rfl rfl ?_
    repeat' first
      | refine wk ?_
      | (refine goesL_b (by rfl) (by rfl) fun b hb => ?_; cases b <;> refine sm ?_)
    refine goes_loop (fun m f h => m = 0 ∧ f = ⟨⟨17, [(0, eInt e), (1, .vals 1 [eBool false]), (6, .vals 1 [eBool false]), (7, eInt 1), (8, eInt 0)]⟩, [], none⟩ ∧ h = ⟨0, [], []⟩) ?_ 0 _ _ ⟨rfl, rfl, rfl⟩
    rintro m f h ⟨rfl, rfl, rfl⟩
    repeat' first
      | refine wk ?_
      | (refine goesL_b (by rfl) (by rfl) fun b hb => ?_; cases b <;> refine sm ?_)
    refine goesL_panic (by rfl) (by rfl) (by rfl) ?_
    exact ⟨rfl, rfl⟩
  obtain ⟨r, h', k1, rfl⟩ := hk
  refine ⟨fun b hb => ?_, .ifc (.raw _), h', k1⟩
  simp at hb; rcases hb with rfl | rfl
  · exact .raw _
  · exact .vals fun x hx => by simp at hx; subst hx; exact .raw _
theorem two_tells (t : Tm) (k : Int) : Tells Tryz.prog (.func 75) [eTm t, eInt k] [] (eBool (t.two k)) := by
  refine tells_raw (fun b hb => ?_) (.raw _) ?_
  · simp at hb; rcases hb with rfl | rfl
    · exact pure_tm t
    · exact .raw _
  obtain ⟨k', n, a, lv, kids⟩ := t
  rw [eTm_mk]
  have hl : (kids.map eTm).length = kids.length := by simp
  generalize kids.map eTm = K at hl
  refine gives_enter Tryz.func75 rfl rfl ?_
  repeat' first
    | refine wk ?_
    | (refine goesL_b (by rfl) (by rfl) fun b hb => ?_; cases b <;> refine sm ?_)
  all_goals (refine ⟨rfl, _, rfl, ?_⟩; simp_all [Tm.two] <;> omega)
theorem of_tells (k : Int) (ts : List Tm) : Tells Tryz.prog (.func 39) [eInt k, .vals 5 (ts.map eTm)] [] (eTm (.mk k 0 0 [] ts)) := by
  refine tells_of (fun b hb => ?_) (pure_tm _) ?_
  · simp at hb; rcases hb with rfl | rfl
    · exact .raw _
    · exact pure_tms 5 ts
  have hp := pure_tms 5 ts
  rw [eTm_mk]
  generalize ts.map eTm = K at hp
  refine gives_enter Tryz.func39 rfl rfl ?_
  repeat' first
    | refine wk ?_
    | (refine goesL_b (by rfl) (by rfl) fun b hb => ?_; cases b <;> refine sm ?_)
  refine ⟨rfl, _, rfl, _, [], _, rfl, .agg (.pure (.raw _) (.pure (.raw _) (.pure (.raw _) (.none (.pure hp .nil))))) .nil, fun p hp => nomatch hp⟩
theorem liftT_none : ∀ (t : Tm), t.fit → ∀ d, t.walk (liftT 0 0) d = t := by
  intro t
  induction t using Tm.ind with
  | h k n a lv kids ih =>
    intro hf d
    rw [Tm.fit_mk] at hf
    rw [Tm.walk_go (tr := liftT 0 0) rfl, Tm.walkL_id fun t ht u => ih t ht ((Tm.fitL_iff kids).1 hf.2.2.2 t ht) (d + u)]
    congr 1
    unfold liftN
    split
    · rw [Int.add_zero, wrap_rng hf.1]
    · rfl
theorem tcopied_tells (t : Tm) (hs : t.size ≤ 1073741824) (hf : t.fit) : Tells Tryz.prog (.func 38) [eTm t] [] (eTm t) := by
  have hT := lift_tells t 0 0 hs hf
  rw [liftT_none t hf] at hT
  refine tells_raw (fun b hb => ?_) (pure_tm _) ?_
  · simp at hb; subst hb; exact pure_tm t
  obtain ⟨k, n, a, lv, kids⟩ := t
  rw [eTm_mk] at hT ⊢
  generalize kids.map eTm = K at hT ⊢
  generalize lv.map eLv = L at hT ⊢
  refine gives_enter Tryz.func38 rfl rfl ?_
  repeat' first
    | refine wk ?_
    | (refine goesL_b (by rfl) (by rfl) fun b hb => ?_; cases b <;> refine sm ?_)
  refine goesL_tells hT (by rfl) (by rfl) (by rfl) (by rfl) (by rfl) (by rfl) ?_
  refine sm ?_
  repeat' first
    | refine wk ?_
    | (refine goesL_b (by rfl) (by rfl) fun b hb => ?_; cases b <;> refine sm ?_)
  exact ⟨rfl, _, rfl, rfl⟩
theorem eTm_five (e : AV) (t : Tm) (h : e = eTm t) : e.cells.length = 5 := by subst h; rw [tmC_eq, tmC_length]
theorem fit_mem {ts : List Tm} (h : Tm.fitL ts) {i : Nat} {t : Tm} (e : ts[i]? = some t) : t.fit := (Tm.fitL_iff ts).1 h t (List.mem_of_getElem? e)
theorem size_mem {ts : List Tm} {i : Nat} {t : Tm} (e : ts[i]? = some t) : t.size ≤ Tm.sizeL ts := by
  have h1 := Tm.sizeL_take ts i t e
  have h2 := Tm.sizeL_le ts (i + 1)
  omega
theorem appsT_take (f : Tm) {l : List Tm} {j : Nat} {u : Tm} (h : l[j]? = some u) : appsT f (l.take (j + 1)) = .mk 6 0 0 [] [appsT f (l.take j), u] := by
  rw [List.take_add_one, h]
  exact appsT_snoc _ _ _
theorem apps_tells (f : Tm) (l : List Tm) (hs : f.size + Tm.sizeL l ≤ 1048576) (hf : f.fit) (hl : Tm.fitL l) : Tells Tryz.prog (.func 11) [eTm f, .vals 5 (l.map eTm)] [] (eTm (appsT f l)) := by
  have hT := tcopied_tells f (by omega) hf
  have hll := Tm.sizeL_len l
  obtain ⟨K, hK⟩ : ∃ K, l.map eTm = K := ⟨_, rfl⟩
  have hlen : K.length = l.length := by rw [← hK]; simp
  have hKp : Pure (.vals 5 K) := hK ▸ pure_tms 5 l
  refine tells_raw (fun b hb => ?_) (pure_tm _) ?_
  · simp at hb; rcases hb with rfl | rfl
    · exact pure_tm f
    · exact pure_tms 5 l
  rw [hK]
  rw [eTm_agg f] at hT ⊢
  have hft := tmC_length f
  have hfo := tmC_one f
  have hfp := pure_tmC f
  obtain ⟨F, hF⟩ : ∃ F, tmC f = F := ⟨_, rfl⟩
  refine gives_enter Tryz.func11 rfl rfl ?_
  obtain ⟨k, n, a, lv, kids⟩ := f
  repeat' first
    | refine wk ?_
    | (refine goesL_b (by rfl) (by rfl) fun b hb => ?_; cases b <;> refine sm ?_)
  refine goesL_tells hT (by rfl) (by rfl) (by rfl) (by rfl) (by rfl) (by rfl) ?_
  refine sm ?_
  repeat' first
    | refine wk ?_
    | (refine goesL_b (by rfl) (by rfl) fun b hb => ?_; cases b <;> refine sm ?_)
  refine goes_keep [4, 5, 10, 11, 12] ?_
  refine goes_loop (fun m f' h => ∃ j : Nat, j ≤ K.length ∧ m = K.length - j ∧ f' = ⟨⟨23, [(4, .ptr 1 0 0), (5, .ptr 2 0 0), (10, .vals 5 K), (11, eInt (K.length : Int)), (12, eInt (j : Int))]⟩, [], none⟩ ∧
    h = ⟨3, [], [(2, Blk.cells (tmBlk 1 (tmC (appsT (.mk k n a lv kids) (l.take j))))), (1, Blk.cells (tmBlk 1 [eInt 0, eInt 0, eInt 0, .raw (.slice none 0 0), .raw (.slice none 0 0)])), (0, Blk.cells (tmBlk 1 (tmC (.mk k n a lv kids))))]⟩) ?_ K.length _ _ ⟨0, Nat.zero_le _, rfl, rfl, rfl⟩
  rintro m f' h ⟨j, hj, rfl, rfl, rfl⟩
  have hpa : ∀ x ∈ tmC (appsT (.mk k n a lv kids) (l.take j)), Pure x := pure_tmC _
  have hp0 : ∀ x ∈ tmC (.mk k n a lv kids), Pure x := pure_tmC _
  refine goes_scope [4, 5, 10, 11, 12] ?_
  rcases Nat.lt_or_eq_of_le hj with hj' | rfl
  · obtain ⟨u, hu⟩ : ∃ u, l[j]? = some u := ⟨_, List.getElem?_eq_getElem (by omega)⟩
    have hKu : K[j]? = some (.agg (tmC u)) := by rw [← hK, List.getElem?_map, hu, ← eTm_agg]; rfl
    have hsu := size_mem hu
    have hTu := tcopied_tells u (by omega) (fit_mem hl hu)
    have hO := of_tells 6 [appsT (.mk k n a lv kids) (l.take j), u]
    rw [← appsT_take _ hu] at hO
    have hpn := pure_tmC (appsT (.mk k n a lv kids) (l.take (j + 1)))
    generalize appsT (.mk k n a lv kids) (l.take j) = acc at hpa hO ⊢
    generalize hnxt : appsT (.mk k n a lv kids) (l.take (j + 1)) = nxt at hO hpn
    have hrow : [acc, u].map eTm = [.agg (tmC acc), .agg (tmC u)] := by rw [← eTm_agg, ← eTm_agg]; rfl
    rw [hrow, eTm_agg nxt] at hO
    rw [eTm_agg u] at hTu
    have hpu := pure_tmC u
    obtain ⟨k1, n1, a1, lv1, kids1⟩ := acc
    obtain ⟨k2, n2, a2, lv2, kids2⟩ := u
    obtain ⟨k3, n3, a3, lv3, kids3⟩ := nxt
    repeat' first
      | refine wk ?_
      | (refine goesL_b (by rfl) (by rfl) fun b hb => ?_; cases b <;> refine sm ?_)
    · exact absurd (of_decide_eq_false hb) (by omega)
    refine goesL_index (n := j) (by rfl) (by rfl) (by rfl) (by rfl) (by rfl) (by rfl) (by rfl) hKu ?_
    refine sm ?_
    repeat' first
      | refine wk ?_
      | (refine goesL_b (by rfl) (by rfl) fun b hb => ?_; cases b <;> refine sm ?_)
    refine goes_draw 3 [] (by rfl) (by kernel_rfl) ?_
    refine sm ?_
    repeat' first
      | (refine goesD_q (y := .raw (.bool true)) (by first | decide | exact Nat.le_of_ble_eq_true rfl) (by rfl) (by rfl) ?_; refine sm ?_)
      | (refine goesD_q (y := .raw (.bool false)) (by first | decide | exact Nat.le_of_ble_eq_true rfl) (by rfl) (by rfl) ?_; refine sm ?_)
      | (refine goesD_b (by first | decide | exact Nat.le_of_ble_eq_true rfl) (by rfl) (by rfl) fun b hb => ?_; cases b <;> refine sm ?_)
      | (refine goesD_q (by first | decide | exact Nat.le_of_ble_eq_true rfl) (by rfl) (by rfl) ?_; refine sm ?_)
      | (refine goesD_s (by first | decide | exact Nat.le_of_ble_eq_true rfl) (by rfl) (qok_rop (by rfl)) ?_; refine sm ?_)
      | (refine goesD_off (by first | decide | exact Nat.le_of_ble_eq_true rfl) (by rfl) ?_; refine sm ?_)
      | (refine goesD_end (by rfl) ?_; refine sm ?_)
      | (refine goes_seq ?_)
    refine goesD_tells hTu (by decide) (by rfl) (by rfl) (by rfl) (by rfl) (by rfl) (by rfl) (by rfl) ?_
    refine sm ?_
    repeat' first
      | (refine goesD_q (y := .raw (.bool true)) (by first | decide | exact Nat.le_of_ble_eq_true rfl) (by rfl) (by rfl) ?_; refine sm ?_)
      | (refine goesD_q (y := .raw (.bool false)) (by first | decide | exact Nat.le_of_ble_eq_true rfl) (by rfl) (by rfl) ?_; refine sm ?_)
      | (refine goesD_b (by first | decide | exact Nat.le_of_ble_eq_true rfl) (by rfl) (by rfl) fun b hb => ?_; cases b <;> refine sm ?_)
      | (refine goesD_q (by first | decide | exact Nat.le_of_ble_eq_true rfl) (by rfl) (by rfl) ?_; refine sm ?_)
      | (refine goesD_s (by first | decide | exact Nat.le_of_ble_eq_true rfl) (by rfl) (qok_rop (by rfl)) ?_; refine sm ?_)
      | (refine goesD_off (by first | decide | exact Nat.le_of_ble_eq_true rfl) (by rfl) ?_; refine sm ?_)
      | (refine goesD_end (by rfl) ?_; refine sm ?_)
      | (refine goes_seq ?_)
    repeat' first
      | refine wk ?_
      | (refine goesL_b (by rfl) (by rfl) fun b hb => ?_; cases b <;> refine sm ?_)
    refine goesL_call (by rfl) (by rfl) (by rfl) (by rfl) (by rfl) (gives_row (r := 7) (n := 2) (pre := [eInt 6]) (c := tmBlk 5 (tmC (.mk k1 n1 a1 lv1 kids1) ++ tmC (.mk k2 n2 a2 lv2 kids2))) (es := [.agg (tmC (.mk k1 n1 a1 lv1 kids1)), .agg (tmC (.mk k2 n2 a2 lv2 kids2))]) (by rfl) (by rfl) (by simp [tmC_length, AV.cells]) (by simp; exact ⟨.agg hpa, .agg hpu⟩) (by rfl) (by simp; exact .raw _) (by rfl) (by rfl) hO ?_)
    refine sm ?_
    repeat' first
      | refine wk ?_
      | (refine goesL_b (by rfl) (by rfl) fun b hb => ?_; cases b <;> refine sm ?_)
    refine within_of (by repeat' first | exact True.intro | exact Of.raw _ | exact Of.emp | exact Of.ptr (has_nil (by rfl)) | exact Of.row (has_nil (by rfl)) | exact Of.yld (has_nil (by rfl)) | exact has_nil (by rfl) | assumption | exact Pure.of (by assumption) | exact Pure.of (pure_lvs _ _) | exact Pure.of (pure_tms _ _) | refine And.intro ?_ ?_ | exact ofC_pure (by assumption) | (refine Of.clo (fun _ ha => nomatch ha) (ofC_pure (by assumption))) | (refine Of.agg (OfC.all ?_)) | (refine Of.clo (fun _ ha => nomatch ha) (OfC.all ?_))) (by repeat' first | exact True.intro | refine And.intro ?_ ?_ | exact has_nil (by rfl)) (by first | exact True.intro | exact Of.raw _ | exact Of.ifc (Of.raw _)) (by repeat' first | exact True.intro | exact Of.raw _ | exact Of.emp | exact Of.ptr (has_nil (by rfl)) | exact Of.row (has_nil (by rfl)) | exact Of.yld (has_nil (by rfl)) | exact has_nil (by rfl) | assumption | exact Pure.of (by assumption) | exact Pure.of (pure_lvs _ _) | exact Pure.of (pure_tms _ _) | refine And.intro ?_ ?_ | exact ofC_pure (by assumption) | (refine Of.agg (OfC.all ?_)) | (refine Of.clo (fun _ ha => nomatch ha) (OfC.all ?_))) ?_
    refine ⟨K.length - (j + 1), by omega, j + 1, by omega, rfl, ?_, by rw [hnxt]; rfl⟩
    have e2 : IntKind.i64.wrap ((j : Int) + 1) = ((j + 1 : Nat) : Int) := by
      rw [show ((j : Int) + 1) = ((j + 1 : Nat) : Int) from rfl, wrap_nat (by omega)]
    rw [e2]
    rfl
  · have hlt : l.take K.length = l := by rw [hlen, List.take_length]
    rw [hlt] at hpa ⊢
    generalize appsT (.mk k n a lv kids) l = res at hpa ⊢
    rw [eTm_agg res]
    obtain ⟨k1, n1, a1, lv1, kids1⟩ := res
    repeat' first
      | refine wk ?_
      | (refine goesL_b (by rfl) (by rfl) fun b hb => ?_; cases b <;> refine sm ?_)
    · refine within_of (by repeat' first | exact True.intro | exact Of.raw _ | exact Of.emp | exact Of.ptr (has_nil (by rfl)) | exact Of.row (has_nil (by rfl)) | exact Of.yld (has_nil (by rfl)) | exact has_nil (by rfl) | assumption | exact Pure.of (by assumption) | exact Pure.of (pure_lvs _ _) | exact Pure.of (pure_tms _ _) | refine And.intro ?_ ?_ | exact ofC_pure (by assumption) | (refine Of.clo (fun _ ha => nomatch ha) (ofC_pure (by assumption))) | (refine Of.agg (OfC.all ?_)) | (refine Of.clo (fun _ ha => nomatch ha) (OfC.all ?_))) (by repeat' first | exact True.intro | refine And.intro ?_ ?_ | exact has_nil (by rfl)) (by first | exact True.intro | exact Of.raw _ | exact Of.ifc (Of.raw _)) (by repeat' first | exact True.intro | exact Of.raw _ | exact Of.emp | exact Of.ptr (has_nil (by rfl)) | exact Of.row (has_nil (by rfl)) | exact Of.yld (has_nil (by rfl)) | exact has_nil (by rfl) | assumption | exact Pure.of (by assumption) | exact Pure.of (pure_lvs _ _) | exact Pure.of (pure_tms _ _) | refine And.intro ?_ ?_ | exact ofC_pure (by assumption) | (refine Of.agg (OfC.all ?_)) | (refine Of.clo (fun _ ha => nomatch ha) (OfC.all ?_))) ?_
      refine sm ?_
      repeat' first
        | refine wk ?_
        | (refine goesL_b (by rfl) (by rfl) fun b hb => ?_; cases b <;> refine sm ?_)
      exact ⟨rfl, _, rfl, rfl⟩
    · exact absurd (of_decide_eq_true hb) (by omega)
theorem tmC_two (k n a : Int) (lv : List (List (Int × Int))) (x y : Tm) : tmC (.mk k n a lv [x, y]) = [eInt k, eInt n, eInt a, .vals 1 (lv.map eLv), .vals 5 [.agg (tmC x), .agg (tmC y)]] := by rw [← eTm_agg, ← eTm_agg]; rfl
/-- how many binders there are -/
def cntT : Tm → Nat
  | .mk 4 _ _ _ [_, y] => 1 + cntT y
  | _ => 0
theorem cntT_two {n a : Int} {lv : List (List (Int × Int))} {x y : Tm} : cntT (.mk 4 n a lv [x, y]) = 1 + cntT y := by rw [cntT]
theorem cntT_no {t : Tm} (h : t.two 4 = false) : cntT t = 0 := by
  unfold cntT
  split
  · simp [Tm.two] at h
  · rfl
theorem cntT_le (t : Tm) : cntT t + 1 ≤ t.size := by
  induction t using Tm.ind with
  | h k n a lv kids ih =>
    cases e : (Tm.mk k n a lv kids).two 4 with
    | false => rw [cntT_no e, Tm.size_mk]; omega
    | true =>
      obtain ⟨rfl, x, y, rfl⟩ := Tm.two_iff.1 e
      have := ih y (by simp)
      rw [cntT_two, Tm.size_mk, Tm.sizeL, Tm.sizeL, Tm.sizeL]
      omega
theorem count_tells (t : Tm) (hs : t.size ≤ 1048576) : Tells Tryz.prog (.func 51) [eTm t] [] (eInt (cntT t : Int)) := by
  have hpt := pure_tmC t
  refine tells_raw (fun b hb => ?_) (.raw _) ?_
  · simp at hb; subst hb; exact pure_tm t
  rw [eTm_agg t]
  refine gives_enter Tryz.func51 rfl rfl ?_
  obtain ⟨k, n, a, lv, kids⟩ := t
  repeat' first
    | refine wk ?_
    | (refine goesL_b (by rfl) (by rfl) fun b hb => ?_; cases b <;> refine sm ?_)
  refine goes_keep [1, 2, 3] ?_
  refine goes_loop (fun m f h => ∃ (u : Tm) (j : Nat), m = u.size ∧ j + cntT u = cntT (.mk k n a lv kids) ∧ f = ⟨⟨13, [(1, .ptr 0 0 0), (2, eInt 0), (3, eInt (j : Int))]⟩, [], none⟩ ∧ h = ⟨1, [], [(0, Blk.cells (tmBlk 1 (tmC u)))]⟩) ?_ _ _ _ ⟨.mk k n a lv kids, 0, rfl, by omega, rfl, rfl⟩
  rintro m f h ⟨u, j, rfl, hj, rfl, rfl⟩
  have hW := two_tells u 4
  have hpu := pure_tmC u
  have hle := cntT_le (.mk k n a lv kids)
  refine goes_scope [1, 2, 3] ?_
  cases e : u.two 4 with
  | false =>
    rw [e, eTm_agg u] at hW
    have hc0 := cntT_no e
    obtain ⟨k1, n1, a1, lv1, kids1⟩ := u
    repeat' first
      | refine wk ?_
      | (refine goesL_b (by rfl) (by rfl) fun b hb => ?_; cases b <;> refine sm ?_)
    refine goesL_tells hW (by rfl) (by rfl) (by rfl) (by rfl) (by rfl) (by rfl) ?_
    refine sm ?_
    repeat' first
      | refine wk ?_
      | (refine goesL_b (by rfl) (by rfl) fun b hb => ?_; cases b <;> refine sm ?_)
    refine within_of (by repeat' first | exact True.intro | exact Of.raw _ | exact Of.emp | exact Of.ptr (has_nil (by rfl)) | exact Of.row (has_nil (by rfl)) | exact Of.yld (has_nil (by rfl)) | exact has_nil (by rfl) | assumption | exact Pure.of (by assumption) | exact Pure.of (pure_lvs _ _) | exact Pure.of (pure_tms _ _) | refine And.intro ?_ ?_ | exact ofC_pure (by assumption) | (refine Of.clo (fun _ ha => nomatch ha) (ofC_pure (by assumption))) | (refine Of.agg (OfC.all ?_)) | (refine Of.clo (fun _ ha => nomatch ha) (OfC.all ?_))) (by repeat' first | exact True.intro | refine And.intro ?_ ?_ | exact has_nil (by rfl)) (by first | exact True.intro | exact Of.raw _ | exact Of.ifc (Of.raw _)) (by repeat' first | exact True.intro | exact Of.raw _ | exact Of.emp | exact Of.ptr (has_nil (by rfl)) | exact Of.row (has_nil (by rfl)) | exact Of.yld (has_nil (by rfl)) | exact has_nil (by rfl) | assumption | exact Pure.of (by assumption) | exact Pure.of (pure_lvs _ _) | exact Pure.of (pure_tms _ _) | refine And.intro ?_ ?_ | exact ofC_pure (by assumption) | (refine Of.agg (OfC.all ?_)) | (refine Of.clo (fun _ ha => nomatch ha) (OfC.all ?_))) ?_
    refine sm ?_
    repeat' first
      | refine wk ?_
      | (refine goesL_b (by rfl) (by rfl) fun b hb => ?_; cases b <;> refine sm ?_)
    refine ⟨rfl, _, rfl, ?_⟩
    rw [show cntT (.mk k n a lv kids) = j by omega]
  | true =>
    rw [e, eTm_agg u] at hW
    obtain ⟨k1, n1, a1, lv1, kids1⟩ := u
    obtain ⟨rfl, x, y, rfl⟩ := Tm.two_iff.1 e
    rw [cntT_two] at hj
    have hpy := pure_tmC y
    rw [tmC_two] at hW hpu ⊢
    obtain ⟨k2, n2, a2, lv2, kids2⟩ := y
    repeat' first
      | refine wk ?_
      | (refine goesL_b (by rfl) (by rfl) fun b hb => ?_; cases b <;> refine sm ?_)
    refine goesL_tells hW (by rfl) (by rfl) (by rfl) (by rfl) (by rfl) (by rfl) ?_
    refine sm ?_
    repeat' first
      | refine wk ?_
      | (refine goesL_b (by rfl) (by rfl) fun b hb => ?_; cases b <;> refine sm ?_)
    refine within_of (by repeat' first | exact True.intro | exact Of.raw _ | exact Of.emp | exact Of.ptr (has_nil (by rfl)) | exact Of.row (has_nil (by rfl)) | exact Of.yld (has_nil (by rfl)) | exact has_nil (by rfl) | assumption | exact Pure.of (by assumption) | exact Pure.of (pure_lvs _ _) | exact Pure.of (pure_tms _ _) | refine And.intro ?_ ?_ | exact ofC_pure (by assumption) | (refine Of.clo (fun _ ha => nomatch ha) (ofC_pure (by assumption))) | (refine Of.agg (OfC.all ?_)) | (refine Of.clo (fun _ ha => nomatch ha) (OfC.all ?_))) (by repeat' first | exact True.intro | refine And.intro ?_ ?_ | exact has_nil (by rfl)) (by first | exact True.intro | exact Of.raw _ | exact Of.ifc (Of.raw _)) (by repeat' first | exact True.intro | exact Of.raw _ | exact Of.emp | exact Of.ptr (has_nil (by rfl)) | exact Of.row (has_nil (by rfl)) | exact Of.yld (has_nil (by rfl)) | exact has_nil (by rfl) | assumption | exact Pure.of (by assumption) | exact Pure.of (pure_lvs _ _) | exact Pure.of (pure_tms _ _) | refine And.intro ?_ ?_ | exact ofC_pure (by assumption) | (refine Of.agg (OfC.all ?_)) | (refine Of.clo (fun _ ha => nomatch ha) (OfC.all ?_))) ?_
    refine ⟨(Tm.mk k2 n2 a2 lv2 kids2).size, by rw [Tm.size_mk 4, Tm.sizeL, Tm.sizeL, Tm.sizeL]; omega, .mk k2 n2 a2 lv2 kids2, j + 1, rfl, by omega, ?_, rfl⟩
    have e2 : IntKind.i64.wrap ((j : Int) + 1) = ((j + 1 : Nat) : Int) := by
      rw [show ((j : Int) + 1) = ((j + 1 : Nat) : Int) from rfl, wrap_nat (by omega)]
    rw [e2]
    rfl
end Go.Proofs.YtaoglkkdhdfioaaGreatDoor
