/- spandrelkit's counts up to a bound. -/
import Derived.Test.YtaoglkkdhdfioaaGreatDoorEvWk
import Derived.Test.YtaoglkkdhdfioaaGreatDoorEvZ
import Derived.Test.YtaoglkkdhdfioaaGreatDoorEvTw
import Derived.Test.YtaoglkkdhdfioaaGreatDoorTeCopied
import Derived.KernelRfl
import Derived.Test.YtaoglkkdhdfioaaGreatDoorProg
namespace Go.Proofs.YtaoglkkdhdfioaaGreatDoor
open Go Go.Proofs
set_option maxRecDepth 100000
set_option maxHeartbeats 1000000
attribute [local go_sem] AH.seals AH.adds news List.nil_append List.cons_append AF.put AF.start Slots.set Slots.ins zipA AH.zero AH.new AH.put AH.sub ofV AV.cells List.length AF.keep AH.cut List.filter_cons List.filter_nil List.contains_cons List.contains_nil Nat.reduceBEq Bool.or_false Bool.or_true Bool.true_or Bool.false_or decide_true decide_false Bool.not_false Bool.and_true Bool.true_and Bool.and_self List.append_nil List.getElem_toArray List.getElem_cons_zero List.getElem_cons_succ Nat.reduceLT Nat.reduceAdd Nat.reduceSub Nat.reduceEqDiff andThen atEnd rounds Tryz.ntmps21 Tryz.ntmps102 Tryz.ntmps61 Tryz.ntmps20
theorem min_run (g : Operand → Value) (d : Option Nat) (x y : Operand) (t u : TypeId) (a b : Int) (hx : g x = .int .i64 a) (hy : g y = .int .i64 b) (ty : TypeId) (pos : String) (aft : Array Edge) (gd : Option (Nat × Bool)) (w : World) :
    (execOp g { dst := d, op := .call { callee := .builtin .min, args := #[x, y], argTypes := #[t, u] }, type := ty, pos := pos, after := aft, guard := gd }).run Tryz.prog w = .ok (.value (.int .i64 (min a b))) w := by
  by_cases h : b < a
  · rw [Int.min_eq_right (by omega)]
    go_simp
    try omega
  · rw [Int.min_eq_left (by omega)]
    go_simp
    try omega
theorem qok_min {h : AH} {f : AF} {d : Option Nat} {x y : Operand} {t u : TypeId} {a b c : Int} {ty : TypeId} {pos : String} {aft : Array Edge} {gd : Option (Nat × Bool)} (hx : f.ev x = some (eInt a)) (hy : f.ev y = some (eInt b)) (hc : min a b = c) :
    QOk Tryz.prog h f { dst := d, op := .call { callee := .builtin .min, args := #[x, y], argTypes := #[t, u] }, type := ty, pos := pos, after := aft, guard := gd } (eInt c) := by
  subst hc
  refine qok_raw (v := .int .i64 (min a b)) rfl (fun z hz => ?_) fun w => ?_
  · change z ∈ [x, y] at hz
    simp at hz
    rcases hz with rfl | rfl
    · rw [hx]; rfl
    · rw [hy]; rfl
  · exact min_run _ d x y t u a b (by rw [AF.rawAt, hx]; rfl) (by rw [AF.rawAt, hy]; rfl) ty pos aft gd w
/-- a level's weight up to a bound -/
def lofN (M : Nat) (ps : List (Int × Int)) : Nat := min (1 + ps.length) (M + 1)
def lsN (M : Nat) : Nat → List (List (Int × Int)) → Nat
  | n, [] => n
  | n, l :: ls => if n ≤ M then lsN M (n + lofN M l) ls else n
mutual
def tofN (M : Nat) : Tm → Nat
  | .mk _ _ _ lv kids => 1 + lsN M 0 lv + tsofN M 0 kids
def tsofN (M : Nat) (n : Nat) : List Tm → Nat
  | [] => n
  | t :: ts => if n ≤ M then tsofN M (n + tofN (M - n) t) ts else n
end
theorem levelOf_tells (ps : List (Int × Int)) (M : Nat) (hn : ps.length ≤ 1048576) (hM : M ≤ 1048576) : Tells Tryz.prog (.func 21) [eLv ps, eInt (M : Int)] [] (eInt (lofN M ps : Int)) := by
  refine tells_raw (fun b hb => ?_) (.raw _) ?_
  · simp at hb; rcases hb with rfl | rfl
    · exact pure_lv ps
    · exact .raw _
  unfold eLv
  obtain ⟨K, hK⟩ : ∃ K, ps.map ePart = K := ⟨_, rfl⟩
  have hlen : K.length = ps.length := by rw [← hK]; simp
  rw [hK]
  have e1 : IntKind.i64.wrap (1 + (K.length : Int)) = ((1 + ps.length : Nat) : Int) := by
    rw [show (1 + (K.length : Int)) = ((1 + ps.length : Nat) : Int) by rw [hlen]; omega, wrap_nat (by omega)]
  have e2 : IntKind.i64.wrap ((M : Int) + 1) = ((M + 1 : Nat) : Int) := by
    rw [show ((M : Int) + 1) = ((M + 1 : Nat) : Int) from rfl, wrap_nat (by omega)]
  have e3 : min (((1 + ps.length : Nat) : Int)) ((M + 1 : Nat) : Int) = (lofN M ps : Int) := by
    unfold lofN
    omega
  refine gives_enter Tryz.func21 rfl rfl ?_
  repeat' first
    | refine wk ?_
    | (refine goesL_b (by rfl) (by rfl) fun b hb => ?_; cases b <;> refine sm ?_)
  refine goesL_s (by rfl) (qok_min (a := ((1 + ps.length : Nat) : Int)) (b := ((M + 1 : Nat) : Int)) (by rw [← e1]; rfl) (by rw [← e2]; rfl) e3) ?_
  refine sm ?_
  repeat' first
    | refine wk ?_
    | (refine goesL_b (by rfl) (by rfl) fun b hb => ?_; cases b <;> refine sm ?_)
  exact ⟨rfl, _, rfl, rfl⟩
theorem lofN_le (M : Nat) (ps : List (Int × Int)) : lofN M ps ≤ M + 1 := by unfold lofN; omega
theorem lsN_le (M : Nat) : ∀ (lv : List (List (Int × Int))) (n : Nat), n ≤ 2 * M + 1 → lsN M n lv ≤ 2 * M + 1
  | [], n, h => h
  | l :: ls, n, h => by
    rw [lsN]
    split
    · exact lsN_le M ls _ (by have := lofN_le M l; omega)
    · exact h
theorem lsN_end (M : Nat) {n : Nat} {lv : List (List (Int × Int))} (h : ¬ n ≤ M) : lsN M n lv = n := by
  cases lv with
  | nil => rfl
  | cons x xs => rw [lsN, if_neg h]
theorem lsN_go (M : Nat) {n j : Nat} {lv : List (List (Int × Int))} {l : List (Int × Int)} (hl : lv[j]? = some l) (h : n ≤ M) : lsN M n (lv.drop j) = lsN M (n + lofN M l) (lv.drop (j + 1)) := by
  obtain ⟨hj, e⟩ := List.getElem?_eq_some_iff.1 hl
  rw [List.drop_eq_getElem_cons hj, e, lsN, if_pos h]
theorem levelsOf_tells (lv : List (List (Int × Int))) (M : Nat) (hn : lv.length ≤ 1048576) (hs : ∀ l ∈ lv, l.length ≤ 1048576) (hM : M ≤ 1048576) : Tells Tryz.prog (.func 102) [.vals 1 (lv.map eLv), eInt (M : Int)] [] (eInt (lsN M 0 lv : Int)) := by
  refine tells_raw (fun b hb => ?_) (.raw _) ?_
  · simp at hb; rcases hb with rfl | rfl
    · exact pure_lvs 1 lv
    · exact .raw _
  obtain ⟨K, hK⟩ : ∃ K, lv.map eLv = K := ⟨_, rfl⟩
  have hlen : K.length = lv.length := by rw [← hK]; simp
  have hKp : Pure (.vals 1 K) := hK ▸ pure_lvs 1 lv
  rw [hK]
  refine gives_enter Tryz.func102 rfl rfl ?_
  repeat' first
    | refine wk ?_
    | (refine goesL_b (by rfl) (by rfl) fun b hb => ?_; cases b <;> refine sm ?_)
  refine goes_keep [0, 1, 5, 6] ?_
  refine goes_loop (fun m f' h => ∃ (j n : Nat), j ≤ K.length ∧ m = K.length - j ∧ n ≤ 2 * M + 1 ∧ lsN M 0 lv = lsN M n (lv.drop j) ∧ f'.keep [0, 1, 5, 6] = ⟨⟨27, [(0, .vals 1 K), (1, eInt (M : Int)), (5, eInt (n : Int)), (6, eInt (j : Int))]⟩, [], none⟩ ∧ h = ⟨0, [], []⟩) ?_ K.length _ _ ⟨0, 0, Nat.zero_le _, rfl, by omega, rfl, rfl, rfl⟩
  rintro m f' h ⟨j, n, hj, rfl, hnM, hl, hkf, rfl⟩
  refine goes_keep [0, 1, 5, 6] ?_
  rw [hkf]
  refine goes_scope [0, 1, 5, 6] ?_
  repeat' first
    | refine wk ?_
    | (refine goesL_b (by rfl) (by rfl) fun b hb => ?_; cases b <;> refine sm ?_)
  · have hj' : j = K.length := by have := of_decide_eq_false hb; omega
    have hl2 : lsN M 0 lv = n := by rw [hl, hj', hlen, List.drop_length]; rfl
    rw [hl2]
    refine within_of (by repeat' first | exact True.intro | exact Of.raw _ | exact Of.emp | exact Of.ptr (has_nil (by rfl)) | exact Of.row (has_nil (by rfl)) | exact Of.yld (has_nil (by rfl)) | exact has_nil (by rfl) | assumption | exact Pure.of (by assumption) | exact Pure.of (pure_lvs _ _) | exact Pure.of (pure_tms _ _) | refine And.intro ?_ ?_ | exact ofC_pure (by assumption) | (refine Of.clo (fun _ ha => nomatch ha) (ofC_pure (by assumption))) | (refine Of.agg (OfC.all ?_)) | (refine Of.clo (fun _ ha => nomatch ha) (OfC.all ?_))) (by repeat' first | exact True.intro | refine And.intro ?_ ?_ | exact has_nil (by rfl)) (by first | exact True.intro | exact Of.raw _ | exact Of.ifc (Of.raw _)) (by repeat' first | exact True.intro | exact Of.raw _ | exact Of.emp | exact Of.ptr (has_nil (by rfl)) | exact Of.row (has_nil (by rfl)) | exact Of.yld (has_nil (by rfl)) | exact has_nil (by rfl) | assumption | exact Pure.of (by assumption) | exact Pure.of (pure_lvs _ _) | exact Pure.of (pure_tms _ _) | refine And.intro ?_ ?_ | exact ofC_pure (by assumption) | (refine Of.agg (OfC.all ?_)) | (refine Of.clo (fun _ ha => nomatch ha) (OfC.all ?_))) ?_
    refine sm ?_
    repeat' first
      | refine wk ?_
      | (refine goesL_b (by rfl) (by rfl) fun b hb => ?_; cases b <;> refine sm ?_)
    exact ⟨rfl, _, rfl, rfl⟩
  · have hn' : ¬ n ≤ M := by have := of_decide_eq_false hb; omega
    rw [hl, lsN_end M hn']
    refine within_of (by repeat' first | exact True.intro | exact Of.raw _ | exact Of.emp | exact Of.ptr (has_nil (by rfl)) | exact Of.row (has_nil (by rfl)) | exact Of.yld (has_nil (by rfl)) | exact has_nil (by rfl) | assumption | exact Pure.of (by assumption) | exact Pure.of (pure_lvs _ _) | exact Pure.of (pure_tms _ _) | refine And.intro ?_ ?_ | exact ofC_pure (by assumption) | (refine Of.clo (fun _ ha => nomatch ha) (ofC_pure (by assumption))) | (refine Of.agg (OfC.all ?_)) | (refine Of.clo (fun _ ha => nomatch ha) (OfC.all ?_))) (by repeat' first | exact True.intro | refine And.intro ?_ ?_ | exact has_nil (by rfl)) (by first | exact True.intro | exact Of.raw _ | exact Of.ifc (Of.raw _)) (by repeat' first | exact True.intro | exact Of.raw _ | exact Of.emp | exact Of.ptr (has_nil (by rfl)) | exact Of.row (has_nil (by rfl)) | exact Of.yld (has_nil (by rfl)) | exact has_nil (by rfl) | assumption | exact Pure.of (by assumption) | exact Pure.of (pure_lvs _ _) | exact Pure.of (pure_tms _ _) | refine And.intro ?_ ?_ | exact ofC_pure (by assumption) | (refine Of.agg (OfC.all ?_)) | (refine Of.clo (fun _ ha => nomatch ha) (OfC.all ?_))) ?_
    refine sm ?_
    repeat' first
      | refine wk ?_
      | (refine goesL_b (by rfl) (by rfl) fun b hb => ?_; cases b <;> refine sm ?_)
    exact ⟨rfl, _, rfl, rfl⟩
  · have hj' : j < K.length := by have := of_decide_eq_true ‹decide ((j : Int) < (K.length : Int)) = true›; omega
    have hn' : n ≤ M := by have := of_decide_eq_true hb; omega
    obtain ⟨u, hu⟩ : ∃ u, lv[j]? = some u := ⟨_, List.getElem?_eq_getElem (by omega)⟩
    have hKu : K[j]? = some (eLv u) := by rw [← hK, List.getElem?_map, hu]; rfl
    have hT := levelOf_tells u M (hs u (List.mem_of_getElem? hu)) hM
    rw [lsN_go M hu hn'] at hl
    have hlo := lofN_le M u
    generalize lofN M u = x at hT hl hlo
    unfold eLv at hKu hT
    refine goesL_index (n := j) (by rfl) (by rfl) (by rfl) (by rfl) (by rfl) (by rfl) (by rfl) hKu ?_
    refine sm ?_
    repeat' first
      | refine wk ?_
      | (refine goesL_b (by rfl) (by rfl) fun b hb => ?_; cases b <;> refine sm ?_)
    refine goesL_tells hT (by rfl) (by rfl) (by rfl) (by rfl) (by rfl) (by rfl) ?_
    refine sm ?_
    repeat' first
      | refine wk ?_
      | (refine goesL_b (by rfl) (by rfl) fun b hb => ?_; cases b <;> refine sm ?_)
    refine within_of (by repeat' first | exact True.intro | exact Of.raw _ | exact Of.emp | exact Of.ptr (has_nil (by rfl)) | exact Of.row (has_nil (by rfl)) | exact Of.yld (has_nil (by rfl)) | exact has_nil (by rfl) | assumption | exact Pure.of (by assumption) | exact Pure.of (pure_lvs _ _) | exact Pure.of (pure_tms _ _) | refine And.intro ?_ ?_ | exact ofC_pure (by assumption) | (refine Of.clo (fun _ ha => nomatch ha) (ofC_pure (by assumption))) | (refine Of.agg (OfC.all ?_)) | (refine Of.clo (fun _ ha => nomatch ha) (OfC.all ?_))) (by repeat' first | exact True.intro | refine And.intro ?_ ?_ | exact has_nil (by rfl)) (by first | exact True.intro | exact Of.raw _ | exact Of.ifc (Of.raw _)) (by repeat' first | exact True.intro | exact Of.raw _ | exact Of.emp | exact Of.ptr (has_nil (by rfl)) | exact Of.row (has_nil (by rfl)) | exact Of.yld (has_nil (by rfl)) | exact has_nil (by rfl) | assumption | exact Pure.of (by assumption) | exact Pure.of (pure_lvs _ _) | exact Pure.of (pure_tms _ _) | refine And.intro ?_ ?_ | exact ofC_pure (by assumption) | (refine Of.agg (OfC.all ?_)) | (refine Of.clo (fun _ ha => nomatch ha) (OfC.all ?_))) ?_
    have e1 : IntKind.i64.wrap ((n : Int) + (x : Int)) = ((n + x : Nat) : Int) := by rw [← Int.natCast_add, wrap_nat (by omega)]
    have e2 : IntKind.i64.wrap ((j : Int) + 1) = ((j + 1 : Nat) : Int) := by
      rw [show ((j : Int) + 1) = ((j + 1 : Nat) : Int) from rfl, wrap_nat (by omega)]
    refine ⟨K.length - (j + 1), by omega, j + 1, n + x, by omega, rfl, by omega, hl, ?_, rfl⟩
    rw [← e1, ← e2]
    rfl
theorem mem_size {ts : List Tm} {t : Tm} (h : t ∈ ts) : t.size ≤ Tm.sizeL ts := by
  obtain ⟨i, hi, e⟩ := List.mem_iff_getElem.1 h
  have hu : ts[i]? = some t := by rw [List.getElem?_eq_getElem hi, e]
  have h1 := Tm.sizeL_take ts i t hu
  have h2 := Tm.sizeL_le ts (i + 1)
  omega
theorem tofN_mk (M : Nat) (k n a : Int) (lv : List (List (Int × Int))) (kids : List Tm) : tofN M (.mk k n a lv kids) = 1 + lsN M 0 lv + tsofN M 0 kids := by rw [tofN]
theorem tsofN_end (M : Nat) {n : Nat} {ts : List Tm} (h : ¬ n ≤ M) : tsofN M n ts = n := by
  cases ts with
  | nil => rw [tsofN]
  | cons x xs => rw [tsofN, if_neg h]
theorem tsofN_go (M : Nat) {n j : Nat} {ts : List Tm} {t : Tm} (hl : ts[j]? = some t) (h : n ≤ M) : tsofN M n (ts.drop j) = tsofN M (n + tofN (M - n) t) (ts.drop (j + 1)) := by
  obtain ⟨hj, e⟩ := List.getElem?_eq_some_iff.1 hl
  rw [List.drop_eq_getElem_cons hj, e, tsofN, if_pos h]
theorem tsofN_le (M : Nat) : ∀ (ts : List Tm), (∀ t ∈ ts, ∀ K, K ≤ M → tofN K t ≤ (2 * M + 2) * t.size) → ∀ n, tsofN M n ts ≤ n + (2 * M + 2) * Tm.sizeL ts
  | [], _, n => by rw [tsofN]; omega
  | t :: ts, ih, n => by
    rw [tsofN, Tm.sizeL, Nat.mul_add]
    split
    · have h1 := tsofN_le M ts (fun u hu => ih u (.tail _ hu)) (n + tofN (M - n) t)
      have h2 := ih t (.head _) (M - n) (by omega)
      omega
    · omega
theorem tofN_le (t : Tm) : ∀ M N, M ≤ N → tofN M t ≤ (2 * N + 2) * t.size := by
  induction t using Tm.ind with
  | h k n a lv kids ih =>
  intro M N hMN
  rw [tofN_mk, Tm.size_mk, Nat.mul_add]
  have h1 := lsN_le M lv 0 (by omega)
  have h2 := tsofN_le M kids (fun t ht K hK => ih t ht K M hK) 0
  have h3 : (2 * M + 2) * Tm.sizeL kids ≤ (2 * N + 2) * Tm.sizeL kids := Nat.mul_le_mul_right _ (by omega)
  omega
theorem termsOf_row (ts : List Tm) (M : Nat) (hsz : Tm.sizeL ts ≤ 1048576) (hM : M ≤ 1048576) (ih : ∀ t ∈ ts, ∀ K : Nat, K ≤ 1048576 → Tells Tryz.prog (.func 61) [eTm t, eInt (K : Int)] [] (eInt (tofN K t : Int))) : Tells Tryz.prog (.func 20) [.vals 5 (ts.map eTm), eInt (M : Int)] [] (eInt (tsofN M 0 ts : Int)) := by
  refine tells_raw (fun b hb => ?_) (.raw _) ?_
  · simp at hb; rcases hb with rfl | rfl
    · exact pure_tms 5 ts
    · exact .raw _
  have hll := Tm.sizeL_len ts
  have hbnd : (2 * M + 2) * Tm.sizeL ts ≤ 2097154 * 1048576 := Nat.mul_le_mul (by omega) hsz
  obtain ⟨K, hK⟩ : ∃ K, ts.map eTm = K := ⟨_, rfl⟩
  have hlen : K.length = ts.length := by rw [← hK]; simp
  have hKp : Pure (.vals 5 K) := hK ▸ pure_tms 5 ts
  rw [hK]
  refine gives_enter Tryz.func20 rfl rfl ?_
  repeat' first
    | refine wk ?_
    | (refine goesL_b (by rfl) (by rfl) fun b hb => ?_; cases b <;> refine sm ?_)
  refine goes_keep [0, 1, 5, 6] ?_
  refine goes_loop (fun m f' h => ∃ (j n : Nat), j ≤ K.length ∧ m = K.length - j ∧ n ≤ (2 * M + 2) * Tm.sizeL (ts.take j) ∧ tsofN M 0 ts = tsofN M n (ts.drop j) ∧ f'.keep [0, 1, 5, 6] = ⟨⟨29, [(0, .vals 5 K), (1, eInt (M : Int)), (5, eInt (n : Int)), (6, eInt (j : Int))]⟩, [], none⟩ ∧ h = ⟨0, [], []⟩) ?_ K.length _ _ ⟨0, 0, Nat.zero_le _, rfl, Nat.zero_le _, rfl, rfl, rfl⟩
  rintro m f' h ⟨j, n, hj, rfl, hnM, hl, hkf, rfl⟩
  refine goes_keep [0, 1, 5, 6] ?_
  rw [hkf]
  refine goes_scope [0, 1, 5, 6] ?_
  repeat' first
    | refine wk ?_
    | (refine goesL_b (by rfl) (by rfl) fun b hb => ?_; cases b <;> refine sm ?_)
  · have hj' : j = K.length := by have := of_decide_eq_false hb; omega
    have hl2 : tsofN M 0 ts = n := by rw [hl, hj', hlen, List.drop_length, tsofN]
    rw [hl2]
    refine within_of (by repeat' first | exact True.intro | exact Of.raw _ | exact Of.emp | exact Of.ptr (has_nil (by rfl)) | exact Of.row (has_nil (by rfl)) | exact Of.yld (has_nil (by rfl)) | exact has_nil (by rfl) | assumption | exact Pure.of (by assumption) | exact Pure.of (pure_lvs _ _) | exact Pure.of (pure_tms _ _) | refine And.intro ?_ ?_ | exact ofC_pure (by assumption) | (refine Of.clo (fun _ ha => nomatch ha) (ofC_pure (by assumption))) | (refine Of.agg (OfC.all ?_)) | (refine Of.clo (fun _ ha => nomatch ha) (OfC.all ?_))) (by repeat' first | exact True.intro | refine And.intro ?_ ?_ | exact has_nil (by rfl)) (by first | exact True.intro | exact Of.raw _ | exact Of.ifc (Of.raw _)) (by repeat' first | exact True.intro | exact Of.raw _ | exact Of.emp | exact Of.ptr (has_nil (by rfl)) | exact Of.row (has_nil (by rfl)) | exact Of.yld (has_nil (by rfl)) | exact has_nil (by rfl) | assumption | exact Pure.of (by assumption) | exact Pure.of (pure_lvs _ _) | exact Pure.of (pure_tms _ _) | refine And.intro ?_ ?_ | exact ofC_pure (by assumption) | (refine Of.agg (OfC.all ?_)) | (refine Of.clo (fun _ ha => nomatch ha) (OfC.all ?_))) ?_
    refine sm ?_
    repeat' first
      | refine wk ?_
      | (refine goesL_b (by rfl) (by rfl) fun b hb => ?_; cases b <;> refine sm ?_)
    exact ⟨rfl, _, rfl, rfl⟩
  · have hn' : ¬ n ≤ M := by have := of_decide_eq_false hb; omega
    rw [hl, tsofN_end M hn']
    refine within_of (by repeat' first | exact True.intro | exact Of.raw _ | exact Of.emp | exact Of.ptr (has_nil (by rfl)) | exact Of.row (has_nil (by rfl)) | exact Of.yld (has_nil (by rfl)) | exact has_nil (by rfl) | assumption | exact Pure.of (by assumption) | exact Pure.of (pure_lvs _ _) | exact Pure.of (pure_tms _ _) | refine And.intro ?_ ?_ | exact ofC_pure (by assumption) | (refine Of.clo (fun _ ha => nomatch ha) (ofC_pure (by assumption))) | (refine Of.agg (OfC.all ?_)) | (refine Of.clo (fun _ ha => nomatch ha) (OfC.all ?_))) (by repeat' first | exact True.intro | refine And.intro ?_ ?_ | exact has_nil (by rfl)) (by first | exact True.intro | exact Of.raw _ | exact Of.ifc (Of.raw _)) (by repeat' first | exact True.intro | exact Of.raw _ | exact Of.emp | exact Of.ptr (has_nil (by rfl)) | exact Of.row (has_nil (by rfl)) | exact Of.yld (has_nil (by rfl)) | exact has_nil (by rfl) | assumption | exact Pure.of (by assumption) | exact Pure.of (pure_lvs _ _) | exact Pure.of (pure_tms _ _) | refine And.intro ?_ ?_ | exact ofC_pure (by assumption) | (refine Of.agg (OfC.all ?_)) | (refine Of.clo (fun _ ha => nomatch ha) (OfC.all ?_))) ?_
    refine sm ?_
    repeat' first
      | refine wk ?_
      | (refine goesL_b (by rfl) (by rfl) fun b hb => ?_; cases b <;> refine sm ?_)
    exact ⟨rfl, _, rfl, rfl⟩
  · have hj' : j < K.length := by have := of_decide_eq_true ‹decide ((j : Int) < (K.length : Int)) = true›; omega
    have hn' : n ≤ M := by have := of_decide_eq_true hb; omega
    obtain ⟨u, hu⟩ : ∃ u, ts[j]? = some u := ⟨_, List.getElem?_eq_getElem (by omega)⟩
    have hKu : K[j]? = some (eTm u) := by rw [← hK, List.getElem?_map, hu]; rfl
    have hT := ih u (List.mem_of_getElem? hu) (M - n) (by omega)
    rw [tsofN_go M hu hn'] at hl
    have hlo := tofN_le u (M - n) M (by omega)
    have h1 := Tm.sizeL_take ts j u hu
    have h2 := Tm.sizeL_le ts (j + 1)
    have h3 : (2 * M + 2) * Tm.sizeL (ts.take (j + 1)) = (2 * M + 2) * Tm.sizeL (ts.take j) + (2 * M + 2) * u.size := by rw [h1, Nat.mul_add]
    have h4 : (2 * M + 2) * Tm.sizeL (ts.take (j + 1)) ≤ (2 * M + 2) * Tm.sizeL ts := Nat.mul_le_mul_left _ h2
    generalize tofN (M - n) u = x at hT hl hlo
    have e0 : IntKind.i64.wrap ((M : Int) - (n : Int)) = ((M - n : Nat) : Int) := by
      rw [show ((M : Int) - (n : Int)) = ((M - n : Nat) : Int) by omega, wrap_nat (by omega)]
    rw [← e0] at hT
    obtain ⟨k1, n1, a1, lv1, kids1⟩ := u
    rw [eTm_mk] at hKu hT
    refine goesL_index (n := j) (by rfl) (by rfl) (by rfl) (by rfl) (by rfl) (by rfl) (by rfl) hKu ?_
    refine sm ?_
    repeat' first
      | refine wk ?_
      | (refine goesL_b (by rfl) (by rfl) fun b hb => ?_; cases b <;> refine sm ?_)
    refine goesL_tells hT (by rfl) (by rfl) (by rfl) (by rfl) (by rfl) (by rfl) ?_
    refine sm ?_
    repeat' first
      | refine wk ?_
      | (refine goesL_b (by rfl) (by rfl) fun b hb => ?_; cases b <;> refine sm ?_)
    refine within_of (by repeat' first | exact True.intro | exact Of.raw _ | exact Of.emp | exact Of.ptr (has_nil (by rfl)) | exact Of.row (has_nil (by rfl)) | exact Of.yld (has_nil (by rfl)) | exact has_nil (by rfl) | assumption | exact Pure.of (by assumption) | exact Pure.of (pure_lvs _ _) | exact Pure.of (pure_tms _ _) | refine And.intro ?_ ?_ | exact ofC_pure (by assumption) | (refine Of.clo (fun _ ha => nomatch ha) (ofC_pure (by assumption))) | (refine Of.agg (OfC.all ?_)) | (refine Of.clo (fun _ ha => nomatch ha) (OfC.all ?_))) (by repeat' first | exact True.intro | refine And.intro ?_ ?_ | exact has_nil (by rfl)) (by first | exact True.intro | exact Of.raw _ | exact Of.ifc (Of.raw _)) (by repeat' first | exact True.intro | exact Of.raw _ | exact Of.emp | exact Of.ptr (has_nil (by rfl)) | exact Of.row (has_nil (by rfl)) | exact Of.yld (has_nil (by rfl)) | exact has_nil (by rfl) | assumption | exact Pure.of (by assumption) | exact Pure.of (pure_lvs _ _) | exact Pure.of (pure_tms _ _) | refine And.intro ?_ ?_ | exact ofC_pure (by assumption) | (refine Of.agg (OfC.all ?_)) | (refine Of.clo (fun _ ha => nomatch ha) (OfC.all ?_))) ?_
    have e1 : IntKind.i64.wrap ((n : Int) + (x : Int)) = ((n + x : Nat) : Int) := by rw [← Int.natCast_add, wrap_nat (by omega)]
    have e2 : IntKind.i64.wrap ((j : Int) + 1) = ((j + 1 : Nat) : Int) := by
      rw [show ((j : Int) + 1) = ((j + 1 : Nat) : Int) from rfl, wrap_nat (by omega)]
    refine ⟨K.length - (j + 1), by omega, j + 1, n + x, by omega, rfl, by omega, hl, ?_, rfl⟩
    rw [← e1, ← e2]
    rfl
theorem termOf_tells (t : Tm) : t.size ≤ 1048576 → t.fit → ∀ M : Nat, M ≤ 1048576 → Tells Tryz.prog (.func 61) [eTm t, eInt (M : Int)] [] (eInt (tofN M t : Int)) := by
  induction t using Tm.ind with
  | h k n a lv kids ih =>
  intro hs hf M hM
  rw [Tm.size_mk] at hs
  rw [Tm.fit_mk] at hf
  have hL := levelsOf_tells lv M hf.2.1.1 (fun l hl => by have := hf.2.1.2 l hl; omega) hM
  have hK := termsOf_row kids M (by omega) hM fun t ht K hK => ih t ht (by
    have := mem_size ht
    omega) ((Tm.fitL_iff kids).1 hf.2.2.2 t ht) K hK
  have h1 := lsN_le M lv 0 (by omega)
  have h2 := tsofN_le M kids (fun t _ K hK => tofN_le t K M hK) 0
  have hbnd : (2 * M + 2) * Tm.sizeL kids ≤ 2097154 * 1048576 := Nat.mul_le_mul (by omega) (by omega)
  rw [tofN_mk]
  generalize lsN M 0 lv = x at hL h1 ⊢
  generalize tsofN M 0 kids = y at hK h2 ⊢
  have e1 : IntKind.i64.wrap (1 + (x : Int)) = ((1 + x : Nat) : Int) := by
    rw [show (1 + (x : Int)) = ((1 + x : Nat) : Int) by omega, wrap_nat (by omega)]
  have e2 : IntKind.i64.wrap (((1 + x : Nat) : Int) + (y : Int)) = ((1 + x + y : Nat) : Int) := by rw [← Int.natCast_add, wrap_nat (by omega)]
  refine tells_raw (fun b hb => ?_) (.raw _) ?_
  · simp at hb; rcases hb with rfl | rfl
    · exact pure_tm _
    · exact .raw _
  rw [eTm_mk]
  generalize List.map eLv lv = L at hL ⊢
  generalize List.map eTm kids = K at hK ⊢
  refine gives_enter Tryz.func61 rfl rfl ?_
  repeat' first
    | refine wk ?_
    | (refine goesL_b (by rfl) (by rfl) fun b hb => ?_; cases b <;> refine sm ?_)
  refine goes_draw 10 [] (by rfl) (by kernel_rfl) ?_
  refine sm ?_
  repeat' first
    | (refine goesD_q (y := .raw (.bool true)) (by first | decide | exact Nat.le_of_ble_eq_true rfl) (by rfl) (by rfl) ?_; refine sm ?_)
    | (refine goesD_q (y := .raw (.bool false)) (by first | decide | exact Nat.le_of_ble_eq_true rfl) (by rfl) (by rfl) ?_; refine sm ?_)
    | (refine goesD_b (by first | decide | exact Nat.le_of_ble_eq_true rfl) (by rfl) (by rfl) fun b hb => ?_; cases b <;> refine sm ?_)
    | (refine goesD_q (by first | decide | exact Nat.le_of_ble_eq_true rfl) (by rfl) (by rfl) ?_; refine sm ?_)
    | (refine goesD_s (by first | decide | exact Nat.le_of_ble_eq_true rfl) (by rfl) (qok_rop (by rfl)) ?_; refine sm ?_)
    | (refine goesD_off (by first | decide | exact Nat.le_of_ble_eq_true rfl) (by rfl) ?_; refine sm ?_)
    | (refine goesD_end (by rfl) ?_; refine sm ?_)
    | (refine goes_seq ?_)
  refine goesD_tells hL (by decide) (by rfl) (by rfl) (by rfl) (by rfl) (by rfl) (by rfl) (by rfl) ?_
  refine sm ?_
  repeat' first
    | (refine goesD_q (y := .raw (.bool true)) (by first | decide | exact Nat.le_of_ble_eq_true rfl) (by rfl) (by rfl) ?_; refine sm ?_)
    | (refine goesD_q (y := .raw (.bool false)) (by first | decide | exact Nat.le_of_ble_eq_true rfl) (by rfl) (by rfl) ?_; refine sm ?_)
    | (refine goesD_b (by first | decide | exact Nat.le_of_ble_eq_true rfl) (by rfl) (by rfl) fun b hb => ?_; cases b <;> refine sm ?_)
    | (refine goesD_q (by first | decide | exact Nat.le_of_ble_eq_true rfl) (by rfl) (by rfl) ?_; refine sm ?_)
    | (refine goesD_s (by first | decide | exact Nat.le_of_ble_eq_true rfl) (by rfl) (qok_rop (by rfl)) ?_; refine sm ?_)
    | (refine goesD_off (by first | decide | exact Nat.le_of_ble_eq_true rfl) (by rfl) ?_; refine sm ?_)
    | (refine goesD_end (by rfl) ?_; refine sm ?_)
    | (refine goes_seq ?_)
  refine goesD_tells hK (by decide) (by rfl) (by rfl) (by rfl) (by rfl) (by rfl) (by rfl) (by rfl) ?_
  refine sm ?_
  repeat' first
    | (refine goesD_q (y := .raw (.bool true)) (by first | decide | exact Nat.le_of_ble_eq_true rfl) (by rfl) (by rfl) ?_; refine sm ?_)
    | (refine goesD_q (y := .raw (.bool false)) (by first | decide | exact Nat.le_of_ble_eq_true rfl) (by rfl) (by rfl) ?_; refine sm ?_)
    | (refine goesD_b (by first | decide | exact Nat.le_of_ble_eq_true rfl) (by rfl) (by rfl) fun b hb => ?_; cases b <;> refine sm ?_)
    | (refine goesD_q (by first | decide | exact Nat.le_of_ble_eq_true rfl) (by rfl) (by rfl) ?_; refine sm ?_)
    | (refine goesD_s (by first | decide | exact Nat.le_of_ble_eq_true rfl) (by rfl) (qok_rop (by rfl)) ?_; refine sm ?_)
    | (refine goesD_off (by first | decide | exact Nat.le_of_ble_eq_true rfl) (by rfl) ?_; refine sm ?_)
    | (refine goesD_end (by rfl) ?_; refine sm ?_)
    | (refine goes_seq ?_)
  repeat' first
    | refine wk ?_
    | (refine goesL_b (by rfl) (by rfl) fun b hb => ?_; cases b <;> refine sm ?_)
  exact ⟨rfl, _, rfl, by rw [← e2, ← e1]⟩
theorem termsOf_tells (ts : List Tm) (M : Nat) (hsz : Tm.sizeL ts ≤ 1048576) (hf : Tm.fitL ts) (hM : M ≤ 1048576) : Tells Tryz.prog (.func 20) [.vals 5 (ts.map eTm), eInt (M : Int)] [] (eInt (tsofN M 0 ts : Int)) :=
  termsOf_row ts M hsz hM fun t ht K hK => termOf_tells t (by have := mem_size ht; omega) ((Tm.fitL_iff ts).1 hf t ht) K hK
end Go.Proofs.YtaoglkkdhdfioaaGreatDoor
