/- What the functions of a telescope do to one another: the mathematics. -/
import Derived.Test.YtaoglkkdhdfioaaGreatDoorEvWk
import Derived.Test.YtaoglkkdhdfioaaGreatDoorTeLifts
import Derived.Test.YtaoglkkdhdfioaaGreatDoorTeOf
import Derived.Test.YtaoglkkdhdfioaaGreatDoorTeSame
import Derived.Test.YtaoglkkdhdfioaaGreatDoorTeSpine
namespace Go.Proofs.YtaoglkkdhdfioaaGreatDoor
open Go Go.Proofs
set_option maxRecDepth 100000
theorem openT_few (b : Tm) : ∀ (row : List Tm) (k : Nat), k ≤ row.length → openT k (aboveT 4 b row) = some (row.take k, aboveT 4 b (row.drop k))
  | row, 0, _ => by rw [openT, List.take_zero, List.drop_zero]
  | [], k + 1, h => by simp at h
  | t :: ts, k + 1, h => by
    have ih := openT_few b ts k (by simpa using h)
    show openT (k + 1) (.mk 4 0 0 [] [t, aboveT 4 b ts]) = _
    rw [openT_go, ih]
    rfl
theorem openT_all (b : Tm) (row : List Tm) : openT row.length (aboveT 4 b row) = some (row, b) := by
  have h := openT_few b row row.length (Nat.le_refl _)
  rw [List.take_length, List.drop_length] at h
  exact h
theorem openT_many0 : ∀ (t : Tm), openT (cntT t + 1) t = none := by
  intro t
  induction t using Tm.ind with
  | h k n a lv kids ih =>
    cases e : (Tm.mk k n a lv kids).two 4 with
    | false => rw [cntT_no e, openT_no e]
    | true =>
      obtain ⟨rfl, x, y, rfl⟩ := Tm.two_iff.1 e
      rw [cntT_two, show 1 + cntT y + 1 = (cntT y + 1) + 1 by omega, openT_go, ih y (by simp)]
      rfl
theorem openT_many (b : Tm) : ∀ row : List Tm, openT (row.length + cntT b + 1) (aboveT 4 b row) = none
  | [] => by
    rw [show ([] : List Tm).length + cntT b + 1 = cntT b + 1 by simp]
    exact openT_many0 b
  | t :: ts => by
    have ih := openT_many b ts
    show openT _ (.mk 4 0 0 [] [t, aboveT 4 b ts]) = none
    rw [show (t :: ts).length + cntT b + 1 = (ts.length + cntT b + 1) + 1 by simp; omega, openT_go, ih]
    rfl
theorem cntT_above (b : Tm) : ∀ row : List Tm, cntT (aboveT 4 b row) = row.length + cntT b
  | [] => by simp [aboveT]
  | t :: ts => by
    have ih := cntT_above b ts
    show cntT (.mk 4 0 0 [] [t, aboveT 4 b ts]) = _
    rw [cntT_two, ih, List.length_cons]
    omega
theorem spine_apps : ∀ (l : List Tm) (f : Tm), headT (appsT f l) = headT f ∧ argsT (appsT f l) = argsT f ++ l
  | [], f => ⟨rfl, by simp [appsT]⟩
  | x :: l, f => by
    obtain ⟨h1, h2⟩ := spine_apps l (.mk 6 0 0 [] [f, x])
    refine ⟨h1.trans headT_app, ?_⟩
    rw [show appsT f (x :: l) = appsT (.mk 6 0 0 [] [f, x]) l from rfl, h2, argsT_app]
    simp
theorem apps_size (l : List Tm) : ∀ f : Tm, (appsT f l).size = f.size + Tm.sizeL l + l.length := by
  induction l with
  | nil => intro f; simp [appsT, Tm.sizeL]
  | cons x l ih =>
    intro f
    rw [show appsT f (x :: l) = appsT (.mk 6 0 0 [] [f, x]) l from rfl, ih, Tm.size_mk, Tm.sizeL, Tm.sizeL, Tm.sizeL, Tm.sizeL, List.length_cons]
    omega
theorem apps_fit (l : List Tm) : ∀ f : Tm, f.fit → Tm.fitL l → (appsT f l).fit := by
  induction l with
  | nil => intro f hf _; exact hf
  | cons x l ih =>
    intro f hf hl
    rw [Tm.fitL] at hl
    refine ih _ ((Tm.fit_mk _ _ _ _ _).2 ⟨rng_zero, slim_nil, by simp, ?_⟩) hl.2
    rw [Tm.fitL, Tm.fitL, Tm.fitL]
    exact ⟨hf, hl.1, trivial⟩
theorem sizeL_append (a b : List Tm) : Tm.sizeL (a ++ b) = Tm.sizeL a + Tm.sizeL b := by
  induction a with
  | nil => simp [Tm.sizeL]
  | cons x a ih => rw [List.cons_append, Tm.sizeL, ih, Tm.sizeL]; omega
theorem countL_append (a b : List Tm) : Tm.countL (a ++ b) = Tm.countL a + Tm.countL b := by
  induction a with
  | nil => simp [Tm.countL]
  | cons x a ih => rw [List.cons_append, Tm.countL, ih, Tm.countL]; omega
theorem fitL_append {a b : List Tm} : Tm.fitL (a ++ b) ↔ Tm.fitL a ∧ Tm.fitL b := by
  rw [Tm.fitL_iff, Tm.fitL_iff, Tm.fitL_iff]
  constructor
  · exact fun h => ⟨fun t ht => h t (List.mem_append.2 (.inl ht)), fun t ht => h t (List.mem_append.2 (.inr ht))⟩
  · rintro ⟨h1, h2⟩ t ht
    rcases List.mem_append.1 ht with h | h
    · exact h1 t h
    · exact h2 t h
/-- the spine's parts are no more than the term -/
theorem spine_parts (t : Tm) : (headT t).size + Tm.sizeL (argsT t) ≤ t.size ∧ (headT t).count + Tm.countL (argsT t) ≤ t.count ∧ (t.fit → (headT t).fit ∧ Tm.fitL (argsT t)) := by
  induction t using Tm.ind with
  | h k n a lv kids ih =>
    cases e : (Tm.mk k n a lv kids).two 6 with
    | false =>
      rw [headT_no e, argsT_no e]
      exact ⟨by simp [Tm.sizeL], by simp [Tm.countL], fun h => ⟨h, by rw [Tm.fitL]; trivial⟩⟩
    | true =>
      obtain ⟨rfl, x, y, rfl⟩ := Tm.two_iff.1 e
      obtain ⟨h1, h2, h3⟩ := ih x (by simp)
      rw [headT_app, argsT_app, sizeL_append, countL_append]
      refine ⟨?_, ?_, fun h => ?_⟩
      · rw [Tm.size_mk, Tm.sizeL, Tm.sizeL, Tm.sizeL, Tm.sizeL, Tm.sizeL]; omega
      · rw [Tm.count_mk, Tm.countL, Tm.countL, Tm.countL, Tm.countL, Tm.countL]; omega
      · rw [Tm.fit_mk, Tm.fitL, Tm.fitL, Tm.fitL] at h
        obtain ⟨h4, h5⟩ := h3 h.2.2.2.1
        refine ⟨h4, fitL_append.2 ⟨h5, ?_⟩⟩
        rw [Tm.fitL, Tm.fitL]
        exact ⟨h.2.2.2.2.1, trivial⟩
theorem above_count (k : Int) (b : Tm) : ∀ row : List Tm, (aboveT k b row).count = b.count + Tm.countL row + row.length
  | [] => rfl
  | t :: ts => by
    have ih := above_count k b ts
    show (Tm.mk k 0 0 [] [t, aboveT k b ts]).count = _
    rw [Tm.count_mk, Tm.countL, Tm.countL, Tm.countL, Tm.countL, ih, List.length_cons, lensSum]
    omega
/-- what is not great -/
theorem lsN_small (M : Nat) : ∀ (lv : List (List (Int × Int))) (n : Nat), lsN M n lv ≤ M → n + lensSum lv ≤ lsN M n lv
  | [], n, _ => by simp [lsN, lensSum]
  | l :: ls, n, h => by
    rw [lsN] at h ⊢
    by_cases hn : n ≤ M
    · rw [if_pos hn] at h ⊢
      have ih := lsN_small M ls _ h
      rw [lensSum]
      have hlo : lofN M l ≤ M := by omega
      have hl : lofN M l = 1 + l.length := by unfold lofN at hlo ⊢; omega
      omega
    · rw [if_neg hn] at h; omega
theorem tsofN_small (M : Nat) : ∀ (ts : List Tm), (∀ t ∈ ts, ∀ K, tofN K t ≤ K → t.count ≤ tofN K t) → ∀ n, tsofN M n ts ≤ M → n + Tm.countL ts ≤ tsofN M n ts
  | [], _, n, _ => by rw [tsofN, Tm.countL]; omega
  | t :: ts, ht, n, h => by
    rw [tsofN] at h ⊢
    by_cases hn : n ≤ M
    · rw [if_pos hn] at h ⊢
      have ih := tsofN_small M ts (fun u hu => ht u (.tail _ hu)) _ h
      rw [Tm.countL]
      have h2 := ht t (.head _) (M - n) (by omega)
      omega
    · rw [if_neg hn] at h; omega
theorem tofN_small (t : Tm) : ∀ K, tofN K t ≤ K → t.count ≤ tofN K t := by
  induction t using Tm.ind with
  | h k n a lv kids ih =>
    intro K h
    rw [tofN_mk] at h ⊢
    have h1 := lsN_small K lv 0 (by omega)
    have h2 := tsofN_small K kids ih 0 (by omega)
    rw [Tm.count_mk]
    omega
theorem not_great {ts : List Tm} {M : Nat} (h : tsofN M 0 ts ≤ M) : Tm.countL ts ≤ M := by
  have := tsofN_small M ts (fun t _ K hK => tofN_small t K hK) 0 h
  omega
mutual
theorem size_count : ∀ t : Tm, t.size ≤ t.count
  | .mk k n a lv kids => by
    have := sizeL_countL kids
    rw [Tm.size_mk, Tm.count_mk]
    omega
theorem sizeL_countL : ∀ ts : List Tm, Tm.sizeL ts ≤ Tm.countL ts
  | [] => by simp [Tm.sizeL, Tm.countL]
  | t :: ts => by
    have h1 := size_count t
    have h2 := sizeL_countL ts
    rw [Tm.sizeL, Tm.countL]
    omega
end
theorem sameL_refl {α : Type} {eq : α → α → Bool} : ∀ {l : List α}, (∀ x ∈ l, eq x x = true) → sameL eq l l = true
  | [], _ => rfl
  | x :: l, h => by
    rw [sameL, h x (.head _), sameL_refl fun y hy => h y (.tail _ hy)]
    rfl
theorem same_refl (t : Tm) : t.same t = true := by
  induction t using Tm.ind with
  | h k n a lv kids ih =>
    rw [Tm.same_mk, sameL_refl (l := kids) ih, sameL_refl (l := lv) fun l _ => sameL_refl fun p _ => by simp]
    simp
theorem rows_refl (l : List Tm) : sameL Tm.same l l = true := sameL_refl fun t _ => same_refl t
theorem wrap_in (n : Int) : Rng (IntKind.i64.wrap n) := by
  unfold Rng
  simp [IntKind.wrap, IntKind.bits, IntKind.signed]
  omega
mutual
theorem lift_bounds (m f : Int) : ∀ (t : Tm) (d : Nat), (t.walk (liftT m f) d).size = t.size ∧ (t.walk (liftT m f) d).count = t.count ∧ (t.fit → (t.walk (liftT m f) d).fit)
  | .mk k n a lv kids, d => by
    obtain ⟨h1, h2, h3⟩ := lift_boundsL m f kids d k 0
    rw [Tm.walk_go (tr := liftT m f) rfl, Tm.size_mk, Tm.size_mk, Tm.count_mk, Tm.count_mk, Tm.fit_mk, Tm.fit_mk, h1, h2, Tm.walkL_length]
    refine ⟨rfl, rfl, fun ⟨g1, g2, g3, g4⟩ => ⟨?_, g2, g3, h3 g4⟩⟩
    unfold liftN
    split
    · exact wrap_in _
    · exact g1
theorem lift_boundsL (m f : Int) : ∀ (ts : List Tm) (d : Nat) (k : Int) (i : Nat), Tm.sizeL (Tm.walkL (liftT m f) d k i ts) = Tm.sizeL ts ∧ Tm.countL (Tm.walkL (liftT m f) d k i ts) = Tm.countL ts ∧ (Tm.fitL ts → Tm.fitL (Tm.walkL (liftT m f) d k i ts))
  | [], d, k, i => by rw [Tm.walkL]; exact ⟨rfl, rfl, id⟩
  | t :: ts, d, k, i => by
    obtain ⟨h1, h2, h3⟩ := lift_bounds m f t (d + under k i)
    obtain ⟨g1, g2, g3⟩ := lift_boundsL m f ts d k (i + 1)
    rw [Tm.walkL, Tm.sizeL, Tm.sizeL, Tm.countL, Tm.countL, Tm.fitL, Tm.fitL, h1, h2, g1, g2]
    exact ⟨rfl, rfl, fun ⟨a, b⟩ => ⟨h3 a, g3 b⟩⟩
end
theorem getD_mem {l : List Tm} {i : Nat} {z : Tm} (h : i < l.length) : l.getD i z ∈ l := by
  rw [List.getD_eq_getElem?_getD, List.getElem?_eq_getElem h]
  exact List.getElem_mem h
mutual
theorem put_bounds (by' : List Tm) (S C : Nat) (hS : 1 ≤ S) (hC : 1 ≤ C) (hb : ∀ b ∈ by', b.fit ∧ b.size ≤ S ∧ b.count ≤ C) (hn : by'.length ≤ 1048576) : ∀ (t : Tm) (d : Nat), (t.walk (putT by') d).size ≤ S * t.size ∧ (t.walk (putT by') d).count ≤ C * t.count ∧ (t.fit → (t.walk (putT by') d).fit)
  | .mk k n a lv kids, d => by
    obtain ⟨h1, h2, h3⟩ := put_boundsL by' S C hS hC hb hn kids d k 0
    have hgo : ∀ n' : Int, (Rng n → Rng n') → putT by' d k n lv = .go n' lv → ((Tm.mk k n a lv kids).walk (putT by') d).size ≤ S * (Tm.mk k n a lv kids).size ∧ ((Tm.mk k n a lv kids).walk (putT by') d).count ≤ C * (Tm.mk k n a lv kids).count ∧ ((Tm.mk k n a lv kids).fit → ((Tm.mk k n a lv kids).walk (putT by') d).fit) := fun n' hr e => by
      rw [Tm.walk_go e, Tm.size_mk, Tm.size_mk, Tm.count_mk, Tm.count_mk, Tm.fit_mk, Tm.fit_mk, Tm.walkL_length, Nat.mul_add, Nat.mul_add, Nat.mul_add]
      have hl : lensSum lv ≤ C * lensSum lv := Nat.le_mul_of_pos_left _ hC
      exact ⟨by omega, by omega, fun ⟨g1, g2, g3, g4⟩ => ⟨hr g1, g2, g3, h3 g4⟩⟩
    by_cases ho : outer d k n 0 = true
    · by_cases hl : n - d < by'.length
      · have e : putT by' d k n lv = .done ((by'.getD (by'.length - 1 - (n - d).toNat) (.mk 0 0 0 [] [])).walk (liftT d 0) 0) := by
          unfold putT
          rw [if_pos ho, if_pos hl]
        have hnd : 0 ≤ n - d := by
          unfold outer at ho
          have := of_decide_eq_true ho
          omega
        obtain ⟨b1, b2, b3⟩ := hb _ (getD_mem (l := by') (i := by'.length - 1 - (n - d).toNat) (z := .mk 0 0 0 [] []) (by omega))
        obtain ⟨l1, l2, l3⟩ := lift_bounds (d : Int) 0 (by'.getD (by'.length - 1 - (n - d).toNat) (.mk 0 0 0 [] [])) 0
        rw [Tm.walk_done e, l1, l2]
        refine ⟨?_, ?_, fun _ => l3 b1⟩
        · rw [Tm.size_mk, Nat.mul_add]; omega
        · rw [Tm.count_mk, Nat.mul_add, Nat.mul_add]; omega
      · refine hgo (n - by'.length) (fun hr => ?_) (by unfold putT; rw [if_pos ho, if_neg hl])
        unfold outer at ho
        have := of_decide_eq_true ho
        unfold Rng at hr ⊢
        omega
    · exact hgo n id (by unfold putT; rw [if_neg ho])
theorem put_boundsL (by' : List Tm) (S C : Nat) (hS : 1 ≤ S) (hC : 1 ≤ C) (hb : ∀ b ∈ by', b.fit ∧ b.size ≤ S ∧ b.count ≤ C) (hn : by'.length ≤ 1048576) : ∀ (ts : List Tm) (d : Nat) (k : Int) (i : Nat), Tm.sizeL (Tm.walkL (putT by') d k i ts) ≤ S * Tm.sizeL ts ∧ Tm.countL (Tm.walkL (putT by') d k i ts) ≤ C * Tm.countL ts ∧ (Tm.fitL ts → Tm.fitL (Tm.walkL (putT by') d k i ts))
  | [], d, k, i => by rw [Tm.walkL]; exact ⟨Nat.zero_le _, Nat.zero_le _, id⟩
  | t :: ts, d, k, i => by
    obtain ⟨h1, h2, h3⟩ := put_bounds by' S C hS hC hb hn t (d + under k i)
    obtain ⟨g1, g2, g3⟩ := put_boundsL by' S C hS hC hb hn ts d k (i + 1)
    rw [Tm.walkL, Tm.sizeL, Tm.sizeL, Tm.countL, Tm.countL, Tm.fitL, Tm.fitL, Nat.mul_add, Nat.mul_add]
    exact ⟨by omega, by omega, fun ⟨a, b⟩ => ⟨h3 a, g3 b⟩⟩
end
/-- a row lifted is its binders lifted, and opened -/
theorem lifts_open (m : Int) (b : Tm) (row : List Tm) (hn : row.length ≤ 1048576) : openT row.length ((aboveT 4 b row).walk (liftT m 0) 0) = some (liftsT m 0 row, b.walk (liftT m 0) row.length) := by
  have hw := aboveT_walk (tr := liftT m 0) (lift_four m 0) b row 0
  rw [hw, Nat.zero_add]
  have e : walksAt (liftT m 0) 0 row = liftsT m 0 row := by
    apply List.ext_getElem?
    intro i
    rw [walksAt_get]
    unfold liftsT
    rw [List.getElem?_mapIdx]
    cases hi : row[i]? with
    | none => rfl
    | some t =>
      have hlt : i < row.length := (List.getElem?_eq_some_iff.1 hi).1
      have hw2 : IntKind.i64.wrap (0 + (i : Int)) = (i : Int) := by rw [Int.zero_add, wrap_nat (by omega)]
      simp only [Option.map_some]
      rw [hw2, lift_from]
  have h := openT_all (b.walk (liftT m 0) row.length) (liftsT m 0 row)
  have hl : (liftsT m 0 row).length = row.length := by unfold liftsT; simp
  rw [hl] at h
  rw [e]
  exact h
/-- whatever stands behind the binders, the row put is the same -/
theorem puts_open (by' : List Tm) (b : Tm) (row : List Tm) : openT row.length ((aboveT 4 b row).walk (putT by') 0) = some (walksAt (putT by') 0 row, b.walk (putT by') row.length) := by
  have hw := aboveT_walk (tr := putT by') (put_four by') b row 0
  rw [hw, Nat.zero_add]
  have h := openT_all (b.walk (putT by') row.length) (walksAt (putT by') 0 row)
  rw [walksAt_length] at h
  exact h
theorem apps_count (l : List Tm) : ∀ f : Tm, (appsT f l).count = f.count + Tm.countL l + l.length := by
  induction l with
  | nil => intro f; simp [appsT, Tm.countL]
  | cons x l ih =>
    intro f
    rw [show appsT f (x :: l) = appsT (.mk 6 0 0 [] [f, x]) l from rfl, ih, Tm.count_mk, Tm.countL, Tm.countL, Tm.countL, Tm.countL, List.length_cons, lensSum]
    omega
theorem walksAt_mem {tr : Turn} {d : Nat} {ts : List Tm} {u : Tm} (h : u ∈ walksAt tr d ts) : ∃ t ∈ ts, ∃ j, u = t.walk tr j := by
  obtain ⟨i, hi⟩ := List.getElem?_of_mem h
  rw [walksAt_get] at hi
  cases e : ts[i]? with
  | none => rw [e] at hi; simp at hi
  | some t =>
    rw [e] at hi
    simp at hi
    exact ⟨t, List.mem_of_getElem? e, d + i, hi.symm⟩
end Go.Proofs.YtaoglkkdhdfioaaGreatDoor
