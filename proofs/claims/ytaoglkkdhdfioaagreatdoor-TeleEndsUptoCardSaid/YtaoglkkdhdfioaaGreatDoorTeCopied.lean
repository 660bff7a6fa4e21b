/- Going through a term and copying it, in plain words: what a turn makes of each node; lifting and putting; that they meet. -/
/- term's known, Binds, below, means. -/
/- term.copied: a level of its own memory. -/
import Derived.Test.YtaoglkkdhdfioaaGreatDoorEvWk
import Derived.Test.YtaoglkkdhdfioaaGreatDoorEvX
import Derived.KernelRfl
import Derived.Test.YtaoglkkdhdfioaaGreatDoorProg
namespace Go.Proofs.YtaoglkkdhdfioaaGreatDoor
open Go
/-- does a kid of this number stand below a binder? -/
def binds (k : Int) (i : Nat) : Bool := decide (1 ≤ k) && decide (k ≤ 24) && decide ((kindRow k.toNat).2.2.2.2 = (i : Int) + 1)
def under (k : Int) (i : Nat) : Nat := if binds k i then 1 else 0

/-- a number that a machine's word holds -/
def Rng (n : Int) : Prop := -9223372036854775808 ≤ n ∧ n ≤ 9223372036854775807
/-- levels, not too many, none of too many parts -/
def SlimL (ls : List (List (Int × Int))) : Prop := ls.length ≤ 1048576 ∧ ∀ l ∈ ls, l.length ≤ 1000000
mutual
/-- a term of words, no list of which is too long -/
def Tm.fit : Tm → Prop
  | .mk _ n _ lv kids => Rng n ∧ SlimL lv ∧ kids.length ≤ 1048576 ∧ Tm.fitL kids
def Tm.fitL : List Tm → Prop
  | [] => True
  | t :: ts => t.fit ∧ Tm.fitL ts
end
theorem Tm.fit_mk (k n a : Int) (lv : List (List (Int × Int))) (kids : List Tm) : (Tm.mk k n a lv kids).fit ↔ Rng n ∧ SlimL lv ∧ kids.length ≤ 1048576 ∧ Tm.fitL kids := by rw [Tm.fit]
theorem Tm.fitL_iff : ∀ ts : List Tm, Tm.fitL ts ↔ ∀ t ∈ ts, t.fit
  | [] => by simp [Tm.fitL]
  | t :: ts => by
    have := Tm.fitL_iff ts
    simp [Tm.fitL, this]
/-- what a turn makes of a node: the node with another number and other levels, to go on from; or another term, and that is all -/
inductive Turned where
  | go (n : Int) (lv : List (List (Int × Int)))
  | done (t : Tm)
/-- a turn: by the depth, and a node's kind, number, levels -/
abbrev Turn := Nat → Int → Int → List (List (Int × Int)) → Turned
mutual
/-- what a term becomes -/
def Tm.walk (tr : Turn) (d : Nat) : Tm → Tm
  | .mk k n a lv kids => match tr d k n lv with
    | .go n' lv' => .mk k n' a lv' (Tm.walkL tr d k 0 kids)
    | .done u => u
def Tm.walkL (tr : Turn) (d : Nat) (k : Int) (i : Nat) : List Tm → List Tm
  | [] => []
  | t :: ts => t.walk tr (d + under k i) :: Tm.walkL tr d k (i + 1) ts
end
theorem Tm.walk_go {tr : Turn} {d : Nat} {k n a n' : Int} {lv lv' : List (List (Int × Int))} {kids : List Tm} (h : tr d k n lv = .go n' lv') : (Tm.mk k n a lv kids).walk tr d = .mk k n' a lv' (Tm.walkL tr d k 0 kids) := by
  rw [Tm.walk, h]
theorem Tm.walk_done {tr : Turn} {d : Nat} {k n a : Int} {lv : List (List (Int × Int))} {kids : List Tm} {u : Tm} (h : tr d k n lv = .done u) : (Tm.mk k n a lv kids).walk tr d = u := by
  rw [Tm.walk, h]
theorem Tm.walkL_length (tr : Turn) (d : Nat) (k : Int) : ∀ (ts : List Tm) (i : Nat), (Tm.walkL tr d k i ts).length = ts.length
  | [], i => by simp [Tm.walkL]
  | t :: ts, i => by simp [Tm.walkL, Tm.walkL_length tr d k ts]
theorem Tm.walkL_get (tr : Turn) (d : Nat) (k : Int) : ∀ (ts : List Tm) (i j : Nat), (Tm.walkL tr d k i ts)[j]? = ts[j]?.map (fun t => t.walk tr (d + under k (i + j)))
  | [], i, j => by simp [Tm.walkL]
  | t :: ts, i, 0 => by simp [Tm.walkL]
  | t :: ts, i, j + 1 => by
    have := Tm.walkL_get tr d k ts (i + 1) j
    simp only [Tm.walkL, List.getElem?_cons_succ, this]
    rw [show i + 1 + j = i + (j + 1) by omega]
theorem Tm.walkL_mem {tr : Turn} {d : Nat} {k : Int} {i : Nat} {ts : List Tm} {u : Tm} (h : u ∈ Tm.walkL tr d k i ts) : ∃ t ∈ ts, ∃ j, u = t.walk tr (d + under k j) := by
  obtain ⟨j, hj⟩ := List.getElem?_of_mem h
  rw [Tm.walkL_get] at hj
  cases e : ts[j]? with
  | none => rw [e] at hj; simp at hj
  | some t =>
    rw [e] at hj
    simp at hj
    exact ⟨t, List.mem_of_getElem? e, i + j, hj.symm⟩
/-- walks one behind the other, kid by kid -/
theorem Tm.walkL_two {tr tr' tr'' : Turn} {d d' d'' : Nat} {k : Int} : ∀ {ts : List Tm} {i : Nat}, (∀ t ∈ ts, ∀ u, (t.walk tr (d + u)).walk tr' (d' + u) = t.walk tr'' (d'' + u)) → Tm.walkL tr' d' k i (Tm.walkL tr d k i ts) = Tm.walkL tr'' d'' k i ts
  | [], i, h => by simp [Tm.walkL]
  | t :: ts, i, h => by
    simp only [Tm.walkL]
    rw [h t (by simp), Tm.walkL_two fun s hs => h s (by simp [hs])]
theorem Tm.walkL_same {tr tr' : Turn} {d d' : Nat} {k : Int} : ∀ {ts : List Tm} {i : Nat}, (∀ t ∈ ts, ∀ u, t.walk tr (d + u) = t.walk tr' (d' + u)) → Tm.walkL tr d k i ts = Tm.walkL tr' d' k i ts
  | [], i, h => by simp [Tm.walkL]
  | t :: ts, i, h => by
    simp only [Tm.walkL]
    rw [h t (by simp), Tm.walkL_same fun s hs => h s (by simp [hs])]
theorem Tm.walkL_id {tr : Turn} {d : Nat} {k : Int} : ∀ {ts : List Tm} {i : Nat}, (∀ t ∈ ts, ∀ u, t.walk tr (d + u) = t) → Tm.walkL tr d k i ts = ts
  | [], i, h => by simp [Tm.walkL]
  | t :: ts, i, h => by
    simp only [Tm.walkL]
    rw [h t (by simp), Tm.walkL_id fun s hs => h s (by simp [hs])]

/-- is a number at this depth that of an outer variable from some on? -/
def outer (d : Nat) (k n from' : Int) : Bool := decide (k = 1 ∧ (d : Int) ≤ n ∧ from' ≤ n - d)
/-- what lifting makes of a number, as the machine adds -/
def liftN (d : Nat) (k n from' m : Int) : Int := if outer d k n from' then IntKind.i64.wrap (n + m) else n
/-- lifting, as the machine adds -/
def liftT (m from' : Int) : Turn := fun d k n lv => .go (liftN d k n from' m) lv
/-- putting, as the machine adds -/
def putT (by' : List Tm) : Turn := fun d k n lv =>
  if outer d k n 0 then
    if n - d < by'.length then .done ((by'.getD (by'.length - 1 - (n - d).toNat) (.mk 0 0 0 [] [])).walk (liftT d 0) 0) else .go (n - by'.length) lv
  else .go n lv

/-- laid above a term -/
def aboveT (k : Int) (b : Tm) (ts : List Tm) : Tm := ts.foldr (fun t acc => .mk k 0 0 [] [t, acc]) b
/-- is a node of such a kind, with two kids? -/
def Tm.two (k : Int) : Tm → Bool
  | .mk k' _ _ _ kids => decide (k' = k) && decide (kids.length = 2)
theorem Tm.two_iff {k k' n a : Int} {lv : List (List (Int × Int))} {kids : List Tm} : (Tm.mk k' n a lv kids).two k = true ↔ k' = k ∧ ∃ x y, kids = [x, y] := by
  unfold Tm.two
  rw [Bool.and_eq_true, decide_eq_true_iff, decide_eq_true_iff]
  constructor
  · rintro ⟨h, h2⟩
    match kids, h2 with
    | [x, y], _ => exact ⟨h, x, y, rfl⟩
  · rintro ⟨h, x, y, rfl⟩
    exact ⟨h, rfl⟩
/-- binders taken off -/
inductive Opened : Tm → List Tm → Tm → Prop
  | nil (t : Tm) : Opened t [] t
  | cons {n a : Int} {lv : List (List (Int × Int))} {x y r : Tm} {ts : List Tm} (h : Opened y ts r) : Opened (.mk 4 n a lv [x, y]) (x :: ts) r
theorem Opened.trans {t u r : Tm} {ts us : List Tm} (h : Opened t ts u) (k : Opened u us r) : Opened t (ts ++ us) r := by
  induction h with
  | nil => exact k
  | cons _ ih => exact .cons (ih k)
theorem Opened.snoc {t x y : Tm} {n a : Int} {lv : List (List (Int × Int))} {ts : List Tm} (h : Opened t ts (.mk 4 n a lv [x, y])) : Opened t (ts ++ [x]) y := h.trans (.cons (.nil y))
theorem Opened.same {t r r' : Tm} {ts us : List Tm} (h : Opened t ts r) (k : Opened t us r') (hl : ts.length = us.length) : ts = us ∧ r = r' := by
  induction h generalizing us r' with
  | nil =>
    cases us with
    | nil => cases k; exact ⟨rfl, rfl⟩
    | cons => simp at hl
  | cons _ ih =>
    cases us with
    | nil => simp at hl
    | cons =>
      cases k with
      | cons k =>
        obtain ⟨h1, h2⟩ := ih k (by simpa using hl)
        exact ⟨by rw [h1], h2⟩
/-- all of them -/
theorem Opened.all (t : Tm) : ∃ ts r, Opened t ts r ∧ r.two 4 = false ∧ ts.length + 1 ≤ t.size := by
  induction t using Tm.ind with
  | h k n a lv kids ih =>
    cases e : (Tm.mk k n a lv kids).two 4 with
    | false => exact ⟨[], _, .nil _, e, by rw [Tm.size_mk]; simp⟩
    | true =>
      obtain ⟨rfl, x, y, rfl⟩ := Tm.two_iff.1 e
      obtain ⟨ts, r, h1, h2, h3⟩ := ih y (by simp)
      refine ⟨x :: ts, r, .cons h1, h2, ?_⟩
      rw [Tm.size_mk, Tm.sizeL, Tm.sizeL, Tm.sizeL, List.length_cons]
      omega
/-- not more than all -/
theorem Opened.le {t r r' : Tm} {ts us : List Tm} (h : Opened t ts r) (h2 : r.two 4 = false) (k : Opened t us r') : us.length ≤ ts.length := by
  induction k generalizing ts r with
  | nil => simp
  | cons _ ih =>
    cases h with
    | nil => rw [Tm.two_iff.2 ⟨rfl, _, _, rfl⟩] at h2; cases h2
    | cons h =>
      have := ih h h2
      simp only [List.length_cons]
      omega
theorem aboveT_open (b : Tm) : ∀ row : List Tm, Opened (aboveT 4 b row) row b
  | [] => .nil b
  | _ :: ts => .cons (aboveT_open b ts)
theorem aboveT_few (b : Tm) : ∀ (row : List Tm) (k : Nat), Opened (aboveT 4 b row) (row.take k) (aboveT 4 b (row.drop k))
  | _, 0 => by simpa using Opened.nil _
  | [], k + 1 => by simpa using Opened.nil _
  | t :: ts, k + 1 => .cons (aboveT_few b ts k)
/-- a row walked, one binder deeper each -/
def walksAt (tr : Turn) : Nat → List Tm → List Tm
  | _, [] => []
  | d, t :: ts => t.walk tr d :: walksAt tr (d + 1) ts
theorem walksAt_length (tr : Turn) : ∀ (ts : List Tm) (d : Nat), (walksAt tr d ts).length = ts.length
  | [], d => rfl
  | t :: ts, d => by simp [walksAt, walksAt_length tr ts]
theorem walksAt_get (tr : Turn) : ∀ (ts : List Tm) (d i : Nat), (walksAt tr d ts)[i]? = ts[i]?.map fun t => t.walk tr (d + i)
  | [], d, i => by simp [walksAt]
  | t :: ts, d, 0 => by simp [walksAt]
  | t :: ts, d, i + 1 => by
    have := walksAt_get tr ts (d + 1) i
    simp only [walksAt, List.getElem?_cons_succ, this]
    rw [show d + 1 + i = d + (i + 1) by omega]
theorem aboveT_walk {tr : Turn} (h : ∀ d, tr d 4 0 [] = .go 0 []) (b : Tm) : ∀ (row : List Tm) (d : Nat), (aboveT 4 b row).walk tr d = aboveT 4 (b.walk tr (d + row.length)) (walksAt tr d row)
  | [], d => rfl
  | t :: ts, d => by
    have ih := aboveT_walk h b ts (d + 1)
    have hu0 : under 4 0 = 0 := by decide
    have hu1 : under 4 (0 + 1) = 1 := by decide
    show (Tm.mk 4 0 0 [] [t, aboveT 4 b ts]).walk tr d = _
    rw [Tm.walk_go (h d), Tm.walkL, Tm.walkL, Tm.walkL, hu0, hu1, ih]
    rw [show d + 1 + ts.length = d + (t :: ts).length by simp; omega]
    rfl
theorem lift_four (m f : Int) (d : Nat) : liftT m f d 4 0 [] = .go 0 [] := rfl
theorem put_four (by' : List Tm) (d : Nat) : putT by' d 4 0 [] = .go 0 [] := rfl
/-- lifted from some on, or so many binders deep -/
theorem lift_from (m : Int) (i : Nat) : ∀ (t : Tm) (d : Nat), t.walk (liftT m (i : Int)) d = t.walk (liftT m 0) (d + i) := by
  intro t
  induction t using Tm.ind with
  | h k n a lv kids ih =>
    intro d
    have hk : Tm.walkL (liftT m (i : Int)) d k 0 kids = Tm.walkL (liftT m 0) (d + i) k 0 kids := Tm.walkL_same fun t ht u => by
      rw [ih t ht, show d + u + i = d + i + u by omega]
    rw [Tm.walk_go (tr := liftT m (i : Int)) rfl, Tm.walk_go (tr := liftT m 0) rfl, hk]
    congr 1
    unfold liftN
    have e : outer d k n (i : Int) = outer (d + i) k n 0 := by
      unfold outer
      congr 1
      apply propext
      constructor
      · rintro ⟨h1, h2, h3⟩; exact ⟨h1, by omega, by omega⟩
      · rintro ⟨h1, h2, h3⟩; exact ⟨h1, by omega, by omega⟩
    rw [e]
/-- a function and its arguments, the last one first -/
inductive Spined : Tm → List Tm → Tm → Prop
  | nil (t : Tm) : Spined t [] t
  | snoc {t h x : Tm} {n a : Int} {lv : List (List (Int × Int))} {l : List Tm} (k : Spined t l (.mk 6 n a lv [h, x])) : Spined t (l ++ [x]) h
/-- arguments laid behind a function -/
def appsT (f : Tm) (l : List Tm) : Tm := l.foldl (fun f x => .mk 6 0 0 [] [f, x]) f
theorem appsT_snoc (f : Tm) (l : List Tm) (x : Tm) : appsT f (l ++ [x]) = .mk 6 0 0 [] [appsT f l, x] := by simp [appsT]
theorem Spined.trans {t u h : Tm} {l m : List Tm} (p : Spined t l u) (q : Spined u m h) : Spined t (l ++ m) h := by
  induction q with
  | nil => simpa using p
  | snoc _ ih => rw [← List.append_assoc]; exact .snoc ih
theorem appsT_spine (f : Tm) (l : List Tm) : ∀ l' : List Tm, l = l'.reverse → Spined (appsT f l) l' f := by
  intro l' e
  subst e
  induction l' with
  | nil => exact .nil f
  | cons x l' ih =>
    rw [List.reverse_cons, appsT_snoc]
    exact Spined.trans (l := [x]) (.snoc (l := []) (.nil _)) ih
/-- all of them -/
theorem Spined.all (t : Tm) : ∃ l h, Spined t l h ∧ h.two 6 = false := by
  induction t using Tm.ind with
  | h k n a lv kids ih =>
    cases e : (Tm.mk k n a lv kids).two 6 with
    | false => exact ⟨[], _, .nil _, e⟩
    | true =>
      obtain ⟨rfl, x, y, rfl⟩ := Tm.two_iff.1 e
      obtain ⟨l, h, h1, h2⟩ := ih x (by simp)
      exact ⟨[y] ++ l, h, Spined.trans (.snoc (l := []) (.nil _)) h1, h2⟩
/-- nothing but its kids in a spine's nodes -/
inductive CleanT : Tm → Prop
  | last {t : Tm} (h : t.two 6 = false) : CleanT t
  | app {f x : Tm} (h : CleanT f) : CleanT (.mk 6 0 0 [] [f, x])
theorem clean_apps {t h : Tm} {l : List Tm} (hc : CleanT t) (hs : Spined t l h) : CleanT h ∧ appsT h l.reverse = t := by
  induction hs with
  | nil => exact ⟨hc, rfl⟩
  | snoc _ ih =>
    obtain ⟨h1, h2⟩ := ih
    cases h1 with
    | last h => rw [Tm.two_iff.2 ⟨rfl, _, _, rfl⟩] at h; cases h
    | app h =>
      refine ⟨h, ?_⟩
      rw [← h2, List.reverse_append, List.reverse_singleton]
      show appsT (.mk 6 0 0 [] [_, _]) _ = _
      rfl
end Go.Proofs.YtaoglkkdhdfioaaGreatDoor
namespace Go.Proofs.YtaoglkkdhdfioaaGreatDoor
open Go Go.Proofs
set_option maxRecDepth 100000
set_option maxHeartbeats 1000000
attribute [local go_sem] AH.seals AH.adds news List.nil_append List.cons_append AF.put AF.start Slots.set Slots.ins zipA AH.zero AH.new AH.put AH.sub ofV AV.cells List.length AF.keep AH.cut List.filter_cons List.filter_nil List.contains_cons List.contains_nil Nat.reduceBEq Bool.or_false Bool.or_true Bool.true_or Bool.false_or decide_true decide_false Bool.not_false Bool.and_true Bool.true_and Bool.and_self List.append_nil List.getElem_toArray List.getElem_cons_zero List.getElem_cons_succ Nat.reduceLT Nat.reduceAdd Nat.reduceSub Nat.reduceEqDiff andThen atEnd rounds Tryz.ntmps161 Tryz.ntmps157 Tryz.ntmps150 Tryz.ntmps100
theorem known (k : Int) : Tells Tryz.prog (.func 161) [eInt k] [] (eBool (decide (1 ≤ k) && decide (k ≤ 24))) := by
  refine tells_raw (fun b hb => ?_) (.raw _) ?_
  · simp at hb; subst hb; exact .raw _
  refine gives_enter Tryz.func161 rfl rfl ?_
  repeat' first
    | refine wk ?_
    | (refine goesL_b (by rfl) (by rfl) fun b hb => ?_; cases b <;> refine sm ?_)
  all_goals (refine ⟨rfl, _, rfl, ?_⟩; simp_all <;> omega)


theorem binds_tells (k : Int) (i : Nat) (hi : i ≤ 1048576) : Tells Tryz.prog (.func 157) [eInt k, eInt (i : Int)] [] (eBool (binds k i)) := by
  have hT := known k
  obtain ⟨b, hb⟩ : ∃ b, (decide (1 ≤ k) && decide (k ≤ 24)) = b := ⟨_, rfl⟩
  rw [hb] at hT
  refine tells_raw (fun b hb => ?_) (.raw _) ?_
  · simp at hb; rcases hb with rfl | rfl <;> exact .raw _
  refine gives_enter Tryz.func157 rfl rfl ?_
  repeat' first
    | refine wk ?_
    | (refine goesL_b (by rfl) (by rfl) fun b hb => ?_; cases b <;> refine sm ?_)
  refine goesL_tells hT (by rfl) (by rfl) (by rfl) (by rfl) (by rfl) (by rfl) ?_
  refine sm ?_
  cases b
  · repeat' first
      | refine wk ?_
      | (refine goesL_b (by rfl) (by rfl) fun b hb => ?_; cases b <;> refine sm ?_)
    all_goals (refine ⟨rfl, _, rfl, ?_⟩; simp only [binds, hb, Bool.false_and])
  · repeat' first
      | refine wk ?_
      | (refine goesL_b (by rfl) (by rfl) fun b hb => ?_; cases b <;> refine sm ?_)
    have hk : 1 ≤ k ∧ k ≤ 24 := by simpa using hb
    refine goesL_q (by rfl) (qop_indexA (n := k) (by rfl) (by rfl) (by rfl) (by rfl) (by rfl) (by rfl) (by omega) (by show k < ((25 : Nat) : Int); omega)) ?_
    refine sm ?_
    refine goesL_q (by rfl) (by rfl) ?_
    refine sm ?_
    refine goesL_q (by rfl) (qop_load1 (b := eInt (kindRow k.toNat).2.2.2.2) (by rfl) (by rfl) (by rfl) (by rfl) ?_ rfl) ?_
    · rw [List.drop_drop, List.getElem?_drop, Nat.add_zero]
      exact kind_cell k.toNat 4 _ (by omega) rfl
    refine sm ?_
    repeat' first
      | refine wk ?_
      | (refine goesL_b (by rfl) (by rfl) fun b hb => ?_; cases b <;> refine sm ?_)
    all_goals
      have e2 : IntKind.i64.wrap ((i : Int) + 1) = (i : Int) + 1 := by
        rw [show ((i : Int) + 1) = ((i + 1 : Nat) : Int) from rfl, wrap_nat (by omega)]
      rw [e2] at hb
      refine ⟨rfl, _, rfl, ?_⟩
      have : binds k i = ((kindRow k.toNat).2.2.2.2 == (i : Int) + 1) := by
        have h1 : decide (1 ≤ k) = true := decide_eq_true hk.1
        have h2 : decide (k ≤ 24) = true := decide_eq_true hk.2
        simp only [binds, h1, h2, Bool.true_and]
        rfl
      rw [this, hb]

theorem below_tells (d : Nat) (k : Int) (i : Nat) (hd : d ≤ 1073741824) (hi : i ≤ 1048576) : Tells Tryz.prog (.func 150) [.agg [eInt (d : Int)], eInt k, eInt (i : Int)] [] (.agg [eInt ((d + under k i : Nat) : Int)]) := by
  have hT := binds_tells k i hi
  obtain ⟨b, hb⟩ : ∃ b, binds k i = b := ⟨_, rfl⟩
  rw [hb] at hT
  refine tells_raw (fun b hb => ?_) (.agg fun a ha => ?_) ?_
  · simp at hb
    rcases hb with rfl | rfl | rfl
    · exact .agg fun a ha => by simp at ha; subst ha; exact .raw _
    · exact .raw _
    · exact .raw _
  · simp at ha; subst ha; exact .raw _
  refine gives_enter Tryz.func150 rfl rfl ?_
  repeat' first
    | refine wk ?_
    | (refine goesL_b (by rfl) (by rfl) fun b hb => ?_; cases b <;> refine sm ?_)
  refine goesL_tells hT (by rfl) (by rfl) (by rfl) (by rfl) (by rfl) (by rfl) ?_
  refine sm ?_
  cases b
  · repeat' first
      | refine wk ?_
      | (refine goesL_b (by rfl) (by rfl) fun b hb => ?_; cases b <;> refine sm ?_)
    refine ⟨rfl, _, rfl, ?_⟩
    simp only [under, hb]
    rfl
  · repeat' first
      | refine wk ?_
      | (refine goesL_b (by rfl) (by rfl) fun b hb => ?_; cases b <;> refine sm ?_)
    refine ⟨rfl, _, rfl, ?_⟩
    have e2 : IntKind.i64.wrap ((d : Int) + 1) = ((d + 1 : Nat) : Int) := by
      rw [show ((d : Int) + 1) = ((d + 1 : Nat) : Int) from rfl, wrap_nat (by omega)]
    simp only [under, hb, if_true]
    rw [← e2]
    rfl
theorem means_tells (d : Nat) (n : Int) : Tells Tryz.prog (.func 100) [.agg [eInt (d : Int)], eInt n] [] (if n < d then .tup [eInt 0, eBool false] else .tup [eInt (IntKind.i64.wrap (n - d)), eBool true]) := by
  refine tells_raw (fun b hb => ?_) ?_ ?_
  · simp at hb
    rcases hb with rfl | rfl
    · exact .agg fun a ha => by simp at ha; subst ha; exact .raw _
    · exact .raw _
  · split <;> exact .tup fun a ha => by simp at ha; rcases ha with rfl | rfl <;> exact .raw _
  refine gives_enter Tryz.func100 rfl rfl ?_
  repeat' first
    | refine wk ?_
    | (refine goesL_b (by rfl) (by rfl) fun b hb => ?_; cases b <;> refine sm ?_)
  all_goals (refine ⟨rfl, _, rfl, ?_⟩; simp_all)
end Go.Proofs.YtaoglkkdhdfioaaGreatDoor
namespace Go.Proofs.YtaoglkkdhdfioaaGreatDoor
open Go Go.Proofs
set_option maxRecDepth 100000
set_option maxHeartbeats 1000000
attribute [local go_sem] AH.seals AH.adds news List.nil_append List.cons_append AF.put AF.start Slots.set Slots.ins zipA AH.zero AH.new AH.put AH.sub ofV AV.cells List.length AF.keep AH.cut List.filter_cons List.filter_nil List.contains_cons List.contains_nil Nat.reduceBEq Bool.or_false Bool.or_true Bool.true_or Bool.false_or decide_true decide_false Bool.not_false Bool.and_true Bool.true_and Bool.and_self List.append_nil List.getElem_toArray List.getElem_cons_zero List.getElem_cons_succ Nat.reduceLT Nat.reduceAdd Nat.reduceSub Nat.reduceEqDiff andThen atEnd rounds Tryz.ntmps149
theorem copied_tells (ps : List (Int × Int)) (hn : ps.length ≤ 1048576) : Tells Tryz.prog (.func 149) [eLv ps] [] (eLv ps) := by
  refine tells_of (fun b hb => ?_) (pure_lv ps) ?_
  · simp at hb; subst hb; exact pure_lv ps
  have hKp : Pure (.vals 2 (ps.map ePart)) := pure_parts 2 ps
  unfold eLv
  by_cases h0 : ps = []
  · subst h0
    refine gives_enter Tryz.func149 rfl rfl ?_
    repeat' first
      | refine wk ?_
      | (refine goesL_b (by rfl) (by rfl) fun b hb => ?_; cases b <;> refine sm ?_)
    refine ⟨rfl, _, rfl, _, [], _, rfl, .agg (.none .nil) .nil, fun p hp => (by cases hp)⟩
  · obtain ⟨K, hK⟩ : ∃ K, ps.map ePart = K := ⟨_, rfl⟩
    have hlen : K.length = ps.length := by rw [← hK]; simp
    have hpos : 0 < ps.length := List.length_pos_iff.2 h0
    have hone : ∀ e ∈ K, ∀ a ∈ e.cells, a.one = true := fun e he a ha => by
      rw [← hK] at he
      obtain ⟨p, _, rfl⟩ := List.mem_map.1 he
      simp [ePart, AV.cells] at ha
      rcases ha with rfl | rfl <;> rfl
    rw [hK] at hKp ⊢
    refine gives_enter Tryz.func149 rfl rfl ?_
    repeat' first
      | refine wk ?_
      | (refine goesL_b (by rfl) (by rfl) fun b hb => ?_; cases b <;> refine sm ?_)
    refine goesL_n (by rfl) (nop_append (es := K) (by rfl) (by rfl) (by rfl) (by rfl) (by rfl) (by rfl) (by rfl) (by rfl) (by rfl) (by decide) (by rfl) (by rfl) (by omega) (by unfold tops; omega) hone) ?_
    refine sm ?_
    repeat' first
      | refine wk ?_
      | (refine goesL_b (by rfl) (by rfl) fun b hb => ?_; cases b <;> refine sm ?_)
    have hz2 : ∀ e ∈ K, e.cells.length = 2 := fun e he => by
      rw [← hK] at he
      obtain ⟨p, _, rfl⟩ := List.mem_map.1 he
      rfl
    have hp2 : ∀ e ∈ K, Pure e := fun e he => by
      rw [← hK] at he
      obtain ⟨p, _, rfl⟩ := List.mem_map.1 he
      exact pure_part p
    obtain ⟨k1, k2⟩ := snap_own (h := ⟨3, [], [(2, Blk.cells { ver := 0, elem := 100, sz := 2, imm := 0, cs := K.flatMap AV.cells }), (1, Blk.cells { ver := 0, elem := 45, sz := 1, imm := 0, cs := [.row 2 0 0 K.length] }), (0, Blk.cells { ver := 0, elem := 45, sz := 1, imm := 0, cs := [AV.vals 2 K] })]⟩) (r := 2) (es := K) rfl rfl hz2 hp2 rfl
    refine ⟨rfl, _, rfl, _, [(2, K.length * 2)], _, rfl, .agg k1 .nil, ?_⟩
    intro p hp
    exact k2 p (by simpa using hp)
end Go.Proofs.YtaoglkkdhdfioaaGreatDoor
