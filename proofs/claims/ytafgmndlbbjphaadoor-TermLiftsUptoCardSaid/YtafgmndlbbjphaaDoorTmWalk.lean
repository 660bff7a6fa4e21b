/- Going through a term and copying it, in plain words: what a turn makes of each node; lifting and putting; that they meet. -/
import Derived.Test.YtafgmndlbbjphaaDoorTmKinds
namespace Go.Proofs.YtafgmndlbbjphaaDoor
open Go.RowKit Go.Maps

/-- what a turn makes of a node: the node with another number and other levels, to go on from; or another term, and that is all -/
inductive Turned where
  | go (n : Int) (lv : List (List (Int × Int)))
  | done (t : Tm)
/-- a turn: by the depth, and a node's kind, number, levels -/
abbrev Turn := Nat → Int → Int → List (List (Int × Int)) → Turned
mutual
/-- what a term becomes -/
def Tm.walk (tr : Turn) (d : Nat) : Tm → Tm
  | .mk k n a lv kids => match tr d k n lv with
    | .go n' lv' => .mk k n' a lv' (Tm.walkL tr d k 0 kids)
    | .done u => u
def Tm.walkL (tr : Turn) (d : Nat) (k : Int) (i : Nat) : List Tm → List Tm
  | [] => []
  | t :: ts => t.walk tr (d + under k i) :: Tm.walkL tr d k (i + 1) ts
end
theorem Tm.walk_go {tr : Turn} {d : Nat} {k n a n' : Int} {lv lv' : List (List (Int × Int))} {kids : List Tm} (h : tr d k n lv = .go n' lv') : (Tm.mk k n a lv kids).walk tr d = .mk k n' a lv' (Tm.walkL tr d k 0 kids) := by
  rw [Tm.walk, h]
theorem Tm.walk_done {tr : Turn} {d : Nat} {k n a : Int} {lv : List (List (Int × Int))} {kids : List Tm} {u : Tm} (h : tr d k n lv = .done u) : (Tm.mk k n a lv kids).walk tr d = u := by
  rw [Tm.walk, h]
theorem Tm.walkL_length (tr : Turn) (d : Nat) (k : Int) : ∀ (ts : List Tm) (i : Nat), (Tm.walkL tr d k i ts).length = ts.length
  | [], i => by simp [Tm.walkL]
  | t :: ts, i => by simp [Tm.walkL, Tm.walkL_length tr d k ts]
theorem Tm.walkL_get (tr : Turn) (d : Nat) (k : Int) : ∀ (ts : List Tm) (i j : Nat), (Tm.walkL tr d k i ts)[j]? = ts[j]?.map (fun t => t.walk tr (d + under k (i + j)))
  | [], i, j => by simp [Tm.walkL]
  | t :: ts, i, 0 => by simp [Tm.walkL]
  | t :: ts, i, j + 1 => by
    have := Tm.walkL_get tr d k ts (i + 1) j
    simp only [Tm.walkL, List.getElem?_cons_succ, this]
    rw [show i + 1 + j = i + (j + 1) by omega]
theorem Tm.walkL_mem {tr : Turn} {d : Nat} {k : Int} {i : Nat} {ts : List Tm} {u : Tm} (h : u ∈ Tm.walkL tr d k i ts) : ∃ t ∈ ts, ∃ j, u = t.walk tr (d + under k j) := by
  obtain ⟨j, hj⟩ := List.getElem?_of_mem h
  rw [Tm.walkL_get] at hj
  cases e : ts[j]? with
  | none => rw [e] at hj; simp at hj
  | some t =>
    rw [e] at hj
    simp at hj
    exact ⟨t, List.mem_of_getElem? e, i + j, hj.symm⟩
/-- walks one behind the other, kid by kid -/
theorem Tm.walkL_two {tr tr' tr'' : Turn} {d d' d'' : Nat} {k : Int} : ∀ {ts : List Tm} {i : Nat}, (∀ t ∈ ts, ∀ u, (t.walk tr (d + u)).walk tr' (d' + u) = t.walk tr'' (d'' + u)) → Tm.walkL tr' d' k i (Tm.walkL tr d k i ts) = Tm.walkL tr'' d'' k i ts
  | [], i, h => by simp [Tm.walkL]
  | t :: ts, i, h => by
    simp only [Tm.walkL]
    rw [h t (by simp), Tm.walkL_two fun s hs => h s (by simp [hs])]
theorem Tm.walkL_same {tr tr' : Turn} {d d' : Nat} {k : Int} : ∀ {ts : List Tm} {i : Nat}, (∀ t ∈ ts, ∀ u, t.walk tr (d + u) = t.walk tr' (d' + u)) → Tm.walkL tr d k i ts = Tm.walkL tr' d' k i ts
  | [], i, h => by simp [Tm.walkL]
  | t :: ts, i, h => by
    simp only [Tm.walkL]
    rw [h t (by simp), Tm.walkL_same fun s hs => h s (by simp [hs])]
theorem Tm.walkL_id {tr : Turn} {d : Nat} {k : Int} : ∀ {ts : List Tm} {i : Nat}, (∀ t ∈ ts, ∀ u, t.walk tr (d + u) = t) → Tm.walkL tr d k i ts = ts
  | [], i, h => by simp [Tm.walkL]
  | t :: ts, i, h => by
    simp only [Tm.walkL]
    rw [h t (by simp), Tm.walkL_id fun s hs => h s (by simp [hs])]

/-- is a number at this depth that of an outer variable from some on? -/
def outer (d : Nat) (k n from' : Int) : Bool := decide (k = 1 ∧ (d : Int) ≤ n ∧ from' ≤ n - d)
/-- what lifting makes of a number, as the machine adds -/
def liftN (d : Nat) (k n from' m : Int) : Int := if outer d k n from' then IntKind.i64.wrap (n + m) else n
/-- lifting, as the machine adds -/
def liftT (m from' : Int) : Turn := fun d k n lv => .go (liftN d k n from' m) lv
/-- putting, as the machine adds -/
def putT (by' : List Tm) : Turn := fun d k n lv =>
  if outer d k n 0 then
    if n - d < by'.length then .done ((by'.getD (by'.length - 1 - (n - d).toNat) (.mk 0 0 0 [] [])).walk (liftT d 0) 0) else .go (n - by'.length) lv
  else .go n lv

/-- lifting of whole numbers -/
def liftZ (m from' : Int) : Turn := fun d k n lv => .go (if outer d k n from' then n + m else n) lv
/-- putting of whole numbers -/
def putZ (by' : List Tm) : Turn := fun d k n lv =>
  if outer d k n 0 then
    if n - d < by'.length then .done ((by'.getD (by'.length - 1 - (n - d).toNat) (.mk 0 0 0 [] [])).walk (liftZ d 0) 0) else .go (n - by'.length) lv
  else .go n lv

/-- lifted twice from depths that follow -/
theorem liftZ_liftZ (e d : Nat) : ∀ (b : Tm) (f : Nat), (b.walk (liftZ e 0) f).walk (liftZ d 0) (e + f) = b.walk (liftZ (d + e : Nat) 0) f := by
  intro b
  induction b using Tm.ind with
  | h k n a lv kids ih =>
    intro f
    have hk : Tm.walkL (liftZ d 0) (e + f) k 0 (Tm.walkL (liftZ e 0) f k 0 kids) = Tm.walkL (liftZ (d + e : Nat) 0) f k 0 kids := Tm.walkL_two fun t ht u => by
      rw [Nat.add_assoc]; exact ih t ht (f + u)
    rw [Tm.walk_go rfl, Tm.walk_go rfl, Tm.walk_go rfl, hk]
    congr 1
    simp only [outer, decide_eq_true_eq]
    by_cases h1 : k = 1 ∧ (f : Int) ≤ n ∧ 0 ≤ n - f
    · rw [if_pos h1, if_pos (by omega), if_pos h1]
      omega
    · rw [if_neg h1, if_neg (by omega), if_neg h1]
theorem Tm.walkL_back {tr tr' : Turn} {d d' : Nat} {k : Int} : ∀ {ts : List Tm} {i : Nat}, (∀ t ∈ ts, ∀ u, (t.walk tr (d + u)).walk tr' (d' + u) = t) → Tm.walkL tr' d' k i (Tm.walkL tr d k i ts) = ts
  | [], i, h => by simp [Tm.walkL]
  | t :: ts, i, h => by
    simp only [Tm.walkL]
    rw [h t (by simp), Tm.walkL_back fun s hs => h s (by simp [hs])]
theorem outer_iff {d : Nat} {k n from' : Int} : outer d k n from' = true ↔ k = 1 ∧ (d : Int) ≤ n ∧ from' ≤ n - d := by unfold outer; exact decide_eq_true_iff
theorem liftZ_on {m from' : Int} {d : Nat} {k n : Int} {lv : List (List (Int × Int))} (h : k = 1 ∧ (d : Int) ≤ n ∧ from' ≤ n - d) : liftZ m from' d k n lv = .go (n + m) lv := by
  unfold liftZ; rw [if_pos (outer_iff.2 h)]
theorem liftZ_off {m from' : Int} {d : Nat} {k n : Int} {lv : List (List (Int × Int))} (h : ¬ (k = 1 ∧ (d : Int) ≤ n ∧ from' ≤ n - d)) : liftZ m from' d k n lv = .go n lv := by
  unfold liftZ; rw [if_neg fun x => h (outer_iff.1 x)]
theorem putZ_off {by' : List Tm} {d : Nat} {k n : Int} {lv : List (List (Int × Int))} (h : ¬ (k = 1 ∧ (d : Int) ≤ n)) : putZ by' d k n lv = .go n lv := by
  unfold putZ; rw [if_neg fun x => h ⟨(outer_iff.1 x).1, (outer_iff.1 x).2.1⟩]
theorem putZ_far {by' : List Tm} {d : Nat} {k n : Int} {lv : List (List (Int × Int))} (h : k = 1 ∧ (d : Int) ≤ n) (h2 : ¬ n - d < by'.length) : putZ by' d k n lv = .go (n - by'.length) lv := by
  unfold putZ; rw [if_pos (outer_iff.2 ⟨h.1, h.2, by omega⟩), if_neg h2]
theorem putZ_near {by' : List Tm} {d : Nat} {k n : Int} {lv : List (List (Int × Int))} (h : k = 1 ∧ (d : Int) ≤ n) (h2 : n - d < by'.length) {b : Tm} (hb : by'[by'.length - 1 - (n - d).toNat]? = some b) : putZ by' d k n lv = .done (b.walk (liftZ d 0) 0) := by
  unfold putZ; rw [if_pos (outer_iff.2 ⟨h.1, h.2, by omega⟩), if_pos h2, List.getD_eq_getElem?_getD, hb]; rfl
/-- lifting by as many as are put, and putting, gives what was -/
theorem putZ_liftZ (by' : List Tm) : ∀ (t : Tm) (c : Nat), (t.walk (liftZ by'.length 0) c).walk (putZ by') c = t := by
  intro t
  induction t using Tm.ind with
  | h k n a lv kids ih =>
    intro c
    have hk : Tm.walkL (putZ by') c k 0 (Tm.walkL (liftZ by'.length 0) c k 0 kids) = kids := Tm.walkL_back fun t ht u => ih t ht (c + u)
    by_cases h : k = 1 ∧ (c : Int) ≤ n
    · rw [Tm.walk_go (liftZ_on ⟨h.1, h.2, by omega⟩), Tm.walk_go (putZ_far ⟨h.1, by omega⟩ (by omega)), hk]
      congr 1
      omega
    · rw [Tm.walk_go (liftZ_off fun x => h ⟨x.1, x.2.1⟩), Tm.walk_go (putZ_off h), hk]
/-- what is lifted by none stays -/
theorem liftZ_none (from' : Int) : ∀ (t : Tm) (c : Nat), t.walk (liftZ 0 from') c = t := by
  intro t
  induction t using Tm.ind with
  | h k n a lv kids ih =>
    intro c
    have hk : Tm.walkL (liftZ 0 from') c k 0 kids = kids := Tm.walkL_id fun t ht u => ih t ht (c + u)
    have e : liftZ 0 from' c k n lv = .go n lv := by
      unfold liftZ
      congr 1
      split <;> omega
    rw [Tm.walk_go e, hk]
/-- what is put, lifted, is put into what is lifted -/
theorem putZ_past (by' : List Tm) (d : Nat) : ∀ (a : Tm) (e : Nat), (a.walk (liftZ d 0) e).walk (putZ by') (d + e) = (a.walk (putZ by') e).walk (liftZ d 0) e := by
  intro a
  induction a using Tm.ind with
  | h k n a lv kids ih =>
    intro e
    have hk : Tm.walkL (putZ by') (d + e) k 0 (Tm.walkL (liftZ d 0) e k 0 kids) = Tm.walkL (liftZ d 0) e k 0 (Tm.walkL (putZ by') e k 0 kids) := by
      refine List.ext_getElem? fun j => ?_
      simp only [Tm.walkL_get, Option.map_map]
      cases h : kids[j]? with
      | none => rfl
      | some t =>
        simp only [Option.map_some, Function.comp_apply, Option.some.injEq]
        have := ih t (List.mem_of_getElem? h) (e + under k (0 + j))
        rw [← Nat.add_assoc] at this
        exact this
    by_cases h : k = 1 ∧ (e : Int) ≤ n
    · rw [Tm.walk_go (liftZ_on ⟨h.1, h.2, by omega⟩)]
      by_cases h2 : n - e < by'.length
      · obtain ⟨b, hb⟩ : ∃ b, by'[by'.length - 1 - (n - e).toNat]? = some b := ⟨_, List.getElem?_eq_getElem (by omega)⟩
        have e1 : n + d - ((d + e : Nat) : Int) = n - e := by omega
        rw [Tm.walk_done (putZ_near h h2 hb), Tm.walk_done (putZ_near (d := d + e) ⟨h.1, by omega⟩ (by omega) (b := b) (by rw [e1]; exact hb))]
        have := liftZ_liftZ e d b 0
        simpa using this.symm
      · rw [Tm.walk_go (putZ_far h h2), Tm.walk_go (putZ_far (d := d + e) ⟨h.1, by omega⟩ (by omega)), Tm.walk_go (liftZ_on ⟨h.1, by omega, by omega⟩), hk]
        congr 1
        omega
    · rw [Tm.walk_go (liftZ_off fun x => h ⟨x.1, x.2.1⟩), Tm.walk_go (putZ_off h), Tm.walk_go (putZ_off (d := d + e) fun x => h ⟨x.1, by omega⟩), Tm.walk_go (liftZ_off fun x => h ⟨x.1, x.2.1⟩), hk]
/-- one putting behind the other is the one within the other -/
theorem putZ_putZ (a b : Tm) : ∀ (t : Tm) (c : Nat), (t.walk (putZ [a]) c).walk (putZ [b]) c = t.walk (putZ [b, a.walk (putZ [b]) 0]) c := by
  intro t
  induction t using Tm.ind with
  | h k n a' lv kids ih =>
    intro c
    have hk : Tm.walkL (putZ [b]) c k 0 (Tm.walkL (putZ [a]) c k 0 kids) = Tm.walkL (putZ [b, a.walk (putZ [b]) 0]) c k 0 kids := Tm.walkL_two fun t ht u => ih t ht (c + u)
    by_cases h : k = 1 ∧ (c : Int) ≤ n
    · by_cases h1 : n = c
      · have e : (n - c).toNat = 0 := by omega
        rw [Tm.walk_done (putZ_near h (by simp; omega) (b := a) (by rw [e]; rfl)), Tm.walk_done (putZ_near h (by simp; omega) (b := a.walk (putZ [b]) 0) (by rw [e]; rfl))]
        exact putZ_past [b] c a 0
      · by_cases h2 : n = c + 1
        · have e : (n - c).toNat = 1 := by omega
          have e' : (n - ([a].length : Int) - c).toNat = 0 := by simp; omega
          rw [Tm.walk_go (putZ_far h (by simp; omega)), Tm.walk_done (putZ_near ⟨h.1, by simp; omega⟩ (by simp; omega) (b := b) (by rw [e']; rfl)), Tm.walk_done (putZ_near h (by simp; omega) (b := b) (by rw [e]; rfl))]
        · rw [Tm.walk_go (putZ_far h (by simp; omega)), Tm.walk_go (putZ_far ⟨h.1, by simp; omega⟩ (by simp; omega)), Tm.walk_go (putZ_far h (by simp; omega)), hk]
          congr 1
          simp
          omega
    · rw [Tm.walk_go (putZ_off h), Tm.walk_go (putZ_off h), Tm.walk_go (putZ_off h), hk]

mutual
/-- are all variables at most this? -/
def Tm.low (N : Int) : Tm → Prop
  | .mk k n _ _ kids => (k = 1 → n ≤ N) ∧ Tm.lowL N kids
def Tm.lowL (N : Int) : List Tm → Prop
  | [] => True
  | t :: ts => t.low N ∧ Tm.lowL N ts
end
theorem Tm.low_mk (N k n a : Int) (lv : List (List (Int × Int))) (kids : List Tm) : (Tm.mk k n a lv kids).low N ↔ (k = 1 → n ≤ N) ∧ Tm.lowL N kids := by rw [Tm.low]
theorem Tm.lowL_iff (N : Int) : ∀ ts : List Tm, Tm.lowL N ts ↔ ∀ t ∈ ts, t.low N
  | [] => by simp [Tm.lowL]
  | t :: ts => by
    have := Tm.lowL_iff N ts
    simp [Tm.lowL, this]
theorem Tm.low_more {N M : Int} (hN : N ≤ M) : ∀ t : Tm, t.low N → t.low M := by
  intro t
  induction t using Tm.ind with
  | h k n a lv kids ih =>
    intro h
    rw [Tm.low_mk, Tm.lowL_iff] at h ⊢
    exact ⟨fun e => by have := h.1 e; omega, fun t ht => ih t ht (h.2 t ht)⟩
theorem Tm.low_tame : ∀ t : Tm, t.tame = true → t.low 1000 := by
  intro t
  induction t using Tm.ind with
  | h k n a lv kids ih =>
    intro h
    rw [Tm.tame_mk, Bool.and_eq_true, Tm.tameL_iff] at h
    rw [Tm.low_mk, Tm.lowL_iff]
    refine ⟨fun e => ?_, fun t ht => ih t ht (h.2 t ht)⟩
    have h1 := h.1
    simp [e] at h1
    omega
theorem under_le (k : Int) (i : Nat) : under k i ≤ 1 := by unfold under; split <;> omega
theorem Tm.size_pos (t : Tm) : 1 ≤ t.size := by
  cases t
  rw [Tm.size_mk]
  omega
/-- where no variable is too great lifting is lifting of whole numbers -/
theorem liftT_eq {N m from' : Int} (hm : 0 ≤ m) (hN : N + m ≤ 4611686018427387904) : ∀ (t : Tm), t.low N → ∀ d, t.walk (liftT m from') d = t.walk (liftZ m from') d := by
  intro t
  induction t using Tm.ind with
  | h k n a lv kids ih =>
    intro hl d
    rw [Tm.low_mk, Tm.lowL_iff] at hl
    have hk : Tm.walkL (liftT m from') d k 0 kids = Tm.walkL (liftZ m from') d k 0 kids := Tm.walkL_same fun t ht u => ih t ht (hl.2 t ht) _
    rw [Tm.walk_go (n' := liftN d k n from' m) rfl]
    by_cases h : k = 1 ∧ (d : Int) ≤ n ∧ from' ≤ n - d
    · have := hl.1 h.1
      rw [Tm.walk_go (liftZ_on h), hk]
      unfold liftN
      rw [if_pos (outer_iff.2 h), IntWalk.i64_in _ (by omega)]
    · rw [Tm.walk_go (liftZ_off h), hk]
      unfold liftN
      rw [if_neg fun x => h (outer_iff.1 x)]
theorem liftZ_low {N m from' : Int} (hm : 0 ≤ m) : ∀ (t : Tm), t.low N → ∀ d, (t.walk (liftZ m from') d).low (N + m) := by
  intro t
  induction t using Tm.ind with
  | h k n a lv kids ih =>
    intro hl d
    rw [Tm.low_mk, Tm.lowL_iff] at hl
    have hk : Tm.lowL (N + m) (Tm.walkL (liftZ m from') d k 0 kids) := (Tm.lowL_iff _ _).2 fun u hu => by
      obtain ⟨t, ht, j, rfl⟩ := Tm.walkL_mem hu
      exact ih t ht (hl.2 t ht) _
    by_cases h : k = 1 ∧ (d : Int) ≤ n ∧ from' ≤ n - d
    · rw [Tm.walk_go (liftZ_on h), Tm.low_mk]
      exact ⟨fun e => by have := hl.1 e; omega, hk⟩
    · rw [Tm.walk_go (liftZ_off h), Tm.low_mk]
      exact ⟨fun e => by have := hl.1 e; omega, hk⟩
theorem liftZ_fit {N m from' : Int} (hm : 0 ≤ m) (hN : N + m ≤ 4611686018427387904) : ∀ (t : Tm), t.fit → t.low N → ∀ d, (t.walk (liftZ m from') d).fit := by
  intro t
  induction t using Tm.ind with
  | h k n a lv kids ih =>
    intro hf hl d
    rw [Tm.low_mk, Tm.lowL_iff] at hl
    rw [Tm.fit_mk, Tm.fitL_iff] at hf
    have hk : Tm.fitL (Tm.walkL (liftZ m from') d k 0 kids) := (Tm.fitL_iff _).2 fun u hu => by
      obtain ⟨t, ht, j, rfl⟩ := Tm.walkL_mem hu
      exact ih t ht (hf.2.2.2 t ht) (hl.2 t ht) _
    have hr := hf.1
    unfold Rng at hr
    by_cases h : k = 1 ∧ (d : Int) ≤ n ∧ from' ≤ n - d
    · rw [Tm.walk_go (liftZ_on h), Tm.fit_mk, Tm.walkL_length]
      exact ⟨by have := hl.1 h.1; unfold Rng; omega, hf.2.1, hf.2.2.1, hk⟩
    · rw [Tm.walk_go (liftZ_off h), Tm.fit_mk, Tm.walkL_length]
      exact ⟨hf.1, hf.2.1, hf.2.2.1, hk⟩
theorem Tm.walkL_sizeL {tr : Turn} {d : Nat} {k : Int} {M : Nat} : ∀ {ts : List Tm} {i : Nat}, (∀ t ∈ ts, ∀ u, (t.walk tr (d + u)).size ≤ t.size * M) → Tm.sizeL (Tm.walkL tr d k i ts) ≤ Tm.sizeL ts * M
  | [], i, h => by simp [Tm.walkL, Tm.sizeL]
  | t :: ts, i, h => by
    have h1 := h t (by simp) (under k i)
    have h2 := Tm.walkL_sizeL (tr := tr) (d := d) (k := k) (M := M) (ts := ts) (i := i + 1) fun s hs => h s (by simp [hs])
    simp only [Tm.walkL, Tm.sizeL, Nat.add_mul]
    omega
theorem Tm.walkL_sizeL_eq {tr : Turn} {d : Nat} {k : Int} : ∀ {ts : List Tm} {i : Nat}, (∀ t ∈ ts, ∀ u, (t.walk tr (d + u)).size = t.size) → Tm.sizeL (Tm.walkL tr d k i ts) = Tm.sizeL ts
  | [], i, h => by simp [Tm.walkL]
  | t :: ts, i, h => by
    have h1 := h t (by simp) (under k i)
    have h2 := Tm.walkL_sizeL_eq (tr := tr) (d := d) (k := k) (ts := ts) (i := i + 1) fun s hs => h s (by simp [hs])
    simp only [Tm.walkL, Tm.sizeL, h1, h2]
theorem liftZ_size (m from' : Int) : ∀ (t : Tm) (d : Nat), (t.walk (liftZ m from') d).size = t.size := by
  intro t
  induction t using Tm.ind with
  | h k n a lv kids ih =>
    intro d
    rw [Tm.walk_go (n' := if outer d k n from' then n + m else n) rfl, Tm.size_mk, Tm.size_mk, Tm.walkL_sizeL_eq fun t ht u => ih t ht _]
theorem putT_eq {N : Int} {D : Nat} {by' : List Tm} (hb : ∀ b ∈ by', b.low N) (hN : N + D ≤ 4611686018427387904) : ∀ (t : Tm) (d : Nat), d + t.size ≤ D → t.walk (putT by') d = t.walk (putZ by') d := by
  intro t
  induction t using Tm.ind with
  | h k n a lv kids ih =>
    intro d hd
    rw [Tm.size_mk] at hd
    have hk : Tm.walkL (putT by') d k 0 kids = Tm.walkL (putZ by') d k 0 kids := by
      refine List.ext_getElem? fun j => ?_
      simp only [Tm.walkL_get]
      cases h : kids[j]? with
      | none => rfl
      | some t =>
        have h1 := Tm.sizeL_mem (List.mem_of_getElem? h)
        have h2 := under_le k (0 + j)
        simp only [Option.map_some, Option.some.injEq]
        exact ih t (List.mem_of_getElem? h) _ (by omega)
    by_cases h : k = 1 ∧ (d : Int) ≤ n
    · by_cases h2 : n - d < by'.length
      · obtain ⟨b, hbb⟩ : ∃ b, by'[by'.length - 1 - (n - d).toNat]? = some b := ⟨_, List.getElem?_eq_getElem (by omega)⟩
        have e : putT by' d k n lv = .done (b.walk (liftT d 0) 0) := by
          unfold putT; rw [if_pos (outer_iff.2 ⟨h.1, h.2, by omega⟩), if_pos h2, List.getD_eq_getElem?_getD, hbb]; rfl
        rw [Tm.walk_done e, Tm.walk_done (putZ_near h h2 hbb)]
        exact liftT_eq (N := N) (by omega) (by omega) b (hb b (List.mem_of_getElem? hbb)) 0
      · have e : putT by' d k n lv = .go (n - by'.length) lv := by
          unfold putT; rw [if_pos (outer_iff.2 ⟨h.1, h.2, by omega⟩), if_neg h2]
        rw [Tm.walk_go e, Tm.walk_go (putZ_far h h2), hk]
    · have e : putT by' d k n lv = .go n lv := by
        unfold putT; rw [if_neg fun x => h ⟨(outer_iff.1 x).1, (outer_iff.1 x).2.1⟩]
      rw [Tm.walk_go e, Tm.walk_go (putZ_off h), hk]
/-- what is put keeps what terms have -/
theorem putZ_keeps {N : Int} {D M : Nat} {by' : List Tm} (hb : ∀ b ∈ by', b.low N ∧ b.fit ∧ b.size ≤ M) (hM : 1 ≤ M) (hN : N + D ≤ 4611686018427387904) : ∀ (t : Tm) (d : Nat), d + t.size ≤ D → t.fit → t.low N →
    (t.walk (putZ by') d).fit ∧ (t.walk (putZ by') d).low (N + D) ∧ (t.walk (putZ by') d).size ≤ t.size * M := by
  intro t
  induction t using Tm.ind with
  | h k n a lv kids ih =>
    intro d hd hf hl
    rw [Tm.size_mk] at hd
    rw [Tm.low_mk, Tm.lowL_iff] at hl
    rw [Tm.fit_mk, Tm.fitL_iff] at hf
    have hr := hf.1
    unfold Rng at hr
    have hk : ∀ u ∈ Tm.walkL (putZ by') d k 0 kids, u.fit ∧ u.low (N + D) := fun u hu => by
      obtain ⟨t, ht, j, rfl⟩ := Tm.walkL_mem hu
      have h1 := Tm.sizeL_mem ht
      have h2 := under_le k j
      have h3 := ih t ht (d + under k j) (by omega) (hf.2.2.2 t ht) (hl.2 t ht)
      exact ⟨h3.1, h3.2.1⟩
    have hs : Tm.sizeL (Tm.walkL (putZ by') d k 0 kids) ≤ Tm.sizeL kids * M := by
      have : ∀ (ts : List Tm) (i : Nat), (∀ t ∈ ts, t ∈ kids) → Tm.sizeL (Tm.walkL (putZ by') d k i ts) ≤ Tm.sizeL ts * M := by
        intro ts
        induction ts with
        | nil => intro i _; simp [Tm.walkL, Tm.sizeL]
        | cons t ts it =>
          intro i hm
          have h0 := hm t (by simp)
          have h1 := Tm.sizeL_mem h0
          have h2 := under_le k i
          have h3 := ih t h0 (d + under k i) (by omega) (hf.2.2.2 t h0) (hl.2 t h0)
          have h4 := it (i + 1) fun s q => hm s (by simp [q])
          simp only [Tm.walkL, Tm.sizeL, Nat.add_mul]
          have := h3.2.2
          omega
      exact this kids 0 fun _ h => h
    have hs2 : 1 + Tm.sizeL (Tm.walkL (putZ by') d k 0 kids) ≤ (1 + Tm.sizeL kids) * M := by rw [Nat.add_mul]; omega
    have key : ∀ n' : Int, Rng n' → n' ≤ n → (Tm.mk k n' a lv (Tm.walkL (putZ by') d k 0 kids)).fit ∧ (Tm.mk k n' a lv (Tm.walkL (putZ by') d k 0 kids)).low (N + D) ∧ (Tm.mk k n' a lv (Tm.walkL (putZ by') d k 0 kids)).size ≤ (Tm.mk k n a lv kids).size * M := fun n' h1 h2 => by
      refine ⟨(Tm.fit_mk ..).2 ⟨h1, hf.2.1, by rw [Tm.walkL_length]; exact hf.2.2.1, (Tm.fitL_iff _).2 fun u hu => (hk u hu).1⟩, (Tm.low_mk ..).2 ⟨fun e => ?_, (Tm.lowL_iff _ _).2 fun u hu => (hk u hu).2⟩, by rw [Tm.size_mk, Tm.size_mk]; exact hs2⟩
      have := hl.1 e
      omega
    by_cases h : k = 1 ∧ (d : Int) ≤ n
    · by_cases h2 : n - d < by'.length
      · obtain ⟨b, hbb⟩ : ∃ b, by'[by'.length - 1 - (n - d).toNat]? = some b := ⟨_, List.getElem?_eq_getElem (by omega)⟩
        obtain ⟨q1, q2, q3⟩ := hb b (List.mem_of_getElem? hbb)
        rw [Tm.walk_done (putZ_near h h2 hbb)]
        refine ⟨liftZ_fit (N := N) (by omega) (by omega) b q2 q1 0, Tm.low_more (N := N + d) (by omega) _ (liftZ_low (by omega) b q1 0), ?_⟩
        rw [liftZ_size, Tm.size_mk, Nat.add_mul]
        omega
      · rw [Tm.walk_go (putZ_far h h2)]
        exact key _ (by unfold Rng; omega) (by omega)
    · rw [Tm.walk_go (putZ_off h)]
      exact key _ hf.1 (Int.le_refl _)
end Go.Proofs.YtafgmndlbbjphaaDoor
