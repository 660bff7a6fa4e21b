/- Laws. -/
import Derived.Test.YtfgnnbpbbnnnhaaDoorSgaf
import Derived.Test.YtfgnnbpbbnnnhaaDoorSgal
namespace Go.Proofs.YtfgnnbpbbnnnhaaDoor
open Go.RowKit Go.Maps
/-- the declaration that a name means is of such a sort -/
def NamedS (ds : List Dc) (num : Int) (P : Dc → Prop) : Prop := 0 ≤ num ∧ ∃ D, ds[num.toNat]? = some D ∧ P D
theorem NamedS.more {ds : List Dc} {num : Int} {P : Dc → Prop} (h : NamedS ds num P) (gs : List Dc) : NamedS (ds ++ gs) num P := by
  obtain ⟨h0, D, h1, h2⟩ := h
  exact ⟨h0, D, by rw [List.getElem?_append_left (List.getElem?_eq_some_iff.1 h1).1]; exact h1, h2⟩
/-- what each kind of the source asks of a node, so many binders deep, its levels and kids left aside -/
def AskS (sc sf : Int) (ds : List Dc) (d : Nat) (k num pos : Int) (nl : Nat) : Prop :=
  (k = 1 ∧ (num < d ∨ num - d < sc)) ∨
  (k = 2 ∨ k = 4 ∨ k = 5 ∨ k = 6 ∨ k = 7) ∨
  (k = 3 ∧ NamedS ds num fun D => (D.kind = 1 ∨ D.kind = 2) ∧ (nl : Int) = D.lev) ∨
  (k = 8 ∧ NamedS ds num fun D => D.kind = 3 ∧ (nl : Int) = D.lev ∧ pos < D.mems.length) ∨
  (k = 9 ∧ NamedS ds num fun D => D.kind = 3 ∧ (nl : Int) = D.lev ∧ pos < D.ctors.length) ∨
  (k = 10 ∧ NamedS ds num fun D => D.kind = 3 ∧ (nl : Int) - 1 = D.lev ∧ pos < D.mems.length) ∨
  (k = 11 ∧ pos < sf)
mutual
/-- right in the source, so many binders deep, but for what a right term asks -/
def Tm.src (n sc sf : Int) (ds : List Dc) (d : Nat) : Tm → Prop
  | .mk k num pos lv kids => AskS sc sf ds d k num pos lv.length ∧ (∀ l ∈ lv, RightS l n) ∧ Tm.srcL n sc sf ds d k 0 kids
def Tm.srcL (n sc sf : Int) (ds : List Dc) (d : Nat) (k : Int) (i : Nat) : List Tm → Prop
  | [] => True
  | t :: ts => t.src n sc sf ds (d + under k i) ∧ Tm.srcL n sc sf ds d k (i + 1) ts
end
theorem Tm.src_mk (n sc sf : Int) (ds : List Dc) (d : Nat) (k num pos : Int) (lv : List (List (Int × Int))) (kids : List Tm) : (Tm.mk k num pos lv kids).src n sc sf ds d ↔ AskS sc sf ds d k num pos lv.length ∧ (∀ l ∈ lv, RightS l n) ∧ Tm.srcL n sc sf ds d k 0 kids := by rw [Tm.src]
theorem Tm.srcL_iff (n sc sf : Int) (ds : List Dc) (d : Nat) (k : Int) : ∀ (ts : List Tm) (i : Nat), Tm.srcL n sc sf ds d k i ts ↔ ∀ (j : Nat) (t : Tm), ts[j]? = some t → t.src n sc sf ds (d + under k (i + j))
  | [], i => by simp [Tm.srcL]
  | t :: ts, i => by
    rw [Tm.srcL, Tm.srcL_iff n sc sf ds d k ts (i + 1)]
    constructor
    · rintro ⟨h1, h2⟩ j u hj
      cases j with
      | zero => injection hj with hj; subst hj; exact h1
      | succ j => rw [show i + (j + 1) = i + 1 + j by omega]; exact h2 j u (by simpa using hj)
    · intro h
      exact ⟨h 0 t rfl, fun j u hj => by rw [show i + 1 + j = i + (j + 1) by omega]; exact h (j + 1) u (by simpa using hj)⟩
/-- right in the source -/
def RightSrc (n sc sf : Int) (ds : List Dc) (t : Tm) : Prop := t.right = true ∧ t.src n sc sf ds 0
theorem RightS.up {ps : List (Int × Int)} {n m : Int} (h : RightS ps n) (hm : n ≤ m) : RightS ps m := ⟨h.1, fun i hi => by
  obtain ⟨h1, h2, h3⟩ := h.2 i hi
  exact ⟨h1, by omega, h3⟩⟩
theorem AskS.more {sc sf : Int} {ds : List Dc} {d : Nat} {k num pos : Int} {nl : Nat} (h : AskS sc sf ds d k num pos nl) {sc' sf' : Int} (ho : sc ≤ sc') (hs : sf ≤ sf') (gs : List Dc) : AskS sc' sf' (ds ++ gs) d k num pos nl := by
  unfold AskS at h ⊢
  rcases h with h | h | h | h | h | h | h
  · exact Or.inl ⟨h.1, by have := h.2; omega⟩
  · exact Or.inr (Or.inl h)
  · exact Or.inr (Or.inr (Or.inl ⟨h.1, h.2.more gs⟩))
  · exact Or.inr (Or.inr (Or.inr (Or.inl ⟨h.1, h.2.more gs⟩)))
  · exact Or.inr (Or.inr (Or.inr (Or.inr (Or.inl ⟨h.1, h.2.more gs⟩))))
  · exact Or.inr (Or.inr (Or.inr (Or.inr (Or.inr (Or.inl ⟨h.1, h.2.more gs⟩)))))
  · exact Or.inr (Or.inr (Or.inr (Or.inr (Or.inr (Or.inr ⟨h.1, by have := h.2; omega⟩)))))
theorem src_more {n sc sf : Int} {ds : List Dc} {n' sc' sf' : Int} (hn : n ≤ n') (ho : sc ≤ sc') (hs : sf ≤ sf') (gs : List Dc) : ∀ (t : Tm) (d : Nat), t.src n sc sf ds d → t.src n' sc' sf' (ds ++ gs) d := by
  refine Tm.ind ?_
  intro k num pos lv kids ih d h
  rw [Tm.src_mk] at h ⊢
  exact ⟨h.1.more ho hs gs, fun l hl => (h.2.1 l hl).up hn, (Tm.srcL_iff ..).2 fun j t ht => ih t (List.mem_of_getElem? ht) _ ((Tm.srcL_iff ..).1 h.2.2 j t ht)⟩
theorem AskS.shift {sc sf : Int} {ds : List Dc} {d : Nat} (h0 : 0 ≤ sc) (e : Nat) {k num pos : Int} {nl : Nat} : AskS sc sf ds (d + e) k num pos nl ↔ AskS (sc + e) sf ds d k num pos nl := by
  have h1 : (num < ((d + e : Nat) : Int) ∨ num - ((d + e : Nat) : Int) < sc) ↔ (num < (d : Int) ∨ num - (d : Int) < sc + (e : Int)) := by omega
  unfold AskS
  rw [h1]
theorem src_shift {n sc sf : Int} {ds : List Dc} (h0 : 0 ≤ sc) (e : Nat) : ∀ (t : Tm) (d : Nat), t.src n sc sf ds (d + e) ↔ t.src n (sc + e) sf ds d := by
  refine Tm.ind ?_
  intro k num pos lv kids ih d
  rw [Tm.src_mk, Tm.src_mk, AskS.shift h0, Tm.srcL_iff, Tm.srcL_iff]
  have : (∀ (j : Nat) (t : Tm), kids[j]? = some t → t.src n sc sf ds (d + e + under k (0 + j))) ↔ ∀ (j : Nat) (t : Tm), kids[j]? = some t → t.src n (sc + e) sf ds (d + under k (0 + j)) :=
    forall_congr' fun j => forall_congr' fun t => forall_congr' fun ht => by
      rw [show d + e + under k (0 + j) = d + under k (0 + j) + e by omega]
      exact ih t (List.mem_of_getElem? ht) _
  rw [this]
theorem sizeL_kid {kids : List Tm} {k num pos : Int} {lv : List (List (Int × Int))} : ∀ t ∈ kids, t.size + 1 ≤ (Tm.mk k num pos lv kids).size := fun t ht => by
  rw [Tm.size_mk]
  have := Tm.sizeL_mem ht
  omega
/-- a node's number turned, all else as it was: what is asked of it -/
theorem AskS.num {sc sf sc' : Int} {ds : List Dc} {d : Nat} {k num pos : Int} {nl : Nat} (h : AskS sc sf ds d k num pos nl) (hk : k ≠ 1) : AskS sc' sf ds d k num pos nl := by
  unfold AskS at h ⊢
  rcases h with h | h
  · exact absurd h.1 hk
  · exact Or.inr h
/-- lifted, what is right is right with so many variables more -/
theorem src_lift {n sc sf m f : Int} {ds : List Dc} (hm : 0 ≤ m) (hm9 : m ≤ 1048576) (h0 : 0 ≤ sc) (ho : sc ≤ 1048576) : ∀ (t : Tm) (d : Nat), d + t.size ≤ 1073741824 → t.src n sc sf ds d → (t.walk (liftT m f) d).src n (sc + m) sf ds d := by
  refine Tm.ind ?_
  intro k num pos lv kids ih d hd h
  rw [Tm.src_mk] at h
  rw [Tm.walk_go (tr := liftT m f) (n' := liftN d k num f m) (lv' := lv) rfl, Tm.src_mk]
  refine ⟨?_, h.2.1, (Tm.srcL_iff ..).2 fun j u hu => ?_⟩
  · by_cases hk : k = 1
    · have h1 := h.1
      unfold AskS at h1 ⊢
      have h2 : num < d ∨ num - d < sc := by omega
      refine Or.inl ⟨hk, ?_⟩
      unfold liftN
      split
      · rename_i hh
        obtain ⟨_, q2, _⟩ := outer_iff.1 hh
        rw [IntWalk.i64_in _ (by omega)]
        omega
      · omega
    · have hn : liftN d k num f m = num := by
        unfold liftN outer
        rw [decide_eq_false (by omega)]
        rfl
      rw [hn]
      exact h.1.num hk
  · rw [Tm.walkL_get] at hu
    cases e : kids[j]? with
    | none => rw [e] at hu; simp at hu
    | some t =>
      rw [e] at hu
      simp at hu
      subst hu
      have ht := List.mem_of_getElem? e
      have hu1 := under_le k j
      have := sizeL_kid (k := k) (num := num) (pos := pos) (lv := lv) t ht
      have h3 := (Tm.srcL_iff ..).1 h.2.2 j t e
      simp only [Nat.zero_add] at h3 ⊢
      exact ih t ht _ (by omega) h3
/-- with right terms put for the lowest variables, what is right is right with so many fewer -/
theorem src_put {n sc sf : Int} {ds : List Dc} {by' : List Tm} (ho : sc ≤ 1048576) (hl : (by'.length : Int) ≤ sc) (hb : ∀ b ∈ by', b.size ≤ 1048576 ∧ b.src n (sc - by'.length) sf ds 0) : ∀ (t : Tm) (d : Nat), d + t.size ≤ 1048576 → t.src n sc sf ds d → (t.walk (putT by') d).src n (sc - by'.length) sf ds d := by
  refine Tm.ind ?_
  intro k num pos lv kids ih d hd h
  rw [Tm.src_mk] at h
  have hkids : Tm.srcL n (sc - by'.length) sf ds d k 0 (Tm.walkL (putT by') d k 0 kids) := by
    refine (Tm.srcL_iff ..).2 fun j u hu => ?_
    rw [Tm.walkL_get] at hu
    cases e : kids[j]? with
    | none => rw [e] at hu; simp at hu
    | some t =>
      rw [e] at hu
      simp at hu
      subst hu
      have ht := List.mem_of_getElem? e
      have hu1 := under_le k j
      have := sizeL_kid (k := k) (num := num) (pos := pos) (lv := lv) t ht
      have h3 := (Tm.srcL_iff ..).1 h.2.2 j t e
      simp only [Nat.zero_add] at h3 ⊢
      exact ih t ht _ (by omega) h3
  by_cases hk : k = 1
  · have h1 := h.1
    unfold AskS at h1
    have h2 : num < d ∨ num - d < sc := by omega
    by_cases hd1 : (d : Int) ≤ num
    · have hout : outer d k num 0 = true := decide_eq_true ⟨hk, hd1, by omega⟩
      by_cases hn : num - d < by'.length
      · have hlt : by'.length - 1 - (num - d).toNat < by'.length := by omega
        have hw : (Tm.mk k num pos lv kids).walk (putT by') d = (by'[by'.length - 1 - (num - d).toNat]).walk (liftT d 0) 0 := by
          refine Tm.walk_done ?_
          unfold putT
          rw [if_pos hout, if_pos hn, List.getD_eq_getElem?_getD, List.getElem?_eq_getElem hlt]
          rfl
        rw [hw]
        obtain ⟨q1, q2⟩ := hb _ (List.getElem_mem hlt)
        have hs := Tm.size_pos (Tm.mk k num pos lv kids)
        have q3 := src_lift (n := n) (sc := sc - by'.length) (sf := sf) (m := d) (f := 0) (ds := ds) (by omega) (by omega) (by omega) (by omega) _ 0 (by omega) q2
        have q4 := (src_shift (n := n) (sc := sc - by'.length) (sf := sf) (ds := ds) (by omega) d _ 0).2 q3
        rwa [Nat.zero_add] at q4
      · have hw : (Tm.mk k num pos lv kids).walk (putT by') d = .mk k (num - by'.length) pos lv (Tm.walkL (putT by') d k 0 kids) := by
          refine Tm.walk_go ?_
          unfold putT
          rw [if_pos hout, if_neg hn]
        rw [hw, Tm.src_mk]
        refine ⟨?_, h.2.1, hkids⟩
        unfold AskS
        exact Or.inl ⟨hk, by omega⟩
    · have hw : (Tm.mk k num pos lv kids).walk (putT by') d = .mk k num pos lv (Tm.walkL (putT by') d k 0 kids) := by
        refine Tm.walk_go ?_
        unfold putT
        rw [if_neg (by unfold outer; rw [decide_eq_false (by omega)]; decide)]
      rw [hw, Tm.src_mk]
      refine ⟨?_, h.2.1, hkids⟩
      unfold AskS
      exact Or.inl ⟨hk, by omega⟩
  · have hw : (Tm.mk k num pos lv kids).walk (putT by') d = .mk k num pos lv (Tm.walkL (putT by') d k 0 kids) := by
      refine Tm.walk_go ?_
      unfold putT outer
      rw [decide_eq_false (by omega)]
      rfl
    rw [hw, Tm.src_mk]
    exact ⟨h.1.num hk, h.2.1, hkids⟩
/-- lifted, a right term with few variables is right -/
theorem rightB_lift {n sc sf m : Int} {ds : List Dc} (hm : 0 ≤ m) (hm9 : m ≤ 1000) (h0 : 0 ≤ sc) (ho : sc ≤ 1000) : ∀ (t : Tm) (d : Nat) (b deep : Int), (d : Int) + 1 ≤ deep → (t.rightB b deep).1 = true → t.src n sc sf ds d → (t.walk (liftT m 0) d).rightB b deep = t.rightB b deep := by
  refine Tm.ind ?_
  intro k num pos lv kids ih d b deep hd hr h
  rw [Tm.src_mk] at h
  rw [Tm.walk_go (tr := liftT m 0) (n' := liftN d k num 0 m) (lv' := lv) rfl, Tm.rightB_mk, Tm.rightB_mk, Tm.walkL_length]
  rw [Tm.rightB_mk] at hr
  split at hr
  · cases hr
  rename_i hn
  have hnum : ofKindB k (liftN d k num 0 m) pos lv kids.length = ofKindB k num pos lv kids.length := by
    unfold liftN
    split
    · rename_i hh
      obtain ⟨hk, q2, _⟩ := outer_iff.1 hh
      subst hk
      have h1 := h.1
      unfold AskS at h1
      have h2 : num < d ∨ num - d < sc := by omega
      rw [IntWalk.i64_in _ (by omega)]
      have hx : ofKindB 1 num pos lv kids.length = true := by
        cases e : ofKindB 1 num pos lv kids.length with
        | true => rfl
        | false => exact absurd (Or.inr (Or.inr e)) hn
      have hnb : numberB (num + m) (kindRow (1 : Int).toNat).1 = true := by
        show numberB (num + m) true = true
        unfold numberB
        by_cases e : num + m = 0
        · simp [e]
        · simp [e]
          omega
      have hnb2 : numberB num (kindRow (1 : Int).toNat).1 = true := by
        show numberB num true = true
        unfold numberB
        by_cases e : num = 0
        · simp [e]
        · simp [e]
          omega
      unfold ofKindB
      rw [hnb, hnb2]
    · rfl
  rw [hnum, if_neg hn]
  have hL : ∀ (ts : List Tm) (i : Nat) (b : Int), (∀ (j : Nat) (t : Tm), ts[j]? = some t → kids[i + j]? = some t) → (Tm.rightBL b (deep + 1) ts).1 = true → Tm.rightBL b (deep + 1) (Tm.walkL (liftT m 0) d k i ts) = Tm.rightBL b (deep + 1) ts := by
    intro ts
    induction ts with
    | nil => intro i b _ _; rfl
    | cons t ts it =>
      intro i b hmem hb
      have e0 : kids[i]? = some t := hmem 0 t rfl
      have hs := (Tm.srcL_iff ..).1 h.2.2 i t e0
      rw [Nat.zero_add] at hs
      rw [Tm.rightBL_cons] at hb
      split at hb
      · rename_i h1
        have := ih t (List.mem_of_getElem? e0) (d + under k i) b (deep + 1) (by have := under_le k i; omega) h1 hs
        rw [Tm.walkL, Tm.rightBL_cons, Tm.rightBL_cons, this, if_pos h1, if_pos h1]
        exact it (i + 1) _ (fun j u hj => by rw [show i + 1 + j = i + (j + 1) by omega]; exact hmem (j + 1) u (by simpa using hj)) hb
      · rename_i h1
        exact absurd hb h1
  have := hL kids 0 (b - 1) (fun j t hj => by rw [Nat.zero_add]; exact hj) hr
  rw [this, if_neg hn]
theorem right_lift {n sc sf m : Int} {ds : List Dc} (hm : 0 ≤ m) (hm9 : m ≤ 1000) (h0 : 0 ≤ sc) (ho : sc ≤ 1000) {t : Tm} (h : RightSrc n sc sf ds t) (hs : t.size ≤ 1048576) : RightSrc n (sc + m) sf ds (t.walk (liftT m 0) 0) := by
  refine ⟨?_, src_lift hm (by omega) h0 (by omega) t 0 (by omega) h.2⟩
  unfold Tm.right
  rw [rightB_lift hm hm9 h0 ho t 0 20000 1 (by decide) h.1 h.2]
  exact h.1
end Go.Proofs.YtfgnnbpbbnnnhaaDoor
