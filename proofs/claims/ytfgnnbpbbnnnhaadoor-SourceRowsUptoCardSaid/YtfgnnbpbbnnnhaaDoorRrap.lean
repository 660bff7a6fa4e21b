/- Laws. -/
import Derived.Test.YtfgnnbpbbnnnhaaDoorRrak
import Derived.Test.YtfgnnbpbbnnnhaaDoorRran
namespace Go.Proofs.YtfgnnbpbbnnnhaaDoor
open Go.RowKit Go.Maps
/-- the declaration that a name means is of such a sort -/
def NamedS (ds : List Dc) (num : Int) (P : Dc → Prop) : Prop := 0 ≤ num ∧ ∃ D, ds[num.toNat]? = some D ∧ P D
theorem NamedS.more {ds : List Dc} {num : Int} {P : Dc → Prop} (h : NamedS ds num P) (gs : List Dc) : NamedS (ds ++ gs) num P := by
  obtain ⟨h0, D, h1, h2⟩ := h
  exact ⟨h0, D, by rw [List.getElem?_append_left (List.getElem?_eq_some_iff.1 h1).1]; exact h1, h2⟩
/-- what each kind of the source asks of a node, so many binders deep, its levels and kids left aside -/
def AskS (sc sf : Int) (ds : List Dc) (d : Nat) (k num pos : Int) (nl : Nat) : Prop :=
  (k = 1 ∧ (num < d ∨ num - d < sc)) ∨
  (k = 2 ∨ k = 4 ∨ k = 5 ∨ k = 6 ∨ k = 7) ∨
  (k = 3 ∧ NamedS ds num fun D => (D.kind = 1 ∨ D.kind = 2) ∧ (nl : Int) = D.lev) ∨
  (k = 8 ∧ NamedS ds num fun D => D.kind = 3 ∧ (nl : Int) = D.lev ∧ pos < D.mems.length) ∨
  (k = 9 ∧ NamedS ds num fun D => D.kind = 3 ∧ (nl : Int) = D.lev ∧ pos < D.ctors.length) ∨
  (k = 10 ∧ NamedS ds num fun D => D.kind = 3 ∧ (nl : Int) - 1 = D.lev ∧ pos < D.mems.length) ∨
  (k = 11 ∧ pos < sf)
mutual
/-- right in the source, so many binders deep, but for what a right term asks -/
def Tm.src (n sc sf : Int) (ds : List Dc) (d : Nat) : Tm → Prop
  | .mk k num pos lv kids => AskS sc sf ds d k num pos lv.length ∧ (∀ l ∈ lv, RightS l n) ∧ Tm.srcL n sc sf ds d k 0 kids
def Tm.srcL (n sc sf : Int) (ds : List Dc) (d : Nat) (k : Int) (i : Nat) : List Tm → Prop
  | [] => True
  | t :: ts => t.src n sc sf ds (d + under k i) ∧ Tm.srcL n sc sf ds d k (i + 1) ts
end
theorem Tm.src_mk (n sc sf : Int) (ds : List Dc) (d : Nat) (k num pos : Int) (lv : List (List (Int × Int))) (kids : List Tm) : (Tm.mk k num pos lv kids).src n sc sf ds d ↔ AskS sc sf ds d k num pos lv.length ∧ (∀ l ∈ lv, RightS l n) ∧ Tm.srcL n sc sf ds d k 0 kids := by rw [Tm.src]
theorem Tm.srcL_iff (n sc sf : Int) (ds : List Dc) (d : Nat) (k : Int) : ∀ (ts : List Tm) (i : Nat), Tm.srcL n sc sf ds d k i ts ↔ ∀ (j : Nat) (t : Tm), ts[j]? = some t → t.src n sc sf ds (d + under k (i + j))
  | [], i => by simp [Tm.srcL]
  | t :: ts, i => by
    rw [Tm.srcL, Tm.srcL_iff n sc sf ds d k ts (i + 1)]
    constructor
    · rintro ⟨h1, h2⟩ j u hj
      cases j with
      | zero => injection hj with hj; subst hj; exact h1
      | succ j => rw [show i + (j + 1) = i + 1 + j by omega]; exact h2 j u (by simpa using hj)
    · intro h
      exact ⟨h 0 t rfl, fun j u hj => by rw [show i + 1 + j = i + (j + 1) by omega]; exact h (j + 1) u (by simpa using hj)⟩
/-- right in the source -/
def RightSrc (n sc sf : Int) (ds : List Dc) (t : Tm) : Prop := t.right = true ∧ t.src n sc sf ds 0
theorem RightS.up {ps : List (Int × Int)} {n m : Int} (h : RightS ps n) (hm : n ≤ m) : RightS ps m := ⟨h.1, fun i hi => by
  obtain ⟨h1, h2, h3⟩ := h.2 i hi
  exact ⟨h1, by omega, h3⟩⟩
theorem AskS.more {sc sf : Int} {ds : List Dc} {d : Nat} {k num pos : Int} {nl : Nat} (h : AskS sc sf ds d k num pos nl) {sc' sf' : Int} (ho : sc ≤ sc') (hs : sf ≤ sf') (gs : List Dc) : AskS sc' sf' (ds ++ gs) d k num pos nl := by
  unfold AskS at h ⊢
  rcases h with h | h | h | h | h | h | h
  · exact Or.inl ⟨h.1, by have := h.2; omega⟩
  · exact Or.inr (Or.inl h)
  · exact Or.inr (Or.inr (Or.inl ⟨h.1, h.2.more gs⟩))
  · exact Or.inr (Or.inr (Or.inr (Or.inl ⟨h.1, h.2.more gs⟩)))
  · exact Or.inr (Or.inr (Or.inr (Or.inr (Or.inl ⟨h.1, h.2.more gs⟩))))
  · exact Or.inr (Or.inr (Or.inr (Or.inr (Or.inr (Or.inl ⟨h.1, h.2.more gs⟩)))))
  · exact Or.inr (Or.inr (Or.inr (Or.inr (Or.inr (Or.inr ⟨h.1, by have := h.2; omega⟩)))))
theorem src_more {n sc sf : Int} {ds : List Dc} {n' sc' sf' : Int} (hn : n ≤ n') (ho : sc ≤ sc') (hs : sf ≤ sf') (gs : List Dc) : ∀ (t : Tm) (d : Nat), t.src n sc sf ds d → t.src n' sc' sf' (ds ++ gs) d := by
  refine Tm.ind ?_
  intro k num pos lv kids ih d h
  rw [Tm.src_mk] at h ⊢
  exact ⟨h.1.more ho hs gs, fun l hl => (h.2.1 l hl).up hn, (Tm.srcL_iff ..).2 fun j t ht => ih t (List.mem_of_getElem? ht) _ ((Tm.srcL_iff ..).1 h.2.2 j t ht)⟩
theorem AskS.shift {sc sf : Int} {ds : List Dc} {d : Nat} (h0 : 0 ≤ sc) (e : Nat) {k num pos : Int} {nl : Nat} : AskS sc sf ds (d + e) k num pos nl ↔ AskS (sc + e) sf ds d k num pos nl := by
  have h1 : (num < ((d + e : Nat) : Int) ∨ num - ((d + e : Nat) : Int) < sc) ↔ (num < (d : Int) ∨ num - (d : Int) < sc + (e : Int)) := by omega
  unfold AskS
  rw [h1]
theorem src_shift {n sc sf : Int} {ds : List Dc} (h0 : 0 ≤ sc) (e : Nat) : ∀ (t : Tm) (d : Nat), t.src n sc sf ds (d + e) ↔ t.src n (sc + e) sf ds d := by
  refine Tm.ind ?_
  intro k num pos lv kids ih d
  rw [Tm.src_mk, Tm.src_mk, AskS.shift h0, Tm.srcL_iff, Tm.srcL_iff]
  have : (∀ (j : Nat) (t : Tm), kids[j]? = some t → t.src n sc sf ds (d + e + under k (0 + j))) ↔ ∀ (j : Nat) (t : Tm), kids[j]? = some t → t.src n (sc + e) sf ds (d + under k (0 + j)) :=
    forall_congr' fun j => forall_congr' fun t => forall_congr' fun ht => by
      rw [show d + e + under k (0 + j) = d + under k (0 + j) + e by omega]
      exact ih t (List.mem_of_getElem? ht) _
  rw [this]
end Go.Proofs.YtfgnnbpbbnnnhaaDoor
