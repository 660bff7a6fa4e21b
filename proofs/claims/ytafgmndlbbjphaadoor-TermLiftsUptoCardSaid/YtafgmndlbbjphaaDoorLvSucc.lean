/- What level.Succ answers of parts that may stand in a normal form, with numbers below 2^20: the normal form of the parts' normal form, each number by 1 greater, or of 1 if there are none. -/
import Derived.Test.YtafgmndlbbjphaaDoorLvMax
namespace Go.Proofs.YtafgmndlbbjphaaDoor
open Go.RowKit Go.Maps

def up1 (p : Int × Int) : Int × Int := (p.1, p.2 + 1)
def bump (k : Nat) (qs : List (Int × Int)) : List (Int × Int) := (qs.take k).map up1 ++ qs.drop k
theorem bump_length (k : Nat) (qs : List (Int × Int)) : (bump k qs).length = qs.length := by
  unfold bump
  simp
  omega
theorem bump_get {k : Nat} {qs : List (Int × Int)} (hk : k < qs.length) : (bump k qs).getD k (0, 0) = qs.getD k (0, 0) := by
  unfold bump
  rw [List.getD_eq_getElem?_getD, List.getElem?_append_right (by simp; omega)]
  simp [List.getD_eq_getElem?_getD, Nat.min_eq_left (Nat.le_of_lt hk)]
theorem bump_set {k : Nat} {qs : List (Int × Int)} (hk : k < qs.length) : (cells (bump k qs)).set (k * 2 + 1) (.int .i64 ((qs.getD k (0, 0)).2 + 1)) = cells (bump (k + 1) qs) := by
  have hd : qs.drop k = qs[k] :: qs.drop (k + 1) := List.drop_eq_getElem_cons hk
  have hg : qs.getD k (0, 0) = qs[k] := by rw [List.getD_eq_getElem?_getD, List.getElem?_eq_getElem hk]; rfl
  unfold bump
  rw [hd, hg, List.take_succ_eq_append_getElem hk, List.map_append, cells_append, cells_append, cells_append]
  have hl : (cells ((qs.take k).map up1)).length = k * 2 := by rw [cells_length]; simp; omega
  rw [List.set_append_right _ _ (by omega), hl]
  rw [show k * 2 + 1 - k * 2 = 1 from by omega, List.append_assoc]
  rfl
theorem bump_all (qs : List (Int × Int)) : bump qs.length qs = qs.map up1 := by simp [bump]

def succS (ps : List (Int × Int)) : List (Int × Int) := if nf ps = [] then nf [(0, 1)] else nf ((nf ps).map up1)
def okUp (p : Int × Int) : Prop := okPart p ∧ p.2 < 1048576
theorem okUp.up {p : Int × Int} (h : okUp p) : okPart (up1 p) := by
  obtain ⟨⟨h1, h2, h3, h4⟩, h5⟩ := h
  unfold okPart up1
  simp only
  omega
theorem nf_mem {ps : List (Int × Int)} (h0 : ∀ p ∈ ps, 0 ≤ p.1) {p : Int × Int} (h : p ∈ nf ps) : p ∈ ps := mapOf_mem ps p.1 p.2 (((nf_level h0).2 p).1 h).1
theorem nf_len {ps : List (Int × Int)} (h0 : ∀ p ∈ ps, 0 ≤ p.1) : (nf ps).length ≤ ps.length := level_len (nf_level h0)


end Go.Proofs.YtafgmndlbbjphaaDoor
