/- The memory as a list of numbered blocks; the operations that touch none of it. -/
import Derived.Test.YtaoglkkdhdfioaaDoorEvA
import Derived.Laws.Tables
import Derived.Laws.Sem
namespace Go.Proofs.YtaoglkkdhdfioaaDoor
open Go

/-- the blocks that we know of -/
structure AH where
  next : Nat
  hid : List Nat
  blk : List (Nat × Blk)
def AH.find : List (Nat × Blk) → Nat → Option Blk
  | [], _ => none
  | (s, o) :: l, r => if r = s then some o else AH.find l r
def AH.sub : List (Nat × Blk) → Nat → Blk → List (Nat × Blk)
  | [], r, o => [(r, o)]
  | (s, p) :: l, r, o => if r = s then (r, o) :: l else (s, p) :: AH.sub l r o
def AH.get (h : AH) (r : Nat) : Option Blk := AH.find h.blk r
def AH.put (h : AH) (r : Nat) (o : Blk) : AH := { h with blk := AH.sub h.blk r o }
def AH.new (h : AH) (o : Blk) : AH := { next := h.next + 1, hid := h.hid.filter (· ≠ h.next), blk := (h.next, o) :: h.blk }
theorem AH.find_sub (l : List (Nat × Blk)) (r s : Nat) (o : Blk) : AH.find (AH.sub l r o) s = if s = r then some o else AH.find l s := by
  induction l with
  | nil => simp [AH.sub, AH.find]
  | cons a l ih =>
    obtain ⟨t, p⟩ := a
    by_cases h : r = t
    · subst h
      simp only [AH.sub, if_true, AH.find]
      by_cases e : s = r <;> simp [e]
    · simp only [AH.sub, h, if_false, AH.find, ih]
      by_cases e : s = t
      · subst e
        have : ¬ s = r := fun e' => h e'.symm
        simp [this]
      · simp [e]
def updf (f : Nat → Nat) (r n : Nat) : Nat → Nat := fun s => if s = r then n else f s
def AH.mem (h : AH) (res : Nat → Nat → Prop) (g q : Nat → Nat) : Mem := ⟨fun r => r < h.next ∧ r ∉ h.hid, h.get, g, q, res⟩
theorem AH.mem_new (h : AH) (res : Nat → Nat → Prop) (g q : Nat → Nat) (o : Blk) (p n : Nat) : (h.new o).mem res (updf g h.next p) (updf q h.next n) = (h.mem res g q).upd h.next (some o) p n := by
  unfold AH.mem Mem.upd
  congr 1
  · funext r; apply propext
    simp only [AH.new, List.mem_filter, decide_eq_true_eq]
    by_cases e : r = h.next
    · subst e; simp
    · simp only [e, ne_eq, not_false_eq_true, and_true, or_false]
      constructor
      · rintro ⟨h1, h2⟩; exact ⟨by omega, h2⟩
      · rintro ⟨h1, h2⟩; exact ⟨by omega, h2⟩
theorem AH.mem_put (h : AH) (res : Nat → Nat → Prop) (g q : Nat → Nat) (r : Nat) (o : Blk) (p n : Nat) (hr : (h.mem res g q).born r) : (h.put r o).mem res (updf g r p) (updf q r n) = (h.mem res g q).upd r (some o) p n := by
  unfold AH.mem Mem.upd
  congr 1
  · funext s; apply propext
    constructor
    · exact fun h1 => .inl h1
    · rintro (h1 | rfl)
      · exact h1
      · exact hr
  · funext s; exact AH.find_sub _ _ _ _

/-- what we know of is there -/
def Agr (h : AH) (V : Mem) : Prop := ∀ r o, V.born r → h.get r = some o → V.blk r = some o
theorem Agr.mem (h : AH) (res : Nat → Nat → Prop) (g q : Nat → Nat) : Agr h (h.mem res g q) := fun _ _ _ h => h
/-- one state behind another -/
structure To (V : Mem) (w : World) (V' : Mem) (w' : World) : Prop where
  rel : Rel V' w'
  fwd : Fwd V w V' w'
  keep : Keep V w w'
  old : Old V w V'
theorem To.refl {V : Mem} {w : World} (h : Rel V w) : To V w V w := ⟨h, Fwd.refl _ _, Keep.refl _ _, Old.refl _ _⟩
theorem To.trans {V1 V2 V3 : Mem} {w1 w2 w3 : World} (h : To V1 w1 V2 w2) (k : To V2 w2 V3 w3) : To V1 w1 V3 w3 :=
  ⟨k.rel, h.fwd.trans k.fwd, h.keep.trans h.old k.keep, h.old.trans h.keep.size k.old⟩

/-- rows of values -/
def DenL (V : Mem) (w : World) (vs : Array Value) (cs : List AV) : Prop := vs.size = cs.length ∧ ∀ (i : Nat) (x : Value) (a : AV), vs[i]? = some x → cs[i]? = some a → Den V w x a
theorem DenL.fwd {V V' : Mem} {w w' : World} {vs : Array Value} {cs : List AV} (h : DenL V w vs cs) (hf : Fwd V w V' w') : DenL V' w' vs cs := ⟨h.1, fun i x a h1 h2 => (h.2 i x a h1 h2).fwd hf⟩
theorem DenL.get {V : Mem} {w : World} {vs : Array Value} {cs : List AV} (h : DenL V w vs cs) {i : Nat} {a : AV} (ha : cs[i]? = some a) : ∃ x, vs[i]? = some x ∧ Den V w x a := by
  have : i < vs.size := by rw [h.1]; exact (List.getElem?_eq_some_iff.1 ha).1
  exact ⟨vs[i], by simp [this], h.2 i _ a (by simp [this]) ha⟩
theorem DenL.raws (V : Mem) (w : World) (vs : Array Value) : DenL V w vs (vs.toList.map .raw) := ⟨by simp, fun i x a h1 h2 => by
  rw [List.getElem?_map] at h2
  have h1' : vs.toList[i]? = some x := by simpa using h1
  rw [h1'] at h2
  simp at h2
  subst h2
  exact .raw _⟩
theorem cells_of_one {v : Value} (h : v.oneCell' = true) : v.cells = #[v] := by
  cases v <;> first | rfl | (simp [Value.oneCell'] at h)
theorem Den.cells {V : Mem} {w : World} {v : Value} {a : AV} (h : Den V w v a) : DenL V w v.cells a.cells := by
  have one : ∀ {v : Value} {a : AV}, v.cells = #[v] → Den V w v a → DenL V w v.cells [a] := fun hv hd => by
    rw [hv]
    refine ⟨rfl, fun i x a h1 h2 => ?_⟩
    cases i with
    | zero => simp at h1 h2; subst h1 h2; exact hd
    | succ i => simp at h2
  cases h with
  | raw v => exact DenL.raws V w _
  | agg hl h => exact ⟨hl, h⟩
  | tup hl h => exact one rfl (.tup hl h)
  | vnil => exact one rfl .vnil
  | emp => exact one rfl .emp
  | vals X hc hs hx h => exact one rfl (.vals X hc hs hx h)
  | vptr X hx h => exact one rfl (.vptr X hx h)
  | clo hf hc h1 h2 => exact one rfl (.clo hf hc h1 h2)
  | ifc h => exact one rfl (.ifc h)
  | row hv hb h => exact one (cells_of_one hv) (.row hv hb h)
  | ptr hv hb h => exact one (cells_of_one hv) (.ptr hv hb h)
  | yld hv hb h => exact one (cells_of_one hv) (.yld hv hb h)
theorem Den.one {V : Mem} {w : World} {v : Value} {a : AV} (h : Den V w v a) (ha : a.one = true) : v.oneCell' = true := by
  cases h with
  | raw v => exact ha
  | agg hl h => cases ha
  | tup hl h => cases ha
  | row hv hb h => exact hv
  | ptr hv hb h => exact hv
  | yld hv hb h => exact hv
  | _ => rfl
end Go.Proofs.YtaoglkkdhdfioaaDoor
