/- Terms and levels as values. -/
import Derived.Test.YtaoglkkdhdfioaaDoorEvU
namespace Go.Proofs.YtaoglkkdhdfioaaDoor
open Go
/-- A term, as a tree: its kind, number, place, levels (each by its parts), kids. -/
inductive Tm where
  | mk (kind num pos : Int) (lv : List (List (Int × Int))) (kids : List Tm)
theorem Tm.ind {P : Tm → Prop} (h : ∀ k n a lv kids, (∀ t ∈ kids, P t) → P (.mk k n a lv kids)) : ∀ t, P t
  | .mk k n a lv kids => h k n a lv kids fun t _ => Tm.ind h t
abbrev eInt (n : Int) : AV := .raw (.int .i64 n)
abbrev eBool (b : Bool) : AV := .raw (.bool b)
abbrev unitV : AV := .raw (.tuple #[])
def ePart (p : Int × Int) : AV := .agg [eInt p.1, eInt p.2]
def eLv (l : List (Int × Int)) : AV := .agg [.vals 2 (l.map ePart)]
mutual
def eTm : Tm → AV
  | .mk k n a lv kids => .agg [eInt k, eInt n, eInt a, .vals 1 (lv.map eLv), .vals 5 (eTms kids)]
def eTms : List Tm → List AV
  | [] => []
  | t :: ts => eTm t :: eTms ts
end
theorem eTms_map : ∀ ts : List Tm, eTms ts = ts.map eTm
  | [] => by rw [eTms]; rfl
  | t :: ts => by rw [eTms, eTms_map ts]; rfl
theorem eTm_mk (k n a : Int) (lv : List (List (Int × Int))) (kids : List Tm) : eTm (.mk k n a lv kids) = .agg [eInt k, eInt n, eInt a, .vals 1 (lv.map eLv), .vals 5 (kids.map eTm)] := by rw [eTm, eTms_map]
theorem pure_part (p : Int × Int) : Pure (ePart p) := .agg fun a h => by
  simp at h
  rcases h with rfl | rfl <;> exact .raw _
theorem pure_parts (sz : Nat) (ps : List (Int × Int)) : Pure (.vals sz (ps.map ePart)) := .vals fun e he => by
  obtain ⟨p, _, rfl⟩ := List.mem_map.1 he
  exact pure_part p
theorem pure_lv (l : List (Int × Int)) : Pure (eLv l) := .agg fun a h => by
  simp at h; subst h
  refine .vals fun e he => ?_
  obtain ⟨p, _, rfl⟩ := List.mem_map.1 he
  exact pure_part p
theorem pure_lvs (sz : Nat) (ls : List (List (Int × Int))) : Pure (.vals sz (ls.map eLv)) := .vals fun e he => by
  obtain ⟨p, _, rfl⟩ := List.mem_map.1 he
  exact pure_lv p
theorem pure_tm : ∀ t : Tm, Pure (eTm t) := Tm.ind fun k n a lv kids ih => by
  rw [eTm_mk]
  refine .agg fun b h => ?_
  simp at h
  rcases h with rfl | rfl | rfl | rfl | rfl
  · exact .raw _
  · exact .raw _
  · exact .raw _
  · exact pure_lvs 1 lv
  · refine .vals fun e he => ?_
    obtain ⟨p, hp, rfl⟩ := List.mem_map.1 he
    exact ih p hp
theorem pure_tms (sz : Nat) (ts : List Tm) : Pure (.vals sz (ts.map eTm)) := .vals fun e he => by
  obtain ⟨p, _, rfl⟩ := List.mem_map.1 he
  exact pure_tm p
/-- what is pure is of any stretch -/
theorem Pure.of {S : Nat → Prop} {a : AV} (h : Pure a) : Of S a := by
  induction h with
  | raw v => exact .raw v
  | agg _ ih => exact .agg ih
  | tup _ ih => exact .tup ih
  | vals _ ih => exact .vals ih
  | emp => exact .emp
  | vptr _ ih => exact .vptr ih
  | clo _ _ ih1 ih2 => exact .clo ih1 ih2
  | ifc _ ih => exact .ifc ih
/-! ### A scope's end, part by part -/
section
variable {P : Program} {f' : AF} {h h' : AH} {Q : Ex → AF → AH → Prop}
def OfL (S : Nat → Prop) : List (Nat × AV) → Prop
  | [] => True
  | p :: l => Of S p.2 ∧ OfL S l
def OfC (S : Nat → Prop) : List AV → Prop
  | [] => True
  | a :: l => Of S a ∧ OfC S l
def OfM (S : Nat → Prop) : List Nat → Prop
  | [] => True
  | m :: l => S m ∧ OfM S l
def OfE (S : Nat → Prop) : Ex → Prop
  | .pan v => Of S v
  | _ => True
def OfK (S : Nat → Prop) : Blk → Prop
  | .cells c => OfC S c.cs
  | .loop l => S l.mark ∧ OfL S l.tmps.l
  | .mark => True
def OfH (S : Nat → Prop) : List (Nat × Blk) → Prop
  | [] => True
  | p :: l => OfK S p.2 ∧ OfH S l
theorem OfL.all {S : Nat → Prop} : ∀ {l : List (Nat × AV)}, OfL S l → ∀ p ∈ l, Of S p.2
  | [], _, p, hp => by cases hp
  | q :: l, h, p, hp => by
    rcases List.mem_cons.1 hp with rfl | hp
    · exact h.1
    · exact OfL.all h.2 p hp
theorem OfC.all {S : Nat → Prop} : ∀ {l : List AV}, OfC S l → ∀ p ∈ l, Of S p
  | [], _, p, hp => by cases hp
  | q :: l, h, p, hp => by
    rcases List.mem_cons.1 hp with rfl | hp
    · exact h.1
    · exact OfC.all h.2 p hp
theorem OfC.of {S : Nat → Prop} : ∀ {l : List AV}, (∀ p ∈ l, Of S p) → OfC S l
  | [], _ => trivial
  | q :: l, h => ⟨h q (List.mem_cons_self ..), OfC.of fun p hp => h p (List.mem_cons_of_mem _ hp)⟩
theorem OfM.all {S : Nat → Prop} : ∀ {l : List Nat}, OfM S l → ∀ p ∈ l, S p
  | [], _, p, hp => by cases hp
  | q :: l, h, p, hp => by
    rcases List.mem_cons.1 hp with rfl | hp
    · exact h.1
    · exact OfM.all h.2 p hp
theorem OfK.ofB {S : Nat → Prop} : ∀ {b : Blk}, OfK S b → OfB S b
  | .cells c, h => OfC.all h
  | .loop l, h => ⟨h.1, fun i a e => OfL.all h.2 _ (look_mem e)⟩
  | .mark, _ => trivial
theorem OfH.all {S : Nat → Prop} : ∀ {l : List (Nat × Blk)}, OfH S l → ∀ p ∈ l, OfB S p.2
  | [], _, p, hp => by cases hp
  | q :: l, h, p, hp => by
    rcases List.mem_cons.1 hp with rfl | hp
    · exact h.1.ofB
    · exact OfH.all h.2 p hp
theorem within_of {L : List Nat} {e : Ex} (h1 : OfL h.has (f'.keep L).t.l) (h2 : OfM h.has f'.marks) (h3 : OfE h.has e) (h4 : OfH h.has (h'.cut h).blk) (h5 : Q e (f'.keep L) (h'.cut h)) : within h L Q e f' h' :=
  ⟨h1.all, h2.all, fun v hv => by subst hv; exact h3, h4.all, h5⟩
end
theorem has_nil {n r : Nat} {l : List (Nat × Blk)} (h : Nat.blt r n = true) : AH.has ⟨n, [], l⟩ r := ⟨by simpa [Nat.blt_eq] using h, by simp⟩
theorem ofC_pure {S : Nat → Prop} {l : List AV} (h : ∀ a ∈ l, Pure a) : OfC S l := OfC.of fun a ha => (h a ha).of
mutual
def Tm.size : Tm → Nat
  | .mk _ _ _ _ kids => 1 + Tm.sizeL kids
def Tm.sizeL : List Tm → Nat
  | [] => 0
  | t :: ts => t.size + Tm.sizeL ts
end
theorem Tm.size_mk (k n a : Int) (lv : List (List (Int × Int))) (kids : List Tm) : (Tm.mk k n a lv kids).size = 1 + Tm.sizeL kids := by rw [Tm.size]
theorem Tm.sizeL_take : ∀ (ts : List Tm) (i : Nat) (t : Tm), ts[i]? = some t → Tm.sizeL (ts.take (i + 1)) = Tm.sizeL (ts.take i) + t.size
  | [], i, t, h => by simp at h
  | s :: ts, 0, t, h => by
    simp at h; subst h
    simp [Tm.sizeL]
  | s :: ts, i + 1, t, h => by
    simp only [List.take_succ_cons, Tm.sizeL]
    rw [Tm.sizeL_take ts i t (by simpa using h)]
    omega
theorem Tm.sizeL_le (ts : List Tm) (i : Nat) : Tm.sizeL (ts.take i) ≤ Tm.sizeL ts := by
  induction ts generalizing i with
  | nil => simp
  | cons s ts ih =>
    cases i with
    | zero => simp [Tm.sizeL]
    | succ i =>
      have := ih i
      simp only [List.take_succ_cons, Tm.sizeL]
      omega
theorem Tm.sizeL_len : ∀ ts : List Tm, ts.length ≤ Tm.sizeL ts
  | [] => by simp
  | .mk k n a lv kids :: ts => by
    have := Tm.sizeL_len ts
    simp only [List.length_cons, Tm.sizeL, Tm.size_mk]
    omega
/-! ### Two rows, the same? -/
def sameL {α : Type} (eq : α → α → Bool) : List α → List α → Bool
  | [], [] => true
  | x :: xs, y :: ys => eq x y && sameL eq xs ys
  | _, _ => false
theorem sameL_len {α : Type} {eq : α → α → Bool} : ∀ {xs ys : List α}, xs.length ≠ ys.length → sameL eq xs ys = false
  | [], [], h => absurd rfl h
  | [], y :: ys, _ => rfl
  | x :: xs, [], _ => rfl
  | x :: xs, y :: ys, h => by simp only [sameL, sameL_len (xs := xs) (ys := ys) (by simpa using h), Bool.and_false]
theorem sameL_no {α : Type} {eq : α → α → Bool} : ∀ {xs ys : List α} (i : Nat) {x y : α}, xs[i]? = some x → ys[i]? = some y → eq x y = false → sameL eq xs ys = false
  | [], _, i, x, y, h, _, _ => by simp at h
  | x :: xs, [], i, _, y, _, h, _ => by simp at h
  | x :: xs, y :: ys, 0, _, _, h1, h2, h => by
    simp at h1 h2
    subst h1 h2
    simp only [sameL, h, Bool.false_and]
  | x :: xs, y :: ys, i + 1, _, _, h1, h2, h => by simp only [sameL, sameL_no i (by simpa using h1) (by simpa using h2) h, Bool.and_false]
theorem sameL_yes {α : Type} {eq : α → α → Bool} : ∀ {xs ys : List α}, xs.length = ys.length → (∀ (i : Nat) (x y : α), xs[i]? = some x → ys[i]? = some y → eq x y = true) → sameL eq xs ys = true
  | [], [], _, _ => rfl
  | [], y :: ys, h, _ => by simp at h
  | x :: xs, [], h, _ => by simp at h
  | x :: xs, y :: ys, h, he => by simp only [sameL, he 0 x y rfl rfl, sameL_yes (xs := xs) (ys := ys) (by simpa using h) fun i a b h1 h2 => he (i + 1) a b (by simpa using h1) (by simpa using h2), Bool.and_self]
def small (n : Nat) : Prop := n ≤ 1048576
def lensSum : List (List (Int × Int)) → Nat
  | [] => 0
  | l :: ls => 1 + l.length + lensSum ls
theorem lensSum_len : ∀ ls : List (List (Int × Int)), ls.length ≤ lensSum ls
  | [] => by simp [lensSum]
  | l :: ls => by
    have := lensSum_len ls
    simp only [lensSum, List.length_cons]; omega
theorem lensSum_mem : ∀ (ls : List (List (Int × Int))) (l : List (Int × Int)), l ∈ ls → l.length ≤ lensSum ls
  | [], l, h => by cases h
  | m :: ls, l, h => by
    simp only [lensSum]
    rcases List.mem_cons.1 h with rfl | h
    · omega
    · have := lensSum_mem ls l h
      omega
mutual
/-- a term, counted: its nodes, the levels in them and their parts -/
def Tm.count : Tm → Nat
  | .mk _ _ _ lv kids => 1 + lensSum lv + Tm.countL kids
def Tm.countL : List Tm → Nat
  | [] => 0
  | t :: ts => t.count + Tm.countL ts
end
theorem Tm.count_mk (k n a : Int) (lv : List (List (Int × Int))) (kids : List Tm) : (Tm.mk k n a lv kids).count = 1 + lensSum lv + Tm.countL kids := by rw [Tm.count]
theorem Tm.count_pos (t : Tm) : 0 < t.count := by
  obtain ⟨k, n, a, lv, kids⟩ := t
  rw [Tm.count_mk]; omega
theorem Tm.countL_len : ∀ ts : List Tm, ts.length ≤ Tm.countL ts
  | [] => by simp
  | t :: ts => by
    have := Tm.countL_len ts
    have := t.count_pos
    simp only [List.length_cons, Tm.countL]; omega
theorem Tm.countL_mem : ∀ (ts : List Tm) (t : Tm), t ∈ ts → t.count ≤ Tm.countL ts
  | [], t, h => by cases h
  | s :: ts, t, h => by
    simp only [Tm.countL]
    rcases List.mem_cons.1 h with rfl | h
    · omega
    · have := Tm.countL_mem ts t h
      omega
mutual
/-- the same, part by part -/
def Tm.same : Tm → Tm → Bool
  | .mk k n a lv kids, .mk k' n' a' lv' kids' => k == k' && n == n' && a == a' && sameL (sameL fun x y : Int × Int => x == y) lv lv' && Tm.sameK kids kids'
def Tm.sameK : List Tm → List Tm → Bool
  | [], [] => true
  | x :: xs, y :: ys => x.same y && Tm.sameK xs ys
  | _, _ => false
end
theorem Tm.sameK_eq : ∀ xs ys : List Tm, Tm.sameK xs ys = sameL Tm.same xs ys
  | [], [] => by rw [Tm.sameK]; rfl
  | [], y :: ys => by simp [Tm.sameK, sameL]
  | x :: xs, [] => by simp [Tm.sameK, sameL]
  | x :: xs, y :: ys => by rw [Tm.sameK, Tm.sameK_eq xs ys]; rfl
theorem Tm.same_mk (k n a k' n' a' : Int) (lv lv' : List (List (Int × Int))) (kids kids' : List Tm) : (Tm.mk k n a lv kids).same (.mk k' n' a' lv' kids') = (k == k' && n == n' && a == a' && sameL (sameL fun x y : Int × Int => x == y) lv lv' && sameL Tm.same kids kids') := by
  rw [Tm.same, Tm.sameK_eq]
/-- the table's cells by number -/
theorem kind_cell (i j : Nat) (x : Value) (hi : i < 25) (hj : (kindVals (kindRow i))[j]? = some x) : (kindCells.map AV.raw)[i * 5 + j]? = some (.raw x) := by
  have h := kindCells_drop i hi
  rw [List.getElem?_map]
  have hj5 : j < 5 := by have := (List.getElem?_eq_some_iff.1 hj).1; simpa [kindVals] using this
  have : ((kindCells.drop (i * 5)).take 5)[j]? = some x := by rw [h]; exact hj
  rw [List.getElem?_take, if_pos hj5, List.getElem?_drop] at this
  rw [this]; rfl
theorem wrap_nat {n : Nat} (h : n ≤ 9223372036854775807) : IntKind.i64.wrap (n : Int) = (n : Int) := by
  simp [IntKind.wrap, IntKind.bits, IntKind.signed]
  omega
end Go.Proofs.YtaoglkkdhdfioaaDoor
