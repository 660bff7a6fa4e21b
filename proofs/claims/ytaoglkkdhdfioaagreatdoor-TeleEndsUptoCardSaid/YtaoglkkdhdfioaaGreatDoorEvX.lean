/- Terms and levels as values. -/
/- A call that is lent one block of ours: what it does there is done here. -/
import Derived.Test.YtaoglkkdhdfioaaGreatDoorEvU
namespace Go.Proofs.YtaoglkkdhdfioaaGreatDoor
open Go
/-- A term, as a tree: its kind, number, place, levels (each by its parts), kids. -/
inductive Tm where
  | mk (kind num pos : Int) (lv : List (List (Int × Int))) (kids : List Tm)
theorem Tm.ind {P : Tm → Prop} (h : ∀ k n a lv kids, (∀ t ∈ kids, P t) → P (.mk k n a lv kids)) : ∀ t, P t
  | .mk k n a lv kids => h k n a lv kids fun t _ => Tm.ind h t
abbrev eInt (n : Int) : AV := .raw (.int .i64 n)
abbrev eBool (b : Bool) : AV := .raw (.bool b)
abbrev unitV : AV := .raw (.tuple #[])
def ePart (p : Int × Int) : AV := .agg [eInt p.1, eInt p.2]
def eLv (l : List (Int × Int)) : AV := .agg [.vals 2 (l.map ePart)]
mutual
def eTm : Tm → AV
  | .mk k n a lv kids => .agg [eInt k, eInt n, eInt a, .vals 1 (lv.map eLv), .vals 5 (eTms kids)]
def eTms : List Tm → List AV
  | [] => []
  | t :: ts => eTm t :: eTms ts
end
theorem eTms_map : ∀ ts : List Tm, eTms ts = ts.map eTm
  | [] => by rw [eTms]; rfl
  | t :: ts => by rw [eTms, eTms_map ts]; rfl
theorem eTm_mk (k n a : Int) (lv : List (List (Int × Int))) (kids : List Tm) : eTm (.mk k n a lv kids) = .agg [eInt k, eInt n, eInt a, .vals 1 (lv.map eLv), .vals 5 (kids.map eTm)] := by rw [eTm, eTms_map]
theorem pure_part (p : Int × Int) : Pure (ePart p) := .agg fun a h => by
  simp at h
  rcases h with rfl | rfl <;> exact .raw _
theorem pure_parts (sz : Nat) (ps : List (Int × Int)) : Pure (.vals sz (ps.map ePart)) := .vals fun e he => by
  obtain ⟨p, _, rfl⟩ := List.mem_map.1 he
  exact pure_part p
theorem pure_lv (l : List (Int × Int)) : Pure (eLv l) := .agg fun a h => by
  simp at h; subst h
  refine .vals fun e he => ?_
  obtain ⟨p, _, rfl⟩ := List.mem_map.1 he
  exact pure_part p
theorem pure_lvs (sz : Nat) (ls : List (List (Int × Int))) : Pure (.vals sz (ls.map eLv)) := .vals fun e he => by
  obtain ⟨p, _, rfl⟩ := List.mem_map.1 he
  exact pure_lv p
theorem pure_tm : ∀ t : Tm, Pure (eTm t) := Tm.ind fun k n a lv kids ih => by
  rw [eTm_mk]
  refine .agg fun b h => ?_
  simp at h
  rcases h with rfl | rfl | rfl | rfl | rfl
  · exact .raw _
  · exact .raw _
  · exact .raw _
  · exact pure_lvs 1 lv
  · refine .vals fun e he => ?_
    obtain ⟨p, hp, rfl⟩ := List.mem_map.1 he
    exact ih p hp
theorem pure_tms (sz : Nat) (ts : List Tm) : Pure (.vals sz (ts.map eTm)) := .vals fun e he => by
  obtain ⟨p, _, rfl⟩ := List.mem_map.1 he
  exact pure_tm p
/-- what is pure is of any stretch -/
theorem Pure.of {S : Nat → Prop} {a : AV} (h : Pure a) : Of S a := by
  induction h with
  | raw v => exact .raw v
  | agg _ ih => exact .agg ih
  | tup _ ih => exact .tup ih
  | vals _ ih => exact .vals ih
  | emp => exact .emp
  | vptr _ ih => exact .vptr ih
  | clo _ _ ih1 ih2 => exact .clo ih1 ih2
  | ifc _ ih => exact .ifc ih
/-! ### A scope's end, part by part -/
section
variable {P : Program} {f' : AF} {h h' : AH} {Q : Ex → AF → AH → Prop}
def OfL (S : Nat → Prop) : List (Nat × AV) → Prop
  | [] => True
  | p :: l => Of S p.2 ∧ OfL S l
def OfC (S : Nat → Prop) : List AV → Prop
  | [] => True
  | a :: l => Of S a ∧ OfC S l
def OfM (S : Nat → Prop) : List Nat → Prop
  | [] => True
  | m :: l => S m ∧ OfM S l
def OfE (S : Nat → Prop) : Ex → Prop
  | .pan v => Of S v
  | _ => True
def OfK (S : Nat → Prop) : Blk → Prop
  | .cells c => OfC S c.cs
  | .loop l => S l.mark ∧ OfL S l.tmps.l
  | .mark => True
def OfH (S : Nat → Prop) : List (Nat × Blk) → Prop
  | [] => True
  | p :: l => OfK S p.2 ∧ OfH S l
theorem OfL.all {S : Nat → Prop} : ∀ {l : List (Nat × AV)}, OfL S l → ∀ p ∈ l, Of S p.2
  | [], _, p, hp => by cases hp
  | q :: l, h, p, hp => by
    rcases List.mem_cons.1 hp with rfl | hp
    · exact h.1
    · exact OfL.all h.2 p hp
theorem OfC.all {S : Nat → Prop} : ∀ {l : List AV}, OfC S l → ∀ p ∈ l, Of S p
  | [], _, p, hp => by cases hp
  | q :: l, h, p, hp => by
    rcases List.mem_cons.1 hp with rfl | hp
    · exact h.1
    · exact OfC.all h.2 p hp
theorem OfC.of {S : Nat → Prop} : ∀ {l : List AV}, (∀ p ∈ l, Of S p) → OfC S l
  | [], _ => trivial
  | q :: l, h => ⟨h q (List.mem_cons_self ..), OfC.of fun p hp => h p (List.mem_cons_of_mem _ hp)⟩
theorem OfM.all {S : Nat → Prop} : ∀ {l : List Nat}, OfM S l → ∀ p ∈ l, S p
  | [], _, p, hp => by cases hp
  | q :: l, h, p, hp => by
    rcases List.mem_cons.1 hp with rfl | hp
    · exact h.1
    · exact OfM.all h.2 p hp
theorem OfK.ofB {S : Nat → Prop} : ∀ {b : Blk}, OfK S b → OfB S b
  | .cells c, h => OfC.all h
  | .loop l, h => ⟨h.1, fun i a e => OfL.all h.2 _ (look_mem e)⟩
  | .mark, _ => trivial
theorem OfH.all {S : Nat → Prop} : ∀ {l : List (Nat × Blk)}, OfH S l → ∀ p ∈ l, OfB S p.2
  | [], _, p, hp => by cases hp
  | q :: l, h, p, hp => by
    rcases List.mem_cons.1 hp with rfl | hp
    · exact h.1.ofB
    · exact OfH.all h.2 p hp
theorem within_of {L : List Nat} {e : Ex} (h1 : OfL h.has (f'.keep L).t.l) (h2 : OfM h.has f'.marks) (h3 : OfE h.has e) (h4 : OfH h.has (h'.cut h).blk) (h5 : Q e (f'.keep L) (h'.cut h)) : within h L Q e f' h' :=
  ⟨h1.all, h2.all, fun v hv => by subst hv; exact h3, h4.all, h5⟩
end
theorem has_nil {n r : Nat} {l : List (Nat × Blk)} (h : Nat.blt r n = true) : AH.has ⟨n, [], l⟩ r := ⟨by simpa [Nat.blt_eq] using h, by simp⟩
theorem ofC_pure {S : Nat → Prop} {l : List AV} (h : ∀ a ∈ l, Pure a) : OfC S l := OfC.of fun a ha => (h a ha).of
mutual
def Tm.size : Tm → Nat
  | .mk _ _ _ _ kids => 1 + Tm.sizeL kids
def Tm.sizeL : List Tm → Nat
  | [] => 0
  | t :: ts => t.size + Tm.sizeL ts
end
theorem Tm.size_mk (k n a : Int) (lv : List (List (Int × Int))) (kids : List Tm) : (Tm.mk k n a lv kids).size = 1 + Tm.sizeL kids := by rw [Tm.size]
theorem Tm.sizeL_take : ∀ (ts : List Tm) (i : Nat) (t : Tm), ts[i]? = some t → Tm.sizeL (ts.take (i + 1)) = Tm.sizeL (ts.take i) + t.size
  | [], i, t, h => by simp at h
  | s :: ts, 0, t, h => by
    simp at h; subst h
    simp [Tm.sizeL]
  | s :: ts, i + 1, t, h => by
    simp only [List.take_succ_cons, Tm.sizeL]
    rw [Tm.sizeL_take ts i t (by simpa using h)]
    omega
theorem Tm.sizeL_le (ts : List Tm) (i : Nat) : Tm.sizeL (ts.take i) ≤ Tm.sizeL ts := by
  induction ts generalizing i with
  | nil => simp
  | cons s ts ih =>
    cases i with
    | zero => simp [Tm.sizeL]
    | succ i =>
      have := ih i
      simp only [List.take_succ_cons, Tm.sizeL]
      omega
theorem Tm.sizeL_len : ∀ ts : List Tm, ts.length ≤ Tm.sizeL ts
  | [] => by simp
  | .mk k n a lv kids :: ts => by
    have := Tm.sizeL_len ts
    simp only [List.length_cons, Tm.sizeL, Tm.size_mk]
    omega
/-! ### Two rows, the same? -/
def sameL {α : Type} (eq : α → α → Bool) : List α → List α → Bool
  | [], [] => true
  | x :: xs, y :: ys => eq x y && sameL eq xs ys
  | _, _ => false
theorem sameL_len {α : Type} {eq : α → α → Bool} : ∀ {xs ys : List α}, xs.length ≠ ys.length → sameL eq xs ys = false
  | [], [], h => absurd rfl h
  | [], y :: ys, _ => rfl
  | x :: xs, [], _ => rfl
  | x :: xs, y :: ys, h => by simp only [sameL, sameL_len (xs := xs) (ys := ys) (by simpa using h), Bool.and_false]
theorem sameL_no {α : Type} {eq : α → α → Bool} : ∀ {xs ys : List α} (i : Nat) {x y : α}, xs[i]? = some x → ys[i]? = some y → eq x y = false → sameL eq xs ys = false
  | [], _, i, x, y, h, _, _ => by simp at h
  | x :: xs, [], i, _, y, _, h, _ => by simp at h
  | x :: xs, y :: ys, 0, _, _, h1, h2, h => by
    simp at h1 h2
    subst h1 h2
    simp only [sameL, h, Bool.false_and]
  | x :: xs, y :: ys, i + 1, _, _, h1, h2, h => by simp only [sameL, sameL_no i (by simpa using h1) (by simpa using h2) h, Bool.and_false]
theorem sameL_yes {α : Type} {eq : α → α → Bool} : ∀ {xs ys : List α}, xs.length = ys.length → (∀ (i : Nat) (x y : α), xs[i]? = some x → ys[i]? = some y → eq x y = true) → sameL eq xs ys = true
  | [], [], _, _ => rfl
  | [], y :: ys, h, _ => by simp at h
  | x :: xs, [], h, _ => by simp at h
  | x :: xs, y :: ys, h, he => by simp only [sameL, he 0 x y rfl rfl, sameL_yes (xs := xs) (ys := ys) (by simpa using h) fun i a b h1 h2 => he (i + 1) a b (by simpa using h1) (by simpa using h2), Bool.and_self]
def small (n : Nat) : Prop := n ≤ 1048576
def lensSum : List (List (Int × Int)) → Nat
  | [] => 0
  | l :: ls => 1 + l.length + lensSum ls
theorem lensSum_len : ∀ ls : List (List (Int × Int)), ls.length ≤ lensSum ls
  | [] => by simp [lensSum]
  | l :: ls => by
    have := lensSum_len ls
    simp only [lensSum, List.length_cons]; omega
theorem lensSum_mem : ∀ (ls : List (List (Int × Int))) (l : List (Int × Int)), l ∈ ls → l.length ≤ lensSum ls
  | [], l, h => by cases h
  | m :: ls, l, h => by
    simp only [lensSum]
    rcases List.mem_cons.1 h with rfl | h
    · omega
    · have := lensSum_mem ls l h
      omega
mutual
/-- a term, counted: its nodes, the levels in them and their parts -/
def Tm.count : Tm → Nat
  | .mk _ _ _ lv kids => 1 + lensSum lv + Tm.countL kids
def Tm.countL : List Tm → Nat
  | [] => 0
  | t :: ts => t.count + Tm.countL ts
end
theorem Tm.count_mk (k n a : Int) (lv : List (List (Int × Int))) (kids : List Tm) : (Tm.mk k n a lv kids).count = 1 + lensSum lv + Tm.countL kids := by rw [Tm.count]
theorem Tm.count_pos (t : Tm) : 0 < t.count := by
  obtain ⟨k, n, a, lv, kids⟩ := t
  rw [Tm.count_mk]; omega
theorem Tm.countL_len : ∀ ts : List Tm, ts.length ≤ Tm.countL ts
  | [] => by simp
  | t :: ts => by
    have := Tm.countL_len ts
    have := t.count_pos
    simp only [List.length_cons, Tm.countL]; omega
theorem Tm.countL_mem : ∀ (ts : List Tm) (t : Tm), t ∈ ts → t.count ≤ Tm.countL ts
  | [], t, h => by cases h
  | s :: ts, t, h => by
    simp only [Tm.countL]
    rcases List.mem_cons.1 h with rfl | h
    · omega
    · have := Tm.countL_mem ts t h
      omega
mutual
/-- the same, part by part -/
def Tm.same : Tm → Tm → Bool
  | .mk k n a lv kids, .mk k' n' a' lv' kids' => k == k' && n == n' && a == a' && sameL (sameL fun x y : Int × Int => x == y) lv lv' && Tm.sameK kids kids'
def Tm.sameK : List Tm → List Tm → Bool
  | [], [] => true
  | x :: xs, y :: ys => x.same y && Tm.sameK xs ys
  | _, _ => false
end
theorem Tm.sameK_eq : ∀ xs ys : List Tm, Tm.sameK xs ys = sameL Tm.same xs ys
  | [], [] => by rw [Tm.sameK]; rfl
  | [], y :: ys => by simp [Tm.sameK, sameL]
  | x :: xs, [] => by simp [Tm.sameK, sameL]
  | x :: xs, y :: ys => by rw [Tm.sameK, Tm.sameK_eq xs ys]; rfl
theorem Tm.same_mk (k n a k' n' a' : Int) (lv lv' : List (List (Int × Int))) (kids kids' : List Tm) : (Tm.mk k n a lv kids).same (.mk k' n' a' lv' kids') = (k == k' && n == n' && a == a' && sameL (sameL fun x y : Int × Int => x == y) lv lv' && sameL Tm.same kids kids') := by
  rw [Tm.same, Tm.sameK_eq]
/-- the table's cells by number -/
theorem kind_cell (i j : Nat) (x : Value) (hi : i < 25) (hj : (kindVals (kindRow i))[j]? = some x) : (kindCells.map AV.raw)[i * 5 + j]? = some (.raw x) := by
  have h := kindCells_drop i hi
  rw [List.getElem?_map]
  have hj5 : j < 5 := by have := (List.getElem?_eq_some_iff.1 hj).1; simpa [kindVals] using this
  have : ((kindCells.drop (i * 5)).take 5)[j]? = some x := by rw [h]; exact hj
  rw [List.getElem?_take, if_pos hj5, List.getElem?_drop] at this
  rw [this]; rfl
theorem wrap_nat {n : Nat} (h : n ≤ 9223372036854775807) : IntKind.i64.wrap (n : Int) = (n : Int) := by
  simp [IntKind.wrap, IntKind.bits, IntKind.signed]
  omega
end Go.Proofs.YtaoglkkdhdfioaaGreatDoor
namespace Go.Proofs.YtaoglkkdhdfioaaGreatDoor
open Go
section
variable {P : Program} {h h' : AH} {V : Mem} {res : Nat → Nat → Prop} {g q : Nat → Nat} {w : World}
/-- the one block -/
def AH.lone (c : Cells) : AH := ⟨1, [], [(0, .cells c)]⟩
/-- an argument, as the call sees it -/
inductive Lent (r : Nat) : AV → AV → Prop
  | pure {a : AV} (h : Pure a) : Lent r a a
  | ptr {k off : Nat} : Lent r (.ptr r k off) (.ptr 0 k off)
  | row {k off len : Nat} : Lent r (.row r k off len) (.row 0 k off len)
inductive LentL (r : Nat) : List AV → List AV → Prop
  | nil : LentL r [] []
  | cons {a b : AV} {as' bs : List AV} (h : Lent r a b) (ht : LentL r as' bs) : LentL r (a :: as') (b :: bs)
theorem LentL.length {r : Nat} {us bs : List AV} (h : LentL r us bs) : us.length = bs.length := by
  induction h with
  | nil => rfl
  | cons _ _ ih => simp [ih]
theorem LentL.get {r : Nat} {us bs : List AV} (h : LentL r us bs) : ∀ (i : Nat) (b : AV), bs[i]? = some b → ∃ a, us[i]? = some a ∧ Lent r a b := by
  induction h with
  | nil => intro i b e; simp at e
  | cons hl _ ih =>
    intro i b e
    cases i with
    | zero => simp at e; subst e; exact ⟨_, rfl, hl⟩
    | succ i => simpa using ih i b (by simpa using e)
/-- what is another's, when but this block is lent -/
def awayBut (V : Mem) (r : Nat) : Nat → Nat → Prop := fun b i => V.res b i ∨ ∃ s c, s ≠ r ∧ V.blk s = some (.cells c) ∧ V.pos s = b ∧ c.imm ≤ i
theorem lone_get {c : Cells} {s : Nat} {o : Blk} (e : (AH.lone c).get s = some o) : s = 0 ∧ o = .cells c := by
  have e : AH.find [(0, .cells c)] s = some o := e
  simp only [AH.find] at e
  split at e
  · rename_i hs; injection e with e; exact ⟨hs, e.symm⟩
  · cases e
theorem lent_stand {r : Nat} {c : Cells} (hr : V.blk r = some (.cells c)) : Stand V w ((AH.lone c).mem (awayBut V r) (fun _ => V.pos r) (fun _ => V.room r)) w := fun b i x h1 h2 => by
  refine ⟨⟨h1.1, fun ha => ?_, fun s d hs hp => ?_⟩, h2⟩
  · rcases ha with ha | ⟨s, d, k0, k1, k2, k3⟩
    · exact h1.2.1 ha
    · have := h1.2.2 s d k1 k2; omega
  · obtain ⟨_, e⟩ := lone_get hs
    injection e with e
    subst e
    exact h1.2.2 r d hr hp
theorem lent_rel {r : Nat} {c : Cells} (hV : Rel V w) (hr : V.blk r = some (.cells c)) (hp : ∀ a ∈ c.cs, Pure a) : Rel ((AH.lone c).mem (awayBut V r) (fun _ => V.pos r) (fun _ => V.room r)) w where
  bound b i hb := by
    rcases hb with hb | ⟨s, d, _, h1, h2, _⟩
    · exact hV.bound b i hb
    · rw [← h2]; exact (hV.live s _ h1).2
  free s o ho i ha := by
    rcases ha with ha | ⟨t, d, h0, h1, h2, _⟩
    · exact hV.free r _ hr i ha
    · exact h0 (hV.apart t r _ _ h1 hr h2)
  live s o ho := by
    obtain ⟨rfl, rfl⟩ := lone_get ho
    exact ⟨⟨Nat.zero_lt_one, by simp [AH.lone]⟩, (hV.live r _ hr).2⟩
  apart s t o p h1 h2 _ := by
    obtain ⟨rfl, _⟩ := lone_get h1
    obtain ⟨rfl, _⟩ := lone_get h2
    rfl
  cells s d hs := by
    obtain ⟨rfl, e⟩ := lone_get hs
    injection e with e
    subst e
    obtain ⟨X, k1, k2, k3, k4, k5, k6⟩ := hV.cells r d hr
    exact ⟨X, k1, k2, k3, k4, k5, fun i x a e1 e2 => (k6 i x a e1 e2).stand (lent_stand hr) (hp a (List.mem_of_getElem? e2))⟩
  loop s l hs := by obtain ⟨_, e⟩ := lone_get hs; cases e
  mark s hs := by obtain ⟨_, e⟩ := lone_get hs; cases e
  glob gg cs e i x hx := by
    obtain ⟨h1, h2⟩ := hV.glob gg cs e i x hx
    exact lent_stand hr gg i x h1 h2
theorem lent_den {r : Nat} {c : Cells} {v : Value} {a b : AV} (hr : V.blk r = some (.cells c)) (hd : Den V w v a) (hl : Lent r a b) : Den ((AH.lone c).mem (awayBut V r) (fun _ => V.pos r) (fun _ => V.room r)) w v b := by
  cases hl with
  | pure hp => exact hd.stand (lent_stand hr) hp
  | ptr =>
    cases hd with
    | ptr hv hb hh => exact .ptr hv ⟨Nat.zero_lt_one, by simp [AH.lone]⟩ fun d hd => hh d (hr.trans hd)
  | row =>
    cases hd with
    | row hv hb hh => exact .row hv ⟨Nat.zero_lt_one, by simp [AH.lone]⟩ fun d hd => hh d (hr.trans hd)
theorem sound_lent {fn : Fn} {args cap args' cap' : List AV} {r : Nat} {c c' : Cells} {y : AV} (hr : h.get r = some (.cells c)) (hp : ∀ a ∈ c.cs, Pure a) (ha : LentL r args args') (hcp : LentL r cap cap')
    (ih : Sound P (.call fn args' cap' (.lone c)) (.call (.ret y) h')) (hg : h'.get 0 = some (.cells c')) (hv : c'.ver = c.ver) (he : c'.elem = c.elem) (hz : c'.sz = c.sz) (hn : c'.cs.length = c.cs.length) (hi : c.imm ≤ c'.imm) (hp' : ∀ a ∈ c'.cs, Pure a) (hy : Pure y) :
    Sound P (.call fn args cap h) (.call (.ret y) (h.put r (.cells c'))) := by
  intro F n res g q us cs w hF hV hu hc
  have hr' : (h.mem res g q).blk r = some (.cells c) := hr
  refine (ih F n (awayBut (h.mem res g q) r) (fun _ => g r) (fun _ => q r) us cs w hF (lent_rel hV hr' hp) ⟨by rw [hu.1, ha.length], fun i x b e1 e2 => ?_⟩ ⟨by rw [hc.1, hcp.length], fun i x b e1 e2 => ?_⟩).mono fun e w1 hpost => ?_
  · obtain ⟨a, k1, k2⟩ := ha.get i b e2
    exact lent_den hr' (hu.2 i x a e1 k1) k2
  · obtain ⟨a, k1, k2⟩ := hcp.get i b e2
    exact lent_den hr' (hc.2 i x a e1 k1) k2
  obtain ⟨g1, q1, t1, d1⟩ := hpost
  have hk := t1.keep
  have hlt := (hV.live r _ hr').2
  have hborn : ((AH.lone c).mem (awayBut (h.mem res g q) r) (fun _ => g r) (fun _ => q r)).born 0 := ⟨Nat.zero_lt_one, by simp [AH.lone]⟩
  obtain ⟨c0, j1, j2, j3⟩ := t1.fwd.cells 0 c' hborn hg
  have j1 : (AH.lone c).get 0 = some (.cells c0) := j1
  obtain ⟨_, j1⟩ := lone_get j1
  injection j1 with j1
  subst j1
  obtain ⟨j4, j5, _, _⟩ := j3 hv
  have j4 : g1 0 = g r := j4
  have j5 : q1 0 = q r := j5
  have hother : ∀ b, b < w.heap.size → b ≠ g r → w1.heap[b]? = w.heap[b]? := fun b hb hne => hk.block b hb fun s o hs => by
    obtain ⟨_, _⟩ := lone_get hs
    exact fun e => hne e.symm
  have hput : ∀ s, (h.put r (.cells c')).get s = if s = r then some (.cells c') else h.get s := fun s => AH.find_sub _ _ _ _
  have hoth : ∀ s o, s ≠ r → h.get s = some o → w1.heap[g s]? = w.heap[g s]? := fun s o hs ho => hother _ (hV.live s o ho).2 fun e => hs (hV.apart s r o _ ho hr' e)
  have hok : ∀ b i x, OkCell (h.mem res g q) w b i → w.cell? ⟨b, i, none⟩ = some x → OkCell ((h.put r (.cells c')).mem res g q) w1 b i ∧ w1.cell? ⟨b, i, none⟩ = some x := fun b i x h1 h2 => by
    obtain ⟨k1, k2⟩ := lent_stand hr' b i x h1 h2
    obtain ⟨k3, k4⟩ := t1.fwd.ok b i x k1 k2
    refine ⟨⟨k3.1, h1.2.1, fun s d hs hp => ?_⟩, k4⟩
    have hs2 : (h.put r (.cells c')).get s = some (.cells d) := hs
    clear hs
    rw [hput] at hs2
    split at hs2
    · rename_i e
      injection hs2 with hs2; injection hs2 with hs2
      subst hs2
      subst e
      exact k3.2.2 0 c' hg (by show g1 0 = b; rw [j4]; exact hp)
    · exact h1.2.2 s d hs2 hp
  have hf : Fwd (h.mem res g q) w ((h.put r (.cells c')).mem res g q) w1 := by
    refine ⟨hok, fun s hs => hs, fun s d hs hd => ?_, fun s l hs hl => ?_, fun s hs => ?_⟩
    · have hd2 : (h.put r (.cells c')).get s = some (.cells d) := hd
      clear hd
      rw [hput] at hd2
      split at hd2
      · rename_i e
        injection hd2 with hd2; injection hd2 with hd2
        subst hd2
        subst e
        exact ⟨c0, hr', by omega, fun _ => ⟨rfl, rfl, hz, hn⟩⟩
      · exact ⟨d, hd2, Nat.le_refl _, fun _ => ⟨rfl, rfl, rfl, rfl⟩⟩
    · have hl2 : (h.put r (.cells c')).get s = some (.loop l) := hl
      clear hl
      rw [hput] at hl2
      split at hl2
      · injection hl2 with hl2; cases hl2
      · exact ⟨l, hl2, rfl⟩
    · have hs' : h.get s = some .mark := hs
      refine ⟨?_, rfl⟩
      show (h.put r (.cells c')).get s = some .mark
      rw [hput, if_neg]
      · exact hs'
      · rintro rfl; rw [hr] at hs'; cases hs'
  have hst : Stand (h'.mem (awayBut (h.mem res g q) r) g1 q1) w1 ((h.put r (.cells c')).mem res g q) w1 := fun b i x h1 h2 => by
    refine ⟨⟨h1.1, fun ha => h1.2.1 (.inl ha), fun s d hs hp => ?_⟩, h2⟩
    have hs2 : (h.put r (.cells c')).get s = some (.cells d) := hs
    clear hs
    rw [hput] at hs2
    split at hs2
    · rename_i e
      injection hs2 with hs2; injection hs2 with hs2
      subst hs2
      subst e
      exact h1.2.2 0 c' hg (by show g1 0 = b; rw [j4]; exact hp)
    · rename_i hne
      exact Nat.lt_of_not_le fun hle => h1.2.1 (.inr ⟨s, d, hne, hs2, hp, hle⟩)
  have hgl : ∀ s o, (h.put r (.cells c')).get s = some o → (s = r ∧ o = .cells c') ∨ (s ≠ r ∧ h.get s = some o) := fun s o hs => by
    rw [hput] at hs
    split at hs
    · rename_i e; injection hs with hs; exact .inl ⟨e, hs.symm⟩
    · rename_i e; exact .inr ⟨e, hs⟩
  have hold : ∀ s o, (h.put r (.cells c')).get s = some o → ∃ p, h.get s = some p := fun s o hs => by
    rcases hgl s o hs with ⟨rfl, _⟩ | ⟨_, e⟩
    · exact ⟨_, hr⟩
    · exact ⟨_, e⟩
  refine ⟨g, q, ⟨⟨fun b i hb => Nat.lt_of_lt_of_le (hV.bound b i hb) hk.size, fun s o hs i => ?_, fun s o hs => ?_, fun s t o p h1 h2 h3 => ?_, fun s d hs => ?_, fun s l hs => ?_, fun s hs => ?_, hV.glob.fwd hf⟩, hf, ⟨hk.os, hk.tape, hk.output, hk.size, fun b hb hne => hother b hb fun e => hne r _ hr' e.symm⟩, fun s o hs => ?_⟩, ?_⟩
  · obtain ⟨p, e⟩ := hold s o hs
    exact hV.free s p e i
  · obtain ⟨p, e⟩ := hold s o hs
    obtain ⟨k1, k2⟩ := hV.live s p e
    exact ⟨k1, Nat.lt_of_lt_of_le k2 hk.size⟩
  · obtain ⟨o', e1⟩ := hold s o h1
    obtain ⟨p', e2⟩ := hold t p h2
    exact hV.apart s t o' p' e1 e2 h3
  · rcases hgl s _ hs with ⟨rfl, e⟩ | ⟨hne, e⟩
    · injection e with e
      subst e
      obtain ⟨X, k1, k2, k3, k4, k5, k6⟩ := t1.rel.cells 0 d hg
      refine ⟨X, ?_, ?_, k3, k4, k5, fun i x b e1 e2 => (k6 i x b e1 e2).stand hst (hp' b (List.mem_of_getElem? e2))⟩
      · have k1 : w1.heap[g1 0]? = _ := k1
        rw [j4] at k1; exact k1
      · have k2 : X.size = q1 0 := k2
        rw [j5] at k2; exact k2
    · obtain ⟨X, k1, k2, k3, k4, k5, k6⟩ := hV.cells s d e
      exact ⟨X, (hoth s _ hne e).trans k1, k2, k3, k4, k5, fun i x b e1 e2 => (k6 i x b e1 e2).fwd hf⟩
  · rcases hgl s _ hs with ⟨_, e⟩ | ⟨hne, e⟩
    · cases e
    · obtain ⟨k0, fn, T, k1, k2, k3⟩ := hV.loop s l e
      exact ⟨(hf.mark _ k0).1, fn, T, (hoth s _ hne e).trans k1, k2, fun i b e2 => by obtain ⟨x, e1, e3⟩ := k3 i b e2; exact ⟨x, e1, e3.fwd hf⟩⟩
  · rcases hgl s _ hs with ⟨_, e⟩ | ⟨hne, e⟩
    · cases e
    · exact (hoth s _ hne e).trans (hV.mark s e)
  · obtain ⟨p, e⟩ := hold s o hs
    exact .inr ⟨s, p, e, rfl⟩
  · cases e with
    | returned v => exact Den.stand d1 hst hy
    | panicked ch => exact d1.elim
    | outgrown => exact d1.elim
/-- a call that is lent the block r: it is enough to see it there alone -/
theorem gives_lent {fn : Fn} {args cap args' cap' : List AV} {r : Nat} {c : Cells} {R : Res → AH → Prop} (hr : h.get r = some (.cells c)) (hp : ∀ a ∈ c.cs, Pure a) (ha : LentL r args args') (hcp : LentL r cap cap')
    (hk : Gives P fn args' cap' (.lone c) fun z h' => ∃ y c', z = .ret y ∧ Pure y ∧ h'.get 0 = some (.cells c') ∧ c'.ver = c.ver ∧ c'.elem = c.elem ∧ c'.sz = c.sz ∧ c'.cs.length = c.cs.length ∧ c.imm ≤ c'.imm ∧ (∀ a ∈ c'.cs, Pure a) ∧ R (.ret y) (h.put r (.cells c'))) : Gives P fn args cap h R := by
  obtain ⟨z, h', k1, y, c', rfl, k2, k3, k4, k5, k6, k7, k8, k9, k10⟩ := hk
  exact ⟨_, _, .known (sound_lent hr hp ha hcp (sound k1) k3 k4 k5 k6 k7 k8 k9 k2), k10⟩
/-- rows that stand for ever are values from here on -/
theorem goes_snap {c : Code} {f : AF} {Q : Ex → AF → AH → Prop} (L : List (Nat × Nat)) {sl : List (Nat × AV)} {bs : List (Nat × Blk)} (hb : SnapH (h.seals L) (h.seals L).blk bs) (hs : SnapS (h.seals L) f.t.l sl)
    (hc : Goes P c { f with t := { f.t with l := sl } } { h with blk := bs } Q) : Goes P c f h Q := by
  obtain ⟨e, f', h', k1, k2⟩ := hc
  exact ⟨e, f', h', .snap hb hs k1, k2⟩
/-- a row of our own, of pure values, sealed and seen as values -/
theorem snap_own {r n : Nat} {c : Cells} {es : List AV} (hg : h.get r = some (.cells c)) (hcs : c.cs = es.flatMap AV.cells) (hz : ∀ e ∈ es, e.cells.length = c.sz) (hp : ∀ e ∈ es, Pure e) (hn : es.length = n) :
    SnapL (h.seals [(r, n * c.sz)]) [.row r c.ver 0 n] [.vals c.sz es] [(r, 0 + n * c.sz)] ∧ Sealed (h.seals [(r, n * c.sz)]) [(r, 0 + n * c.sz)] := by
  have hlen : (es.flatMap AV.cells).length = n * c.sz := by
    subst hn
    clear hcs hp
    induction es with
    | nil => simp
    | cons e es ih =>
      rw [List.flatMap_cons, List.length_append, hz e (List.mem_cons_self ..), ih fun e he => hz e (List.mem_cons_of_mem _ he), List.length_cons, Nat.succ_mul]
      omega
  have hle : n * c.sz ≤ c.cs.length := by rw [hcs, hlen]; exact Nat.le_refl _
  have hget : (h.seals [(r, n * c.sz)]).get r = some (.cells { c with imm := max c.imm (n * c.sz) }) := by
    show (h.seal (r, n * c.sz)).get r = _
    unfold AH.seal
    simp only [hg, hle, if_true]
    show AH.find (AH.sub h.blk r _) r = _
    rw [AH.find_sub, if_pos rfl]
  have hnow : (h.seals [(r, n * c.sz)]).now r c.ver = some { c with imm := max c.imm (n * c.sz) } := by
    unfold AH.now
    rw [hget]
    simp
  have hpf : ∀ a ∈ es.flatMap AV.cells, Pure a := fun a ha => by
    obtain ⟨e, he, hae⟩ := List.mem_flatMap.1 ha
    exact (hp e he).cells a hae
  refine ⟨?_, fun p hpm c' hc' => ?_⟩
  · have := SnapL.row (h := h.seals [(r, n * c.sz)]) (k := c.ver) (off := 0) hnow hn (fun j e he => hz e (List.mem_of_getElem? he)) (by
      show SnapL _ ((c.cs.drop 0).take (n * c.sz)) _ _
      rw [List.drop_zero, hcs, ← hlen, List.take_length]
      exact snap_pure hpf) hp .nil
    exact this
  · simp at hpm
    subst hpm
    rw [hget] at hc'
    injection hc' with hc'; injection hc' with hc'
    subst hc'
    show n * c.sz ≤ max c.imm (n * c.sz)
    omega
end
end Go.Proofs.YtaoglkkdhdfioaaGreatDoor
