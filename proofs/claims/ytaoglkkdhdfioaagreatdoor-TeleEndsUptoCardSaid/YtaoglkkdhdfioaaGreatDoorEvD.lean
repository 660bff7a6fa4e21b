/- The operations that only read: parts, loads, places, slices. -/
import Derived.Test.YtaoglkkdhdfioaaGreatDoorEvC
namespace Go.Proofs.YtaoglkkdhdfioaaGreatDoor
open Go

def szOf (P : Program) (t : TypeId) : Option Nat := (P.info? t).map (·.size)
def isAggB (P : Program) (t : TypeId) : Option Bool := (P.underlying t).map fun
  | .struct _ | .array _ _ => true
  | _ => false
theorem run_isAgg {P : Program} {t : TypeId} {b : Bool} (h : isAggB P t = some b) (w : World) : (isAgg t).run P w = .ok b w := by
  unfold isAggB at h
  cases hu : P.underlying t with
  | none => simp [hu] at h
  | some d =>
    simp [hu] at h
    unfold isAgg
    rw [Sem.run_bind, run_underlying hu w]
    cases d <;> simp_all
theorem run_sizeOf {P : Program} {t : TypeId} {n : Nat} (h : szOf P t = some n) (w : World) : (sizeOf t).run P w = .ok n w := by
  unfold szOf at h
  cases hi : P.info? t with
  | none => simp [hi] at h
  | some i =>
    simp [hi] at h
    simp [sizeOf, typeInfo, hi, h]
/-- the part of type t that begins at a cell -/
def partA (P : Program) (t : TypeId) (cs : List AV) (off : Nat) : Option AV :=
  match isAggB P t, szOf P t with
  | some true, some n => if off + n ≤ cs.length then some (.agg ((cs.drop off).take n)) else none
  | some false, _ => match cs[off]? with
    | some a => if a.one then some a else none
    | none => none
  | _, _ => none
theorem DenL.part {V : Mem} {w : World} {vs : Array Value} {cs : List AV} (h : DenL V w vs cs) {off n : Nat} (hle : off + n ≤ cs.length) : Den V w (.agg (vs.extract off (off + n))) (.agg ((cs.drop off).take n)) := by
  have := h.1
  refine .agg (by simp; omega) fun i x a h1 h2 => ?_
  have hi : i < n := by
    have := (List.getElem?_eq_some_iff.1 h2).1
    simp at this; omega
  rw [List.getElem?_take, if_pos hi, List.getElem?_drop] at h2
  have h1' : vs[off + i]? = some x := by
    rw [Array.getElem?_extract] at h1
    rw [if_pos (by omega)] at h1
    exact h1
  exact h.2 (off + i) x a h1' h2
theorem part_ok {P : Program} {V : Mem} {w : World} {t : TypeId} {vs : Array Value} {cs : List AV} {off : Nat} {y : AV} (h : DenL V w vs cs) (hy : partA P t cs off = some y) : ∃ v, (∀ w, (part t vs off).run P w = .ok v w) ∧ Den V w v y := by
  unfold partA at hy
  split at hy
  · rename_i n h1 h2
    split at hy
    · rename_i hle
      injection hy with hy
      subst hy
      exact ⟨_, fun w => by simp [part, run_isAgg h1, run_sizeOf h2], h.part hle⟩
    · cases hy
  · rename_i h1
    split at hy
    · rename_i a ha
      split at hy
      · injection hy with hy
        subst hy
        obtain ⟨x, hx, hd⟩ := h.get ha
        exact ⟨x, fun w => by simp [part, run_isAgg h1, hx], hd⟩
      · cases hy
    · cases hy
  · cases hy
/-- cells of the world that are these -/
def CellsAt (V : Mem) (w : World) (b off : Nat) (cs : List AV) : Prop := ∃ X : Nat → Value, ∀ (i : Nat) (a : AV), cs[i]? = some a → w.cell? ⟨b, off + i, none⟩ = some (X i) ∧ Den V w (X i) a
theorem load_ok {P : Program} {V : Mem} {w : World} {t : TypeId} {b off k : Nat} {cs : List AV} {y : AV} (h : CellsAt V w b off cs) (hy : partA P t cs k = some y) : ∃ v, (Instr.loadAt t (.pointer (some ⟨b, off + k, none⟩))).run P w = .ok v w ∧ Den V w v y := by
  obtain ⟨X, hX⟩ := h
  unfold partA at hy
  split at hy
  · rename_i n h1 h2
    split at hy
    · rename_i hle
      injection hy with hy
      subst hy
      have hr : w.rangeAt b (off + k) ((List.range n).map fun i => X (k + i)) := fun j v hv => by
        rw [List.getElem?_map] at hv
        have hj : j < n := by
          rcases Nat.lt_or_ge j n with h | h
          · exact h
          · rw [List.getElem?_eq_none (by simpa using h)] at hv; cases hv
        rw [List.getElem?_range hj] at hv
        simp at hv
        subst hv
        have := (hX (k + j) _ (List.getElem?_eq_getElem (by omega))).1
        rw [← this]
        congr 2
        omega
      unfold isAggB at h1
      cases hu : P.underlying t with
      | none => simp [hu] at h1
      | some d =>
        simp [hu] at h1
        refine ⟨_, run_loadAt_mid (P := P) w b (off + k) t _ d hr hu (by cases d <;> simp_all) (by simpa [szOf] using h2), .agg (by simp; omega) fun i x a k1 k2 => ?_⟩
        have hi : i < n := by
          have := (List.getElem?_eq_some_iff.1 k2).1
          simp at this; omega
        rw [List.getElem?_take, if_pos hi, List.getElem?_drop] at k2
        have k1' : x = X (k + i) := by
          simp [List.getElem?_range hi] at k1
          exact k1.symm
        subst k1'
        exact (hX (k + i) a k2).2
    · cases hy
  · rename_i h1
    split at hy
    · rename_i a ha
      split at hy
      · injection hy with hy
        subst hy
        obtain ⟨h2, h3⟩ := hX k a ha
        exact ⟨X k, by simp [Instr.loadAt, Instr.sureAddr, loadVar, run_isAgg h1, load, Sem.run, h2], h3⟩
      · cases hy
    · cases hy
  · cases hy
theorem Rel.cellsAt {V : Mem} {w : World} (h : Rel V w) {r : Nat} {c : Cells} (hr : V.blk r = some (.cells c)) : CellsAt V w (V.pos r) 0 c.cs := by
  obtain ⟨X, h1, h2, h3, h4, h5, h6⟩ := h.cells r c hr
  refine ⟨fun i => X.getD i undef, fun i a ha => ?_⟩
  have hi : i < X.size := by
    have := (List.getElem?_eq_some_iff.1 ha).1
    omega
  have hx : X[i]? = some (X.getD i undef) := by simp [hi]
  exact ⟨by simp [World.cell?, h1, hi], h6 i _ a hx ha⟩
theorem CellsAt.shift {V : Mem} {w : World} {b off k : Nat} {cs : List AV} (h : CellsAt V w b off cs) : CellsAt V w b (off + k) (cs.drop k) := by
  obtain ⟨X, hX⟩ := h
  refine ⟨fun i => X (k + i), fun i a ha => ?_⟩
  rw [List.getElem?_drop] at ha
  have := hX (k + i) a ha
  rwa [← Nat.add_assoc] at this

/-- a block's cells, if a pointer into it, or a slice of it, is of its present state -/
def AH.now (h : AH) (r k : Nat) : Option Cells := match h.get r with
  | some (.cells c) => if c.ver = k then some c else none
  | _ => none
theorem AH.now_get {h : AH} {r k : Nat} {c : Cells} (e : h.now r k = some c) : h.get r = some (.cells c) ∧ c.ver = k := by
  unfold AH.now at e
  split at e
  · rename_i d hd
    split at e
    · injection e with e
      subst e
      exact ⟨hd, by assumption⟩
    · cases e
  · cases e
def placesOf (P : Program) (fs : List Field) : Option (List (Nat × Nat)) := fs.mapM fun f => (P.info? f.type).map fun i => (f.offset, i.size)
def builtA (P : Program) (t : TypeId) (parts : List (Nat × AV)) : Option (List AV) :=
  match P.info? t, P.underlying t with
  | some it, some (.array _ e) => match it.zero, P.info? e with
    | some z, some ie => fillA (fun i => some (i * ie.size, ie.size)) (z.cells.toList.map .raw) parts
    | _, _ => none
  | some it, some (.struct fields) => match it.zero, fields.toList.mapM (fun f => (P.info? f.type).map fun i => (f.offset, i.size)) with
    | some z, some places => fillA (places.toArray[·]?) (z.cells.toList.map .raw) parts
    | _, _ => none
  | _, _ => none
theorem built_ok {P : Program} {V : Mem} {w : World} {t : TypeId} {vs : List (Nat × Value)} {ps : List (Nat × AV)} {ds : List AV} (hl : vs.length = ps.length)
    (hp : ∀ (i : Nat) (v : Nat × Value) (p : Nat × AV), vs[i]? = some v → ps[i]? = some p → v.1 = p.1 ∧ Den V w v.2 p.2) (h : builtA P t ps = some ds) : ∃ xs, P.built t vs = some xs ∧ DenL V w xs ds := by
  unfold builtA at h
  unfold Program.built
  cases hit : P.info? t with
  | none => simp [hit] at h
  | some it =>
    cases hu : P.underlying t with
    | none => simp [hit, hu] at h
    | some d =>
      cases hz : it.zero with
      | none => cases d <;> simp [hit, hu, hz] at h
      | some z =>
        cases d <;> try (simp [hit, hu] at h; done)
        case array n e =>
          cases hie : P.info? e with
          | none => simp [hit, hu, hz, hie] at h
          | some ie =>
            simp only [hit, hu, hz, hie] at h
            simp only [hz, hie]
            exact fill_ok hl hp (DenL.raws V w _) h
        case struct fields =>
          cases hq : fields.toList.mapM (fun f => (P.info? f.type).map fun i => (f.offset, i.size)) with
          | none => simp [hit, hu, hz, hq] at h
          | some places =>
            simp only [hit, hu, hz, hq] at h
            simp only [hz, hq]
            exact fill_ok hl hp (DenL.raws V w _) h
/-- the parts' numbers and values -/
def AF.parts (f : AF) : List (Nat × Operand) → Option (List (Nat × AV))
  | [] => some []
  | (i, x) :: l => match f.ev x, f.parts l with
    | some a, some as => some ((i, a) :: as)
    | _, _ => none
theorem FrDen.parts {V : Mem} {w : World} {f : AF} {a : Act} (h : FrDen V w f a) : ∀ {xs : List (Nat × Operand)} {ys : List (Nat × AV)}, f.parts xs = some ys →
    (xs.map fun (i, x) => (i, a.eval x)).length = ys.length ∧ ∀ (i : Nat) (v : Nat × Value) (p : Nat × AV), (xs.map fun (i, x) => (i, a.eval x))[i]? = some v → ys[i]? = some p → v.1 = p.1 ∧ Den V w v.2 p.2
  | [], ys, hy => by
    simp [AF.parts] at hy
    subst hy
    exact ⟨rfl, fun i v p h => by simp at h⟩
  | (j, x) :: xs, ys, hy => by
    simp only [AF.parts] at hy
    split at hy
    · rename_i b bs h1 h2
      injection hy with hy
      subst hy
      obtain ⟨e1, e2⟩ := h.parts h2
      refine ⟨by simpa using e1, fun i v p k1 k2 => ?_⟩
      cases i with
      | zero => simp at k1 k2; subst k1 k2; exact ⟨rfl, h.ev h1⟩
      | succ i => exact e2 i v p (by simpa using k1) (by simpa using k2)
    · cases hy

def rLoad (P : Program) (h : AH) (f : AF) (t : TypeId) (a : Operand) : Option AV :=
  match f.ev a with
  | some (.ptr r k off) => match h.now r k with
    | some c => partA P t c.cs off
    | none => none
  | some (.vptr cs) => partA P t cs 0
  | _ => none
def rField (P : Program) (f : AF) (t : TypeId) (x : Operand) (k : Nat) : Option AV :=
  match P.underlying t, f.ev x with
  | some (.struct fs), some (.agg cs) => match fs[k]? with
    | some fd => partA P fd.type cs fd.offset
    | none => none
  | _, _ => none
def rFieldAddr (P : Program) (h : AH) (f : AF) (t : TypeId) (x : Operand) (k : Nat) : Option AV :=
  match P.underlying t with
  | some (.struct fs) => match fs[k]? with
    | some fd => match szOf P fd.type with
      | some (_ + 1) => match f.ev x with
        | some (.ptr r k off) => match h.now r k with
          | some _ => some (.ptr r k (off + fd.offset))
          | none => none
        | some (.vptr cs) => some (.vptr (cs.drop fd.offset))
        | _ => none
      | _ => none
    | none => none
  | _ => none
def rIndexAddr (P : Program) (h : AH) (f : AF) (t : TypeId) (x i : Operand) : Option AV :=
  match P.underlying t, f.ev i with
  | some (.slice e), some (.raw (.int _ n)) => match szOf P e, f.ev x with
    | some sz, some (.row r k off len) => match h.now r k with
      | some c => if 0 ≤ n ∧ n < len ∧ c.sz = sz then some (.ptr r k (off + n.toNat * sz)) else none
      | none => none
    | some sz, some (.vals s es) => if 0 ≤ n ∧ s = sz then (es[n.toNat]?).map fun e => .vptr e.cells else none
    | _, _ => none
  | some (.array len e), some (.raw (.int _ n)) => match szOf P e, f.ev x with
    | some sz, some (.vptr cs) => if 0 ≤ n ∧ n < len then some (.vptr (cs.drop (n.toNat * sz))) else none
    | _, _ => none
  | _, _ => none
def rExtract (f : AF) (x : Operand) (i : Nat) : Option AV :=
  match f.ev x with
  | some (.tup vs) => vs[i]?
  | _ => none
def rMakeFunc (f : AF) (fn : Fn) (first cap : List Operand) : Option AV :=
  match f.evs first, f.evs cap with
  | some a, some b => some (.clo fn a b)
  | _, _ => none
def rIface (P : Program) (f : AF) (t : TypeId) (x : Operand) : Option AV :=
  match P.underlying t with
  | some (.interface _) => none
  | some _ => (f.ev x).map (.ifc t)
  | none => none
def rNil (h : AH) (f : AF) (x : Operand) : Option AV :=
  match f.ev x with
  | some (.vptr cs) => some (.vptr cs)
  | some (.ptr r k off) => match h.now r k with
    | some _ => some (.ptr r k off)
    | none => none
  | some (.clo (.func g) a b) => some (.clo (.func g) a b)
  | some (.agg cs) => some (.agg cs)
  | _ => none
def rLen (P : Program) (h : AH) (f : AF) (t : TypeId) (x : Operand) : Option AV :=
  match P.underlying t with
  | some (.slice _) => match f.ev x with
    | some (.row r k _ len) => match h.now r k with
      | some _ => some (.raw (goInt len))
      | none => none
    | some (.vals _ es) => some (.raw (goInt es.length))
    | some .emp => some (.raw (goInt 0))
    | some (.raw (.slice _ n _)) => some (.raw (goInt n))
    | _ => none
  | _ => none
/-- a bound of a slice: what is said, or what is meant where nothing is said -/
def AF.bound (f : AF) (x : Option Operand) (d : Nat) : Option Nat :=
  match x with
  | none => some d
  | some x => match f.ev x with
    | some (.raw (.int _ n)) => if 0 ≤ n then some n.toNat else none
    | _ => none
def rSlice (P : Program) (h : AH) (f : AF) (t : TypeId) (x : Operand) (lo hi mx : Option Operand) : Option AV :=
  match P.underlying t with
  | some (.slice e) => match szOf P e, f.ev x, mx with
    | some sz, some (.row r k off len), none => match h.now r k, f.bound lo 0, f.bound hi len with
      | some c, some l, some m => if l ≤ m ∧ m ≤ len ∧ c.sz = sz then (if l = 0 then some (.row r k off m) else if l = m then some (.vals sz []) else some (.row r k (off + l * sz) (m - l))) else none
      | _, _, _ => none
    | some sz, some (.vals s es), none => match f.bound lo 0, f.bound hi es.length with
      | some l, some m => if l ≤ m ∧ m ≤ es.length ∧ s = sz then some (.vals sz ((es.take m).drop l)) else none
      | _, _ => none
    | some _, some .emp, none => match f.bound lo 0, f.bound hi 0 with
      | some 0, some 0 => some .emp
      | _, _ => none
    | some _, some (.row r k _ _), some _ => match h.now r k, f.bound lo 0, hi.bind (fun x => f.bound (some x) 0), mx.bind (fun x => f.bound (some x) 0) with
      | some _, some 0, some 0, some 0 => some .emp
      | _, _, _, _ => none
    | some _, some (.vals _ _), some _ => match f.bound lo 0, hi.bind (fun x => f.bound (some x) 0), mx.bind (fun x => f.bound (some x) 0) with
      | some 0, some 0, some 0 => some .emp
      | _, _, _ => none
    | some _, some .emp, some _ => match f.bound lo 0, hi.bind (fun x => f.bound (some x) 0), mx.bind (fun x => f.bound (some x) 0) with
      | some 0, some 0, some 0 => some .emp
      | _, _, _ => none
    | _, _, _ => none
  | _ => none
def rPick (f : AF) (c a b : Operand) : Option AV :=
  match f.ev c with
  | some (.raw (.bool t)) => f.ev (if t then a else b)
  | _ => none
def rCall (P : Program) (h : AH) (f : AF) (c : Call) : Option AV :=
  match c.callee, c.args.toList, c.argTypes.toList with
  | .builtin .len, [x], [t] => rLen P h f t x
  | _, _, _ => none
/-- an operation that reads -/
def rop (P : Program) (h : AH) (f : AF) (o : Oper) : Option AV :=
  match o.op with
  | .move x | .assign x => f.ev x
  | .pick c a b => rPick f c a b
  | .build t parts => ((f.parts parts.toList).bind (builtA P t)).map .agg
  | .load t a => rLoad P h f t a
  | .field t x k => rField P f t x k
  | .fieldAddr t x k => rFieldAddr P h f t x k
  | .indexAddr t x i => rIndexAddr P h f t x i
  | .extract x i => rExtract f x i
  | .makeFunc fn first cap => rMakeFunc f fn first.toList cap.toList
  | .makeInterface t x => rIface P f t x
  | .nilCheck x => rNil h f x
  | .call c => rCall P h f c
  | .slice t x lo hi mx => rSlice P h f t x lo hi mx
  | _ => none
section
variable {P : Program} {h : AH} {V : Mem} {w : World} {f : AF} {a : Act} {y : AV}
theorem Den.ptr_now {r k off : Nat} {c : Cells} {v : Value} (hA : Agr h V) (hd : Den V w v (.ptr r k off)) (e : h.now r k = some c) : V.blk r = some (.cells c) ∧ v = .pointer (some ⟨V.pos r, off, none⟩) := by
  obtain ⟨e1, e2⟩ := AH.now_get e
  cases hd with
  | ptr hv hb hh =>
    have e1 := hA r _ hb e1
    exact ⟨e1, (hh c e1).2 e2⟩
theorem Den.row_now {r k off len : Nat} {c : Cells} {v : Value} (hA : Agr h V) (hd : Den V w v (.row r k off len)) (e : h.now r k = some c) : V.blk r = some (.cells c) ∧ off + len * c.sz ≤ c.cs.length ∧ ∃ cap, v = .slice (some ⟨V.pos r, off, none⟩) len cap ∧ len ≤ cap ∧ off + cap * c.sz ≤ V.room r := by
  obtain ⟨e1, e2⟩ := AH.now_get e
  cases hd with
  | row hv hb hh =>
    have e1 := hA r _ hb e1
    exact ⟨e1, (hh c e1).2 e2⟩
theorem den_bool {v : Value} {t : Bool} (hd : Den V w v (.raw (.bool t))) : v = .bool t := by cases hd; rfl
theorem den_raw {v u : Value} (hd : Den V w v (.raw u)) : v = u := by cases hd; rfl
theorem rPick_ok {c x z : Operand} (hf : FrDen V w f a) (hy : rPick f c x z = some y) : ∃ t, a.eval c = .bool t ∧ Den V w (if t then a.eval x else a.eval z) y := by
  unfold rPick at hy
  split at hy
  · rename_i t ht
    exact ⟨t, den_bool (hf.ev ht), by cases t <;> exact hf.ev hy⟩
  · cases hy
theorem rLoad_ok {t : TypeId} {x : Operand} (hV : Rel V w) (hA : Agr h V) (hf : FrDen V w f a) (hy : rLoad P h f t x = some y) : ∃ v, (Instr.loadAt t (a.eval x)).run P w = .ok v w ∧ Den V w v y := by
  unfold rLoad at hy
  split at hy
  · rename_i r k off hx
    split at hy
    · rename_i c hc
      obtain ⟨e1, e2⟩ := (hf.ev hx).ptr_now hA hc
      rw [e2]
      have := load_ok (k := off) (hV.cellsAt e1) hy
      rw [Nat.zero_add] at this
      exact this
    · cases hy
  · rename_i cs hx
    have hd := hf.ev hx
    generalize a.eval x = u at hd
    cases hd with
    | vptr X h1 h2 =>
      exact load_ok (k := 0) ⟨X, fun i b hb => ⟨(h1 i b hb).2, h2 i b hb⟩⟩ hy
  · cases hy
theorem rField_ok {t : TypeId} {x : Operand} {k : Nat} (hf : FrDen V w f a) (hy : rField P f t x k = some y) : ∃ v, (∀ w, (Instr.field t (a.eval x) k).run P w = .ok v w) ∧ Den V w v y := by
  unfold rField at hy
  split at hy
  · rename_i fs cs hu hx
    split at hy
    · rename_i fd hfd
      have hd := hf.ev hx
      generalize a.eval x = u at hd
      cases hd with
      | agg hl hh =>
        obtain ⟨v, h1, h2⟩ := part_ok ⟨hl, hh⟩ hy
        exact ⟨v, fun w => by simp [Instr.field, run_underlying hu, hfd, asAgg, h1], h2⟩
    · cases hy
  · cases hy
theorem fieldAt_run {t : TypeId} {fs : Array Field} {fd : Field} {k b o n : Nat} (hu : P.underlying t = some (.struct fs)) (hfd : fs[k]? = some fd) (hs : szOf P fd.type = some (n + 1)) :
    (Instr.fieldAt t (.pointer (some ⟨b, o, none⟩)) k).run P w = .ok (.pointer (some ⟨b, o + fd.offset, none⟩)) w := by
  simp [Instr.fieldAt, run_underlying hu, hfd, Instr.sureAddr, fieldPlace, run_sizeOf hs, Addr.add_mid]
theorem rFieldAddr_ok {t : TypeId} {x : Operand} {k : Nat} (hA : Agr h V) (hf : FrDen V w f a) (hy : rFieldAddr P h f t x k = some y) : ∃ v, (Instr.fieldAt t (a.eval x) k).run P w = .ok v w ∧ Den V w v y := by
  unfold rFieldAddr at hy
  split at hy
  · rename_i fs hu
    split at hy
    · rename_i fd hfd
      split at hy
      · rename_i n hs
        split at hy
        · rename_i r j off hx
          split at hy
          · rename_i c hc
            injection hy with hy
            subst hy
            have hd := hf.ev hx
            generalize a.eval x = u at hd
            rw [(hd.ptr_now hA hc).2]
            refine ⟨_, fieldAt_run hu hfd hs, ?_⟩
            cases hd with
            | ptr hv hb hh => exact .ptr rfl hb fun d hd => ⟨(hh d hd).1, fun e' => rfl⟩
          · cases hy
        · rename_i cs hx
          injection hy with hy
          subst hy
          have hd := hf.ev hx
          generalize a.eval x = u at hd
          cases hd with
          | vptr X h1 h2 =>
            refine ⟨_, fieldAt_run hu hfd hs, .vptr (fun i => X (fd.offset + i)) (fun i b hb => ?_) fun i b hb => ?_⟩
            · rw [List.getElem?_drop] at hb
              have := h1 _ b hb
              rwa [← Nat.add_assoc] at this
            · rw [List.getElem?_drop] at hb
              exact h2 _ b hb
        · cases hy
      · cases hy
    · cases hy
  · cases hy
theorem indexAt_run {t e : TypeId} {b o len cap n sz : Nat} {k : IntKind} (hu : P.underlying t = some (.slice e)) (hs : szOf P e = some sz) (hn : n < len) :
    (Instr.indexAt t (.slice (some ⟨b, o, none⟩) len cap) (.int k (n : Int))).run P w = .ok (.pointer (some ⟨b, o + n * sz, none⟩)) w := by
  have : ((n : Int) < (len : Int)) := by omega
  simp [Instr.indexAt, run_underlying hu, asIntOf, run_sizeOf hs, Addr.add_mid, hn]
theorem indexArr_run {t e : TypeId} {b o len n sz : Nat} {k : IntKind} (hu : P.underlying t = some (.array len e)) (hs : szOf P e = some sz) (hn : n < len) :
    (Instr.indexAt t (.pointer (some ⟨b, o, none⟩)) (.int k (n : Int))).run P w = .ok (.pointer (some ⟨b, o + n * sz, none⟩)) w := by
  have : ((n : Int) < (len : Int)) := by omega
  simp [Instr.indexAt, run_underlying hu, asIntOf, Instr.sureAddr, run_sizeOf hs, Addr.add_mid, hn]
theorem rIndexAddr_ok {t : TypeId} {x i : Operand} (hA : Agr h V) (hf : FrDen V w f a) (hy : rIndexAddr P h f t x i = some y) : ∃ v, (Instr.indexAt t (a.eval x) (a.eval i)).run P w = .ok v w ∧ Den V w v y := by
  unfold rIndexAddr at hy
  split at hy
  · rename_i e k n hu hi
    rw [den_raw (hf.ev hi)]
    split at hy
    · rename_i sz r j off len hs hx
      split at hy
      · rename_i c hc
        split at hy
        · rename_i hn
          obtain ⟨n0, n1, n2⟩ := hn
          injection hy with hy
          subst hy
          have hd := hf.ev hx
          generalize a.eval x = u at hd
          obtain ⟨m, rfl⟩ : ∃ m : Nat, n = m := ⟨n.toNat, by omega⟩
          obtain ⟨_, _, cap, e1, _⟩ := hd.row_now hA hc
          rw [e1]
          refine ⟨_, indexAt_run hu hs (by omega), ?_⟩
          cases hd with
          | row hv hb hh => exact .ptr rfl hb fun d hd => ⟨(hh d hd).1, fun e' => rfl⟩
        · cases hy
      · cases hy
    · rename_i sz s es hs hx
      split at hy
      · rename_i hn
        obtain ⟨n0, rfl⟩ := hn
        obtain ⟨m, rfl⟩ : ∃ m : Nat, n = m := ⟨n.toNat, by omega⟩
        simp only [Int.toNat_natCast] at hy
        cases he : es[m]? with
        | none => simp [he] at hy
        | some b =>
          simp [he] at hy
          subst hy
          have hm : m < es.length := (List.getElem?_eq_some_iff.1 he).1
          have hd := hf.ev hx
          generalize a.eval x = u at hd
          cases hd with
          | vnil => simp at hm
          | vals X hc hs' h1 h2 =>
            exact ⟨_, indexAt_run hu hs hm, .vptr (X m) (fun i c hc => h1 m b i c he hc) fun i c hc => h2 m b i c he hc⟩
      · cases hy
    · cases hy
  · rename_i len e k n hu hi
    rw [den_raw (hf.ev hi)]
    split at hy
    · rename_i sz cs hs hx
      split at hy
      · rename_i hn
        obtain ⟨n0, n1⟩ := hn
        injection hy with hy
        subst hy
        obtain ⟨m, rfl⟩ : ∃ m : Nat, n = m := ⟨n.toNat, by omega⟩
        simp only [Int.toNat_natCast]
        have hd := hf.ev hx
        generalize a.eval x = u at hd
        cases hd with
        | vptr X h1 h2 =>
          refine ⟨_, indexArr_run hu hs (by omega), .vptr (fun i => X (m * sz + i)) (fun i c hc => ?_) fun i c hc => ?_⟩
          · rw [List.getElem?_drop] at hc
            rw [Nat.add_assoc]
            exact h1 _ c hc
          · rw [List.getElem?_drop] at hc
            exact h2 _ c hc
      · cases hy
    · cases hy
  · cases hy
theorem rExtract_ok {x : Operand} {i : Nat} (hf : FrDen V w f a) (hy : rExtract f x i = some y) : ∃ v, (∀ w, (Instr.extract (a.eval x) i).run P w = .ok v w) ∧ Den V w v y := by
  unfold rExtract at hy
  split at hy
  · rename_i vs hx
    have hd := hf.ev hx
    generalize a.eval x = u at hd
    cases hd with
    | tup hl hh =>
      obtain ⟨v, h1, h2⟩ := DenL.get ⟨hl, hh⟩ hy
      exact ⟨v, fun w => by simp [Instr.extract, h1], h2⟩
  · cases hy
theorem rMakeFunc_ok {fn : Fn} {first cap : Array Operand} (hf : FrDen V w f a) (hy : rMakeFunc f fn first.toList cap.toList = some y) : Den V w (.func fn (first.map a.eval) (cap.map a.eval)) y := by
  unfold rMakeFunc at hy
  split at hy
  · rename_i as bs h1 h2
    injection hy with hy
    subst hy
    have k1 := hf.evs h1
    have k2 := hf.evs h2
    have e1 : (first.toList.map a.eval).toArray = first.map a.eval := by apply Array.ext'; simp
    have e2 : (cap.toList.map a.eval).toArray = cap.map a.eval := by apply Array.ext'; simp
    rw [e1] at k1
    rw [e2] at k2
    exact .clo k1.1 k2.1 k1.2 k2.2
  · cases hy
theorem rIface_ok {t : TypeId} {x : Operand} (hf : FrDen V w f a) (hy : rIface P f t x = some y) : ∃ v, (∀ w, (Instr.makeInterface t (a.eval x)).run P w = .ok v w) ∧ Den V w v y := by
  unfold rIface at hy
  split at hy
  · cases hy
  · rename_i d hd hu
    cases hx : f.ev x with
    | none => simp [hx] at hy
    | some z =>
      simp [hx] at hy
      subst hy
      refine ⟨_, fun w => ?_, .ifc (hf.ev hx)⟩
      simp only [Instr.makeInterface, Sem.run_bind, run_underlying hu, Result.andThen_ok]
      cases d <;> first | rfl | exact absurd rfl (hd _)
  · cases hy
theorem rLen_ok {t ty : TypeId} {x : Operand} (hA : Agr h V) (hf : FrDen V w f a) (hy : rLen P h f t x = some y) : ∃ v, (∀ w, (Builtin.len_ #[t] ty #[a.eval x]).run P w = .ok v w) ∧ Den V w v y := by
  unfold rLen at hy
  split at hy
  · rename_i e hu
    split at hy
    · rename_i r k off len hx
      split at hy
      · rename_i c hc
        injection hy with hy
        subst hy
        obtain ⟨_, _, cap, e1, _⟩ := (hf.ev hx).row_now hA hc
        exact ⟨_, fun w => by rw [e1]; simp [Builtin.len_, run_underlying hu], .raw _⟩
      · cases hy
    · rename_i s es hx
      injection hy with hy
      subst hy
      have hd := hf.ev hx
      generalize a.eval x = u at hd
      cases hd with
      | vnil => exact ⟨_, fun w => by simp [Builtin.len_, run_underlying hu], .raw _⟩
      | vals X hc hs h1 h2 => exact ⟨_, fun w => by simp [Builtin.len_, run_underlying hu], .raw _⟩
    · rename_i hx
      injection hy with hy
      subst hy
      have hd := hf.ev hx
      generalize a.eval x = u at hd
      cases hd with
      | emp => exact ⟨_, fun w => by simp [Builtin.len_, run_underlying hu], .raw _⟩
    · rename_i hx
      injection hy with hy
      subst hy
      rw [den_raw (hf.ev hx)]
      exact ⟨_, fun w => by simp [Builtin.len_, run_underlying hu], .raw _⟩
    · cases hy
  · cases hy
theorem bound_ok {x : Option Operand} {d n y : Nat} {code : BoundsCode} (hf : FrDen V w f a) (e : f.bound x d = some n) (hle : n ≤ y) :
    (match x.map a.eval with | some v => Instr.sliceBound v y code | none => pure d).run P w = .ok n w := by
  unfold AF.bound at e
  cases x with
  | none => simp at e; subst e; rfl
  | some x =>
    simp only at e
    split at e
    · rename_i k m hx
      split at e
      · rename_i h0
        injection e with e
        subst e
        have : m ≤ (y : Int) := by omega
        simp [den_raw (hf.ev hx), Instr.sliceBound, asIntOf, h0, this]
      · cases e
    · cases e
theorem sliceAt_run {t e : TypeId} {A : Option Addr} {len cap l m sz : Nat} {lo hi : Option Operand} (hf : FrDen V w f a) (hu : P.underlying t = some (.slice e)) (hs : szOf P e = some sz) (hl : f.bound lo 0 = some l) (hh : f.bound hi len = some m) (h1 : l ≤ m) (h2 : m ≤ cap) :
    (Instr.sliceAt t (.slice A len cap) (lo.map a.eval) (hi.map a.eval) none).run P w = .ok (.slice (if cap = l then A else A.map (·.add (l * sz))) (m - l) (cap - l)) w := by
  have b1 := bound_ok (P := P) (y := cap) (code := .sliceAcap) hf hh h2
  have b2 := bound_ok (P := P) (y := m) (code := .sliceB) hf hl h1
  simp only [Instr.sliceAt, Instr.slice, Instr.sliceBounds, Sem.run_bind, run_underlying hu, Result.andThen_ok, run_sizeOf hs, Option.isSome_none, Sem.run_pure, if_true]
  cases lo <;> cases hi <;> simp only [Option.map_some, Option.map_none] at b1 b2 ⊢ <;> simp_all
theorem hi_bound {hi : Option Operand} {n : Nat} (e : hi.bind (fun x => f.bound (some x) 0) = some n) : ∃ x, hi = some x ∧ f.bound (some x) 0 = some n := by
  cases hi with
  | none => simp at e
  | some x => exact ⟨x, rfl, by simpa using e⟩
theorem slice3_run {t e : TypeId} {A : Option Addr} {len cap sz : Nat} {lo : Option Operand} {hi mx : Operand} (hf : FrDen V w f a) (hu : P.underlying t = some (.slice e)) (hs : szOf P e = some sz) (hl : f.bound lo 0 = some 0) (hh : f.bound (some hi) 0 = some 0) (hm : f.bound (some mx) 0 = some 0) :
    (Instr.sliceAt t (.slice A len cap) (lo.map a.eval) (some (a.eval hi)) (some (a.eval mx))).run P w = .ok (.slice A 0 0) w := by
  have b1 := bound_ok (P := P) (y := cap) (code := .slice3Acap) hf hm (Nat.zero_le _)
  have b2 := bound_ok (P := P) (y := 0) (code := .slice3B) hf hh (Nat.zero_le _)
  have b3 := bound_ok (P := P) (y := 0) (code := .slice3C) hf hl (Nat.zero_le _)
  simp only [Instr.sliceAt, Instr.slice, Instr.sliceBounds, Sem.run_bind, run_underlying hu, Result.andThen_ok, run_sizeOf hs, Option.isSome_some, Sem.run_pure, if_true]
  cases lo <;> simp only [Option.map_some, Option.map_none] at b1 b2 b3 ⊢ <;> simp_all
theorem rSlice_ok {t : TypeId} {x : Operand} {lo hi mx : Option Operand} (hA : Agr h V) (hf : FrDen V w f a) (hy : rSlice P h f t x lo hi mx = some y) : ∃ v, (Instr.sliceAt t (a.eval x) (lo.map a.eval) (hi.map a.eval) (mx.map a.eval)).run P w = .ok v w ∧ Den V w v y := by
  unfold rSlice at hy
  split at hy
  · rename_i e hu
    split at hy
    · rename_i sz r k off len hs hx
      split at hy
      · rename_i c l m hc hl hm
        split at hy
        · rename_i hle
          obtain ⟨i1, i2, i3⟩ := hle
          have hd := hf.ev hx
          generalize a.eval x = u at hd
          obtain ⟨j0, j1, cap, e1, j2, j3⟩ := hd.row_now hA hc
          have hrun := sliceAt_run (P := P) (A := some ⟨V.pos r, off, none⟩) (cap := cap) hf hu hs hl hm i1 (by omega)
          rw [e1]
          simp only [Option.map_none]
          refine ⟨_, hrun, ?_⟩
          cases hd with
          | row hv hb hh =>
            by_cases hl0 : l = 0
            · subst hl0
              rw [if_pos rfl] at hy
              injection hy with hy
              subst hy
              refine .row rfl hb fun d hd => ⟨(hh d hd).1, fun e' => ?_⟩
              have hcd : d = c := by
                rw [j0] at hd
                injection hd with hd
                injection hd with hd
                exact hd.symm
              subst hcd
              have := Nat.mul_le_mul_right d.sz i2
              refine ⟨by omega, cap, ?_, by omega, j3⟩
              by_cases hc0 : cap = 0 <;> simp [hc0, Addr.add_mid]
            · rw [if_neg hl0] at hy
              by_cases hlm : l = m
              · rw [if_pos hlm] at hy
                injection hy with hy
                subst hy
                subst hlm
                rw [Nat.sub_self]
                by_cases hc0 : cap = l
                · rw [if_pos hc0]
                  exact .vals (es := []) (fun _ _ => undef) (Nat.zero_le _) (fun j e h => by simp at h) (fun j e i a h => by simp at h) (fun j e i a h => by simp at h)
                · rw [if_neg hc0]
                  simp only [Option.map_some, Addr.add_mid]
                  exact .vals (es := []) (fun _ _ => undef) (Nat.zero_le _) (fun j e h => by simp at h) (fun j e i a h => by simp at h) (fun j e i a h => by simp at h)
              · rw [if_neg hlm] at hy
                injection hy with hy
                subst hy
                refine .row rfl hb fun d hd => ⟨(hh d hd).1, fun e' => ?_⟩
                have hcd : d = c := by
                  rw [j0] at hd
                  injection hd with hd
                  injection hd with hd
                  exact hd.symm
                subst hcd
                subst i3
                have k1 := Nat.mul_le_mul_right d.sz i2
                have k2 : l * d.sz + (m - l) * d.sz = m * d.sz := by rw [← Nat.add_mul]; congr 1; omega
                have k3 : l * d.sz + (cap - l) * d.sz = cap * d.sz := by rw [← Nat.add_mul]; congr 1; omega
                refine ⟨by omega, cap - l, ?_, by omega, by show off + l * d.sz + (cap - l) * d.sz ≤ V.room r; omega⟩
                rw [if_neg (by omega)]
                simp [Addr.add_mid]
        · cases hy
      · cases hy
    · rename_i sz s es hs hx
      split at hy
      · rename_i l m hl hm
        split at hy
        · rename_i hle
          obtain ⟨i1, i2, rfl⟩ := hle
          injection hy with hy
          subst hy
          have hd := hf.ev hx
          generalize a.eval x = u at hd
          simp only [Option.map_none]
          cases hd with
          | vnil =>
            simp at i2
            subst i2
            obtain rfl : l = 0 := by omega
            rename_i A0 cap0
            have hrun := sliceAt_run (P := P) (A := A0) (len := 0) (cap := cap0) hf hu hs hl hm (Nat.le_refl _) (Nat.zero_le _)
            exact ⟨_, hrun, by simpa using Den.vnil⟩
          | vals X hc hs' h1 h2 =>
            rename_i b off cap
            have hrun := sliceAt_run (P := P) (A := some ⟨b, off, none⟩) (len := es.length) (cap := cap) hf hu hs hl hm i1 (by omega)
            refine ⟨_, hrun, ?_⟩
            have hlen : ((es.take m).drop l).length = m - l := by simp; omega
            rw [← hlen]
            have ga : ∀ j, ((es.take m).drop l)[j]? = if l + j < m then es[l + j]? else none := fun j => by
              rw [List.getElem?_drop, List.getElem?_take]
            by_cases hc0 : cap = l
            · have : (es.take m).drop l = [] := List.eq_nil_of_length_eq_zero (by rw [hlen]; omega)
              rw [if_pos hc0, this]
              exact .vals (es := []) (fun _ _ => undef) (Nat.zero_le _) (fun j e h => by simp at h) (fun j e i a h => by simp at h) (fun j e i a h => by simp at h)
            · rw [if_neg hc0]
              simp only [Option.map_some, Addr.add_mid]
              refine .vals (fun j i => X (l + j) i) (by rw [hlen]; omega) (fun j e hj => ?_) (fun j e i a hj hi => ?_) (fun j e i a hj hi => ?_)
              · rw [ga] at hj
                split at hj
                · exact hs' _ _ hj
                · cases hj
              · rw [ga] at hj
                split at hj
                · have := h1 _ _ _ _ hj hi
                  have k2 : off + (l + j) * s + i = off + l * s + j * s + i := by rw [Nat.add_mul]; omega
                  rwa [k2] at this
                · cases hj
              · rw [ga] at hj
                split at hj
                · exact h2 _ _ _ _ hj hi
                · cases hj
        · cases hy
      · cases hy
    · rename_i sz hs hx
      split at hy
      · rename_i hl hm
        injection hy with hy
        subst hy
        have hd := hf.ev hx
        generalize a.eval x = u at hd
        cases hd with
        | emp => exact ⟨_, sliceAt_run (P := P) hf hu hs hl hm (Nat.le_refl _) (Nat.le_refl _), by simpa using Den.emp⟩
      · cases hy
    · rename_i sz r k off len mx hs hx
      split at hy
      · rename_i c hc hl hm hmx
        injection hy with hy
        subst hy
        obtain ⟨z, rfl, hm⟩ := hi_bound hm
        obtain ⟨_, _, cap, e1, _⟩ := (hf.ev hx).row_now hA hc
        rw [e1]
        exact ⟨_, slice3_run hf hu hs hl hm hmx, .emp⟩
      · cases hy
    · rename_i sz s es mx hs hx
      split at hy
      · rename_i hl hm hmx
        injection hy with hy
        subst hy
        obtain ⟨z, rfl, hm⟩ := hi_bound hm
        have hd := hf.ev hx
        generalize a.eval x = u at hd
        cases hd with
        | vnil => exact ⟨_, slice3_run hf hu hs hl hm hmx, .emp⟩
        | vals X hc hs' h1 h2 => exact ⟨_, slice3_run hf hu hs hl hm hmx, .emp⟩
      · cases hy
    · rename_i sz mx hs hx
      split at hy
      · rename_i hl hm hmx
        injection hy with hy
        subst hy
        obtain ⟨z, rfl, hm⟩ := hi_bound hm
        have hd := hf.ev hx
        generalize a.eval x = u at hd
        cases hd with
        | emp => exact ⟨_, slice3_run hf hu hs hl hm hmx, .emp⟩
      · cases hy
    · cases hy
  · cases hy
theorem rop_ok {o : Oper} (hV : Rel V w) (hA : Agr h V) (hf : FrDen V w f a) (hy : rop P h f o = some y) :
    ∃ v, (execOp a.eval o).run P w = .ok (.value v) w ∧ Den V w v y := by
  obtain ⟨dst, op, ty, pos, after, guard⟩ := o
  unfold rop at hy
  cases op <;> simp only at hy <;> try (cases hy; done)
  case move x => exact ⟨a.eval x, by simp [execOp], hf.ev hy⟩
  case assign x => exact ⟨a.eval x, by simp [execOp], hf.ev hy⟩
  case pick c x z =>
    obtain ⟨t, h1, h2⟩ := rPick_ok hf hy
    exact ⟨_, by simp [execOp, h1, asBool], h2⟩
  case build t parts =>
    cases hp : f.parts parts.toList with
    | none => simp [hp] at hy
    | some ps =>
      simp only [hp, Option.bind_some] at hy
      cases hb : builtA P t ps with
      | none => simp [hb] at hy
      | some ds =>
        simp [hb] at hy
        subst hy
        obtain ⟨e1, e2⟩ := hf.parts hp
        obtain ⟨xs, k1, k2⟩ := built_ok e1 e2 hb
        refine ⟨.agg xs, ?_, .agg k2.1 k2.2⟩
        have := run_build (P := P) w t (parts.map fun (i, x) => (i, a.eval x)) xs (by simpa using k1)
        simp [execOp, this]
  case load t x =>
    obtain ⟨v, h1, h2⟩ := rLoad_ok hV hA hf hy
    exact ⟨v, by simp [execOp, h1], h2⟩
  case field t x k =>
    obtain ⟨v, h1, h2⟩ := rField_ok hf hy
    exact ⟨v, by simp [execOp, h1], h2⟩
  case fieldAddr t x k =>
    obtain ⟨v, h1, h2⟩ := rFieldAddr_ok hA hf hy
    exact ⟨v, by simp [execOp, h1], h2⟩
  case indexAddr t x i =>
    obtain ⟨v, h1, h2⟩ := rIndexAddr_ok hA hf hy
    exact ⟨v, by simp [execOp, h1], h2⟩
  case extract x i =>
    obtain ⟨v, h1, h2⟩ := rExtract_ok (P := P) hf hy
    exact ⟨v, by simp [execOp, h1], h2⟩
  case makeFunc fn first cap => exact ⟨_, by simp [execOp, Instr.makeFunc], rMakeFunc_ok hf hy⟩
  case makeInterface t x =>
    obtain ⟨v, h1, h2⟩ := rIface_ok hf hy
    exact ⟨v, by simp [execOp, h1], h2⟩
  case nilCheck x =>
    unfold rNil at hy
    split at hy
    · rename_i cs hx
      injection hy with hy
      subst hy
      refine ⟨a.eval x, ?_, hf.ev hx⟩
      have hd := hf.ev hx
      simp only [execOp]
      generalize a.eval x = u at hd
      cases hd; rfl
    · rename_i r k off hx
      split at hy
      · rename_i c hc
        injection hy with hy
        subst hy
        refine ⟨a.eval x, ?_, hf.ev hx⟩
        have hd := hf.ev hx
        simp only [execOp]
        rw [(hd.ptr_now hA hc).2]; rfl
      · cases hy
    · rename_i F as bs hx
      injection hy with hy
      subst hy
      refine ⟨a.eval x, ?_, hf.ev hx⟩
      have hd := hf.ev hx
      simp only [execOp]
      generalize a.eval x = u at hd
      cases hd; rfl
    · rename_i cs hx
      injection hy with hy
      subst hy
      refine ⟨a.eval x, ?_, hf.ev hx⟩
      have hd := hf.ev hx
      simp only [execOp]
      generalize a.eval x = u at hd
      cases hd; rfl
    · cases hy
  case slice t x lo hi mx =>
    obtain ⟨v, h1, h2⟩ := rSlice_ok hA hf hy
    exact ⟨v, by simp [execOp, h1], h2⟩
  case call c =>
    obtain ⟨callee, args, argTypes⟩ := c
    unfold rCall at hy
    split at hy
    · rename_i x t hb hx ht
      simp only at hb hx ht
      subst hb
      obtain rfl : args = #[x] := by apply Array.ext'; simpa using hx
      obtain rfl : argTypes = #[t] := by apply Array.ext'; simpa using ht
      obtain ⟨v, h1, h2⟩ := rLen_ok (P := P) (ty := ty) hA hf hy
      exact ⟨v, by simp [execOp, resolve, invoke, builtin, h1], h2⟩
    · cases hy
end
end Go.Proofs.YtaoglkkdhdfioaaGreatDoor
