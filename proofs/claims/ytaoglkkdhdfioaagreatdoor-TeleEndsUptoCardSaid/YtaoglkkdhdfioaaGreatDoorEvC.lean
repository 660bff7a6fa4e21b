/- The memory as a list of numbered blocks; the operations that touch none of it. -/
/- The operations that only read. -/
import Derived.Test.YtaoglkkdhdfioaaGreatDoorEvA
import Derived.Laws.Tables
import Derived.Laws.Sem
namespace Go.Proofs.YtaoglkkdhdfioaaGreatDoor
open Go

/-- the blocks that we know of -/
structure AH where
  next : Nat
  hid : List Nat
  blk : List (Nat × Blk)
def AH.find : List (Nat × Blk) → Nat → Option Blk
  | [], _ => none
  | (s, o) :: l, r => if r = s then some o else AH.find l r
def AH.sub : List (Nat × Blk) → Nat → Blk → List (Nat × Blk)
  | [], r, o => [(r, o)]
  | (s, p) :: l, r, o => if r = s then (r, o) :: l else (s, p) :: AH.sub l r o
def AH.get (h : AH) (r : Nat) : Option Blk := AH.find h.blk r
def AH.put (h : AH) (r : Nat) (o : Blk) : AH := { h with blk := AH.sub h.blk r o }
def AH.new (h : AH) (o : Blk) : AH := { next := h.next + 1, hid := h.hid.filter (· ≠ h.next), blk := (h.next, o) :: h.blk }
theorem AH.find_sub (l : List (Nat × Blk)) (r s : Nat) (o : Blk) : AH.find (AH.sub l r o) s = if s = r then some o else AH.find l s := by
  induction l with
  | nil => simp [AH.sub, AH.find]
  | cons a l ih =>
    obtain ⟨t, p⟩ := a
    by_cases h : r = t
    · subst h
      simp only [AH.sub, if_true, AH.find]
      by_cases e : s = r <;> simp [e]
    · simp only [AH.sub, h, if_false, AH.find, ih]
      by_cases e : s = t
      · subst e
        have : ¬ s = r := fun e' => h e'.symm
        simp [this]
      · simp [e]
def updf (f : Nat → Nat) (r n : Nat) : Nat → Nat := fun s => if s = r then n else f s
def AH.mem (h : AH) (res : Nat → Nat → Prop) (g q : Nat → Nat) : Mem := ⟨fun r => r < h.next ∧ r ∉ h.hid, h.get, g, q, res⟩
theorem AH.mem_new (h : AH) (res : Nat → Nat → Prop) (g q : Nat → Nat) (o : Blk) (p n : Nat) : (h.new o).mem res (updf g h.next p) (updf q h.next n) = (h.mem res g q).upd h.next (some o) p n := by
  unfold AH.mem Mem.upd
  congr 1
  · funext r; apply propext
    simp only [AH.new, List.mem_filter, decide_eq_true_eq]
    by_cases e : r = h.next
    · subst e; simp
    · simp only [e, ne_eq, not_false_eq_true, and_true, or_false]
      constructor
      · rintro ⟨h1, h2⟩; exact ⟨by omega, h2⟩
      · rintro ⟨h1, h2⟩; exact ⟨by omega, h2⟩
theorem AH.mem_put (h : AH) (res : Nat → Nat → Prop) (g q : Nat → Nat) (r : Nat) (o : Blk) (p n : Nat) (hr : (h.mem res g q).born r) : (h.put r o).mem res (updf g r p) (updf q r n) = (h.mem res g q).upd r (some o) p n := by
  unfold AH.mem Mem.upd
  congr 1
  · funext s; apply propext
    constructor
    · exact fun h1 => .inl h1
    · rintro (h1 | rfl)
      · exact h1
      · exact hr
  · funext s; exact AH.find_sub _ _ _ _

/-- what we know of is there -/
def Agr (h : AH) (V : Mem) : Prop := ∀ r o, V.born r → h.get r = some o → V.blk r = some o
theorem Agr.mem (h : AH) (res : Nat → Nat → Prop) (g q : Nat → Nat) : Agr h (h.mem res g q) := fun _ _ _ h => h
/-- one state behind another -/
structure To (V : Mem) (w : World) (V' : Mem) (w' : World) : Prop where
  rel : Rel V' w'
  fwd : Fwd V w V' w'
  keep : Keep V w w'
  old : Old V w V'
theorem To.refl {V : Mem} {w : World} (h : Rel V w) : To V w V w := ⟨h, Fwd.refl _ _, Keep.refl _ _, Old.refl _ _⟩
theorem To.trans {V1 V2 V3 : Mem} {w1 w2 w3 : World} (h : To V1 w1 V2 w2) (k : To V2 w2 V3 w3) : To V1 w1 V3 w3 :=
  ⟨k.rel, h.fwd.trans k.fwd, h.keep.trans h.old k.keep, h.old.trans h.keep.size k.old⟩

/-- rows of values -/
def DenL (V : Mem) (w : World) (vs : Array Value) (cs : List AV) : Prop := vs.size = cs.length ∧ ∀ (i : Nat) (x : Value) (a : AV), vs[i]? = some x → cs[i]? = some a → Den V w x a
theorem DenL.fwd {V V' : Mem} {w w' : World} {vs : Array Value} {cs : List AV} (h : DenL V w vs cs) (hf : Fwd V w V' w') : DenL V' w' vs cs := ⟨h.1, fun i x a h1 h2 => (h.2 i x a h1 h2).fwd hf⟩
theorem DenL.get {V : Mem} {w : World} {vs : Array Value} {cs : List AV} (h : DenL V w vs cs) {i : Nat} {a : AV} (ha : cs[i]? = some a) : ∃ x, vs[i]? = some x ∧ Den V w x a := by
  have : i < vs.size := by rw [h.1]; exact (List.getElem?_eq_some_iff.1 ha).1
  exact ⟨vs[i], by simp [this], h.2 i _ a (by simp [this]) ha⟩
theorem DenL.raws (V : Mem) (w : World) (vs : Array Value) : DenL V w vs (vs.toList.map .raw) := ⟨by simp, fun i x a h1 h2 => by
  rw [List.getElem?_map] at h2
  have h1' : vs.toList[i]? = some x := by simpa using h1
  rw [h1'] at h2
  simp at h2
  subst h2
  exact .raw _⟩
theorem cells_of_one {v : Value} (h : v.oneCell' = true) : v.cells = #[v] := by
  cases v <;> first | rfl | (simp [Value.oneCell'] at h)
theorem Den.cells {V : Mem} {w : World} {v : Value} {a : AV} (h : Den V w v a) : DenL V w v.cells a.cells := by
  have one : ∀ {v : Value} {a : AV}, v.cells = #[v] → Den V w v a → DenL V w v.cells [a] := fun hv hd => by
    rw [hv]
    refine ⟨rfl, fun i x a h1 h2 => ?_⟩
    cases i with
    | zero => simp at h1 h2; subst h1 h2; exact hd
    | succ i => simp at h2
  cases h with
  | raw v => exact DenL.raws V w _
  | agg hl h => exact ⟨hl, h⟩
  | tup hl h => exact one rfl (.tup hl h)
  | vnil => exact one rfl .vnil
  | emp => exact one rfl .emp
  | vals X hc hs hx h => exact one rfl (.vals X hc hs hx h)
  | vptr X hx h => exact one rfl (.vptr X hx h)
  | clo hf hc h1 h2 => exact one rfl (.clo hf hc h1 h2)
  | ifc h => exact one rfl (.ifc h)
  | row hv hb h => exact one (cells_of_one hv) (.row hv hb h)
  | ptr hv hb h => exact one (cells_of_one hv) (.ptr hv hb h)
  | yld hv hb h => exact one (cells_of_one hv) (.yld hv hb h)
theorem Den.one {V : Mem} {w : World} {v : Value} {a : AV} (h : Den V w v a) (ha : a.one = true) : v.oneCell' = true := by
  cases h with
  | raw v => exact ha
  | agg hl h => cases ha
  | tup hl h => cases ha
  | row hv hb h => exact hv
  | ptr hv hb h => exact hv
  | yld hv hb h => exact hv
  | _ => rfl
end Go.Proofs.YtaoglkkdhdfioaaGreatDoor
namespace Go.Proofs.YtaoglkkdhdfioaaGreatDoor
open Go

structure AF where
  t : Slots
  marks : List Nat
  rnd : Option Nat
def ofV : Value → AV
  | .agg cs => .agg (cs.toList.map .raw)
  | v => .raw v
def AF.ev (f : AF) : Operand → Option AV
  | .tmp t => f.t.get t
  | .const v => some (ofV v)
  | .global g => (globs g).map fun cs => .vptr (cs.map .raw)
  | .func F => some (.clo (.func F) [] [])
def AF.evs (f : AF) : List Operand → Option (List AV)
  | [] => some []
  | x :: l => match f.ev x, f.evs l with
    | some a, some as => some (a :: as)
    | _, _ => none
/-- slots that are these values -/
def DenS (V : Mem) (w : World) (T : Array Value) (s : Slots) : Prop := T.size = s.n ∧ ∀ (i : Nat) (a : AV), s.get i = some a → ∃ x, T[i]? = some x ∧ Den V w x a
theorem DenS.fwd {V V' : Mem} {w w' : World} {T : Array Value} {s : Slots} (h : DenS V w T s) (hf : Fwd V w V' w') : DenS V' w' T s := ⟨h.1, fun i a k => by obtain ⟨x, k1, k2⟩ := h.2 i a k; exact ⟨x, k1, k2.fwd hf⟩⟩
theorem DenS.get {V : Mem} {w : World} {T : Array Value} {s : Slots} (h : DenS V w T s) {i : Nat} {a : AV} (ha : s.get i = some a) : ∃ x, T[i]? = some x ∧ Den V w x a := h.2 i a ha
structure FrDen (V : Mem) (w : World) (f : AF) (a : Act) : Prop where
  tmps : DenS V w a.tmps f.t
  defers : a.defers = f.marks.map fun m => { target := .collected (V.pos m), args := #[] }
  marks : ∀ m ∈ f.marks, V.blk m = some .mark
  nodup : f.marks.Nodup
  glob : Glob V w
theorem FrDen.fwd {V V' : Mem} {w w' : World} {f : AF} {a : Act} (h : FrDen V w f a) (hf : Fwd V w V' w') : FrDen V' w' f a :=
  ⟨h.tmps.fwd hf, by
    rw [h.defers]
    exact List.map_congr_left fun m hm => by rw [(hf.mark m (h.marks m hm)).2], fun m hm => (hf.mark m (h.marks m hm)).1, h.nodup, h.glob.fwd hf⟩
theorem den_ofV (V : Mem) (w : World) (v : Value) : Den V w v (ofV v) := by
  cases v <;> first | exact .raw _ | exact .agg (DenL.raws V w _).1 (DenL.raws V w _).2
theorem FrDen.ev {V : Mem} {w : World} {f : AF} {a : Act} (h : FrDen V w f a) {x : Operand} {y : AV} (hy : f.ev x = some y) : Den V w (a.eval x) y := by
  cases x with
  | tmp t =>
    obtain ⟨v, hv, hd⟩ := h.tmps.get hy
    simpa [Act.eval, Array.getD_eq_getD_getElem?, hv] using hd
  | const v => simp [AF.ev] at hy; subst hy; exact den_ofV V w v
  | global g =>
    cases hg : globs g with
    | none => simp [AF.ev, hg] at hy
    | some cs =>
      simp [AF.ev, hg] at hy
      subst hy
      refine .vptr (fun i => cs.getD i undef) (fun i b hb => ?_) fun i b hb => ?_
      · rw [List.getElem?_map] at hb
        cases hc : cs[i]? with
        | none => simp [hc] at hb
        | some x =>
          have := h.glob g cs hg i x hc
          rw [Nat.zero_add]
          exact ⟨this.1, by rw [this.2]; simp [List.getD_eq_getElem?_getD, hc]⟩
      · rw [List.getElem?_map] at hb
        cases hc : cs[i]? with
        | none => simp [hc] at hb
        | some x =>
          simp [hc] at hb
          subst hb
          simp only [List.getD_eq_getElem?_getD, hc, Option.getD_some]
          exact .raw x
  | func F =>
    simp [AF.ev] at hy
    subst hy
    exact .clo rfl rfl (fun i x a h => by simp at h) (fun i x a h => by simp at h)
theorem FrDen.evs {V : Mem} {w : World} {f : AF} {a : Act} (h : FrDen V w f a) : ∀ {xs : List Operand} {ys : List AV}, f.evs xs = some ys → DenL V w (xs.map a.eval).toArray ys
  | [], ys, hy => by
    simp [AF.evs] at hy
    subst hy
    exact ⟨rfl, fun i x a h => by simp at h⟩
  | x :: xs, ys, hy => by
    cases h1 : f.ev x with
    | none => simp [AF.evs, h1] at hy
    | some y =>
      cases h2 : f.evs xs with
      | none => simp [AF.evs, h1, h2] at hy
      | some zs =>
        simp [AF.evs, h1, h2] at hy
        subst hy
        have ih := h.evs h2
        refine ⟨by simpa using ih.1, fun i u b k1 k2 => ?_⟩
        cases i with
        | zero => simp at k1 k2; subst k1 k2; exact h.ev h1
        | succ i => exact ih.2 i u b (by simpa using k1) (by simpa using k2)

/-! ### What asks no world -/
def pureRun {α : Type} (P : Program) : Sem α → Option α
  | .pure a => some a
  | .program k => pureRun P (k P)
  | _ => none
theorem pureRun_run {α : Type} {P : Program} : ∀ {s : Sem α} {a : α}, pureRun P s = some a → ∀ w, s.run P w = .ok a w
  | .pure b, a, h, w => by simp [pureRun] at h; subst h; rfl
  | .program k, a, h, w => by
    simp only [pureRun] at h
    exact pureRun_run (s := k P) h w
  | .load .., a, h, w => by simp [pureRun] at h
  | .store .., a, h, w => by simp [pureRun] at h
  | .new .., a, h, w => by simp [pureRun] at h
  | .shape .., a, h, w => by simp [pureRun] at h
  | .freeze .., a, h, w => by simp [pureRun] at h
  | .frozen .., a, h, w => by simp [pureRun] at h
  | .getObj .., a, h, w => by simp [pureRun] at h
  | .setObj .., a, h, w => by simp [pureRun] at h
  | .choose .., a, h, w => by simp [pureRun] at h
  | .sys .., a, h, w => by simp [pureRun] at h
  | .mark .., a, h, w => by simp [pureRun] at h
  | .halt .., a, h, w => by simp [pureRun] at h
def rawsOf : List AV → Option (List Value)
  | [] => some []
  | .raw v :: l => (rawsOf l).map (v :: ·)
  | _ :: _ => none
/-- the value itself, if it is of no memory -/
def AV.toV : AV → Option Value
  | .raw v => some v
  | .agg cs => (rawsOf cs).map fun vs => .agg vs.toArray
  | .ifc t (.raw v) => some (.iface t v)
  | .clo fn fs cs => match rawsOf fs, rawsOf cs with
    | some a, some b => some (.func fn a.toArray b.toArray)
    | _, _ => none
  | _ => none
theorem raws_den {V : Mem} {w : World} : ∀ {cs : List AV} {vs : List Value} {us : Array Value}, rawsOf cs = some vs → DenL V w us cs → us = vs.toArray
  | [], vs, us, h, hd => by
    simp [rawsOf] at h
    subst h
    exact Array.eq_empty_of_size_eq_zero (by simpa using hd.1)
  | c :: cs, vs, us, h, hd => by
    cases c with
    | raw v =>
      simp only [rawsOf] at h
      cases h2 : rawsOf cs with
      | none => simp [h2] at h
      | some rs =>
        simp [h2] at h
        subst h
        have hsz := hd.1
        obtain ⟨u, hu, hd0⟩ := hd.get (i := 0) (a := .raw v) rfl
        cases hd0
        have hrest : DenL V w (us.toList.drop 1).toArray cs := ⟨by simp at hsz ⊢; omega, fun i x a k1 k2 => hd.2 (i + 1) x a (by simpa [Nat.add_comm] using k1) (by simpa using k2)⟩
        have := raws_den h2 hrest
        apply Array.ext'
        have h3 : us.toList.drop 1 = rs := by simpa using congrArg Array.toList this
        have h4 : us.toList[0]? = some v := by simpa using hu
        cases hl : us.toList with
        | nil => rw [hl] at h4; simp at h4
        | cons a l =>
          rw [hl] at h3 h4
          simp at h3 h4
          simp [h3, h4]
    | _ => simp [rawsOf] at h
theorem toV_den {V : Mem} {w : World} {a : AV} {v u : Value} (h : a.toV = some v) (hd : Den V w u a) : u = v := by
  cases a with
  | raw x => simp [AV.toV] at h; subst h; cases hd; rfl
  | agg cs =>
    simp only [AV.toV] at h
    cases hr : rawsOf cs with
    | none => simp [hr] at h
    | some vs =>
      simp [hr] at h
      subst h
      cases hd with
      | agg hl hh => rw [raws_den hr ⟨hl, hh⟩]
  | ifc t b =>
    cases b <;> simp [AV.toV] at h
    subst h
    cases hd with
    | ifc hd => cases hd; rfl
  | clo fn fs cs =>
    simp only [AV.toV] at h
    cases h1 : rawsOf fs with
    | none => simp [h1] at h
    | some x =>
      cases h2 : rawsOf cs with
      | none => simp [h1, h2] at h
      | some y =>
        simp [h1, h2] at h
        subst h
        cases hd with
        | clo hf hc k1 k2 => rw [raws_den h1 ⟨hf, k1⟩, raws_den h2 ⟨hc, k2⟩]
  | _ => simp [AV.toV] at h
def AF.rawAt (f : AF) (x : Operand) : Value := ((f.ev x).bind AV.toV).getD undef
def Op.isSelect : Op → Bool
  | .select .. => true
  | _ => false
/-- an operation whose operands are of no memory, and that asks for none -/
def gop (P : Program) (f : AF) (o : Oper) : Option AV :=
  if Op.isSelect o.op then none else
  if o.op.operands.toList.all fun x => ((f.ev x).bind AV.toV).isSome then
    match pureRun P (execOp f.rawAt o) with
    | some (.value v) => some (ofV v)
    | _ => none
  else none
theorem gop_ok {P : Program} {V : Mem} {w : World} {f : AF} {a : Act} {o : Oper} {y : AV} (hf : FrDen V w f a) (h : gop P f o = some y) : ∃ v, (∀ w, (execOp a.eval o).run P w = .ok (.value v) w) ∧ Den V w v y := by
  unfold gop at h
  split at h
  · cases h
  · rename_i hs
    split at h
    · rename_i hall
      have hc : execOp a.eval o = execOp f.rawAt o := by
        refine execOp_congr o (fun cs b e => by rw [e] at hs; simp [Op.isSelect] at hs) fun x hx => ?_
        have := List.all_eq_true.1 hall x (by simpa using hx)
        unfold AF.rawAt
        cases h1 : f.ev x with
        | none => simp [h1] at this
        | some z =>
          cases h2 : z.toV with
          | none => simp [h1, h2] at this
          | some u => simpa [h2] using toV_den h2 (hf.ev h1)
      split at h
      · rename_i v hv
        injection h with h
        subst h
        exact ⟨v, fun w => by rw [hc]; exact pureRun_run hv w, den_ofV V w v⟩
      · cases h
    · cases h

/-! ### Parts -/
def setsA (cs : List AV) (off : Nat) (vs : List AV) : List AV := cs.take off ++ vs ++ cs.drop (off + vs.length)
def fillA (place : Nat → Option (Nat × Nat)) (cs : List AV) : List (Nat × AV) → Option (List AV)
  | [] => some cs
  | (i, v) :: rest => match place i with
    | none => none
    | some (off, size) => if v.cells.length ≠ size || off + v.cells.length > cs.length then none else fillA place (setsA cs off v.cells) rest
theorem setsA_length {cs vs : List AV} {off : Nat} (h : off + vs.length ≤ cs.length) : (setsA cs off vs).length = cs.length := by
  simp [setsA]; omega
theorem setsA_get {cs vs : List AV} {off i : Nat} (h : off + vs.length ≤ cs.length) : (setsA cs off vs)[i]? = if off ≤ i ∧ i < off + vs.length then vs[i - off]? else cs[i]? := by
  unfold setsA
  by_cases h1 : i < off
  · rw [if_neg (by omega), List.append_assoc, List.getElem?_append_left (by simp; omega), List.getElem?_take, if_pos h1]
  · by_cases h2 : i < off + vs.length
    · rw [if_pos (by omega), List.append_assoc, List.getElem?_append_right (by simp; omega), List.getElem?_append_left (by simp; omega)]
      congr 1; simp; omega
    · rw [if_neg (by omega), List.getElem?_append_right (by simp; omega), List.getElem?_drop]
      congr 1; simp; omega
theorem fold_sets : ∀ (l : List Value) (cs : Array Value) (off k i : Nat), ((l.zipIdx k).foldl (fun (cs : Array Value) (p : Value × Nat) => cs.setIfInBounds (off + p.2) p.1) cs)[i]? = if off + k ≤ i ∧ i < off + k + l.length ∧ i < cs.size then l[i - off - k]? else cs[i]?
  | [], cs, off, k, i => by
    simp only [List.zipIdx_nil, List.foldl_nil, List.length_nil]
    rw [if_neg (by omega)]
  | v :: l, cs, off, k, i => by
    simp only [List.zipIdx_cons, List.foldl_cons]
    rw [fold_sets l _ off (k + 1) i]
    simp only [Array.size_setIfInBounds, List.length_cons]
    by_cases h1 : i = off + k
    · subst h1
      rw [if_neg (by omega)]
      by_cases h2 : off + k < cs.size
      · rw [if_pos (by omega)]
        simp [h2]
      · rw [if_neg (by omega)]
        simp [h2]
    · by_cases h2 : off + k ≤ i ∧ i < off + k + (l.length + 1) ∧ i < cs.size
      · rw [if_pos (by omega), if_pos h2]
        have : i - off - k = (i - off - (k + 1)) + 1 := by omega
        rw [this, List.getElem?_cons_succ]
      · rw [if_neg (by omega), if_neg h2, Array.getElem?_setIfInBounds_ne (by omega)]
theorem fold_size : ∀ (l : List (Value × Nat)) (cs : Array Value) (off : Nat), (l.foldl (fun (cs : Array Value) (p : Value × Nat) => cs.setIfInBounds (off + p.2) p.1) cs).size = cs.size
  | [], cs, off => rfl
  | p :: l, cs, off => by rw [List.foldl_cons, fold_size l]; simp
theorem DenL.sets {V : Mem} {w : World} {us vs : Array Value} {cs bs : List AV} {off : Nat} (h : DenL V w us cs) (k : DenL V w vs bs) (hle : off + vs.size ≤ us.size) :
    DenL V w (vs.zipIdx.foldl (fun cs (c, j) => cs.setIfInBounds (off + j) c) us) (setsA cs off bs) := by
  have hb := k.1
  have hc := h.1
  have e : vs.zipIdx.foldl (fun (cs : Array Value) (p : Value × Nat) => cs.setIfInBounds (off + p.2) p.1) us = (vs.toList.zipIdx 0).foldl (fun (cs : Array Value) (p : Value × Nat) => cs.setIfInBounds (off + p.2) p.1) us := by
    rw [← Array.foldl_toList]
    simp
  show DenL V w (vs.zipIdx.foldl (fun (cs : Array Value) (p : Value × Nat) => cs.setIfInBounds (off + p.2) p.1) us) _
  rw [e]
  refine ⟨by rw [fold_size, setsA_length (by omega)]; exact hc, fun i x a h1 h2 => ?_⟩
  rw [fold_sets] at h1
  rw [setsA_get (by omega)] at h2
  by_cases hi : off ≤ i ∧ i < off + bs.length
  · rw [if_pos hi] at h2
    rw [if_pos (by simp; omega)] at h1
    exact k.2 (i - off) x a (by simpa using h1) h2
  · rw [if_neg hi] at h2
    rw [if_neg (by simp; omega)] at h1
    exact h.2 i x a h1 h2
theorem fill_ok {V : Mem} {w : World} {place : Nat → Option (Nat × Nat)} : ∀ {vs : List (Nat × Value)} {ps : List (Nat × AV)} {us : Array Value} {cs ds : List AV}, vs.length = ps.length → (∀ (i : Nat) (v : Nat × Value) (p : Nat × AV), vs[i]? = some v → ps[i]? = some p → v.1 = p.1 ∧ Den V w v.2 p.2) →
    DenL V w us cs → fillA place cs ps = some ds → ∃ xs, Instr.fill place us vs = some xs ∧ DenL V w xs ds
  | [], [], us, cs, ds, _, _, hd, h => by
    simp [fillA] at h
    subst h
    exact ⟨us, rfl, hd⟩
  | [], p :: ps, us, cs, ds, hl, _, _, _ => by simp at hl
  | v :: vs, [], us, cs, ds, hl, _, _, _ => by simp at hl
  | (i, v) :: vs, (j, p) :: ps, us, cs, ds, hl, hp, hd, h => by
    obtain ⟨h1, h2⟩ := hp 0 (i, v) (j, p) rfl rfl
    simp only at h1 h2
    subst h1
    simp only [fillA] at h
    cases hpl : place i with
    | none => simp [hpl] at h
    | some os =>
      obtain ⟨off, size⟩ := os
      rw [hpl] at h
      simp only at h
      split at h
      · cases h
      · rename_i hok
        have hc := h2.cells
        have hsz := hc.1
        have hus := hd.1
        simp at hok
        obtain ⟨xs, e1, e2⟩ := fill_ok (vs := vs) (ps := ps) (by simpa using hl) (fun k a b k1 k2 => hp (k + 1) a b (by simpa using k1) (by simpa using k2)) (hd.sets hc (by omega)) h
        refine ⟨xs, ?_, e2⟩
        simp only [Instr.fill, hpl]
        rw [if_neg (by simp; omega)]
        exact e1
end Go.Proofs.YtaoglkkdhdfioaaGreatDoor
