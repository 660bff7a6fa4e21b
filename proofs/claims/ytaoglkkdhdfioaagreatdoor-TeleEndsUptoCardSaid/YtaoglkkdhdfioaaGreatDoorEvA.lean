/- Values without addresses of their own: what a value is in a world, whatever the numbers of the blocks; what keeps it so. -/
import Derived.CallsIn
import Derived.OrdersIn
import Derived.RangeFuncLeaves
import Derived.RangeFuncSeq
import Derived.Deep.MidRow
import Derived.Deep.AppendSrc
import Derived.Laws.MakeOwn
import Derived.Test.YtaoglkkdhdfioaaGreatDoorEvO
namespace Go.Proofs.YtaoglkkdhdfioaaGreatDoor
open Go

/-- A value: of no memory (raw), of parts, a slice of memory that nobody changes any more (vals), a slice of a block of ours as it was at its k-th state (row), .. -/
inductive AV where
  | raw (v : Value)
  | agg (cs : List AV)
  | tup (vs : List AV)
  | vals (sz : Nat) (es : List AV)
  | emp
  | row (r k off len : Nat)
  | ptr (r k off : Nat)
  | vptr (cs : List AV)
  | clo (fn : Fn) (first cap : List AV)
  | yld (r : Nat)
  | ifc (t : TypeId) (v : AV)
  deriving Inhabited
namespace AV
/-- the cells of a variable that holds it -/
def cells : AV → List AV
  | agg cs => cs
  | raw v => v.cells.toList.map raw
  | v => [v]
/-- of one cell? -/
def one : AV → Bool
  | raw v => v.oneCell'
  | agg _ => false
  | tup _ => false
  | _ => true
end AV
structure Cells where
  ver : Nat
  elem : TypeId
  sz : Nat
  imm : Nat
  cs : List AV
/-- slots, those that are known -/
structure Slots where
  n : Nat
  l : List (Nat × AV)
namespace Slots
def look : List (Nat × AV) → Nat → Option AV
  | [], _ => none
  | (e, z) :: l, d => if d = e then some z else look l d
def ins : List (Nat × AV) → Nat → AV → List (Nat × AV)
  | [], d, y => [(d, y)]
  | (e, z) :: l, d, y => if d < e then (d, y) :: (e, z) :: l else if d = e then (d, y) :: l else (e, z) :: ins l d y
def del : List (Nat × AV) → Nat → List (Nat × AV)
  | [], _ => []
  | (e, z) :: l, d => if d = e then del l d else (e, z) :: del l d
def get (s : Slots) (d : Nat) : Option AV := look s.l d
def set (s : Slots) (d : Nat) (y : AV) : Slots := { s with l := if d < s.n then ins s.l d y else del s.l d }
theorem look_ins (l : List (Nat × AV)) (d i : Nat) (y : AV) : look (ins l d y) i = if d = i then some y else look l i := by
  induction l with
  | nil =>
    simp only [ins, look]
    by_cases h : i = d
    · simp [h]
    · have h' : ¬ d = i := fun e => h e.symm
      simp [h, h']
  | cons a l ih =>
    obtain ⟨e, z⟩ := a
    simp only [ins]
    by_cases h1 : d < e
    · simp only [h1, if_true, look]
      by_cases h : i = d
      · simp [h]
      · have h' : ¬ d = i := fun e => h e.symm
        simp [h, h']
    · by_cases h2 : d = e
      · subst h2
        simp only [h1, if_false, if_true, look]
        by_cases h : i = d
        · simp [h]
        · have h' : ¬ d = i := fun e => h e.symm
          simp [h, h']
      · simp only [h1, h2, if_false, look, ih]
        by_cases h : i = e
        · subst h; simp [h2]
        · simp [h]
theorem look_del (l : List (Nat × AV)) (d i : Nat) : look (del l d) i = if d = i then none else look l i := by
  induction l with
  | nil => simp [del, look]
  | cons a l ih =>
    obtain ⟨e, z⟩ := a
    simp only [del]
    by_cases h1 : d = e
    · subst h1
      simp only [if_true, ih, look]
      by_cases h : d = i
      · simp [h]
      · have h' : ¬ i = d := fun e => h e.symm
        simp [h, h']
    · simp only [h1, if_false, look, ih]
      by_cases h : i = e
      · subst h; simp [h1]
      · simp [h]
theorem get_set (s : Slots) (d i : Nat) (y : AV) : (s.set d y).get i = if d = i then (if d < s.n then some y else none) else s.get i := by
  unfold get set
  by_cases h : d < s.n
  · simp only [h, if_true, look_ins]
  · simp only [h, if_false, look_del]
@[simp] theorem set_n (s : Slots) (d : Nat) (y : AV) : (s.set d y).n = s.n := rfl
end Slots
structure ALoop where
  st : LoopState
  pending : Option Code
  tmps : Slots
  params : Array Tmp
  assign : Code
  body : Code
  mark : Nat
inductive Blk where
  | cells (c : Cells)
  | loop (l : ALoop)
  | mark
/-- what there is: which numbers were given, what lies there, where in the world, how many cells there are in all; cells that are another's -/
structure Mem where
  born : Nat → Prop
  blk : Nat → Option Blk
  pos : Nat → Nat
  room : Nat → Nat
  res : Nat → Nat → Prop
/-- a cell that nobody changes any more -/
def OkCell (V : Mem) (w : World) (b i : Nat) : Prop := b < w.heap.size ∧ ¬ V.res b i ∧ ∀ r c, V.blk r = some (.cells c) → V.pos r = b → i < c.imm

inductive Den (V : Mem) (w : World) : Value → AV → Prop
  | raw (v : Value) : Den V w v (.raw v)
  | agg {vs : Array Value} {cs : List AV} (hl : vs.size = cs.length) (h : ∀ (i : Nat) (x : Value) (a : AV), vs[i]? = some x → cs[i]? = some a → Den V w x a) : Den V w (.agg vs) (.agg cs)
  | tup {vs : Array Value} {cs : List AV} (hl : vs.size = cs.length) (h : ∀ (i : Nat) (x : Value) (a : AV), vs[i]? = some x → cs[i]? = some a → Den V w x a) : Den V w (.tuple vs) (.tup cs)
  | emp {a : Option Addr} : Den V w (.slice a 0 0) .emp
  | vnil {a : Option Addr} {cap sz : Nat} : Den V w (.slice a 0 cap) (.vals sz [])
  | vals {b off cap sz : Nat} {es : List AV} (X : Nat → Nat → Value) (hc : es.length ≤ cap) (hs : ∀ (j : Nat) (e : AV), es[j]? = some e → e.cells.length = sz)
      (hx : ∀ (j : Nat) (e : AV) (i : Nat) (a : AV), es[j]? = some e → e.cells[i]? = some a → OkCell V w b (off + j * sz + i) ∧ w.cell? ⟨b, off + j * sz + i, none⟩ = some (X j i))
      (h : ∀ (j : Nat) (e : AV) (i : Nat) (a : AV), es[j]? = some e → e.cells[i]? = some a → Den V w (X j i) a) : Den V w (.slice (some ⟨b, off, none⟩) es.length cap) (.vals sz es)
  | row {v : Value} {r k off len : Nat} (hv : v.oneCell' = true) (hb : V.born r) (h : ∀ c, V.blk r = some (.cells c) → k ≤ c.ver ∧ (c.ver = k → off + len * c.sz ≤ c.cs.length ∧ ∃ cap, v = .slice (some ⟨V.pos r, off, none⟩) len cap ∧ len ≤ cap ∧ off + cap * c.sz ≤ V.room r)) : Den V w v (.row r k off len)
  | ptr {v : Value} {r k off : Nat} (hv : v.oneCell' = true) (hb : V.born r) (h : ∀ c, V.blk r = some (.cells c) → k ≤ c.ver ∧ (c.ver = k → v = .pointer (some ⟨V.pos r, off, none⟩))) : Den V w v (.ptr r k off)
  | vptr {b off : Nat} {cs : List AV} (X : Nat → Value) (hx : ∀ (i : Nat) (a : AV), cs[i]? = some a → OkCell V w b (off + i) ∧ w.cell? ⟨b, off + i, none⟩ = some (X i)) (h : ∀ (i : Nat) (a : AV), cs[i]? = some a → Den V w (X i) a) : Den V w (.pointer (some ⟨b, off, none⟩)) (.vptr cs)
  | clo {fn : Fn} {f1 c1 : Array Value} {fs cs : List AV} (hf : f1.size = fs.length) (hc : c1.size = cs.length) (h1 : ∀ (i : Nat) (x : Value) (a : AV), f1[i]? = some x → fs[i]? = some a → Den V w x a) (h2 : ∀ (i : Nat) (x : Value) (a : AV), c1[i]? = some x → cs[i]? = some a → Den V w x a) : Den V w (.func fn f1 c1) (.clo fn fs cs)
  | yld {v : Value} {r : Nat} (hv : v.oneCell' = true) (hb : V.born r) (h : ∀ l, V.blk r = some (.loop l) → v = .func (.yield (V.pos r)) #[] #[]) : Den V w v (.yld r)
  | ifc {t : TypeId} {v : Value} {a : AV} (h : Den V w v a) : Den V w (.iface t v) (.ifc t a)

/-- one world behind another: what nobody changes stands; nothing comes back to life -/
structure Fwd (V : Mem) (w : World) (V' : Mem) (w' : World) : Prop where
  ok : ∀ b i x, OkCell V w b i → w.cell? ⟨b, i, none⟩ = some x → OkCell V' w' b i ∧ w'.cell? ⟨b, i, none⟩ = some x
  born : ∀ r, V.born r → V'.born r
  cells : ∀ r c', V.born r → V'.blk r = some (.cells c') → ∃ c, V.blk r = some (.cells c) ∧ c.ver ≤ c'.ver ∧ (c'.ver = c.ver → V'.pos r = V.pos r ∧ V'.room r = V.room r ∧ c'.sz = c.sz ∧ c'.cs.length = c.cs.length)
  loop : ∀ r l', V.born r → V'.blk r = some (.loop l') → ∃ l, V.blk r = some (.loop l) ∧ V'.pos r = V.pos r
  mark : ∀ r, V.blk r = some .mark → V'.blk r = some .mark ∧ V'.pos r = V.pos r

theorem Den.fwd {V V' : Mem} {w w' : World} {v : Value} {a : AV} (h : Den V w v a) (hf : Fwd V w V' w') : Den V' w' v a := by
  induction h with
  | raw v => exact .raw v
  | agg hl _ ih => exact .agg hl ih
  | tup hl _ ih => exact .tup hl ih
  | vnil => exact .vnil
  | emp => exact .emp
  | vals X hc hs hx _ ih => exact .vals X hc hs (fun j e i a h1 h2 => hf.ok _ _ _ (hx j e i a h1 h2).1 (hx j e i a h1 h2).2) ih
  | row hv hb h =>
    refine .row hv (hf.born _ hb) fun c' h1 => ?_
    obtain ⟨c, h3, h4, h5⟩ := hf.cells _ c' hb h1
    obtain ⟨h6, h7⟩ := h c h3
    refine ⟨by omega, fun h2 => ?_⟩
    obtain ⟨p1, p2, p3, p4⟩ := h5 (by omega)
    rw [p1, p2, p3, p4]
    exact h7 (by omega)
  | ptr hv hb h =>
    refine .ptr hv (hf.born _ hb) fun c' h1 => ?_
    obtain ⟨c, h3, h4, h5⟩ := hf.cells _ c' hb h1
    obtain ⟨h6, h7⟩ := h c h3
    refine ⟨by omega, fun h2 => ?_⟩
    rw [(h5 (by omega)).1]
    exact h7 (by omega)
  | vptr X hx _ ih => exact .vptr X (fun i a h1 => hf.ok _ _ _ (hx i a h1).1 (hx i a h1).2) ih
  | clo hf' hc _ _ ih1 ih2 => exact .clo hf' hc ih1 ih2
  | yld hv hb h =>
    refine .yld hv (hf.born _ hb) fun l' h1 => ?_
    obtain ⟨l, h3, h4⟩ := hf.loop _ l' hb h1
    rw [h4]; exact h l h3
  | ifc _ ih => exact .ifc ih
theorem Fwd.refl (V : Mem) (w : World) : Fwd V w V w := ⟨fun _ _ _ h1 h2 => ⟨h1, h2⟩, fun _ h => h, fun _ c' _ h => ⟨c', h, Nat.le_refl _, fun _ => ⟨rfl, rfl, rfl, rfl⟩⟩, fun _ l' _ h => ⟨l', h, rfl⟩, fun _ h => ⟨h, rfl⟩⟩
theorem Fwd.trans {V1 V2 V3 : Mem} {w1 w2 w3 : World} (h : Fwd V1 w1 V2 w2) (k : Fwd V2 w2 V3 w3) : Fwd V1 w1 V3 w3 where
  ok b i x h1 h2 := by
    obtain ⟨h3, h4⟩ := h.ok b i x h1 h2
    exact k.ok b i x h3 h4
  born r hr := k.born r (h.born r hr)
  cells r c3 hr h3 := by
    obtain ⟨c2, h2, v2, e2⟩ := k.cells r c3 (h.born r hr) h3
    obtain ⟨c1, h1, v1, e1⟩ := h.cells r c2 hr h2
    refine ⟨c1, h1, by omega, fun e => ?_⟩
    obtain ⟨a1, a2, a3, a4⟩ := e2 (by omega)
    obtain ⟨b1, b2, b3, b4⟩ := e1 (by omega)
    exact ⟨a1.trans b1, a2.trans b2, a3.trans b3, a4.trans b4⟩
  loop r l3 hr h3 := by
    obtain ⟨l2, h2, e2⟩ := k.loop r l3 (h.born r hr) h3
    obtain ⟨l1, h1, e1⟩ := h.loop r l2 hr h2
    exact ⟨l1, h1, e2.trans e1⟩
  mark r h1 := by
    obtain ⟨h2, e1⟩ := h.mark r h1
    obtain ⟨h3, e2⟩ := k.mark r h2
    exact ⟨h3, e2.trans e1⟩

/-- the tables of the package lie there, and nobody changes them -/
def Glob (V : Mem) (w : World) : Prop := ∀ g cs, globs g = some cs → ∀ (i : Nat) (x : Value), cs[i]? = some x → OkCell V w g i ∧ w.cell? ⟨g, i, none⟩ = some x
theorem Glob.fwd {V V' : Mem} {w w' : World} (h : Glob V w) (hf : Fwd V w V' w') : Glob V' w' := fun g cs e i x hx => hf.ok _ _ _ (h g cs e i x hx).1 (h g cs e i x hx).2

/-- what lies in the world is what is said of it -/
structure Rel (V : Mem) (w : World) : Prop where
  bound : ∀ b i, V.res b i → b < w.heap.size
  free : ∀ r o, V.blk r = some o → ∀ i, ¬ V.res (V.pos r) i
  live : ∀ r o, V.blk r = some o → V.born r ∧ V.pos r < w.heap.size
  apart : ∀ r s o p, V.blk r = some o → V.blk s = some p → V.pos r = V.pos s → r = s
  cells : ∀ r c, V.blk r = some (.cells c) → ∃ X : Array Value, w.heap[V.pos r]? = some (.cells X c.elem (0, 0)) ∧ X.size = V.room r ∧ c.cs.length ≤ X.size ∧ c.imm ≤ c.cs.length ∧ (∀ a ∈ c.cs, a.one = true) ∧
    ∀ (i : Nat) (x : Value) (a : AV), X[i]? = some x → c.cs[i]? = some a → Den V w x a
  loop : ∀ r l, V.blk r = some (.loop l) → V.blk l.mark = some .mark ∧ ∃ (fn : FuncId) (T : Array Value), w.heap[V.pos r]? = some (.loop { state := l.st, pending := l.pending, fn, tmps := T, params := l.params, assign := l.assign, body := l.body, defers := V.pos l.mark }) ∧
    T.size = l.tmps.n ∧ ∀ (i : Nat) (a : AV), l.tmps.get i = some a → ∃ x, T[i]? = some x ∧ Den V w x a
  mark : ∀ r, V.blk r = some .mark → w.heap[V.pos r]? = some (.deferred (some []))
  glob : Glob V w

/-- what is not ours stands -/
structure Keep (V : Mem) (w w' : World) : Prop where
  os : w'.os = w.os
  tape : w'.tape = w.tape
  output : w'.output = w.output
  size : w.heap.size ≤ w'.heap.size
  block : ∀ b, b < w.heap.size → (∀ r o, V.blk r = some o → V.pos r ≠ b) → w'.heap[b]? = w.heap[b]?
theorem Keep.refl (V : Mem) (w : World) : Keep V w w := ⟨rfl, rfl, rfl, Nat.le_refl _, fun _ _ _ => rfl⟩
/-- our blocks behind are our blocks ahead, or new -/
def Old (V : Mem) (w : World) (V' : Mem) : Prop := ∀ r o, V'.blk r = some o → w.heap.size ≤ V'.pos r ∨ ∃ s p, V.blk s = some p ∧ V.pos s = V'.pos r
theorem Old.refl (V : Mem) (w : World) : Old V w V := fun r o h => .inr ⟨r, o, h, rfl⟩
theorem Old.trans {V1 V2 V3 : Mem} {w1 w2 : World} (h : Old V1 w1 V2) (hs : w1.heap.size ≤ w2.heap.size) (k : Old V2 w2 V3) : Old V1 w1 V3 := fun r o h3 => by
  rcases k r o h3 with e | ⟨s, p, h2, e⟩
  · exact .inl (by omega)
  · rw [← e]; exact h s p h2
theorem Keep.trans {V1 V2 : Mem} {w1 w2 w3 : World} (h : Keep V1 w1 w2) (ho : Old V1 w1 V2) (k : Keep V2 w2 w3) : Keep V1 w1 w3 :=
  ⟨k.os.trans h.os, k.tape.trans h.tape, k.output.trans h.output, Nat.le_trans h.size k.size, fun b hb hn => by
    rw [k.block b (Nat.lt_of_lt_of_le hb h.size) fun r o h2 e => ?_, h.block b hb hn]
    rcases ho r o h2 with e' | ⟨s, p, h1, e'⟩
    · omega
    · exact hn s p h1 (e'.trans e)⟩

/-- a number's block turned, or given -/
def Mem.upd (V : Mem) (r : Nat) (o : Option Blk) (p n : Nat) : Mem where
  born s := V.born s ∨ s = r
  blk s := if s = r then o else V.blk s
  pos s := if s = r then p else V.pos s
  room s := if s = r then n else V.room s
  res := V.res
@[simp] theorem Mem.upd_blk_same {V : Mem} {r p n : Nat} {o : Option Blk} : (V.upd r o p n).blk r = o := by simp [Mem.upd]
theorem Mem.upd_blk_ne {V : Mem} {r p n s : Nat} {o : Option Blk} (h : s ≠ r) : (V.upd r o p n).blk s = V.blk s := by simp [Mem.upd, h]
@[simp] theorem Mem.upd_pos_same {V : Mem} {r p n : Nat} {o : Option Blk} : (V.upd r o p n).pos r = p := by simp [Mem.upd]
theorem Mem.upd_pos_ne {V : Mem} {r p n s : Nat} {o : Option Blk} (h : s ≠ r) : (V.upd r o p n).pos s = V.pos s := by simp [Mem.upd, h]
@[simp] theorem Mem.upd_room_same {V : Mem} {r p n : Nat} {o : Option Blk} : (V.upd r o p n).room r = n := by simp [Mem.upd]
theorem Mem.upd_room_ne {V : Mem} {r p n s : Nat} {o : Option Blk} (h : s ≠ r) : (V.upd r o p n).room s = V.room s := by simp [Mem.upd, h]

theorem cell_of_heap {w w' : World} {b i : Nat} (h : w'.heap[b]? = w.heap[b]?) : w'.cell? ⟨b, i, none⟩ = w.cell? ⟨b, i, none⟩ := by
  simp only [World.cell?, h]
theorem heap_lt {w : World} {b : Nat} {o : Obj} (h : w.heap[b]? = some o) : b < w.heap.size := (Array.getElem?_eq_some_iff.1 h).1

theorem fwd_new {V : Mem} {w w' : World} {r p n : Nat} {o : Option Blk} (hV : Rel V w) (hr : ¬ V.born r) (hs : w.heap.size ≤ w'.heap.size) (hk : ∀ b, b < w.heap.size → w'.heap[b]? = w.heap[b]?) (hp : w.heap.size ≤ p) :
    Fwd V w (V.upd r o p n) w' where
  ok b i x h1 h2 := by
    obtain ⟨h3, h4, h5⟩ := h1
    refine ⟨⟨by omega, h4, fun s c e1 e2 => ?_⟩, by rw [cell_of_heap (hk b h3)]; exact h2⟩
    by_cases e : s = r
    · subst e; simp at e2; omega
    · rw [Mem.upd_blk_ne e] at e1
      rw [Mem.upd_pos_ne e] at e2
      exact h5 s c e1 e2
  born s h := .inl h
  cells s c' hb h := by
    have e : s ≠ r := fun e => hr (e ▸ hb)
    rw [Mem.upd_blk_ne e] at h
    exact ⟨c', h, Nat.le_refl _, fun _ => ⟨Mem.upd_pos_ne e, Mem.upd_room_ne e, rfl, rfl⟩⟩
  loop s l' hb h := by
    have e : s ≠ r := fun e => hr (e ▸ hb)
    rw [Mem.upd_blk_ne e] at h
    exact ⟨l', h, Mem.upd_pos_ne e⟩
  mark s h := by
    have e : s ≠ r := fun e => hr (e ▸ (hV.live s _ h).1)
    exact ⟨(Mem.upd_blk_ne e).trans h, Mem.upd_pos_ne e⟩
theorem fwd_turn {V : Mem} {w w' : World} {r p n : Nat} {c c' : Cells} (hr : V.blk r = some (.cells c)) (hv : c.ver ≤ c'.ver) (hsame : c'.ver = c.ver → p = V.pos r ∧ n = V.room r ∧ c'.sz = c.sz ∧ c'.cs.length = c.cs.length)
    (hi : c.imm ≤ c'.imm) (hp : p = V.pos r ∨ w.heap.size ≤ p) (hs : w.heap.size ≤ w'.heap.size) (hk : ∀ b, b < w.heap.size → b ≠ V.pos r → w'.heap[b]? = w.heap[b]?)
    (hkr : ∀ i x, i < c.imm → w.cell? ⟨V.pos r, i, none⟩ = some x → w'.cell? ⟨V.pos r, i, none⟩ = some x) : Fwd V w (V.upd r (some (.cells c')) p n) w' where
  ok b i x h1 h2 := by
    obtain ⟨h3, h4, h5⟩ := h1
    have hc : w'.cell? ⟨b, i, none⟩ = some x := by
      by_cases e : b = V.pos r
      · subst e; exact hkr i x (h5 r c hr rfl) h2
      · rw [cell_of_heap (hk b h3 e)]; exact h2
    refine ⟨⟨by omega, h4, fun s d e1 e2 => ?_⟩, hc⟩
    by_cases e : s = r
    · subst e
      simp at e1 e2
      subst e1
      rcases hp with hp | hp
      · have := h5 s c hr (by omega); omega
      · omega
    · rw [Mem.upd_blk_ne e] at e1
      rw [Mem.upd_pos_ne e] at e2
      exact h5 s d e1 e2
  born s h := .inl h
  cells s d hb h := by
    by_cases e : s = r
    · subst e
      simp at h
      subst h
      exact ⟨c, hr, hv, fun e => by simpa using hsame e⟩
    · rw [Mem.upd_blk_ne e] at h
      exact ⟨d, h, Nat.le_refl _, fun _ => ⟨Mem.upd_pos_ne e, Mem.upd_room_ne e, rfl, rfl⟩⟩
  loop s l' hb h := by
    by_cases e : s = r
    · subst e; simp at h
    · rw [Mem.upd_blk_ne e] at h
      exact ⟨l', h, Mem.upd_pos_ne e⟩
  mark s h := by
    have e : s ≠ r := fun e => by subst e; rw [hr] at h; cases h
    exact ⟨(Mem.upd_blk_ne e).trans h, Mem.upd_pos_ne e⟩
/-- the others lie as they lay -/
theorem rel_upd {V : Mem} {w w' : World} {r p n : Nat} {o : Blk} (h : Rel V w) (hf : Fwd V w (V.upd r (some o) p n) w') (hp : (p = V.pos r ∧ ∃ q, V.blk r = some q) ∨ w.heap.size ≤ p) (hs : w.heap.size ≤ w'.heap.size) (hpw : p < w'.heap.size)
    (hk : ∀ s q, s ≠ r → V.blk s = some q → w'.heap[V.pos s]? = w.heap[V.pos s]?) (hm : ∀ q, V.blk r = some q → q ≠ .mark)
    (hc : ∀ c, o = .cells c → ∃ X : Array Value, w'.heap[p]? = some (.cells X c.elem (0, 0)) ∧ X.size = n ∧ c.cs.length ≤ X.size ∧ c.imm ≤ c.cs.length ∧ (∀ a ∈ c.cs, a.one = true) ∧ ∀ (i : Nat) (x : Value) (a : AV), X[i]? = some x → c.cs[i]? = some a → Den (V.upd r (some o) p n) w' x a)
    (hl : ∀ l, o = .loop l → l.mark ≠ r ∧ V.blk l.mark = some .mark ∧ ∃ (fn : FuncId) (T : Array Value), w'.heap[p]? = some (.loop { state := l.st, pending := l.pending, fn, tmps := T, params := l.params, assign := l.assign, body := l.body, defers := V.pos l.mark }) ∧
      T.size = l.tmps.n ∧ ∀ (i : Nat) (a : AV), l.tmps.get i = some a → ∃ x, T[i]? = some x ∧ Den (V.upd r (some o) p n) w' x a)
    (hd : o = .mark → w'.heap[p]? = some (.deferred (some []))) : Rel (V.upd r (some o) p n) w' where
  bound b i hb := Nat.lt_of_lt_of_le (h.bound b i hb) hs
  free s q hq i hi := by
    have hi : V.res ((V.upd r (some o) p n).pos s) i := hi
    by_cases e : s = r
    · subst e
      rw [Mem.upd_pos_same] at hi
      rcases hp with ⟨hp, q', hq'⟩ | hp
      · exact h.free s q' hq' i (hp ▸ hi)
      · have := h.bound _ _ hi; omega
    · rw [Mem.upd_blk_ne e] at hq
      rw [Mem.upd_pos_ne e] at hi
      exact h.free s q hq i hi
  live s q hq := by
    by_cases e : s = r
    · subst e; exact ⟨.inr rfl, by simpa using hpw⟩
    · rw [Mem.upd_blk_ne e] at hq
      obtain ⟨h1, h2⟩ := h.live s q hq
      exact ⟨.inl h1, by rw [Mem.upd_pos_ne e]; omega⟩
  apart s t q u hq hu he := by
    by_cases e : s = r <;> by_cases e' : t = r
    · rw [e, e']
    · exfalso
      subst e
      rw [Mem.upd_blk_ne e'] at hu
      rw [Mem.upd_pos_ne e', Mem.upd_pos_same] at he
      have := (h.live t u hu).2
      rcases hp with ⟨hp, q', hq'⟩ | hp
      · exact e' (h.apart t s u q' hu hq' (by omega))
      · omega
    · exfalso
      subst e'
      rw [Mem.upd_blk_ne e] at hq
      rw [Mem.upd_pos_ne e, Mem.upd_pos_same] at he
      have := (h.live s q hq).2
      rcases hp with ⟨hp, q', hq'⟩ | hp
      · exact e (h.apart s t q q' hq hq' (by omega))
      · omega
    · rw [Mem.upd_blk_ne e] at hq
      rw [Mem.upd_blk_ne e'] at hu
      rw [Mem.upd_pos_ne e, Mem.upd_pos_ne e'] at he
      exact h.apart s t q u hq hu he
  cells s c hq := by
    by_cases e : s = r
    · subst e
      rw [Mem.upd_blk_same] at hq
      injection hq with hq
      obtain ⟨X, h1, h2, h3⟩ := hc c hq
      exact ⟨X, by simpa using h1, by simpa using h2, h3⟩
    · rw [Mem.upd_blk_ne e] at hq
      obtain ⟨X, h1, h2, h3, h4, h5, h6⟩ := h.cells s c hq
      refine ⟨X, ?_, by rw [Mem.upd_room_ne e]; exact h2, h3, h4, h5, fun i x a k1 k2 => (h6 i x a k1 k2).fwd hf⟩
      rw [Mem.upd_pos_ne e, hk s _ e hq]; exact h1
  loop s l hq := by
    by_cases e : s = r
    · subst e
      rw [Mem.upd_blk_same] at hq
      injection hq with hq
      obtain ⟨h1, h2, fn, T, h3, h4⟩ := hl l hq
      exact ⟨by rw [Mem.upd_blk_ne h1]; exact h2, fn, T, by rw [Mem.upd_pos_ne h1]; simpa using h3, h4⟩
    · rw [Mem.upd_blk_ne e] at hq
      obtain ⟨h2, fn, T, h3, h4, h5⟩ := h.loop s l hq
      have h1 : l.mark ≠ r := fun e' => hm .mark (e' ▸ h2) rfl
      refine ⟨by rw [Mem.upd_blk_ne h1]; exact h2, fn, T, ?_, h4, fun i a k2 => by obtain ⟨x, k1, k3⟩ := h5 i a k2; exact ⟨x, k1, k3.fwd hf⟩⟩
      rw [Mem.upd_pos_ne h1, Mem.upd_pos_ne e, hk s _ e hq]; exact h3
  mark s hq := by
    by_cases e : s = r
    · subst e
      rw [Mem.upd_blk_same] at hq
      injection hq with hq
      simpa using hd hq
    · rw [Mem.upd_blk_ne e] at hq
      rw [Mem.upd_pos_ne e, hk s _ e hq]; exact h.mark s hq
  glob := h.glob.fwd hf
end Go.Proofs.YtaoglkkdhdfioaaGreatDoor
