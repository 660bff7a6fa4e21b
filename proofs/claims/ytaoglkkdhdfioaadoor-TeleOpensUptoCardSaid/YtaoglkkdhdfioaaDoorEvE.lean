/- The operations that make memory, or change it. -/
import Derived.Test.YtaoglkkdhdfioaaDoorEvD
import Derived.Laws.CopyRow
namespace Go.Proofs.YtaoglkkdhdfioaaDoor
open Go

theorem push_old {w : World} {o : Obj} {b : Nat} (h : b < w.heap.size) : (w.heap.push o)[b]? = w.heap[b]? := by
  rw [Array.getElem?_push, if_neg (by omega)]
theorem push_new {w : World} {o : Obj} : (w.heap.push o)[w.heap.size]? = some o := by simp
/-- a new block -/
theorem to_new {V : Mem} {w w' : World} {r sz imm : Nat} {X : Array Value} {e : TypeId} {cs : List AV} (hV : Rel V w) (hr : ¬ V.born r) (hh : w'.heap = w.heap.push (.cells X e)) (h1 : w'.os = w.os) (h2 : w'.tape = w.tape) (h3 : w'.output = w.output)
    (hl : cs.length ≤ X.size) (hd : ∀ (i : Nat) (x : Value) (a : AV), X[i]? = some x → cs[i]? = some a → Den V w x a) (ho : ∀ a ∈ cs, a.one = true) (hi : imm ≤ cs.length) :
    To V w (V.upd r (some (.cells ⟨0, e, sz, imm, cs⟩)) w.heap.size X.size) w' := by
  have hs : w'.heap.size = w.heap.size + 1 := by rw [hh]; simp
  have hk : ∀ b, b < w.heap.size → w'.heap[b]? = w.heap[b]? := fun b hb => by rw [hh]; exact push_old hb
  have hf : Fwd V w (V.upd r (some (.cells ⟨0, e, sz, imm, cs⟩)) w.heap.size X.size) w' := fwd_new hV hr (by omega) hk (Nat.le_refl _)
  have hrn : ∀ q, V.blk r = some q → q ≠ .mark := fun q hq => absurd (hV.live r q hq).1 hr
  refine ⟨rel_upd hV hf (.inr (Nat.le_refl _)) (by omega) (by omega) (fun s q hs hq => hk _ (hV.live s q hq).2) hrn ?_ ?_ ?_, hf, ⟨h1, h2, h3, by omega, fun b hb _ => hk b hb⟩, ?_⟩
  · intro c hc
    injection hc with hc
    subst hc
    exact ⟨X, by rw [hh]; simp, rfl, hl, hi, ho, fun i x a k1 k2 => (hd i x a k1 k2).fwd hf⟩
  · intro l hl; cases hl
  · intro hl; cases hl
  · intro s o hs
    by_cases e : s = r
    · subst e; exact .inl (by simp)
    · rw [Mem.upd_blk_ne e] at hs
      exact .inr ⟨s, o, hs, by rw [Mem.upd_pos_ne e]⟩
/-- a block turned where it lies -/
theorem to_turn {V : Mem} {w w' : World} {r : Nat} {c c' : Cells} {X' : Array Value} (hV : Rel V w) (hr : V.blk r = some (.cells c)) (hh : w'.heap[V.pos r]? = some (.cells X' c.elem (0, 0))) (he : c'.elem = c.elem) (hX : X'.size = V.room r)
    (hs : w'.heap.size = w.heap.size) (hk : ∀ b, b ≠ V.pos r → w'.heap[b]? = w.heap[b]?) (h1 : w'.os = w.os) (h2 : w'.tape = w.tape) (h3 : w'.output = w.output)
    (hv : c.ver ≤ c'.ver) (hsame : c'.ver = c.ver → c'.sz = c.sz ∧ c'.cs.length = c.cs.length) (hi : c.imm ≤ c'.imm) (hi' : c'.imm ≤ c'.cs.length) (hl : c'.cs.length ≤ X'.size) (ho : ∀ a ∈ c'.cs, a.one = true)
    (hkr : ∀ i x, i < c.imm → w.cell? ⟨V.pos r, i, none⟩ = some x → X'[i]? = some x)
    (hd : ∀ V', Fwd V w V' w' → ∀ (i : Nat) (x : Value) (a : AV), X'[i]? = some x → c'.cs[i]? = some a → Den V' w' x a) :
    To V w (V.upd r (some (.cells c')) (V.pos r) (V.room r)) w' := by
  have hf : Fwd V w (V.upd r (some (.cells c')) (V.pos r) (V.room r)) w' :=
    fwd_turn hr hv (fun e => ⟨rfl, rfl, hsame e⟩) hi (.inl rfl) (by omega) (fun b _ hb => hk b hb) fun i x hi hx => by
      have := hkr i x hi hx
      simpa [World.cell?, hh] using this
  have hrn : ∀ q, V.blk r = some q → q ≠ .mark := fun q hq => by rw [hr] at hq; injection hq with hq; rw [← hq]; exact fun e => by cases e
  refine ⟨rel_upd hV hf (.inl ⟨rfl, _, hr⟩) (by omega) (by rw [hs]; exact (hV.live r _ hr).2) (fun s q hs' hq => hk _ fun e => hs' (hV.apart s r q _ hq hr e)) hrn ?_ ?_ ?_, hf, ⟨h1, h2, h3, by omega, fun b hb hn => hk b fun e => hn r _ hr e.symm⟩, ?_⟩
  · intro d hd'
    injection hd' with hd'
    subst hd'
    exact ⟨X', by rw [he]; exact hh, hX, hl, hi', ho, hd _ hf⟩
  · intro l hl; cases hl
  · intro hl; cases hl
  · intro s o hs
    by_cases e : s = r
    · subst e; exact .inr ⟨s, _, hr, by simp⟩
    · rw [Mem.upd_blk_ne e] at hs
      exact .inr ⟨s, o, hs, by rw [Mem.upd_pos_ne e]⟩
/-- a block that has moved -/
theorem to_move {V : Mem} {w w' : World} {r : Nat} {c c' : Cells} {X' : Array Value} (hV : Rel V w) (hr : V.blk r = some (.cells c)) (hh : w'.heap = w.heap.push (.cells X' c'.elem)) (h1 : w'.os = w.os) (h2 : w'.tape = w.tape) (h3 : w'.output = w.output)
    (hv : c.ver < c'.ver) (hi : c.imm ≤ c'.imm) (hi' : c'.imm ≤ c'.cs.length) (hl : c'.cs.length ≤ X'.size) (ho : ∀ a ∈ c'.cs, a.one = true)
    (hd : ∀ V', Fwd V w V' w' → ∀ (i : Nat) (x : Value) (a : AV), X'[i]? = some x → c'.cs[i]? = some a → Den V' w' x a) :
    To V w (V.upd r (some (.cells c')) w.heap.size X'.size) w' := by
  have hs : w'.heap.size = w.heap.size + 1 := by rw [hh]; simp
  have hk : ∀ b, b < w.heap.size → w'.heap[b]? = w.heap[b]? := fun b hb => by rw [hh]; exact push_old hb
  have hf : Fwd V w (V.upd r (some (.cells c')) w.heap.size X'.size) w' :=
    fwd_turn hr (by omega) (fun e => by omega) hi (.inr (Nat.le_refl _)) (by omega) (fun b hb _ => hk b hb) fun i x _ hx => by rw [cell_of_heap (hk _ (hV.live r _ hr).2)]; exact hx
  have hrn : ∀ q, V.blk r = some q → q ≠ .mark := fun q hq => by rw [hr] at hq; injection hq with hq; rw [← hq]; exact fun e => by cases e
  refine ⟨rel_upd hV hf (.inr (Nat.le_refl _)) (by omega) (by omega) (fun s q hs' hq => hk _ (hV.live s q hq).2) hrn ?_ ?_ ?_, hf, ⟨h1, h2, h3, by omega, fun b hb hn => hk b hb⟩, ?_⟩
  · intro d hd'
    injection hd' with hd'
    subst hd'
    exact ⟨X', by rw [hh]; simp, rfl, hl, hi', ho, hd _ hf⟩
  · intro l hl; cases hl
  · intro hl; cases hl
  · intro s o hs
    by_cases e : s = r
    · subst e; exact .inl (by simp)
    · rw [Mem.upd_blk_ne e] at hs
      exact .inr ⟨s, o, hs, by rw [Mem.upd_pos_ne e]⟩

def zeroOf (P : Program) (t : TypeId) : Option Value := (P.info? t).bind (·.zero)
theorem run_zero {P : Program} {t : TypeId} {z : Value} (h : zeroOf P t = some z) (w : World) : (zeroValue t).run P w = .ok z w := by
  unfold zeroOf at h
  cases hi : P.info? t with
  | none => simp [hi] at h
  | some i =>
    simp [hi] at h
    simp [zeroValue, typeInfo, hi, h]
/-- what was made lies in a block of its own -/
structure Newly (V : Mem) (w : World) (y : Nat → AV) (c : Cells) (v : Value) (w' : World) : Prop where
  ver : c.ver = 0
  one : ∀ a ∈ c.cs, a.one = true
  imm : c.imm ≤ c.cs.length
  os : w'.os = w.os
  tape : w'.tape = w.tape
  output : w'.output = w.output
  block : ∃ X : Array Value, w'.heap = w.heap.push (.cells X c.elem) ∧ c.cs.length ≤ X.size ∧ (∀ (i : Nat) (x : Value) (a : AV), X[i]? = some x → c.cs[i]? = some a → Den V w x a) ∧
    ∀ (V' : Mem) (r : Nat), V'.born r → (∀ d, V'.blk r = some (.cells d) → d.ver = 0 ∧ d.sz = c.sz ∧ d.cs.length = c.cs.length) → V'.pos r = w.heap.size → V'.room r = X.size → Den V' w' v (y r)
theorem Newly.to {V : Mem} {w w' : World} {y : Nat → AV} {c : Cells} {v : Value} (hn : Newly V w y c v w') (hV : Rel V w) {r m : Nat} (hr : ¬ V.born r) (hm : m ≤ c.cs.length) :
    ∃ n, To V w (V.upd r (some (.cells { c with imm := m })) w.heap.size n) w' ∧ Den (V.upd r (some (.cells { c with imm := m })) w.heap.size n) w' v (y r) := by
  obtain ⟨X, h1, h2, h3, h4⟩ := hn.block
  have hv := hn.ver
  have ht := to_new (w' := w') (sz := c.sz) (imm := m) hV hr h1 hn.os hn.tape hn.output h2 h3 hn.one hm
  obtain ⟨ver, elem, sz, imm, cs⟩ := c
  simp only at hv
  subst hv
  exact ⟨X.size, ht, h4 _ r (.inr rfl) (fun d hd => by
    rw [Mem.upd_blk_same] at hd
    injection hd with hd
    injection hd with hd
    subst hd
    exact ⟨rfl, rfl, rfl⟩) Mem.upd_pos_same Mem.upd_room_same⟩
section
variable {P : Program} {h h' : AH} {V : Mem} {res : Nat → Nat → Prop} {g q : Nat → Nat} {w : World} {f : AF} {a : Act} {y : Nat → AV} {c : Cells}
theorem not_born : ¬ (h.mem res g q).born h.next := by simp [AH.mem]
theorem new_row {sz len cap off : Nat} {w' : World} {p room n : Nat} (h1 : off + len * sz ≤ n) (h2 : len ≤ cap) (h3 : off + cap * sz ≤ room) (V' : Mem) (r : Nat) (hb : V'.born r) (hd : ∀ d, V'.blk r = some (.cells d) → d.ver = 0 ∧ d.sz = sz ∧ d.cs.length = n) (hp : V'.pos r = p) (hq : V'.room r = room) :
    Den V' w' (.slice (some ⟨p, off, none⟩) len cap) (.row r 0 off len) := by
  refine .row rfl hb fun d hd' => ?_
  obtain ⟨e1, e2, e3⟩ := hd d hd'
  exact ⟨by omega, fun _ => ⟨by rw [e2, e3]; exact h1, cap, by rw [hp], h2, by rw [e2, hq]; exact h3⟩⟩
/-- a variable -/
def nBox (e : TypeId) (a : AV) : Option ((Nat → AV) × Cells) :=
  if a.cells.all AV.one then some (fun r => .ptr r 0 0, ⟨0, e, 1, 0, a.cells⟩) else none
theorem nBox_ok {e : TypeId} {v : Value} {b : AV} (hd : Den V w v b) (hy : nBox e b = some (y, c)) : Newly V w y c (.pointer (some ⟨w.heap.size, 0, none⟩)) (w.alloc (.cells v.cells e)) := by
  unfold nBox at hy
  split at hy
  · rename_i hone
    simp only [Option.some.injEq, Prod.mk.injEq] at hy
    obtain ⟨rfl, rfl⟩ := hy
    have hc := hd.cells
    exact ⟨rfl, by simpa using hone, Nat.zero_le _, rfl, rfl, rfl, v.cells, rfl, by rw [hc.1]; exact Nat.le_refl _, hc.2, fun V' r hb hd hp hq => .ptr rfl hb fun d hd' => ⟨Nat.zero_le _, fun _ => by rw [hp]⟩⟩
  · cases hy

/-! ### The store -/
def splice (X : Array Value) (o : Nat) (vs : List Value) : Array Value := (X.toList.take o ++ vs ++ X.toList.drop (o + vs.length)).toArray
theorem splice_size {X : Array Value} {o : Nat} {vs : List Value} (hl : o + vs.length ≤ X.size) : (splice X o vs).size = X.size := by
  simp [splice]; omega
theorem splice_get {X : Array Value} {o i : Nat} {vs : List Value} (hl : o + vs.length ≤ X.size) : (splice X o vs)[i]? = if o ≤ i ∧ i < o + vs.length then vs[i - o]? else X[i]? := by
  unfold splice
  rw [List.getElem?_toArray]
  by_cases h1 : i < o
  · rw [if_neg (by omega), List.append_assoc, List.getElem?_append_left (by simp; omega), List.getElem?_take, if_pos h1]; simp
  · by_cases h2 : i < o + vs.length
    · rw [if_pos (by omega), List.append_assoc, List.getElem?_append_right (by simp; omega), List.getElem?_append_left (by simp; omega)]
      congr 1; simp; omega
    · rw [if_neg (by omega), List.getElem?_append_right (by simp; omega), List.getElem?_drop]
      rw [Array.getElem?_toList]
      congr 1; simp; omega
theorem splice_den {V : Mem} {X : Array Value} {cs bs : List AV} {o n : Nat} {vs : List Value} (hl : o + vs.length ≤ X.size) (hd : ∀ (i : Nat) (x : Value) (a : AV), X[i]? = some x → cs[i]? = some a → Den V w x a) (hb : DenL V w vs.toArray bs) (hn : n = bs.length) (ho : o ≤ cs.length) :
    ∀ (i : Nat) (x : Value) (a : AV), (splice X o vs)[i]? = some x → (cs.take o ++ bs ++ cs.drop (o + n))[i]? = some a → Den V w x a := fun i x a h1 h2 => by
  subst hn
  have hbl : vs.length = bs.length := by simpa using hb.1
  rw [splice_get hl] at h1
  by_cases k1 : i < o
  · rw [if_neg (by omega)] at h1
    rw [List.append_assoc, List.getElem?_append_left (by simp; omega), List.getElem?_take, if_pos k1] at h2
    exact hd i x a h1 h2
  · by_cases k2 : i < o + bs.length
    · rw [if_pos (by omega)] at h1
      rw [List.append_assoc, List.getElem?_append_right (by simp; omega), List.getElem?_append_left (by simp; omega)] at h2
      have e : i - (cs.take o).length = i - o := by simp; omega
      rw [e] at h2
      exact hb.2 (i - o) x a (by simpa using h1) h2
    · rw [if_neg (by omega)] at h1
      rw [List.getElem?_append_right (by simp; omega), List.getElem?_drop] at h2
      have e : o + bs.length + (i - (cs.take o ++ bs).length) = i := by simp; omega
      rw [e] at h2
      exact hd i x a h1 h2
theorem setRow_to {V : Mem} {r : Nat} {c c' : Cells} {X X' : Array Value} (hV : Rel V w) (hr : V.blk r = some (.cells c)) (hX : w.heap[V.pos r]? = some (.cells X c.elem (0, 0))) (hsz : X'.size = X.size) (hroom : X.size = V.room r) (he : c'.elem = c.elem)
    (hv : c.ver ≤ c'.ver) (hsame : c'.ver = c.ver → c'.sz = c.sz ∧ c'.cs.length = c.cs.length) (hi : c.imm ≤ c'.imm) (hi' : c'.imm ≤ c'.cs.length) (hl : c'.cs.length ≤ X'.size) (ho : ∀ a ∈ c'.cs, a.one = true)
    (hkr : ∀ i, i < c.imm → X'[i]? = X[i]?) (hd : ∀ (i : Nat) (x : Value) (a : AV), X'[i]? = some x → c'.cs[i]? = some a → Den V w x a) :
    To V w (V.upd r (some (.cells c')) (V.pos r) (V.room r)) (w.setRow (V.pos r) X') :=
  to_turn hV hr (setRow_heap w _ _ _ _ _ hX) he (hsz.trans hroom) (setRow_size _ _ _) (fun b hb => setRow_other w _ b _ hb) rfl rfl rfl hv hsame hi hi' hl ho
    (fun i x hi hx => by
      rw [hkr i hi]
      simpa [World.cell?, hX] using hx)
    fun V' hf i x a h1 h2 => (hd i x a h1 h2).fwd hf
theorem put_same (r : Nat) (o : Blk) (hr : (h.mem res g q).born r) : (h.mem res g q).upd r (some o) (g r) (q r) = (h.put r o).mem res g q := by
  rw [← AH.mem_put h res g q r o (g r) (q r) hr]
  have e : ∀ f : Nat → Nat, updf f r (f r) = f := fun f => by
    funext s
    unfold updf
    split
    · rename_i e; rw [e]
    · rfl
  rw [e, e]
theorem storeVar_run {t : TypeId} {v : Value} {b o n : Nat} {X : Array Value} {e : TypeId} (hs : szOf P t = some n) (hn : v.cells.size = n) (hX : w.heap[b]? = some (.cells X e (0, 0))) (hle : o + n ≤ X.size) (h1 : ∀ u ∈ v.cells, u.oneCell' = true) :
    (Instr.storeAt t (.pointer (some ⟨b, o, none⟩)) v).run P w = .ok () (w.setRow b (splice X o v.cells.toList)) := by
  have := run_storeCells_at (P := P) b o e v.cells.toList 0 X w hX (by simp; omega) (by simpa using h1)
  simp only [Nat.add_zero] at this
  simp [Instr.storeAt, Instr.sureAddr, storeVar, run_sizeOf hs, hn, this, splice]
def mStore (P : Program) (h : AH) (f : AF) (t : TypeId) (x v : Operand) : Option AH :=
  match f.ev x, szOf P t, f.ev v with
  | some (.ptr r k off), some n, some b => match h.now r k with
    | some c => if b.cells.length = n ∧ off + n ≤ c.cs.length ∧ c.imm ≤ off ∧ b.cells.all AV.one = true then some (h.put r (.cells { c with cs := setsA c.cs off b.cells })) else none
    | none => none
  | _, _, _ => none
theorem DenL.ones {V : Mem} {vs : Array Value} {bs : List AV} (hd : DenL V w vs bs) (ho : bs.all AV.one = true) : ∀ u ∈ vs, u.oneCell' = true := fun u hu => by
  obtain ⟨i, hi, rfl⟩ := Array.mem_iff_getElem.1 hu
  have hib : i < bs.length := by rw [← hd.1]; exact hi
  exact (hd.2 i vs[i] bs[i] (by simp [hi]) (by simp [hib])).one (List.all_eq_true.1 ho _ (List.getElem_mem hib))
theorem mStore_ok {t : TypeId} {x v : Operand} (hV : Rel (h.mem res g q) w) (hf : FrDen (h.mem res g q) w f a) (hy : mStore P h f t x v = some h') :
    ∃ w', (Instr.storeAt t (a.eval x) (a.eval v)).run P w = .ok () w' ∧ To (h.mem res g q) w (h'.mem res g q) w' := by
  unfold mStore at hy
  split at hy
  · rename_i r k off n b hx hs hv
    split at hy
    · rename_i c hc
      split at hy
      · rename_i hcond
        obtain ⟨i1, i2, i3, i4⟩ := hcond
        injection hy with hy
        subst hy
        obtain ⟨hr, e1⟩ := (hf.ev hx).ptr_now (Agr.mem _ _ _ _) hc
        have hb := (hf.ev hv).cells
        obtain ⟨X, k1, k2, k3, k4, k5, k6⟩ := hV.cells r c hr
        have hbl := hb.1
        rw [e1]
        refine ⟨_, storeVar_run hs (by omega) k1 (by omega) (hb.ones i4), ?_⟩
        rw [← put_same r _ (hV.live r _ hr).1]
        have hlen : off + (a.eval v).cells.toList.length ≤ X.size := by simp; omega
        refine setRow_to (c' := { c with cs := setsA c.cs off b.cells }) hV hr k1 (splice_size hlen) k2 rfl (Nat.le_refl _) (fun _ => ⟨rfl, setsA_length (by omega)⟩) (Nat.le_refl _) ?_ ?_ ?_ ?_ ?_
        · show c.imm ≤ (setsA c.cs off b.cells).length
          rw [setsA_length (by omega)]; exact k4
        · show (setsA c.cs off b.cells).length ≤ _
          rw [setsA_length (by omega), splice_size hlen]; exact k3
        · intro z hz
          have hz : z ∈ setsA c.cs off b.cells := hz
          simp only [setsA, List.mem_append] at hz
          rcases hz with (hz | hz) | hz
          · exact k5 z (List.mem_of_mem_take hz)
          · exact List.all_eq_true.1 i4 z hz
          · exact k5 z (List.mem_of_mem_drop hz)
        · intro i hi
          rw [splice_get hlen, if_neg (by omega)]
        · exact splice_den hlen k6 (by simpa using hb) rfl (by omega)
      · cases hy
    · cases hy
  · cases hy

/-! ### Slices that are made -/
theorem flat_get {α : Type} (zs : List α) : ∀ (n i : Nat), i < n * zs.length → (List.replicate n zs).flatten[i]? = zs[i % zs.length]?
  | 0, i, h => by simp at h
  | n + 1, i, h => by
    rw [List.replicate_succ, List.flatten_cons]
    by_cases h1 : i < zs.length
    · rw [List.getElem?_append_left h1, Nat.mod_eq_of_lt h1]
    · rw [List.getElem?_append_right (by omega), flat_get zs n (i - zs.length) (by rw [Nat.succ_mul] at h; omega)]
      congr 1
      rw [Nat.mod_eq_sub_mod (by omega : zs.length ≤ i)]
def zerosA (z : Value) (n : Nat) : List AV := (List.replicate n (z.cells.toList.map AV.raw)).flatten
theorem zerosA_length (z : Value) (n : Nat) : (zerosA z n).length = n * z.cells.size := by simp [zerosA]
theorem zeros_den (V : Mem) (z : Value) (n m : Nat) (hm : n * z.cells.size ≤ m) : ∀ (i : Nat) (x : Value) (a : AV), (madeCells z.cells m)[i]? = some x → (zerosA z n)[i]? = some a → Den V w x a := fun i x a h1 h2 => by
  have hi : i < n * z.cells.size := by rw [← zerosA_length]; exact (List.getElem?_eq_some_iff.1 h2).1
  have hz : 0 < z.cells.size := Nat.pos_of_ne_zero fun e => by rw [e] at hi; simp at hi
  unfold zerosA at h2
  rw [flat_get _ _ _ (by simpa using hi)] at h2
  simp only [List.length_map, Array.length_toList, List.getElem?_map, Array.getElem?_toList] at h2
  have hlt := Nat.mod_lt i hz
  have hx : x = z.cells[i % z.cells.size] := by
    unfold madeCells at h1
    rw [Array.getElem?_map] at h1
    have him : i < m := by omega
    have : (Array.range m)[i]? = some i := by rw [Array.getElem?_eq_getElem (by rw [Array.size_range]; exact him), Array.getElem_range]
    rw [this] at h1
    simp [hlt] at h1
    exact h1.symm
  subst hx
  rw [Array.getElem?_eq_getElem hlt] at h2
  simp at h2
  subst h2
  exact .raw _
/-- the most that a slice of ours may hold -/
def tops : Nat := 1073741824
def nMake (P : Program) (f : AF) (t : TypeId) (l c : Operand) : Option ((Nat → AV) × Cells) :=
  match P.underlying t, f.ev l, f.ev c with
  | some (.slice e), some (.raw (.int _ l)), some (.raw (.int _ c)) => match P.info? e with
    | some i => match i.zero with
      | some z => if 0 ≤ l ∧ l ≤ c ∧ c ≤ tops ∧ i.bytes ≤ 1024 ∧ z.cells.size = i.size ∧ z.cells.all Value.oneCell' = true then
          some (fun r => .row r 0 0 l.toNat, ⟨0, e, i.size, 0, zerosA z l.toNat⟩) else none
      | none => none
    | none => none
  | _, _, _ => none
theorem nMake_ok {t : TypeId} {l n : Operand} (hf : FrDen V w f a) (hy : nMake P f t l n = some (y, c)) :
    ∃ v w', (Instr.makeSlice t (a.eval l) (a.eval n)).run P w = .ok v w' ∧ Newly V w y c v w' := by
  unfold nMake at hy
  split at hy
  · rename_i e kl l' kc c' hu hl hc
    split at hy
    · rename_i i hi
      split at hy
      · rename_i z hz
        split at hy
        · rename_i hcond
          obtain ⟨i1, i2, i3, i4, i5, i6⟩ := hcond
          simp only [Option.some.injEq, Prod.mk.injEq] at hy
          obtain ⟨rfl, rfl⟩ := hy
          unfold tops at i3
          rw [den_raw (hf.ev hl), den_raw (hf.ev hc)]
          have hb : (i.bytes : Int) * c' ≤ 281474976710656 := by
            have h1 : (i.bytes : Int) * c' ≤ 1024 * c' := Int.mul_le_mul_of_nonneg_right (by omega) (by omega)
            omega
          have hrun := run_make (P := P) w t e i z hu hi hz kl kc l' c' i1 i2 hb (by omega)
          have hle : l'.toNat ≤ c'.toNat := by omega
          have hle2 := Nat.mul_le_mul_right i.size hle
          refine ⟨_, _, hrun, rfl, fun b hb => ?_, Nat.zero_le _, rfl, rfl, rfl, _, rfl, by rw [size_madeCells, zerosA_length, i5]; exact hle2, zeros_den _ z _ _ (by rw [i5]; exact hle2), new_row (sz := i.size) (by rw [zerosA_length, i5]; omega) hle (by rw [size_madeCells]; omega)⟩
          have hb : b ∈ zerosA z l'.toNat := hb
          unfold zerosA at hb
          rw [List.mem_flatten] at hb
          obtain ⟨l0, h0, h1⟩ := hb
          rw [List.mem_replicate] at h0
          rw [h0.2, List.mem_map] at h1
          obtain ⟨u, hu, rfl⟩ := h1
          exact Array.all_eq_true_iff_forall_mem.1 i6 u (by simpa using hu)
        · cases hy
      · cases hy
    · cases hy
  · cases hy
end
end Go.Proofs.YtaoglkkdhdfioaaDoor
