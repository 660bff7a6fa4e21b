/- The operations that make memory, or change it. -/
/- Slices that are laid, and appended to. -/
import Derived.Test.YtaoglkkdhdfioaaGreatDoorEvD
import Derived.Laws.CopyRow
namespace Go.Proofs.YtaoglkkdhdfioaaGreatDoor
open Go

theorem push_old {w : World} {o : Obj} {b : Nat} (h : b < w.heap.size) : (w.heap.push o)[b]? = w.heap[b]? := by
  rw [Array.getElem?_push, if_neg (by omega)]
theorem push_new {w : World} {o : Obj} : (w.heap.push o)[w.heap.size]? = some o := by simp
/-- a new block -/
theorem to_new {V : Mem} {w w' : World} {r sz imm : Nat} {X : Array Value} {e : TypeId} {cs : List AV} (hV : Rel V w) (hr : ¬ V.born r) (hh : w'.heap = w.heap.push (.cells X e)) (h1 : w'.os = w.os) (h2 : w'.tape = w.tape) (h3 : w'.output = w.output)
    (hl : cs.length ≤ X.size) (hd : ∀ (i : Nat) (x : Value) (a : AV), X[i]? = some x → cs[i]? = some a → Den V w x a) (ho : ∀ a ∈ cs, a.one = true) (hi : imm ≤ cs.length) :
    To V w (V.upd r (some (.cells ⟨0, e, sz, imm, cs⟩)) w.heap.size X.size) w' := by
  have hs : w'.heap.size = w.heap.size + 1 := by rw [hh]; simp
  have hk : ∀ b, b < w.heap.size → w'.heap[b]? = w.heap[b]? := fun b hb => by rw [hh]; exact push_old hb
  have hf : Fwd V w (V.upd r (some (.cells ⟨0, e, sz, imm, cs⟩)) w.heap.size X.size) w' := fwd_new hV hr (by omega) hk (Nat.le_refl _)
  have hrn : ∀ q, V.blk r = some q → q ≠ .mark := fun q hq => absurd (hV.live r q hq).1 hr
  refine ⟨rel_upd hV hf (.inr (Nat.le_refl _)) (by omega) (by omega) (fun s q hs hq => hk _ (hV.live s q hq).2) hrn ?_ ?_ ?_, hf, ⟨h1, h2, h3, by omega, fun b hb _ => hk b hb⟩, ?_⟩
  · intro c hc
    injection hc with hc
    subst hc
    exact ⟨X, by rw [hh]; simp, rfl, hl, hi, ho, fun i x a k1 k2 => (hd i x a k1 k2).fwd hf⟩
  · intro l hl; cases hl
  · intro hl; cases hl
  · intro s o hs
    by_cases e : s = r
    · subst e; exact .inl (by simp)
    · rw [Mem.upd_blk_ne e] at hs
      exact .inr ⟨s, o, hs, by rw [Mem.upd_pos_ne e]⟩
/-- a block turned where it lies -/
theorem to_turn {V : Mem} {w w' : World} {r : Nat} {c c' : Cells} {X' : Array Value} (hV : Rel V w) (hr : V.blk r = some (.cells c)) (hh : w'.heap[V.pos r]? = some (.cells X' c.elem (0, 0))) (he : c'.elem = c.elem) (hX : X'.size = V.room r)
    (hs : w'.heap.size = w.heap.size) (hk : ∀ b, b ≠ V.pos r → w'.heap[b]? = w.heap[b]?) (h1 : w'.os = w.os) (h2 : w'.tape = w.tape) (h3 : w'.output = w.output)
    (hv : c.ver ≤ c'.ver) (hsame : c'.ver = c.ver → c'.sz = c.sz ∧ c'.cs.length = c.cs.length) (hi : c.imm ≤ c'.imm) (hi' : c'.imm ≤ c'.cs.length) (hl : c'.cs.length ≤ X'.size) (ho : ∀ a ∈ c'.cs, a.one = true)
    (hkr : ∀ i x, i < c.imm → w.cell? ⟨V.pos r, i, none⟩ = some x → X'[i]? = some x)
    (hd : ∀ V', Fwd V w V' w' → ∀ (i : Nat) (x : Value) (a : AV), X'[i]? = some x → c'.cs[i]? = some a → Den V' w' x a) :
    To V w (V.upd r (some (.cells c')) (V.pos r) (V.room r)) w' := by
  have hf : Fwd V w (V.upd r (some (.cells c')) (V.pos r) (V.room r)) w' :=
    fwd_turn hr hv (fun e => ⟨rfl, rfl, hsame e⟩) hi (.inl rfl) (by omega) (fun b _ hb => hk b hb) fun i x hi hx => by
      have := hkr i x hi hx
      simpa [World.cell?, hh] using this
  have hrn : ∀ q, V.blk r = some q → q ≠ .mark := fun q hq => by rw [hr] at hq; injection hq with hq; rw [← hq]; exact fun e => by cases e
  refine ⟨rel_upd hV hf (.inl ⟨rfl, _, hr⟩) (by omega) (by rw [hs]; exact (hV.live r _ hr).2) (fun s q hs' hq => hk _ fun e => hs' (hV.apart s r q _ hq hr e)) hrn ?_ ?_ ?_, hf, ⟨h1, h2, h3, by omega, fun b hb hn => hk b fun e => hn r _ hr e.symm⟩, ?_⟩
  · intro d hd'
    injection hd' with hd'
    subst hd'
    exact ⟨X', by rw [he]; exact hh, hX, hl, hi', ho, hd _ hf⟩
  · intro l hl; cases hl
  · intro hl; cases hl
  · intro s o hs
    by_cases e : s = r
    · subst e; exact .inr ⟨s, _, hr, by simp⟩
    · rw [Mem.upd_blk_ne e] at hs
      exact .inr ⟨s, o, hs, by rw [Mem.upd_pos_ne e]⟩
/-- a block that has moved -/
theorem to_move {V : Mem} {w w' : World} {r : Nat} {c c' : Cells} {X' : Array Value} (hV : Rel V w) (hr : V.blk r = some (.cells c)) (hh : w'.heap = w.heap.push (.cells X' c'.elem)) (h1 : w'.os = w.os) (h2 : w'.tape = w.tape) (h3 : w'.output = w.output)
    (hv : c.ver < c'.ver) (hi : c.imm ≤ c'.imm) (hi' : c'.imm ≤ c'.cs.length) (hl : c'.cs.length ≤ X'.size) (ho : ∀ a ∈ c'.cs, a.one = true)
    (hd : ∀ V', Fwd V w V' w' → ∀ (i : Nat) (x : Value) (a : AV), X'[i]? = some x → c'.cs[i]? = some a → Den V' w' x a) :
    To V w (V.upd r (some (.cells c')) w.heap.size X'.size) w' := by
  have hs : w'.heap.size = w.heap.size + 1 := by rw [hh]; simp
  have hk : ∀ b, b < w.heap.size → w'.heap[b]? = w.heap[b]? := fun b hb => by rw [hh]; exact push_old hb
  have hf : Fwd V w (V.upd r (some (.cells c')) w.heap.size X'.size) w' :=
    fwd_turn hr (by omega) (fun e => by omega) hi (.inr (Nat.le_refl _)) (by omega) (fun b hb _ => hk b hb) fun i x _ hx => by rw [cell_of_heap (hk _ (hV.live r _ hr).2)]; exact hx
  have hrn : ∀ q, V.blk r = some q → q ≠ .mark := fun q hq => by rw [hr] at hq; injection hq with hq; rw [← hq]; exact fun e => by cases e
  refine ⟨rel_upd hV hf (.inr (Nat.le_refl _)) (by omega) (by omega) (fun s q hs' hq => hk _ (hV.live s q hq).2) hrn ?_ ?_ ?_, hf, ⟨h1, h2, h3, by omega, fun b hb hn => hk b hb⟩, ?_⟩
  · intro d hd'
    injection hd' with hd'
    subst hd'
    exact ⟨X', by rw [hh]; simp, rfl, hl, hi', ho, hd _ hf⟩
  · intro l hl; cases hl
  · intro hl; cases hl
  · intro s o hs
    by_cases e : s = r
    · subst e; exact .inl (by simp)
    · rw [Mem.upd_blk_ne e] at hs
      exact .inr ⟨s, o, hs, by rw [Mem.upd_pos_ne e]⟩

def zeroOf (P : Program) (t : TypeId) : Option Value := (P.info? t).bind (·.zero)
theorem run_zero {P : Program} {t : TypeId} {z : Value} (h : zeroOf P t = some z) (w : World) : (zeroValue t).run P w = .ok z w := by
  unfold zeroOf at h
  cases hi : P.info? t with
  | none => simp [hi] at h
  | some i =>
    simp [hi] at h
    simp [zeroValue, typeInfo, hi, h]
/-- what was made lies in a block of its own -/
structure Newly (V : Mem) (w : World) (y : Nat → AV) (c : Cells) (v : Value) (w' : World) : Prop where
  ver : c.ver = 0
  one : ∀ a ∈ c.cs, a.one = true
  imm : c.imm ≤ c.cs.length
  os : w'.os = w.os
  tape : w'.tape = w.tape
  output : w'.output = w.output
  block : ∃ X : Array Value, w'.heap = w.heap.push (.cells X c.elem) ∧ c.cs.length ≤ X.size ∧ (∀ (i : Nat) (x : Value) (a : AV), X[i]? = some x → c.cs[i]? = some a → Den V w x a) ∧
    ∀ (V' : Mem) (r : Nat), V'.born r → (∀ d, V'.blk r = some (.cells d) → d.ver = 0 ∧ d.sz = c.sz ∧ d.cs.length = c.cs.length) → V'.pos r = w.heap.size → V'.room r = X.size → Den V' w' v (y r)
theorem Newly.to {V : Mem} {w w' : World} {y : Nat → AV} {c : Cells} {v : Value} (hn : Newly V w y c v w') (hV : Rel V w) {r m : Nat} (hr : ¬ V.born r) (hm : m ≤ c.cs.length) :
    ∃ n, To V w (V.upd r (some (.cells { c with imm := m })) w.heap.size n) w' ∧ Den (V.upd r (some (.cells { c with imm := m })) w.heap.size n) w' v (y r) := by
  obtain ⟨X, h1, h2, h3, h4⟩ := hn.block
  have hv := hn.ver
  have ht := to_new (w' := w') (sz := c.sz) (imm := m) hV hr h1 hn.os hn.tape hn.output h2 h3 hn.one hm
  obtain ⟨ver, elem, sz, imm, cs⟩ := c
  simp only at hv
  subst hv
  exact ⟨X.size, ht, h4 _ r (.inr rfl) (fun d hd => by
    rw [Mem.upd_blk_same] at hd
    injection hd with hd
    injection hd with hd
    subst hd
    exact ⟨rfl, rfl, rfl⟩) Mem.upd_pos_same Mem.upd_room_same⟩
section
variable {P : Program} {h h' : AH} {V : Mem} {res : Nat → Nat → Prop} {g q : Nat → Nat} {w : World} {f : AF} {a : Act} {y : Nat → AV} {c : Cells}
theorem not_born : ¬ (h.mem res g q).born h.next := by simp [AH.mem]
theorem new_row {sz len cap off : Nat} {w' : World} {p room n : Nat} (h1 : off + len * sz ≤ n) (h2 : len ≤ cap) (h3 : off + cap * sz ≤ room) (V' : Mem) (r : Nat) (hb : V'.born r) (hd : ∀ d, V'.blk r = some (.cells d) → d.ver = 0 ∧ d.sz = sz ∧ d.cs.length = n) (hp : V'.pos r = p) (hq : V'.room r = room) :
    Den V' w' (.slice (some ⟨p, off, none⟩) len cap) (.row r 0 off len) := by
  refine .row rfl hb fun d hd' => ?_
  obtain ⟨e1, e2, e3⟩ := hd d hd'
  exact ⟨by omega, fun _ => ⟨by rw [e2, e3]; exact h1, cap, by rw [hp], h2, by rw [e2, hq]; exact h3⟩⟩
/-- a variable -/
def nBox (e : TypeId) (a : AV) : Option ((Nat → AV) × Cells) :=
  if a.cells.all AV.one then some (fun r => .ptr r 0 0, ⟨0, e, 1, 0, a.cells⟩) else none
theorem nBox_ok {e : TypeId} {v : Value} {b : AV} (hd : Den V w v b) (hy : nBox e b = some (y, c)) : Newly V w y c (.pointer (some ⟨w.heap.size, 0, none⟩)) (w.alloc (.cells v.cells e)) := by
  unfold nBox at hy
  split at hy
  · rename_i hone
    simp only [Option.some.injEq, Prod.mk.injEq] at hy
    obtain ⟨rfl, rfl⟩ := hy
    have hc := hd.cells
    exact ⟨rfl, by simpa using hone, Nat.zero_le _, rfl, rfl, rfl, v.cells, rfl, by rw [hc.1]; exact Nat.le_refl _, hc.2, fun V' r hb hd hp hq => .ptr rfl hb fun d hd' => ⟨Nat.zero_le _, fun _ => by rw [hp]⟩⟩
  · cases hy

/-! ### The store -/
def splice (X : Array Value) (o : Nat) (vs : List Value) : Array Value := (X.toList.take o ++ vs ++ X.toList.drop (o + vs.length)).toArray
theorem splice_size {X : Array Value} {o : Nat} {vs : List Value} (hl : o + vs.length ≤ X.size) : (splice X o vs).size = X.size := by
  simp [splice]; omega
theorem splice_get {X : Array Value} {o i : Nat} {vs : List Value} (hl : o + vs.length ≤ X.size) : (splice X o vs)[i]? = if o ≤ i ∧ i < o + vs.length then vs[i - o]? else X[i]? := by
  unfold splice
  rw [List.getElem?_toArray]
  by_cases h1 : i < o
  · rw [if_neg (by omega), List.append_assoc, List.getElem?_append_left (by simp; omega), List.getElem?_take, if_pos h1]; simp
  · by_cases h2 : i < o + vs.length
    · rw [if_pos (by omega), List.append_assoc, List.getElem?_append_right (by simp; omega), List.getElem?_append_left (by simp; omega)]
      congr 1; simp; omega
    · rw [if_neg (by omega), List.getElem?_append_right (by simp; omega), List.getElem?_drop]
      rw [Array.getElem?_toList]
      congr 1; simp; omega
theorem splice_den {V : Mem} {X : Array Value} {cs bs : List AV} {o n : Nat} {vs : List Value} (hl : o + vs.length ≤ X.size) (hd : ∀ (i : Nat) (x : Value) (a : AV), X[i]? = some x → cs[i]? = some a → Den V w x a) (hb : DenL V w vs.toArray bs) (hn : n = bs.length) (ho : o ≤ cs.length) :
    ∀ (i : Nat) (x : Value) (a : AV), (splice X o vs)[i]? = some x → (cs.take o ++ bs ++ cs.drop (o + n))[i]? = some a → Den V w x a := fun i x a h1 h2 => by
  subst hn
  have hbl : vs.length = bs.length := by simpa using hb.1
  rw [splice_get hl] at h1
  by_cases k1 : i < o
  · rw [if_neg (by omega)] at h1
    rw [List.append_assoc, List.getElem?_append_left (by simp; omega), List.getElem?_take, if_pos k1] at h2
    exact hd i x a h1 h2
  · by_cases k2 : i < o + bs.length
    · rw [if_pos (by omega)] at h1
      rw [List.append_assoc, List.getElem?_append_right (by simp; omega), List.getElem?_append_left (by simp; omega)] at h2
      have e : i - (cs.take o).length = i - o := by simp; omega
      rw [e] at h2
      exact hb.2 (i - o) x a (by simpa using h1) h2
    · rw [if_neg (by omega)] at h1
      rw [List.getElem?_append_right (by simp; omega), List.getElem?_drop] at h2
      have e : o + bs.length + (i - (cs.take o ++ bs).length) = i := by simp; omega
      rw [e] at h2
      exact hd i x a h1 h2
theorem setRow_to {V : Mem} {r : Nat} {c c' : Cells} {X X' : Array Value} (hV : Rel V w) (hr : V.blk r = some (.cells c)) (hX : w.heap[V.pos r]? = some (.cells X c.elem (0, 0))) (hsz : X'.size = X.size) (hroom : X.size = V.room r) (he : c'.elem = c.elem)
    (hv : c.ver ≤ c'.ver) (hsame : c'.ver = c.ver → c'.sz = c.sz ∧ c'.cs.length = c.cs.length) (hi : c.imm ≤ c'.imm) (hi' : c'.imm ≤ c'.cs.length) (hl : c'.cs.length ≤ X'.size) (ho : ∀ a ∈ c'.cs, a.one = true)
    (hkr : ∀ i, i < c.imm → X'[i]? = X[i]?) (hd : ∀ (i : Nat) (x : Value) (a : AV), X'[i]? = some x → c'.cs[i]? = some a → Den V w x a) :
    To V w (V.upd r (some (.cells c')) (V.pos r) (V.room r)) (w.setRow (V.pos r) X') :=
  to_turn hV hr (setRow_heap w _ _ _ _ _ hX) he (hsz.trans hroom) (setRow_size _ _ _) (fun b hb => setRow_other w _ b _ hb) rfl rfl rfl hv hsame hi hi' hl ho
    (fun i x hi hx => by
      rw [hkr i hi]
      simpa [World.cell?, hX] using hx)
    fun V' hf i x a h1 h2 => (hd i x a h1 h2).fwd hf
theorem put_same (r : Nat) (o : Blk) (hr : (h.mem res g q).born r) : (h.mem res g q).upd r (some o) (g r) (q r) = (h.put r o).mem res g q := by
  rw [← AH.mem_put h res g q r o (g r) (q r) hr]
  have e : ∀ f : Nat → Nat, updf f r (f r) = f := fun f => by
    funext s
    unfold updf
    split
    · rename_i e; rw [e]
    · rfl
  rw [e, e]
theorem storeVar_run {t : TypeId} {v : Value} {b o n : Nat} {X : Array Value} {e : TypeId} (hs : szOf P t = some n) (hn : v.cells.size = n) (hX : w.heap[b]? = some (.cells X e (0, 0))) (hle : o + n ≤ X.size) (h1 : ∀ u ∈ v.cells, u.oneCell' = true) :
    (Instr.storeAt t (.pointer (some ⟨b, o, none⟩)) v).run P w = .ok () (w.setRow b (splice X o v.cells.toList)) := by
  have := run_storeCells_at (P := P) b o e v.cells.toList 0 X w hX (by simp; omega) (by simpa using h1)
  simp only [Nat.add_zero] at this
  simp [Instr.storeAt, Instr.sureAddr, storeVar, run_sizeOf hs, hn, this, splice]
def mStore (P : Program) (h : AH) (f : AF) (t : TypeId) (x v : Operand) : Option AH :=
  match f.ev x, szOf P t, f.ev v with
  | some (.ptr r k off), some n, some b => match h.now r k with
    | some c => if b.cells.length = n ∧ off + n ≤ c.cs.length ∧ c.imm ≤ off ∧ b.cells.all AV.one = true then some (h.put r (.cells { c with cs := setsA c.cs off b.cells })) else none
    | none => none
  | _, _, _ => none
theorem DenL.ones {V : Mem} {vs : Array Value} {bs : List AV} (hd : DenL V w vs bs) (ho : bs.all AV.one = true) : ∀ u ∈ vs, u.oneCell' = true := fun u hu => by
  obtain ⟨i, hi, rfl⟩ := Array.mem_iff_getElem.1 hu
  have hib : i < bs.length := by rw [← hd.1]; exact hi
  exact (hd.2 i vs[i] bs[i] (by simp [hi]) (by simp [hib])).one (List.all_eq_true.1 ho _ (List.getElem_mem hib))
theorem mStore_ok {t : TypeId} {x v : Operand} (hV : Rel (h.mem res g q) w) (hf : FrDen (h.mem res g q) w f a) (hy : mStore P h f t x v = some h') :
    ∃ w', (Instr.storeAt t (a.eval x) (a.eval v)).run P w = .ok () w' ∧ To (h.mem res g q) w (h'.mem res g q) w' := by
  unfold mStore at hy
  split at hy
  · rename_i r k off n b hx hs hv
    split at hy
    · rename_i c hc
      split at hy
      · rename_i hcond
        obtain ⟨i1, i2, i3, i4⟩ := hcond
        injection hy with hy
        subst hy
        obtain ⟨hr, e1⟩ := (hf.ev hx).ptr_now (Agr.mem _ _ _ _) hc
        have hb := (hf.ev hv).cells
        obtain ⟨X, k1, k2, k3, k4, k5, k6⟩ := hV.cells r c hr
        have hbl := hb.1
        rw [e1]
        refine ⟨_, storeVar_run hs (by omega) k1 (by omega) (hb.ones i4), ?_⟩
        rw [← put_same r _ (hV.live r _ hr).1]
        have hlen : off + (a.eval v).cells.toList.length ≤ X.size := by simp; omega
        refine setRow_to (c' := { c with cs := setsA c.cs off b.cells }) hV hr k1 (splice_size hlen) k2 rfl (Nat.le_refl _) (fun _ => ⟨rfl, setsA_length (by omega)⟩) (Nat.le_refl _) ?_ ?_ ?_ ?_ ?_
        · show c.imm ≤ (setsA c.cs off b.cells).length
          rw [setsA_length (by omega)]; exact k4
        · show (setsA c.cs off b.cells).length ≤ _
          rw [setsA_length (by omega), splice_size hlen]; exact k3
        · intro z hz
          have hz : z ∈ setsA c.cs off b.cells := hz
          simp only [setsA, List.mem_append] at hz
          rcases hz with (hz | hz) | hz
          · exact k5 z (List.mem_of_mem_take hz)
          · exact List.all_eq_true.1 i4 z hz
          · exact k5 z (List.mem_of_mem_drop hz)
        · intro i hi
          rw [splice_get hlen, if_neg (by omega)]
        · exact splice_den hlen k6 (by simpa using hb) rfl (by omega)
      · cases hy
    · cases hy
  · cases hy

/-! ### Slices that are made -/
theorem flat_get {α : Type} (zs : List α) : ∀ (n i : Nat), i < n * zs.length → (List.replicate n zs).flatten[i]? = zs[i % zs.length]?
  | 0, i, h => by simp at h
  | n + 1, i, h => by
    rw [List.replicate_succ, List.flatten_cons]
    by_cases h1 : i < zs.length
    · rw [List.getElem?_append_left h1, Nat.mod_eq_of_lt h1]
    · rw [List.getElem?_append_right (by omega), flat_get zs n (i - zs.length) (by rw [Nat.succ_mul] at h; omega)]
      congr 1
      rw [Nat.mod_eq_sub_mod (by omega : zs.length ≤ i)]
def zerosA (z : Value) (n : Nat) : List AV := (List.replicate n (z.cells.toList.map AV.raw)).flatten
theorem zerosA_length (z : Value) (n : Nat) : (zerosA z n).length = n * z.cells.size := by simp [zerosA]
theorem zeros_den (V : Mem) (z : Value) (n m : Nat) (hm : n * z.cells.size ≤ m) : ∀ (i : Nat) (x : Value) (a : AV), (madeCells z.cells m)[i]? = some x → (zerosA z n)[i]? = some a → Den V w x a := fun i x a h1 h2 => by
  have hi : i < n * z.cells.size := by rw [← zerosA_length]; exact (List.getElem?_eq_some_iff.1 h2).1
  have hz : 0 < z.cells.size := Nat.pos_of_ne_zero fun e => by rw [e] at hi; simp at hi
  unfold zerosA at h2
  rw [flat_get _ _ _ (by simpa using hi)] at h2
  simp only [List.length_map, Array.length_toList, List.getElem?_map, Array.getElem?_toList] at h2
  have hlt := Nat.mod_lt i hz
  have hx : x = z.cells[i % z.cells.size] := by
    unfold madeCells at h1
    rw [Array.getElem?_map] at h1
    have him : i < m := by omega
    have : (Array.range m)[i]? = some i := by rw [Array.getElem?_eq_getElem (by rw [Array.size_range]; exact him), Array.getElem_range]
    rw [this] at h1
    simp [hlt] at h1
    exact h1.symm
  subst hx
  rw [Array.getElem?_eq_getElem hlt] at h2
  simp at h2
  subst h2
  exact .raw _
/-- the most that a slice of ours may hold -/
def tops : Nat := 1073741824
def nMake (P : Program) (f : AF) (t : TypeId) (l c : Operand) : Option ((Nat → AV) × Cells) :=
  match P.underlying t, f.ev l, f.ev c with
  | some (.slice e), some (.raw (.int _ l)), some (.raw (.int _ c)) => match P.info? e with
    | some i => match i.zero with
      | some z => if 0 ≤ l ∧ l ≤ c ∧ c ≤ tops ∧ i.bytes ≤ 1024 ∧ z.cells.size = i.size ∧ z.cells.all Value.oneCell' = true then
          some (fun r => .row r 0 0 l.toNat, ⟨0, e, i.size, 0, zerosA z l.toNat⟩) else none
      | none => none
    | none => none
  | _, _, _ => none
theorem nMake_ok {t : TypeId} {l n : Operand} (hf : FrDen V w f a) (hy : nMake P f t l n = some (y, c)) :
    ∃ v w', (Instr.makeSlice t (a.eval l) (a.eval n)).run P w = .ok v w' ∧ Newly V w y c v w' := by
  unfold nMake at hy
  split at hy
  · rename_i e kl l' kc c' hu hl hc
    split at hy
    · rename_i i hi
      split at hy
      · rename_i z hz
        split at hy
        · rename_i hcond
          obtain ⟨i1, i2, i3, i4, i5, i6⟩ := hcond
          simp only [Option.some.injEq, Prod.mk.injEq] at hy
          obtain ⟨rfl, rfl⟩ := hy
          unfold tops at i3
          rw [den_raw (hf.ev hl), den_raw (hf.ev hc)]
          have hb : (i.bytes : Int) * c' ≤ 281474976710656 := by
            have h1 : (i.bytes : Int) * c' ≤ 1024 * c' := Int.mul_le_mul_of_nonneg_right (by omega) (by omega)
            omega
          have hrun := run_make (P := P) w t e i z hu hi hz kl kc l' c' i1 i2 hb (by omega)
          have hle : l'.toNat ≤ c'.toNat := by omega
          have hle2 := Nat.mul_le_mul_right i.size hle
          refine ⟨_, _, hrun, rfl, fun b hb => ?_, Nat.zero_le _, rfl, rfl, rfl, _, rfl, by rw [size_madeCells, zerosA_length, i5]; exact hle2, zeros_den _ z _ _ (by rw [i5]; exact hle2), new_row (sz := i.size) (by rw [zerosA_length, i5]; omega) hle (by rw [size_madeCells]; omega)⟩
          have hb : b ∈ zerosA z l'.toNat := hb
          unfold zerosA at hb
          rw [List.mem_flatten] at hb
          obtain ⟨l0, h0, h1⟩ := hb
          rw [List.mem_replicate] at h0
          rw [h0.2, List.mem_map] at h1
          obtain ⟨u, hu, rfl⟩ := h1
          exact Array.all_eq_true_iff_forall_mem.1 i6 u (by simpa using hu)
        · cases hy
      · cases hy
    · cases hy
  · cases hy
end
end Go.Proofs.YtaoglkkdhdfioaaGreatDoor
namespace Go.Proofs.YtaoglkkdhdfioaaGreatDoor
open Go

theorem fill_size {place : Nat → Option (Nat × Nat)} : ∀ {vs : List (Nat × Value)} {us xs : Array Value}, Instr.fill place us vs = some xs → xs.size = us.size
  | [], us, xs, h => by simp [Instr.fill] at h; rw [h]
  | (i, v) :: vs, us, xs, h => by
    simp only [Instr.fill] at h
    split at h
    · cases h
    · split at h
      · cases h
      · rw [fill_size h]
        show (v.cells.zipIdx.foldl (fun (cs : Array Value) (p : Value × Nat) => cs.setIfInBounds (_ + p.2) p.1) us).size = us.size
        rw [← Array.foldl_toList, fold_size]
section
variable {P : Program} {h h' : AH} {V : Mem} {res : Nat → Nat → Prop} {g q : Nat → Nat} {w : World} {f : AF} {a : Act}
def nBuild (P : Program) (f : AF) (t : TypeId) (len : Nat) (parts : List (Nat × Operand)) : Option ((Nat → AV) × Cells) :=
  match P.underlying t with
  | some (.slice e) => match P.info? e with
    | some i => match i.zero, f.parts parts with
      | some z, some ps => match fillA (fun k => some (k * i.size, i.size)) (zerosA z len) ps with
        | some cs => if len * i.size ≤ 16777216 ∧ z.cells.size = i.size ∧ cs.all AV.one = true then some (fun r => .row r 0 0 len, ⟨0, e, i.size, 0, cs⟩) else none
        | none => none
      | _, _ => none
    | none => none
  | _ => none
theorem buildSlice_run {t e : TypeId} {len : Nat} {i : TypeInfo} {z : Value} {ps : Array (Nat × Value)} {xs : Array Value} (hu : P.underlying t = some (.slice e)) (hi : P.info? e = some i) (hz : i.zero = some z) (h1 : len * i.size ≤ 16777216)
    (hf : Instr.fill (fun k => some (k * i.size, i.size)) (madeCells z.cells (len * i.size)) ps.toList = some xs) : (Instr.buildSlice t len ps).run P w = .ok (.slice (some ⟨w.heap.size, 0, none⟩) len len) (w.alloc (.cells xs e)) := by
  have i1' : ¬ (16777216 < len * i.size) := by omega
  by_cases hn : len * i.size = 0
  · have hm : madeCells z.cells (len * i.size) = #[] := Array.eq_empty_of_size_eq_zero (by rw [size_madeCells]; exact hn)
    rw [hm] at hf
    simp only [Instr.buildSlice, Sem.run_bind, run_underlying hu, Result.andThen_ok, sizeOf, typeInfo, run_program, hi, Sem.run_pure, hn]
    have hz0 : ∀ z : Array Value, (Array.range 0).map (fun x => z[x % z.size]!) = #[] := fun z => Array.eq_empty_of_size_eq_zero (by simp)
    simp only [if_neg (by omega : ¬ (0 > 2 ^ 24)), Sem.run_bind, Sem.run_pure, Result.andThen_ok, if_true, hz0, hf]
    simp [newRow]
  · unfold madeCells at hf
    simp [Instr.buildSlice, run_underlying hu, sizeOf, typeInfo, hi, hn, i1', zeroValue, hz, newRow, hf]
theorem nBuild_ok {t : TypeId} {len : Nat} {parts : Array (Nat × Operand)} {y : Nat → AV} {c : Cells} (hf : FrDen V w f a) (hy : nBuild P f t len parts.toList = some (y, c)) :
    ∃ v w', (Instr.buildSlice t len (parts.map fun (i, x) => (i, a.eval x))).run P w = .ok v w' ∧ Newly V w y c v w' := by
  unfold nBuild at hy
  split at hy
  · rename_i e hu
    split at hy
    · rename_i i hi
      split at hy
      · rename_i z ps hz hp
        split at hy
        · rename_i cs hcs
          split at hy
          · rename_i hcond
            obtain ⟨i1, i2, i3⟩ := hcond
            simp only [Option.some.injEq, Prod.mk.injEq] at hy
            obtain ⟨rfl, rfl⟩ := hy
            obtain ⟨e1, e2⟩ := hf.parts hp
            have hzl : len * z.cells.size = len * i.size := by rw [i2]
            have hd0 : DenL V w (madeCells z.cells (len * i.size)) (zerosA z len) := ⟨by rw [size_madeCells, zerosA_length, hzl], zeros_den _ z _ _ (by omega)⟩
            obtain ⟨xs, k1, k2⟩ := fill_ok e1 e2 hd0 hcs
            have hxs : xs.size = len * i.size := by rw [fill_size k1, size_madeCells]
            have hrun := buildSlice_run (P := P) (w := w) (ps := parts.map fun (i, x) => (i, a.eval x)) hu hi hz i1 (by simpa using k1)
            have hcl : cs.length = len * i.size := by rw [← k2.1, hxs]
            exact ⟨_, _, hrun, rfl, by simpa using i3, Nat.zero_le _, rfl, rfl, rfl, xs, rfl, by rw [k2.1]; exact Nat.le_refl _, k2.2, new_row (sz := i.size) (by rw [hcl]; omega) (Nat.le_refl _) (by omega)⟩
          · cases hy
        · cases hy
      · cases hy
    · cases hy
  · cases hy

/-! ### append -/
theorem CellsAt.append {b off : Nat} {cs ds : List AV} (h1 : CellsAt V w b off cs) (h2 : CellsAt V w b (off + cs.length) ds) : CellsAt V w b off (cs ++ ds) := by
  obtain ⟨X, hX⟩ := h1
  obtain ⟨Y, hY⟩ := h2
  refine ⟨fun i => if i < cs.length then X i else Y (i - cs.length), fun i a ha => ?_⟩
  by_cases hi : i < cs.length
  · rw [List.getElem?_append_left hi] at ha
    simp only [hi, if_true]
    exact hX i a ha
  · rw [List.getElem?_append_right (by omega)] at ha
    simp only [hi, if_false]
    have := hY _ a ha
    rwa [(by omega : off + cs.length + (i - cs.length) = off + i)] at this
theorem CellsAt.take {b off n : Nat} {cs : List AV} (h1 : CellsAt V w b off cs) : CellsAt V w b off (cs.take n) := by
  obtain ⟨X, hX⟩ := h1
  refine ⟨X, fun i a ha => ?_⟩
  rw [List.getElem?_take] at ha
  split at ha
  · exact hX i a ha
  · cases ha
theorem vals_cells {b sz : Nat} : ∀ {es : List AV} {off : Nat} (X : Nat → Nat → Value), (∀ (j : Nat) (e : AV), es[j]? = some e → e.cells.length = sz) →
    (∀ (j : Nat) (e : AV) (i : Nat) (a : AV), es[j]? = some e → e.cells[i]? = some a → w.cell? ⟨b, off + j * sz + i, none⟩ = some (X j i) ∧ Den V w (X j i) a) → CellsAt V w b off (es.flatMap AV.cells) ∧ (es.flatMap AV.cells).length = es.length * sz
  | [], off, X, h1, h2 => ⟨⟨fun _ => undef, fun i a h => by simp at h⟩, by simp⟩
  | e :: es, off, X, h1, h2 => by
    have he := h1 0 e rfl
    obtain ⟨k1, k2⟩ := vals_cells (es := es) (off := off + sz) (fun j => X (j + 1)) (fun j e h => h1 (j + 1) e (by simpa using h)) fun j e i a hj hi => by
      have := h2 (j + 1) e i a (by simpa using hj) hi
      rwa [(by rw [Nat.succ_mul]; omega : off + (j + 1) * sz + i = off + sz + j * sz + i)] at this
    rw [List.flatMap_cons]
    refine ⟨.append ⟨X 0, fun i a hi => ?_⟩ (by rw [he]; exact k1), by rw [List.length_append, he, k2, List.length_cons, Nat.succ_mul]; omega⟩
    have := h2 0 e i a rfl hi
    simpa using this
def srcA (h : AH) (f : AF) (sz : Nat) (x : Operand) : Option (Nat × List AV) :=
  match f.ev x with
  | some (.raw (.slice none 0 _)) => some (0, [])
  | some .emp => some (0, [])
  | some (.vals s es) => if s = sz then some (es.length, es.flatMap AV.cells) else none
  | some (.row r k off len) => match h.now r k with
    | some c => if c.sz = sz then some (len, (c.cs.drop off).take (len * sz)) else none
    | none => none
  | _ => none
theorem src_cells {sz b off n cap : Nat} {tx e' : TypeId} {bs : List AV} (hk : P.underlying tx = some (.slice e')) (hc : CellsAt V w b off bs) (hl : bs.length = n * sz) (ho : bs.all AV.one = true) :
    ∃ news, Src P sz tx (.slice (some ⟨b, off, none⟩) n cap) n news w ∧ DenL V w news.toArray bs := by
  obtain ⟨X, hX⟩ := hc
  have hget : ∀ j u, ((List.range bs.length).map X)[j]? = some u → j < bs.length ∧ u = X j := fun j u hj => by
    rw [List.getElem?_map] at hj
    have hlt : j < bs.length := by
      rcases Nat.lt_or_ge j bs.length with h | h
      · exact h
      · rw [List.getElem?_eq_none (by simpa using h)] at hj; cases hj
    rw [List.getElem?_range hlt] at hj
    exact ⟨hlt, by simpa using hj.symm⟩
  have hden : DenL V w ((List.range bs.length).map X).toArray bs := ⟨by simp, fun i x a h1 h2 => by
    obtain ⟨_, rfl⟩ := hget i x (by simpa using h1)
    exact (hX i a h2).2⟩
  refine ⟨(List.range bs.length).map X, Src.ofSlice w hk _ n cap _ (by simpa using hl) (fun j u hj => ?_) (fun u hu => ?_), hden⟩
  · obtain ⟨hlt, rfl⟩ := hget j u hj
    rw [Addr.add_mid]
    exact (hX j _ (List.getElem?_eq_getElem hlt)).1
  · exact hden.ones ho u (by simpa using hu)
theorem src_ok {sz n : Nat} {tx e' : TypeId} {x : Operand} {bs : List AV} (hV : Rel V w) (hA : Agr h V) (hf : FrDen V w f a) (hk : P.underlying tx = some (.slice e')) (hs : srcA h f sz x = some (n, bs)) (ho : bs.all AV.one = true) :
    ∃ news, Src P sz tx (a.eval x) n news w ∧ DenL V w news.toArray bs := by
  unfold srcA at hs
  have nil : ∀ {u : Value} {A : Option Addr} {c : Nat}, u = .slice A 0 c → ∃ news, Src P sz tx u 0 news w ∧ DenL V w news.toArray [] := fun e => by
    subst e
    rename_i A c
    refine ⟨[], ?_, ⟨rfl, fun i x a h => by simp at h⟩⟩
    cases A with
    | none => exact Src.ofNil w hk c
    | some A => exact Src.ofSlice w hk A 0 c [] (by simp) (fun j u h => by simp at h) (fun u h => by simp at h)
  split at hs
  · rename_i c hx
    simp only [Option.some.injEq, Prod.mk.injEq] at hs
    obtain ⟨rfl, rfl⟩ := hs
    exact nil (den_raw (hf.ev hx))
  · rename_i hx
    simp only [Option.some.injEq, Prod.mk.injEq] at hs
    obtain ⟨rfl, rfl⟩ := hs
    have hd := hf.ev hx
    generalize a.eval x = u at hd
    cases hd with
    | emp => exact nil rfl
  · rename_i s es hx
    split at hs
    · rename_i e
      subst e
      simp only [Option.some.injEq, Prod.mk.injEq] at hs
      obtain ⟨rfl, rfl⟩ := hs
      have hd := hf.ev hx
      generalize a.eval x = u at hd
      cases hd with
      | vnil => exact nil rfl
      | vals X hc hs h1 h2 =>
        obtain ⟨k1, k2⟩ := vals_cells X hs fun j e i a hj hi => ⟨(h1 j e i a hj hi).2, h2 j e i a hj hi⟩
        exact src_cells hk k1 k2 ho
    · cases hs
  · rename_i r k off len hx
    split at hs
    · rename_i c hc
      split at hs
      · rename_i e
        subst e
        simp only [Option.some.injEq, Prod.mk.injEq] at hs
        obtain ⟨rfl, rfl⟩ := hs
        obtain ⟨e3, e0, cap, e1, _⟩ := (hf.ev hx).row_now hA hc
        rw [e1]
        have := (CellsAt.shift (k := off) (hV.cellsAt e3)).take (n := len * c.sz)
        rw [Nat.zero_add] at this
        exact src_cells hk this (by simp; omega) ho
      · cases hs
    · cases hs
  · cases hs
/-- an append onto nothing -/
def nAppend (P : Program) (h : AH) (f : AF) (ts tx : TypeId) (s x : Operand) : Option ((Nat → AV) × Cells) :=
  match P.underlying ts, P.underlying tx with
  | some (.slice e), some (.slice _) => match P.info? e with
    | some i => match i.zero, srcA h f i.size x with
      | some z, some (n + 1, bs) =>
        if bs.all AV.one = true ∧ z.cells.size = i.size ∧ i.bytes ≤ 1024 ∧ n + 1 ≤ tops then
          match f.ev s with
          | some (.raw (.slice none 0 0)) => some (fun r => .row r 0 0 (n + 1), ⟨0, e, i.size, 0, bs⟩)
          | some .emp => some (fun r => .row r 0 0 (n + 1), ⟨0, e, i.size, 0, bs⟩)
          | _ => none
        else none
      | _, _ => none
    | none => none
  | _, _ => none
/-- an append of nothing -/
def rAppend (P : Program) (h : AH) (f : AF) (ts tx : TypeId) (s x : Operand) : Option AV :=
  match P.underlying ts, P.underlying tx with
  | some (.slice e), some (.slice _) => match P.info? e with
    | some i => match srcA h f i.size x with
      | some (0, []) => match f.ev s with
        | some (.raw (.slice none 0 0)) => some (.raw (.slice none 0 0))
        | some .emp => some .emp
        | some (.vals s es) => some (.vals s es)
        | some (.row r k off len) => match h.now r k with
          | some _ => some (.row r k off len)
          | none => none
        | _ => none
      | _ => none
    | none => none
  | _, _ => none
/-- an append onto a block of ours -/
def mAppend (P : Program) (h : AH) (f : AF) (ts tx : TypeId) (s x : Operand) : Option (AV × AH) :=
  match P.underlying ts, P.underlying tx with
  | some (.slice e), some (.slice _) => match P.info? e with
    | some i => match i.zero, srcA h f i.size x, f.ev s with
      | some z, some (n + 1, bs), some (.row r k 0 len) =>
        if bs.all AV.one = true ∧ z.cells.size = i.size ∧ i.bytes ≤ 1024 ∧ n + 1 ≤ tops then
          match h.now r k with
          | some c => if c.sz = i.size ∧ c.elem = e ∧ c.imm ≤ len * c.sz ∧ len ≤ tops then
              some (.row r (k + 1) 0 (len + (n + 1)), h.put r (.cells { c with ver := k + 1, cs := c.cs.take (len * c.sz) ++ bs })) else none
          | none => none
        else none
      | _, _, _ => none
    | none => none
  | _, _ => none
theorem append_same {ts tx ty e : TypeId} {i : TypeInfo} {A : Option Addr} {len cap : Nat} {xv : Value} {news : List Value} (hu : P.underlying ts = some (.slice e)) (hi : P.info? e = some i) (hs : Src P i.size tx xv 0 news w) (hl : len ≤ cap) :
    (Builtin.append_ #[ts, tx] ty #[.slice A len cap, xv]).run P w = .ok (.slice A len cap) w := by
  have hn : news = [] := List.eq_nil_of_length_eq_zero (by rw [hs.newsLen]; simp)
  have hc := hs.cells
  rw [hn] at hc
  rcases hs.kind with ⟨e', hk⟩ | hk <;> cases A <;> simp [Builtin.append_, run_underlying hu, run_underlying hk, sizeOf, typeInfo, hi, hs.len, hl, hc, storeCells]
theorem cap_ge (w : World) (need old : Nat) (e : TypeId) : need ≤ grownCap w need old e := by
  simp only [grownCap, Question.cut]
  exact Nat.le_add_right _ _
theorem append_new {ts tx ty e : TypeId} {i : TypeInfo} {z : Value} {A : Option Addr} {n : Nat} {xv : Value} {news : List Value} {bs : List AV} (hu : P.underlying ts = some (.slice e)) (hi : P.info? e = some i) (hz : i.zero = some z) (hs : Src P i.size tx xv (n + 1) news w)
    (hd : DenL V w news.toArray bs) (ho : bs.all AV.one = true) (hzs : z.cells.size = i.size) (hb : i.bytes ≤ 1024) (hn : n + 1 ≤ tops) :
    ∃ v w', (Builtin.append_ #[ts, tx] ty #[.slice A 0 0, xv]).run P w = .ok v w' ∧ Newly V w (fun r => .row r 0 0 (n + 1)) ⟨0, e, i.size, 0, bs⟩ v w' := by
  unfold tops at hn
  have hfit : Builtin.nextslicecap (0 + (n + 1)) 0 * i.bytes ≤ 281474976710656 := by
    have h1 := Nat.mul_le_mul (nextslicecap_le (need := 0 + (n + 1)) (old := 0) (by omega)) hb
    omega
  have hold : (Builtin.firstCells i.size 0 (.slice A 0 0)).run P w.drew = .ok ([] : List Value).toArray w.drew := by
    cases A with
    | none => simp [Builtin.firstCells]
    | some A => exact run_firstCells_some w.drew i.size 0 A 0 0 [] (by simp) (fun j v h => by simp at h)
  have hrun := run_append_grow_src (P := P) w ts tx ty e i z hu hi hz A 0 0 [] hold xv (n + 1) news hs (by omega) (by omega) hfit
  simp only [Nat.zero_add] at hrun
  have hnl : news.length = bs.length := by simpa using hd.1
  have hbl : bs.length = (n + 1) * i.size := by rw [← hnl]; exact hs.newsLen
  have hcap := cap_ge w (n + 1) 0 e
  have hsz : (([] ++ news).toArray ++ Builtin.zeroCells z.cells (grownCap w (n + 1) 0 e - (n + 1))).size = grownCap w (n + 1) 0 e * i.size := by
    simp only [List.nil_append, Array.size_append, size_zeroCells, List.size_toArray, hzs, hs.newsLen]
    rw [← Nat.add_mul]
    congr 1; omega
  exact ⟨_, _, hrun, rfl, by simpa using ho, Nat.zero_le _, rfl, rfl, rfl, _, rfl, by show bs.length ≤ _; rw [hsz, hbl]; exact Nat.mul_le_mul_right _ hcap, fun j x a k1 k2 => by
      have hj : j < news.length := by rw [hnl]; exact (List.getElem?_eq_some_iff.1 k2).1
      rw [Array.getElem?_append_left (by simpa using hj)] at k1
      exact hd.2 j x a (by simpa using k1) k2, new_row (sz := i.size) (by rw [hbl]; omega) hcap (by rw [hsz]; omega)⟩
theorem setCells_splice (P : Program) {b o : Nat} {X : Array Value} {e : TypeId} {vs : List Value} (hX : w.heap[b]? = some (.cells X e (0, 0))) (hle : o + vs.length ≤ X.size) (h1 : ∀ u ∈ vs, u.oneCell' = true) : w.setCells b o vs = w.setRow b (splice X o vs) := by
  have k1 := run_storeCells_at (P := P) b o e vs 0 X w hX (by omega) h1
  have k2 := run_storeCells_cells (P := P) b o vs 0 w (fun j hj => by
    have : o + j < X.size := by omega
    simp [World.cell?, hX, this]) (fun j hj => by simp [World.frozen?, hX]) h1
  simp only [Nat.add_zero] at k1 k2
  rw [k1] at k2
  injection k2 with _ k2
  exact k2.symm
theorem put_row_den {r k len cap p room : Nat} {c : Cells} (hr : (h.mem res g q).born r) (hv : c.ver = k) (h1 : len * c.sz ≤ c.cs.length) (h2 : len ≤ cap) (h3 : cap * c.sz ≤ room) :
    Den ((h.put r (.cells c)).mem res (updf g r p) (updf q r room)) w (.slice (some ⟨p, 0, none⟩) len cap) (.row r k 0 len) := by
  refine .row rfl hr fun d hd => ?_
  have hd : AH.find (AH.sub h.blk r (.cells c)) r = some (.cells d) := hd
  rw [AH.find_sub, if_pos rfl] at hd
  injection hd with hd
  injection hd with hd
  subst hd
  exact ⟨by omega, fun _ => ⟨by omega, cap, by simp [AH.mem, updf], h2, by simp [AH.mem, updf]; omega⟩⟩
theorem append_row {ts tx ty e : TypeId} {i : TypeInfo} {z : Value} {n r k len : Nat} {c : Cells} {sv xv : Value} {news : List Value} {bs : List AV} (hV : Rel (h.mem res g q) w) (hu : P.underlying ts = some (.slice e)) (hi : P.info? e = some i) (hz : i.zero = some z) (hs : Src P i.size tx xv (n + 1) news w)
    (hd : DenL (h.mem res g q) w news.toArray bs) (ho : bs.all AV.one = true) (hzs : z.cells.size = i.size) (hb : i.bytes ≤ 1024) (hn : n + 1 ≤ tops) (hlen : len ≤ tops) (hsv : Den (h.mem res g q) w sv (.row r k 0 len)) (hc : h.now r k = some c) (hsz : c.sz = i.size) (he : c.elem = e) (him : c.imm ≤ len * c.sz) :
    ∃ v w' g' q', (Builtin.append_ #[ts, tx] ty #[sv, xv]).run P w = .ok v w' ∧ To (h.mem res g q) w ((h.put r (.cells { c with ver := k + 1, cs := c.cs.take (len * c.sz) ++ bs })).mem res g' q') w' ∧
      Den ((h.put r (.cells { c with ver := k + 1, cs := c.cs.take (len * c.sz) ++ bs })).mem res g' q') w' v (.row r (k + 1) 0 (len + (n + 1))) := by
  obtain ⟨hr, j1, cap, rfl, j2, j3⟩ := hsv.row_now (Agr.mem _ _ _ _) hc
  have hver : c.ver = k := (AH.now_get hc).2
  obtain ⟨X, k1, k2, k3, k4, k5, k6⟩ := hV.cells r c hr
  have hrn : (h.mem res g q).born r := (hV.live r _ hr).1
  have j3 : 0 + cap * c.sz ≤ q r := j3
  have k2 : X.size = q r := k2
  have hnl : news.length = bs.length := by simpa using hd.1
  have hbl : bs.length = (n + 1) * c.sz := by rw [← hnl, hsz]; exact hs.newsLen
  have hadd : len * c.sz + (n + 1) * c.sz = (len + (n + 1)) * c.sz := by rw [← Nat.add_mul]
  have hone : ∀ b ∈ c.cs.take (len * c.sz) ++ bs, b.one = true := fun b hb => by
    rcases List.mem_append.1 hb with hb | hb
    · exact k5 b (List.mem_of_mem_take hb)
    · exact List.all_eq_true.1 ho b hb
  have hcl : (c.cs.take (len * c.sz) ++ bs).length = (len + (n + 1)) * c.sz := by
    rw [List.length_append, List.length_take, hbl, ← hadd]; omega
  by_cases hroom : len + (n + 1) ≤ cap
  · have hle : (len + (n + 1)) * c.sz ≤ cap * c.sz := Nat.mul_le_mul_right _ hroom
    have hfit : len * c.sz + news.length ≤ X.size := by omega
    have hrun := run_append_room_src (P := P) w ts tx ty e i hu hi (g r) 0 len cap xv (n + 1) news hs hroom
      (fun j hj => by
        have : 0 + len * i.size + j < X.size := by rw [← hsz]; omega
        have k1' : w.heap[g r]? = some (.cells X c.elem (0, 0)) := k1
        simp only [World.cell?, k1']
        simp at this
        simp [this])
      (fun j hj => by
        have k1' : w.heap[g r]? = some (.cells X c.elem (0, 0)) := k1
        simp [World.frozen?, k1'])
    have hsp : w.setCells (g r) (len * c.sz) news = w.setRow (g r) (splice X (len * c.sz) news) := setCells_splice P k1 hfit hs.one
    rw [Nat.zero_add, ← hsz, hsp] at hrun
    refine ⟨_, _, updf g r (g r), updf q r (q r), hrun, ?_, put_row_den hrn rfl (by show _ ≤ (c.cs.take (len * c.sz) ++ bs).length; rw [hcl]; exact Nat.le_refl _) hroom (by show cap * c.sz ≤ _; omega)⟩
    rw [AH.mem_put h res g q r _ _ _ hrn]
    refine setRow_to (c' := { c with ver := k + 1, cs := c.cs.take (len * c.sz) ++ bs }) hV hr k1 (splice_size hfit) k2 rfl (by show c.ver ≤ k + 1; omega) (fun e => by have e : k + 1 = c.ver := e; omega) (Nat.le_refl _) ?_ ?_ hone ?_ ?_
    · show c.imm ≤ (c.cs.take (len * c.sz) ++ bs).length
      rw [hcl]; omega
    · show (c.cs.take (len * c.sz) ++ bs).length ≤ _
      rw [hcl, splice_size hfit]; omega
    · intro j hj
      rw [splice_get hfit, if_neg (by omega)]
    · intro j x b h1 h2
      have h2 : (c.cs.take (len * c.sz) ++ bs)[j]? = some b := h2
      refine splice_den (n := bs.length) hfit k6 hd rfl (by omega) j x b h1 ?_
      rw [List.getElem?_append_left (List.getElem?_eq_some_iff.1 h2).1]; exact h2
  · unfold tops at hn hlen
    have hfit : Builtin.nextslicecap (len + (n + 1)) cap * i.bytes ≤ 281474976710656 := by
      have h1 := Nat.mul_le_mul (nextslicecap_le (need := len + (n + 1)) (old := cap) (by omega)) hb
      omega
    have hol : (X.toList.take (len * c.sz)).length = len * i.size := by
      rw [List.length_take, ← hsz]; simp; omega
    have hold : (Builtin.firstCells i.size len (.slice (some ⟨g r, 0, none⟩) len cap)).run P w.drew = .ok (X.toList.take (len * c.sz)).toArray w.drew :=
      run_firstCells_some w.drew i.size len ⟨g r, 0, none⟩ len cap _ hol (fun j v hv => by
        rw [List.getElem?_take] at hv
        split at hv
        · have k1' : w.heap[g r]? = some (.cells X c.elem (0, 0)) := k1
          rw [Addr.add_mid]
          show w.cell? ⟨g r, 0 + j, none⟩ = some v
          simp only [World.cell?, k1']
          simpa using hv
        · cases hv)
    have hrun := run_append_grow_src (P := P) w ts tx ty e i z hu hi hz (some ⟨g r, 0, none⟩) len cap _ hold xv (n + 1) news hs (by omega) (by omega) hfit
    have hcap := cap_ge w (len + (n + 1)) cap e
    have hXs : ((X.toList.take (len * c.sz) ++ news).toArray ++ Builtin.zeroCells z.cells (grownCap w (len + (n + 1)) cap e - (len + (n + 1)))).size = grownCap w (len + (n + 1)) cap e * c.sz := by
      simp only [Array.size_append, size_zeroCells, List.size_toArray, List.length_append, hzs, hs.newsLen, hol]
      rw [← hsz, ← Nat.add_mul, ← Nat.add_mul]
      congr 1; omega
    have hge : (len + (n + 1)) * c.sz ≤ grownCap w (len + (n + 1)) cap e * c.sz := Nat.mul_le_mul_right _ hcap
    refine ⟨_, _, updf g r w.heap.size, updf q r _, hrun, ?_, put_row_den hrn rfl (by show _ ≤ (c.cs.take (len * c.sz) ++ bs).length; rw [hcl]; exact Nat.le_refl _) hcap (Nat.le_of_eq hXs.symm)⟩
    rw [AH.mem_put h res g q r _ _ _ hrn]
    subst he
    refine to_move (c' := { c with ver := k + 1, cs := c.cs.take (len * c.sz) ++ bs }) hV hr rfl rfl rfl rfl (by show c.ver < k + 1; omega) (Nat.le_refl _) ?_ ?_ hone ?_
    · show c.imm ≤ (c.cs.take (len * c.sz) ++ bs).length
      rw [hcl]; omega
    · show (c.cs.take (len * c.sz) ++ bs).length ≤ _
      rw [hcl, hXs]; exact hge
    · intro V' hf j x b h1 h2
      have h2 : (c.cs.take (len * c.sz) ++ bs)[j]? = some b := h2
      have hj : j < (len + (n + 1)) * c.sz := by rw [← hcl]; exact (List.getElem?_eq_some_iff.1 h2).1
      rw [Array.getElem?_append_left (by simp [hs.newsLen]; rw [← hsz]; omega), List.getElem?_toArray] at h1
      by_cases hj1 : j < len * c.sz
      · rw [List.getElem?_append_left (by rw [hol, ← hsz]; exact hj1), List.getElem?_take, if_pos hj1] at h1
        rw [List.getElem?_append_left (by rw [List.length_take]; omega), List.getElem?_take, if_pos hj1] at h2
        exact (k6 j x b (by simpa using h1) h2).fwd hf
      · rw [List.getElem?_append_right (by rw [hol, ← hsz]; omega), hol, ← hsz] at h1
        rw [List.getElem?_append_right (by rw [List.length_take]; omega), List.length_take, Nat.min_eq_left (by omega)] at h2
        exact (hd.2 _ x b (by simpa using h1) h2).fwd hf
theorem rAppend_ok {ts tx ty : TypeId} {s x : Operand} {y : AV} (hV : Rel V w) (hA : Agr h V) (hf : FrDen V w f a) (hy : rAppend P h f ts tx s x = some y) :
    ∃ v, (Builtin.append_ #[ts, tx] ty #[a.eval s, a.eval x]).run P w = .ok v w ∧ Den V w v y := by
  unfold rAppend at hy
  split at hy
  · rename_i e e' hu hk
    split at hy
    · rename_i i hi
      split at hy
      · rename_i hsrc
        obtain ⟨news, hS, hD⟩ := src_ok hV hA hf hk hsrc rfl
        have same : ∀ {u : Value} {A : Option Addr} {len cap : Nat} {y' : AV}, u = .slice A len cap → len ≤ cap → Den V w u y' → ∃ v, (Builtin.append_ #[ts, tx] ty #[u, a.eval x]).run P w = .ok v w ∧ Den V w v y' := fun e h1 h3 => by
          subst e
          exact ⟨_, append_same hu hi hS h1, h3⟩
        split at hy
        · rename_i hs
          injection hy with hy
          subst hy
          exact same (den_raw (hf.ev hs)) (Nat.le_refl _) (hf.ev hs)
        · rename_i hs
          injection hy with hy
          subst hy
          have hd := hf.ev hs
          generalize a.eval s = u at hd ⊢
          cases hd with
          | emp => exact same rfl (Nat.le_refl _) .emp
        · rename_i s' es hs
          injection hy with hy
          subst hy
          have hd := hf.ev hs
          generalize a.eval s = u at hd ⊢
          cases hd with
          | vnil => exact same rfl (Nat.zero_le _) .vnil
          | vals X hc hs h1 h2 => exact same rfl hc (.vals X hc hs h1 h2)
        · rename_i r k off len hs
          split at hy
          · rename_i c hc
            injection hy with hy
            subst hy
            obtain ⟨_, _, cap, e1, e2, _⟩ := (hf.ev hs).row_now hA hc
            exact same e1 e2 (hf.ev hs)
          · cases hy
        · cases hy
      · cases hy
    · cases hy
  · cases hy
theorem nAppend_ok {ts tx ty : TypeId} {s x : Operand} {y : Nat → AV} {c : Cells} (hV : Rel V w) (hA : Agr h V) (hf : FrDen V w f a) (hy : nAppend P h f ts tx s x = some (y, c)) :
    ∃ v w', (Builtin.append_ #[ts, tx] ty #[a.eval s, a.eval x]).run P w = .ok v w' ∧ Newly V w y c v w' := by
  unfold nAppend at hy
  split at hy
  · rename_i e e' hu hk
    split at hy
    · rename_i i hi
      split at hy
      · rename_i z n bs hz hsrc
        split at hy
        · rename_i hcond
          obtain ⟨i1, i2, i3, i4⟩ := hcond
          obtain ⟨news, hS, hD⟩ := src_ok hV hA hf hk hsrc i1
          split at hy
          · rename_i hs
            simp only [Option.some.injEq, Prod.mk.injEq] at hy
            obtain ⟨rfl, rfl⟩ := hy
            rw [den_raw (hf.ev hs)]
            exact append_new hu hi hz hS hD i1 i2 i3 i4
          · rename_i hs
            simp only [Option.some.injEq, Prod.mk.injEq] at hy
            obtain ⟨rfl, rfl⟩ := hy
            have hd := hf.ev hs
            generalize a.eval s = u at hd ⊢
            cases hd with
            | emp => exact append_new hu hi hz hS hD i1 i2 i3 i4
          · cases hy
        · cases hy
      · cases hy
    · cases hy
  · cases hy
theorem mAppend_ok {ts tx ty : TypeId} {s x : Operand} {y : AV} (hV : Rel (h.mem res g q) w) (hf : FrDen (h.mem res g q) w f a) (hy : mAppend P h f ts tx s x = some (y, h')) :
    ∃ v w' g' q', (Builtin.append_ #[ts, tx] ty #[a.eval s, a.eval x]).run P w = .ok v w' ∧ To (h.mem res g q) w (h'.mem res g' q') w' ∧ Den (h'.mem res g' q') w' v y := by
  unfold mAppend at hy
  split at hy
  · rename_i e e' hu hk
    split at hy
    · rename_i i hi
      split at hy
      · rename_i z n bs r k len hz hsrc hs
        split at hy
        · rename_i hcond
          obtain ⟨i1, i2, i3, i4⟩ := hcond
          obtain ⟨news, hS, hD⟩ := src_ok hV (Agr.mem _ _ _ _) hf hk hsrc i1
          split at hy
          · rename_i c hc
            split at hy
            · rename_i hcc
              obtain ⟨j1, j2, j3, j4⟩ := hcc
              simp only [Option.some.injEq, Prod.mk.injEq] at hy
              obtain ⟨rfl, rfl⟩ := hy
              exact append_row hV hu hi hz hS hD i1 i2 i3 i4 j4 (hf.ev hs) hc j1 j2 j3
            · cases hy
          · cases hy
        · cases hy
      · cases hy
    · cases hy
  · cases hy
/-- an operation that makes memory -/
def nop (P : Program) (h : AH) (f : AF) (o : Oper) : Option ((Nat → AV) × Cells) :=
  match o.op with
  | .alloc e => match zeroOf P e with
    | some z => nBox e (ofV z)
    | none => none
  | .box e x => match f.ev x with
    | some b => nBox e b
    | none => none
  | .buildSlice t len parts => nBuild P f t len parts.toList
  | .makeSlice t l c => nMake P f t l c
  | .call c => match c.callee, c.args.toList, c.argTypes.toList with
    | .builtin .append, [s, x], [ts, tx] => nAppend P h f ts tx s x
    | _, _, _ => none
  | _ => none
theorem nop_ok {o : Oper} {y : Nat → AV} {c : Cells} (hV : Rel V w) (hA : Agr h V) (hf : FrDen V w f a) (hy : nop P h f o = some (y, c)) : ∃ v w', (execOp a.eval o).run P w = .ok (.value v) w' ∧ Newly V w y c v w' := by
  obtain ⟨dst, op, ty, pos, after, guard⟩ := o
  unfold nop at hy
  cases op <;> simp only at hy <;> try (cases hy; done)
  case alloc e =>
    split at hy
    · rename_i z hz
      exact ⟨_, _, by simp [execOp, Instr.alloc, run_zero hz, newVar, newRow], nBox_ok (den_ofV _ w z) hy⟩
    · cases hy
  case box e x =>
    split at hy
    · rename_i b hb
      exact ⟨_, _, by simp [execOp, Instr.box, newVar, newRow], nBox_ok (hf.ev hb) hy⟩
    · cases hy
  case buildSlice t len parts =>
    obtain ⟨v, w', k1, k2⟩ := nBuild_ok hf hy
    exact ⟨v, w', by simp only [execOp, Sem.run_bind, k1, Result.andThen_ok, Sem.run_pure], k2⟩
  case makeSlice t l n =>
    obtain ⟨v, w', k1, k2⟩ := nMake_ok hf hy
    exact ⟨v, w', by simp only [execOp, Sem.run_bind, k1, Result.andThen_ok, Sem.run_pure], k2⟩
  case call c =>
    obtain ⟨callee, args, argTypes⟩ := c
    simp only at hy
    split at hy
    · rename_i s x ts tx hx ht
      obtain rfl : args = #[s, x] := by apply Array.ext'; simpa using hx
      obtain rfl : argTypes = #[ts, tx] := by apply Array.ext'; simpa using ht
      obtain ⟨v, w', k1, k2⟩ := nAppend_ok (ty := ty) hV hA hf hy
      exact ⟨v, w', by simp [execOp, resolve, invoke, builtin, k1], k2⟩
    · cases hy
/-- an operation that changes memory -/
def mop (P : Program) (h : AH) (f : AF) (o : Oper) : Option (AV × AH) :=
  match o.op with
  | .store t x v => (mStore P h f t x v).map fun h' => (.raw undef, h')
  | .call c => match c.callee, c.args.toList, c.argTypes.toList with
    | .builtin .append, [s, x], [ts, tx] => mAppend P h f ts tx s x
    | _, _, _ => none
  | _ => none
theorem mop_ok {o : Oper} {y : AV} (hV : Rel (h.mem res g q) w) (hf : FrDen (h.mem res g q) w f a) (hy : mop P h f o = some (y, h')) :
    ∃ v w' g' q', ((execOp a.eval o).run P w = .ok (.value v) w' ∨ (execOp a.eval o).run P w = .ok .skip w' ∧ v = undef) ∧ To (h.mem res g q) w (h'.mem res g' q') w' ∧ Den (h'.mem res g' q') w' v y := by
  obtain ⟨dst, op, ty, pos, after, guard⟩ := o
  unfold mop at hy
  cases op <;> simp only at hy <;> try (cases hy; done)
  case store t x v =>
    cases hm : mStore P h f t x v with
    | none => simp [hm] at hy
    | some h2 =>
      simp only [hm, Option.map_some, Option.some.injEq, Prod.mk.injEq] at hy
      obtain ⟨rfl, rfl⟩ := hy
      obtain ⟨w', k1, k2⟩ := mStore_ok hV hf hm
      exact ⟨undef, w', g, q, .inr ⟨by simp only [execOp, Sem.run_bind, k1, Result.andThen_ok, Sem.run_pure], rfl⟩, k2, .raw _⟩
  case call c =>
    obtain ⟨callee, args, argTypes⟩ := c
    simp only at hy
    split at hy
    · rename_i s x ts tx hx ht
      obtain rfl : args = #[s, x] := by apply Array.ext'; simpa using hx
      obtain rfl : argTypes = #[ts, tx] := by apply Array.ext'; simpa using ht
      obtain ⟨v, w', g', q', k1, k2⟩ := mAppend_ok (ty := ty) hV hf hy
      exact ⟨v, w', g', q', .inl (by simp [execOp, resolve, invoke, builtin, k1]), k2⟩
    · cases hy
def rApp (P : Program) (h : AH) (f : AF) (o : Op) : Option AV :=
  match o with
  | .call c => match c.callee, c.args.toList, c.argTypes.toList with
    | .builtin .append, [s, x], [ts, tx] => rAppend P h f ts tx s x
    | _, _, _ => none
  | _ => none
theorem rApp_ok {o : Oper} {y : AV} (hV : Rel V w) (hA : Agr h V) (hf : FrDen V w f a) (hy : rApp P h f o.op = some y) : ∃ v, (execOp a.eval o).run P w = .ok (.value v) w ∧ Den V w v y := by
  obtain ⟨dst, op, ty, pos, after, guard⟩ := o
  cases op <;> simp only [rApp] at hy <;> try (cases hy; done)
  case call c =>
    obtain ⟨callee, args, argTypes⟩ := c
    simp only at hy
    split at hy
    · rename_i s x ts tx hx ht
      obtain rfl : args = #[s, x] := by apply Array.ext'; simpa using hx
      obtain rfl : argTypes = #[ts, tx] := by apply Array.ext'; simpa using ht
      obtain ⟨v, k1, k2⟩ := rAppend_ok (ty := ty) hV hA hf hy
      exact ⟨v, by simp [execOp, resolve, invoke, builtin, k1], k2⟩
    · cases hy
/-- what is only handed on -/
def mvop (P : Program) (f : AF) (o : Oper) : Option AV :=
  match o.op with
  | .move x | .assign x => f.ev x
  | .pick c a b => rPick f c a b
  | .build t parts => ((f.parts parts.toList).bind (builtA P t)).map .agg
  | .extract x i => rExtract f x i
  | .makeFunc fn first cap => rMakeFunc f fn first.toList cap.toList
  | .makeInterface t x => rIface P f t x
  | _ => none
theorem mvop_rop {o : Oper} {y : AV} (hy : mvop P f o = some y) : rop P h f o = some y := by
  obtain ⟨dst, op, ty, pos, after, guard⟩ := o
  cases op <;> simp only [mvop] at hy <;> first | exact hy | (cases hy; done)
def qold (P : Program) (h : AH) (f : AF) (o : Oper) : Option AV :=
  match gop P f o with
  | some y => some y
  | none => match rop P h f o with
    | some y => some y
    | none => rApp P h f o.op
def qop (P : Program) (h : AH) (f : AF) (o : Oper) : Option AV :=
  match mvop P f o with
  | some y => some y
  | none => qold P h f o
theorem qold_ok {o : Oper} {y : AV} (hV : Rel V w) (hA : Agr h V) (hf : FrDen V w f a) (hy : qold P h f o = some y) : ∃ v, (execOp a.eval o).run P w = .ok (.value v) w ∧ Den V w v y := by
  unfold qold at hy
  split at hy
  · rename_i z hz
    injection hy with hy
    subst hy
    obtain ⟨v, h1, h2⟩ := gop_ok hf hz
    exact ⟨v, h1 w, h2⟩
  · split at hy
    · rename_i z hz
      injection hy with hy
      subst hy
      exact rop_ok hV hA hf hz
    · exact rApp_ok hV hA hf hy
theorem qop_ok {o : Oper} {y : AV} (hV : Rel V w) (hA : Agr h V) (hf : FrDen V w f a) (hy : qop P h f o = some y) : ∃ v, (execOp a.eval o).run P w = .ok (.value v) w ∧ Den V w v y := by
  unfold qop at hy
  split at hy
  · rename_i z hz
    injection hy with hy
    subst hy
    exact rop_ok hV hA hf (mvop_rop hz)
  · exact qold_ok hV hA hf hy
end
end Go.Proofs.YtaoglkkdhdfioaaGreatDoor
