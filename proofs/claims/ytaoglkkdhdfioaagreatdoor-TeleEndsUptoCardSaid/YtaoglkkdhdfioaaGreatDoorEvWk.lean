/- Regions whose order is drawn, walked in one order: that each other order comes to the same is told by what the operations look at and write. -/
/- An append to a row of ours, in a region whose order is drawn. -/
/- The walk's steps as one word: what is left to show is told by the walk itself. -/
import Derived.Test.YtaoglkkdhdfioaaGreatDoorEvTw
import Derived.Test.YtaoglkkdhdfioaaGreatDoorEvZ
import Derived.Test.YtaoglkkdhdfioaaGreatDoorEvX
import Derived.KernelRfl
namespace Go.Proofs.YtaoglkkdhdfioaaGreatDoor
open Go Go.Proofs
section
variable {P : Program} {h h' : AH} {V : Mem} {res : Nat → Nat → Prop} {g q : Nat → Nat} {w : World} {f : AF} {a : Act} {ops : Array Oper} {n0 i : Nat}
/-- what an operation leaves: its value, the blocks that it looks at, what it writes (a block of its own number, if it makes it) -/
structure Did where
  y : AV
  T : List Nat
  wr : Option (Nat × Cells)
  new : Bool
def Did.key (e : Did) : List Nat × Option (Nat × Bool) := (e.T, e.wr.map fun p => (p.1, e.new))
def Did.mem (e : Did) (V V' : Mem) : Prop := match e.wr with
  | none => V' = V
  | some (r, c) => ∃ p n, V' = V.upd r (some (.cells c)) p n
def Did.on (e : Did) (h : AH) : AH := match e.wr with
  | none => h
  | some (r, c) => if e.new then { h with blk := h.blk ++ [(r, .cells c)] } else h.put r (.cells c)
def Did.fits (e : Did) (m : Nat) (h : AH) : Prop := match e.wr with
  | none => e.new = false
  | some (r, _) => if e.new then r = m else r ∈ e.T ∧ (h.get r).isSome = true
def DidOk (P : Program) (ops : Array Oper) (n0 i : Nat) (f : AF) (h : AH) (e : Did) : Prop := ∃ o, ops[i]? = some o ∧ e.fits (n0 + i) h ∧
  ∀ (F : Fence) (n : Nat) (V : Mem) (w : World) (fS : AF) (a : Act) (K : Act → World → Prop) (Q : Exit → Act → World → Prop), FOk F → Rel V w → (∀ r ∈ e.T, ∀ b, V.born r → h.get r = some b → V.blk r = some b) → FrDen V w fS a →
    (∀ x ∈ o.op.operands.toList, fS.ev x = f.ev x) → guardA ops fS o = guardA ops f o → ¬ V.born (n0 + i) →
    (∀ v V' w', e.mem V V' → To V w V' w' → Den V' w' v e.y → K (a.put o.dst v) w') → wpOpIn F n P ops Q i K a w
/-- some of the blocks alone -/
def AH.only (h : AH) (T : List Nat) : AH := { h with blk := h.blk.filter fun p => T.contains p.1 }
theorem find_only (T : List Nat) : ∀ (l : List (Nat × Blk)) (r : Nat) (b : Blk), AH.find (l.filter fun p => T.contains p.1) r = some b → r ∈ T ∧ AH.find l r = some b
  | [], r, b, e => by simp [AH.find] at e
  | (s, p) :: l, r, b, e => by
    rw [List.filter_cons] at e
    by_cases hs : T.contains s = true
    · simp only [hs, if_true, AH.find] at e ⊢
      split at e
      · rename_i e1
        subst e1
        exact ⟨by simpa using hs, by rw [if_pos rfl]; exact e⟩
      · rename_i e1
        rw [if_neg e1]
        exact find_only T l r b e
    · rw [if_neg hs] at e
      obtain ⟨h1, h2⟩ := find_only T l r b e
      refine ⟨h1, ?_⟩
      simp only [AH.find]
      rw [if_neg]
      · exact h2
      · rintro rfl
        exact hs (by simpa using h1)
theorem only_agr {T : List Nat} (hA : ∀ r ∈ T, ∀ b, V.born r → h.get r = some b → V.blk r = some b) : Agr (h.only T) V := fun r b hb e => by
  obtain ⟨h1, h2⟩ := find_only T h.blk r b e
  exact hA r h1 b hb h2
theorem pad_get {α : Type} (i : Nat) (x y : α) : (List.replicate i x ++ [y])[i]? = some y := by simp
/-- a head is such a one -/
theorem did_head {y : AV} {T : List Nat} {b : Option Cells} (hh : HeadOk P ops n0 f (h.only T) (List.replicate i (.raw undef) ++ [y]) (List.replicate i none ++ [b]) i) :
    DidOk P ops n0 i f h ⟨y, T, b.map fun c => (n0 + i, c), b.isSome⟩ := by
  obtain ⟨o, y', b', h1, h2, h3, h4⟩ := hh
  rw [pad_get] at h2 h3
  injection h2 with h2
  injection h3 with h3
  subst h2 h3
  refine ⟨o, h1, ?_, fun F n V w fS a K Q hF hV hA hf hx hg hb hK => h4 F n V w fS a K Q hF hV (only_agr hA) hf hx hg hb ?_⟩
  · cases b with
    | none => rfl
    | some c => simp [Did.fits]
  · cases b with
    | none => exact fun v w' t d => hK v V w' rfl t d
    | some c => exact fun v w' m t d => hK v _ w' ⟨_, _, rfl⟩ t d
/-! ### What changes a block -/
theorem find_self (r : Nat) (b : Blk) : ∀ l : List (Nat × Blk), AH.find l r = some b → AH.find (l.filter fun p => [r].contains p.1) r = some b
  | [], e => by simp [AH.find] at e
  | (s, o) :: l, e => by
    rw [List.filter_cons]
    by_cases h : r = s
    · subst h
      simp only [AH.find, if_true] at e
      rw [if_pos (by simp)]
      simp only [AH.find, if_true]; exact e
    · simp only [AH.find, h, if_false] at e
      rw [if_neg (by simpa using fun x : s = r => h x.symm)]
      exact find_self r b l e
/-- the block that a store turns -/
def mStoreC (P : Program) (h : AH) (f : AF) (t : TypeId) (x v : Operand) : Option (Nat × Cells) :=
  match f.ev x, szOf P t, f.ev v with
  | some (.ptr r k off), some n, some b => match h.now r k with
    | some c => if b.cells.length = n ∧ off + n ≤ c.cs.length ∧ c.imm ≤ off ∧ b.cells.all AV.one = true then some (r, { c with cs := setsA c.cs off b.cells }) else none
    | none => none
  | _, _, _ => none
theorem mStoreV {t : TypeId} {x v : Operand} {fS : AF} {r : Nat} {c' : Cells} (hV : Rel V w) (hA : ∀ b, V.born r → h.get r = some b → V.blk r = some b) (hf : FrDen V w fS a) (h1 : fS.ev x = f.ev x) (h2 : fS.ev v = f.ev v) (hy : mStoreC P h f t x v = some (r, c')) :
    (h.get r).isSome = true ∧ ∃ w', (Instr.storeAt t (a.eval x) (a.eval v)).run P w = .ok () w' ∧ To V w (V.upd r (some (.cells c')) (V.pos r) (V.room r)) w' := by
  unfold mStoreC at hy
  split at hy
  · rename_i r' k off n b hx hs hv
    split at hy
    · rename_i c hc
      split at hy
      · rename_i hcond
        obtain ⟨i1, i2, i3, i4⟩ := hcond
        simp only [Option.some.injEq, Prod.mk.injEq] at hy
        obtain ⟨rfl, rfl⟩ := hy
        have hA' : Agr (h.only [r']) V := only_agr fun s hs b hb e => by
          simp at hs; subst hs; exact hA b hb e
        have hgc := AH.now_get hc
        have hc' : (h.only [r']).now r' k = some c := by
          unfold AH.now
          rw [show (h.only [r']).get r' = some (.cells c) from find_self _ _ _ hgc.1]
          simp [hgc.2]
        obtain ⟨hr, e1⟩ := (hf.ev (h1.trans hx)).ptr_now hA' hc'
        have hb := (hf.ev (h2.trans hv)).cells
        obtain ⟨X, k1, k2, k3, k4, k5, k6⟩ := hV.cells r' c hr
        have hbl := hb.1
        rw [e1]
        refine ⟨by rw [hgc.1]; rfl, _, storeVar_run hs (by omega) k1 (by omega) (hb.ones i4), ?_⟩
        have hlen : off + (a.eval v).cells.toList.length ≤ X.size := by simp; omega
        refine setRow_to (c' := { c with cs := setsA c.cs off b.cells }) hV hr k1 (splice_size hlen) k2 rfl (Nat.le_refl _) (fun _ => ⟨rfl, setsA_length (by omega)⟩) (Nat.le_refl _) ?_ ?_ ?_ ?_ ?_
        · show c.imm ≤ (setsA c.cs off b.cells).length
          rw [setsA_length (by omega)]; exact k4
        · show (setsA c.cs off b.cells).length ≤ _
          rw [setsA_length (by omega), splice_size hlen]; exact k3
        · intro z hz
          have hz : z ∈ setsA c.cs off b.cells := hz
          simp only [setsA, List.mem_append] at hz
          rcases hz with (hz | hz) | hz
          · exact k5 z (List.mem_of_mem_take hz)
          · exact List.all_eq_true.1 i4 z hz
          · exact k5 z (List.mem_of_mem_drop hz)
        · intro i hi
          rw [splice_get hlen, if_neg (by omega)]
        · exact splice_den hlen k6 (by simpa using hb) rfl (by omega)
      · cases hy
    · cases hy
  · cases hy
theorem mStoreC_look {t : TypeId} {x v : Operand} {r : Nat} {c' : Cells} (hy : mStoreC P h f t x v = some (r, c')) : (h.get r).isSome = true := by
  unfold mStoreC at hy
  split at hy
  · split at hy
    · rename_i c hc
      split at hy
      · simp only [Option.some.injEq, Prod.mk.injEq] at hy
        obtain ⟨rfl, rfl⟩ := hy
        rw [(AH.now_get hc).1]; rfl
      · cases hy
    · cases hy
  · cases hy
/-- a store -/
theorem did_m {o : Oper} {t : TypeId} {x v : Operand} {r : Nat} {c : Cells} (ho : ops[i]? = some o) (hg : guardA ops f o = some true) (hop : o.op = .store t x v) (hc : mStoreC P h f t x v = some (r, c)) :
    DidOk P ops n0 i f h ⟨.raw undef, [r], some (r, c), false⟩ := by
  refine ⟨o, ho, ⟨List.mem_cons_self .., mStoreC_look hc⟩, fun F n V w fS a K Q hF hV hA hf hl hgd hb hK => ?_⟩
  have hxo : x ∈ o.op.operands.toList := by rw [hop]; simp [Op.operands]
  have hvo : v ∈ o.op.operands.toList := by rw [hop]; simp [Op.operands]
  obtain ⟨_, w', k1, k2⟩ := mStoreV hV (hA r (List.mem_cons_self ..)) hf (hl x hxo) (hl v hvo) hc
  have hkk := hK undef _ w' ⟨_, _, rfl⟩ k2 (.raw _)
  have hex : (execOp a.eval o).run P w = .ok .skip w' := by
    obtain ⟨dst, op, ty, pos, after, guard⟩ := o
    simp only at hop
    subst hop
    simp only [execOp, Sem.run_bind, k1, Result.andThen_ok, Sem.run_pure]
  simp only [wpOpIn, ho, guard_ok hf (hgd.trans hg), if_true]
  refine ⟨about_ok hF o, ?_⟩
  rw [Oper.semAt_eq _ _ _ (no_defer hex (fun d e => by cases e)), hex]
  exact hkk
/-! ### The walk in one order -/
def Trail (P : Program) (ops : Array Oper) (n0 : Nat) : Nat → List Did → AF → AH → AF → AH → Prop
  | _, [], f, h, fN, hN => fN = f ∧ hN = h
  | i, e :: E, f, h, fN, hN => DidOk P ops n0 i f h e ∧ Trail P ops n0 (i + 1) E (f.put ((ops[i]?).bind (·.dst)) e.y) (e.on h) fN hN
/-- must i come behind j? -/
def reach (ops : Array Oper) : Nat → Nat → Nat → Bool
  | 0, i, j => edgeB ops i j
  | k + 1, i, j => edgeB ops i j || (List.range i).any fun m => edgeB ops i m && reach ops k m j
def confl (x y : List Nat × Option (Nat × Bool)) : Bool :=
  (match x.2 with | some p => y.1.contains p.1 | none => false) || (match y.2 with | some p => x.1.contains p.1 | none => false)
def anyB (ops : Array Oper) (k n0 : Nat) (K : List (List Nat × Option (Nat × Bool))) : Bool :=
  (K.length == ops.size) &&
  ((List.range ops.size).all fun i => match ops[i]? with
    | none => true
    | some o => (match o.dst with | some d => decide (d < k) | none => true) && (o.after.all fun e => !Region.binds .any e || decide (e.on < i)) &&
      ((List.range ops.size).all fun j => match (ops[j]?).bind (·.dst) with
        | none => true
        | some d => (!(o.looksAt ops).contains d || edgeB ops i j || (decide (i < j) && reach ops 3 j i)) && (j == i || o.dst != some d))) &&
  ((List.range ops.size).all fun i => match K[i]? with
    | none => true
    | some x => (x.1.all fun r => decide (r < n0 + i)) && ((List.range i).all fun j => match K[j]? with
      | none => true
      | some y => !confl x y || reach ops 3 i j))
structure AnyOk (ops : Array Oper) (k n0 : Nat) (E : List Did) : Prop where
  len : E.length = ops.size
  dst : ∀ (i : Nat) (o : Oper) d, ops[i]? = some o → o.dst = some d → d < k
  back : ∀ (i : Nat) (o : Oper) (e : Edge), ops[i]? = some o → e ∈ o.after → Region.binds .any e = true → e.on < i
  deps : ∀ (i : Nat) (o : Oper) (j d : Nat), ops[i]? = some o → (ops[j]?).bind (·.dst) = some d → d ∈ o.looksAt ops → edgeB ops i j = true ∨ (i < j ∧ reach ops 3 j i = true)
  dis : ∀ (i j d : Nat), (ops[i]?).bind (·.dst) = some d → (ops[j]?).bind (·.dst) = some d → j = i
  low : ∀ (i : Nat) (e : Did) (r : Nat), E[i]? = some e → r ∈ e.T → r < n0 + i
  confl : ∀ (i j : Nat) (x y : Did), j < i → E[i]? = some x → E[j]? = some y → (∃ p, x.wr = some p ∧ p.1 ∈ y.T) ∨ (∃ p, y.wr = some p ∧ p.1 ∈ x.T) → reach ops 3 i j = true
theorem anyB_spec {k n0 : Nat} {E : List Did} (h : anyB ops k n0 (E.map Did.key) = true) : AnyOk ops k n0 E := by
  unfold anyB at h
  simp only [Bool.and_eq_true, beq_iff_eq, List.length_map] at h
  obtain ⟨⟨h1, h2⟩, h3⟩ := h
  have lt : ∀ {i : Nat} {o : Oper}, ops[i]? = some o → i < ops.size := fun h => (Array.getElem?_eq_some_iff.1 h).1
  have g2 : ∀ i o, ops[i]? = some o → ((∀ d, o.dst = some d → d < k) ∧ ∀ e ∈ o.after, Region.binds .any e = true → e.on < i) ∧ ∀ j d, (ops[j]?).bind (·.dst) = some d → (d ∈ o.looksAt ops → edgeB ops i j = true ∨ (i < j ∧ reach ops 3 j i = true)) ∧ (j = i ∨ o.dst ≠ some d) := fun i o ho => by
    have := List.all_eq_true.1 h2 i (List.mem_range.2 (lt ho))
    rw [ho] at this
    simp only [Bool.and_eq_true] at this
    obtain ⟨⟨t1, t2⟩, t3⟩ := this
    refine ⟨⟨fun d hd => ?_, fun e he hb => ?_⟩, fun j d hj => ?_⟩
    · rw [hd] at t1
      simpa using t1
    · have := Array.all_eq_true_iff_forall_mem.1 t2 e he
      simpa [hb] using this
    · have hjl : j < ops.size := by
        cases hoj : ops[j]? with
        | none => rw [hoj] at hj; cases hj
        | some oj => exact lt hoj
      have := List.all_eq_true.1 t3 j (List.mem_range.2 hjl)
      rw [hj] at this
      simp only [Bool.and_eq_true, Bool.or_eq_true, Bool.not_eq_true', List.contains_eq_mem, decide_eq_false_iff_not, beq_iff_eq, bne_iff_ne, decide_eq_true_eq] at this
      exact ⟨fun hd => this.1.elim (fun h => h.elim (fun hn => absurd hd hn) .inl) .inr, this.2⟩
  have g3 : ∀ i e, E[i]? = some e → (∀ r ∈ e.T, r < n0 + i) ∧ ∀ j y, j < i → E[j]? = some y → confl e.key y.key = true → reach ops 3 i j = true := fun i e he => by
    have hil : i < ops.size := by rw [← h1]; exact (List.getElem?_eq_some_iff.1 he).1
    have := List.all_eq_true.1 h3 i (List.mem_range.2 hil)
    rw [List.getElem?_map, he] at this
    simp only [Option.map_some, Bool.and_eq_true] at this
    refine ⟨fun r hr => by simpa using List.all_eq_true.1 this.1 r hr, fun j y hj hy hc => ?_⟩
    have t2 := List.all_eq_true.1 this.2 j (List.mem_range.2 hj)
    rw [List.getElem?_map, hy] at t2
    simp only [Option.map_some, Bool.or_eq_true, Bool.not_eq_true'] at t2
    rcases t2 with t2 | t2
    · rw [hc] at t2; cases t2
    · exact t2
  refine ⟨h1, fun i o d ho => (g2 i o ho).1.1 d, fun i o e ho => (g2 i o ho).1.2 e, fun i o j d ho hj => ((g2 i o ho).2 j d hj).1, fun i j d hdi hdj => ?_, fun i e r he => (g3 i e he).1 r, fun i j x y hj hx hy hc => (g3 i x hx).2 j y hj hy ?_⟩
  · cases hoi : ops[i]? with
    | none => rw [hoi] at hdi; cases hdi
    | some o =>
      rw [hoi] at hdi
      exact ((g2 i o hoi).2 j d hdj).2.resolve_right fun hn => hn hdi
  · unfold confl Did.key
    rcases hc with ⟨p, e1, e2⟩ | ⟨p, e1, e2⟩
    · simp [e1, e2]
    · simp [e1, e2]
/-- what is done is closed -/
structure Shut (ops : Array Oper) (p : Nat → Prop) : Prop where
  edge : ∀ i j, p i → edgeB ops i j = true → p j
theorem reach_shut {p : Nat → Prop} (hs : Shut ops p) : ∀ (k i j : Nat), (∀ m, edgeB ops i m = true → p m) → reach ops k i j = true → p j
  | 0, i, j, hi, h => hi j h
  | k + 1, i, j, hi, h => by
    unfold reach at h
    rw [Bool.or_eq_true] at h
    rcases h with h | h
    · exact hi j h
    · obtain ⟨m, _, hm⟩ := List.any_eq_true.1 h
      rw [Bool.and_eq_true] at hm
      exact reach_shut hs k m j (fun m' h' => hs.edge m m' (hi m hm.1) h') hm.2
/-- the frame, when some are done -/
structure FrP (ops : Array Oper) (f : AF) (E : List Did) (p : Nat → Prop) (fS : AF) : Prop where
  len : fS.t.n = f.t.n
  marks : fS.marks = f.marks
  rnd : fS.rnd = f.rnd
  old : ∀ k, (∀ i, p i → (ops[i]?).bind (·.dst) ≠ some k) → fS.t.get k = f.t.get k
  got : ∀ i d e, p i → (ops[i]?).bind (·.dst) = some d → E[i]? = some e → fS.t.get d = some e.y
/-- the memory, when some are done -/
structure BlP (h : AH) (E : List Did) (p : Nat → Prop) (B : Nat → Option Blk) : Prop where
  nobody : ∀ r, (∀ j e c, p j → E[j]? = some e → e.wr ≠ some (r, c)) → B r = h.get r
  last : ∀ r j e c, p j → E[j]? = some e → e.wr = some (r, c) → (∀ k e' c', p k → j < k → E[k]? = some e' → e'.wr ≠ some (r, c')) → B r = some (.cells c)
theorem top_one (Q : Nat → Prop) : ∀ n, (∃ j, j < n ∧ Q j) → ∃ j, j < n ∧ Q j ∧ ∀ k, j < k → k < n → ¬ Q k
  | 0, ⟨j, h, _⟩ => by omega
  | n + 1, ⟨j, h, hq⟩ => by
    by_cases hn : Q n
    · exact ⟨n, by omega, hn, fun k h1 h2 => by omega⟩
    · have hj : j < n := by
        rcases Nat.lt_or_ge j n with h' | h'
        · exact h'
        · have : j = n := by omega
          subst this; exact absurd hq hn
      obtain ⟨m, m1, m2, m3⟩ := top_one Q n ⟨j, hj, hq⟩
      exact ⟨m, by omega, m2, fun k h1 h2 => by
        by_cases e : k = n
        · subst e; exact hn
        · exact m3 k h1 (by omega)⟩
/-- two that have the same writers of a block have the same there -/
theorem BlP.same {h : AH} {E : List Did} {p p' : Nat → Prop} {B B' : Nat → Option Blk} (h1 : BlP h E p B) (h2 : BlP h E p' B') {r : Nat} (hs : ∀ j e c, E[j]? = some e → e.wr = some (r, c) → (p j ↔ p' j)) : B r = B' r := by
  by_cases hx : ∃ j, j < E.length ∧ (p j ∧ ∃ e c, E[j]? = some e ∧ e.wr = some (r, c))
  · obtain ⟨j, j1, ⟨j2, e, c, j3, j4⟩, j5⟩ := top_one _ _ hx
    have hno : ∀ k e' c', p k → j < k → E[k]? = some e' → e'.wr ≠ some (r, c') := fun k e' c' k1 k2 k3 k4 => j5 k k2 (List.getElem?_eq_some_iff.1 k3).1 ⟨k1, e', c', k3, k4⟩
    rw [h1.last r j e c j2 j3 j4 hno, h2.last r j e c ((hs j e c j3 j4).1 j2) j3 j4 fun k e' c' k1 k2 k3 k4 => hno k e' c' ((hs k e' c' k3 k4).2 k1) k2 k3 k4]
  · have hno : ∀ j e c, p j → E[j]? = some e → e.wr ≠ some (r, c) := fun j e c k1 k2 k3 => hx ⟨j, (List.getElem?_eq_some_iff.1 k2).1, k1, e, c, k2, k3⟩
    rw [h1.nobody r hno, h2.nobody r fun j e c k1 k2 k3 => hno j e c ((hs j e c k2 k3).2 k1) k2 k3]
theorem FrP.step {k : Nat} {E : List Did} {p : Nat → Prop} {fS : AF} {e : Did} (hd : AnyOk ops k n0 E) (hk : k = f.t.n) (h1 : FrP ops f E p fS) (hi : E[i]? = some e) : FrP ops f E (fun j => j = i ∨ p j) (fS.put ((ops[i]?).bind (·.dst)) e.y) := by
  have hlen : (fS.put ((ops[i]?).bind (·.dst)) e.y).t.n = f.t.n := by
    cases (ops[i]?).bind (·.dst) with
    | none => exact h1.len
    | some d => exact h1.len
  refine ⟨hlen, ?_, (put_rnd ..).trans h1.rnd, fun j hj => ?_, fun j d z j2 j3 j4 => ?_⟩
  · cases (ops[i]?).bind (·.dst) with
    | none => exact h1.marks
    | some d => exact h1.marks
  · have hold : fS.t.get j = f.t.get j := h1.old j fun l l2 => hj l (.inr l2)
    have hne := hj i (.inl rfl)
    cases hdst : (ops[i]?).bind (·.dst) with
    | none => exact hold
    | some d =>
      have : d ≠ j := fun e => hne (by rw [hdst, e])
      simp only [AF.put, Slots.get_set, this, if_false]
      exact hold
  · by_cases e' : j = i
    · subst e'
      rw [j4] at hi
      injection hi with hi
      subst hi
      rw [j3]
      obtain ⟨o, ho⟩ : ∃ o, ops[j]? = some o := by
        cases ho : ops[j]? with
        | none => rw [ho] at j3; cases j3
        | some o => exact ⟨o, rfl⟩
      rw [ho] at j3
      have hdl := hd.dst j o d ho j3
      simp only [AF.put, Slots.get_set, if_true]
      have hlt : d < fS.t.n := by rw [h1.len, ← hk]; exact hdl
      rw [if_pos hlt]
    · have hold := h1.got j d z (j2.resolve_left e') j3 j4
      cases hdst : (ops[i]?).bind (·.dst) with
      | none => exact hold
      | some d' =>
        have : d' ≠ d := by
          rintro rfl
          exact e' (hd.dis i j d' hdst j3)
        simp only [AF.put, Slots.get_set, this, if_false]
        exact hold
/-- one more -/
theorem BlP.step {E : List Did} {p : Nat → Prop} {B B' : Nat → Option Blk} {e : Did} (h1 : BlP h E p B) (hi : E[i]? = some e) (hp : ¬ p i) (hno : ∀ r c, e.wr = some (r, c) → ∀ k e' c', p k → i < k → E[k]? = some e' → e'.wr ≠ some (r, c'))
    (hB : ∀ r, B' r = match e.wr with | none => B r | some (s, c) => if r = s then some (.cells c) else B r) : BlP h E (fun j => j = i ∨ p j) B' := by
  refine ⟨fun r hr => ?_, fun r j e' c j1 j2 j3 j4 => ?_⟩
  · have hold := h1.nobody r fun j e c k1 => hr j e c (.inr k1)
    rw [hB r]
    cases hw : e.wr with
    | none => exact hold
    | some x =>
      obtain ⟨s, c⟩ := x
      have : r ≠ s := by
        rintro rfl
        exact hr i e c (.inl rfl) hi hw
      simp only [this, if_false]; exact hold
  · rw [hB r]
    by_cases ej : j = i
    · subst ej
      rw [hi] at j2
      injection j2 with j2
      subst j2
      rw [j3]
      simp
    · have hpj := j1.resolve_left ej
      have hold := h1.last r j e' c hpj j2 j3 fun k e2 c2 k1 => j4 k e2 c2 (.inr k1)
      cases hw : e.wr with
      | none => exact hold
      | some x =>
        obtain ⟨s, c2⟩ := x
        by_cases ers : r = s
        · subst ers
          exfalso
          rcases Nat.lt_or_ge j i with hlt | hge
          · exact j4 i e c2 (.inl rfl) hlt hi hw
          · exact hno r c2 hw j e' c hpj (by omega) j2 j3
        · simp only [ers, if_false]; exact hold
theorem frP_congr {E : List Did} {p p' : Nat → Prop} {fS : AF} (h : FrP ops f E p fS) (hp : ∀ j, p j ↔ p' j) : FrP ops f E p' fS := by
  have : p = p' := funext fun j => propext (hp j)
  rw [← this]; exact h
theorem blP_congr {E : List Did} {p p' : Nat → Prop} {B : Nat → Option Blk} (h1 : BlP h E p B) (hp : ∀ j, p j ↔ p' j) : BlP h E p' B := by
  have : p = p' := funext fun j => propext (hp j)
  rw [← this]; exact h1
theorem find_snoc (l : List (Nat × Blk)) (r s : Nat) (b : Blk) : AH.find (l ++ [(r, b)]) s = match AH.find l s with | some o => some o | none => if s = r then some b else none := by
  rw [find_append]
  rfl
theorem trail_own : ∀ (E : List Did) (i : Nat) (f : AF) (h : AH) (fN : AF) (hN : AH), Trail P ops n0 i E f h fN hN → ∀ j e r c, E[j]? = some e → e.wr = some (r, c) → (e.new = true ∧ r = n0 + (i + j)) ∨ (e.new = false ∧ r ∈ e.T)
  | [], i, f, h, fN, hN, ht, j, e, r, c, he, hw => by simp at he
  | e0 :: E, i, f, h, fN, hN, ht, j, e, r, c, he, hw => by
    obtain ⟨⟨o, ho, hfit, _⟩, t2⟩ := ht
    cases j with
    | zero =>
      simp at he
      subst he
      unfold Did.fits at hfit
      rw [hw] at hfit
      simp only at hfit
      by_cases hn : e0.new = true
      · rw [if_pos hn] at hfit
        exact .inl ⟨hn, hfit⟩
      · rw [if_neg hn] at hfit
        exact .inr ⟨by simpa using hn, hfit.1⟩
    | succ j =>
      have := trail_own E (i + 1) _ _ fN hN t2 j e r c (by simpa using he) hw
      rw [show i + 1 + j = i + (j + 1) by omega] at this
      exact this
/-- the walk's own states -/
theorem trail_at {k : Nat} {E0 : List Did} (hd : AnyOk ops k n0 E0) (hk : k = f.t.n) (hl : ∀ r o, h.get r = some o → r < n0) (hown : ∀ j e r c, E0[j]? = some e → e.wr = some (r, c) → r ≤ n0 + j) : ∀ (E : List Did) (i : Nat) (fi : AF) (hi : AH) (fN : AF) (hN : AH), Trail P ops n0 i E fi hi fN hN → E0.drop i = E → FrP ops f E0 (· < i) fi → BlP h E0 (· < i) hi.get →
    (∀ j e, E[j]? = some e → ∃ fj hj, DidOk P ops n0 (i + j) fj hj e ∧ FrP ops f E0 (· < i + j) fj ∧ BlP h E0 (· < i + j) hj.get) ∧ FrP ops f E0 (· < i + E.length) fN ∧ BlP h E0 (· < i + E.length) hN.get ∧ hN.next = hi.next ∧ hN.hid = hi.hid
  | [], i, fi, hi, fN, hN, ht, hE, h1, h2 => by
    obtain ⟨rfl, rfl⟩ := ht
    exact ⟨fun j e he => by simp at he, h1, h2, rfl, rfl⟩
  | e :: E, i, fi, hi, fN, hN, ht, hE, h1, h2 => by
    obtain ⟨t1, t2⟩ := ht
    have hEi : E0[i]? = some e := by
      have : (E0.drop i)[0]? = some e := by rw [hE]; rfl
      rw [List.getElem?_drop] at this
      simpa using this
    have hE' : E0.drop (i + 1) = E := by
      have : (E0.drop i).drop 1 = E := by rw [hE]; rfl
      rwa [List.drop_drop] at this
    have s1 : FrP ops f E0 (· < i + 1) (fi.put ((ops[i]?).bind (·.dst)) e.y) := frP_congr (h1.step hd hk hEi) fun j => by omega
    obtain ⟨o, ho, hfit, _⟩ := t1
    have hnew : hi.get (n0 + i) = none := by
      have := h2.nobody (n0 + i) fun j e' c hj hej hw => by
        have := hown j e' _ _ hej hw
        omega
      rw [this]
      cases hx : h.get (n0 + i) with
      | none => rfl
      | some b => have := hl _ _ hx; omega
    have s2 : BlP h E0 (· < i + 1) (e.on hi).get := blP_congr (h2.step (B' := (e.on hi).get) hEi (by omega) (fun r c hw k e' c' k1 k2 => by omega) fun r => by
      unfold Did.on
      unfold Did.fits at hfit
      cases hw : e.wr with
      | none => rfl
      | some x =>
        obtain ⟨s, c⟩ := x
        rw [hw] at hfit
        simp only at hfit ⊢
        by_cases hn : e.new = true
        · simp only [hn, if_true] at hfit ⊢
          subst hfit
          show AH.find (hi.blk ++ [(n0 + i, .cells c)]) r = _
          rw [find_snoc]
          by_cases er : r = n0 + i
          · subst er
            have : AH.find hi.blk (n0 + i) = none := hnew
            rw [this]; simp
          · simp only [er, if_false]
            show _ = AH.find hi.blk r
            cases AH.find hi.blk r <;> rfl
        · simp only [hn, if_false, Bool.false_eq_true] at hfit ⊢
          exact AH.find_sub _ _ _ _) fun j => by omega
    obtain ⟨r1, r2, r3, r4, r5⟩ := trail_at hd hk hl hown E (i + 1) _ _ fN hN t2 hE' s1 s2
    refine ⟨fun j e' he' => ?_, frP_congr r2 fun j => by simp only [List.length_cons]; omega, blP_congr r3 fun j => by simp only [List.length_cons]; omega, r4.trans ?_, r5.trans ?_⟩
    · cases j with
      | zero =>
        simp at he'
        subst he'
        exact ⟨fi, hi, ⟨o, ho, hfit, ‹_›⟩, h1, h2⟩
      | succ j =>
        obtain ⟨fj, hj, u1, u2, u3⟩ := r1 j e' (by simpa using he')
        rw [show i + 1 + j = i + (j + 1) by omega] at u1 u2 u3
        exact ⟨fj, hj, u1, u2, u3⟩
    · unfold Did.on; cases e.wr with
      | none => rfl
      | some x => simp only; split <;> rfl
    · unfold Did.on; cases e.wr with
      | none => rfl
      | some x => simp only; split <;> rfl
theorem ready_back {listed : Array Bool} (hb : ∀ (i : Nat) (o : Oper) (e : Edge), ops[i]? = some o → e ∈ o.after → Region.binds .any e = true → e.on < i) (hs : listed.size = ops.size) {j : Nat} : j ∈ Region.ready .any ops listed ↔ listed.getD j true = false ∧ j < ops.size ∧ ∀ i, edgeB ops j i = true → listed.getD i true = true := by
  rw [mem_ready]
  constructor
  · rintro ⟨h1, o, h2, h3⟩
    refine ⟨h1, (Array.getElem?_eq_some_iff.1 h2).1, fun i hi => ?_⟩
    obtain ⟨o', e1, e, e2, e3, rfl⟩ := edgeB_iff.1 hi
    rw [h2] at e1
    injection e1 with e1
    subst e1
    have hlt := hb j o e h2 e2 e3
    have hj : j < ops.size := (Array.getElem?_eq_some_iff.1 h2).1
    rw [← getD_same (by omega)]
    exact h3 e e2 e3
  · rintro ⟨h1, h2, h3⟩
    refine ⟨h1, ops[j], by simp [h2], fun e he hbe => ?_⟩
    have hlt := hb j ops[j] e (by simp [h2]) he hbe
    rw [getD_same (by omega)]
    exact h3 e.on (edgeB_iff.2 ⟨ops[j], by simp [h2], e, he, hbe, rfl⟩)
/-- every order -/
theorem any_walk {F : Fence} {nn k : Nat} {E : List Did} {Q1 : Exit → Act → World → Prop} {V0 : Mem} {w0 : World} (hF : FOk F) (hd : AnyOk ops k n0 E) (hk : k = f.t.n) (hn0 : h.next = n0)
    (hst : ∀ j e, E[j]? = some e → ∃ fj hj, DidOk P ops n0 j fj hj e ∧ FrP ops f E (· < j) fj ∧ BlP h E (· < j) hj.get) (hown : ∀ j e r c, E[j]? = some e → e.wr = some (r, c) → (e.new = true ∧ r = n0 + j) ∨ (e.new = false ∧ r ∈ e.T))
    (hQ : ∀ (V : Mem) (fS : AF) (a : Act) (w : World), (∀ r, V.born r → r < n0 ∧ r ∉ h.hid ∨ ∃ j, j < ops.size ∧ r = n0 + j) → BlP h E (· < ops.size) V.blk → FrP ops f E (· < ops.size) fS → V.res = res → To V0 w0 V w → FrDen V w fS a → Q1 .normal a w) :
    ∀ (fuel : Nat) (listed : Array Bool) (V : Mem) (fS : AF) (a : Act) (w : World), listed.size = ops.size → (List.range ops.size).countP (fun i => !listed.getD i true) = fuel → Shut ops (fun j => j < ops.size ∧ listed.getD j true = true) →
      (∀ r, V.born r ↔ (r < n0 ∧ r ∉ h.hid) ∨ ∃ j e, (j < ops.size ∧ listed.getD j true = true) ∧ E[j]? = some e ∧ e.new = true ∧ r = n0 + j) → BlP h E (fun j => j < ops.size ∧ listed.getD j true = true) V.blk → FrP ops f E (fun j => j < ops.size ∧ listed.getD j true = true) fS → V.res = res →
      To V0 w0 V w → FrDen V w fS a → wpAnyIn F nn P .any ops Q1 fuel listed a w := by
  intro fuel
  induction fuel with
  | zero =>
    intro listed V fS a w hs hc hsh hbo hbl hfr hre ht hf
    have hall : ∀ i, i < ops.size → listed.getD i true = true := fun i hi => by
      have := List.countP_eq_zero.1 hc i (List.mem_range.2 hi)
      simpa using this
    have hp : ∀ j, (j < ops.size ∧ listed.getD j true = true) ↔ j < ops.size := fun j => ⟨fun x => x.1, fun x => ⟨x, hall j x⟩⟩
    refine ⟨List.eq_nil_iff_forall_not_mem.2 fun x hx => ?_, hQ V fS a w (fun r hr => ?_) (blP_congr hbl hp) (frP_congr hfr hp) hre ht hf⟩
    · obtain ⟨r1, r2, r3⟩ := (ready_back hd.back hs).1 hx
      rw [hall x r2] at r1; cases r1
    · rcases (hbo r).1 hr with h1 | ⟨j, e, h1, _, _, h2⟩
      · exact .inl h1
      · exact .inr ⟨j, h1.1, h2⟩
  | succ fuel ih =>
    intro listed V fS a w hs hc hsh hbo hbl hfr hre ht hf
    refine ⟨fun e0 => ?_, fun i hi => ?_⟩
    · exfalso
      have hex : ∃ j, j < ops.size ∧ listed.getD j true = false := by
        have hpos : 0 < (List.range ops.size).countP (fun i => !listed.getD i true) := by omega
        obtain ⟨j, j1, j2⟩ := List.countP_pos_iff.1 hpos
        exact ⟨j, List.mem_range.1 j1, by simpa using j2⟩
      obtain ⟨m, ⟨m1, m2⟩, m3⟩ := least _ hex
      have : m ∈ Region.ready .any ops listed := (ready_back hd.back hs).2 ⟨m2, m1, fun j hj => by
        obtain ⟨o', e1, e, e2, e3, e4⟩ := edgeB_iff.1 hj
        have hlt := hd.back m o' e e1 e2 e3
        cases hx : listed.getD j true with
        | true => rfl
        | false => have := m3 j ⟨by omega, hx⟩; omega⟩
      rw [e0] at this
      cases this
    · obtain ⟨r1, r2, r3⟩ := (ready_back hd.back hs).1 hi
      have hil : i < listed.size := by rw [hs]; exact r2
      obtain ⟨e, he⟩ : ∃ e, E[i]? = some e := ⟨E[i]'(by rw [hd.len]; exact r2), List.getElem?_eq_getElem (by rw [hd.len]; exact r2)⟩
      obtain ⟨fi, hi', ⟨o, ho, hfit, hrun⟩, hfri, hbli⟩ := hst i e he
      have hnp : ¬ (i < ops.size ∧ listed.getD i true = true) := fun x => by rw [r1] at x; exact absurd x.2 (by simp)
      have hedge : ∀ m, edgeB ops i m = true → m < ops.size ∧ listed.getD m true = true := fun m hm => by
        obtain ⟨o', e1, e2, e3, e4, e5⟩ := edgeB_iff.1 hm
        have hlt := hd.back i o' e2 e1 e3 e4
        exact ⟨by omega, r3 m hm⟩
      -- what is looked at in memory lies as in the walk
      have hsame : ∀ r ∈ e.T, V.blk r = hi'.get r := fun r hr => hbl.same hbli fun j e' c hj hw => by
        have hjl : j < ops.size := by rw [← hd.len]; exact (List.getElem?_eq_some_iff.1 hj).1
        rcases Nat.lt_trichotomy j i with hlt | heq | hgt
        · exact ⟨fun _ => hlt, fun _ => reach_shut hsh 3 i j hedge (hd.confl i j e e' hlt he hj (.inr ⟨_, hw, hr⟩))⟩
        · subst heq
          exact ⟨fun x => absurd x hnp, fun x => by omega⟩
        · refine ⟨fun x => ?_, fun x => by omega⟩
          exact absurd (reach_shut hsh 3 j i (fun m hm => hsh.edge j m x hm) (hd.confl j i e' e hgt hj he (.inl ⟨_, hw, hr⟩))) hnp
      have slot : ∀ d ∈ o.looksAt ops, fS.t.get d = fi.t.get d := fun d hdl => by
        by_cases hj : ∃ j : Nat, (ops[j]?).bind (fun x => x.dst) = some d
        · obtain ⟨j, hj⟩ := hj
          rcases hd.deps i o j d ho hj hdl with hej | ⟨hij, hji⟩
          rotate_left
          · have only : ∀ j', (ops[j']?).bind (fun x => x.dst) = some d → j' = j := fun j' hj' => hd.dis j j' d hj hj'
            rw [hfr.old d fun j' hp' hj' => by
              have := only j' hj'
              subst this
              exact hnp (reach_shut hsh 3 j' i (fun m hm => hsh.edge j' m hp' hm) hji), hfri.old d fun j' hp' hj' => by
              have := only j' hj'
              omega]
          have hjl := hedge j hej
          obtain ⟨o', e1, e2, e3, e4, e5⟩ := edgeB_iff.1 hej
          have hji := hd.back i o' e2 e1 e3 e4
          obtain ⟨ej, hEj⟩ : ∃ x, E[j]? = some x := ⟨E[j]'(by rw [hd.len]; exact hjl.1), List.getElem?_eq_getElem (by rw [hd.len]; exact hjl.1)⟩
          rw [hfr.got j d _ hjl hj hEj, hfri.got j d _ (by omega) hj hEj]
        · rw [hfr.old d fun j _ hj' => hj ⟨j, hj'⟩, hfri.old d fun j _ hj' => hj ⟨j, hj'⟩]
      have hops : ∀ x ∈ o.op.operands.toList, fS.ev x = fi.ev x := fun x hx => by
        cases x with
        | tmp t => exact slot t (List.mem_append_left _ (List.mem_filterMap.2 ⟨.tmp t, hx, rfl⟩))
        | const v => rfl
        | global g => rfl
        | func F => rfl
      have hgd : guardA ops fS o = guardA ops fi o := by
        unfold guardA
        cases hg : o.guard with
        | none => rfl
        | some p =>
          obtain ⟨j, want⟩ := p
          simp only
          cases hdj : (ops[j]?).bind (·.dst) with
          | none => rfl
          | some d =>
            simp only
            rw [slot d (List.mem_append_right _ (by rw [hg]; simp [hdj]))]
      have hunb : ¬ V.born (n0 + i) := fun hb => by
        rcases (hbo _).1 hb with ⟨h1, _⟩ | ⟨j, e', h1, _, _, h2⟩
        · omega
        · have : j = i := by omega
          subst this
          exact hnp h1
      have hp' : ∀ j, (j < ops.size ∧ (listed.setIfInBounds i true).getD j true = true) ↔ (j = i ∨ (j < ops.size ∧ listed.getD j true = true)) := fun j => by
        rw [set_getD hil]
        by_cases ej : j = i
        · subst ej; simp [r2]
        · simp [ej]
      have hc' : (List.range ops.size).countP (fun j => !(listed.setIfInBounds i true).getD j true) = fuel := by
        have := count_set (n := ops.size) (i := i) (fun j => !listed.getD j true) (fun j => !(listed.setIfInBounds i true).getD j true) r2 (by simp [r1]) (by rw [set_getD hil, if_pos rfl]; rfl) (fun j hj => by rw [set_getD hil, if_neg hj])
        omega
      have hsh' : Shut ops (fun j => j < ops.size ∧ (listed.setIfInBounds i true).getD j true = true) := ⟨fun x j hx hj => by
        rw [hp'] at hx ⊢
        rcases hx with rfl | hx
        · exact .inr (hedge j hj)
        · exact .inr (hsh.edge x j hx hj)⟩
      have hput : (ops[i]?).bind (·.dst) = o.dst := by rw [ho]; rfl
      refine hrun F nn V w fS a _ Q1 hF ht.rel (fun r hr b _ hb => by rw [hsame r hr]; exact hb) hf hops hgd hunb fun v V' w' hm t1 d1 => ?_
      refine ih _ V' (fS.put o.dst e.y) _ w' (by simpa using hs) hc' hsh' (fun r => ?_) (blP_congr (BlP.step (B' := V'.blk) hbl he hnp (fun r c hw k' e' c' k1 k2 k3 k4 => ?_) (fun r => ?_)) fun j => (hp' j).symm) (frP_congr (by rw [← hput]; exact hfr.step hd hk he) fun j => (hp' j).symm) ?_ (ht.trans t1) ((hf.fwd t1.fwd).put d1)
      · have key : V'.born r ↔ V.born r ∨ (e.new = true ∧ r = n0 + i) := by
          unfold Did.mem at hm
          cases hw : e.wr with
          | none =>
            rw [hw] at hm
            simp only at hm
            subst hm
            have : e.new = false := by unfold Did.fits at hfit; rw [hw] at hfit; exact hfit
            simp [this]
          | some x =>
            obtain ⟨s, c⟩ := x
            rw [hw] at hm
            obtain ⟨p, n, rfl⟩ := hm
            rcases hown i e s c he hw with ⟨h1, h2⟩ | ⟨h1, h2⟩
            · simp [Mem.upd, h1, h2]
            · have hb : V.born s := by
                have hsome : (hi'.get s).isSome = true := by
                  unfold Did.fits at hfit
                  rw [hw] at hfit
                  simp only [h1, Bool.false_eq_true, if_false] at hfit
                  exact hfit.2
                rw [← hsame s h2] at hsome
                obtain ⟨b, hb⟩ := Option.isSome_iff_exists.1 hsome
                exact (ht.rel.live s b hb).1
              simp only [Mem.upd, h1, Bool.false_eq_true, false_and, or_false]
              exact ⟨fun x => x.elim id fun x => x ▸ hb, .inl⟩
        rw [key, hbo r]
        constructor
        · rintro ((h1 | ⟨j, e', h1, h2, h3, h4⟩) | ⟨h1, h2⟩)
          · exact .inl h1
          · exact .inr ⟨j, e', (hp' j).2 (.inr h1), h2, h3, h4⟩
          · exact .inr ⟨i, e, (hp' i).2 (.inl rfl), he, h1, h2⟩
        · rintro (h1 | ⟨j, e', h1, h2, h3, h4⟩)
          · exact .inl (.inl h1)
          · rcases (hp' j).1 h1 with rfl | h1
            · rw [he] at h2
              injection h2 with h2
              subst h2
              exact .inr ⟨h3, h4⟩
            · exact .inl (.inr ⟨j, e', h1, h2, h3, h4⟩)
      · -- nobody behind i wrote it already
        have hno : e.wr = some (r, c) → r ∈ e'.T → False := fun _ hr => by
          exact hnp (reach_shut hsh 3 k' i (fun m hm => hsh.edge k' m k1 hm) (hd.confl k' i e' e k2 k3 he (.inr ⟨_, hw, hr⟩)))
        rcases hown k' e' r c' k3 k4 with ⟨h1, h2⟩ | ⟨h1, h2⟩
        · rcases hown i e r c he hw with ⟨h3, h4⟩ | ⟨h3, h4⟩
          · omega
          · have := hd.low i e r he h4
            omega
        · exact hno hw h2
      · unfold Did.mem at hm
        cases hw : e.wr with
        | none => rw [hw] at hm; simp only at hm; rw [hm]
        | some x =>
          obtain ⟨s, c⟩ := x
          rw [hw] at hm
          obtain ⟨p, n, rfl⟩ := hm
          rfl
      · unfold Did.mem at hm
        cases hw : e.wr with
        | none => rw [hw] at hm; simp only at hm; rw [hm]; exact hre
        | some x =>
          obtain ⟨s, c⟩ := x
          rw [hw] at hm
          obtain ⟨p, n, rfl⟩ := hm
          exact hre
/-- the rest of the walk -/
def GoesA (P : Program) (ops : Array Oper) (n0 : Nat) (l : List Oper) (f : AF) (h : AH) (K : List (List Nat × Option (Nat × Bool))) (Q : Ex → AF → AH → Prop) : Prop :=
  ∀ i, ops.toList.drop i = l → K.length = i → ∃ E fN hN, Trail P ops n0 i E f h fN hN ∧ E.length = l.length ∧ anyB ops f.t.n n0 (K ++ E.map Did.key) = true ∧ Q .normal fN hN
theorem goes_any {id : Nat} {Q : Ex → AF → AH → Prop} (hm : P.follows .mixedOrders = true) (hc : GoesA P ops h.next ops.toList f { next := h.next + ops.size, hid := h.hid.filter (· < h.next), blk := h.blk } [] Q) : Goes P (.region id ops true) f h Q := by
  obtain ⟨E, fN, hN, t1, t2, t3, t4⟩ := hc 0 rfl rfl
  rw [List.nil_append] at t3
  have hd := anyB_spec t3
  refine ⟨_, _, _, .knownc (e := .normal) ?_, t4⟩
  have fr0 : FrP ops f E (· < 0) f := ⟨rfl, rfl, rfl, fun _ _ => rfl, fun i d e hp => by omega⟩
  have bl0 : BlP h E (· < 0) (AH.get { next := h.next + ops.size, hid := h.hid.filter (· < h.next), blk := h.blk }) := ⟨fun r _ => rfl, fun r j e c hp => by omega⟩
  have hown : ∀ j e r c, E[j]? = some e → e.wr = some (r, c) → (e.new = true ∧ r = h.next + j) ∨ (e.new = false ∧ r ∈ e.T) := fun j e r c he hw => by
    have := trail_own E 0 _ _ _ _ t1 j e r c he hw
    rwa [Nat.zero_add] at this
  have hown2 : ∀ j e r c, E[j]? = some e → e.wr = some (r, c) → r ≤ h.next + j := fun j e r c he hw => by
    rcases hown j e r c he hw with ⟨_, h2⟩ | ⟨_, h2⟩
    · omega
    · have := hd.low j e r he h2; omega
  have hrnd : fN.rnd = f.rnd := by
    have key : ∀ (E : List Did) (i : Nat) (f : AF) (h0 : AH), Trail P ops h.next i E f h0 fN hN → fN.rnd = f.rnd := by
      intro E
      induction E with
      | nil => intro i f h t; rw [t.1]
      | cons e E ih => intro i f h t; exact (ih _ _ _ t.2).trans (put_rnd ..)
    exact key E 0 f _ t1
  refine ⟨hrnd, fun F nn res g q a w hF hR hV hf => wpIn_region_any hm ?_⟩
  have live : ∀ r o, h.get r = some o → r < h.next ∧ r ∉ h.hid := fun r o ho => (hV.live r o ho).1
  obtain ⟨s1, s2, s3, s4, s5⟩ := trail_at hd rfl (fun r o ho => (live r o ho).1) hown2 E 0 f _ fN hN t1 rfl fr0 bl0
  have t0 : To (h.mem res g q) w (h.mem res g q) { w with drawn := w.drawn + 1 } := to_same hV rfl rfl rfl (Nat.le_refl _) fun _ _ => rfl
  have hN0 : ∀ i, ¬ (i < ops.size ∧ (Array.replicate ops.size false).getD i true = true) := fun i hi => by
    have := hi.2
    simp [hi.1] at this
  refine any_walk (res := res) (h := h) (E := E) (V0 := h.mem res g q) (w0 := w) hF hd rfl rfl (fun j e he => by have := s1 j e he; rwa [Nat.zero_add] at this) hown (fun V fS a' w' hbo hbl hfr hre ht hf' => ?_) ops.size _ (h.mem res g q) f a _ (by simp) ?_ ⟨fun i j hi => absurd hi (hN0 i)⟩ (fun r => ⟨fun hb => .inl hb, fun hb => hb.elim (fun x => x) fun ⟨j, _, h1, _⟩ => absurd h1 (hN0 j)⟩)
    ⟨fun r _ => rfl, fun r j e c hp => absurd hp (hN0 j)⟩ ⟨rfl, rfl, rfl, fun _ _ => rfl, fun i d e hp => absurd hp (hN0 i)⟩ rfl t0 (hf.fwd t0.fwd)
  · have hlen : 0 + E.length = ops.size := by rw [hd.len]; omega
    rw [hlen] at s2 s3
    have hblk : hN.get = V.blk := funext fun r => s3.same hbl fun j e c _ _ => Iff.rfl
    have hgiv : To V w' (hN.mem res V.pos V.room) w' := Mem.given ht.rel (fun r hr => by
      show r < hN.next ∧ r ∉ hN.hid
      rw [s4, s5]
      show r < h.next + ops.size ∧ r ∉ h.hid.filter (· < h.next)
      rcases hbo r hr with ⟨h1, h2⟩ | ⟨j, h1, h2⟩
      · exact ⟨by omega, fun hx => h2 (List.mem_filter.1 hx).1⟩
      · refine ⟨by omega, fun hx => ?_⟩
        have := (List.mem_filter.1 hx).2
        simp at this
        omega) hblk rfl rfl hre.symm
    refine ⟨V.pos, V.room, ht.trans hgiv, trivial, ?_⟩
    have hfw := hf'.fwd hgiv.fwd
    have hget : ∀ d, fN.t.get d = fS.t.get d := fun d => by
      by_cases hj : ∃ j, j < ops.size ∧ (ops[j]?).bind (fun x => x.dst) = some d
      · obtain ⟨j, j1, j2⟩ := hj
        obtain ⟨ej, hEj⟩ : ∃ x, E[j]? = some x := ⟨E[j]'(by rw [hd.len]; exact j1), List.getElem?_eq_getElem (by rw [hd.len]; exact j1)⟩
        rw [s2.got j d _ j1 j2 hEj, hfr.got j d _ j1 j2 hEj]
      · rw [s2.old d fun j j1 j2 => hj ⟨j, j1, j2⟩, hfr.old d fun j j1 j2 => hj ⟨j, j1, j2⟩]
    have hmk : fN.marks = fS.marks := s2.marks.trans hfr.marks.symm
    exact ⟨⟨by rw [hfw.tmps.1, hfr.len, s2.len], fun i b hb => hfw.tmps.2 i b (by rw [← hget]; exact hb)⟩, by rw [hmk]; exact hfw.defers, fun m hm' => hfw.marks m (by rw [← hmk]; exact hm'), by rw [hmk]; exact hfw.nodup, hfw.glob⟩
  · have : (fun i => !(Array.replicate ops.size false).getD i true) = fun i => decide (i < ops.size) := by
      funext i
      by_cases h : i < ops.size <;> simp [h]
    rw [this, List.countP_eq_length_filter, List.filter_eq_self.2 fun x hx => by simpa using List.mem_range.1 hx, List.length_range]
/-! ### Step by step -/
section
variable {l : List Oper} {o : Oper} {K : List (List Nat × Option (Nat × Bool))} {Q : Ex → AF → AH → Prop}
theorem goesA_end (hk : anyB ops f.t.n n0 K = true) (hq : Q .normal f h) : GoesA P ops n0 [] f h K Q := fun i _ _ => ⟨[], f, h, ⟨rfl, rfl⟩, rfl, by simpa using hk, hq⟩
theorem put_n (f : AF) (d : Option Nat) (y : AV) : (f.put d y).t.n = f.t.n := by cases d <;> rfl
theorem goesA_step {e : Did} (hs : ∀ i, ops[i]? = some o → K.length = i → DidOk P ops n0 i f h e) (hc : GoesA P ops n0 l (f.put o.dst e.y) (e.on h) (K ++ [e.key]) Q) : GoesA P ops n0 (o :: l) f h K Q := fun i hi hK => by
  obtain ⟨ho, hi'⟩ := drop_get hi
  obtain ⟨E, fN, hN, t1, t2, t3, t4⟩ := hc (i + 1) hi' (by simp [hK])
  refine ⟨e :: E, fN, hN, ⟨hs i ho hK, ?_⟩, by simp [t2], ?_, t4⟩
  · rw [ho]; exact t1
  · rw [put_n] at t3
    rw [List.map_cons]
    rw [List.append_assoc] at t3
    exact t3
theorem goesA_off (hg : guardA ops f o = some false) (hc : GoesA P ops n0 l (f.put o.dst (.raw undef)) h (K ++ [([], none)]) Q) : GoesA P ops n0 (o :: l) f h K Q :=
  goesA_step (e := ⟨.raw undef, [], none, false⟩) (fun i ho _ => did_head (T := []) (b := none) (head_off ho hg (pad_get ..) (pad_get ..))) hc
theorem goesA_q {y : AV} (T : List Nat) (hg : guardA ops f o = some true) (hq : qop P (h.only T) f o = some y) (hc : GoesA P ops n0 l (f.put o.dst y) h (K ++ [(T, none)]) Q) : GoesA P ops n0 (o :: l) f h K Q :=
  goesA_step (e := ⟨y, T, none, false⟩) (fun i ho _ => did_head (T := T) (b := none) (head_q ho hg hq (pad_get ..) (pad_get ..))) hc
/-- the blocks that the operands point to -/
def touched (f : AF) (o : Oper) : List Nat := o.op.operands.toList.flatMap fun x => match f.ev x with
  | some (.ptr r _ _) => [r]
  | some (.row r _ _ _) => [r]
  | _ => []
theorem goesA_t {y : AV} {T : List Nat} (ht : touched f o = T) (hg : guardA ops f o = some true) (hq : qop P (h.only T) f o = some y) (hc : GoesA P ops n0 l (f.put o.dst y) h (K ++ [(T, none)]) Q) : GoesA P ops n0 (o :: l) f h K Q := goesA_q T hg hq hc
theorem goesA_b {b : Bool} (hg : guardA ops f o = some true) (hq : qop P (h.only []) f o = some (.raw (.bool b))) (hc : ∀ c, b = c → GoesA P ops n0 l (f.put o.dst (.raw (.bool c))) h (K ++ [([], none)]) Q) : GoesA P ops n0 (o :: l) f h K Q := goesA_q [] hg hq (hc b rfl)
theorem goesA_s {y : AV} (T : List Nat) (hg : guardA ops f o = some true) (hq : QOk P (h.only T) f o y) (hc : GoesA P ops n0 l (f.put o.dst y) h (K ++ [(T, none)]) Q) : GoesA P ops n0 (o :: l) f h K Q :=
  goesA_step (e := ⟨y, T, none, false⟩) (fun i ho _ => did_head (T := T) (b := none) (head_s ho hg hq (pad_get ..) (pad_get ..))) hc
/-- memory made: its number is that of the operation -/
theorem goesA_n {y : Nat → AV} {c : Cells} (T : List Nat) (hg : guardA ops f o = some true) (hq : nop P (h.only T) f o = some (y, c)) (hc : GoesA P ops n0 l (f.put o.dst (y (n0 + K.length))) { h with blk := h.blk ++ [(n0 + K.length, .cells { c with imm := 0 })] } (K ++ [(T, some (n0 + K.length, true))]) Q) : GoesA P ops n0 (o :: l) f h K Q :=
  goesA_step (e := ⟨y (n0 + K.length), T, some (n0 + K.length, { c with imm := 0 }), true⟩) (fun i ho hK => by
    have := did_head (n0 := n0) (y := y (n0 + i)) (T := T) (b := some { c with imm := 0 }) (head_n (m := 0) ho hg hq (Nat.zero_le _) (pad_get ..) (pad_get ..))
    rw [hK]; exact this) hc
theorem goesA_m {t : TypeId} {x v : Operand} {r : Nat} {c : Cells} (hg : guardA ops f o = some true) (hop : o.op = .store t x v) (hs : mStoreC P h f t x v = some (r, c)) (hc : GoesA P ops n0 l (f.put o.dst (.raw undef)) (h.put r (.cells c)) (K ++ [([r], some (r, false))]) Q) : GoesA P ops n0 (o :: l) f h K Q :=
  goesA_step (e := ⟨.raw undef, [r], some (r, c), false⟩) (fun i ho _ => did_m ho hg hop hs) hc
theorem goesA_call {c : Call} {x : Operand} {fn : Fn} {first cap args args' cap' : List AV} {z : AV} {l0 : List (Nat × Nat)} (T : List Nat) (hg : guardA ops f o = some true) (hcl : o.op = .call c) (hx : c.callee = .value x) (hf : f.ev x = some (.clo fn first cap)) (ha : f.evs c.args.toList = some args)
    (hs : SnapL (h.only T) (first ++ args ++ cap) (args' ++ cap') l0) (hl : (first ++ args).length = args'.length) (hs0 : Sealed (h.only T) l0) (hk : Tells P fn args' cap' z) (hc : GoesA P ops n0 l (f.put o.dst z) h (K ++ [(T, none)]) Q) : GoesA P ops n0 (o :: l) f h K Q :=
  goesA_step (e := ⟨z, T, none, false⟩) (fun i ho _ => by
    obtain ⟨y, h', l1, l2, k1, k2, k3⟩ := hk.run
    exact did_head (T := T) (b := none) (head_call ho hg hcl hx hf ha hs hl hs0 hk.pure (sound k1) k2 k3 hk.out (pad_get ..) (pad_get ..))) hc
theorem goesA_tells {c : Call} {x : Operand} {fn : Fn} {first cap args args' cap' : List AV} {z : AV} (hk : Tells P fn args' cap' z) (hg : guardA ops f o = some true) (hcl : o.op = .call c) (hx : c.callee = .value x) (hf : f.ev x = some (.clo fn first cap)) (ha : f.evs c.args.toList = some args) (he : first ++ args ++ cap = args' ++ cap') (hl : (first ++ args).length = args'.length)
    (hc : GoesA P ops n0 l (f.put o.dst z) h (K ++ [([], none)]) Q) : GoesA P ops n0 (o :: l) f h K Q :=
  goesA_call (l0 := []) [] hg hcl hx hf ha (by rw [he]; exact snap_pure hk.pure) hl (fun p hp => nomatch hp) hk hc
end
end
end Go.Proofs.YtaoglkkdhdfioaaGreatDoor
namespace Go.Proofs.YtaoglkkdhdfioaaGreatDoor
open Go Go.Proofs
section
variable {P : Program} {h h' : AH} {V : Mem} {w : World} {f : AF} {a : Act} {ops : Array Oper} {n0 i : Nat}
theorem put_row_denV {r k len cap p room : Nat} {c : Cells} (hv : c.ver = k) (h1 : len * c.sz ≤ c.cs.length) (h2 : len ≤ cap) (h3 : cap * c.sz ≤ room) :
    Den (V.upd r (some (.cells c)) p room) w (.slice (some ⟨p, 0, none⟩) len cap) (.row r k 0 len) := by
  refine .row rfl (.inr rfl) fun d hd => ?_
  rw [Mem.upd_blk_same] at hd
  injection hd with hd
  injection hd with hd
  subst hd
  exact ⟨by omega, fun _ => ⟨by omega, cap, by rw [Mem.upd_pos_same], h2, by rw [Mem.upd_room_same]; omega⟩⟩
theorem append_rowV {ts tx ty e : TypeId} {j : TypeInfo} {z : Value} {n r k len : Nat} {c : Cells} {sv xv : Value} {news : List Value} {bs : List AV} (hV : Rel V w) (hu : P.underlying ts = some (.slice e)) (hi : P.info? e = some j) (hz : j.zero = some z) (hs : Src P j.size tx xv (n + 1) news w)
    (hd : DenL V w news.toArray bs) (ho : bs.all AV.one = true) (hzs : z.cells.size = j.size) (hb : j.bytes ≤ 1024) (hn : n + 1 ≤ tops) (hlen : len ≤ tops) (hA : Agr h V) (hsv : Den V w sv (.row r k 0 len)) (hc : h.now r k = some c) (hsz : c.sz = j.size) (he : c.elem = e) (him : c.imm ≤ len * c.sz) :
    ∃ v w' p m, (Builtin.append_ #[ts, tx] ty #[sv, xv]).run P w = .ok v w' ∧ To V w (V.upd r (some (.cells { c with ver := k + 1, cs := c.cs.take (len * c.sz) ++ bs })) p m) w' ∧
      Den (V.upd r (some (.cells { c with ver := k + 1, cs := c.cs.take (len * c.sz) ++ bs })) p m) w' v (.row r (k + 1) 0 (len + (n + 1))) := by
  obtain ⟨hr, j1, cap, rfl, j2, j3⟩ := hsv.row_now hA hc
  have hver : c.ver = k := (AH.now_get hc).2
  obtain ⟨X, k1, k2, k3, k4, k5, k6⟩ := hV.cells r c hr
  have hnl : news.length = bs.length := by simpa using hd.1
  have hbl : bs.length = (n + 1) * c.sz := by rw [← hnl, hsz]; exact hs.newsLen
  have hadd : len * c.sz + (n + 1) * c.sz = (len + (n + 1)) * c.sz := by rw [← Nat.add_mul]
  have hone : ∀ b ∈ c.cs.take (len * c.sz) ++ bs, b.one = true := fun b hb => by
    rcases List.mem_append.1 hb with hb | hb
    · exact k5 b (List.mem_of_mem_take hb)
    · exact List.all_eq_true.1 ho b hb
  have hcl : (c.cs.take (len * c.sz) ++ bs).length = (len + (n + 1)) * c.sz := by
    rw [List.length_append, List.length_take, hbl, ← hadd]; omega
  by_cases hroom : len + (n + 1) ≤ cap
  · have hle : (len + (n + 1)) * c.sz ≤ cap * c.sz := Nat.mul_le_mul_right _ hroom
    have hfit : len * c.sz + news.length ≤ X.size := by omega
    have hrun := run_append_room_src (P := P) w ts tx ty e j hu hi (V.pos r) 0 len cap xv (n + 1) news hs hroom
      (fun l hl => by
        have : 0 + len * j.size + l < X.size := by rw [← hsz]; omega
        simp only [World.cell?, k1]
        simp at this
        simp [this])
      (fun l hl => by simp [World.frozen?, k1])
    have hsp : w.setCells (V.pos r) (len * c.sz) news = w.setRow (V.pos r) (splice X (len * c.sz) news) := setCells_splice P k1 hfit hs.one
    rw [Nat.zero_add, ← hsz, hsp] at hrun
    refine ⟨_, _, V.pos r, V.room r, hrun, ?_, put_row_denV rfl (by show _ ≤ (c.cs.take (len * c.sz) ++ bs).length; rw [hcl]; exact Nat.le_refl _) hroom (by show cap * c.sz ≤ _; omega)⟩
    refine setRow_to (c' := { c with ver := k + 1, cs := c.cs.take (len * c.sz) ++ bs }) hV hr k1 (splice_size hfit) k2 rfl (by show c.ver ≤ k + 1; omega) (fun e => by have e : k + 1 = c.ver := e; omega) (Nat.le_refl _) ?_ ?_ hone ?_ ?_
    · show c.imm ≤ (c.cs.take (len * c.sz) ++ bs).length
      rw [hcl]; omega
    · show (c.cs.take (len * c.sz) ++ bs).length ≤ _
      rw [hcl, splice_size hfit]; omega
    · intro l hl
      rw [splice_get hfit, if_neg (by omega)]
    · intro l x b h1 h2
      have h2 : (c.cs.take (len * c.sz) ++ bs)[l]? = some b := h2
      refine splice_den (n := bs.length) hfit k6 hd rfl (by omega) l x b h1 ?_
      rw [List.getElem?_append_left (List.getElem?_eq_some_iff.1 h2).1]; exact h2
  · unfold tops at hn hlen
    have hfit : Builtin.nextslicecap (len + (n + 1)) cap * j.bytes ≤ 281474976710656 := by
      have h1 := Nat.mul_le_mul (nextslicecap_le (need := len + (n + 1)) (old := cap) (by omega)) hb
      omega
    have hol : (X.toList.take (len * c.sz)).length = len * j.size := by
      rw [List.length_take, ← hsz]; simp; omega
    have hold : (Builtin.firstCells j.size len (.slice (some ⟨V.pos r, 0, none⟩) len cap)).run P w.drew = .ok (X.toList.take (len * c.sz)).toArray w.drew :=
      run_firstCells_some w.drew j.size len ⟨V.pos r, 0, none⟩ len cap _ hol (fun l v hv => by
        rw [List.getElem?_take] at hv
        split at hv
        · rw [Addr.add_mid]
          show w.cell? ⟨V.pos r, 0 + l, none⟩ = some v
          simp only [World.cell?, k1]
          simpa using hv
        · cases hv)
    have hrun := run_append_grow_src (P := P) w ts tx ty e j z hu hi hz (some ⟨V.pos r, 0, none⟩) len cap _ hold xv (n + 1) news hs (by omega) (by omega) hfit
    have hcap := cap_ge w (len + (n + 1)) cap e
    have hXs : ((X.toList.take (len * c.sz) ++ news).toArray ++ Builtin.zeroCells z.cells (grownCap w (len + (n + 1)) cap e - (len + (n + 1)))).size = grownCap w (len + (n + 1)) cap e * c.sz := by
      simp only [Array.size_append, size_zeroCells, List.size_toArray, List.length_append, hzs, hs.newsLen, hol]
      rw [← hsz, ← Nat.add_mul, ← Nat.add_mul]
      congr 1; omega
    have hge : (len + (n + 1)) * c.sz ≤ grownCap w (len + (n + 1)) cap e * c.sz := Nat.mul_le_mul_right _ hcap
    refine ⟨_, _, w.heap.size, _, hrun, ?_, put_row_denV rfl (by show _ ≤ (c.cs.take (len * c.sz) ++ bs).length; rw [hcl]; exact Nat.le_refl _) hcap (Nat.le_of_eq hXs.symm)⟩
    subst he
    refine to_move (c' := { c with ver := k + 1, cs := c.cs.take (len * c.sz) ++ bs }) hV hr rfl rfl rfl rfl (by show c.ver < k + 1; omega) (Nat.le_refl _) ?_ ?_ hone ?_
    · show c.imm ≤ (c.cs.take (len * c.sz) ++ bs).length
      rw [hcl]; omega
    · show (c.cs.take (len * c.sz) ++ bs).length ≤ _
      rw [hcl, hXs]; exact hge
    · intro V' hf l x b h1 h2
      have h2 : (c.cs.take (len * c.sz) ++ bs)[l]? = some b := h2
      have hj : l < (len + (n + 1)) * c.sz := by rw [← hcl]; exact (List.getElem?_eq_some_iff.1 h2).1
      rw [Array.getElem?_append_left (by simp [hs.newsLen]; rw [← hsz]; omega), List.getElem?_toArray] at h1
      by_cases hj1 : l < len * c.sz
      · rw [List.getElem?_append_left (by rw [hol, ← hsz]; exact hj1), List.getElem?_take, if_pos hj1] at h1
        rw [List.getElem?_append_left (by rw [List.length_take]; omega), List.getElem?_take, if_pos hj1] at h2
        exact (k6 l x b (by simpa using h1) h2).fwd hf
      · rw [List.getElem?_append_right (by rw [hol, ← hsz]; omega), hol, ← hsz] at h1
        rw [List.getElem?_append_right (by rw [List.length_take]; omega), List.length_take, Nat.min_eq_left (by omega)] at h2
        exact (hd.2 _ x b (by simpa using h1) h2).fwd hf
theorem did_app {T : List Nat} {o : Oper} {c : Call} {s x : Operand} {ts tx e e' : TypeId} {j : TypeInfo} {z : Value} {r k len n : Nat} {cc : Cells} {bs : List AV} (hidx : ops[i]? = some o) (hg : guardA ops f o = some true) (ho : o.op = .call c) (hc : c.callee = .builtin .append) (ha : c.args.toList = [s, x]) (ht : c.argTypes.toList = [ts, tx])
    (hu : P.underlying ts = some (.slice e)) (hk : P.underlying tx = some (.slice e')) (hi : P.info? e = some j) (hz : j.zero = some z) (hzs : z.cells.size = j.size) (hb : j.bytes ≤ 1024) (hsrc : srcA (h.only T) f j.size x = some (n + 1, bs)) (hone : bs.all AV.one = true) (hs : f.ev s = some (.row r k 0 len))
    (hrT : r ∈ T) (hn : (h.only T).now r k = some cc) (hsz : cc.sz = j.size) (hel : cc.elem = e) (him : cc.imm ≤ len * cc.sz) (hl : len ≤ tops) (hn1 : n + 1 ≤ tops) :
    DidOk P ops n0 i f h ⟨.row r (k + 1) 0 (len + (n + 1)), T, some (r, { cc with ver := k + 1, cs := cc.cs.take (len * cc.sz) ++ bs }), false⟩ := by
  refine ⟨o, hidx, ⟨hrT, by rw [show h.get r = some (.cells cc) from (find_only T h.blk r _ (AH.now_get hn).1).2]; rfl⟩, fun F nn V w fS a K Q hF hV hA hf hl' hgd hbn hK => ?_⟩
  have hso : s ∈ o.op.operands.toList := by
    rw [ho]
    simp only [Op.operands, Call.operands, hc]
    first
      | (simp; rw [← Array.mem_toList_iff, ha]; simp)
      | (rw [← Array.toList_append]; simp; rw [← Array.mem_toList_iff, ha]; simp)
  have hxo : x ∈ o.op.operands.toList := by
    rw [ho]
    simp only [Op.operands, Call.operands, hc]
    first
      | (simp; rw [← Array.mem_toList_iff, ha]; simp)
      | (rw [← Array.toList_append]; simp; rw [← Array.mem_toList_iff, ha]; simp)
  have hsrc' : srcA (h.only T) fS j.size x = some (n + 1, bs) := (src_like (hl' x hxo)).trans hsrc
  obtain ⟨news, hS, hD⟩ := src_ok hV (only_agr hA) hf hk hsrc' hone
  obtain ⟨v, w', p, m, k1, k2, k3⟩ := append_rowV (ty := o.type) hV hu hi hz hS hD hone hzs hb hn1 hl (only_agr hA) (hf.ev ((hl' s hso).trans hs)) hn hsz hel him
  have hex : (execOp a.eval o).run P w = .ok (.value v) w' := by
    obtain ⟨dst, op, ty, pos, after, guard⟩ := o
    simp only at ho
    subst ho
    obtain ⟨callee, args, argTypes⟩ := c
    simp only at hc ha ht
    subst hc
    obtain rfl : args = #[s, x] := by apply Array.ext'; simpa using ha
    obtain rfl : argTypes = #[ts, tx] := by apply Array.ext'; simpa using ht
    simp [execOp, resolve, invoke, builtin, k1]
  exact op_val hF hidx (guard_ok hf (hgd.trans hg)) hex (hK v _ w' ⟨_, _, rfl⟩ k2 k3)
theorem goesA_app {l : List Oper} {K : List (List Nat × Option (Nat × Bool))} {Q : Ex → AF → AH → Prop} (T : List Nat) {o : Oper} {c : Call} {s x : Operand} {ts tx e e' : TypeId} {j : TypeInfo} {z : Value} {r k len n : Nat} {cc : Cells} {bs cs' : List AV} (hn : (h.only T).now r k = some cc) (him : cc.imm ≤ len * cc.sz) (hl : len ≤ tops) (hn1 : n + 1 ≤ tops) (hcs : cc.cs.take (len * cc.sz) ++ bs = cs') (hone : bs.all AV.one = true)
    (hg : guardA ops f o = some true) (ho : o.op = .call c) (hc : c.callee = .builtin .append) (ha : c.args.toList = [s, x]) (ht : c.argTypes.toList = [ts, tx])
    (hu : P.underlying ts = some (.slice e)) (hk : P.underlying tx = some (.slice e')) (hi : P.info? e = some j) (hz : j.zero = some z) (hzs : z.cells.size = j.size) (hb : j.bytes ≤ 1024) (hsrc : srcA (h.only T) f j.size x = some (n + 1, bs)) (hs : f.ev s = some (.row r k 0 len))
    (hrT : r ∈ T) (hsz : cc.sz = j.size) (hel : cc.elem = e) (hr : GoesA P ops n0 l (f.put o.dst (.row r (k + 1) 0 (len + (n + 1)))) (h.put r (.cells { cc with ver := k + 1, cs := cs' })) (K ++ [(T, some (r, false))]) Q) : GoesA P ops n0 (o :: l) f h K Q := by
  subst hcs
  exact goesA_step (e := ⟨.row r (k + 1) 0 (len + (n + 1)), T, some (r, { cc with ver := k + 1, cs := cc.cs.take (len * cc.sz) ++ bs }), false⟩) (fun i hidx _ => did_app hidx hg ho hc ha ht hu hk hi hz hzs hb hsrc hone hs hrT hn hsz hel him hl hn1) hr
end
end Go.Proofs.YtaoglkkdhdfioaaGreatDoor
namespace Go.Proofs.YtaoglkkdhdfioaaGreatDoor
open Go Go.Proofs
/-- put into order -/
theorem sm {A B : Prop} (k : B) (h : B → A := by
  intro k
  simp only [go_sem, ↓reduceIte, reduceCtorEq]
  exact k) : A := h k
/-- as far as it goes by itself -/
theorem wk {A B : Prop} (k : B) (h : B → A := by
  intro k
  repeat1' first
    | (refine goesL_q (y := .raw (.bool true)) (by rfl) (by rfl) ?_; simp only [go_sem, ↓reduceIte, reduceCtorEq])
    | (refine goesL_q (y := .raw (.bool false)) (by rfl) (by rfl) ?_; simp only [go_sem, ↓reduceIte, reduceCtorEq])
    | (fail_if_success refine goesL_b (by rfl) (by rfl) fun b hb => ?_
       refine goesL_q (by rfl) (by rfl) ?_; simp only [go_sem, ↓reduceIte, reduceCtorEq])
    | (refine goesL_n (by rfl) (by rfl) ?_; simp only [go_sem, ↓reduceIte, reduceCtorEq])
    | (refine goesL_m (by rfl) (by rfl) ?_; simp only [go_sem, ↓reduceIte, reduceCtorEq])
    | (fail_if_success refine goesL_b (by rfl) (by rfl) fun b hb => ?_
       refine goesL_s (by rfl) (qok_rop (by rfl)) ?_; simp only [go_sem, ↓reduceIte, reduceCtorEq])
    | (refine goesL_off (by rfl) ?_; simp only [go_sem, ↓reduceIte, reduceCtorEq])
    | (refine goesL_nil ?_; try simp only [go_sem, ↓reduceIte, reduceCtorEq])
    | (refine goes_seq ?_)
    | (refine goes_region ?_)
    | (refine goes_cond (b := true) (by rfl) (fun _ => ?_) fun h => (by cases h))
    | (refine goes_cond (b := false) (by rfl) (fun h => (by cases h)) fun _ => ?_)
    | (refine goes_block ?_)
    | (refine goes_skip ?_; try simp only [go_sem, ↓reduceIte, reduceCtorEq])
    | (refine goes_exit ?_; try simp only [go_sem, ↓reduceIte, reduceCtorEq])
    | (refine goes_ret ?_; try simp only [go_sem, ↓reduceIte, reduceCtorEq])
  exact k) : A := h k
theorem goesA_nt {P : Program} {ops : Array Oper} {n0 : Nat} {l : List Oper} {f : AF} {h : AH} {o : Oper} {K : List (List Nat × Option (Nat × Bool))} {Q : Ex → AF → AH → Prop} {y : Nat → AV} {c : Cells} {T : List Nat} (ht : touched f o = T) (hg : guardA ops f o = some true) (hq : nop P (h.only T) f o = some (y, c))
    (hc : GoesA P ops n0 l (f.put o.dst (y (n0 + K.length))) { h with blk := h.blk ++ [(n0 + K.length, .cells { c with imm := 0 })] } (K ++ [(T, some (n0 + K.length, true))]) Q) : GoesA P ops n0 (o :: l) f h K Q := goesA_n T hg hq hc
/-- the same in a region whose order is drawn -/
theorem wa {A B : Prop} (k : B) (h : B → A := by
  intro k
  repeat1' first
    | (refine goesA_q [] (y := .raw (.bool true)) (by rfl) (by rfl) ?_; simp only [go_sem, ↓reduceIte, reduceCtorEq])
    | (refine goesA_q [] (y := .raw (.bool false)) (by rfl) (by rfl) ?_; simp only [go_sem, ↓reduceIte, reduceCtorEq])
    | (fail_if_success refine goesA_b (by rfl) (by rfl) fun b hb => ?_
       refine goesA_q [] (by rfl) (by rfl) ?_; simp only [go_sem, ↓reduceIte, reduceCtorEq])
    | (refine goesA_t (by rfl) (by rfl) (by rfl) ?_; simp only [go_sem, ↓reduceIte, reduceCtorEq])
    | (refine goesA_n [] (by rfl) (by rfl) ?_; simp only [go_sem, ↓reduceIte, reduceCtorEq])
    | (refine goesA_nt (by rfl) (by rfl) (by rfl) ?_; simp only [go_sem, ↓reduceIte, reduceCtorEq])
    | (refine goesA_m (by rfl) (by rfl) (by rfl) ?_; simp only [go_sem, ↓reduceIte, reduceCtorEq])
    | (refine goesA_off (by rfl) ?_; simp only [go_sem, ↓reduceIte, reduceCtorEq])
    | (refine goesA_end (by kernel_rfl) ?_; simp only [go_sem, ↓reduceIte, reduceCtorEq])
    | (refine goes_any (by rfl) ?_; simp only [go_sem, ↓reduceIte, reduceCtorEq])
  exact k) : A := h k
section
variable {P : Program} {ops : Array Oper} {f : AF} {h : AH} {o : Oper} {l : List Oper} {Q : Ex → AF → AH → Prop} {c : Call} {x : Operand} {fn : Fn} {first args args' cap cap' : List AV} {z : AV} {n0 : Nat} {K : List (List Nat × Option (Nat × Bool))}
/-- a call, by what it tells -/
theorem tl (hk : Tells P fn args' cap z) (hr : GoesL P ops l (f.put o.dst z) h Q) (hg : guardA ops f o = some true := by rfl) (hc : o.op = .call c := by rfl) (hx : c.callee = .value x := by rfl) (hf : f.ev x = some (.clo fn first cap) := by rfl) (ha : f.evs c.args.toList = some args := by rfl) (he : first ++ args = args' := by rfl) :
    GoesL P ops (o :: l) f h Q := goesL_tells hk hg hc hx hf ha he hr
theorem ta (hk : Tells P fn args' cap' z) (hr : GoesA P ops n0 l (f.put o.dst z) h (K ++ [([], none)]) Q) (hg : guardA ops f o = some true := by rfl) (hc : o.op = .call c := by rfl) (hx : c.callee = .value x := by rfl) (hf : f.ev x = some (.clo fn first cap) := by rfl) (ha : f.evs c.args.toList = some args := by rfl)
    (he : first ++ args ++ cap = args' ++ cap' := by rfl) (hl : (first ++ args).length = args'.length := by rfl) : GoesA P ops n0 (o :: l) f h K Q := goesA_tells hk hg hc hx hf ha he hl hr
end
end Go.Proofs.YtaoglkkdhdfioaaGreatDoor
