/- Laws. -/
import Derived.Orders
import Derived.StillTail
import Derived.OrdersHeld
import Derived.Deep.RegionHeld
namespace Go.Proofs.YtfgnnbpbbnnnhaaDoor
open Go
/-- What is looked at alone matters to whether an operation is wanted. -/
theorem wanted_same {ops : Array Oper} (o : Oper) (s t : Array Value) (h : ∀ d ∈ o.looksAt ops, s[d]? = t[d]?) :
    Region.wanted o (yielded ops s) = Region.wanted o (yielded ops t) := by
  unfold Region.wanted
  cases hg : o.guard with
  | none => rfl
  | some gw =>
    obtain ⟨g, want⟩ := gw
    have hy : yielded ops s g = yielded ops t g := by
      unfold yielded
      cases ht : (ops[g]?).bind (·.dst) with
      | none => rfl
      | some d =>
        simp only [Option.bind_some]
        rw [h d (by simp [Oper.looksAt, hg, ht])]
    simp only [hy]
theorem exec_same {ops : Array Oper} (o : Oper) (hs : ∀ cs b, o.op ≠ .select cs b) (a b : Act) (h : ∀ d ∈ o.looksAt ops, a.tmps[d]? = b.tmps[d]?) :
    execOp a.eval o = execOp b.eval o :=
  execOp_congr o hs fun x hx => by
    cases x with
    | tmp t =>
      have : t ∈ o.looksAt ops := List.mem_append_left _ (List.mem_filterMap.2 ⟨.tmp t, by simpa using hx, rfl⟩)
      have e := h t this
      show a.tmps.getD t undef = b.tmps.getD t undef
      rw [Array.getD_eq_getD_getElem?, Array.getD_eq_getD_getElem?, e]
    | _ => rfl
/-- What an operation leaves in its temporary. -/
def Got (d : Option Tmp) (V : Value → World → Prop) (a : Act) (w : World) : Prop :=
  match d with
  | none => True
  | some d => ∃ x, a.tmps[d]? = some x ∧ V x w
/-- Is an operation with this guard wanted? -/
def gOn (g : Option (Option Tmp × Bool)) (a : Act) : Bool :=
  match g with
  | none => true
  | some (t, want) => (match t.bind (a.tmps[·]?) with
    | some (.bool b) => some b
    | _ => none) == some want
def gOf (ops : Array Oper) (o : Oper) : Option (Option Tmp × Bool) := o.guard.map fun p => ((ops[p.1]?).bind (·.dst), p.2)
theorem gOn_of (ops : Array Oper) (o : Oper) (a : Act) : gOn (gOf ops o) a = Region.wanted o (yielded ops a.tmps) := by
  unfold gOf Region.wanted
  cases hg : o.guard with
  | none => rfl
  | some gw => rfl
/-- One operation, its own reads at hand: whatever follows. -/
def StepFrom (P : Program) (S : World → Prop) (R : World → World → Prop) (o : Oper) (V : Value → World → Prop) (g : Option (Option Tmp × Bool)) :
    List (Tmp × (Value → World → Prop)) → Act → World → Prop
  | [], a, w => ∀ (K : Act → World → Prop) (Q : Exit → Act → World → Prop), Shut (∀ v w', S w' → R w w' → V v w' → K (a.put o.dst v) w') →
      if gOn g a = true then Oper.wp P o a w K Q else K (a.put o.dst undef) w
  | (d, U) :: rest, a, w => ∀ x, U x w → StepFrom P S R o V g rest (a.put (some d) x) w
def FinalFrom (Q : Exit → Act → World → Prop) : List (Option Tmp × (Value → World → Prop)) → Act → World → Prop
  | [], a, w => Q .normal a w
  | (none, _) :: rest, a, w => FinalFrom Q rest a w
  | (some d, U) :: rest, a, w => ∀ x, U x w → FinalFrom Q rest (a.put (some d) x) w
/-- what is looked at by an operation, of those of the region: (temporary, number) -/
def depsOf (ops : Array Oper) (o : Oper) : List (Tmp × Nat) :=
  (List.range ops.size).filterMap fun j => match (ops[j]?).bind (·.dst) with
    | some d => if (o.looksAt ops).contains d then some (d, j) else none
    | none => none
def relOk (ops : Array Oper) (n : Nat) : Bool :=
  Region.noSelect ops &&
  (List.range ops.size).all fun i => match ops[i]? with
    | none => true
    | some o =>
      (match o.dst with | some d => decide (d < n) | none => true) &&
      (o.after.all fun e => !Region.binds .any e || decide (e.on < i)) &&
      ((depsOf ops o).all fun p => o.after.any fun e => Region.binds .any e && e.on == p.2) &&
      ((List.range ops.size).all fun j => j == i || match ops[j]? with
        | none => true
        | some o' => match o.dst, o'.dst with
          | some d, some d' => d != d'
          | _, _ => true)
/-- A guarded operation's value. -/
def gv (c : Bool) (v : Value) : Value := cond c v undef
section
variable {P : Program} {ops : Array Oper} {S : World → Prop} {R : World → World → Prop} {Vs : Nat → Value → World → Prop} {Q : Exit → Act → World → Prop}
theorem StepFrom.inst {o : Oper} {V : Value → World → Prop} {g : Option (Option Tmp × Bool)} (b : Act) : ∀ (D : List (Tmp × (Value → World → Prop))) (a : Act) (w : World), StepFrom P S R o V g D a w →
    b.tmps.size = a.tmps.size → (∀ p ∈ D, ∃ x, b.tmps[p.1]? = some x ∧ p.2 x w) →
    ∃ a', StepFrom P S R o V g [] a' w ∧ a'.defers = a.defers ∧ a'.tmps.size = a.tmps.size ∧ (∀ p ∈ D, a'.tmps[p.1]? = b.tmps[p.1]?) ∧ ∀ t, (∀ p ∈ D, p.1 ≠ t) → a'.tmps[t]? = a.tmps[t]?
  | [], a, w, h, _, _ => ⟨a, h, rfl, rfl, fun p hp => (by cases hp), fun t _ => rfl⟩
  | (d, U) :: rest, a, w, h, hz, hx => by
    obtain ⟨x, hx1, hx2⟩ := hx (d, U) (by simp)
    have hd : d < a.tmps.size := by
      rw [← hz]
      exact (Array.getElem?_eq_some_iff.1 hx1).1
    obtain ⟨a', h1, h2, h3, h4, h5⟩ := StepFrom.inst b rest (a.put (some d) x) w (h x hx2) (by simpa [Act.put] using hz) (fun p hp => hx p (by simp [hp]))
    refine ⟨a', h1, h2, by simpa [Act.put] using h3, fun p hp => ?_, fun t ht => ?_⟩
    · by_cases hr : ∃ q ∈ rest, q.1 = p.1
      · obtain ⟨q, hq, e⟩ := hr
        rw [← e]
        exact h4 q hq
      · have hpd : p = (d, U) := by
          rcases List.mem_cons.1 hp with e | e
          · exact e
          · exact absurd ⟨p, e, rfl⟩ hr
        subst hpd
        rw [h5 d (fun q hq e => hr ⟨q, hq, e⟩)]
        simp [Act.put, hd, hx1]
    · rw [h5 t (fun q hq => ht q (by simp [hq]))]
      have : d ≠ t := ht (d, U) (by simp)
      simp [Act.put, Array.getElem?_setIfInBounds_ne this]
theorem FinalFrom.inst (b : Act) : ∀ (D : List (Option Tmp × (Value → World → Prop))) (a : Act) (w : World), FinalFrom Q D a w →
    b.tmps.size = a.tmps.size → (∀ p ∈ D, ∀ d, p.1 = some d → ∃ x, b.tmps[d]? = some x ∧ p.2 x w) →
    ∃ a', Q .normal a' w ∧ a'.defers = a.defers ∧ a'.tmps.size = a.tmps.size ∧ (∀ p ∈ D, ∀ d, p.1 = some d → a'.tmps[d]? = b.tmps[d]?) ∧ ∀ t, (∀ p ∈ D, p.1 ≠ some t) → a'.tmps[t]? = a.tmps[t]?
  | [], a, w, h, _, _ => ⟨a, h, rfl, rfl, fun p hp => (by cases hp), fun t _ => rfl⟩
  | (none, U) :: rest, a, w, h, hz, hx => by
    obtain ⟨a', h1, h2, h3, h4, h5⟩ := FinalFrom.inst b rest a w h hz (fun p hp => hx p (by simp [hp]))
    refine ⟨a', h1, h2, h3, fun p hp d hd => ?_, fun t ht => h5 t (fun q hq => ht q (by simp [hq]))⟩
    rcases List.mem_cons.1 hp with e | e
    · rw [e] at hd; cases hd
    · exact h4 p e d hd
  | (some d, U) :: rest, a, w, h, hz, hx => by
    obtain ⟨x, hx1, hx2⟩ := hx (some d, U) (by simp) d rfl
    have hd : d < a.tmps.size := by
      rw [← hz]
      exact (Array.getElem?_eq_some_iff.1 hx1).1
    obtain ⟨a', h1, h2, h3, h4, h5⟩ := FinalFrom.inst b rest (a.put (some d) x) w (h x hx2) (by simpa [Act.put] using hz) (fun p hp => hx p (by simp [hp]))
    refine ⟨a', h1, h2, by simpa [Act.put] using h3, fun p hp e he => ?_, fun t ht => ?_⟩
    · by_cases hr : ∃ q ∈ rest, q.1 = some e
      · obtain ⟨q, hq, hqe⟩ := hr
        exact h4 q hq e hqe
      · have hpd : p = (some d, U) := by
          rcases List.mem_cons.1 hp with h' | h'
          · exact h'
          · exact absurd ⟨p, h', he⟩ hr
        subst hpd
        injection he with he
        subst he
        rw [h5 d (fun q hq e => hr ⟨q, hq, e⟩)]
        simp [Act.put, hd, hx1]
    · rw [h5 t (fun q hq => ht q (by simp [hq]))]
      have : d ≠ t := fun e => ht (some d, U) (by simp) (by rw [e])
      simp [Act.put, Array.getElem?_setIfInBounds_ne this]
/-- What holds of the frame and the world when some of the operations have come up. -/
structure RelInv (ops : Array Oper) (S : World → Prop) (Vs : Nat → Value → World → Prop) (a0 : Act) (listed : Array Bool) (a : Act) (w : World) : Prop where
  size : listed.size = ops.size
  s : S w
  defers : a.defers = a0.defers
  tmps : a.tmps.size = a0.tmps.size
  old : ∀ t, (∀ j o, ops[j]? = some o → listed.getD j true = true → o.dst ≠ some t) → a.tmps[t]? = a0.tmps[t]?
  got : ∀ j o, ops[j]? = some o → listed.getD j true = true → Got o.dst (Vs j) a w
theorem mem_deps {o : Oper} {d : Tmp} {j : Nat} : (d, j) ∈ depsOf ops o ↔ j < ops.size ∧ (ops[j]?).bind (·.dst) = some d ∧ d ∈ o.looksAt ops := by
  unfold depsOf
  rw [List.mem_filterMap]
  constructor
  · rintro ⟨k, hk, h⟩
    cases hd : (ops[k]?).bind (·.dst) with
    | none => rw [hd] at h; cases h
    | some e =>
      rw [hd] at h
      simp only at h
      split at h
      · rename_i hc
        injection h with h
        injection h with h1 h2
        subst h1 h2
        exact ⟨List.mem_range.1 hk, hd, by simpa using hc⟩
      · cases h
  · rintro ⟨h1, h2, h3⟩
    refine ⟨j, List.mem_range.2 h1, ?_⟩
    rw [h2]
    simp [h3]
theorem relOk_spec {n : Nat} (h : relOk ops n = true) : Region.noSelect ops = true ∧ ∀ i o, ops[i]? = some o →
    (∀ d, o.dst = some d → d < n) ∧ (∀ e ∈ o.after, Region.binds .any e = true → e.on < i) ∧ (∀ d j, (d, j) ∈ depsOf ops o → ∃ e ∈ o.after, Region.binds .any e = true ∧ e.on = j) ∧
    (∀ j o', ops[j]? = some o' → j ≠ i → ∀ d, o.dst = some d → o'.dst ≠ some d) := by
  unfold relOk at h
  rw [Bool.and_eq_true] at h
  obtain ⟨h0, h⟩ := h
  refine ⟨h0, fun i o ho => ?_⟩
  have hi : i < ops.size := (Array.getElem?_eq_some_iff.1 ho).1
  have := List.all_eq_true.1 h i (List.mem_range.2 hi)
  rw [ho] at this
  simp only [Bool.and_eq_true] at this
  obtain ⟨⟨⟨h1, h2⟩, h3⟩, h4⟩ := this
  refine ⟨fun d hd => ?_, fun e he hb => ?_, fun d j hj => ?_, fun j o' ho' hne d hd hd' => ?_⟩
  · rw [hd] at h1
    simpa using h1
  · have := Array.all_eq_true_iff_forall_mem.1 h2 e he
    simpa [hb] using this
  · have := List.all_eq_true.1 h3 (d, j) hj
    obtain ⟨e, he, hb⟩ := Array.any_eq_true'.1 this
    simp only [Bool.and_eq_true, beq_iff_eq] at hb
    exact ⟨e, he, hb.1, hb.2⟩
  · have hj : j < ops.size := (Array.getElem?_eq_some_iff.1 ho').1
    have := List.all_eq_true.1 h4 j (List.mem_range.2 hj)
    rw [ho', hd] at this
    simp only [Bool.or_eq_true, beq_iff_eq, hne, false_or, hd'] at this
    simp at this
theorem RelInv.step {a0 : Act} {listed : Array Bool} {a : Act} {w : World} {i : Nat} (hok : relOk ops a0.tmps.size = true)
    (hmono : ∀ j x w w', S w → S w' → R w w' → Vs j x w → Vs j x w')
    (hsteps : ∀ o, ops[i]? = some o → ∀ w, S w → StepFrom P S R o (Vs i) (gOf ops o) ((depsOf ops o).map fun p => (p.1, Vs p.2)) a0 w)
    (h : RelInv ops S Vs a0 listed a w) (hi : i ∈ Region.ready .any ops listed) :
    wpOp P ops Q i (fun a' w' => RelInv ops S Vs a0 (listed.setIfInBounds i true) a' w' ∧ ∃ o v, ops[i]? = some o ∧ a' = a.put o.dst v ∧ ((∃ obj, o.guard = none ∧ ∀ ρ w, (execOp ρ o).run P w = .ok (.value (.pointer (some ⟨w.heap.size, 0, none⟩))) (w.alloc obj)) → v = .pointer (some ⟨w.heap.size, 0, none⟩))) a w := by
  obtain ⟨hsel, hall⟩ := relOk_spec hok
  obtain ⟨hun, o, ho, hafter⟩ := mem_ready.1 hi
  obtain ⟨hd0, _, hdeps, hdist⟩ := hall i o ho
  have hisz : i < ops.size := (Array.getElem?_eq_some_iff.1 ho).1
  have hlist : ∀ d j, (d, j) ∈ depsOf ops o → listed.getD j true = true := fun d j hj => by
    obtain ⟨e, he, hb, rfl⟩ := hdeps d j hj
    have := hafter e he hb
    rcases Nat.lt_or_ge e.on listed.size with h' | h'
    · simp [h'] at this ⊢
      exact this
    · simp [Array.getElem?_eq_none h'] at this
  have hz : a.tmps.size = a0.tmps.size := h.tmps
  obtain ⟨a', h1, h2, h3, h4, h5⟩ := StepFrom.inst a _ a0 w (hsteps o ho w h.s) hz (fun p hp => by
    obtain ⟨q, hq, rfl⟩ := List.mem_map.1 hp
    obtain ⟨d, j⟩ := q
    obtain ⟨hj1, hj2, hj3⟩ := mem_deps.1 hq
    obtain ⟨oj, hoj, hdj⟩ := Option.bind_eq_some_iff.1 hj2
    have := h.got j oj hoj (hlist d j hq)
    rw [hdj] at this
    exact this)
  have hlook : ∀ d ∈ o.looksAt ops, a.tmps[d]? = a'.tmps[d]? := fun d hd => by
    by_cases hx : ∃ j, (d, j) ∈ depsOf ops o
    · obtain ⟨j, hj⟩ := hx
      exact (h4 (d, Vs j) (List.mem_map.2 ⟨(d, j), hj, rfl⟩)).symm
    · rw [h5 d (fun p hp e => by
        obtain ⟨q, hq, rfl⟩ := List.mem_map.1 hp
        obtain ⟨d', j⟩ := q
        simp only at e
        subst e
        exact hx ⟨j, hq⟩)]
      refine h.old d fun j oj hoj _ e => hx ⟨j, mem_deps.2 ⟨(Array.getElem?_eq_some_iff.1 hoj).1, ?_, hd⟩⟩
      rw [hoj]
      exact e
  have hexec := exec_same o (Region.noSelect_spec hsel i o · · ho) a a' hlook
  have hwant := wanted_same (ops := ops) o a.tmps a'.tmps hlook
  have hset : (listed.setIfInBounds i true).size = ops.size := by simpa using h.size
  -- what follows, of the frame at hand
  have next : ∀ v w', S w' → R w w' → (∀ d, o.dst = some d → Vs i v w') → RelInv ops S Vs a0 (listed.setIfInBounds i true) (a.put o.dst v) w' := fun v w' hs hr hv => by
    have hcase : ∀ j, (listed.setIfInBounds i true).getD j true = true → j = i ∨ listed.getD j true = true := fun j hj => by
      by_cases e : j = i
      · exact Or.inl e
      · exact Or.inr (by rwa [getD_set_ne true (Ne.symm e)] at hj)
    have hone : (listed.setIfInBounds i true).getD i true = true := by simp
    have hkeep : ∀ j, listed.getD j true = true → (listed.setIfInBounds i true).getD j true = true := fun j hj => by
      by_cases e : j = i
      · rw [e]; exact hone
      · rw [getD_set_ne true (Ne.symm e)]; exact hj
    refine ⟨hset, hs, ?_, ?_, fun t ht => ?_, fun j oj hoj hj => ?_⟩
    · rw [← h.defers]
      cases o.dst <;> rfl
    · rw [← hz]
      cases o.dst <;> simp [Act.put]
    · have hti : o.dst ≠ some t := ht i o ho hone
      rw [← h.old t fun j oj hoj hj => ht j oj hoj (hkeep j hj)]
      cases hd : o.dst with
      | none => rfl
      | some d =>
        have : d ≠ t := fun e => hti (by rw [hd, e])
        simp [Act.put, Array.getElem?_setIfInBounds_ne this]
    · by_cases e : j = i
      · subst e
        have : oj = o := by rw [ho] at hoj; injection hoj with hoj; exact hoj.symm
        subst this
        cases hd : oj.dst with
        | none => trivial
        | some d =>
          refine ⟨v, ?_, hv d hd⟩
          have : d < a.tmps.size := by rw [hz]; exact hd0 d hd
          simp [Act.put, this]
      · have hj' := (hcase j hj).resolve_left e
        have hg := h.got j oj hoj hj'
        cases hd : oj.dst with
        | none => trivial
        | some d =>
          rw [hd] at hg
          obtain ⟨x, hx1, hx2⟩ := hg
          refine ⟨x, ?_, hmono j x w w' h.s hs hr hx2⟩
          rw [← hx1]
          cases hdo : o.dst with
          | none => rfl
          | some d' =>
            have : d' ≠ d := fun e' => hdist j oj hoj e d' hdo (by rw [hd, e'])
            simp [Act.put, Array.getElem?_setIfInBounds_ne this]
  unfold wpOp
  simp only [ho]
  have H := h1 (fun b w' => S w' ∧ R w w' ∧ b.defers = a'.defers ∧ Got o.dst (Vs i) b w') (fun _ _ _ => False) (fun v w' p1 p2 p3 => ⟨p1, p2, by cases o.dst <;> rfl, by
    cases hd : o.dst with
    | none => trivial
    | some d =>
      have hlt : d < a'.tmps.size := by rw [h3]; exact hd0 d hd
      exact ⟨v, by simp [Act.put, hlt], p3⟩⟩)
  rw [gOn_of] at H
  have hput : ∀ v w', (S w' ∧ R w w' ∧ (a'.put o.dst v).defers = a'.defers ∧ Got o.dst (Vs i) (a'.put o.dst v) w') → RelInv ops S Vs a0 (listed.setIfInBounds i true) (a.put o.dst v) w' := fun v w' ⟨p1, p2, _, p4⟩ =>
    next v w' p1 p2 fun d hd => by
      rw [hd] at p4
      obtain ⟨x, hx, hv⟩ := p4
      have hlt : d < a'.tmps.size := by rw [h3]; exact hd0 d hd
      simp [Act.put, hlt] at hx
      rw [hx]
      exact hv
  rw [← hwant] at H
  by_cases hw : Region.wanted o (yielded ops a.tmps) = true
  · rw [if_pos hw] at H ⊢
    left
    unfold Oper.wp at H ⊢
    rw [hexec]
    have hal : ∀ v w', (execOp a'.eval o).run P w = .ok (.value v) w' → (∃ obj, o.guard = none ∧ ∀ ρ w, (execOp ρ o).run P w = .ok (.value (.pointer (some ⟨w.heap.size, 0, none⟩))) (w.alloc obj)) → v = .pointer (some ⟨w.heap.size, 0, none⟩) := fun v w' e ⟨obj, _, hr⟩ => by
      rw [hr] at e
      injection e with e _
      injection e with e
      exact e.symm
    have hno : ∀ n w', (execOp a'.eval o).run P w = .ok n w' → (∀ v, n ≠ .value v) → ¬ ∃ obj, o.guard = none ∧ ∀ ρ w, (execOp ρ o).run P w = .ok (.value (.pointer (some ⟨w.heap.size, 0, none⟩))) (w.alloc obj) := fun n w' e hn ⟨obj, _, hr⟩ => by
      rw [hr] at e
      injection e with e _
      exact hn _ e.symm
    generalize (execOp a'.eval o).run P w = r at *
    cases r with
    | ok n w' =>
      cases n <;> simp only [Oper.upon] at H ⊢
      case value u => exact ⟨hput _ _ H, o, u, rfl, rfl, hal u w' rfl⟩
      case skip => exact ⟨hput _ _ H, o, undef, rfl, rfl, fun h => absurd h (hno _ w' rfl (fun v e => by cases e))⟩
      case defer d =>
        obtain ⟨_, _, h7, _⟩ := H
        exfalso
        cases hd : o.dst <;> rw [hd] at h7 <;> simp [Act.put] at h7
      case enter f args =>
        refine Calls.mono H fun e w'' he => ?_
        cases e with
        | returned u => exact ⟨hput _ _ he, o, u, rfl, rfl, fun h => absurd h (hno _ w' rfl (fun v e => by cases e))⟩
        | panicked c => exact (he : False).elim
        | outgrown =>
          obtain ⟨_, _, hf⟩ := (he : LetsOut _)
          exact (hf : False).elim
      case row row args => exact Rows.mono H fun u w'' he => ⟨hput _ _ he, o, u, rfl, rfl, fun h => absurd h (hno _ w' rfl (fun v e => by cases e))⟩
    | halt x w' =>
      cases x <;> simp only [Oper.upon] at H
  · rw [if_neg hw] at H ⊢
    refine ⟨hput _ _ H, o, undef, rfl, rfl, fun ⟨obj, hg, _⟩ => ?_⟩
    exfalso
    apply hw
    unfold Region.wanted
    rw [hg]
theorem all_listed {listed : Array Bool} (hz : listed.size = ops.size) (hacy : ∀ i o, ops[i]? = some o → ∀ e ∈ o.after, Region.binds .any e = true → e.on < i)
    (hr : Region.ready .any ops listed = []) : ∀ n j, j < n → j < ops.size → listed.getD j true = true
  | 0, j, h, _ => by omega
  | n + 1, j, h, hj => by
    rcases Nat.lt_or_ge j n with h' | h'
    · exact all_listed hz hacy hr n j h' hj
    · obtain rfl : j = n := by omega
      by_cases hl : listed.getD j true = true
      · exact hl
      · have hf : listed.getD j true = false := by simpa using hl
        have : j ∈ Region.ready .any ops listed := mem_ready.2 ⟨hf, ops[j], by simp [hj], fun e he hb => by
          have hlt := hacy j ops[j] (by simp [hj]) e he hb
          have := all_listed hz hacy hr j e.on hlt (by omega)
          have hsz : e.on < listed.size := by omega
          simp [hsz] at this ⊢
          exact this⟩
        rw [hr] at this
        cases this
/-- how many have not come up -/
def unlisted (ops : Array Oper) (listed : Array Bool) : List Nat := (List.range ops.size).filter fun j => !listed.getD j true
theorem unlisted_set {listed : Array Bool} {i : Nat} (hi : i < ops.size) (h : listed.getD i true = false) : (unlisted ops (listed.setIfInBounds i true)).length < (unlisted ops listed).length := by
  have e : unlisted ops (listed.setIfInBounds i true) = (unlisted ops listed).filter (fun j => j != i) := by
    unfold unlisted
    rw [List.filter_filter]
    refine List.filter_congr fun j _ => ?_
    by_cases hj : j = i
    · subst hj
      simp
    · rw [getD_set_ne true (Ne.symm hj)]
      simp [hj]
  rw [e]
  refine List.length_filter_lt_length_iff_exists.2 ⟨i, ?_, by simp⟩
  unfold unlisted
  simp [hi] at h ⊢
  simpa using h
theorem wpAny_rel {a0 : Act} (hok : relOk ops a0.tmps.size = true)
    (hmono : ∀ j x w w', S w → S w' → R w w' → Vs j x w → Vs j x w')
    (hsteps : ∀ i o, ops[i]? = some o → ∀ w, S w → StepFrom P S R o (Vs i) (gOf ops o) ((depsOf ops o).map fun p => (p.1, Vs p.2)) a0 w)
    (hfin : ∀ w, S w → FinalFrom Q ((List.range ops.size).map fun j => ((ops[j]?).bind (·.dst), Vs j)) a0 w) :
    ∀ (fuel : Nat) (listed : Array Bool) (a : Act) (w : World), RelInv ops S Vs a0 listed a w → (unlisted ops listed).length ≤ fuel → wpAny P .any ops Q fuel listed a w := by
  have hacy := fun i o ho => ((relOk_spec hok).2 i o ho).2.1
  have fin : ∀ (listed : Array Bool) (a : Act) (w : World), RelInv ops S Vs a0 listed a w → Region.ready .any ops listed = [] → Q .normal a w := by
    intro listed a w h hr
    have hl : ∀ j, j < ops.size → listed.getD j true = true := fun j hj => all_listed h.size hacy hr (j + 1) j (by omega) hj
    obtain ⟨a', h1, h2, h3, h4, h5⟩ := FinalFrom.inst a _ a0 w (hfin w h.s) h.tmps (fun p hp d hd => by
      obtain ⟨j, hj, rfl⟩ := List.mem_map.1 hp
      have hjz := List.mem_range.1 hj
      obtain ⟨o, ho, hdo⟩ := Option.bind_eq_some_iff.1 hd
      have := h.got j o ho (hl j hjz)
      rw [hdo] at this
      exact this)
    have : a' = a := by
      have hd : a'.defers = a.defers := by rw [h2, h.defers]
      have ht : a'.tmps = a.tmps := by
        refine Array.ext_getElem? fun t => ?_
        by_cases hx : ∃ (j : Nat) (o : Oper), ops[j]? = some o ∧ o.dst = some t
        · obtain ⟨j, o, ho, hd⟩ := hx
          have hjz : j < ops.size := (Array.getElem?_eq_some_iff.1 ho).1
          exact h4 ((ops[j]?).bind (·.dst), Vs j) (List.mem_map.2 ⟨j, List.mem_range.2 hjz, rfl⟩) t (by rw [ho]; exact hd)
        · rw [h5 t (fun p hp e => by
            obtain ⟨j, hj, rfl⟩ := List.mem_map.1 hp
            obtain ⟨o, ho, hdo⟩ := Option.bind_eq_some_iff.1 e
            exact hx ⟨j, o, ho, hdo⟩)]
          exact (h.old t fun j o ho _ e => hx ⟨j, o, ho, e⟩).symm
      cases a'
      cases a
      simp_all
    rw [← this]
    exact h1
  intro fuel
  induction fuel with
  | zero =>
    intro listed a w h hn
    have hr : Region.ready .any ops listed = [] := by
      cases hr : Region.ready .any ops listed with
      | nil => rfl
      | cons j js =>
        have hj : j ∈ Region.ready .any ops listed := by rw [hr]; simp
        obtain ⟨h0, o, ho, _⟩ := mem_ready.1 hj
        have : j ∈ unlisted ops listed := by
          unfold unlisted
          rw [List.mem_filter, List.mem_range]
          exact ⟨(Array.getElem?_eq_some_iff.1 ho).1, by rw [h0]; rfl⟩
        have := List.length_pos_of_mem this
        omega
    exact ⟨hr, fin listed a w h hr⟩
  | succ fuel ih =>
    intro listed a w h hn
    refine ⟨fin listed a w h, fun i hi => ?_⟩
    obtain ⟨h0, o, ho, _⟩ := mem_ready.1 hi
    have hlt := unlisted_set (ops := ops) (Array.getElem?_eq_some_iff.1 ho).1 h0
    exact wpOp_mono (fun a' w' h' => ih _ a' w' h'.1 (by omega)) (h.step hok hmono (hsteps i) hi)
/-- **A drawn region by what its operations yield.** -/
theorem wp_region_rel {id : Nat} {a0 : Act} {w : World} (hm : P.follows .mixedOrders = true) (hok : relOk ops a0.tmps.size = true) (hS : S w.drew)
    (hmono : ∀ j x w w', S w → S w' → R w w' → Vs j x w → Vs j x w')
    (hsteps : ∀ i o, ops[i]? = some o → ∀ w, S w → StepFrom P S R o (Vs i) (gOf ops o) ((depsOf ops o).map fun p => (p.1, Vs p.2)) a0 w)
    (hfin : ∀ w, S w → FinalFrom Q ((List.range ops.size).map fun j => ((ops[j]?).bind (·.dst), Vs j)) a0 w) : (Code.region id ops true).wp P Q a0 w :=
  wp_region_any hm (wpAny_rel hok hmono hsteps hfin _ _ _ _ ⟨by simp, hS, rfl, rfl, fun _ _ => rfl, fun j oj hoj hl => by
    have hj : j < ops.size := (Array.getElem?_eq_some_iff.1 hoj).1
    simp [hj] at hl⟩ (by
      unfold unlisted
      exact Nat.le_trans (List.length_filter_le _ _) (by simp)))
/-! A tail in one order behind whatever order of the head; blocks that are made in the head are different ones. -/
/-- The temporaries of two makings hold different blocks. -/
def Apart (ops : Array Oper) (Fs : List Nat) (listed : Array Bool) (a : Act) : Prop :=
  ∀ i j oi oj d e, i ∈ Fs → j ∈ Fs → i ≠ j → ops[i]? = some oi → ops[j]? = some oj → listed.getD i true = true → listed.getD j true = true → oi.dst = some d → oj.dst = some e → a.tmps[d]? ≠ a.tmps[e]?
theorem unlisted_exact {listed : Array Bool} {n i : Nat} (hi : i < n) (h : listed.getD i true = false) :
    (((List.range n).filter fun j => !(listed.setIfInBounds i true).getD j true).length) + 1 = ((List.range n).filter fun j => !listed.getD j true).length := by
  have e : ((List.range n).filter fun j => !(listed.setIfInBounds i true).getD j true) = ((List.range n).filter fun j => !listed.getD j true).filter (fun j => j != i) := by
    rw [List.filter_filter]
    refine List.filter_congr fun j _ => ?_
    by_cases hj : j = i
    · subst hj
      simp
    · rw [getD_set_ne true (Ne.symm hj)]
      simp [hj]
  have hm : i ∈ (List.range n).filter fun j => !listed.getD j true := by
    rw [List.mem_filter, List.mem_range]
    exact ⟨hi, by rw [h]; rfl⟩
  have hnd : ((List.range n).filter fun j => !listed.getD j true).Nodup := List.Pairwise.filter _ List.nodup_range
  rw [e, ← List.Nodup.erase_eq_filter hnd, List.length_erase_of_mem hm]
  have := List.length_pos_of_mem hm
  omega
theorem wpAny_tail {a0 : Act} {n : Nat} {Fs : List Nat} (hok : relOk ops a0.tmps.size = true) (hsink : Region.sinkB .any ops n = true) (hchain : Region.chainB .any ops n = true) (hn : n < ops.size)
    (hseq : Region.seqB .any ops (ops.size - n) n (Array.replicate n true ++ Array.replicate (ops.size - n) false) = true)
    (hFs : ∀ i ∈ Fs, ∃ o obj, ops[i]? = some o ∧ o.guard = none ∧ ∀ ρ w, (execOp ρ o).run P w = .ok (.value (.pointer (some ⟨w.heap.size, 0, none⟩))) (w.alloc obj))
    (hold : ∀ i ∈ Fs, ∀ x w, Vs i x w → ∃ g, x = .pointer (some ⟨g, 0, none⟩) ∧ g < w.heap.size)
    (hmono : ∀ j x w w', S w → S w' → R w w' → Vs j x w → Vs j x w')
    (hsteps : ∀ i o, i < n → ops[i]? = some o → ∀ w, S w → StepFrom P S R o (Vs i) (gOf ops o) ((depsOf ops o).map fun p => (p.1, Vs p.2)) a0 w)
    (hfin : ∀ w, S w → FinalFrom (fun _ a w => Apart ops Fs (Array.replicate n true ++ Array.replicate (ops.size - n) false) a → wpList P ops Q (ops.toList.drop n) a w) ((List.range n).map fun j => ((ops[j]?).bind (·.dst), Vs j)) a0 w) :
    ∀ (f : Nat) (listed : Array Bool) (a : Act) (w : World), RelInv ops S Vs a0 listed a w → HeadInv .any ops n listed → Apart ops Fs listed a → ((List.range n).filter fun j => !listed.getD j true).length = f →
      wpAny P .any ops Q (f + (ops.size - n)) listed a w := by
  have hacy := fun i o ho => ((relOk_spec hok).2 i o ho).2.1
  intro f
  induction f with
  | zero =>
    intro listed a w h hh hap hf
    have hl : ∀ j, j < n → listed.getD j true = true := fun j hj => by
      cases e : listed.getD j true with
      | true => rfl
      | false =>
        have : j ∈ (List.range n).filter fun j => !listed.getD j true := by
          rw [List.mem_filter, List.mem_range]
          exact ⟨hj, by rw [e]; rfl⟩
        have := List.length_pos_of_mem this
        omega
    have hlist : listed = Array.replicate n true ++ Array.replicate (ops.size - n) false := by
      have hsz := h.size
      refine Array.ext (by simp [hsz]; omega) fun j h1 h2 => ?_
      by_cases hj : j < n
      · have := hl j hj
        simp [h1] at this
        rw [this]
        simp [hj]
      · have := hh.tail j (by omega) (by omega)
        simp [h1] at this
        rw [this]
        rw [Array.getElem_append_right (by simp; omega)]
        simp
    have hq : Apart ops Fs (Array.replicate n true ++ Array.replicate (ops.size - n) false) a → wpList P ops Q (ops.toList.drop n) a w := by
      obtain ⟨a', h1, h2, h3, h4, h5⟩ := FinalFrom.inst a _ a0 w (hfin w h.s) h.tmps (fun p hp d hd => by
        obtain ⟨j, hj, rfl⟩ := List.mem_map.1 hp
        have hjz := List.mem_range.1 hj
        obtain ⟨o, ho, hdo⟩ := Option.bind_eq_some_iff.1 hd
        have := h.got j o ho (hl j hjz)
        rw [hdo] at this
        exact this)
      have : a' = a := by
        have hd : a'.defers = a.defers := by rw [h2, h.defers]
        have ht : a'.tmps = a.tmps := by
          refine Array.ext_getElem? fun t => ?_
          by_cases hx : ∃ (j : Nat) (o : Oper), j < n ∧ ops[j]? = some o ∧ o.dst = some t
          · obtain ⟨j, o, hj, ho, hd⟩ := hx
            exact h4 ((ops[j]?).bind (·.dst), Vs j) (List.mem_map.2 ⟨j, List.mem_range.2 hj, rfl⟩) t (by rw [ho]; exact hd)
          · rw [h5 t (fun p hp e => by
              obtain ⟨j, hj, rfl⟩ := List.mem_map.1 hp
              obtain ⟨o, ho, hdo⟩ := Option.bind_eq_some_iff.1 e
              exact hx ⟨j, o, List.mem_range.1 hj, ho, hdo⟩)]
            refine (h.old t fun j o ho hlj e => ?_).symm
            have hj : j < ops.size := (Array.getElem?_eq_some_iff.1 ho).1
            by_cases hjn : j < n
            · exact hx ⟨j, o, hjn, ho, e⟩
            · have := hh.tail j (by omega) hj
              rw [this] at hlj
              cases hlj
        cases a'
        cases a
        simp_all
      rw [← this]
      exact h1
    rw [Nat.zero_add]
    have hw := hq (by rw [← hlist]; exact hap)
    have hdl : (ops.toList.drop n).length = ops.size - n := by simp
    rw [← hdl]
    refine wpAny_of_seq (ops.toList.drop n) n listed a w (fun j => by simp) ?_ hw
    rw [hlist, hdl]
    exact hseq
  | succ f ih =>
    intro listed a w h hh hap hf
    have hex : ∃ i, i < n ∧ listed.getD i true = false := by
      cases e : ((List.range n).filter fun j => !listed.getD j true) with
      | nil => rw [e] at hf; cases hf
      | cons j js =>
        have : j ∈ (List.range n).filter fun j => !listed.getD j true := by rw [e]; simp
        rw [List.mem_filter, List.mem_range] at this
        exact ⟨j, this.1, by simpa using this.2⟩
    obtain ⟨i0, hi0, hun0⟩ := hex
    rw [show f + 1 + (ops.size - n) = (f + (ops.size - n)) + 1 by omega]
    refine ⟨fun hr => ?_, fun i hi => ?_⟩
    · have := all_listed h.size hacy hr (i0 + 1) i0 (by omega) (by omega)
      rw [hun0] at this
      cases this
    · have hin : i < n := Nat.lt_of_not_le fun hni => tail_waits hsink hchain hn hh (n - i0) i0 rfl hi0 hun0 i hni hi
      obtain ⟨hun, o, ho, _⟩ := mem_ready.1 hi
      refine wpOp_mono (fun a' w' h' => ?_) (h.step (Q := Q) hok hmono (fun o => hsteps i o hin) hi)
      obtain ⟨hrel, o', v, ho', rfl, hv⟩ := h'
      have : o' = o := by rw [ho] at ho'; injection ho' with ho'; exact ho'.symm
      subst this
      have hle := unlisted_exact hin hun
      refine ih _ _ _ hrel (hh.set hi hin) ?_ (by omega)
      have hsz : i < ops.size := (Array.getElem?_eq_some_iff.1 ho).1
      have hput : ∀ d (x : Nat) ox, ops[x]? = some ox → ox.dst = some d → x ≠ i → (a.put o'.dst v).tmps[d]? = a.tmps[d]? := fun d x ox hox hdx hne => by
        cases hd : o'.dst with
        | none => rfl
        | some d' =>
          have : d' ≠ d := fun e => ((relOk_spec hok).2 i o' ho).2.2.2 x ox hox hne d' hd (by rw [hdx, e])
          simp [Act.put, Array.getElem?_setIfInBounds_ne this]
      have hown : ∀ d, o'.dst = some d → (a.put o'.dst v).tmps[d]? = some v := fun d hd => by
        have : d < a.tmps.size := by rw [h.tmps]; exact ((relOk_spec hok).2 i o' ho).1 d hd
        rw [hd]
        simp [Act.put, this]
      have hcase : ∀ x, (listed.setIfInBounds i true).getD x true = true → x ≠ i → listed.getD x true = true := fun x hx hne => by
        rwa [getD_set_ne true (Ne.symm hne)] at hx
      -- the block of a making that has come up before lies below
      have hbelow : ∀ x ox d, x ∈ Fs → ops[x]? = some ox → ox.dst = some d → listed.getD x true = true → ∃ g, a.tmps[d]? = some (.pointer (some ⟨g, 0, none⟩)) ∧ g < w.heap.size := fun x ox d hx hox hdx hlx => by
        have hg := h.got x ox hox hlx
        rw [hdx] at hg
        obtain ⟨y, hy, hvy⟩ := hg
        obtain ⟨g, rfl, hg⟩ := hold x hx y w hvy
        exact ⟨g, hy, hg⟩
      have hnew : i ∈ Fs → v = .pointer (some ⟨w.heap.size, 0, none⟩) := fun hi => by
        obtain ⟨o2, obj, ho2, hg2, hr2⟩ := hFs i hi
        have : o2 = o' := by rw [ho] at ho2; injection ho2 with ho2; exact ho2.symm
        subst this
        exact hv ⟨obj, hg2, hr2⟩
      intro x y ox oy d e hx hy hne hox hoy hlx hly hdx hdy
      by_cases hxi : x = i
      · subst hxi
        have : ox = o' := by rw [ho] at hox; injection hox with hox; exact hox.symm
        subst this
        rw [hown d hdx, hput e y oy hoy hdy (Ne.symm hne)]
        obtain ⟨g, hg, hlt⟩ := hbelow y oy e hy hoy hdy (hcase y hly (Ne.symm hne))
        rw [hg, hnew hx]
        intro he
        injection he with he
        injection he with he
        injection he with he
        injection he with he
        omega
      · rw [hput d x ox hox hdx hxi]
        by_cases hyi : y = i
        · subst hyi
          have : oy = o' := by rw [ho] at hoy; injection hoy with hoy; exact hoy.symm
          subst this
          rw [hown e hdy]
          obtain ⟨g, hg, hlt⟩ := hbelow x ox d hx hox hdx (hcase x hlx hne)
          rw [hg, hnew hy]
          intro he
          injection he with he
          injection he with he
          injection he with he
          injection he with he
          omega
        · rw [hput e y oy hoy hdy hyi]
          exact hap x y ox oy d e hx hy hne hox hoy (hcase x hlx hxi) (hcase y hly hyi) hdx hdy
/-! The obligations one by one. -/
def Vl (Vs : List (Value → World → Prop)) (j : Nat) : Value → World → Prop := Vs.getD j (fun _ _ => True)
def MonoL (S : World → Prop) (R : World → World → Prop) : List (Value → World → Prop) → Prop
  | [] => True
  | V :: Vs => (∀ x w w', S w → S w' → R w w' → V x w → V x w') ∧ MonoL S R Vs
theorem MonoL.get {Vs : List (Value → World → Prop)} (h : MonoL S R Vs) : ∀ j x w w', S w → S w' → R w w' → Vl Vs j x w → Vl Vs j x w' := by
  induction Vs with
  | nil => intro j x w w' _ _ _ _; simp [Vl]
  | cons V Vs ih =>
    intro j
    cases j with
    | zero => exact h.1
    | succ j => simpa [Vl] using ih h.2 j
theorem MonoL.nil : MonoL S R [] := trivial
theorem MonoL.cons {V : Value → World → Prop} {Vs : List (Value → World → Prop)} (h : ∀ x w w', S w → S w' → R w w' → V x w → V x w') (t : MonoL S R Vs) : MonoL S R (V :: Vs) := ⟨h, t⟩
/-- What a proof must know of an operation. -/
structure Row where
  dst : Option Tmp
  op : Op
  guard : Option (Option Tmp × Bool)
  deps : List (Tmp × Nat)
def rowOf (ops : Array Oper) (o : Oper) : Row := ⟨o.dst, o.op, gOf ops o, depsOf ops o⟩
/-- the obligations of the rows 'ts', number k on -/
def StepsT (P : Program) (S : World → Prop) (R : World → World → Prop) (Vs : List (Value → World → Prop)) (a0 : Act) : List Row → Nat → Prop
  | [], _ => True
  | t :: ts, k => (∀ o : Oper, o.op = t.op → o.dst = t.dst → ∀ w, S w → StepFrom P S R o (Vl Vs k) t.guard (t.deps.map fun p => (p.1, Vl Vs p.2)) a0 w) ∧ StepsT P S R Vs a0 ts (k + 1)
theorem StepsT.get {Vs : List (Value → World → Prop)} {a0 : Act} : ∀ (os : List Oper) (ts : List Row) (k : Nat), StepsT P S R Vs a0 ts k → ts = os.map (rowOf ops) →
    ∀ i o, os[i]? = some o → ∀ w, S w → StepFrom P S R o (Vl Vs (k + i)) (gOf ops o) ((depsOf ops o).map fun p => (p.1, Vl Vs p.2)) a0 w
  | [], _, _, _, _, i, o, ho => by simp at ho
  | q :: os, [], _, _, e, _, _, _ => by simp at e
  | q :: os, t :: ts, k, h, e, i, o, ho => by
    rw [List.map_cons] at e
    injection e with e1 e2
    cases i with
    | zero =>
      simp at ho
      subst ho
      have := h.1 q (by rw [e1]; rfl) (by rw [e1]; rfl)
      rw [e1] at this
      exact this
    | succ i =>
      have := StepsT.get os ts (k + 1) h.2 e2 i o (by simpa using ho)
      rwa [Nat.add_right_comm, Nat.add_assoc] at this
theorem StepsT.nil {Vs : List (Value → World → Prop)} {a0 : Act} {k : Nat} : StepsT P S R Vs a0 [] k := trivial
theorem StepsT.cons {Vs : List (Value → World → Prop)} {a0 : Act} {dst : Option Tmp} {op : Op} {g : Option (Option Tmp × Bool)} {d : List (Tmp × Nat)} {ts : List Row} {k : Nat}
    (V : Value → World → Prop) (U : List (Tmp × (Value → World → Prop))) (hV : Vl Vs k = V) (hU : (d.map fun p => (p.1, Vl Vs p.2)) = U)
    (h : ∀ o : Oper, o.op = op → o.dst = dst → ∀ w, S w → StepFrom P S R o V g U a0 w) (t : StepsT P S R Vs a0 ts (k + 1)) : StepsT P S R Vs a0 (⟨dst, op, g, d⟩ :: ts) k := ⟨by rw [hV, hU]; exact h, t⟩
theorem wp_region_tab {id : Nat} {a0 : Act} {w : World} {os : List Oper} (S : World → Prop) (R : World → World → Prop) (Vs : List (Value → World → Prop)) (T : List Row) (F : List (Option Tmp))
    (hm : P.follows .mixedOrders = true) (hok : relOk os.toArray a0.tmps.size = true) (hT : os.map (rowOf os.toArray) = T) (hF : os.map Oper.dst = F) (hl : Vs.length = os.length) (hS : S w.drew)
    (hmono : MonoL S R Vs) (hsteps : StepsT P S R Vs a0 T 0) (hfin : ∀ w, S w → FinalFrom Q (F.zip Vs) a0 w) : (Code.region id os.toArray true).wp P Q a0 w :=
  wp_region_rel (Vs := Vl Vs) hm hok hS hmono.get (fun i o ho w hs => by
    have := StepsT.get os T 0 hsteps hT.symm i o (by simpa using ho) w hs
    rwa [Nat.zero_add] at this) (fun w hs => by
    have e : ((List.range os.toArray.size).map fun j => ((os.toArray[j]?).bind (·.dst), Vl Vs j)) = F.zip Vs := by
      rw [← hF]
      refine List.ext_getElem (by simp [hl]) fun j h1 h2 => ?_
      have hj : j < os.length := by simpa using h1
      have hj2 : j < Vs.length := by omega
      simp [hj, hj2, Vl]
    rw [e]
    exact hfin w hs)
/-- which operations are makings: (number, type, what is made) -/
def allocOk (ops : Array Oper) (As : List (Nat × TypeId × Obj)) : Bool := As.all fun p => match ops[p.1]? with
  | some o => o.guard.isNone && (match o.op with | .alloc t => t == p.2.1 | _ => false)
  | none => false
def tailOk (ops : Array Oper) (n : Nat) : Bool := decide (n < ops.size) && Region.sinkB .any ops n && Region.chainB .any ops n && Region.seqB .any ops (ops.size - n) n (Array.replicate n true ++ Array.replicate (ops.size - n) false)
def pairOk (ops : Array Oper) (As : List (Nat × TypeId × Obj)) (n : Nat) (PT : List (Tmp × Tmp)) : Bool := PT.all fun p => As.any fun i => As.any fun j =>
  i.1 != j.1 && decide (i.1 < n) && decide (j.1 < n) && ((ops[i.1]?).bind (·.dst) == some p.1) && ((ops[j.1]?).bind (·.dst) == some p.2)
theorem wp_region_tail {id : Nat} {a0 : Act} {w : World} {os : List Oper} (n : Nat) (S : World → Prop) (R : World → World → Prop) (Vs : List (Value → World → Prop)) (T : List Row) (F : List (Option Tmp)) (As : List (Nat × TypeId × Obj)) (PT : List (Tmp × Tmp))
    (hm : P.follows .mixedOrders = true) (hok : relOk os.toArray a0.tmps.size = true) (hT : (os.take n).map (rowOf os.toArray) = T) (hF : (os.take n).map Oper.dst = F) (hl : Vs.length = n) (ht : tailOk os.toArray n = true) (hA : allocOk os.toArray As = true) (hP : pairOk os.toArray As n PT = true)
    (hrun : ∀ p ∈ As, ∀ w, (Instr.alloc p.2.1 true (.tuple #[])).run P w = .ok (.pointer (some ⟨w.heap.size, 0, none⟩)) (w.alloc p.2.2))
    (hold : ∀ p ∈ As, ∀ x w, Vl Vs p.1 x w → ∃ g, x = .pointer (some ⟨g, 0, none⟩) ∧ g < w.heap.size)
    (hS : S w.drew) (hmono : MonoL S R Vs) (hsteps : StepsT P S R Vs a0 T 0)
    (hfin : ∀ w, S w → FinalFrom (fun _ a w => (∀ p ∈ PT, a.tmps[p.1]? ≠ a.tmps[p.2]?) → wpList P os.toArray Q (os.drop n) a w) (F.zip Vs) a0 w) : (Code.region id os.toArray true).wp P Q a0 w := by
  unfold tailOk at ht
  simp only [Bool.and_eq_true, decide_eq_true_eq] at ht
  obtain ⟨⟨⟨hn, hsink⟩, hchain⟩, hseq⟩ := ht
  have hn' : n < os.length := by simpa using hn
  have hnone : ∀ j, (Array.replicate os.toArray.size false).getD j true = true → os.toArray.size ≤ j := fun j hj => by
    rcases Nat.lt_or_ge j os.toArray.size with h | h
    · rw [Array.getD_eq_getD_getElem?, Array.getElem?_replicate, if_pos h] at hj
      cases hj
    · exact h
  have hst := wpAny_tail (P := P) (Q := Q) (R := R) (Vs := Vl Vs) (S := S) (Fs := As.map (·.1)) hok hsink hchain hn hseq
    (fun i hi => by
      obtain ⟨p, hp, rfl⟩ := List.mem_map.1 hi
      have := List.all_eq_true.1 hA p hp
      cases ho : os.toArray[p.1]? with
      | none => rw [ho] at this; cases this
      | some o =>
        rw [ho] at this
        simp only [Bool.and_eq_true, Option.isNone_iff_eq_none] at this
        refine ⟨o, p.2.2, rfl, this.1, fun ρ w => ?_⟩
        have h2 := this.2
        split at h2
        · rename_i t heq
          have ht : t = p.2.1 := by simpa using h2
          unfold execOp
          rw [heq, ht]
          simp only [Sem.run_bind, hrun p hp w]
          rfl
        · cases h2)
    (fun i hi x w hv => by
      obtain ⟨p, hp, rfl⟩ := List.mem_map.1 hi
      exact hold p hp x w hv) hmono.get
    (fun i o hin ho w hs => by
      have := StepsT.get (ops := os.toArray) (os.take n) T 0 hsteps hT.symm i o (by rw [List.getElem?_take_of_lt hin]; simpa using ho) w hs
      rwa [Nat.zero_add] at this)
    (fun w hs => by
      have e : ((List.range n).map fun j => ((os.toArray[j]?).bind (·.dst), Vl Vs j)) = F.zip Vs := by
        rw [← hF]
        refine List.ext_getElem (by simp [hl]; omega) fun j h1 h2 => ?_
        have hj : j < n := by simpa using h1
        have hj2 : j < Vs.length := by omega
        have hj3 : j < os.length := by omega
        simp [hj2, hj3, Vl]
      rw [e]
      have lift : ∀ (D : List (Option Tmp × (Value → World → Prop))) (a : Act), FinalFrom (fun _ a w => (∀ p ∈ PT, a.tmps[p.1]? ≠ a.tmps[p.2]?) → wpList P os.toArray Q (os.drop n) a w) D a w →
          FinalFrom (fun _ a w => Apart os.toArray (As.map (·.1)) (Array.replicate n true ++ Array.replicate (os.toArray.size - n) false) a → wpList P os.toArray Q (os.toArray.toList.drop n) a w) D a w := by
        intro D
        induction D with
        | nil =>
          intro a h hap
          refine h fun p hp => ?_
          have := List.all_eq_true.1 hP p hp
          obtain ⟨i, hi, h1⟩ := List.any_eq_true.1 this
          obtain ⟨j, hj, h2⟩ := List.any_eq_true.1 h1
          simp only [Bool.and_eq_true, bne_iff_ne, decide_eq_true_eq, beq_iff_eq] at h2
          obtain ⟨⟨⟨⟨h3, h4⟩, h5⟩, h6⟩, h7⟩ := h2
          obtain ⟨oi, hoi, hdi⟩ := Option.bind_eq_some_iff.1 h6
          obtain ⟨oj, hoj, hdj⟩ := Option.bind_eq_some_iff.1 h7
          have hcan : ∀ k, k < n → (Array.replicate n true ++ Array.replicate (os.toArray.size - n) false).getD k true = true := fun k hk => by
            rw [Array.getD_eq_getD_getElem?, Array.getElem?_append_left (by simpa using hk), Array.getElem?_replicate, if_pos hk]
            rfl
          exact hap i.1 j.1 oi oj p.1 p.2 (List.mem_map.2 ⟨i, hi, rfl⟩) (List.mem_map.2 ⟨j, hj, rfl⟩) h3 hoi hoj (hcan _ h4) (hcan _ h5) hdi hdj
        | cons q D ih =>
          intro a h
          obtain ⟨d, U⟩ := q
          cases d with
          | none => exact ih a h
          | some d => exact fun x hx => ih _ (h x hx)
      exact lift _ _ (hfin w hs))
    n (Array.replicate os.toArray.size false) a0 w.drew
    ⟨by simp, hS, rfl, rfl, fun _ _ => rfl, fun j oj hoj hl => by
      have := hnone j hl
      have hj : j < os.toArray.size := (Array.getElem?_eq_some_iff.1 hoj).1
      omega⟩
    ⟨by simp, fun j oj hj hl => (by rw [getD_replicate_false] at hl; cases hl), fun t _ ht => by
      rw [Array.getD_eq_getD_getElem?, Array.getElem?_replicate, if_pos ht]
      rfl⟩
    (fun i j oi oj d e _ _ _ hoi _ hli _ _ _ => by
      have := hnone i hli
      have hj : i < os.toArray.size := (Array.getElem?_eq_some_iff.1 hoi).1
      omega)
    (by
      have : ((List.range n).filter fun j => !(Array.replicate os.toArray.size false).getD j true) = List.range n := by
        rw [List.filter_eq_self]
        intro j hj
        have hjn := List.mem_range.1 hj
        rw [Array.getD_eq_getD_getElem?, Array.getElem?_replicate, if_pos (by omega)]
        rfl
      rw [this, List.length_range])
  rw [show n + (os.toArray.size - n) = os.toArray.size by omega] at hst
  exact wp_region_any hm hst
theorem FinalFrom.more {U : Value → World → Prop} {d : Tmp} {rest : List (Option Tmp × (Value → World → Prop))} {a : Act} {w : World} (h : ∀ x, U x w → FinalFrom Q rest (a.put (some d) x) w) : FinalFrom Q ((some d, U) :: rest) a w := h
theorem FinalFrom.done {a : Act} {w : World} (h : Q .normal a w) : FinalFrom Q [] a w := h
/-! The kinds of operations. -/
variable {o : Oper} {V : Value → World → Prop} {g : Option (Option Tmp × Bool)} {a : Act} {w : World}
theorem StepFrom.more {U : Value → World → Prop} {d : Tmp} {rest : List (Tmp × (Value → World → Prop))} (h : ∀ x, U x w → StepFrom P S R o V g rest (a.put (some d) x) w) :
    StepFrom P S R o V g ((d, U) :: rest) a w := h
theorem StepFrom.more_eq {d : Tmp} {rest : List (Tmp × (Value → World → Prop))} (v : Value) (h : StepFrom P S R o V g rest (a.put (some d) v) w) :
    StepFrom P S R o V g ((d, fun x _ => x = v) :: rest) a w := fun x e => by
  have e : x = v := e
  rw [e]
  exact h
theorem StepFrom.off (hg : gOn g a = false) (hS : S w) (hR : R w w) (hV : V undef w) : StepFrom P S R o V g [] a w := fun K Q hK => by
  rw [if_neg (by rw [hg]; simp)]
  exact hK.out _ _ hS hR hV
theorem StepFrom.ran {v : Value} (hrun : (execOp a.eval o).run P w = .ok (.value v) w) (hg : gOn g a = true) (hS : S w) (hR : R w w) (hV : V v w) : StepFrom P S R o V g [] a w := fun K Q hK => by
  rw [if_pos hg]
  unfold Oper.wp
  rw [hrun]
  exact hK.out _ _ hS hR hV
theorem StepFrom.made {v : Value} {w' : World} (hrun : (execOp a.eval o).run P w = .ok (.value v) w') (hg : gOn g a = true) (hS : S w') (hR : R w w') (hV : V v w') : StepFrom P S R o V g [] a w := fun K Q hK => by
  rw [if_pos hg]
  unfold Oper.wp
  rw [hrun]
  exact hK.out _ _ hS hR hV
theorem StepFrom.move {x : Operand} (hop : o.op = .move x) {v : Value} (he : a.eval x = v) (hg : gOn g a = true) (hS : S w) (hR : R w w) (hV : V v w) : StepFrom P S R o V g [] a w :=
  StepFrom.ran (v := v) (by unfold execOp; rw [hop, ← he]; rfl) hg hS hR hV
theorem StepFrom.assign {x : Operand} (hop : o.op = .assign x) {v : Value} (he : a.eval x = v) (hg : gOn g a = true) (hS : S w) (hR : R w w) (hV : V v w) : StepFrom P S R o V g [] a w :=
  StepFrom.ran (v := v) (by unfold execOp; rw [hop, ← he]; rfl) hg hS hR hV
theorem StepFrom.pick {c x y : Operand} (hop : o.op = .pick c x y) {b : Bool} {vx vy : Value} (hc : a.eval c = .bool b) (hx : a.eval x = vx) (hy : a.eval y = vy) (hg : gOn g a = true) (hS : S w) (hR : R w w)
    (hV : V (if b then vx else vy) w) : StepFrom P S R o V g [] a w :=
  StepFrom.ran (v := if b then vx else vy) (by unfold execOp; simp only [hop, hc, hx, hy]; rfl) hg hS hR hV
theorem StepFrom.not {x : Operand} {t : TypeId} (hop : o.op = .unOp .not t x) {b : Bool} (hx : a.eval x = .bool b) (hg : gOn g a = true) (hS : S w) (hR : R w w)
    (hV : V (.bool (!b)) w) : StepFrom P S R o V g [] a w :=
  StepFrom.ran (v := .bool (!b)) (by unfold execOp; simp only [hop, hx]; rfl) hg hS hR hV
theorem StepFrom.load {x : Operand} {t : TypeId} (hop : o.op = .load t x) {p v : Value} (hx : a.eval x = p) (hrun : (Instr.loadAt t p).run P w = .ok v w) (hg : gOn g a = true) (hS : S w) (hR : R w w)
    (hV : V v w) : StepFrom P S R o V g [] a w :=
  StepFrom.ran (v := v) (by unfold execOp; simp only [hop, hx]; simp only [Sem.run_bind, hrun]; rfl) hg hS hR hV
theorem StepFrom.call {f : FuncId} {as : List Operand} {ats : Array TypeId} (hop : o.op = .call { callee := .value (.func f), args := as.toArray, argTypes := ats }) {vs : List Value} (hx : as.map a.eval = vs)
    (hf : ∀ w, (callFunc f vs.toArray).run P w = .ok (.enter f vs.toArray) w) (hg : gOn g a = true) (hC : Calls P f vs.toArray w fun e w' => ∃ v, e = .returned v ∧ S w' ∧ R w w' ∧ V v w') : StepFrom P S R o V g [] a w := fun K Q hK => by
  rw [if_pos hg]
  have ef : a.eval (.func f) = .func (.func f) #[] #[] := rfl
  have he : execOp a.eval o = callFunc f (as.map a.eval).toArray := by
    unfold execOp
    simp [hop, resolve, Deferred.ofValue, invoke, ef]
  unfold Oper.wp
  rw [he, hx, hf]
  refine Calls.mono hC fun e w' h => ?_
  obtain ⟨v, rfl, h1, h2, h3⟩ := h
  exact hK.out _ _ h1 h2 h3
theorem StepFrom.alloc {t : TypeId} (hop : o.op = .alloc t) {obj : Obj} (hrun : ∀ w, (Instr.alloc t true (.tuple #[])).run P w = .ok (.pointer (some ⟨w.heap.size, 0, none⟩)) (w.alloc obj)) (hg : gOn g a = true)
    (hS : S (w.alloc obj)) (hR : R w (w.alloc obj)) (hV : V (.pointer (some ⟨w.heap.size, 0, none⟩)) (w.alloc obj)) : StepFrom P S R o V g [] a w :=
  StepFrom.made (v := .pointer (some ⟨w.heap.size, 0, none⟩)) (w' := w.alloc obj) (by unfold execOp; rw [hop]; simp only [Sem.run_bind, hrun w]; rfl) hg hS hR hV
theorem StepFrom.bin {x y : Operand} {op : BinOp} {t t' : TypeId} (hop : o.op = .binOp op t x y t') {vx vy v : Value} (hx : a.eval x = vx) (hy : a.eval y = vy)
    (hrun : (do eqGuard op t x y vx vy; binOp op t vx vy : Sem Value).run P w = .ok v w) (hg : gOn g a = true) (hS : S w) (hR : R w w) (hV : V v w) : StepFrom P S R o V g [] a w :=
  StepFrom.ran (v := v) (by unfold execOp; simp only [hop, hx, hy]; simp only [Sem.run_bind, hrun]; rfl) hg hS hR hV
end
end Go.Proofs.YtfgnnbpbbnnnhaaDoor
namespace Go.Proofs.YtfgnnbpbbnnnhaaDoor
open Go
section
variable {P : Program} {ops : Array Oper} {S : World → Prop} {R : World → World → Prop} {Vs : Nat → Value → World → Prop} {Q : Exit → Act → World → Prop}
section
variable {P : Program} {S S' : World → Prop} {R R' R'' : World → World → Prop} {Vs Vs' : List (Value → World → Prop)} {Q : Exit → Act → World → Prop}
end
end
end Go.Proofs.YtfgnnbpbbnnnhaaDoor
namespace Go.Proofs.YtfgnnbpbbnnnhaaDoor
open Go
section
variable {P : Program} {S : World → Prop} {R : World → World → Prop}
end
/-- facts on pairs: operations' numbers, and what holds of their values -/
structure Pr where
  i : Nat
  j : Nat
  D : Value → Value → Prop
section
variable {P : Program} {ops : Array Oper} {S : World → Prop} {R : World → World → Prop} {Vs : Nat → Value → World → Prop} {Ns : Nat → World → Value → Prop} {prs : List Pr} {Q : Exit → Act → World → Prop}
theorem RelInv.step3 {S' : World → Prop} {Vs' : Nat → Value → World → Prop} {a0 : Act} {listed : Array Bool} {a : Act} {w : World} {i : Nat} (hok : relOk ops a0.tmps.size = true)
    (hmono : ∀ j x w w', j < ops.size → listed.getD j true = true → S w → S' w' → R w w' → Vs j x w → Vs' j x w')
    (hinst : ∀ o, ops[i]? = some o → (∀ p ∈ (depsOf ops o).map (fun p => (p.1, Vs p.2)), ∃ x, a.tmps[p.1]? = some x ∧ p.2 x w) → ∃ a', StepFrom P S' R o (Vs' i) (gOf ops o) [] a' w ∧ a'.defers = a0.defers ∧ a'.tmps.size = a0.tmps.size ∧ (∀ p ∈ (depsOf ops o).map (fun p => (p.1, Vs p.2)), a'.tmps[p.1]? = a.tmps[p.1]?) ∧ ∀ t, (∀ p ∈ (depsOf ops o).map (fun p => (p.1, Vs p.2)), p.1 ≠ t) → a'.tmps[t]? = a0.tmps[t]?)
    (h : RelInv ops S Vs a0 listed a w) (hi : i ∈ Region.ready .any ops listed) :
    wpOp P ops Q i (fun a' w' => RelInv ops S' Vs' a0 (listed.setIfInBounds i true) a' w' ∧ ∃ o v, ops[i]? = some o ∧ a' = a.put o.dst v ∧ ((∃ obj, o.guard = none ∧ ∀ ρ w, (execOp ρ o).run P w = .ok (.value (.pointer (some ⟨w.heap.size, 0, none⟩))) (w.alloc obj)) → v = .pointer (some ⟨w.heap.size, 0, none⟩))) a w := by
  obtain ⟨hsel, hall⟩ := relOk_spec hok
  obtain ⟨hun, o, ho, hafter⟩ := mem_ready.1 hi
  obtain ⟨hd0, _, hdeps, hdist⟩ := hall i o ho
  have hisz : i < ops.size := (Array.getElem?_eq_some_iff.1 ho).1
  have hlist : ∀ d j, (d, j) ∈ depsOf ops o → listed.getD j true = true := fun d j hj => by
    obtain ⟨e, he, hb, rfl⟩ := hdeps d j hj
    have := hafter e he hb
    rcases Nat.lt_or_ge e.on listed.size with h' | h'
    · simp [h'] at this ⊢
      exact this
    · simp [Array.getElem?_eq_none h'] at this
  have hz : a.tmps.size = a0.tmps.size := h.tmps
  obtain ⟨a', h1, h2, h3, h4, h5⟩ := hinst o ho (fun p hp => by
    obtain ⟨q, hq, rfl⟩ := List.mem_map.1 hp
    obtain ⟨d, j⟩ := q
    obtain ⟨hj1, hj2, hj3⟩ := mem_deps.1 hq
    obtain ⟨oj, hoj, hdj⟩ := Option.bind_eq_some_iff.1 hj2
    have := h.got j oj hoj (hlist d j hq)
    rw [hdj] at this
    exact this)
  have hlook : ∀ d ∈ o.looksAt ops, a.tmps[d]? = a'.tmps[d]? := fun d hd => by
    by_cases hx : ∃ j, (d, j) ∈ depsOf ops o
    · obtain ⟨j, hj⟩ := hx
      exact (h4 (d, Vs j) (List.mem_map.2 ⟨(d, j), hj, rfl⟩)).symm
    · rw [h5 d (fun p hp e => by
        obtain ⟨q, hq, rfl⟩ := List.mem_map.1 hp
        obtain ⟨d', j⟩ := q
        simp only at e
        subst e
        exact hx ⟨j, hq⟩)]
      refine h.old d fun j oj hoj _ e => hx ⟨j, mem_deps.2 ⟨(Array.getElem?_eq_some_iff.1 hoj).1, ?_, hd⟩⟩
      rw [hoj]
      exact e
  have hexec := exec_same o (Region.noSelect_spec hsel i o · · ho) a a' hlook
  have hwant := wanted_same (ops := ops) o a.tmps a'.tmps hlook
  have hset : (listed.setIfInBounds i true).size = ops.size := by simpa using h.size
  -- what follows, of the frame at hand
  have next : ∀ v w', S' w' → R w w' → (∀ d, o.dst = some d → Vs' i v w') → RelInv ops S' Vs' a0 (listed.setIfInBounds i true) (a.put o.dst v) w' := fun v w' hs hr hv => by
    have hcase : ∀ j, (listed.setIfInBounds i true).getD j true = true → j = i ∨ listed.getD j true = true := fun j hj => by
      by_cases e : j = i
      · exact Or.inl e
      · exact Or.inr (by rwa [getD_set_ne true (Ne.symm e)] at hj)
    have hone : (listed.setIfInBounds i true).getD i true = true := by simp
    have hkeep : ∀ j, listed.getD j true = true → (listed.setIfInBounds i true).getD j true = true := fun j hj => by
      by_cases e : j = i
      · rw [e]; exact hone
      · rw [getD_set_ne true (Ne.symm e)]; exact hj
    refine ⟨hset, hs, ?_, ?_, fun t ht => ?_, fun j oj hoj hj => ?_⟩
    · rw [← h.defers]
      cases o.dst <;> rfl
    · rw [← hz]
      cases o.dst <;> simp [Act.put]
    · have hti : o.dst ≠ some t := ht i o ho hone
      rw [← h.old t fun j oj hoj hj => ht j oj hoj (hkeep j hj)]
      cases hd : o.dst with
      | none => rfl
      | some d =>
        have : d ≠ t := fun e => hti (by rw [hd, e])
        simp [Act.put, Array.getElem?_setIfInBounds_ne this]
    · by_cases e : j = i
      · subst e
        have : oj = o := by rw [ho] at hoj; injection hoj with hoj; exact hoj.symm
        subst this
        cases hd : oj.dst with
        | none => trivial
        | some d =>
          refine ⟨v, ?_, hv d hd⟩
          have : d < a.tmps.size := by rw [hz]; exact hd0 d hd
          simp [Act.put, this]
      · have hj' := (hcase j hj).resolve_left e
        have hg := h.got j oj hoj hj'
        cases hd : oj.dst with
        | none => trivial
        | some d =>
          rw [hd] at hg
          obtain ⟨x, hx1, hx2⟩ := hg
          refine ⟨x, ?_, hmono j x w w' (Array.getElem?_eq_some_iff.1 hoj).1 hj' h.s hs hr hx2⟩
          rw [← hx1]
          cases hdo : o.dst with
          | none => rfl
          | some d' =>
            have : d' ≠ d := fun e' => hdist j oj hoj e d' hdo (by rw [hd, e'])
            simp [Act.put, Array.getElem?_setIfInBounds_ne this]
  unfold wpOp
  simp only [ho]
  have H := h1 (fun b w' => S' w' ∧ R w w' ∧ b.defers = a'.defers ∧ Got o.dst (Vs' i) b w') (fun _ _ _ => False) (fun v w' p1 p2 p3 => ⟨p1, p2, by cases o.dst <;> rfl, by
    cases hd : o.dst with
    | none => trivial
    | some d =>
      have hlt : d < a'.tmps.size := by rw [h3]; exact hd0 d hd
      exact ⟨v, by simp [Act.put, hlt], p3⟩⟩)
  rw [gOn_of] at H
  have hput : ∀ v w', (S' w' ∧ R w w' ∧ (a'.put o.dst v).defers = a'.defers ∧ Got o.dst (Vs' i) (a'.put o.dst v) w') → RelInv ops S' Vs' a0 (listed.setIfInBounds i true) (a.put o.dst v) w' := fun v w' ⟨p1, p2, _, p4⟩ =>
    next v w' p1 p2 fun d hd => by
      rw [hd] at p4
      obtain ⟨x, hx, hv⟩ := p4
      have hlt : d < a'.tmps.size := by rw [h3]; exact hd0 d hd
      simp [Act.put, hlt] at hx
      rw [hx]
      exact hv
  rw [← hwant] at H
  by_cases hw : Region.wanted o (yielded ops a.tmps) = true
  · rw [if_pos hw] at H ⊢
    left
    unfold Oper.wp at H ⊢
    rw [hexec]
    have hal : ∀ v w', (execOp a'.eval o).run P w = .ok (.value v) w' → (∃ obj, o.guard = none ∧ ∀ ρ w, (execOp ρ o).run P w = .ok (.value (.pointer (some ⟨w.heap.size, 0, none⟩))) (w.alloc obj)) → v = .pointer (some ⟨w.heap.size, 0, none⟩) := fun v w' e ⟨obj, _, hr⟩ => by
      rw [hr] at e
      injection e with e _
      injection e with e
      exact e.symm
    have hno : ∀ n w', (execOp a'.eval o).run P w = .ok n w' → (∀ v, n ≠ .value v) → ¬ ∃ obj, o.guard = none ∧ ∀ ρ w, (execOp ρ o).run P w = .ok (.value (.pointer (some ⟨w.heap.size, 0, none⟩))) (w.alloc obj) := fun n w' e hn ⟨obj, _, hr⟩ => by
      rw [hr] at e
      injection e with e _
      exact hn _ e.symm
    generalize (execOp a'.eval o).run P w = r at *
    cases r with
    | ok n w' =>
      cases n <;> simp only [Oper.upon] at H ⊢
      case value u => exact ⟨hput _ _ H, o, u, rfl, rfl, hal u w' rfl⟩
      case skip => exact ⟨hput _ _ H, o, undef, rfl, rfl, fun h => absurd h (hno _ w' rfl (fun v e => by cases e))⟩
      case defer d =>
        obtain ⟨_, _, h7, _⟩ := H
        exfalso
        cases hd : o.dst <;> rw [hd] at h7 <;> simp [Act.put] at h7
      case enter f args =>
        refine Calls.mono H fun e w'' he => ?_
        cases e with
        | returned u => exact ⟨hput _ _ he, o, u, rfl, rfl, fun h => absurd h (hno _ w' rfl (fun v e => by cases e))⟩
        | panicked c => exact (he : False).elim
        | outgrown =>
          obtain ⟨_, _, hf⟩ := (he : LetsOut _)
          exact (hf : False).elim
      case row row args => exact Rows.mono H fun u w'' he => ⟨hput _ _ he, o, u, rfl, rfl, fun h => absurd h (hno _ w' rfl (fun v e => by cases e))⟩
    | halt x w' =>
      cases x <;> simp only [Oper.upon] at H
  · rw [if_neg hw] at H ⊢
    refine ⟨hput _ _ H, o, undef, rfl, rfl, fun ⟨obj, hg, _⟩ => ?_⟩
    exfalso
    apply hw
    unfold Region.wanted
    rw [hg]
def full (ops : Array Oper) (n : Nat) : Array Bool := Array.replicate n true ++ Array.replicate (ops.size - n) false
theorem full_listed {n j : Nat} (h : (full ops n).getD j true = true) (hj : j < ops.size) : j < n := by
  rcases Nat.lt_or_ge j n with h' | h'
  · exact h'
  · unfold full at h
    rw [Array.getD_eq_getD_getElem?, Array.getElem?_append_right (by simpa using h'), Array.getElem?_replicate, if_pos (by simp; omega)] at h
    cases h
theorem full_get {n j : Nat} (hj : j < n) : (full ops n).getD j true = true := by
  unfold full
  rw [Array.getD_eq_getD_getElem?, Array.getElem?_append_left (by simpa using hj), Array.getElem?_replicate, if_pos hj]
  rfl
/-- the frame when all of the head have come up, out of what is said of each value -/
theorem RelInv.finish {a0 : Act} {n : Nat} {a : Act} {w : World} {Q' : Act → World → Prop} (h : RelInv ops S Vs a0 (full ops n) a w) (hfin : FinalFrom (fun _ a w => Q' a w) ((List.range n).map fun j => ((ops[j]?).bind (·.dst), Vs j)) a0 w) : Q' a w := by
  obtain ⟨a', h1, h2, h3, h4, h5⟩ := FinalFrom.inst a _ a0 w hfin h.tmps (fun p hp d hd => by
    obtain ⟨j, hj, rfl⟩ := List.mem_map.1 hp
    have hjz := List.mem_range.1 hj
    obtain ⟨o, ho, hdo⟩ := Option.bind_eq_some_iff.1 hd
    have := h.got j o ho (full_get hjz)
    rw [hdo] at this
    exact this)
  have : a' = a := by
    have hd : a'.defers = a.defers := by rw [h2, h.defers]
    have ht : a'.tmps = a.tmps := by
      refine Array.ext_getElem? fun t => ?_
      by_cases hx : ∃ (j : Nat) (o : Oper), j < n ∧ ops[j]? = some o ∧ o.dst = some t
      · obtain ⟨j, o, hj, ho, hd⟩ := hx
        exact h4 ((ops[j]?).bind (·.dst), Vs j) (List.mem_map.2 ⟨j, List.mem_range.2 hj, rfl⟩) t (by rw [ho]; exact hd)
      · rw [h5 t (fun p hp e => by
          obtain ⟨j, hj, rfl⟩ := List.mem_map.1 hp
          obtain ⟨o, ho, hdo⟩ := Option.bind_eq_some_iff.1 e
          exact hx ⟨j, o, List.mem_range.1 hj, ho, hdo⟩)]
        refine (h.old t fun j o ho hlj e => ?_).symm
        have hj : j < ops.size := (Array.getElem?_eq_some_iff.1 ho).1
        exact hx ⟨j, o, full_listed hlj hj, ho, e⟩
    cases a'
    cases a
    simp_all
  rw [← this]
  exact h1
end
/-! The obligations one by one. -/
section
variable {P : Program} {S S' : World → Prop} {R R' R'' : World → World → Prop} {Vs Vs' : List (Value → World → Prop)} {Ns : List (Nat × (World → Value → Prop))} {prs : List Pr} {Q : Exit → Act → World → Prop}
theorem none_listed {n : Nat} : ∀ j, (Array.replicate n false).getD j true = true → n ≤ j := fun j hj => by
  rcases Nat.lt_or_ge j n with h | h
  · rw [Array.getD_eq_getD_getElem?, Array.getElem?_replicate, if_pos h] at hj
    cases hj
  · exact h
theorem rel_start {ops : Array Oper} {a0 : Act} {Us : Nat → Value → World → Prop} {w : World} (hS : S w) : RelInv ops S Us a0 (Array.replicate ops.size false) a0 w :=
  ⟨by simp, hS, rfl, rfl, fun _ _ => rfl, fun j oj hoj hl => by
    have := none_listed j hl
    have hj : j < ops.size := (Array.getElem?_eq_some_iff.1 hoj).1
    omega⟩
theorem head_start {ops : Array Oper} {n : Nat} : HeadInv .any ops n (Array.replicate ops.size false) :=
  ⟨by simp, fun j oj hj hl => (by rw [getD_replicate_false] at hl; cases hl), fun t _ ht => by
    rw [Array.getD_eq_getD_getElem?, Array.getElem?_replicate, if_pos ht]
    rfl⟩
theorem count_start {z n : Nat} (hn : n ≤ z) : ((List.range n).filter fun j => !(Array.replicate z false).getD j true).length = n := by
  have : ((List.range n).filter fun j => !(Array.replicate z false).getD j true) = List.range n := by
    rw [List.filter_eq_self]
    intro j hj
    have hjn := List.mem_range.1 hj
    rw [Array.getD_eq_getD_getElem?, Array.getElem?_replicate, if_pos (by omega)]
    rfl
  rw [this, List.length_range]
theorem zip_vals {os : List Oper} {n : Nat} {Us : List (Value → World → Prop)} {F : List (Option Tmp)} (hF : (os.take n).map Oper.dst = F) (hl : Us.length = n) (hn : n ≤ os.length) : ((List.range n).map fun j => ((os.toArray[j]?).bind (·.dst), Vl Us j)) = F.zip Us := by
  rw [← hF]
  refine List.ext_getElem (by simp [hl]; omega) fun j h1 h2 => ?_
  have hj : j < n := by simpa using h1
  have hj2 : j < Us.length := by omega
  have hj3 : j < os.length := by omega
  simp [hj2, hj3, Vl]
end
end Go.Proofs.YtfgnnbpbbnnnhaaDoor
