/- Drawn regions with a tail of operations, of whatever numbers, in one order behind all the others. -/
import Derived.Test.YtafgmndlbbjphaaDoorLvRel
namespace Go.Proofs.YtafgmndlbbjphaaDoor
open Go
section
variable {P : Program} {ops : Array Oper} {S : World → Prop} {R : World → World → Prop} {Vs : Nat → Value → World → Prop} {Q : Exit → Act → World → Prop}

/-! A tail of whatever operations, in one order, behind all the others. -/
/-- what operation t waits for, by one pass downwards -/
def waitsOf (ops : Array Oper) (t : Nat) : List Nat :=
  (List.range ops.size).reverse.foldl (fun s i => if s.contains i then s ++ (match ops[i]? with | some o => (o.after.toList.filter (Region.binds .any)).map (·.on) | none => []) else s) [t]
def headNos (ops : Array Oper) (tl : List Nat) : List Nat := (List.range ops.size).filter fun i => !tl.contains i
def canonL (ops : Array Oper) (tl : List Nat) : Array Bool := ((List.range ops.size).map fun i => !tl.contains i).toArray
def seqL (ops : Array Oper) : List Nat → Array Bool → Bool
  | [], listed => (Region.ready .any ops listed).isEmpty
  | k :: ks, listed => decide (Region.ready .any ops listed = [k]) && seqL ops ks (listed.setIfInBounds k true)
def tailsOk (ops : Array Oper) (pre tl : List Nat) : Bool :=
  (tl.all fun t => decide (t < ops.size)) && (tl.all fun t => (headNos ops tl).all fun i => pre.contains i || (waitsOf ops t).contains i) && seqL ops tl (canonL ops tl) && (headNos ops tl).length + tl.length == ops.size

structure TailInv (ops : Array Oper) (pre tl : List Nat) (listed : Array Bool) : Prop where
  pre : ∀ p, p ∈ pre → listed.getD p true = true
  size : listed.size = ops.size
  closed : ∀ j oj, ops[j]? = some oj → listed.getD j false = true → ∀ e ∈ oj.after, Region.binds .any e = true → listed.getD e.on false = true
  tail : ∀ t, t ∈ tl → listed.getD t true = false

theorem waitsOf_listed {listed : Array Bool} {t : Nat} (hcl : ∀ j oj, ops[j]? = some oj → listed.getD j false = true → ∀ e ∈ oj.after, Region.binds .any e = true → listed.getD e.on false = true)
    (ht : ∀ ot, ops[t]? = some ot → ∀ e ∈ ot.after, Region.binds .any e = true → listed.getD e.on false = true) : ∀ i ∈ waitsOf ops t, i = t ∨ listed.getD i false = true := by
  unfold waitsOf
  have key : ∀ (l : List Nat) (s : List Nat), (∀ i ∈ s, i = t ∨ listed.getD i false = true) →
      ∀ i ∈ l.foldl (fun s i => if s.contains i then s ++ (match ops[i]? with | some o => (o.after.toList.filter (Region.binds .any)).map (·.on) | none => []) else s) s, i = t ∨ listed.getD i false = true := by
    intro l
    induction l with
    | nil => intro s hs; exact hs
    | cons x l ih =>
      intro s hs
      rw [List.foldl_cons]
      refine ih _ ?_
      by_cases hx : s.contains x = true
      · rw [if_pos hx]
        intro i hi
        rcases List.mem_append.1 hi with hi | hi
        · exact hs i hi
        · cases ho : ops[x]? with
          | none => rw [ho] at hi; cases hi
          | some o =>
            rw [ho] at hi
            obtain ⟨e, he, rfl⟩ := List.mem_map.1 hi
            rw [List.mem_filter] at he
            have hea : e ∈ o.after := Array.mem_toList_iff.1 he.1
            rcases hs x (by simpa using hx) with h | h
            · subst h
              exact Or.inr (ht o ho e hea he.2)
            · exact Or.inr (hcl x o ho h e hea he.2)
      · rw [if_neg hx]
        exact hs
  exact key _ _ fun i hi => Or.inl (by simpa using hi)

theorem wpAny_of_seqL : ∀ (tl : List Nat) (l : List Oper) (listed : Array Bool) (a : Act) (w : World), (l.map some = tl.map fun k => ops[k]?) → seqL ops tl listed = true → wpList P ops Q l a w → wpAny P .any ops Q tl.length listed a w
  | [], l, listed, a, w, hl, hB, h => by
    have : l = [] := by simpa using hl
    subst this
    exact ⟨by simpa [seqL] using hB, h⟩
  | k :: ks, [], listed, a, w, hl, hB, h => by simp at hl
  | k :: ks, o :: l, listed, a, w, hl, hB, h => by
    simp only [List.map_cons, List.cons.injEq] at hl
    simp only [seqL, Bool.and_eq_true, decide_eq_true_eq] at hB
    refine ⟨fun h1 => (by rw [hB.1] at h1; cases h1), fun i hi => ?_⟩
    rw [hB.1] at hi
    have hik : i = k := by simpa using hi
    subst hik
    have hw : wpOp P ops Q i (wpList P ops Q l) a w := by unfold wpOp; simp only [← hl.1]; exact h
    exact wpOp_mono (fun a' w' h' => wpAny_of_seqL ks l _ a' w' hl.2 hB.2 h') hw

theorem wpAny_tails {a0 : Act} {pre tl : List Nat} {lt : List Oper} (hok : relOk ops a0.tmps.size = true) (ht : tailsOk ops pre tl = true) (hlt : lt.map some = tl.map fun k => ops[k]?)
    (hmono : ∀ j x w w', S w → S w' → R w w' → Vs j x w → Vs j x w')
    (hsteps : ∀ i o, i ∉ tl → ops[i]? = some o → ∀ w, S w → StepFrom P S R o (Vs i) (gOf ops o) ((depsOf ops o).map fun p => (p.1, Vs p.2)) a0 w)
    (hfin : ∀ w, S w → FinalFrom (fun _ a w => wpList P ops Q lt a w) ((headNos ops tl).map fun j => ((ops[j]?).bind (·.dst), Vs j)) a0 w) :
    ∀ (f : Nat) (listed : Array Bool) (a : Act) (w : World), RelInv ops S Vs a0 listed a w → TailInv ops pre tl listed → ((headNos ops tl).filter fun j => !listed.getD j true).length = f →
      wpAny P .any ops Q (f + tl.length) listed a w := by
  have hacy := fun i o ho => ((relOk_spec hok).2 i o ho).2.1
  unfold tailsOk at ht
  simp only [Bool.and_eq_true] at ht
  obtain ⟨⟨⟨ht1, ht2⟩, hseq⟩, _⟩ := ht
  have hmem : ∀ {i : Nat}, i ∈ headNos ops tl ↔ i < ops.size ∧ i ∉ tl := by
    intro i
    unfold headNos
    rw [List.mem_filter, List.mem_range]
    simp
  intro f
  induction f with
  | zero =>
    intro listed a w h hh hf
    have hl : ∀ j, j ∈ headNos ops tl → listed.getD j true = true := fun j hj => by
      cases e : listed.getD j true with
      | true => rfl
      | false =>
        have : j ∈ (headNos ops tl).filter fun j => !listed.getD j true := by
          rw [List.mem_filter]
          exact ⟨hj, by rw [e]; rfl⟩
        have := List.length_pos_of_mem this
        omega
    have hlist : listed = canonL ops tl := by
      have hsz := h.size
      refine Array.ext (by simp [canonL, hsz]) fun j h1 h2 => ?_
      have hjs : j < ops.size := by omega
      by_cases hj : j ∈ tl
      · have := hh.tail j hj
        simp [h1] at this
        rw [this]
        simp [canonL, hj]
      · have := hl j (hmem.2 ⟨hjs, hj⟩)
        simp [h1] at this
        rw [this]
        simp [canonL, hj]
    have hq : wpList P ops Q lt a w := by
      obtain ⟨a', h1, h2, h3, h4, h5⟩ := FinalFrom.inst a _ a0 w (hfin w h.s) h.tmps (fun p hp d hd => by
        obtain ⟨j, hj, rfl⟩ := List.mem_map.1 hp
        obtain ⟨o, ho, hdo⟩ := Option.bind_eq_some_iff.1 hd
        have := h.got j o ho (hl j hj)
        rw [hdo] at this
        exact this)
      have : a' = a := by
        have hd : a'.defers = a.defers := by rw [h2, h.defers]
        have ht : a'.tmps = a.tmps := by
          refine Array.ext_getElem? fun t => ?_
          by_cases hx : ∃ (j : Nat) (o : Oper), j ∈ headNos ops tl ∧ ops[j]? = some o ∧ o.dst = some t
          · obtain ⟨j, o, hj, ho, hd⟩ := hx
            exact h4 ((ops[j]?).bind (·.dst), Vs j) (List.mem_map.2 ⟨j, hj, rfl⟩) t (by rw [ho]; exact hd)
          · rw [h5 t (fun p hp e => by
              obtain ⟨j, hj, rfl⟩ := List.mem_map.1 hp
              obtain ⟨o, ho, hdo⟩ := Option.bind_eq_some_iff.1 e
              exact hx ⟨j, o, hj, ho, hdo⟩)]
            refine (h.old t fun j o ho hlj e => ?_).symm
            have hj : j < ops.size := (Array.getElem?_eq_some_iff.1 ho).1
            by_cases hjn : j ∈ tl
            · have := hh.tail j hjn
              rw [this] at hlj
              cases hlj
            · exact hx ⟨j, o, hmem.2 ⟨hj, hjn⟩, ho, e⟩
        cases a'
        cases a
        simp_all
      rw [← this]
      exact h1
    rw [Nat.zero_add]
    exact wpAny_of_seqL tl lt listed a w hlt (by rw [hlist]; exact hseq) hq
  | succ f ih =>
    intro listed a w h hh hf
    have hex : ∃ i, i ∈ headNos ops tl ∧ listed.getD i true = false := by
      cases e : ((headNos ops tl).filter fun j => !listed.getD j true) with
      | nil => rw [e] at hf; cases hf
      | cons j js =>
        have : j ∈ (headNos ops tl).filter fun j => !listed.getD j true := by rw [e]; simp
        rw [List.mem_filter] at this
        exact ⟨j, this.1, by simpa using this.2⟩
    obtain ⟨i0, hi0, hun0⟩ := hex
    have hi0z := (hmem.1 hi0).1
    rw [show f + 1 + tl.length = (f + tl.length) + 1 by omega]
    refine ⟨fun hr => ?_, fun i hi => ?_⟩
    · have := all_listed h.size hacy hr (i0 + 1) i0 (by omega) hi0z
      rw [hun0] at this
      cases this
    · obtain ⟨hun, o, ho, hafter⟩ := mem_ready.1 hi
      have hsz : i < ops.size := (Array.getElem?_eq_some_iff.1 ho).1
      have hin : i ∉ tl := fun hit => by
        have h1 := List.all_eq_true.1 (List.all_eq_true.1 ht2 i hit) i0 hi0
        have hnp : pre.contains i0 = false := by
          cases e : pre.contains i0 with
          | false => rfl
          | true =>
            have := hh.pre i0 (by simpa using e)
            rw [hun0] at this
            cases this
        rw [hnp, Bool.false_or] at h1
        rcases waitsOf_listed (t := i) hh.closed (fun ot hot e he hb => by
          have : ot = o := by rw [ho] at hot; injection hot with hot; exact hot.symm
          subst this
          exact hafter e he hb) i0 (by simpa using h1) with h2 | h2
        · exact (hmem.1 hi0).2 (h2 ▸ hit)
        · rw [getD_both hun0] at h2
          cases h2
      refine wpOp_mono (fun a' w' h' => ?_) (h.step (Q := Q) hok hmono (fun o => hsteps i o hin) hi)
      have hcount : ((headNos ops tl).filter fun j => !(listed.setIfInBounds i true).getD j true).length = f := by
        have e : ((headNos ops tl).filter fun j => !(listed.setIfInBounds i true).getD j true) = ((headNos ops tl).filter fun j => !listed.getD j true).filter (fun j => j != i) := by
          rw [List.filter_filter]
          refine List.filter_congr fun j _ => ?_
          by_cases hj : j = i
          · subst hj
            simp
          · rw [getD_set_ne true (Ne.symm hj)]
            simp [hj]
        have hm : i ∈ (headNos ops tl).filter fun j => !listed.getD j true := by
          rw [List.mem_filter]
          exact ⟨hmem.2 ⟨hsz, hin⟩, by rw [hun]; rfl⟩
        have hnd : ((headNos ops tl).filter fun j => !listed.getD j true).Nodup := List.Pairwise.filter _ (List.Pairwise.filter _ List.nodup_range)
        rw [e, ← List.Nodup.erase_eq_filter hnd, List.length_erase_of_mem hm, hf]
        rfl
      refine ih _ _ _ h'.1 ⟨fun p hp => ?_, by simpa using hh.size, fun j oj hj hl e he hb => ?_, fun t ht => ?_⟩ hcount
      · by_cases e : p = i
        · rw [e]; simp
        · rw [getD_set_ne true (Ne.symm e)]
          exact hh.pre p hp
      · by_cases hij : i = j
        · subst hij
          have : oj = o := by rw [ho] at hj; injection hj with hj; exact hj.symm
          subst this
          exact getD_set_true (hafter e he hb)
        · rw [getD_set_ne false hij] at hl
          exact getD_set_true (hh.closed j oj hj hl e he hb)
      · rw [getD_set_ne true (fun e : i = t => hin (by rw [e]; exact ht))]
        exact hh.tail t ht

/-- the obligations of the rows 'ts', number k on, but for those of the tail -/
def StepsS (P : Program) (S : World → Prop) (R : World → World → Prop) (Vs : List (Value → World → Prop)) (a0 : Act) (tl : List Nat) : List Row → Nat → Prop
  | [], _ => True
  | t :: ts, k => (k ∉ tl → ∀ o : Oper, o.op = t.op → o.dst = t.dst → ∀ w, S w → StepFrom P S R o (Vl Vs k) t.guard (t.deps.map fun p => (p.1, Vl Vs p.2)) a0 w) ∧ StepsS P S R Vs a0 tl ts (k + 1)
theorem StepsS.get {Vs : List (Value → World → Prop)} {a0 : Act} {tl : List Nat} : ∀ (os : List Oper) (ts : List Row) (k : Nat), StepsS P S R Vs a0 tl ts k → ts = os.map (rowOf ops) →
    ∀ i o, k + i ∉ tl → os[i]? = some o → ∀ w, S w → StepFrom P S R o (Vl Vs (k + i)) (gOf ops o) ((depsOf ops o).map fun p => (p.1, Vl Vs p.2)) a0 w
  | [], _, _, _, _, i, o, _, ho => by simp at ho
  | q :: os, [], _, _, e, _, _, _, _ => by simp at e
  | q :: os, t :: ts, k, h, e, i, o, hi, ho => by
    rw [List.map_cons] at e
    injection e with e1 e2
    cases i with
    | zero =>
      simp at ho
      subst ho
      have := h.1 hi q (by rw [e1]; rfl) (by rw [e1]; rfl)
      rw [e1] at this
      exact this
    | succ i =>
      have := StepsS.get os ts (k + 1) h.2 e2 i o (by rwa [Nat.add_right_comm, Nat.add_assoc]) (by simpa using ho)
      rwa [Nat.add_right_comm, Nat.add_assoc] at this
theorem StepsS.nil {Vs : List (Value → World → Prop)} {a0 : Act} {tl : List Nat} {k : Nat} : StepsS P S R Vs a0 tl [] k := trivial
theorem StepsS.skip {Vs : List (Value → World → Prop)} {a0 : Act} {tl : List Nat} {r : Row} {ts : List Row} {k : Nat} (h : tl.contains k = true) (t : StepsS P S R Vs a0 tl ts (k + 1)) : StepsS P S R Vs a0 tl (r :: ts) k :=
  ⟨fun hk => absurd (by simpa using h) hk, t⟩
theorem StepsS.cons {Vs : List (Value → World → Prop)} {a0 : Act} {tl : List Nat} {dst : Option Tmp} {op : Op} {g : Option (Option Tmp × Bool)} {d : List (Tmp × Nat)} {ts : List Row} {k : Nat}
    (V : Value → World → Prop) (U : List (Tmp × (Value → World → Prop))) (hV : Vl Vs k = V) (hU : (d.map fun p => (p.1, Vl Vs p.2)) = U)
    (h : ∀ o : Oper, o.op = op → o.dst = dst → ∀ w, S w → StepFrom P S R o V g U a0 w) (t : StepsS P S R Vs a0 tl ts (k + 1)) : StepsS P S R Vs a0 tl (⟨dst, op, g, d⟩ :: ts) k := ⟨fun _ => by rw [hV, hU]; exact h, t⟩

theorem Yields.fieldAt {oi : Oper} {v p : Value} {x : Operand} {t : TypeId} {k : Nat} {a : Act} (hop : oi.op = .fieldAddr t x k) (hg : oi.guard = none) (he : a.eval x = p) (hrun : ∀ w, (Instr.fieldAt t p k).run P w = .ok v w) : Yields P ops oi v a :=
  Or.inl ⟨by unfold Region.wanted; rw [hg], fun w => by unfold execOp; simp only [hop, he]; simp only [Sem.run_bind, hrun]; rfl⟩

theorem map_some_filter (l : List Nat) (f : Nat → Option Oper) (h : ∀ k ∈ l, (f k).isSome = true) : (l.filterMap f).map some = l.map f := by
  induction l with
  | nil => rfl
  | cons k l ih =>
    obtain ⟨o, ho⟩ := Option.isSome_iff_exists.1 (h k (by simp))
    rw [List.filterMap_cons, ho]
    simp only [List.map_cons, ho]
    rw [ih fun j hj => h j (by simp [hj])]

theorem wp_region_tails {id : Nat} {a0 : Act} {w : World} {os : List Oper} (i : Nat) (d : Tmp) (v : Value) (tl : List Nat) (S : World → Prop) (R : World → World → Prop) (Vs : List (Value → World → Prop)) (T : List Row) (F : List (Option Tmp)) (hd : List Nat)
    (hm : P.follows .mixedOrders = true) (hok : relOk os.toArray a0.tmps.size = true) (ht : tailsOk os.toArray [i] tl = true)
    (hi : (os[i]?).bind (·.dst) = some d) (hit : tl.contains i = false) (hfree : Region.free .any os.toArray (Array.replicate os.toArray.size false) i = true) (hready : (Region.ready .any os.toArray (Array.replicate os.toArray.size false)).contains i = true)
    (op : Op) (dp : List (Tmp × Nat)) (hrow : T[i]? = some ⟨some d, op, none, dp⟩) (hyield : ∀ oi : Oper, oi.op = op → oi.guard = none → Yields P os.toArray oi v a0) (hQ : ∀ c a w, Q (.panic c) (a.put (some d) v) w → Q (.panic c) a w) (hv : ∀ w, Vl Vs i v w)
    (hT : os.map (rowOf os.toArray) = T) (hhd : headNos os.toArray tl = hd) (hF : hd.map (fun j => (os[j]?).bind (·.dst)) = F) (hS : S w.drew)
    (hmono : MonoL S R Vs) (hsteps : StepsS P S R Vs (a0.put (some d) v) tl T 0)
    (hfin : ∀ w, S w → FinalFrom (fun _ a w => wpList P os.toArray Q (tl.filterMap fun k => os[k]?) a w) (F.zip (hd.map (Vl Vs))) (a0.put (some d) v) w) : (Code.region id os.toArray true).wp P Q a0 w := by
  obtain ⟨oi, hoi, hdi⟩ := Option.bind_eq_some_iff.1 hi
  have hoi' : os.toArray[i]? = some oi := by simpa using hoi
  have hisz : i < os.toArray.size := (Array.getElem?_eq_some_iff.1 hoi').1
  have hsel := (relOk_spec hok).1
  have hget : ∀ j, ((Array.replicate os.toArray.size false).setIfInBounds i true).getD j true = true → j = i ∨ os.toArray.size ≤ j := fun j hj => by
    by_cases e : j = i
    · exact Or.inl e
    · rw [getD_set_ne true (Ne.symm e)] at hj
      rcases Nat.lt_or_ge j os.toArray.size with h | h
      · rw [Array.getD_eq_getD_getElem?, Array.getElem?_replicate, if_pos h] at hj
        cases hj
      · exact Or.inr h
  have hgetf : ∀ j, j < os.toArray.size → j ≠ i → ((Array.replicate os.toArray.size false).setIfInBounds i true).getD j true = false := fun j hj hne => by
    rw [getD_set_ne true (Ne.symm hne), Array.getD_eq_getD_getElem?, Array.getElem?_replicate, if_pos hj]
    rfl
  have hit' : i ∉ tl := by simpa using hit
  have hts : ∀ t ∈ tl, t < os.toArray.size := fun t h => by
    unfold tailsOk at ht
    simp only [Bool.and_eq_true] at ht
    simpa using List.all_eq_true.1 ht.1.1.1 t h
  have hsz0 : (a0.put (some d) v).tmps.size = a0.tmps.size := by simp [Act.put]
  have hdlt : d < a0.tmps.size := ((relOk_spec hok).2 i oi hoi').1 d hdi
  have hst := wpAny_tails (P := P) (Q := Q) (R := R) (Vs := Vl Vs) (S := S) (a0 := a0.put (some d) v) (by rw [hsz0]; exact hok) ht (lt := tl.filterMap fun k => os[k]?) (by rw [map_some_filter tl (fun k => os[k]?) fun k hk => (by have := hts k hk; simpa using this)]; refine List.map_congr_left fun k _ => by simp) hmono.get
    (fun i o hin ho w hs => by
      have := StepsS.get (ops := os.toArray) os T 0 hsteps hT.symm i o (by rwa [Nat.zero_add]) (by simpa using ho) w hs
      rwa [Nat.zero_add] at this)
    (fun w hs => by
      have e : ((headNos os.toArray tl).map fun j => ((os.toArray[j]?).bind (·.dst), Vl Vs j)) = F.zip (hd.map (Vl Vs)) := by
        rw [hhd, ← hF, List.zip_map']
        exact List.map_congr_left fun k _ => by simp
      rw [e]
      exact hfin w hs)
    _ ((Array.replicate os.toArray.size false).setIfInBounds i true) (a0.put (some d) v) w.drew
    ⟨by simp, hS, rfl, rfl, fun _ _ => rfl, fun j oj hoj hl => by
      have hj : j < os.toArray.size := (Array.getElem?_eq_some_iff.1 hoj).1
      rcases hget j hl with e | e
      · subst e
        have : oj = oi := by rw [hoi'] at hoj; injection hoj with hoj; exact hoj.symm
        subst this
        rw [hdi]
        exact ⟨v, by simp [Act.put, hdlt], hv _⟩
      · omega⟩
    ⟨fun p hp => by
      have : p = i := by simpa using hp
      subst this
      simp, by simp, fun j oj hj hl e he hb => by
      have hr := mem_ready.1 (show i ∈ _ from by simpa using hready)
      by_cases hji : j = i
      · subst hji
        obtain ⟨_, o2, ho2, hall⟩ := hr
        have : o2 = oj := by rw [hj] at ho2; injection ho2 with ho2; exact ho2.symm
        subst this
        have := hall e he hb
        rw [getD_replicate_false] at this
        cases this
      · rw [getD_set_ne false (Ne.symm hji), getD_replicate_false] at hl
        exact absurd hl (by decide), fun t ht => hgetf t (hts t ht) (fun e => hit' (e ▸ ht))⟩ rfl
  have hhead : i ∈ headNos os.toArray tl := by
    unfold headNos
    rw [List.mem_filter, List.mem_range]
    exact ⟨hisz, by simpa using hit'⟩
  have hle : ((headNos os.toArray tl).filter fun j => !((Array.replicate os.toArray.size false).setIfInBounds i true).getD j true).length + tl.length + 1 = os.toArray.size := by
    have e : ((headNos os.toArray tl).filter fun j => !((Array.replicate os.toArray.size false).setIfInBounds i true).getD j true) = (headNos os.toArray tl).filter (fun j => j != i) := by
      refine List.filter_congr fun j hj => ?_
      have hjn : j < os.toArray.size := by
        unfold headNos at hj
        exact List.mem_range.1 (List.mem_filter.1 hj).1
      by_cases e : j = i
      · subst e
        simp
      · rw [hgetf j hjn e]
        simp [e]
    have hnd : (headNos os.toArray tl).Nodup := List.Pairwise.filter _ List.nodup_range
    rw [e, ← List.Nodup.erase_eq_filter hnd, List.length_erase_of_mem hhead]
    have := List.length_pos_of_mem hhead
    unfold tailsOk at ht
    simp only [Bool.and_eq_true, beq_iff_eq] at ht
    have := ht.2
    omega
  have hop : oi.op = op ∧ oi.guard = none := by
    rw [← hT, List.getElem?_map, hoi] at hrow
    simp only [Option.map_some, Option.some.injEq, rowOf, Row.mk.injEq] at hrow
    exact ⟨hrow.2.1, by simpa [gOf] using hrow.2.2.1⟩
  refine wp_region_any hm ?_
  have hfin2 := wpAny_take (i := i) (oi := oi) (v := v) (md := .any) (Q := Q) hoi' hsel hfree hready (by rw [hdi]; exact hQ) (hyield oi hop.1 hop.2) (by rw [hdi]; exact hst)
  rw [hle] at hfin2
  exact hfin2

end
end Go.Proofs.YtafgmndlbbjphaaDoor
