/- Drawn regions with facts on pairs of values (two calls' rows lie apart): a head in whatever order, then a forced tail, or one operation and a second span. -/
import Derived.Test.YtafgmndlbbjphaaDoorLvTail
namespace Go.Proofs.YtafgmndlbbjphaaDoor
open Go

section
variable {P : Program} {ops : Array Oper} {S : World → Prop} {R : World → World → Prop} {Vs : Nat → Value → World → Prop} {Q : Exit → Act → World → Prop}

theorem RelInv.step2 {S' : World → Prop} {Vs' : Nat → Value → World → Prop} {a0 : Act} {listed : Array Bool} {a : Act} {w : World} {i : Nat} (hok : relOk ops a0.tmps.size = true)
    (hmono : ∀ j x w w', j < ops.size → listed.getD j true = true → S w → S' w' → R w w' → Vs j x w → Vs' j x w')
    (hsteps : ∀ o, ops[i]? = some o → ∀ w, S w → StepFrom P S' R o (Vs' i) (gOf ops o) ((depsOf ops o).map fun p => (p.1, Vs p.2)) a0 w)
    (h : RelInv ops S Vs a0 listed a w) (hi : i ∈ Region.ready .any ops listed) :
    wpOp P ops Q i (fun a' w' => RelInv ops S' Vs' a0 (listed.setIfInBounds i true) a' w' ∧ ∃ o v, ops[i]? = some o ∧ a' = a.put o.dst v ∧ ((∃ obj, o.guard = none ∧ ∀ ρ w, (execOp ρ o).run P w = .ok (.value (.pointer (some ⟨w.heap.size, 0, none⟩))) (w.alloc obj)) → v = .pointer (some ⟨w.heap.size, 0, none⟩))) a w := by
  obtain ⟨hsel, hall⟩ := relOk_spec hok
  obtain ⟨hun, o, ho, hafter⟩ := mem_ready.1 hi
  obtain ⟨hd0, _, hdeps, hdist⟩ := hall i o ho
  have hisz : i < ops.size := (Array.getElem?_eq_some_iff.1 ho).1
  have hlist : ∀ d j, (d, j) ∈ depsOf ops o → listed.getD j true = true := fun d j hj => by
    obtain ⟨e, he, hb, rfl⟩ := hdeps d j hj
    have := hafter e he hb
    rcases Nat.lt_or_ge e.on listed.size with h' | h'
    · simp [h'] at this ⊢
      exact this
    · simp [Array.getElem?_eq_none h'] at this
  have hz : a.tmps.size = a0.tmps.size := h.tmps
  obtain ⟨a', h1, h2, h3, h4, h5⟩ := StepFrom.inst a _ a0 w (hsteps o ho w h.s) hz (fun p hp => by
    obtain ⟨q, hq, rfl⟩ := List.mem_map.1 hp
    obtain ⟨d, j⟩ := q
    obtain ⟨hj1, hj2, hj3⟩ := mem_deps.1 hq
    obtain ⟨oj, hoj, hdj⟩ := Option.bind_eq_some_iff.1 hj2
    have := h.got j oj hoj (hlist d j hq)
    rw [hdj] at this
    exact this)
  have hlook : ∀ d ∈ o.looksAt ops, a.tmps[d]? = a'.tmps[d]? := fun d hd => by
    by_cases hx : ∃ j, (d, j) ∈ depsOf ops o
    · obtain ⟨j, hj⟩ := hx
      exact (h4 (d, Vs j) (List.mem_map.2 ⟨(d, j), hj, rfl⟩)).symm
    · rw [h5 d (fun p hp e => by
        obtain ⟨q, hq, rfl⟩ := List.mem_map.1 hp
        obtain ⟨d', j⟩ := q
        simp only at e
        subst e
        exact hx ⟨j, hq⟩)]
      refine h.old d fun j oj hoj _ e => hx ⟨j, mem_deps.2 ⟨(Array.getElem?_eq_some_iff.1 hoj).1, ?_, hd⟩⟩
      rw [hoj]
      exact e
  have hexec := exec_same o (Region.noSelect_spec hsel i o · · ho) a a' hlook
  have hwant := wanted_same (ops := ops) o a.tmps a'.tmps hlook
  have hset : (listed.setIfInBounds i true).size = ops.size := by simpa using h.size
  -- what follows, of the frame at hand
  have next : ∀ v w', S' w' → R w w' → (∀ d, o.dst = some d → Vs' i v w') → RelInv ops S' Vs' a0 (listed.setIfInBounds i true) (a.put o.dst v) w' := fun v w' hs hr hv => by
    have hcase : ∀ j, (listed.setIfInBounds i true).getD j true = true → j = i ∨ listed.getD j true = true := fun j hj => by
      by_cases e : j = i
      · exact Or.inl e
      · exact Or.inr (by rwa [getD_set_ne true (Ne.symm e)] at hj)
    have hone : (listed.setIfInBounds i true).getD i true = true := by simp
    have hkeep : ∀ j, listed.getD j true = true → (listed.setIfInBounds i true).getD j true = true := fun j hj => by
      by_cases e : j = i
      · rw [e]; exact hone
      · rw [getD_set_ne true (Ne.symm e)]; exact hj
    refine ⟨hset, hs, ?_, ?_, fun t ht => ?_, fun j oj hoj hj => ?_⟩
    · rw [← h.defers]
      cases o.dst <;> rfl
    · rw [← hz]
      cases o.dst <;> simp [Act.put]
    · have hti : o.dst ≠ some t := ht i o ho hone
      rw [← h.old t fun j oj hoj hj => ht j oj hoj (hkeep j hj)]
      cases hd : o.dst with
      | none => rfl
      | some d =>
        have : d ≠ t := fun e => hti (by rw [hd, e])
        simp [Act.put, Array.getElem?_setIfInBounds_ne this]
    · by_cases e : j = i
      · subst e
        have : oj = o := by rw [ho] at hoj; injection hoj with hoj; exact hoj.symm
        subst this
        cases hd : oj.dst with
        | none => trivial
        | some d =>
          refine ⟨v, ?_, hv d hd⟩
          have : d < a.tmps.size := by rw [hz]; exact hd0 d hd
          simp [Act.put, this]
      · have hj' := (hcase j hj).resolve_left e
        have hg := h.got j oj hoj hj'
        cases hd : oj.dst with
        | none => trivial
        | some d =>
          rw [hd] at hg
          obtain ⟨x, hx1, hx2⟩ := hg
          refine ⟨x, ?_, hmono j x w w' (Array.getElem?_eq_some_iff.1 hoj).1 hj' h.s hs hr hx2⟩
          rw [← hx1]
          cases hdo : o.dst with
          | none => rfl
          | some d' =>
            have : d' ≠ d := fun e' => hdist j oj hoj e d' hdo (by rw [hd, e'])
            simp [Act.put, Array.getElem?_setIfInBounds_ne this]
  unfold wpOp
  simp only [ho]
  have H := h1 (fun b w' => S' w' ∧ R w w' ∧ b.defers = a'.defers ∧ Got o.dst (Vs' i) b w') (fun _ _ _ => False) (fun v w' p1 p2 p3 => ⟨p1, p2, by cases o.dst <;> rfl, by
    cases hd : o.dst with
    | none => trivial
    | some d =>
      have hlt : d < a'.tmps.size := by rw [h3]; exact hd0 d hd
      exact ⟨v, by simp [Act.put, hlt], p3⟩⟩)
  rw [gOn_of] at H
  have hput : ∀ v w', (S' w' ∧ R w w' ∧ (a'.put o.dst v).defers = a'.defers ∧ Got o.dst (Vs' i) (a'.put o.dst v) w') → RelInv ops S' Vs' a0 (listed.setIfInBounds i true) (a.put o.dst v) w' := fun v w' ⟨p1, p2, _, p4⟩ =>
    next v w' p1 p2 fun d hd => by
      rw [hd] at p4
      obtain ⟨x, hx, hv⟩ := p4
      have hlt : d < a'.tmps.size := by rw [h3]; exact hd0 d hd
      simp [Act.put, hlt] at hx
      rw [hx]
      exact hv
  rw [← hwant] at H
  by_cases hw : Region.wanted o (yielded ops a.tmps) = true
  · rw [if_pos hw] at H ⊢
    left
    unfold Oper.wp at H ⊢
    rw [hexec]
    have hal : ∀ v w', (execOp a'.eval o).run P w = .ok (.value v) w' → (∃ obj, o.guard = none ∧ ∀ ρ w, (execOp ρ o).run P w = .ok (.value (.pointer (some ⟨w.heap.size, 0, none⟩))) (w.alloc obj)) → v = .pointer (some ⟨w.heap.size, 0, none⟩) := fun v w' e ⟨obj, _, hr⟩ => by
      rw [hr] at e
      injection e with e _
      injection e with e
      exact e.symm
    have hno : ∀ n w', (execOp a'.eval o).run P w = .ok n w' → (∀ v, n ≠ .value v) → ¬ ∃ obj, o.guard = none ∧ ∀ ρ w, (execOp ρ o).run P w = .ok (.value (.pointer (some ⟨w.heap.size, 0, none⟩))) (w.alloc obj) := fun n w' e hn ⟨obj, _, hr⟩ => by
      rw [hr] at e
      injection e with e _
      exact hn _ e.symm
    generalize (execOp a'.eval o).run P w = r at *
    cases r with
    | ok n w' =>
      cases n <;> simp only [Oper.upon] at H ⊢
      case value u => exact ⟨hput _ _ H, o, u, rfl, rfl, hal u w' rfl⟩
      case skip => exact ⟨hput _ _ H, o, undef, rfl, rfl, fun h => absurd h (hno _ w' rfl (fun v e => by cases e))⟩
      case defer d =>
        obtain ⟨_, _, h7, _⟩ := H
        exfalso
        cases hd : o.dst <;> rw [hd] at h7 <;> simp [Act.put] at h7
      case enter f args =>
        refine Calls.mono H fun e w'' he => ?_
        cases e with
        | returned u => exact ⟨hput _ _ he, o, u, rfl, rfl, fun h => absurd h (hno _ w' rfl (fun v e => by cases e))⟩
        | panicked c => exact (he : False).elim
        | outgrown =>
          obtain ⟨_, _, hf⟩ := (he : LetsOut _)
          exact (hf : False).elim
      case row row args => exact Rows.mono H fun u w'' he => ⟨hput _ _ he, o, u, rfl, rfl, fun h => absurd h (hno _ w' rfl (fun v e => by cases e))⟩
    | halt x w' =>
      cases x <;> simp only [Oper.upon] at H
  · rw [if_neg hw] at H ⊢
    refine ⟨hput _ _ H, o, undef, rfl, rfl, fun ⟨obj, hg, _⟩ => ?_⟩
    exfalso
    apply hw
    unfold Region.wanted
    rw [hg]

theorem wpAny_from {a0 : Act} {n : Nat} (hok : relOk ops a0.tmps.size = true)
    (hmono : ∀ j x w w', S w → S w' → R w w' → Vs j x w → Vs j x w')
    (hsteps : ∀ i o, n < i → ops[i]? = some o → ∀ w, S w → StepFrom P S R o (Vs i) (gOf ops o) ((depsOf ops o).map fun p => (p.1, Vs p.2)) a0 w)
    (hfin : ∀ w, S w → FinalFrom Q ((List.range ops.size).map fun j => ((ops[j]?).bind (·.dst), Vs j)) a0 w) :
    ∀ (fuel : Nat) (listed : Array Bool) (a : Act) (w : World), RelInv ops S Vs a0 listed a w → (∀ j, j ≤ n → listed.getD j true = true) → (unlisted ops listed).length ≤ fuel → wpAny P .any ops Q fuel listed a w := by
  have hacy := fun i o ho => ((relOk_spec hok).2 i o ho).2.1
  have fin : ∀ (listed : Array Bool) (a : Act) (w : World), RelInv ops S Vs a0 listed a w → Region.ready .any ops listed = [] → Q .normal a w := by
    intro listed a w h hr
    have hl : ∀ j, j < ops.size → listed.getD j true = true := fun j hj => all_listed h.size hacy hr (j + 1) j (by omega) hj
    obtain ⟨a', h1, h2, h3, h4, h5⟩ := FinalFrom.inst a _ a0 w (hfin w h.s) h.tmps (fun p hp d hd => by
      obtain ⟨j, hj, rfl⟩ := List.mem_map.1 hp
      have hjz := List.mem_range.1 hj
      obtain ⟨o, ho, hdo⟩ := Option.bind_eq_some_iff.1 hd
      have := h.got j o ho (hl j hjz)
      rw [hdo] at this
      exact this)
    have : a' = a := by
      have hd : a'.defers = a.defers := by rw [h2, h.defers]
      have ht : a'.tmps = a.tmps := by
        refine Array.ext_getElem? fun t => ?_
        by_cases hx : ∃ (j : Nat) (o : Oper), ops[j]? = some o ∧ o.dst = some t
        · obtain ⟨j, o, ho, hd⟩ := hx
          have hjz : j < ops.size := (Array.getElem?_eq_some_iff.1 ho).1
          exact h4 ((ops[j]?).bind (·.dst), Vs j) (List.mem_map.2 ⟨j, List.mem_range.2 hjz, rfl⟩) t (by rw [ho]; exact hd)
        · rw [h5 t (fun p hp e => by
            obtain ⟨j, hj, rfl⟩ := List.mem_map.1 hp
            obtain ⟨o, ho, hdo⟩ := Option.bind_eq_some_iff.1 e
            exact hx ⟨j, o, ho, hdo⟩)]
          exact (h.old t fun j o ho _ e => hx ⟨j, o, ho, e⟩).symm
      cases a'
      cases a
      simp_all
    rw [← this]
    exact h1
  intro fuel
  induction fuel with
  | zero =>
    intro listed a w h hN hn
    have hr : Region.ready .any ops listed = [] := by
      cases hr : Region.ready .any ops listed with
      | nil => rfl
      | cons j js =>
        have hj : j ∈ Region.ready .any ops listed := by rw [hr]; simp
        obtain ⟨h0, o, ho, _⟩ := mem_ready.1 hj
        have : j ∈ unlisted ops listed := by
          unfold unlisted
          rw [List.mem_filter, List.mem_range]
          exact ⟨(Array.getElem?_eq_some_iff.1 ho).1, by rw [h0]; rfl⟩
        have := List.length_pos_of_mem this
        omega
    exact ⟨hr, fin listed a w h hr⟩
  | succ fuel ih =>
    intro listed a w h hN hn
    refine ⟨fin listed a w h, fun i hi => ?_⟩
    obtain ⟨h0, o, ho, _⟩ := mem_ready.1 hi
    have hlt := unlisted_set (ops := ops) (Array.getElem?_eq_some_iff.1 ho).1 h0
    have hni : n < i := by
      rcases Nat.lt_or_ge n i with h' | h'
      · exact h'
      · rw [hN i h'] at h0
        cases h0
    exact wpOp_mono (fun a' w' h' => ih _ a' w' h'.1 (fun j hj => by
      rw [getD_set_ne true (by omega)]
      exact hN j hj) (by omega)) (h.step hok hmono (fun o => hsteps i o hni) hi)


/-- each operation behind number n waits for one from n on -/
def backB (ops : Array Oper) (n : Nat) : Bool := (List.range ops.size).all fun t => decide (t ≤ n) || match ops[t]? with
  | some o => o.after.any fun e => Region.binds .any e && decide (n ≤ e.on)
  | none => true
theorem back_waits {n : Nat} {listed : Array Bool} (hs : Region.sinkB .any ops n = true) (hb : backB ops n = true) (hn : n < ops.size) (inv : HeadInv .any ops n listed) {i : Nat} (hi : i < n) (hun : listed.getD i true = false) {t : Nat} (ht : n ≤ t) : t ∉ Region.ready .any ops listed := by
  intro hr
  obtain ⟨_, ot, hot, hall⟩ := mem_ready.1 hr
  have htlt : t < ops.size := (Array.getElem?_eq_some_iff.1 hot).1
  by_cases htn : t = n
  · subst htn
    -- the last of the head that has not come up has one that waits for it, up to t itself
    have key : ∀ (d i : Nat), t - i = d → i < t → listed.getD i true = false → False := by
      intro d
      induction d using Nat.strongRecOn with
      | _ d ih =>
        intro i hd hi hun
        have h1 := List.all_eq_true.1 hs i (List.mem_range.2 hi)
        obtain ⟨j, hj, hj2⟩ := List.any_eq_true.1 h1
        simp only [Bool.and_eq_true, decide_eq_true_eq] at hj2
        obtain ⟨oj, hoj, e, he, hbe, hon⟩ := Region.waitsFor_spec hj2.2
        have hjle : j ≤ t := by have := List.mem_range.1 hj; omega
        by_cases hjt : j = t
        · subst hjt
          have : oj = ot := by rw [hot] at hoj; injection hoj with hoj; exact hoj.symm
          subst this
          have h2 := hall e he hbe
          rw [hon, getD_both hun] at h2
          cases h2
        · cases hlj : listed.getD j true with
          | false => exact ih (t - j) (by omega) j rfl (by omega) hlj
          | true =>
            have hlj' : listed.getD j false = true := by
              have hsz := inv.size
              have hjs : j < listed.size := by omega
              simp [hjs] at hlj ⊢
              exact hlj
            have h2 := inv.closed j oj hoj hlj' e he hbe
            rw [hon, getD_both hun] at h2
            cases h2
    exact key _ i rfl hi hun
  · have h1 := List.all_eq_true.1 hb t (List.mem_range.2 htlt)
    rw [hot] at h1
    simp only [Bool.or_eq_true, decide_eq_true_eq] at h1
    rcases h1 with h1 | h1
    · omega
    · obtain ⟨e, he, hbe⟩ := Array.any_eq_true'.1 h1
      simp only [Bool.and_eq_true, decide_eq_true_eq] at hbe
      have h2 := hall e he hbe.1
      have hsz := inv.size
      rcases Nat.lt_or_ge e.on ops.size with h3 | h3
      · have h4 := inv.tail e.on hbe.2 h3
        rw [getD_both h4] at h2
        cases h2
      · simp [Array.getElem?_eq_none (show listed.size ≤ e.on by omega)] at h2

theorem wpAny_two {a0 : Act} {n : Nat} {S' : World → Prop} {R' R'' : World → World → Prop} {Vs' : Nat → Value → World → Prop} (hok : relOk ops a0.tmps.size = true) (hsink : Region.sinkB .any ops n = true) (hback : backB ops n = true) (hn : n < ops.size)
    (hready : Region.ready .any ops (Array.replicate n true ++ Array.replicate (ops.size - n) false) = [n])
    (hmono : ∀ j x w w', S w → S w' → R w w' → Vs j x w → Vs j x w')
    (hsteps : ∀ i o, i < n → ops[i]? = some o → ∀ w, S w → StepFrom P S R o (Vs i) (gOf ops o) ((depsOf ops o).map fun p => (p.1, Vs p.2)) a0 w)
    (hmid : ∀ o, ops[n]? = some o → ∀ w, S w → StepFrom P S' R'' o (Vs' n) (gOf ops o) ((depsOf ops o).map fun p => (p.1, Vs p.2)) a0 w)
    (hconv : ∀ j x w w', j < n → S w → S' w' → R'' w w' → Vs j x w → Vs' j x w')
    (hmono' : ∀ j x w w', S' w → S' w' → R' w w' → Vs' j x w → Vs' j x w')
    (hsteps' : ∀ i o, n < i → ops[i]? = some o → ∀ w, S' w → StepFrom P S' R' o (Vs' i) (gOf ops o) ((depsOf ops o).map fun p => (p.1, Vs' p.2)) a0 w)
    (hfin : ∀ w, S' w → FinalFrom Q ((List.range ops.size).map fun j => ((ops[j]?).bind (·.dst), Vs' j)) a0 w) :
    ∀ (f : Nat) (listed : Array Bool) (a : Act) (w : World), RelInv ops S Vs a0 listed a w → HeadInv .any ops n listed → ((List.range n).filter fun j => !listed.getD j true).length = f →
      wpAny P .any ops Q (f + (ops.size - n)) listed a w := by
  have hacy := fun i o ho => ((relOk_spec hok).2 i o ho).2.1
  intro f
  induction f with
  | zero =>
    intro listed a w h hh hf
    have hl : ∀ j, j < n → listed.getD j true = true := fun j hj => by
      cases e : listed.getD j true with
      | true => rfl
      | false =>
        have : j ∈ (List.range n).filter fun j => !listed.getD j true := by
          rw [List.mem_filter, List.mem_range]
          exact ⟨hj, by rw [e]; rfl⟩
        have := List.length_pos_of_mem this
        omega
    have hlist : listed = Array.replicate n true ++ Array.replicate (ops.size - n) false := by
      have hsz := h.size
      refine Array.ext (by simp [hsz]; omega) fun j h1 h2 => ?_
      by_cases hj : j < n
      · have := hl j hj
        simp [h1] at this
        rw [this]
        simp [hj]
      · have := hh.tail j (by omega) (by omega)
        simp [h1] at this
        rw [this]
        rw [Array.getElem_append_right (by simp; omega)]
        simp
    have hrd : Region.ready .any ops listed = [n] := by rw [hlist]; exact hready
    have hpos : 0 + (ops.size - n) = (ops.size - n - 1) + 1 := by omega
    rw [hpos]
    refine ⟨fun hr => (by rw [hrd] at hr; cases hr), fun i hi => ?_⟩
    obtain rfl : i = n := by rw [hrd] at hi; simpa using hi
    refine wpOp_mono (fun a' w' h' => ?_) (h.step2 (Q := Q) (S' := S') (R := R'') (Vs' := Vs') hok (fun j x w w' hjz hlj hs hs' hr hv => hconv j x w w' (by
      rcases Nat.lt_or_ge j i with h1 | h1
      · exact h1
      · rw [hh.tail j h1 hjz] at hlj
        cases hlj) hs hs' hr hv) hmid hi)
    refine wpAny_from (n := i) hok hmono' hsteps' hfin _ _ a' w' h'.1 (fun j hj => ?_) ?_
    · by_cases e : j = i
      · subst e
        simp
      · rw [getD_set_ne true (Ne.symm e)]
        exact hl j (by omega)
    · have h1 := unlisted_set (ops := ops) (listed := listed) hn (hh.tail i (Nat.le_refl _) hn)
      have h2 : (unlisted ops listed).length ≤ ops.size - i := by
        have e : List.range ops.size = List.range i ++ (List.range (ops.size - i)).map (i + ·) := by
          rw [← List.range_add]
          congr 1
          omega
        unfold unlisted
        rw [e, List.filter_append, List.length_append]
        have h3 : ((List.range i).filter fun j => !listed.getD j true) = [] := by
          rw [List.filter_eq_nil_iff]
          intro j hj
          rw [hl j (List.mem_range.1 hj)]
          simp
        rw [h3]
        have := List.length_filter_le (fun j => !listed.getD j true) ((List.range (ops.size - i)).map (i + ·))
        simp only [List.length_map, List.length_range, List.length_nil] at this ⊢
        omega
      omega
  | succ f ih =>
    intro listed a w h hh hf
    have hex : ∃ i, i < n ∧ listed.getD i true = false := by
      cases e : ((List.range n).filter fun j => !listed.getD j true) with
      | nil => rw [e] at hf; cases hf
      | cons j js =>
        have : j ∈ (List.range n).filter fun j => !listed.getD j true := by rw [e]; simp
        rw [List.mem_filter, List.mem_range] at this
        exact ⟨j, this.1, by simpa using this.2⟩
    obtain ⟨i0, hi0, hun0⟩ := hex
    rw [show f + 1 + (ops.size - n) = (f + (ops.size - n)) + 1 by omega]
    refine ⟨fun hr => ?_, fun i hi => ?_⟩
    · have := all_listed h.size hacy hr (i0 + 1) i0 (by omega) (by omega)
      rw [hun0] at this
      cases this
    · have hin : i < n := Nat.lt_of_not_le fun hni => back_waits hsink hback hn hh hi0 hun0 hni hi
      obtain ⟨hun, o, ho, _⟩ := mem_ready.1 hi
      refine wpOp_mono (fun a' w' h' => ?_) (h.step (Q := Q) hok hmono (fun o => hsteps i o hin) hi)
      have hle := unlisted_exact hin hun
      exact ih _ _ _ h'.1 (hh.set hi hin) (by omega)

/-- the obligations: numbers below n with the first's words, number n between, those above with the second's -/
def StepsM (P : Program) (S S' : World → Prop) (R R' R'' : World → World → Prop) (Vs Vs' : List (Value → World → Prop)) (n : Nat) (a0 : Act) : List Row → Nat → Prop
  | [], _ => True
  | t :: ts, k => (∀ o : Oper, o.op = t.op → o.dst = t.dst →
      (k < n → ∀ w, S w → StepFrom P S R o (Vl Vs k) t.guard (t.deps.map fun p => (p.1, Vl Vs p.2)) a0 w) ∧
      (k = n → ∀ w, S w → StepFrom P S' R'' o (Vl Vs' k) t.guard (t.deps.map fun p => (p.1, Vl Vs p.2)) a0 w) ∧
      (n < k → ∀ w, S' w → StepFrom P S' R' o (Vl Vs' k) t.guard (t.deps.map fun p => (p.1, Vl Vs' p.2)) a0 w)) ∧ StepsM P S S' R R' R'' Vs Vs' n a0 ts (k + 1)
section
variable {P : Program} {S S' : World → Prop} {R R' R'' : World → World → Prop} {Vs Vs' : List (Value → World → Prop)} {Q : Exit → Act → World → Prop}
theorem StepsM.get {n : Nat} {a0 : Act} {ops : Array Oper} : ∀ (os : List Oper) (ts : List Row) (k : Nat), StepsM P S S' R R' R'' Vs Vs' n a0 ts k → ts = os.map (rowOf ops) →
    ∀ (i : Nat) o, os[i]? = some o →
      (k + i < n → ∀ w, S w → StepFrom P S R o (Vl Vs (k + i)) (gOf ops o) ((depsOf ops o).map fun p => (p.1, Vl Vs p.2)) a0 w) ∧
      (k + i = n → ∀ w, S w → StepFrom P S' R'' o (Vl Vs' (k + i)) (gOf ops o) ((depsOf ops o).map fun p => (p.1, Vl Vs p.2)) a0 w) ∧
      (n < k + i → ∀ w, S' w → StepFrom P S' R' o (Vl Vs' (k + i)) (gOf ops o) ((depsOf ops o).map fun p => (p.1, Vl Vs' p.2)) a0 w)
  | [], _, _, _, _, i, o, ho => by simp at ho
  | q :: os, [], _, _, e, _, _, _ => by simp at e
  | q :: os, t :: ts, k, h, e, i, o, ho => by
    rw [List.map_cons] at e
    injection e with e1 e2
    cases i with
    | zero =>
      simp at ho
      subst ho
      have := h.1 q (by rw [e1]; rfl) (by rw [e1]; rfl)
      rw [e1] at this
      exact this
    | succ i =>
      have := StepsM.get os ts (k + 1) h.2 e2 i o (by simpa using ho)
      rwa [Nat.add_right_comm, Nat.add_assoc] at this
theorem StepsM.nil {n : Nat} {a0 : Act} {k : Nat} : StepsM P S S' R R' R'' Vs Vs' n a0 [] k := trivial
theorem StepsM.head {n : Nat} {a0 : Act} {dst : Option Tmp} {op : Op} {g : Option (Option Tmp × Bool)} {d : List (Tmp × Nat)} {ts : List Row} {k : Nat}
    (V : Value → World → Prop) (U : List (Tmp × (Value → World → Prop))) (hV : Vl Vs k = V) (hU : (d.map fun p => (p.1, Vl Vs p.2)) = U) (hk : k < n)
    (h : ∀ o : Oper, o.op = op → o.dst = dst → ∀ w, S w → StepFrom P S R o V g U a0 w) (t : StepsM P S S' R R' R'' Vs Vs' n a0 ts (k + 1)) : StepsM P S S' R R' R'' Vs Vs' n a0 (⟨dst, op, g, d⟩ :: ts) k :=
  ⟨fun o h1 h2 => ⟨fun _ => by rw [hV, hU]; exact h o h1 h2, fun e => by omega, fun e => by omega⟩, t⟩
theorem StepsM.mid {n : Nat} {a0 : Act} {dst : Option Tmp} {op : Op} {g : Option (Option Tmp × Bool)} {d : List (Tmp × Nat)} {ts : List Row} {k : Nat}
    (V : Value → World → Prop) (U : List (Tmp × (Value → World → Prop))) (hV : Vl Vs' k = V) (hU : (d.map fun p => (p.1, Vl Vs p.2)) = U) (hk : k = n)
    (h : ∀ o : Oper, o.op = op → o.dst = dst → ∀ w, S w → StepFrom P S' R'' o V g U a0 w) (t : StepsM P S S' R R' R'' Vs Vs' n a0 ts (k + 1)) : StepsM P S S' R R' R'' Vs Vs' n a0 (⟨dst, op, g, d⟩ :: ts) k :=
  ⟨fun o h1 h2 => ⟨fun e => by omega, fun _ => by rw [hV, hU]; exact h o h1 h2, fun e => by omega⟩, t⟩
theorem StepsM.back {n : Nat} {a0 : Act} {dst : Option Tmp} {op : Op} {g : Option (Option Tmp × Bool)} {d : List (Tmp × Nat)} {ts : List Row} {k : Nat}
    (V : Value → World → Prop) (U : List (Tmp × (Value → World → Prop))) (hV : Vl Vs' k = V) (hU : (d.map fun p => (p.1, Vl Vs' p.2)) = U) (hk : n < k)
    (h : ∀ o : Oper, o.op = op → o.dst = dst → ∀ w, S' w → StepFrom P S' R' o V g U a0 w) (t : StepsM P S S' R R' R'' Vs Vs' n a0 ts (k + 1)) : StepsM P S S' R R' R'' Vs Vs' n a0 (⟨dst, op, g, d⟩ :: ts) k :=
  ⟨fun o h1 h2 => ⟨fun e => by omega, fun e => by omega, fun _ => by rw [hV, hU]; exact h o h1 h2⟩, t⟩

/-- what is handed from the first span to the second -/
def ConvL (S S' : World → Prop) (R'' : World → World → Prop) : List (Value → World → Prop) → List (Value → World → Prop) → Prop
  | [], _ => True
  | _ :: _, [] => True
  | V :: Vs, V' :: Vs' => (∀ x w w', S w → S' w' → R'' w w' → V x w → V' x w') ∧ ConvL S S' R'' Vs Vs'
theorem ConvL.get : ∀ (Vs Vs' : List (Value → World → Prop)), ConvL S S' R'' Vs Vs' → Vs.length ≤ Vs'.length → ∀ j x w w', j < Vs.length → S w → S' w' → R'' w w' → Vl Vs j x w → Vl Vs' j x w'
  | [], _, _, _, j, x, w, w', hj, _, _, _, _ => by simp at hj
  | _ :: _, [], _, hl, _, _, _, _, _, _, _, _, _ => by simp at hl
  | V :: Vs, V' :: Vs', h, hl, j, x, w, w', hj, hs, hs', hr, hv => by
    cases j with
    | zero => exact h.1 x w w' hs hs' hr hv
    | succ j => exact ConvL.get Vs Vs' h.2 (by simpa using hl) j x w w' (by simpa using hj) hs hs' hr hv
theorem ConvL.nil {Us : List (Value → World → Prop)} : ConvL S S' R'' [] Us := trivial
theorem ConvL.cons {V V' : Value → World → Prop} {Us Us' : List (Value → World → Prop)} (h : ∀ x w w', S w → S' w' → R'' w w' → V x w → V' x w') (t : ConvL S S' R'' Us Us') : ConvL S S' R'' (V :: Us) (V' :: Us') := ⟨h, t⟩

/-- **A drawn region in two spans.** -/
theorem wp_region_two {id : Nat} {a0 : Act} {w : World} {os : List Oper} (n : Nat) (S S' : World → Prop) (R R' R'' : World → World → Prop) (Vs Vs' : List (Value → World → Prop)) (T : List Row) (F : List (Option Tmp))
    (hm : P.follows .mixedOrders = true) (hok : relOk os.toArray a0.tmps.size = true) (hT : os.map (rowOf os.toArray) = T) (hF : os.map Oper.dst = F) (hl : Vs.length = n) (hl' : Vs'.length = os.length)
    (hsink : Region.sinkB .any os.toArray n = true) (hback : backB os.toArray n = true) (hn : n < os.length)
    (hready : Region.ready .any os.toArray (Array.replicate n true ++ Array.replicate (os.toArray.size - n) false) = [n])
    (hS : S w.drew) (hmono : MonoL S R Vs) (hconv : ConvL S S' R'' Vs Vs') (hmono' : MonoL S' R' Vs') (hsteps : StepsM P S S' R R' R'' Vs Vs' n a0 T 0)
    (hfin : ∀ w, S' w → FinalFrom Q (F.zip Vs') a0 w) : (Code.region id os.toArray true).wp P Q a0 w := by
  have hnz : n < os.toArray.size := by simpa using hn
  have hnone : ∀ j, (Array.replicate os.toArray.size false).getD j true = true → os.toArray.size ≤ j := fun j hj => by
    rcases Nat.lt_or_ge j os.toArray.size with h | h
    · rw [Array.getD_eq_getD_getElem?, Array.getElem?_replicate, if_pos h] at hj
      cases hj
    · exact h
  have hst := fun (i : Nat) o (ho : os.toArray[i]? = some o) => StepsM.get (ops := os.toArray) os T 0 hsteps hT.symm i o (by simpa using ho)
  have hgo := wpAny_two (P := P) (ops := os.toArray) (S := S) (R := R) (Vs := Vl Vs) (Q := Q) (a0 := a0) (n := n) (S' := S') (R' := R') (R'' := R'') (Vs' := Vl Vs') hok hsink hback hnz hready hmono.get
    (fun i o hi ho => by
      have := (hst i o ho).1 (by omega)
      rwa [Nat.zero_add] at this)
    (fun o ho => by
      have := (hst n o ho).2.1 (by omega)
      rwa [Nat.zero_add] at this)
    (fun j x w w' hj hs hs' hr hv => ConvL.get Vs Vs' hconv (by omega) j x w w' (by omega) hs hs' hr hv) hmono'.get
    (fun i o hi ho => by
      have := (hst i o ho).2.2 (by omega)
      rwa [Nat.zero_add] at this)
    (fun w hs => by
      have e : ((List.range os.toArray.size).map fun j => ((os.toArray[j]?).bind (·.dst), Vl Vs' j)) = F.zip Vs' := by
        rw [← hF]
        refine List.ext_getElem (by simp [hl']) fun j h1 h2 => ?_
        have hj : j < os.length := by simpa using h1
        have hj2 : j < Vs'.length := by omega
        simp [hj, hj2, Vl]
      rw [e]
      exact hfin w hs)
    n (Array.replicate os.toArray.size false) a0 w.drew
    ⟨by simp, hS, rfl, rfl, fun _ _ => rfl, fun j oj hoj hl => by
      have := hnone j hl
      have hj : j < os.toArray.size := (Array.getElem?_eq_some_iff.1 hoj).1
      omega⟩
    ⟨by simp, fun j oj hj hl => (by rw [getD_replicate_false] at hl; cases hl), fun t _ ht => by
      rw [Array.getD_eq_getD_getElem?, Array.getElem?_replicate, if_pos ht]
      rfl⟩
    (by
      have : ((List.range n).filter fun j => !(Array.replicate os.toArray.size false).getD j true) = List.range n := by
        rw [List.filter_eq_self]
        intro j hj
        have hjn := List.mem_range.1 hj
        rw [Array.getD_eq_getD_getElem?, Array.getElem?_replicate, if_pos (by omega)]
        rfl
      rw [this, List.length_range])
  rw [show n + (os.toArray.size - n) = os.toArray.size by omega] at hgo
  exact wp_region_any hm hgo
end
end
end Go.Proofs.YtafgmndlbbjphaaDoor
namespace Go.Proofs.YtafgmndlbbjphaaDoor
open Go

section
variable {P : Program} {S : World → Prop} {R : World → World → Prop}

/-- One operation, its own reads at hand, and what is known of pairs of them. -/
def StepPre (P : Program) (S : World → Prop) (R : World → World → Prop) (o : Oper) (V : Value → World → Prop) (g : Option (Option Tmp × Bool)) (pre : Act → Prop) :
    List (Tmp × (Value → World → Prop)) → Act → World → Prop
  | [], a, w => pre a → StepFrom P S R o V g [] a w
  | (d, U) :: rest, a, w => ∀ x, U x w → StepPre P S R o V g pre rest (a.put (some d) x) w
theorem StepPre.inst {o : Oper} {V : Value → World → Prop} {g : Option (Option Tmp × Bool)} {pre : Act → Prop} (b : Act) : ∀ (D : List (Tmp × (Value → World → Prop))) (a : Act) (w : World), StepPre P S R o V g pre D a w →
    b.tmps.size = a.tmps.size → (∀ p ∈ D, ∃ x, b.tmps[p.1]? = some x ∧ p.2 x w) →
    ∃ a', (pre a' → StepFrom P S R o V g [] a' w) ∧ a'.defers = a.defers ∧ a'.tmps.size = a.tmps.size ∧ (∀ p ∈ D, a'.tmps[p.1]? = b.tmps[p.1]?) ∧ ∀ t, (∀ p ∈ D, p.1 ≠ t) → a'.tmps[t]? = a.tmps[t]?
  | [], a, w, h, _, _ => ⟨a, h, rfl, rfl, fun p hp => (by cases hp), fun t _ => rfl⟩
  | (d, U) :: rest, a, w, h, hz, hx => by
    obtain ⟨x, hx1, hx2⟩ := hx (d, U) (by simp)
    have hd : d < a.tmps.size := by
      rw [← hz]
      exact (Array.getElem?_eq_some_iff.1 hx1).1
    obtain ⟨a', h1, h2, h3, h4, h5⟩ := StepPre.inst b rest (a.put (some d) x) w (h x hx2) (by simpa [Act.put] using hz) (fun p hp => hx p (by simp [hp]))
    refine ⟨a', h1, h2, by simpa [Act.put] using h3, fun p hp => ?_, fun t ht => ?_⟩
    · by_cases hr : ∃ q ∈ rest, q.1 = p.1
      · obtain ⟨q, hq, e⟩ := hr
        rw [← e]
        exact h4 q hq
      · have hpd : p = (d, U) := by
          rcases List.mem_cons.1 hp with e | e
          · exact e
          · exact absurd ⟨p, e, rfl⟩ hr
        subst hpd
        rw [h5 d (fun q hq e => hr ⟨q, hq, e⟩)]
        simp [Act.put, hd, hx1]
    · rw [h5 t (fun q hq => ht q (by simp [hq]))]
      have : d ≠ t := ht (d, U) (by simp)
      simp [Act.put, Array.getElem?_setIfInBounds_ne this]
theorem StepPre.of {o : Oper} {V V' : Value → World → Prop} {g : Option (Option Tmp × Bool)} {pre : Act → Prop} (hV : ∀ v w', V v w' → V' v w') : ∀ (D : List (Tmp × (Value → World → Prop))) (a : Act) (w : World), StepFrom P S R o V g D a w → StepPre P S R o V' g pre D a w
  | [], _, _, h => fun _ K Q hK => h K Q (fun v w' h1 h2 h3 => hK.out v w' h1 h2 (hV v w' h3))
  | (d, _) :: rest, a, w, h => fun x hx => StepPre.of hV rest (a.put (some d) x) w (h x hx)
end

/-- facts on pairs: operations' numbers, and what holds of their values -/
structure Pr where
  i : Nat
  j : Nat
  D : Value → Value → Prop
def preOf (prs : List Pr) (deps : List (Tmp × Nat)) (a : Act) : Prop := ∀ q ∈ prs, ∀ di dj x y, (di, q.i) ∈ deps → (dj, q.j) ∈ deps → a.tmps[di]? = some x → a.tmps[dj]? = some y → q.D x y
def PairInv (ops : Array Oper) (prs : List Pr) (listed : Array Bool) (a : Act) : Prop := ∀ q ∈ prs, ∀ oi oj di dj x y, ops[q.i]? = some oi → ops[q.j]? = some oj → listed.getD q.i true = true → listed.getD q.j true = true → oi.dst = some di → oj.dst = some dj → a.tmps[di]? = some x → a.tmps[dj]? = some y → q.D x y

section
variable {P : Program} {ops : Array Oper} {S : World → Prop} {R : World → World → Prop} {Vs : Nat → Value → World → Prop} {Ns : Nat → World → Value → Prop} {prs : List Pr} {Q : Exit → Act → World → Prop}

theorem RelInv.step3 {S' : World → Prop} {Vs' : Nat → Value → World → Prop} {a0 : Act} {listed : Array Bool} {a : Act} {w : World} {i : Nat} (hok : relOk ops a0.tmps.size = true)
    (hmono : ∀ j x w w', j < ops.size → listed.getD j true = true → S w → S' w' → R w w' → Vs j x w → Vs' j x w')
    (hinst : ∀ o, ops[i]? = some o → (∀ p ∈ (depsOf ops o).map (fun p => (p.1, Vs p.2)), ∃ x, a.tmps[p.1]? = some x ∧ p.2 x w) → ∃ a', StepFrom P S' R o (Vs' i) (gOf ops o) [] a' w ∧ a'.defers = a0.defers ∧ a'.tmps.size = a0.tmps.size ∧ (∀ p ∈ (depsOf ops o).map (fun p => (p.1, Vs p.2)), a'.tmps[p.1]? = a.tmps[p.1]?) ∧ ∀ t, (∀ p ∈ (depsOf ops o).map (fun p => (p.1, Vs p.2)), p.1 ≠ t) → a'.tmps[t]? = a0.tmps[t]?)
    (h : RelInv ops S Vs a0 listed a w) (hi : i ∈ Region.ready .any ops listed) :
    wpOp P ops Q i (fun a' w' => RelInv ops S' Vs' a0 (listed.setIfInBounds i true) a' w' ∧ ∃ o v, ops[i]? = some o ∧ a' = a.put o.dst v ∧ ((∃ obj, o.guard = none ∧ ∀ ρ w, (execOp ρ o).run P w = .ok (.value (.pointer (some ⟨w.heap.size, 0, none⟩))) (w.alloc obj)) → v = .pointer (some ⟨w.heap.size, 0, none⟩))) a w := by
  obtain ⟨hsel, hall⟩ := relOk_spec hok
  obtain ⟨hun, o, ho, hafter⟩ := mem_ready.1 hi
  obtain ⟨hd0, _, hdeps, hdist⟩ := hall i o ho
  have hisz : i < ops.size := (Array.getElem?_eq_some_iff.1 ho).1
  have hlist : ∀ d j, (d, j) ∈ depsOf ops o → listed.getD j true = true := fun d j hj => by
    obtain ⟨e, he, hb, rfl⟩ := hdeps d j hj
    have := hafter e he hb
    rcases Nat.lt_or_ge e.on listed.size with h' | h'
    · simp [h'] at this ⊢
      exact this
    · simp [Array.getElem?_eq_none h'] at this
  have hz : a.tmps.size = a0.tmps.size := h.tmps
  obtain ⟨a', h1, h2, h3, h4, h5⟩ := hinst o ho (fun p hp => by
    obtain ⟨q, hq, rfl⟩ := List.mem_map.1 hp
    obtain ⟨d, j⟩ := q
    obtain ⟨hj1, hj2, hj3⟩ := mem_deps.1 hq
    obtain ⟨oj, hoj, hdj⟩ := Option.bind_eq_some_iff.1 hj2
    have := h.got j oj hoj (hlist d j hq)
    rw [hdj] at this
    exact this)
  have hlook : ∀ d ∈ o.looksAt ops, a.tmps[d]? = a'.tmps[d]? := fun d hd => by
    by_cases hx : ∃ j, (d, j) ∈ depsOf ops o
    · obtain ⟨j, hj⟩ := hx
      exact (h4 (d, Vs j) (List.mem_map.2 ⟨(d, j), hj, rfl⟩)).symm
    · rw [h5 d (fun p hp e => by
        obtain ⟨q, hq, rfl⟩ := List.mem_map.1 hp
        obtain ⟨d', j⟩ := q
        simp only at e
        subst e
        exact hx ⟨j, hq⟩)]
      refine h.old d fun j oj hoj _ e => hx ⟨j, mem_deps.2 ⟨(Array.getElem?_eq_some_iff.1 hoj).1, ?_, hd⟩⟩
      rw [hoj]
      exact e
  have hexec := exec_same o (Region.noSelect_spec hsel i o · · ho) a a' hlook
  have hwant := wanted_same (ops := ops) o a.tmps a'.tmps hlook
  have hset : (listed.setIfInBounds i true).size = ops.size := by simpa using h.size
  -- what follows, of the frame at hand
  have next : ∀ v w', S' w' → R w w' → (∀ d, o.dst = some d → Vs' i v w') → RelInv ops S' Vs' a0 (listed.setIfInBounds i true) (a.put o.dst v) w' := fun v w' hs hr hv => by
    have hcase : ∀ j, (listed.setIfInBounds i true).getD j true = true → j = i ∨ listed.getD j true = true := fun j hj => by
      by_cases e : j = i
      · exact Or.inl e
      · exact Or.inr (by rwa [getD_set_ne true (Ne.symm e)] at hj)
    have hone : (listed.setIfInBounds i true).getD i true = true := by simp
    have hkeep : ∀ j, listed.getD j true = true → (listed.setIfInBounds i true).getD j true = true := fun j hj => by
      by_cases e : j = i
      · rw [e]; exact hone
      · rw [getD_set_ne true (Ne.symm e)]; exact hj
    refine ⟨hset, hs, ?_, ?_, fun t ht => ?_, fun j oj hoj hj => ?_⟩
    · rw [← h.defers]
      cases o.dst <;> rfl
    · rw [← hz]
      cases o.dst <;> simp [Act.put]
    · have hti : o.dst ≠ some t := ht i o ho hone
      rw [← h.old t fun j oj hoj hj => ht j oj hoj (hkeep j hj)]
      cases hd : o.dst with
      | none => rfl
      | some d =>
        have : d ≠ t := fun e => hti (by rw [hd, e])
        simp [Act.put, Array.getElem?_setIfInBounds_ne this]
    · by_cases e : j = i
      · subst e
        have : oj = o := by rw [ho] at hoj; injection hoj with hoj; exact hoj.symm
        subst this
        cases hd : oj.dst with
        | none => trivial
        | some d =>
          refine ⟨v, ?_, hv d hd⟩
          have : d < a.tmps.size := by rw [hz]; exact hd0 d hd
          simp [Act.put, this]
      · have hj' := (hcase j hj).resolve_left e
        have hg := h.got j oj hoj hj'
        cases hd : oj.dst with
        | none => trivial
        | some d =>
          rw [hd] at hg
          obtain ⟨x, hx1, hx2⟩ := hg
          refine ⟨x, ?_, hmono j x w w' (Array.getElem?_eq_some_iff.1 hoj).1 hj' h.s hs hr hx2⟩
          rw [← hx1]
          cases hdo : o.dst with
          | none => rfl
          | some d' =>
            have : d' ≠ d := fun e' => hdist j oj hoj e d' hdo (by rw [hd, e'])
            simp [Act.put, Array.getElem?_setIfInBounds_ne this]
  unfold wpOp
  simp only [ho]
  have H := h1 (fun b w' => S' w' ∧ R w w' ∧ b.defers = a'.defers ∧ Got o.dst (Vs' i) b w') (fun _ _ _ => False) (fun v w' p1 p2 p3 => ⟨p1, p2, by cases o.dst <;> rfl, by
    cases hd : o.dst with
    | none => trivial
    | some d =>
      have hlt : d < a'.tmps.size := by rw [h3]; exact hd0 d hd
      exact ⟨v, by simp [Act.put, hlt], p3⟩⟩)
  rw [gOn_of] at H
  have hput : ∀ v w', (S' w' ∧ R w w' ∧ (a'.put o.dst v).defers = a'.defers ∧ Got o.dst (Vs' i) (a'.put o.dst v) w') → RelInv ops S' Vs' a0 (listed.setIfInBounds i true) (a.put o.dst v) w' := fun v w' ⟨p1, p2, _, p4⟩ =>
    next v w' p1 p2 fun d hd => by
      rw [hd] at p4
      obtain ⟨x, hx, hv⟩ := p4
      have hlt : d < a'.tmps.size := by rw [h3]; exact hd0 d hd
      simp [Act.put, hlt] at hx
      rw [hx]
      exact hv
  rw [← hwant] at H
  by_cases hw : Region.wanted o (yielded ops a.tmps) = true
  · rw [if_pos hw] at H ⊢
    left
    unfold Oper.wp at H ⊢
    rw [hexec]
    have hal : ∀ v w', (execOp a'.eval o).run P w = .ok (.value v) w' → (∃ obj, o.guard = none ∧ ∀ ρ w, (execOp ρ o).run P w = .ok (.value (.pointer (some ⟨w.heap.size, 0, none⟩))) (w.alloc obj)) → v = .pointer (some ⟨w.heap.size, 0, none⟩) := fun v w' e ⟨obj, _, hr⟩ => by
      rw [hr] at e
      injection e with e _
      injection e with e
      exact e.symm
    have hno : ∀ n w', (execOp a'.eval o).run P w = .ok n w' → (∀ v, n ≠ .value v) → ¬ ∃ obj, o.guard = none ∧ ∀ ρ w, (execOp ρ o).run P w = .ok (.value (.pointer (some ⟨w.heap.size, 0, none⟩))) (w.alloc obj) := fun n w' e hn ⟨obj, _, hr⟩ => by
      rw [hr] at e
      injection e with e _
      exact hn _ e.symm
    generalize (execOp a'.eval o).run P w = r at *
    cases r with
    | ok n w' =>
      cases n <;> simp only [Oper.upon] at H ⊢
      case value u => exact ⟨hput _ _ H, o, u, rfl, rfl, hal u w' rfl⟩
      case skip => exact ⟨hput _ _ H, o, undef, rfl, rfl, fun h => absurd h (hno _ w' rfl (fun v e => by cases e))⟩
      case defer d =>
        obtain ⟨_, _, h7, _⟩ := H
        exfalso
        cases hd : o.dst <;> rw [hd] at h7 <;> simp [Act.put] at h7
      case enter f args =>
        refine Calls.mono H fun e w'' he => ?_
        cases e with
        | returned u => exact ⟨hput _ _ he, o, u, rfl, rfl, fun h => absurd h (hno _ w' rfl (fun v e => by cases e))⟩
        | panicked c => exact (he : False).elim
        | outgrown =>
          obtain ⟨_, _, hf⟩ := (he : LetsOut _)
          exact (hf : False).elim
      case row row args => exact Rows.mono H fun u w'' he => ⟨hput _ _ he, o, u, rfl, rfl, fun h => absurd h (hno _ w' rfl (fun v e => by cases e))⟩
    | halt x w' =>
      cases x <;> simp only [Oper.upon] at H
  · rw [if_neg hw] at H ⊢
    refine ⟨hput _ _ H, o, undef, rfl, rfl, fun ⟨obj, hg, _⟩ => ?_⟩
    exfalso
    apply hw
    unfold Region.wanted
    rw [hg]


theorem RelInv.stepP {a0 : Act} {listed : Array Bool} {a : Act} {w : World} {i : Nat} (hok : relOk ops a0.tmps.size = true)
    (hmono : ∀ j x w w', S w → S w' → R w w' → Vs j x w → Vs j x w')
    (hpr : ∀ q ∈ prs, q.i ≠ q.j ∧ (∀ x v w, S w → Vs q.i x w → Ns q.j w v → q.D x v) ∧ (∀ x v w, S w → Vs q.j x w → Ns q.i w v → q.D v x))
    (hstep : ∀ o, ops[i]? = some o → ∀ w, S w → StepPre P S R o (fun v w' => Vs i v w' ∧ Ns i w v) (gOf ops o) (preOf prs (depsOf ops o)) ((depsOf ops o).map fun p => (p.1, Vs p.2)) a0 w)
    (h : RelInv ops S Vs a0 listed a w) (hp : PairInv ops prs listed a) (hi : i ∈ Region.ready .any ops listed) :
    wpOp P ops Q i (fun a' w' => RelInv ops S Vs a0 (listed.setIfInBounds i true) a' w' ∧ PairInv ops prs (listed.setIfInBounds i true) a') a w := by
  obtain ⟨hsel, hall⟩ := relOk_spec hok
  obtain ⟨hun, o, ho, hafter⟩ := mem_ready.1 hi
  obtain ⟨hd0, _, hdeps, hdist⟩ := hall i o ho
  have hlist : ∀ d j, (d, j) ∈ depsOf ops o → listed.getD j true = true := fun d j hj => by
    obtain ⟨e, he, hb, rfl⟩ := hdeps d j hj
    have := hafter e he hb
    rcases Nat.lt_or_ge e.on listed.size with h' | h'
    · simp [h'] at this ⊢
      exact this
    · simp [Array.getElem?_eq_none h'] at this
  refine wpOp_mono (fun a' w' h' => ?_) (RelInv.step3 (Q := Q) (S' := S) (R := R) (Vs' := fun j v w' => Vs j v w' ∧ (j = i → Ns i w v)) hok (fun j x w1 w2 _ hlj hs hs' hr hv => ⟨hmono j x w1 w2 hs hs' hr hv, fun e => by
      rw [e, hun] at hlj
      cases hlj⟩) (fun o' ho' hx => by
    have : o' = o := by rw [ho] at ho'; injection ho' with ho'; exact ho'.symm
    subst this
    obtain ⟨a', h1, h2, h3, h4, h5⟩ := StepPre.inst a _ a0 w (hstep o' ho w h.s) h.tmps hx
    have hat : ∀ d j, (d, j) ∈ depsOf ops o' → a'.tmps[d]? = a.tmps[d]? := fun d j hj => h4 (d, Vs j) (List.mem_map.2 ⟨(d, j), hj, rfl⟩)
    have hpre : preOf prs (depsOf ops o') a' := fun q hq di dj x y hdi hdj hx hy => by
      rw [hat di q.i hdi] at hx
      rw [hat dj q.j hdj] at hy
      obtain ⟨_, hbi, _⟩ := mem_deps.1 hdi
      obtain ⟨_, hbj, _⟩ := mem_deps.1 hdj
      obtain ⟨oi, hoi, hdi'⟩ := Option.bind_eq_some_iff.1 hbi
      obtain ⟨oj, hoj, hdj'⟩ := Option.bind_eq_some_iff.1 hbj
      exact hp q hq oi oj di dj x y hoi hoj (hlist di q.i hdi) (hlist dj q.j hdj) hdi' hdj' hx hy
    exact ⟨a', fun K Q' hK => h1 hpre K Q' (fun v w' q1 q2 q3 => hK.out v w' q1 q2 ⟨q3.1, fun _ => q3.2⟩), h2, h3, h4, h5⟩) h hi)
  obtain ⟨hr, o', v, ho', rfl, _⟩ := h'
  have : o' = o := by rw [ho] at ho'; injection ho' with ho'; exact ho'.symm
  subst this
  refine ⟨⟨hr.size, hr.s, hr.defers, hr.tmps, hr.old, fun j oj hoj hlj => ?_⟩, fun q hq oi oj di dj x y hoi hoj hli hlj hdi hdj hx hy => ?_⟩
  · have hg := hr.got j oj hoj hlj
    cases hd : oj.dst with
    | none => trivial
    | some d =>
      rw [hd] at hg
      obtain ⟨x, h1, h2, _⟩ := hg
      exact ⟨x, h1, h2⟩
  · obtain ⟨hne, hp1, hp2⟩ := hpr q hq
    have hcase : ∀ j, (listed.setIfInBounds i true).getD j true = true → j ≠ i → listed.getD j true = true := fun j hj hji => by
      rwa [getD_set_ne true (Ne.symm hji)] at hj
    -- another's value is as it was
    have hput : ∀ d (k : Nat) ok, ops[k]? = some ok → ok.dst = some d → k ≠ i → (a.put o'.dst v).tmps[d]? = a.tmps[d]? := fun d k ok hok' hdk hki => by
      cases hd : o'.dst with
      | none => rfl
      | some d' =>
        have : d' ≠ d := fun e => hdist k ok hok' hki d' hd (by rw [hdk, e])
        simp [Act.put, Array.getElem?_setIfInBounds_ne this]
    have hold : ∀ d (k : Nat) ok z, ops[k]? = some ok → ok.dst = some d → k ≠ i → listed.getD k true = true → a.tmps[d]? = some z → Vs k z w := fun d k ok z hok' hdk hki hlk hz => by
      have hg := h.got k ok hok' hlk
      rw [hdk] at hg
      obtain ⟨z', h1, h2⟩ := hg
      rw [hz] at h1
      injection h1 with h1
      rw [h1]
      exact h2
    have hnew : ∀ d z, o'.dst = some d → (a.put o'.dst v).tmps[d]? = some z → Ns i w z := fun d z hd hz => by
      have hg := hr.got i o' ho (by simp)
      rw [hd] at hg
      obtain ⟨z', h1, _, h2⟩ := hg
      rw [hd] at hz
      rw [hz] at h1
      injection h1 with h1
      rw [h1]
      exact h2 rfl
    by_cases hqi : q.i = i
    · have hqj : q.j ≠ i := fun e => hne (hqi.trans e.symm)
      rw [hqi] at hoi
      have : oi = o' := by rw [ho] at hoi; injection hoi with hoi; exact hoi.symm
      subst this
      rw [hput dj q.j oj hoj hdj hqj] at hy
      exact hp2 y x w h.s (hold dj q.j oj y hoj hdj hqj (hcase _ hlj hqj) hy) (by rw [hqi]; exact hnew di x hdi hx)
    · rw [hput di q.i oi hoi hdi hqi] at hx
      by_cases hqj : q.j = i
      · rw [hqj] at hoj
        have : oj = o' := by rw [ho] at hoj; injection hoj with hoj; exact hoj.symm
        subst this
        exact hp1 x y w h.s (hold di q.i oi x hoi hdi hqi (hcase _ hli hqi) hx) (by rw [hqj]; exact hnew dj y hdj hy)
      · rw [hput dj q.j oj hoj hdj hqj] at hy
        exact hp q hq oi oj di dj x y hoi hoj (hcase _ hli hqi) (hcase _ hlj hqj) hdi hdj hx hy

def full (ops : Array Oper) (n : Nat) : Array Bool := Array.replicate n true ++ Array.replicate (ops.size - n) false
/-- A head in whatever order. -/
theorem wpAny_headP {a0 : Act} {n g : Nat} (hok : relOk ops a0.tmps.size = true) (hn : n < ops.size)
    (hwait : ∀ listed, HeadInv .any ops n listed → ∀ i, i < n → listed.getD i true = false → ∀ t, n ≤ t → t ∉ Region.ready .any ops listed)
    (hmono : ∀ j x w w', S w → S w' → R w w' → Vs j x w → Vs j x w')
    (hpr : ∀ q ∈ prs, q.i ≠ q.j ∧ (∀ x v w, S w → Vs q.i x w → Ns q.j w v → q.D x v) ∧ (∀ x v w, S w → Vs q.j x w → Ns q.i w v → q.D v x))
    (hsteps : ∀ i o, i < n → ops[i]? = some o → ∀ w, S w → StepPre P S R o (fun v w' => Vs i v w' ∧ Ns i w v) (gOf ops o) (preOf prs (depsOf ops o)) ((depsOf ops o).map fun p => (p.1, Vs p.2)) a0 w)
    (hend : ∀ a w, RelInv ops S Vs a0 (full ops n) a w → HeadInv .any ops n (full ops n) → PairInv ops prs (full ops n) a → wpAny P .any ops Q g (full ops n) a w) :
    ∀ (f : Nat) (listed : Array Bool) (a : Act) (w : World), RelInv ops S Vs a0 listed a w → HeadInv .any ops n listed → PairInv ops prs listed a → ((List.range n).filter fun j => !listed.getD j true).length = f →
      wpAny P .any ops Q (f + g) listed a w := by
  have hacy := fun i o ho => ((relOk_spec hok).2 i o ho).2.1
  intro f
  induction f with
  | zero =>
    intro listed a w h hh hp hf
    have hl : ∀ j, j < n → listed.getD j true = true := fun j hj => by
      cases e : listed.getD j true with
      | true => rfl
      | false =>
        have : j ∈ (List.range n).filter fun j => !listed.getD j true := by
          rw [List.mem_filter, List.mem_range]
          exact ⟨hj, by rw [e]; rfl⟩
        have := List.length_pos_of_mem this
        omega
    have hlist : listed = full ops n := by
      have hsz := h.size
      unfold full
      refine Array.ext (by simp [hsz]; omega) fun j h1 h2 => ?_
      by_cases hj : j < n
      · have := hl j hj
        simp [h1] at this
        rw [this]
        simp [hj]
      · have := hh.tail j (by omega) (by omega)
        simp [h1] at this
        rw [this]
        rw [Array.getElem_append_right (by simp; omega)]
        simp
    rw [Nat.zero_add]
    rw [hlist] at h hh hp ⊢
    exact hend a w h hh hp
  | succ f ih =>
    intro listed a w h hh hp hf
    have hex : ∃ i, i < n ∧ listed.getD i true = false := by
      cases e : ((List.range n).filter fun j => !listed.getD j true) with
      | nil => rw [e] at hf; cases hf
      | cons j js =>
        have : j ∈ (List.range n).filter fun j => !listed.getD j true := by rw [e]; simp
        rw [List.mem_filter, List.mem_range] at this
        exact ⟨j, this.1, by simpa using this.2⟩
    obtain ⟨i0, hi0, hun0⟩ := hex
    rw [show f + 1 + g = (f + g) + 1 by omega]
    refine ⟨fun hr => ?_, fun i hi => ?_⟩
    · have := all_listed h.size hacy hr (i0 + 1) i0 (by omega) (by omega)
      rw [hun0] at this
      cases this
    · have hin : i < n := Nat.lt_of_not_le fun hni => hwait listed hh i0 hi0 hun0 i hni hi
      obtain ⟨hun, o, ho, _⟩ := mem_ready.1 hi
      refine wpOp_mono (fun a' w' h' => ?_) (h.stepP (Q := Q) hok hmono hpr (fun o => hsteps i o hin) hp hi)
      have hle := unlisted_exact hin hun
      exact ih _ _ _ h'.1 (hh.set hi hin) h'.2 (by omega)

theorem full_listed {n j : Nat} (h : (full ops n).getD j true = true) (hj : j < ops.size) : j < n := by
  rcases Nat.lt_or_ge j n with h' | h'
  · exact h'
  · unfold full at h
    rw [Array.getD_eq_getD_getElem?, Array.getElem?_append_right (by simpa using h'), Array.getElem?_replicate, if_pos (by simp; omega)] at h
    cases h
theorem full_get {n j : Nat} (hj : j < n) : (full ops n).getD j true = true := by
  unfold full
  rw [Array.getD_eq_getD_getElem?, Array.getElem?_append_left (by simpa using hj), Array.getElem?_replicate, if_pos hj]
  rfl
/-- the frame when all of the head have come up, out of what is said of each value -/
theorem RelInv.finish {a0 : Act} {n : Nat} {a : Act} {w : World} {Q' : Act → World → Prop} (h : RelInv ops S Vs a0 (full ops n) a w) (hfin : FinalFrom (fun _ a w => Q' a w) ((List.range n).map fun j => ((ops[j]?).bind (·.dst), Vs j)) a0 w) : Q' a w := by
  obtain ⟨a', h1, h2, h3, h4, h5⟩ := FinalFrom.inst a _ a0 w hfin h.tmps (fun p hp d hd => by
    obtain ⟨j, hj, rfl⟩ := List.mem_map.1 hp
    have hjz := List.mem_range.1 hj
    obtain ⟨o, ho, hdo⟩ := Option.bind_eq_some_iff.1 hd
    have := h.got j o ho (full_get hjz)
    rw [hdo] at this
    exact this)
  have : a' = a := by
    have hd : a'.defers = a.defers := by rw [h2, h.defers]
    have ht : a'.tmps = a.tmps := by
      refine Array.ext_getElem? fun t => ?_
      by_cases hx : ∃ (j : Nat) (o : Oper), j < n ∧ ops[j]? = some o ∧ o.dst = some t
      · obtain ⟨j, o, hj, ho, hd⟩ := hx
        exact h4 ((ops[j]?).bind (·.dst), Vs j) (List.mem_map.2 ⟨j, List.mem_range.2 hj, rfl⟩) t (by rw [ho]; exact hd)
      · rw [h5 t (fun p hp e => by
          obtain ⟨j, hj, rfl⟩ := List.mem_map.1 hp
          obtain ⟨o, ho, hdo⟩ := Option.bind_eq_some_iff.1 e
          exact hx ⟨j, o, List.mem_range.1 hj, ho, hdo⟩)]
        refine (h.old t fun j o ho hlj e => ?_).symm
        have hj : j < ops.size := (Array.getElem?_eq_some_iff.1 ho).1
        exact hx ⟨j, o, full_listed hlj hj, ho, e⟩
    cases a'
    cases a
    simp_all
  rw [← this]
  exact h1
end

/-! The obligations one by one. -/
def Nl (Ns : List (Nat × (World → Value → Prop))) (j : Nat) : World → Value → Prop := match Ns.find? (fun p => p.1 == j) with
  | some p => p.2
  | none => fun _ _ => True
/-- the obligations of the rows 'ts', number k on -/
def StepsP (P : Program) (S : World → Prop) (R : World → World → Prop) (Vs : List (Value → World → Prop)) (Ns : List (Nat × (World → Value → Prop))) (prs : List Pr) (a0 : Act) : List Row → Nat → Prop
  | [], _ => True
  | t :: ts, k => (∀ o : Oper, o.op = t.op → o.dst = t.dst → ∀ w, S w → StepPre P S R o (fun v w' => Vl Vs k v w' ∧ Nl Ns k w v) t.guard (preOf prs t.deps) (t.deps.map fun p => (p.1, Vl Vs p.2)) a0 w) ∧ StepsP P S R Vs Ns prs a0 ts (k + 1)
section
variable {P : Program} {S S' : World → Prop} {R R' R'' : World → World → Prop} {Vs Vs' : List (Value → World → Prop)} {Ns : List (Nat × (World → Value → Prop))} {prs : List Pr} {Q : Exit → Act → World → Prop}
theorem StepsP.get {a0 : Act} {ops : Array Oper} : ∀ (os : List Oper) (ts : List Row) (k : Nat), StepsP P S R Vs Ns prs a0 ts k → ts = os.map (rowOf ops) →
    ∀ (i : Nat) o, os[i]? = some o → ∀ w, S w → StepPre P S R o (fun v w' => Vl Vs (k + i) v w' ∧ Nl Ns (k + i) w v) (gOf ops o) (preOf prs (depsOf ops o)) ((depsOf ops o).map fun p => (p.1, Vl Vs p.2)) a0 w
  | [], _, _, _, _, i, o, ho => by simp at ho
  | q :: os, [], _, _, e, _, _, _ => by simp at e
  | q :: os, t :: ts, k, h, e, i, o, ho => by
    rw [List.map_cons] at e
    injection e with e1 e2
    cases i with
    | zero =>
      simp at ho
      subst ho
      have := h.1 q (by rw [e1]; rfl) (by rw [e1]; rfl)
      rw [e1] at this
      exact this
    | succ i =>
      have := StepsP.get os ts (k + 1) h.2 e2 i o (by simpa using ho)
      rwa [Nat.add_right_comm, Nat.add_assoc] at this
theorem StepsP.nil {a0 : Act} {k : Nat} : StepsP P S R Vs Ns prs a0 [] k := trivial
/-- an operation that is in no pair -/
theorem StepsP.cons {a0 : Act} {dst : Option Tmp} {op : Op} {g : Option (Option Tmp × Bool)} {d : List (Tmp × Nat)} {ts : List Row} {k : Nat}
    (V : Value → World → Prop) (U : List (Tmp × (Value → World → Prop))) (hV : Vl Vs k = V) (hU : (d.map fun p => (p.1, Vl Vs p.2)) = U) (hN : (Ns.find? (fun p => p.1 == k)).isNone = true)
    (h : ∀ o : Oper, o.op = op → o.dst = dst → ∀ w, S w → StepFrom P S R o V g U a0 w) (t : StepsP P S R Vs Ns prs a0 ts (k + 1)) : StepsP P S R Vs Ns prs a0 (⟨dst, op, g, d⟩ :: ts) k :=
  ⟨fun o h1 h2 w hw => by
    have hN' : Nl Ns k = fun _ _ => True := by
      unfold Nl
      rw [Option.isNone_iff_eq_none] at hN
      rw [hN]
    rw [hV, hU, hN']
    exact StepPre.of (fun v w' hv => ⟨hv, trivial⟩) _ _ _ (h o h1 h2 w hw), t⟩
/-- an operation of a pair -/
theorem StepsP.new {a0 : Act} {dst : Option Tmp} {op : Op} {g : Option (Option Tmp × Bool)} {d : List (Tmp × Nat)} {ts : List Row} {k : Nat}
    (V : Value → World → Prop) (N : World → Value → Prop) (U : List (Tmp × (Value → World → Prop))) (hV : Vl Vs k = V) (hU : (d.map fun p => (p.1, Vl Vs p.2)) = U) (hN : Nl Ns k = N)
    (h : ∀ o : Oper, o.op = op → o.dst = dst → ∀ w, S w → StepFrom P S R o (fun v w' => V v w' ∧ N w v) g U a0 w) (t : StepsP P S R Vs Ns prs a0 ts (k + 1)) : StepsP P S R Vs Ns prs a0 (⟨dst, op, g, d⟩ :: ts) k :=
  ⟨fun o h1 h2 w hw => by
    rw [hV, hU, hN]
    exact StepPre.of (fun v w' hv => hv) _ _ _ (h o h1 h2 w hw), t⟩
/-- an operation that reads a pair -/
theorem StepsP.reads {a0 : Act} {dst : Option Tmp} {op : Op} {g : Option (Option Tmp × Bool)} {d : List (Tmp × Nat)} {ts : List Row} {k : Nat}
    (V : Value → World → Prop) (U : List (Tmp × (Value → World → Prop))) (hV : Vl Vs k = V) (hU : (d.map fun p => (p.1, Vl Vs p.2)) = U) (hN : (Ns.find? (fun p => p.1 == k)).isNone = true)
    (h : ∀ o : Oper, o.op = op → o.dst = dst → ∀ w, S w → StepPre P S R o (fun v w' => V v w' ∧ True) g (preOf prs d) U a0 w) (t : StepsP P S R Vs Ns prs a0 ts (k + 1)) : StepsP P S R Vs Ns prs a0 (⟨dst, op, g, d⟩ :: ts) k :=
  ⟨fun o h1 h2 w hw => by
    have hN' : Nl Ns k = fun _ _ => True := by
      unfold Nl
      rw [Option.isNone_iff_eq_none] at hN
      rw [hN]
    rw [hV, hU, hN']
    exact h o h1 h2 w hw, t⟩
theorem StepPre.more {o : Oper} {V : Value → World → Prop} {g : Option (Option Tmp × Bool)} {pre : Act → Prop} {a : Act} {w : World} {U : Value → World → Prop} {d : Tmp} {rest : List (Tmp × (Value → World → Prop))} (h : ∀ x, U x w → StepPre P S R o V g pre rest (a.put (some d) x) w) :
    StepPre P S R o V g pre ((d, U) :: rest) a w := h

def PrOk (S : World → Prop) (Vs : List (Value → World → Prop)) (Ns : List (Nat × (World → Value → Prop))) (prs : List Pr) : Prop :=
  ∀ q ∈ prs, q.i ≠ q.j ∧ (∀ x v w, S w → Vl Vs q.i x w → Nl Ns q.j w v → q.D x v) ∧ (∀ x v w, S w → Vl Vs q.j x w → Nl Ns q.i w v → q.D v x)

theorem none_listed {n : Nat} : ∀ j, (Array.replicate n false).getD j true = true → n ≤ j := fun j hj => by
  rcases Nat.lt_or_ge j n with h | h
  · rw [Array.getD_eq_getD_getElem?, Array.getElem?_replicate, if_pos h] at hj
    cases hj
  · exact h
theorem rel_start {ops : Array Oper} {a0 : Act} {Us : Nat → Value → World → Prop} {w : World} (hS : S w) : RelInv ops S Us a0 (Array.replicate ops.size false) a0 w :=
  ⟨by simp, hS, rfl, rfl, fun _ _ => rfl, fun j oj hoj hl => by
    have := none_listed j hl
    have hj : j < ops.size := (Array.getElem?_eq_some_iff.1 hoj).1
    omega⟩
theorem head_start {ops : Array Oper} {n : Nat} : HeadInv .any ops n (Array.replicate ops.size false) :=
  ⟨by simp, fun j oj hj hl => (by rw [getD_replicate_false] at hl; cases hl), fun t _ ht => by
    rw [Array.getD_eq_getD_getElem?, Array.getElem?_replicate, if_pos ht]
    rfl⟩
theorem pair_start {ops : Array Oper} {a : Act} : PairInv ops prs (Array.replicate ops.size false) a := fun q hq oi oj di dj x y hoi hoj hli _ _ _ _ _ => by
  have := none_listed _ hli
  have hj : q.i < ops.size := (Array.getElem?_eq_some_iff.1 hoi).1
  omega
theorem count_start {z n : Nat} (hn : n ≤ z) : ((List.range n).filter fun j => !(Array.replicate z false).getD j true).length = n := by
  have : ((List.range n).filter fun j => !(Array.replicate z false).getD j true) = List.range n := by
    rw [List.filter_eq_self]
    intro j hj
    have hjn := List.mem_range.1 hj
    rw [Array.getD_eq_getD_getElem?, Array.getElem?_replicate, if_pos (by omega)]
    rfl
  rw [this, List.length_range]
theorem zip_vals {os : List Oper} {n : Nat} {Us : List (Value → World → Prop)} {F : List (Option Tmp)} (hF : (os.take n).map Oper.dst = F) (hl : Us.length = n) (hn : n ≤ os.length) : ((List.range n).map fun j => ((os.toArray[j]?).bind (·.dst), Vl Us j)) = F.zip Us := by
  rw [← hF]
  refine List.ext_getElem (by simp [hl]; omega) fun j h1 h2 => ?_
  have hj : j < n := by simpa using h1
  have hj2 : j < Us.length := by omega
  have hj3 : j < os.length := by omega
  simp [hj2, hj3, Vl]

/-- which pairs' facts a frame bears: by temporaries -/
def PairAt (os : List Oper) (prs : List Pr) (a : Act) : Prop := ∀ q ∈ prs, ∀ di dj x y, (os[q.i]?).bind (·.dst) = some di → (os[q.j]?).bind (·.dst) = some dj → a.tmps[di]? = some x → a.tmps[dj]? = some y → q.D x y
theorem PairInv.at {os : List Oper} {n : Nat} {a : Act} (h : PairInv os.toArray prs (full os.toArray n) a) (hb : ∀ q ∈ prs, q.i < n ∧ q.j < n) : PairAt os prs a := fun q hq di dj x y hdi hdj hx hy => by
  obtain ⟨oi, hoi, hdi'⟩ := Option.bind_eq_some_iff.1 hdi
  obtain ⟨oj, hoj, hdj'⟩ := Option.bind_eq_some_iff.1 hdj
  exact h q hq oi oj di dj x y (by simpa using hoi) (by simpa using hoj) (full_get (hb q hq).1) (full_get (hb q hq).2) hdi' hdj' hx hy

/-- **A head in whatever order, facts on pairs, and a forced tail.** -/
theorem wp_region_tailP {id : Nat} {a0 : Act} {w : World} {os : List Oper} (n : Nat) (S : World → Prop) (R : World → World → Prop) (Vs : List (Value → World → Prop)) (Ns : List (Nat × (World → Value → Prop))) (prs : List Pr) (T : List Row) (F : List (Option Tmp))
    (hm : P.follows .mixedOrders = true) (hok : relOk os.toArray a0.tmps.size = true) (hT : (os.take n).map (rowOf os.toArray) = T) (hF : (os.take n).map Oper.dst = F) (hl : Vs.length = n) (ht : tailOk os.toArray n = true) (hb : ∀ q ∈ prs, q.i < n ∧ q.j < n)
    (hS : S w.drew) (hmono : MonoL S R Vs) (hpr : PrOk S Vs Ns prs) (hsteps : StepsP P S R Vs Ns prs a0 T 0)
    (hfin : ∀ w, S w → FinalFrom (fun _ a w => PairAt os prs a → wpList P os.toArray Q (os.drop n) a w) (F.zip Vs) a0 w) : (Code.region id os.toArray true).wp P Q a0 w := by
  unfold tailOk at ht
  simp only [Bool.and_eq_true, decide_eq_true_eq] at ht
  obtain ⟨⟨⟨hn, hsink⟩, hchain⟩, hseq⟩ := ht
  have hn' : n < os.length := by simpa using hn
  have hgo := wpAny_headP (P := P) (ops := os.toArray) (S := S) (R := R) (Vs := Vl Vs) (Ns := Nl Ns) (prs := prs) (Q := Q) (a0 := a0) (n := n) (g := os.toArray.size - n) hok hn
    (fun listed hh i hi hun t ht => tail_waits hsink hchain hn hh (n - i) i rfl hi hun t ht) hmono.get hpr
    (fun i o hin ho w hs => by
      have := StepsP.get (ops := os.toArray) (os.take n) T 0 hsteps hT.symm i o (by rw [List.getElem?_take_of_lt hin]; simpa using ho) w hs
      rwa [Nat.zero_add] at this)
    (fun a w h hh hp => by
      have hw := h.finish (Q' := fun a w => PairAt os prs a → wpList P os.toArray Q (os.drop n) a w) (by
        rw [zip_vals hF hl (by omega)]
        exact hfin w h.s) (hp.at hb)
      have hdl : (os.drop n).length = os.toArray.size - n := by simp
      rw [← hdl]
      exact wpAny_of_seq (os.drop n) n (full os.toArray n) a w (fun j => by simp [List.getElem?_drop]) (by rw [hdl]; exact hseq) hw)
    n (Array.replicate os.toArray.size false) a0 w.drew (rel_start hS) head_start pair_start (count_start (by omega))
  rw [show n + (os.toArray.size - n) = os.toArray.size by omega] at hgo
  exact wp_region_any hm hgo

/-- the obligations of number n, and of those above -/
def StepsB (P : Program) (S S' : World → Prop) (R' R'' : World → World → Prop) (Vs Vs' : List (Value → World → Prop)) (n : Nat) (a0 : Act) : List Row → Nat → Prop
  | [], _ => True
  | t :: ts, k => (∀ o : Oper, o.op = t.op → o.dst = t.dst →
      (k = n → ∀ w, S w → StepFrom P S' R'' o (Vl Vs' k) t.guard (t.deps.map fun p => (p.1, Vl Vs p.2)) a0 w) ∧
      (n < k → ∀ w, S' w → StepFrom P S' R' o (Vl Vs' k) t.guard (t.deps.map fun p => (p.1, Vl Vs' p.2)) a0 w)) ∧ StepsB P S S' R' R'' Vs Vs' n a0 ts (k + 1)
theorem StepsB.get {n : Nat} {a0 : Act} {ops : Array Oper} : ∀ (os : List Oper) (ts : List Row) (k : Nat), StepsB P S S' R' R'' Vs Vs' n a0 ts k → ts = os.map (rowOf ops) →
    ∀ (i : Nat) o, os[i]? = some o →
      (k + i = n → ∀ w, S w → StepFrom P S' R'' o (Vl Vs' (k + i)) (gOf ops o) ((depsOf ops o).map fun p => (p.1, Vl Vs p.2)) a0 w) ∧
      (n < k + i → ∀ w, S' w → StepFrom P S' R' o (Vl Vs' (k + i)) (gOf ops o) ((depsOf ops o).map fun p => (p.1, Vl Vs' p.2)) a0 w)
  | [], _, _, _, _, i, o, ho => by simp at ho
  | q :: os, [], _, _, e, _, _, _ => by simp at e
  | q :: os, t :: ts, k, h, e, i, o, ho => by
    rw [List.map_cons] at e
    injection e with e1 e2
    cases i with
    | zero =>
      simp at ho
      subst ho
      have := h.1 q (by rw [e1]; rfl) (by rw [e1]; rfl)
      rw [e1] at this
      exact this
    | succ i =>
      have := StepsB.get os ts (k + 1) h.2 e2 i o (by simpa using ho)
      rwa [Nat.add_right_comm, Nat.add_assoc] at this
theorem StepsB.nil {n : Nat} {a0 : Act} {k : Nat} : StepsB P S S' R' R'' Vs Vs' n a0 [] k := trivial
theorem StepsB.mid {n : Nat} {a0 : Act} {dst : Option Tmp} {op : Op} {g : Option (Option Tmp × Bool)} {d : List (Tmp × Nat)} {ts : List Row} {k : Nat}
    (V : Value → World → Prop) (U : List (Tmp × (Value → World → Prop))) (hV : Vl Vs' k = V) (hU : (d.map fun p => (p.1, Vl Vs p.2)) = U) (hk : k = n)
    (h : ∀ o : Oper, o.op = op → o.dst = dst → ∀ w, S w → StepFrom P S' R'' o V g U a0 w) (t : StepsB P S S' R' R'' Vs Vs' n a0 ts (k + 1)) : StepsB P S S' R' R'' Vs Vs' n a0 (⟨dst, op, g, d⟩ :: ts) k :=
  ⟨fun o h1 h2 => ⟨fun _ => by rw [hV, hU]; exact h o h1 h2, fun e => by omega⟩, t⟩
theorem StepsB.back {n : Nat} {a0 : Act} {dst : Option Tmp} {op : Op} {g : Option (Option Tmp × Bool)} {d : List (Tmp × Nat)} {ts : List Row} {k : Nat}
    (V : Value → World → Prop) (U : List (Tmp × (Value → World → Prop))) (hV : Vl Vs' k = V) (hU : (d.map fun p => (p.1, Vl Vs' p.2)) = U) (hk : n < k)
    (h : ∀ o : Oper, o.op = op → o.dst = dst → ∀ w, S' w → StepFrom P S' R' o V g U a0 w) (t : StepsB P S S' R' R'' Vs Vs' n a0 ts (k + 1)) : StepsB P S S' R' R'' Vs Vs' n a0 (⟨dst, op, g, d⟩ :: ts) k :=
  ⟨fun o h1 h2 => ⟨fun e => by omega, fun _ => by rw [hV, hU]; exact h o h1 h2⟩, t⟩

/-- **A drawn region in two spans, with facts on pairs in the first.** -/
theorem wp_region_twoP {id : Nat} {a0 : Act} {w : World} {os : List Oper} (n : Nat) (S S' : World → Prop) (R R' R'' : World → World → Prop) (Vs Vs' : List (Value → World → Prop)) (Ns : List (Nat × (World → Value → Prop))) (prs : List Pr) (T T' : List Row) (F : List (Option Tmp))
    (hm : P.follows .mixedOrders = true) (hok : relOk os.toArray a0.tmps.size = true) (hT : (os.take n).map (rowOf os.toArray) = T) (hT' : (os.drop n).map (rowOf os.toArray) = T') (hF : os.map Oper.dst = F) (hl : Vs.length = n) (hl' : Vs'.length = os.length)
    (hsink : Region.sinkB .any os.toArray n = true) (hback : backB os.toArray n = true) (hn : n < os.length) (hready : Region.ready .any os.toArray (full os.toArray n) = [n])
    (hS : S w.drew) (hmono : MonoL S R Vs) (hpr : PrOk S Vs Ns prs) (hconv : ConvL S S' R'' Vs Vs') (hmono' : MonoL S' R' Vs') (hsteps : StepsP P S R Vs Ns prs a0 T 0) (hsteps' : StepsB P S S' R' R'' Vs Vs' n a0 T' n)
    (hfin : ∀ w, S' w → FinalFrom Q (F.zip Vs') a0 w) : (Code.region id os.toArray true).wp P Q a0 w := by
  have hnz : n < os.toArray.size := by simpa using hn
  have hst := fun (i : Nat) o (hi : n ≤ i) (ho : os.toArray[i]? = some o) => StepsB.get (ops := os.toArray) (os.drop n) T' n hsteps' hT'.symm (i - n) o (by
    rw [List.getElem?_drop, show n + (i - n) = i by omega]
    simpa using ho)
  have hgo := wpAny_headP (P := P) (ops := os.toArray) (S := S) (R := R) (Vs := Vl Vs) (Ns := Nl Ns) (prs := prs) (Q := Q) (a0 := a0) (n := n) (g := os.toArray.size - n) hok hnz
    (fun listed hh i hi hun t ht => back_waits hsink hback hnz hh hi hun ht) hmono.get hpr
    (fun i o hin ho w hs => by
      have := StepsP.get (ops := os.toArray) (os.take n) T 0 hsteps hT.symm i o (by rw [List.getElem?_take_of_lt hin]; simpa using ho) w hs
      rwa [Nat.zero_add] at this)
    (fun a w h hh hp => by
      have hpos : os.toArray.size - n = (os.toArray.size - n - 1) + 1 := by omega
      rw [hpos]
      refine ⟨fun hr => (by rw [hready] at hr; cases hr), fun i hi => ?_⟩
      obtain rfl : i = n := by rw [hready] at hi; simpa using hi
      refine wpOp_mono (fun a' w' h' => ?_) (h.step2 (Q := Q) (S' := S') (R := R'') (Vs' := Vl Vs') hok (fun j x w w' hjz hlj hs hs' hr hv => ConvL.get Vs Vs' hconv (by omega) j x w w' (by
        rw [hl]
        exact full_listed hlj hjz) hs hs' hr hv) (fun o ho w hw => by
          have := (hst i o (Nat.le_refl _) ho).1 (by omega) w hw
          rwa [show i + (i - i) = i by omega] at this) hi)
      refine wpAny_from (n := i) hok hmono'.get (fun j o hj ho w hw => by
          have := (hst j o (by omega) ho).2 (by omega) w hw
          rwa [show i + (j - i) = j by omega] at this) (fun w hs => by
          have e : ((List.range os.toArray.size).map fun j => ((os.toArray[j]?).bind (·.dst), Vl Vs' j)) = F.zip Vs' := by
            have := zip_vals (os := os) (n := os.length) (Us := Vs') (F := F) (by rw [List.take_length]; exact hF) hl' (Nat.le_refl _)
            simpa using this
          rw [e]
          exact hfin w hs) _ _ a' w' h'.1 (fun j hj => ?_) ?_
      · by_cases e : j = i
        · subst e
          simp
        · rw [getD_set_ne true (Ne.symm e)]
          exact full_get (by omega)
      · have h1 := unlisted_set (ops := os.toArray) (listed := full os.toArray i) hnz (hh.tail i (Nat.le_refl _) hnz)
        have h2 : (unlisted os.toArray (full os.toArray i)).length ≤ os.toArray.size - i := by
          have e : List.range os.toArray.size = List.range i ++ (List.range (os.toArray.size - i)).map (i + ·) := by
            rw [← List.range_add]
            congr 1
            omega
          unfold unlisted
          rw [e, List.filter_append, List.length_append]
          have h3 : ((List.range i).filter fun j => !(full os.toArray i).getD j true) = [] := by
            rw [List.filter_eq_nil_iff]
            intro j hj
            rw [full_get (List.mem_range.1 hj)]
            simp
          rw [h3]
          have := List.length_filter_le (fun j => !(full os.toArray i).getD j true) ((List.range (os.toArray.size - i)).map (i + ·))
          simp only [List.length_map, List.length_range, List.length_nil] at this ⊢
          omega
        omega)
    n (Array.replicate os.toArray.size false) a0 w.drew (rel_start hS) head_start pair_start (count_start (by omega))
  rw [show n + (os.toArray.size - n) = os.toArray.size by omega] at hgo
  exact wp_region_any hm hgo
end
end Go.Proofs.YtafgmndlbbjphaaDoor
