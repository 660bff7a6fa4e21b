/- What TermMeets leans on: its terms, in plain words; the predicates of its drawn regions. -/
import Derived.Test.YtafgmndlbbjphaaDoorLvPair
import Derived.Test.YtafgmndlbbjphaaDoorTmAwake
import Derived.Test.YtafgmndlbbjphaaDoorTmTimes
import Derived.Maps.AppendAt
namespace Go.Proofs.YtafgmndlbbjphaaDoor
open Go

structure PrW where
  i : Nat
  j : Nat
  D : World → Value → Value → Prop
def PairInvW (ops : Array Oper) (prs : List PrW) (listed : Array Bool) (a : Act) (w : World) : Prop := ∀ q ∈ prs, ∀ oi oj di dj x y, ops[q.i]? = some oi → ops[q.j]? = some oj → listed.getD q.i true = true → listed.getD q.j true = true → oi.dst = some di → oj.dst = some dj → a.tmps[di]? = some x → a.tmps[dj]? = some y → q.D w x y

section
variable {P : Program} {ops : Array Oper} {S : World → Prop} {R : World → World → Prop} {Vs : Nat → Value → World → Prop} {Ns : Nat → World → World → Value → Prop} {prs : List PrW} {Q : Exit → Act → World → Prop}

theorem stepFrom_of {o : Oper} {V V' : Value → World → Prop} {g : Option (Option Tmp × Bool)} (hV : ∀ v w', V v w' → V' v w') : ∀ (D : List (Tmp × (Value → World → Prop))) (a : Act) (w : World), StepFrom P S R o V g D a w → StepFrom P S R o V' g D a w
  | [], _, _, h => fun K Q hK => h K Q (fun v w' h1 h2 h3 => hK.out v w' h1 h2 (hV v w' h3))
  | (d, _) :: rest, a, w, h => fun x hx => stepFrom_of hV rest (a.put (some d) x) w (h x hx)
theorem RelInv.stepPW {a0 : Act} {listed : Array Bool} {a : Act} {w : World} {i : Nat} (hok : relOk ops a0.tmps.size = true)
    (hmono : ∀ j x w w', S w → S w' → R w w' → Vs j x w → Vs j x w')
    (hpr : ∀ q ∈ prs, q.i ≠ q.j ∧ (∀ x v w w', R w w' → Vs q.i x w → Vs q.j v w' → Ns q.j w w' v → q.D w' x v) ∧ (∀ x v w w', R w w' → Vs q.j x w → Vs q.i v w' → Ns q.i w w' v → q.D w' v x) ∧ ∀ x y w w', R w w' → Vs q.i x w → Vs q.j y w → q.D w x y → q.D w' x y)
    (hstep : ∀ o, ops[i]? = some o → ∀ w, S w → StepFrom P S R o (fun v w' => Vs i v w' ∧ Ns i w w' v) (gOf ops o) ((depsOf ops o).map fun p => (p.1, Vs p.2)) a0 w)
    (h : RelInv ops S Vs a0 listed a w) (hp : PairInvW ops prs listed a w) (hi : i ∈ Region.ready .any ops listed) :
    wpOp P ops Q i (fun a' w' => RelInv ops S Vs a0 (listed.setIfInBounds i true) a' w' ∧ PairInvW ops prs (listed.setIfInBounds i true) a' w') a w := by
  obtain ⟨hsel, hall⟩ := relOk_spec hok
  obtain ⟨hun, o, ho, hafter⟩ := mem_ready.1 hi
  obtain ⟨hd0, _, hdeps, hdist⟩ := hall i o ho
  refine wpOp_mono (fun a' w' h' => ?_) (RelInv.step3 (Q := Q) (S' := S) (R := fun w1 w2 => w1 = w ∧ R w1 w2) (Vs' := fun j v w' => Vs j v w' ∧ (j = i → Ns i w w' v) ∧ (j ≠ i → R w w')) hok (fun j x w1 w2 _ hlj hs hs' hr hv => ⟨hmono j x w1 w2 hs hs' hr.2 hv, ⟨(fun e => by
      rw [e, hun] at hlj
      cases hlj), (fun _ => by
      have h2 := hr.2
      rw [hr.1] at h2
      exact h2)⟩⟩) (fun o' ho' hx => by
    have : o' = o := by rw [ho] at ho'; injection ho' with ho'; exact ho'.symm
    subst this
    obtain ⟨a', h1, h2, h3, h4, h5⟩ := StepFrom.inst a _ a0 w (hstep o' ho w h.s) h.tmps hx
    exact ⟨a', fun K Q' hK => h1 K Q' (fun v w' q1 q2 q3 => hK.out v w' q1 ⟨rfl, q2⟩ ⟨q3.1, fun _ => q3.2, fun e => absurd rfl e⟩), h2, h3, h4, h5⟩) h hi)
  obtain ⟨hr, o', v, ho', rfl, _⟩ := h'
  have : o' = o := by rw [ho] at ho'; injection ho' with ho'; exact ho'.symm
  subst this
  refine ⟨⟨hr.size, hr.s, hr.defers, hr.tmps, hr.old, fun j oj hoj hlj => ?_⟩, fun q hq oi oj di dj x y hoi hoj hli hlj hdi hdj hx hy => ?_⟩
  · have hg := hr.got j oj hoj hlj
    cases hd : oj.dst with
    | none => trivial
    | some d =>
      rw [hd] at hg
      obtain ⟨x, h1, h2, _⟩ := hg
      exact ⟨x, h1, h2⟩
  · obtain ⟨hne, hp1, hp2, hst⟩ := hpr q hq
    have hcase : ∀ j, (listed.setIfInBounds i true).getD j true = true → j ≠ i → listed.getD j true = true := fun j hj hji => by
      rwa [getD_set_ne true (Ne.symm hji)] at hj
    -- another's value is as it was
    have hput : ∀ d (k : Nat) ok, ops[k]? = some ok → ok.dst = some d → k ≠ i → (a.put o'.dst v).tmps[d]? = a.tmps[d]? := fun d k ok hok' hdk hki => by
      cases hd : o'.dst with
      | none => rfl
      | some d' =>
        have : d' ≠ d := fun e => hdist k ok hok' hki d' hd (by rw [hdk, e])
        simp [Act.put, Array.getElem?_setIfInBounds_ne this]
    have hold : ∀ d (k : Nat) ok z, ops[k]? = some ok → ok.dst = some d → k ≠ i → listed.getD k true = true → a.tmps[d]? = some z → Vs k z w := fun d k ok z hok' hdk hki hlk hz => by
      have hg := h.got k ok hok' hlk
      rw [hdk] at hg
      obtain ⟨z', h1, h2⟩ := hg
      rw [hz] at h1
      injection h1 with h1
      rw [h1]
      exact h2
    have hR : ∀ d (k : Nat) ok, ops[k]? = some ok → ok.dst = some d → k ≠ i → (listed.setIfInBounds i true).getD k true = true → R w w' := fun d k ok hok' hdk hki hlk => by
      have hg := hr.got k ok hok' hlk
      rw [hdk] at hg
      obtain ⟨_, _, _, _, h2⟩ := hg
      exact h2 hki
    have hnew : ∀ d z, o'.dst = some d → (a.put o'.dst v).tmps[d]? = some z → Vs i z w' ∧ Ns i w w' z := fun d z hd hz => by
      have hg := hr.got i o' ho (by simp)
      rw [hd] at hg
      obtain ⟨z', h1, h3, h2, _⟩ := hg
      rw [hd] at hz
      rw [hz] at h1
      injection h1 with h1
      rw [h1]
      exact ⟨h3, h2 rfl⟩
    by_cases hqi : q.i = i
    · have hqj : q.j ≠ i := fun e => hne (hqi.trans e.symm)
      rw [hqi] at hoi
      have : oi = o' := by rw [ho] at hoi; injection hoi with hoi; exact hoi.symm
      subst this
      rw [hput dj q.j oj hoj hdj hqj] at hy
      have hn := hnew di x hdi hx
      rw [← hqi] at hn
      exact hp2 y x w w' (hR dj q.j oj hoj hdj hqj hlj) (hold dj q.j oj y hoj hdj hqj (hcase _ hlj hqj) hy) hn.1 hn.2
    · rw [hput di q.i oi hoi hdi hqi] at hx
      by_cases hqj : q.j = i
      · rw [hqj] at hoj
        have : oj = o' := by rw [ho] at hoj; injection hoj with hoj; exact hoj.symm
        subst this
        have hn := hnew dj y hdj hy
        rw [← hqj] at hn
        exact hp1 x y w w' (hR di q.i oi hoi hdi hqi hli) (hold di q.i oi x hoi hdi hqi (hcase _ hli hqi) hx) hn.1 hn.2
      · rw [hput dj q.j oj hoj hdj hqj] at hy
        have hx' := hold di q.i oi x hoi hdi hqi (hcase _ hli hqi) hx
        have hy' := hold dj q.j oj y hoj hdj hqj (hcase _ hlj hqj) hy
        exact hst x y w w' (hR di q.i oi hoi hdi hqi hli) hx' hy' (hp q hq oi oj di dj x y hoi hoj (hcase _ hli hqi) (hcase _ hlj hqj) hdi hdj hx hy)

/-- A head in whatever order. -/
theorem wpAny_headPW {a0 : Act} {n g : Nat} (hok : relOk ops a0.tmps.size = true) (hn : n < ops.size)
    (hwait : ∀ listed, HeadInv .any ops n listed → ∀ i, i < n → listed.getD i true = false → ∀ t, n ≤ t → t ∉ Region.ready .any ops listed)
    (hmono : ∀ j x w w', S w → S w' → R w w' → Vs j x w → Vs j x w')
    (hpr : ∀ q ∈ prs, q.i ≠ q.j ∧ (∀ x v w w', R w w' → Vs q.i x w → Vs q.j v w' → Ns q.j w w' v → q.D w' x v) ∧ (∀ x v w w', R w w' → Vs q.j x w → Vs q.i v w' → Ns q.i w w' v → q.D w' v x) ∧ ∀ x y w w', R w w' → Vs q.i x w → Vs q.j y w → q.D w x y → q.D w' x y)
    (hsteps : ∀ i o, i < n → ops[i]? = some o → ∀ w, S w → StepFrom P S R o (fun v w' => Vs i v w' ∧ Ns i w w' v) (gOf ops o) ((depsOf ops o).map fun p => (p.1, Vs p.2)) a0 w)
    (hend : ∀ a w, RelInv ops S Vs a0 (full ops n) a w → HeadInv .any ops n (full ops n) → PairInvW ops prs (full ops n) a w → wpAny P .any ops Q g (full ops n) a w) :
    ∀ (f : Nat) (listed : Array Bool) (a : Act) (w : World), RelInv ops S Vs a0 listed a w → HeadInv .any ops n listed → PairInvW ops prs listed a w → ((List.range n).filter fun j => !listed.getD j true).length = f →
      wpAny P .any ops Q (f + g) listed a w := by
  have hacy := fun i o ho => ((relOk_spec hok).2 i o ho).2.1
  intro f
  induction f with
  | zero =>
    intro listed a w h hh hp hf
    have hl : ∀ j, j < n → listed.getD j true = true := fun j hj => by
      cases e : listed.getD j true with
      | true => rfl
      | false =>
        have : j ∈ (List.range n).filter fun j => !listed.getD j true := by
          rw [List.mem_filter, List.mem_range]
          exact ⟨hj, by rw [e]; rfl⟩
        have := List.length_pos_of_mem this
        omega
    have hlist : listed = full ops n := by
      have hsz := h.size
      unfold full
      refine Array.ext (by simp [hsz]; omega) fun j h1 h2 => ?_
      by_cases hj : j < n
      · have := hl j hj
        simp [h1] at this
        rw [this]
        simp [hj]
      · have := hh.tail j (by omega) (by omega)
        simp [h1] at this
        rw [this]
        rw [Array.getElem_append_right (by simp; omega)]
        simp
    rw [Nat.zero_add]
    rw [hlist] at h hh hp ⊢
    exact hend a w h hh hp
  | succ f ih =>
    intro listed a w h hh hp hf
    have hex : ∃ i, i < n ∧ listed.getD i true = false := by
      cases e : ((List.range n).filter fun j => !listed.getD j true) with
      | nil => rw [e] at hf; cases hf
      | cons j js =>
        have : j ∈ (List.range n).filter fun j => !listed.getD j true := by rw [e]; simp
        rw [List.mem_filter, List.mem_range] at this
        exact ⟨j, this.1, by simpa using this.2⟩
    obtain ⟨i0, hi0, hun0⟩ := hex
    rw [show f + 1 + g = (f + g) + 1 by omega]
    refine ⟨fun hr => ?_, fun i hi => ?_⟩
    · have := all_listed h.size hacy hr (i0 + 1) i0 (by omega) (by omega)
      rw [hun0] at this
      cases this
    · have hin : i < n := Nat.lt_of_not_le fun hni => hwait listed hh i0 hi0 hun0 i hni hi
      obtain ⟨hun, o, ho, _⟩ := mem_ready.1 hi
      refine wpOp_mono (fun a' w' h' => ?_) (h.stepPW (Q := Q) hok hmono hpr (fun o => hsteps i o hin) hp hi)
      have hle := unlisted_exact hin hun
      exact ih _ _ _ h'.1 (hh.set hi hin) h'.2 (by omega)
end

def NlW (Ns : List (Nat × (World → World → Value → Prop))) (j : Nat) : World → World → Value → Prop := match Ns.find? (fun p => p.1 == j) with
  | some p => p.2
  | none => fun _ _ _ => True
/-- the obligations of the rows 'ts', number k on -/
def StepsPW (P : Program) (S : World → Prop) (R : World → World → Prop) (Vs : List (Value → World → Prop)) (Ns : List (Nat × (World → World → Value → Prop))) (a0 : Act) : List Row → Nat → Prop
  | [], _ => True
  | t :: ts, k => (∀ o : Oper, o.op = t.op → o.dst = t.dst → ∀ w, S w → StepFrom P S R o (fun v w' => Vl Vs k v w' ∧ NlW Ns k w w' v) t.guard (t.deps.map fun p => (p.1, Vl Vs p.2)) a0 w) ∧ StepsPW P S R Vs Ns a0 ts (k + 1)
section
variable {P : Program} {S S' : World → Prop} {R R' R'' : World → World → Prop} {Vs Vs' : List (Value → World → Prop)} {Ns : List (Nat × (World → World → Value → Prop))} {prs : List PrW} {Q : Exit → Act → World → Prop}
theorem StepsPW.get {a0 : Act} {ops : Array Oper} : ∀ (os : List Oper) (ts : List Row) (k : Nat), StepsPW P S R Vs Ns a0 ts k → ts = os.map (rowOf ops) →
    ∀ (i : Nat) o, os[i]? = some o → ∀ w, S w → StepFrom P S R o (fun v w' => Vl Vs (k + i) v w' ∧ NlW Ns (k + i) w w' v) (gOf ops o) ((depsOf ops o).map fun p => (p.1, Vl Vs p.2)) a0 w
  | [], _, _, _, _, i, o, ho => by simp at ho
  | q :: os, [], _, _, e, _, _, _ => by simp at e
  | q :: os, t :: ts, k, h, e, i, o, ho => by
    rw [List.map_cons] at e
    injection e with e1 e2
    cases i with
    | zero =>
      simp at ho
      subst ho
      have := h.1 q (by rw [e1]; rfl) (by rw [e1]; rfl)
      rw [e1] at this
      exact this
    | succ i =>
      have := StepsPW.get os ts (k + 1) h.2 e2 i o (by simpa using ho)
      rwa [Nat.add_right_comm, Nat.add_assoc] at this
theorem StepsPW.nil {a0 : Act} {k : Nat} : StepsPW P S R Vs Ns a0 [] k := trivial
/-- an operation that is in no pair -/
theorem StepsPW.cons {a0 : Act} {dst : Option Tmp} {op : Op} {g : Option (Option Tmp × Bool)} {d : List (Tmp × Nat)} {ts : List Row} {k : Nat}
    (V : Value → World → Prop) (U : List (Tmp × (Value → World → Prop))) (hV : Vl Vs k = V) (hU : (d.map fun p => (p.1, Vl Vs p.2)) = U) (hN : (Ns.find? (fun p => p.1 == k)).isNone = true)
    (h : ∀ o : Oper, o.op = op → o.dst = dst → ∀ w, S w → StepFrom P S R o V g U a0 w) (t : StepsPW P S R Vs Ns a0 ts (k + 1)) : StepsPW P S R Vs Ns a0 (⟨dst, op, g, d⟩ :: ts) k :=
  ⟨fun o h1 h2 w hw => by
    have hN' : NlW Ns k = fun _ _ _ => True := by
      unfold NlW
      rw [Option.isNone_iff_eq_none] at hN
      rw [hN]
    rw [hV, hU, hN']
    exact stepFrom_of (fun v w' hv => ⟨hv, trivial⟩) _ _ _ (h o h1 h2 w hw), t⟩
/-- an operation of a pair -/
theorem StepsPW.new {a0 : Act} {dst : Option Tmp} {op : Op} {g : Option (Option Tmp × Bool)} {d : List (Tmp × Nat)} {ts : List Row} {k : Nat}
    (V : Value → World → Prop) (N : World → World → Value → Prop) (U : List (Tmp × (Value → World → Prop))) (hV : Vl Vs k = V) (hU : (d.map fun p => (p.1, Vl Vs p.2)) = U) (hN : NlW Ns k = N)
    (h : ∀ o : Oper, o.op = op → o.dst = dst → ∀ w, S w → StepFrom P S R o (fun v w' => V v w' ∧ N w w' v) g U a0 w) (t : StepsPW P S R Vs Ns a0 ts (k + 1)) : StepsPW P S R Vs Ns a0 (⟨dst, op, g, d⟩ :: ts) k :=
  ⟨fun o h1 h2 w hw => by
    rw [hV, hU, hN]
    exact h o h1 h2 w hw, t⟩def PrOkW (R : World → World → Prop) (Vs : List (Value → World → Prop)) (Ns : List (Nat × (World → World → Value → Prop))) (prs : List PrW) : Prop :=
  ∀ q ∈ prs, q.i ≠ q.j ∧ (∀ x v w w', R w w' → Vl Vs q.i x w → Vl Vs q.j v w' → NlW Ns q.j w w' v → q.D w' x v) ∧ (∀ x v w w', R w w' → Vl Vs q.j x w → Vl Vs q.i v w' → NlW Ns q.i w w' v → q.D w' v x) ∧ ∀ x y w w', R w w' → Vl Vs q.i x w → Vl Vs q.j y w → q.D w x y → q.D w' x y
theorem pair_startW {ops : Array Oper} {a : Act} {w : World} : PairInvW ops prs (Array.replicate ops.size false) a w := fun q hq oi oj di dj x y hoi hoj hli _ _ _ _ _ => by
  have := none_listed _ hli
  have hj : q.i < ops.size := (Array.getElem?_eq_some_iff.1 hoi).1
  omega/-- which pairs' facts a frame bears: by temporaries -/
def PairAtW (os : List Oper) (prs : List PrW) (a : Act) (w : World) : Prop := ∀ q ∈ prs, ∀ di dj x y, (os[q.i]?).bind (·.dst) = some di → (os[q.j]?).bind (·.dst) = some dj → a.tmps[di]? = some x → a.tmps[dj]? = some y → q.D w x y
theorem PairInvW.at {os : List Oper} {n : Nat} {a : Act} {w : World} (h : PairInvW os.toArray prs (full os.toArray n) a w) (hb : ∀ q ∈ prs, q.i < n ∧ q.j < n) : PairAtW os prs a w := fun q hq di dj x y hdi hdj hx hy => by
  obtain ⟨oi, hoi, hdi'⟩ := Option.bind_eq_some_iff.1 hdi
  obtain ⟨oj, hoj, hdj'⟩ := Option.bind_eq_some_iff.1 hdj
  exact h q hq oi oj di dj x y (by simpa using hoi) (by simpa using hoj) (full_get (hb q hq).1) (full_get (hb q hq).2) hdi' hdj' hx hy
theorem wp_region_tailPW {id : Nat} {a0 : Act} {w : World} {os : List Oper} (n : Nat) (S : World → Prop) (R : World → World → Prop) (Vs : List (Value → World → Prop)) (Ns : List (Nat × (World → World → Value → Prop))) (prs : List PrW) (T : List Row) (F : List (Option Tmp))
    (hm : P.follows .mixedOrders = true) (hok : relOk os.toArray a0.tmps.size = true) (hT : (os.take n).map (rowOf os.toArray) = T) (hF : (os.take n).map Oper.dst = F) (hl : Vs.length = n) (ht : tailOk os.toArray n = true) (hb : ∀ q ∈ prs, q.i < n ∧ q.j < n)
    (hS : S w.drew) (hmono : MonoL S R Vs) (hpr : PrOkW R Vs Ns prs) (hsteps : StepsPW P S R Vs Ns a0 T 0)
    (hfin : ∀ w, S w → FinalFrom (fun _ a w => PairAtW os prs a w → wpList P os.toArray Q (os.drop n) a w) (F.zip Vs) a0 w) : (Code.region id os.toArray true).wp P Q a0 w := by
  unfold tailOk at ht
  simp only [Bool.and_eq_true, decide_eq_true_eq] at ht
  obtain ⟨⟨⟨hn, hsink⟩, hchain⟩, hseq⟩ := ht
  have hn' : n < os.length := by simpa using hn
  have hgo := wpAny_headPW (P := P) (ops := os.toArray) (S := S) (R := R) (Vs := Vl Vs) (Ns := NlW Ns) (prs := prs) (Q := Q) (a0 := a0) (n := n) (g := os.toArray.size - n) hok hn
    (fun listed hh i hi hun t ht => tail_waits hsink hchain hn hh (n - i) i rfl hi hun t ht) hmono.get hpr
    (fun i o hin ho w hs => by
      have := StepsPW.get (ops := os.toArray) (os.take n) T 0 hsteps hT.symm i o (by rw [List.getElem?_take_of_lt hin]; simpa using ho) w hs
      rwa [Nat.zero_add] at this)
    (fun a w h hh hp => by
      have hw := h.finish (Q' := fun a w => PairAtW os prs a w → wpList P os.toArray Q (os.drop n) a w) (by
        rw [zip_vals hF hl (by omega)]
        exact hfin w h.s) (hp.at hb)
      have hdl : (os.drop n).length = os.toArray.size - n := by simp
      rw [← hdl]
      exact wpAny_of_seq (os.drop n) n (full os.toArray n) a w (fun j => by simp [List.getElem?_drop]) (by rw [hdl]; exact hseq) hw)
    n (Array.replicate os.toArray.size false) a0 w.drew (rel_start hS) head_start pair_startW (count_start (by omega))
  rw [show n + (os.toArray.size - n) = os.toArray.size by omega] at hgo
  exact wp_region_any hm hgo

end
end Go.Proofs.YtafgmndlbbjphaaDoor
namespace Go.Proofs.YtafgmndlbbjphaaDoor
open Go.RowKit Go.Maps

theorem tmsAt_of_cells {w : World} {g : Nat} {cur : Array Value} {fr : Nat × Nat} (h : w.heap[g]? = some (.cells cur 26 fr)) {ts : List Tm} {zs : List Value} (hz : ∀ (j : Nat) (v : Value), zs[j]? = some v → cur[j]? = some v)
    (each : ∀ (i : Nat) (t : Tm), ts[i]? = some t → ∃ c0 c1 c2 c3 c4, zs[i * 5]? = some c0 ∧ zs[i * 5 + 1]? = some c1 ∧ zs[i * 5 + 2]? = some c2 ∧ zs[i * 5 + 3]? = some c3 ∧ zs[i * 5 + 4]? = some c4 ∧ TmAt w w.heap.size t (.agg #[c0, c1, c2, c3, c4])) : TmsAt w w.heap.size g 0 ts :=
  TmsAt.of fun i t hi => by
    obtain ⟨c0, c1, c2, c3, c4, q0, q1, q2, q3, q4, q5⟩ := each i t hi
    refine ⟨_, Five.of h (o := 0 + i * 5) ⟨?_, ?_, ?_, ?_, ?_⟩, q5⟩ <;> rw [Nat.zero_add]
    · exact hz _ _ q0
    · exact hz _ _ q1
    · exact hz _ _ q2
    · exact hz _ _ q3
    · exact hz _ _ q4
/-- a row just made, with no spare room -/
def TmsFull (ts : List Tm) (x : Value) (w : World) : Prop := ∃ g cur, x = .slice (some ⟨g, 0, none⟩) ts.length ts.length ∧ w.heap[g]? = some (.cells cur 26 (0, 0)) ∧ cur.size = ts.length * 5 ∧ TmsAt w w.heap.size g 0 ts
theorem TmsFull.mono {ts : List Tm} {x : Value} {w w' : World} (h : TmsFull ts x w) (hR : Below w.heap.size w w') : TmsFull ts x w' := by
  obtain ⟨g, cur, h1, h2, h3, h4⟩ := h
  have hg := heap_some_lt h2
  refine ⟨g, cur, h1, (hR.block g hg).trans h2, h3, TmsAt.of fun i t hi => ?_⟩
  obtain ⟨v, q1, q2⟩ := h4.get i t hi
  exact ⟨v, q1.keep fun j => hR.cell (p := ⟨g, j, none⟩) hg, q2.below hR hR.size⟩
theorem TmsFull.row {ts : List Tm} {x : Value} {w : World} (h : TmsFull ts x w) : TmsV ts x w := by
  obtain ⟨g, cur, h1, h2, h3, h4⟩ := h
  exact ⟨_, _, h1, (fun e => by cases e), fun _ => ⟨g, 0, rfl, heap_some_lt h2, h4⟩⟩
theorem full_alloc {ts : List Tm} {w : World} {cs : Array Value} (hs : cs.size = ts.length * 5)
    (each : ∀ (i : Nat) (t : Tm), ts[i]? = some t → ∃ c0 c1 c2 c3 c4, cs[i * 5]? = some c0 ∧ cs[i * 5 + 1]? = some c1 ∧ cs[i * 5 + 2]? = some c2 ∧ cs[i * 5 + 3]? = some c3 ∧ cs[i * 5 + 4]? = some c4 ∧ TmAt w w.heap.size t (.agg #[c0, c1, c2, c3, c4])) :
    TmsFull ts (.slice (some ⟨w.heap.size, 0, none⟩) ts.length ts.length) (w.alloc (.cells cs 26)) := by
  have hb : Below w.heap.size w (w.alloc (.cells cs 26)) := (Below.refl _ _).alloc (Nat.le_refl _) _
  refine ⟨_, cs, rfl, heap_alloc_new w _, hs, tmsAt_of_cells (heap_alloc_new w _) (zs := cs.toList) (fun j v h => by simpa using h) fun i t hi => ?_⟩
  obtain ⟨c0, c1, c2, c3, c4, q0, q1, q2, q3, q4, q5⟩ := each i t hi
  exact ⟨c0, c1, c2, c3, c4, by simpa using q0, by simpa using q1, by simpa using q2, by simpa using q3, by simpa using q4, q5.below hb hb.size⟩
set_option maxRecDepth 100000 in
theorem slice_tm2 {c0 c1 c2 c3 c4 d0 d1 d2 d3 d4 : Value} {w : World} : (Instr.buildSlice 24 2 [(0, .agg #[c0, c1, c2, c3, c4]), (1, .agg #[d0, d1, d2, d3, d4])].toArray).run Tryd.prog w = .ok (.slice (some ⟨w.heap.size, 0, none⟩) 2 2) (w.alloc (.cells #[c0, c1, c2, c3, c4, d0, d1, d2, d3, d4] 26)) := by go_simp
set_option maxRecDepth 100000 in
theorem slice_tm3 {c0 c1 c2 c3 c4 d0 d1 d2 d3 d4 e0 e1 e2 e3 e4 : Value} {w : World} : (Instr.buildSlice 24 3 [(0, .agg #[c0, c1, c2, c3, c4]), (1, .agg #[d0, d1, d2, d3, d4]), (2, .agg #[e0, e1, e2, e3, e4])].toArray).run Tryd.prog w = .ok (.slice (some ⟨w.heap.size, 0, none⟩) 3 3) (w.alloc (.cells #[c0, c1, c2, c3, c4, d0, d1, d2, d3, d4, e0, e1, e2, e3, e4] 26)) := by go_simp
theorem full_two {t u : Tm} {c0 c1 c2 c3 c4 d0 d1 d2 d3 d4 : Value} {w : World} (h : TmAt w w.heap.size t (.agg #[c0, c1, c2, c3, c4])) (h' : TmAt w w.heap.size u (.agg #[d0, d1, d2, d3, d4])) : TmsFull [t, u] (.slice (some ⟨w.heap.size, 0, none⟩) 2 2) (w.alloc (.cells #[c0, c1, c2, c3, c4, d0, d1, d2, d3, d4] 26)) :=
  full_alloc (ts := [t, u]) rfl fun i s hi => by
    match i, hi with
    | 0, hi => injection hi with hi; subst hi; exact ⟨_, _, _, _, _, rfl, rfl, rfl, rfl, rfl, h⟩
    | 1, hi => injection hi with hi; subst hi; exact ⟨_, _, _, _, _, rfl, rfl, rfl, rfl, rfl, h'⟩
theorem full_three {t u s : Tm} {c0 c1 c2 c3 c4 d0 d1 d2 d3 d4 e0 e1 e2 e3 e4 : Value} {w : World} (h : TmAt w w.heap.size t (.agg #[c0, c1, c2, c3, c4])) (h' : TmAt w w.heap.size u (.agg #[d0, d1, d2, d3, d4])) (h'' : TmAt w w.heap.size s (.agg #[e0, e1, e2, e3, e4])) : TmsFull [t, u, s] (.slice (some ⟨w.heap.size, 0, none⟩) 3 3) (w.alloc (.cells #[c0, c1, c2, c3, c4, d0, d1, d2, d3, d4, e0, e1, e2, e3, e4] 26)) :=
  full_alloc (ts := [t, u, s]) rfl fun i r hi => by
    match i, hi with
    | 0, hi => injection hi with hi; subst hi; exact ⟨_, _, _, _, _, rfl, rfl, rfl, rfl, rfl, h⟩
    | 1, hi => injection hi with hi; subst hi; exact ⟨_, _, _, _, _, rfl, rfl, rfl, rfl, rfl, h'⟩
    | 2, hi => injection hi with hi; subst hi; exact ⟨_, _, _, _, _, rfl, rfl, rfl, rfl, rfl, h''⟩

/-- appended to a row that is full -/
theorem append_tms {ts us : List Tm} {x y : Value} {w : World} (ty : TypeId) (hx : TmsFull ts x w) (hy : TmsV us y w) (hpos : 0 < ts.length) (h1 : ts.length ≤ 1048576) (h2 : us.length ≤ 1048576) :
    ∃ v' w', (Builtin.append_ #[24, 24] ty #[x, y]).run Tryd.prog w = .ok v' w' ∧ Below w.heap.size w w' ∧ TmsV (ts ++ us) v' w' := by
  obtain ⟨i0, hi, hz0, hz1, hz2⟩ := info_parts infoTm
  have hx' := hx
  obtain ⟨g, cur, rfl, hg, hs, hts⟩ := hx
  obtain ⟨A, c, rfl, hys⟩ := hy
  obtain ⟨xs, x1, x2, x3, x4⟩ := Tms.row hts
  have hgl := heap_some_lt hg
  have hcx : ∀ j v, xs[j]? = some v → cur[j]? = some v := fun j v hv => by
    have := x2 j v hv
    rw [Nat.zero_add, cell_of_row w g j cur _ (0, 0) hg] at this
    exact this
  have hown : w.ownsRow 0 26 5 (.slice (some ⟨g, 0, none⟩) ts.length ts.length) ts.length xs :=
    ⟨x1, Or.inr ⟨g, ts.length, cur, rfl, Nat.zero_le _, hg, Nat.le_refl _, by unfold maxLen; omega, hs, by
      refine List.ext_getElem? fun j => ?_
      rw [List.getElem?_take]
      split
      · rename_i hj
        rw [Array.getElem?_toList]
        obtain ⟨v, hv⟩ : ∃ v, xs[j]? = some v := ⟨_, List.getElem?_eq_getElem (by omega)⟩
        rw [hv]
        exact hcx j v hv
      · rw [List.getElem?_eq_none (by omega)]⟩⟩
  rcases A with _ | ad
  · obtain rfl := hys.1 rfl
    have hu0 : us = [] := by
      cases us with
      | nil => rfl
      | cons u us =>
        obtain ⟨b, o, e, _⟩ := hys.2 (by simp)
        cases e
    subst hu0
    refine ⟨_, w, run_append_owned_none (P := Tryd.prog) w 0 24 ty 26 i0 5 Tryd.underlying24 hi _ _ _ hown, Below.refl _ _, ?_⟩
    rw [List.append_nil]
    exact hx'.row
  · obtain ⟨ys, y1, y2, y3, y4⟩ : ∃ ys : List Value, ys.length = us.length * 5 ∧ (∀ j u, ys[j]? = some u → w.cell? (ad.add j) = some u) ∧ (∀ u ∈ ys, u.oneCell' = true) ∧ ∀ i t, us[i]? = some t → ∃ c0 c1 c2 c3 c4, ys[i * 5]? = some c0 ∧ ys[i * 5 + 1]? = some c1 ∧ ys[i * 5 + 2]? = some c2 ∧ ys[i * 5 + 3]? = some c3 ∧ ys[i * 5 + 4]? = some c4 ∧ TmAt w w.heap.size t (.agg #[c0, c1, c2, c3, c4]) := by
      rcases Nat.eq_zero_or_pos us.length with h | h
      · have e0 : us = [] := List.eq_nil_of_length_eq_zero h
        exact ⟨[], by simp [h], by simp, by simp, by simp [e0]⟩
      · obtain ⟨b, oo, e, hbB, hts⟩ := hys.2 h
        injection e with e
        subst e
        obtain ⟨xs, h1, h2, h3, h4⟩ := Tms.row hts
        exact ⟨xs, h1, fun j u hu => by rw [addr_add]; exact h2 j u hu, h3, h4⟩
    rcases Nat.eq_zero_or_pos us.length with h0 | h0
    · have e0 : us = [] := List.eq_nil_of_length_eq_zero h0
      subst e0
      have ey : ys = [] := List.eq_nil_of_length_eq_zero (by simpa using y1)
      subst ey
      have hr := run_append_room (P := Tryd.prog) w 24 ty 26 i0 Tryd.underlying24 hi g ts.length ts.length cur hg ad 0 c [] (by simp) (by simp) (by simp) (by omega) (by rw [hz1, hs]; simp)
      refine ⟨_, _, hr, ?_⟩
      have hcur : (cur.toList.take (ts.length * i0.size) ++ [] ++ cur.toList.drop (ts.length * i0.size + ([] : List Value).length)).toArray = cur := by simp
      have hb : Below w.heap.size w (w.setRow g (cur.toList.take (ts.length * i0.size) ++ [] ++ cur.toList.drop (ts.length * i0.size + ([] : List Value).length)).toArray) := by
        refine ⟨rfl, rfl, rfl, by simp, fun k hk => ?_⟩
        by_cases hkg : k = g
        · subst hkg
          rw [setRow_heap w k cur _ _ _ hg, hcur, hg]
        · exact setRow_other w g k _ (fun e => hkg e)
      refine ⟨hb, ?_⟩
      rw [List.append_nil]
      exact (hx'.mono hb).row
    · have hr := run_append_grow (P := Tryd.prog) w 24 ty 26 i0 _ Tryd.underlying24 hi hz0 ⟨g, 0, none⟩ ts.length ts.length xs (by rw [hz1]; exact x1) (hown.cells (g := g) rfl) ad us.length c ys (by rw [hz1]; exact y1) y2 (by omega) (by omega) (growslice_fits (by omega) (by rw [hz2]; omega))
      refine ⟨_, _, hr, ?_⟩
      have hb : ∀ obj, Below w.heap.size w (w.drew.alloc obj) := fun obj => ((Below.refl _ _).drew).alloc (Nat.le_refl _) _
      refine ⟨hb _, _, _, by rw [List.length_append], (fun e => by cases e), fun _ => ⟨w.heap.size, 0, rfl, by simp, ?_⟩⟩
      refine tmsAt_of_cells (heap_alloc_new w.drew _) (zs := xs ++ ys) (fun j v hv => ?_) fun i t ht => ?_
      · have hj := (List.getElem?_eq_some_iff.1 hv).1
        rw [Array.getElem?_append_left (by simpa using hj)]
        rw [List.getElem?_append] at hv
        rw [Array.getElem?_append]
        simpa using hv
      · by_cases hlt : i < ts.length
        · rw [List.getElem?_append_left hlt] at ht
          obtain ⟨c0, c1, c2, c3, c4, q0, q1, q2, q3, q4, q5⟩ := x4 i t ht
          exact ⟨c0, c1, c2, c3, c4, by rw [List.getElem?_append_left (by omega)]; exact q0, by rw [List.getElem?_append_left (by omega)]; exact q1, by rw [List.getElem?_append_left (by omega)]; exact q2, by rw [List.getElem?_append_left (by omega)]; exact q3, by rw [List.getElem?_append_left (by omega)]; exact q4, q5.below (hb _) (hb _).size⟩
        · rw [List.getElem?_append_right (by omega)] at ht
          obtain ⟨c0, c1, c2, c3, c4, q0, q1, q2, q3, q4, q5⟩ := y4 (i - ts.length) t ht
          have ei : ∀ k, i * 5 + k - xs.length = (i - ts.length) * 5 + k := fun k => by rw [x1]; omega
          refine ⟨c0, c1, c2, c3, c4, ?_, ?_, ?_, ?_, ?_, q5.below (hb _) (hb _).size⟩ <;> rw [List.getElem?_append_right (by omega)]
          · have := ei 0
            simp only [Nat.add_zero] at this
            rw [this]; exact q0
          · rw [ei]; exact q1
          · rw [ei]; exact q2
          · rw [ei]; exact q3
          · rw [ei]; exact q4
section
variable {P : Program} {S : World → Prop} {R : World → World → Prop} {o : Oper} {V : Value → World → Prop} {g : Option (Option Tmp × Bool)} {a : Act} {w w' : World}
theorem StepFrom.append {x y : Operand} {t : TypeId} (hop : o.op = .call { callee := .builtin .append, args := #[x, y], argTypes := #[t, t] }) {vx vy v' : Value} (hx : a.eval x = vx) (hy : a.eval y = vy) (hrun : (Builtin.append_ #[t, t] o.type #[vx, vy]).run P w = .ok v' w') (hg : gOn g a = true)
    (hS : S w') (hR : R w w') (hV : V v' w') : StepFrom P S R o V g [] a w :=
  StepFrom.made (v := v') (w' := w') (by
    unfold execOp
    simp only [hop, resolve, invoke, builtin, Sem.run_bind, Sem.run_pure, Result.andThen_ok, List.map_toArray, List.map_cons, List.map_nil, hx, hy, hrun]) hg hS hR hV
end
end Go.Proofs.YtafgmndlbbjphaaDoor
namespace Go.Proofs.YtafgmndlbbjphaaDoor
open Go.RowKit Go.Maps

theorem Tm.sizeL_le_countL : ∀ ts : List Tm, (∀ t ∈ ts, t.size ≤ t.count) → Tm.sizeL ts ≤ Tm.countL ts
  | [], _ => by simp [Tm.sizeL]
  | t :: ts, h => by
    have h1 := h t (by simp)
    have h2 := Tm.sizeL_le_countL ts fun s hs => h s (by simp [hs])
    simp only [Tm.sizeL, Tm.countL]
    omega
theorem Tm.size_le_count : ∀ t : Tm, t.size ≤ t.count := by
  intro t
  induction t using Tm.ind with
  | h k n a lv kids ih =>
    have := Tm.sizeL_le_countL kids ih
    rw [Tm.size_mk, Tm.count_mk]
    omega

/-- what the law's terms come to -/
theorem meets_terms {tt ta tb : Tm} {tby : List Tm} (ht : tt.fit) (ha : ta.fit) (hb : tb.fit) (hc : Tm.countL (tt :: ta :: tb :: tby) ≤ 600) (htame : Tm.tameL (tt :: ta :: tb :: tby) = true) :
    (tt.walk (liftT (tby.length : Int) 0) 0).fit ∧ (tt.walk (liftT (tby.length : Int) 0) 0).size ≤ 600 ∧ (tt.walk (liftT (tby.length : Int) 0) 0).walk (putT tby) 0 = tt ∧ tt.walk (liftT 0 0) 0 = tt ∧
    ∃ u1 cc OT, tt.walk (putT [ta]) 0 = u1 ∧ u1.fit ∧ u1.size ≤ 360000 ∧ u1.walk (putT [tb]) 0 = OT ∧ OT.fit ∧ ta.walk (putT [tb]) 0 = cc ∧ cc.fit ∧ cc.size ≤ 360000 ∧ tt.walk (putT [tb, cc]) 0 = OT := by
  rw [Tm.tameL_iff] at htame
  have lt := Tm.low_tame tt (htame tt (by simp))
  have la := Tm.low_tame ta (htame ta (by simp))
  have lb := Tm.low_tame tb (htame tb (by simp))
  have lby : ∀ b ∈ tby, b.low 1000 := fun b hb => Tm.low_tame b (htame b (by simp [hb]))
  simp only [Tm.countL] at hc
  have st := Tm.size_le_count tt
  have sa := Tm.size_le_count ta
  have sb := Tm.size_le_count tb
  have nby := Tm.countL_length tby
  have e1 := liftT_eq (N := 1000) (m := (tby.length : Int)) (from' := 0) (by omega) (by omega) tt lt 0
  have e2 := liftT_eq (N := 1000) (m := 0) (from' := 0) (by omega) (by omega) tt lt 0
  have s1 := liftZ_size (tby.length : Int) 0 tt 0
  refine ⟨by rw [e1]; exact liftZ_fit (N := 1000) (by omega) (by omega) tt ht lt 0, by rw [e1, s1]; omega, ?_, by rw [e2]; exact liftZ_none 0 tt 0, ?_⟩
  · rw [e1, putT_eq (N := 1000) (D := 600) lby (by omega) _ 0 (by rw [s1]; omega)]
    exact putZ_liftZ tby tt 0
  · have one : ∀ (c : Tm) (N : Int), c.low N → ∀ b ∈ [c], b.low N := fun c N h b hb => by
      obtain rfl : b = c := by simpa using hb
      exact h
    have k1 := putZ_keeps (N := 1000) (D := 600) (M := 600) (by' := [ta]) (fun b hb => by obtain rfl : b = ta := (by simpa using hb); exact ⟨la, ha, by omega⟩) (by omega) (by omega) tt 0 (by omega) ht lt
    have k2 := putZ_keeps (N := 1000) (D := 600) (M := 600) (by' := [tb]) (fun b hb' => by obtain rfl : b = tb := (by simpa using hb'); exact ⟨lb, hb, by omega⟩) (by omega) (by omega) ta 0 (by omega) ha la
    have f1 := putT_eq (N := 1000) (D := 600) (one ta 1000 la) (by omega) tt 0 (by omega)
    have f2 := putT_eq (N := 1000) (D := 600) (one tb 1000 lb) (by omega) ta 0 (by omega)
    have z1 : (tt.walk (putZ [ta]) 0).size ≤ 360000 := Nat.le_trans k1.2.2 (by have : tt.size * 600 ≤ 600 * 600 := Nat.mul_le_mul_right _ (by omega); omega)
    have z2 : (ta.walk (putZ [tb]) 0).size ≤ 360000 := Nat.le_trans k2.2.2 (by have : ta.size * 600 ≤ 600 * 600 := Nat.mul_le_mul_right _ (by omega); omega)
    have f3 := putT_eq (N := 1000) (D := 360000) (one tb 1000 lb) (by omega) (tt.walk (putZ [ta]) 0) 0 (by omega)
    have k3 := putZ_keeps (N := 1600) (D := 360000) (M := 600) (by' := [tb]) (fun b hb' => by obtain rfl : b = tb := (by simpa using hb'); exact ⟨Tm.low_more (by omega) _ lb, hb, by omega⟩) (by omega) (by omega) (tt.walk (putZ [ta]) 0) 0 (by omega) k1.1 (Tm.low_more (by omega) _ k1.2.1)
    have f4 := putT_eq (N := 1600) (D := 600) (by' := [tb, ta.walk (putZ [tb]) 0]) (fun b hb' => by
      rcases List.mem_cons.1 hb' with rfl | hb'
      · exact Tm.low_more (by omega) _ lb
      · obtain rfl : b = ta.walk (putZ [tb]) 0 := (by simpa using hb')
        exact Tm.low_more (by omega) _ k2.2.1) (by omega) tt 0 (by omega)
    refine ⟨_, _, _, f1, k1.1, z1, f3, k3.1, f2, k2.1, z2, ?_⟩
    rw [f4, putZ_putZ]

/-- of the call's own, ahead of what is new -/
def OwnV (u : Tm) (x : Value) (w : World) : Prop := ∃ lo hi, OwnTm w lo hi u x ∧ hi ≤ w.heap.size
theorem OwnV.mono {u : Tm} {x : Value} {w w' : World} (h : OwnV u x w) (hR : Below w.heap.size w w') : OwnV u x w' := by
  obtain ⟨lo, hi, q1, q2⟩ := h
  exact ⟨lo, hi, q1.kept (keptIn_below hR q2), Nat.le_trans q2 hR.size⟩
def NewV (u : Tm) (w w' : World) (x : Value) : Prop := OwnTm w' w.heap.size w'.heap.size u x
/-- a variable just made -/
def BoxV (B : Nat) (x : Value) (w : World) : Prop := ∃ g, x = .pointer (some ⟨g, 0, none⟩) ∧ B ≤ g ∧ w.heap[g]? = some (.cells #[.int .i64 0, .int .i64 0, .int .i64 0, .slice none 0 0, .slice none 0 0] 26 (0, 0))
theorem BoxV.mono {B : Nat} {x : Value} {w w' : World} (h : BoxV B x w) (hR : Below w.heap.size w w') : BoxV B x w' := by
  obtain ⟨g, h1, h2, h3⟩ := h
  exact ⟨g, h1, h2, (hR.block g (heap_some_lt h3)).trans h3⟩
def NewB (w _w' : World) (x : Value) : Prop := ∃ g, x = .pointer (some ⟨g, 0, none⟩) ∧ w.heap.size ≤ g
/-- the variable is none of the term's memory -/
def OffV (u : Tm) (w : World) (x y : Value) : Prop := ∃ lo hi g, OwnTm w lo hi u x ∧ hi ≤ w.heap.size ∧ y = .pointer (some ⟨g, 0, none⟩) ∧ (g < lo ∨ hi ≤ g)
theorem off_ok {Vs : List (Value → World → Prop)} {Ns : List (Nat × (World → World → Value → Prop))} {i j B : Nat} {u : Tm} (hij : i ≠ j) (h1 : Vl Vs i = OwnV u) (h2 : Vl Vs j = BoxV B) (h3 : NlW Ns i = NewV u) (h4 : NlW Ns j = NewB) :
    PrOkW (fun w1 w2 : World => Below w1.heap.size w1 w2) Vs Ns [⟨i, j, OffV u⟩] := by
  intro q hq
  obtain rfl : q = ⟨i, j, OffV u⟩ := by simpa using hq
  simp only [h1, h2, h3, h4]
  refine ⟨hij, fun x v w w' hR q1 q2 q3 => ?_, fun x v w w' hR q1 q2 q3 => ?_, fun x y w w' hR _ _ h => ?_⟩
  · obtain ⟨lo, hi, p1, p2⟩ := q1
    obtain ⟨g, rfl, p3⟩ := q3
    exact ⟨lo, hi, g, p1.kept (keptIn_below hR p2), Nat.le_trans p2 hR.size, rfl, Or.inr (by omega)⟩
  · obtain ⟨g, rfl, _, p3⟩ := q1
    exact ⟨w.heap.size, w'.heap.size, g, q3, Nat.le_refl _, rfl, Or.inl (heap_some_lt p3)⟩
  · obtain ⟨lo, hi, g, p1, p2, p3, p4⟩ := h
    exact ⟨lo, hi, g, p1.kept (keptIn_below hR p2), Nat.le_trans p2 hR.size, p3, p4⟩

set_option maxRecDepth 100000 in
theorem alloc_term (w : World) : (Instr.alloc 26 true (.tuple #[])).run Tryd.prog w = .ok (.pointer (some ⟨w.heap.size, 0, none⟩)) (w.alloc (.cells #[.int .i64 0, .int .i64 0, .int .i64 0, .slice none 0 0, .slice none 0 0] 26)) := by go_simp
set_option maxRecDepth 100000 in
theorem load_tm5 {b : Nat} {w : World} {c0 c1 c2 c3 c4 : Value} (h0 : w.cell? ⟨b, 0, none⟩ = some c0) (h1 : w.cell? ⟨b, 1, none⟩ = some c1) (h2 : w.cell? ⟨b, 2, none⟩ = some c2) (h3 : w.cell? ⟨b, 3, none⟩ = some c3) (h4 : w.cell? ⟨b, 4, none⟩ = some c4) :
    (Instr.loadAt 26 (.pointer (some ⟨b, 0, none⟩))).run Tryd.prog w = .ok (.agg #[c0, c1, c2, c3, c4]) w := by go_simp
theorem load_box {b : Nat} {w w' : World} {c0 c1 c2 c3 c4 : Value} (h : w.heap[b]? = some (.cells #[c0, c1, c2, c3, c4] 26 (0, 0))) (hb : Below w.heap.size w w') : (Instr.loadAt 26 (.pointer (some ⟨b, 0, none⟩))).run Tryd.prog w' = .ok (.agg #[c0, c1, c2, c3, c4]) w' := by
  have h' := (hb.block b (heap_some_lt h)).trans h
  exact load_tm5 (cell_of_row _ _ 0 _ _ (0, 0) h') (cell_of_row _ _ 1 _ _ (0, 0) h') (cell_of_row _ _ 2 _ _ (0, 0) h') (cell_of_row _ _ 3 _ _ (0, 0) h') (cell_of_row _ _ 4 _ _ (0, 0) h')
set_option maxRecDepth 100000 in
theorem enter_great (vs : Array Value) (w : World) : (callFunc 6 vs).run Tryd.prog w = .ok (.enter 6 vs) w := by go_simp
set_option maxRecDepth 100000 in
theorem enter_tame (vs : Array Value) (w : World) : (callFunc 7 vs).run Tryd.prog w = .ok (.enter 7 vs) w := by go_simp
set_option maxRecDepth 100000 in
theorem enter_times (vs : Array Value) (w : World) : (callFunc 8 vs).run Tryd.prog w = .ok (.enter 8 vs) w := by go_simp
set_option maxRecDepth 100000 in
theorem mul_to {x y z : Int} (p q : Operand) (w : World) (h : IntKind.i64.wrap (x * y) = z) : ((do eqGuard .mul 3 p q (.int .i64 x) (.int .i64 y); binOp .mul 3 (.int .i64 x) (.int .i64 y) : Sem Value)).run Tryd.prog w = .ok (.int .i64 z) w := by
  subst h
  go_simp
set_option maxRecDepth 100000 in
theorem gtr_to {x y : Int} {b : Bool} (p q : Operand) (w : World) (h : decide (y < x) = b) : ((do eqGuard .gtr 3 p q (.int .i64 x) (.int .i64 y); binOp .gtr 3 (.int .i64 x) (.int .i64 y) : Sem Value)).run Tryd.prog w = .ok (.bool b) w := by
  subst h
  go_simp
/-- what Lift tells, as a term -/
theorem lift_tm (t : Tm) (v : Value) (w : World) (m from' : Int) (hf : t.fit) (hd : t.size ≤ 1073741824) (hK : KindsAll w) (hv : TmAt w w.heap.size t v) : Calls Tryd.prog 11 #[v, .int .i64 m, .int .i64 from'] w (TmPost w (t.walk (liftT m from') 0)) :=
  (lift_any t hf v w m from' hd hK.binds hv).mono fun _ _ h => TermPost.tm h
/-- what Put tells, of the call's own -/
theorem put_own (t : Tm) (by' : List Tm) (v x : Value) (w : World) (hf : t.fit) (hd : t.size ≤ 1073741824) (hK : KindsAll w) (hv : TmAt w w.heap.size t v) (hn : by'.length ≤ 1048576) (hx : TmsV by' x w) (hfit : ∀ b ∈ by', b.fit ∧ b.size ≤ 1073741824) :
    Calls Tryd.prog 10 #[v, x] w (TermPost w (t.walk (putT by') 0)) := by
  obtain ⟨A, c, rfl, h⟩ := hx
  exact putTm_any t by' hf v A _ c w hd hK.binds hv rfl hn h hfit
theorem own_shape {w : World} {lo hi : Nat} {t : Tm} {v : Value} (h : OwnTm w lo hi t v) : ∃ (i j l : Int) (A B : Option Addr) (n c m d : Nat), v = .agg #[.int .i64 i, .int .i64 j, .int .i64 l, .slice A n c, .slice B m d] := by
  obtain ⟨k, n, a, lv, kids⟩ := t
  obtain ⟨vl, vk, m1, m2, xs, rfl, _, ⟨A, c, rfl⟩, h2, _⟩ := h.open
  obtain ⟨B, d, rfl, _⟩ := h2.2.1
  exact ⟨_, _, _, _, _, _, _, _, _, rfl⟩
theorem cells5_eq {cur : Array Value} {c0 c1 c2 c3 c4 : Value} (hs : cur.size = 5) (h : Cells5 cur 0 c0 c1 c2 c3 c4) : cur = #[c0, c1, c2, c3, c4] := by
  obtain ⟨h0, h1, h2, h3, h4⟩ := h
  refine Array.ext_getElem? fun i => ?_
  by_cases hi : i < 5
  · match i, hi with
    | 0, _ => exact h0
    | 1, _ => exact h1
    | 2, _ => exact h2
    | 3, _ => exact h3
    | 4, _ => exact h4
  · rw [Array.getElem?_eq_none (by omega), Array.getElem?_eq_none (by simp; omega)]
/-- a term of the call's own, stored into a variable that is none of its memory -/
theorem store_off {w : World} {B lo hi g : Nat} {u : Tm} {c0 c1 c2 c3 c4 z0 z1 z2 z3 z4 : Value} (hx : w.heap[g]? = some (.cells #[z0, z1, z2, z3, z4] 26 (0, 0))) (ho : OwnTm w lo hi u (.agg #[c0, c1, c2, c3, c4])) (hi' : hi ≤ w.heap.size) (hoff : g < lo ∨ hi ≤ g) (hB : B ≤ g) :
    Below B w (store5 w g 0 c0 c1 c2 c3 c4) ∧ (store5 w g 0 c0 c1 c2 c3 c4).heap[g]? = some (.cells #[c0, c1, c2, c3, c4] 26 (0, 0)) ∧ TmAt (store5 w g 0 c0 c1 c2 c3 c4) (store5 w g 0 c0 c1 c2 c3 c4).heap.size u (.agg #[c0, c1, c2, c3, c4]) := by
  have hgl := heap_some_lt hx
  obtain ⟨q1, q2, cur', q3, q4, q5⟩ := store5_post hx (o := 0) (by simp) c0 c1 c2 c3 c4
  have e : cur' = #[c0, c1, c2, c3, c4] := cells5_eq (by rw [q4.1]; rfl) q5
  subst e
  refine ⟨below_grown q1 hB (by omega), q3, ?_⟩
  rw [q2]
  exact ((ho.kept (grown_kept q1 hoff hi')).wide (Nat.zero_le _) hi').tmAt
end Go.Proofs.YtafgmndlbbjphaaDoor
