/- Laws. -/
import Derived.Test.YtfgnnbpbbnnnhaaDoorRraf
import Derived.Test.YtfgnnbpbbnnnhaaDoorRrag
import Derived.Test.YtfgnnbpbbnnnhaaDoorRrak
import Derived.Maps.AppendAt
namespace Go.Proofs.YtfgnnbpbbnnnhaaDoor
open Go
structure PrW where
  i : Nat
  j : Nat
  D : World → Value → Value → Prop
def PairInvW (ops : Array Oper) (prs : List PrW) (listed : Array Bool) (a : Act) (w : World) : Prop := ∀ q ∈ prs, ∀ oi oj di dj x y, ops[q.i]? = some oi → ops[q.j]? = some oj → listed.getD q.i true = true → listed.getD q.j true = true → oi.dst = some di → oj.dst = some dj → a.tmps[di]? = some x → a.tmps[dj]? = some y → q.D w x y
section
variable {P : Program} {ops : Array Oper} {S : World → Prop} {R : World → World → Prop} {Vs : Nat → Value → World → Prop} {Ns : Nat → World → World → Value → Prop} {prs : List PrW} {Q : Exit → Act → World → Prop}
theorem stepFrom_of {o : Oper} {V V' : Value → World → Prop} {g : Option (Option Tmp × Bool)} (hV : ∀ v w', V v w' → V' v w') : ∀ (D : List (Tmp × (Value → World → Prop))) (a : Act) (w : World), StepFrom P S R o V g D a w → StepFrom P S R o V' g D a w
  | [], _, _, h => fun K Q hK => h K Q (fun v w' h1 h2 h3 => hK.out v w' h1 h2 (hV v w' h3))
  | (d, _) :: rest, a, w, h => fun x hx => stepFrom_of hV rest (a.put (some d) x) w (h x hx)
theorem RelInv.stepPW {a0 : Act} {listed : Array Bool} {a : Act} {w : World} {i : Nat} (hok : relOk ops a0.tmps.size = true)
    (hmono : ∀ j x w w', S w → S w' → R w w' → Vs j x w → Vs j x w')
    (hpr : ∀ q ∈ prs, q.i ≠ q.j ∧ (∀ x v w w', R w w' → Vs q.i x w → Vs q.j v w' → Ns q.j w w' v → q.D w' x v) ∧ (∀ x v w w', R w w' → Vs q.j x w → Vs q.i v w' → Ns q.i w w' v → q.D w' v x) ∧ ∀ x y w w', R w w' → Vs q.i x w → Vs q.j y w → q.D w x y → q.D w' x y)
    (hstep : ∀ o, ops[i]? = some o → ∀ w, S w → StepFrom P S R o (fun v w' => Vs i v w' ∧ Ns i w w' v) (gOf ops o) ((depsOf ops o).map fun p => (p.1, Vs p.2)) a0 w)
    (h : RelInv ops S Vs a0 listed a w) (hp : PairInvW ops prs listed a w) (hi : i ∈ Region.ready .any ops listed) :
    wpOp P ops Q i (fun a' w' => RelInv ops S Vs a0 (listed.setIfInBounds i true) a' w' ∧ PairInvW ops prs (listed.setIfInBounds i true) a' w') a w := by
  obtain ⟨hsel, hall⟩ := relOk_spec hok
  obtain ⟨hun, o, ho, hafter⟩ := mem_ready.1 hi
  obtain ⟨hd0, _, hdeps, hdist⟩ := hall i o ho
  refine wpOp_mono (fun a' w' h' => ?_) (RelInv.step3 (Q := Q) (S' := S) (R := fun w1 w2 => w1 = w ∧ R w1 w2) (Vs' := fun j v w' => Vs j v w' ∧ (j = i → Ns i w w' v) ∧ (j ≠ i → R w w')) hok (fun j x w1 w2 _ hlj hs hs' hr hv => ⟨hmono j x w1 w2 hs hs' hr.2 hv, ⟨(fun e => by
      rw [e, hun] at hlj
      cases hlj), (fun _ => by
      have h2 := hr.2
      rw [hr.1] at h2
      exact h2)⟩⟩) (fun o' ho' hx => by
    have : o' = o := by rw [ho] at ho'; injection ho' with ho'; exact ho'.symm
    subst this
    obtain ⟨a', h1, h2, h3, h4, h5⟩ := StepFrom.inst a _ a0 w (hstep o' ho w h.s) h.tmps hx
    exact ⟨a', fun K Q' hK => h1 K Q' (fun v w' q1 q2 q3 => hK.out v w' q1 ⟨rfl, q2⟩ ⟨q3.1, fun _ => q3.2, fun e => absurd rfl e⟩), h2, h3, h4, h5⟩) h hi)
  obtain ⟨hr, o', v, ho', rfl, _⟩ := h'
  have : o' = o := by rw [ho] at ho'; injection ho' with ho'; exact ho'.symm
  subst this
  refine ⟨⟨hr.size, hr.s, hr.defers, hr.tmps, hr.old, fun j oj hoj hlj => ?_⟩, fun q hq oi oj di dj x y hoi hoj hli hlj hdi hdj hx hy => ?_⟩
  · have hg := hr.got j oj hoj hlj
    cases hd : oj.dst with
    | none => trivial
    | some d =>
      rw [hd] at hg
      obtain ⟨x, h1, h2, _⟩ := hg
      exact ⟨x, h1, h2⟩
  · obtain ⟨hne, hp1, hp2, hst⟩ := hpr q hq
    have hcase : ∀ j, (listed.setIfInBounds i true).getD j true = true → j ≠ i → listed.getD j true = true := fun j hj hji => by
      rwa [getD_set_ne true (Ne.symm hji)] at hj
    -- another's value is as it was
    have hput : ∀ d (k : Nat) ok, ops[k]? = some ok → ok.dst = some d → k ≠ i → (a.put o'.dst v).tmps[d]? = a.tmps[d]? := fun d k ok hok' hdk hki => by
      cases hd : o'.dst with
      | none => rfl
      | some d' =>
        have : d' ≠ d := fun e => hdist k ok hok' hki d' hd (by rw [hdk, e])
        simp [Act.put, Array.getElem?_setIfInBounds_ne this]
    have hold : ∀ d (k : Nat) ok z, ops[k]? = some ok → ok.dst = some d → k ≠ i → listed.getD k true = true → a.tmps[d]? = some z → Vs k z w := fun d k ok z hok' hdk hki hlk hz => by
      have hg := h.got k ok hok' hlk
      rw [hdk] at hg
      obtain ⟨z', h1, h2⟩ := hg
      rw [hz] at h1
      injection h1 with h1
      rw [h1]
      exact h2
    have hR : ∀ d (k : Nat) ok, ops[k]? = some ok → ok.dst = some d → k ≠ i → (listed.setIfInBounds i true).getD k true = true → R w w' := fun d k ok hok' hdk hki hlk => by
      have hg := hr.got k ok hok' hlk
      rw [hdk] at hg
      obtain ⟨_, _, _, _, h2⟩ := hg
      exact h2 hki
    have hnew : ∀ d z, o'.dst = some d → (a.put o'.dst v).tmps[d]? = some z → Vs i z w' ∧ Ns i w w' z := fun d z hd hz => by
      have hg := hr.got i o' ho (by simp)
      rw [hd] at hg
      obtain ⟨z', h1, h3, h2, _⟩ := hg
      rw [hd] at hz
      rw [hz] at h1
      injection h1 with h1
      rw [h1]
      exact ⟨h3, h2 rfl⟩
    by_cases hqi : q.i = i
    · have hqj : q.j ≠ i := fun e => hne (hqi.trans e.symm)
      rw [hqi] at hoi
      have : oi = o' := by rw [ho] at hoi; injection hoi with hoi; exact hoi.symm
      subst this
      rw [hput dj q.j oj hoj hdj hqj] at hy
      have hn := hnew di x hdi hx
      rw [← hqi] at hn
      exact hp2 y x w w' (hR dj q.j oj hoj hdj hqj hlj) (hold dj q.j oj y hoj hdj hqj (hcase _ hlj hqj) hy) hn.1 hn.2
    · rw [hput di q.i oi hoi hdi hqi] at hx
      by_cases hqj : q.j = i
      · rw [hqj] at hoj
        have : oj = o' := by rw [ho] at hoj; injection hoj with hoj; exact hoj.symm
        subst this
        have hn := hnew dj y hdj hy
        rw [← hqj] at hn
        exact hp1 x y w w' (hR di q.i oi hoi hdi hqi hli) (hold di q.i oi x hoi hdi hqi (hcase _ hli hqi) hx) hn.1 hn.2
      · rw [hput dj q.j oj hoj hdj hqj] at hy
        have hx' := hold di q.i oi x hoi hdi hqi (hcase _ hli hqi) hx
        have hy' := hold dj q.j oj y hoj hdj hqj (hcase _ hlj hqj) hy
        exact hst x y w w' (hR di q.i oi hoi hdi hqi hli) hx' hy' (hp q hq oi oj di dj x y hoi hoj (hcase _ hli hqi) (hcase _ hlj hqj) hdi hdj hx hy)
/-- A head in whatever order. -/
theorem wpAny_headPW {a0 : Act} {n g : Nat} (hok : relOk ops a0.tmps.size = true) (hn : n < ops.size)
    (hwait : ∀ listed, HeadInv .any ops n listed → ∀ i, i < n → listed.getD i true = false → ∀ t, n ≤ t → t ∉ Region.ready .any ops listed)
    (hmono : ∀ j x w w', S w → S w' → R w w' → Vs j x w → Vs j x w')
    (hpr : ∀ q ∈ prs, q.i ≠ q.j ∧ (∀ x v w w', R w w' → Vs q.i x w → Vs q.j v w' → Ns q.j w w' v → q.D w' x v) ∧ (∀ x v w w', R w w' → Vs q.j x w → Vs q.i v w' → Ns q.i w w' v → q.D w' v x) ∧ ∀ x y w w', R w w' → Vs q.i x w → Vs q.j y w → q.D w x y → q.D w' x y)
    (hsteps : ∀ i o, i < n → ops[i]? = some o → ∀ w, S w → StepFrom P S R o (fun v w' => Vs i v w' ∧ Ns i w w' v) (gOf ops o) ((depsOf ops o).map fun p => (p.1, Vs p.2)) a0 w)
    (hend : ∀ a w, RelInv ops S Vs a0 (full ops n) a w → HeadInv .any ops n (full ops n) → PairInvW ops prs (full ops n) a w → wpAny P .any ops Q g (full ops n) a w) :
    ∀ (f : Nat) (listed : Array Bool) (a : Act) (w : World), RelInv ops S Vs a0 listed a w → HeadInv .any ops n listed → PairInvW ops prs listed a w → ((List.range n).filter fun j => !listed.getD j true).length = f →
      wpAny P .any ops Q (f + g) listed a w := by
  have hacy := fun i o ho => ((relOk_spec hok).2 i o ho).2.1
  intro f
  induction f with
  | zero =>
    intro listed a w h hh hp hf
    have hl : ∀ j, j < n → listed.getD j true = true := fun j hj => by
      cases e : listed.getD j true with
      | true => rfl
      | false =>
        have : j ∈ (List.range n).filter fun j => !listed.getD j true := by
          rw [List.mem_filter, List.mem_range]
          exact ⟨hj, by rw [e]; rfl⟩
        have := List.length_pos_of_mem this
        omega
    have hlist : listed = full ops n := by
      have hsz := h.size
      unfold full
      refine Array.ext (by simp [hsz]; omega) fun j h1 h2 => ?_
      by_cases hj : j < n
      · have := hl j hj
        simp [h1] at this
        rw [this]
        simp [hj]
      · have := hh.tail j (by omega) (by omega)
        simp [h1] at this
        rw [this]
        rw [Array.getElem_append_right (by simp; omega)]
        simp
    rw [Nat.zero_add]
    rw [hlist] at h hh hp ⊢
    exact hend a w h hh hp
  | succ f ih =>
    intro listed a w h hh hp hf
    have hex : ∃ i, i < n ∧ listed.getD i true = false := by
      cases e : ((List.range n).filter fun j => !listed.getD j true) with
      | nil => rw [e] at hf; cases hf
      | cons j js =>
        have : j ∈ (List.range n).filter fun j => !listed.getD j true := by rw [e]; simp
        rw [List.mem_filter, List.mem_range] at this
        exact ⟨j, this.1, by simpa using this.2⟩
    obtain ⟨i0, hi0, hun0⟩ := hex
    rw [show f + 1 + g = (f + g) + 1 by omega]
    refine ⟨fun hr => ?_, fun i hi => ?_⟩
    · have := all_listed h.size hacy hr (i0 + 1) i0 (by omega) (by omega)
      rw [hun0] at this
      cases this
    · have hin : i < n := Nat.lt_of_not_le fun hni => hwait listed hh i0 hi0 hun0 i hni hi
      obtain ⟨hun, o, ho, _⟩ := mem_ready.1 hi
      refine wpOp_mono (fun a' w' h' => ?_) (h.stepPW (Q := Q) hok hmono hpr (fun o => hsteps i o hin) hp hi)
      have hle := unlisted_exact hin hun
      exact ih _ _ _ h'.1 (hh.set hi hin) h'.2 (by omega)
end
def NlW (Ns : List (Nat × (World → World → Value → Prop))) (j : Nat) : World → World → Value → Prop := match Ns.find? (fun p => p.1 == j) with
  | some p => p.2
  | none => fun _ _ _ => True
/-- the obligations of the rows 'ts', number k on -/
def StepsPW (P : Program) (S : World → Prop) (R : World → World → Prop) (Vs : List (Value → World → Prop)) (Ns : List (Nat × (World → World → Value → Prop))) (a0 : Act) : List Row → Nat → Prop
  | [], _ => True
  | t :: ts, k => (∀ o : Oper, o.op = t.op → o.dst = t.dst → ∀ w, S w → StepFrom P S R o (fun v w' => Vl Vs k v w' ∧ NlW Ns k w w' v) t.guard (t.deps.map fun p => (p.1, Vl Vs p.2)) a0 w) ∧ StepsPW P S R Vs Ns a0 ts (k + 1)
section
variable {P : Program} {S S' : World → Prop} {R R' R'' : World → World → Prop} {Vs Vs' : List (Value → World → Prop)} {Ns : List (Nat × (World → World → Value → Prop))} {prs : List PrW} {Q : Exit → Act → World → Prop}
theorem StepsPW.get {a0 : Act} {ops : Array Oper} : ∀ (os : List Oper) (ts : List Row) (k : Nat), StepsPW P S R Vs Ns a0 ts k → ts = os.map (rowOf ops) →
    ∀ (i : Nat) o, os[i]? = some o → ∀ w, S w → StepFrom P S R o (fun v w' => Vl Vs (k + i) v w' ∧ NlW Ns (k + i) w w' v) (gOf ops o) ((depsOf ops o).map fun p => (p.1, Vl Vs p.2)) a0 w
  | [], _, _, _, _, i, o, ho => by simp at ho
  | q :: os, [], _, _, e, _, _, _ => by simp at e
  | q :: os, t :: ts, k, h, e, i, o, ho => by
    rw [List.map_cons] at e
    injection e with e1 e2
    cases i with
    | zero =>
      simp at ho
      subst ho
      have := h.1 q (by rw [e1]; rfl) (by rw [e1]; rfl)
      rw [e1] at this
      exact this
    | succ i =>
      have := StepsPW.get os ts (k + 1) h.2 e2 i o (by simpa using ho)
      rwa [Nat.add_right_comm, Nat.add_assoc] at this
theorem StepsPW.nil {a0 : Act} {k : Nat} : StepsPW P S R Vs Ns a0 [] k := trivial
/-- an operation that is in no pair -/
theorem StepsPW.cons {a0 : Act} {dst : Option Tmp} {op : Op} {g : Option (Option Tmp × Bool)} {d : List (Tmp × Nat)} {ts : List Row} {k : Nat}
    (V : Value → World → Prop) (U : List (Tmp × (Value → World → Prop))) (hV : Vl Vs k = V) (hU : (d.map fun p => (p.1, Vl Vs p.2)) = U) (hN : (Ns.find? (fun p => p.1 == k)).isNone = true)
    (h : ∀ o : Oper, o.op = op → o.dst = dst → ∀ w, S w → StepFrom P S R o V g U a0 w) (t : StepsPW P S R Vs Ns a0 ts (k + 1)) : StepsPW P S R Vs Ns a0 (⟨dst, op, g, d⟩ :: ts) k :=
  ⟨fun o h1 h2 w hw => by
    have hN' : NlW Ns k = fun _ _ _ => True := by
      unfold NlW
      rw [Option.isNone_iff_eq_none] at hN
      rw [hN]
    rw [hV, hU, hN']
    exact stepFrom_of (fun v w' hv => ⟨hv, trivial⟩) _ _ _ (h o h1 h2 w hw), t⟩
/-- an operation of a pair -/
theorem StepsPW.new {a0 : Act} {dst : Option Tmp} {op : Op} {g : Option (Option Tmp × Bool)} {d : List (Tmp × Nat)} {ts : List Row} {k : Nat}
    (V : Value → World → Prop) (N : World → World → Value → Prop) (U : List (Tmp × (Value → World → Prop))) (hV : Vl Vs k = V) (hU : (d.map fun p => (p.1, Vl Vs p.2)) = U) (hN : NlW Ns k = N)
    (h : ∀ o : Oper, o.op = op → o.dst = dst → ∀ w, S w → StepFrom P S R o (fun v w' => V v w' ∧ N w w' v) g U a0 w) (t : StepsPW P S R Vs Ns a0 ts (k + 1)) : StepsPW P S R Vs Ns a0 (⟨dst, op, g, d⟩ :: ts) k :=
  ⟨fun o h1 h2 w hw => by
    rw [hV, hU, hN]
    exact h o h1 h2 w hw, t⟩def PrOkW (R : World → World → Prop) (Vs : List (Value → World → Prop)) (Ns : List (Nat × (World → World → Value → Prop))) (prs : List PrW) : Prop :=
  ∀ q ∈ prs, q.i ≠ q.j ∧ (∀ x v w w', R w w' → Vl Vs q.i x w → Vl Vs q.j v w' → NlW Ns q.j w w' v → q.D w' x v) ∧ (∀ x v w w', R w w' → Vl Vs q.j x w → Vl Vs q.i v w' → NlW Ns q.i w w' v → q.D w' v x) ∧ ∀ x y w w', R w w' → Vl Vs q.i x w → Vl Vs q.j y w → q.D w x y → q.D w' x y
theorem pair_startW {ops : Array Oper} {a : Act} {w : World} : PairInvW ops prs (Array.replicate ops.size false) a w := fun q hq oi oj di dj x y hoi hoj hli _ _ _ _ _ => by
  have := none_listed _ hli
  have hj : q.i < ops.size := (Array.getElem?_eq_some_iff.1 hoi).1
  omega/-- which pairs' facts a frame bears: by temporaries -/
def PairAtW (os : List Oper) (prs : List PrW) (a : Act) (w : World) : Prop := ∀ q ∈ prs, ∀ di dj x y, (os[q.i]?).bind (·.dst) = some di → (os[q.j]?).bind (·.dst) = some dj → a.tmps[di]? = some x → a.tmps[dj]? = some y → q.D w x y
theorem PairInvW.at {os : List Oper} {n : Nat} {a : Act} {w : World} (h : PairInvW os.toArray prs (full os.toArray n) a w) (hb : ∀ q ∈ prs, q.i < n ∧ q.j < n) : PairAtW os prs a w := fun q hq di dj x y hdi hdj hx hy => by
  obtain ⟨oi, hoi, hdi'⟩ := Option.bind_eq_some_iff.1 hdi
  obtain ⟨oj, hoj, hdj'⟩ := Option.bind_eq_some_iff.1 hdj
  exact h q hq oi oj di dj x y (by simpa using hoi) (by simpa using hoj) (full_get (hb q hq).1) (full_get (hb q hq).2) hdi' hdj' hx hy
theorem wp_region_tailPW {id : Nat} {a0 : Act} {w : World} {os : List Oper} (n : Nat) (S : World → Prop) (R : World → World → Prop) (Vs : List (Value → World → Prop)) (Ns : List (Nat × (World → World → Value → Prop))) (prs : List PrW) (T : List Row) (F : List (Option Tmp))
    (hm : P.follows .mixedOrders = true) (hok : relOk os.toArray a0.tmps.size = true) (hT : (os.take n).map (rowOf os.toArray) = T) (hF : (os.take n).map Oper.dst = F) (hl : Vs.length = n) (ht : tailOk os.toArray n = true) (hb : ∀ q ∈ prs, q.i < n ∧ q.j < n)
    (hS : S w.drew) (hmono : MonoL S R Vs) (hpr : PrOkW R Vs Ns prs) (hsteps : StepsPW P S R Vs Ns a0 T 0)
    (hfin : ∀ w, S w → FinalFrom (fun _ a w => PairAtW os prs a w → wpList P os.toArray Q (os.drop n) a w) (F.zip Vs) a0 w) : (Code.region id os.toArray true).wp P Q a0 w := by
  unfold tailOk at ht
  simp only [Bool.and_eq_true, decide_eq_true_eq] at ht
  obtain ⟨⟨⟨hn, hsink⟩, hchain⟩, hseq⟩ := ht
  have hn' : n < os.length := by simpa using hn
  have hgo := wpAny_headPW (P := P) (ops := os.toArray) (S := S) (R := R) (Vs := Vl Vs) (Ns := NlW Ns) (prs := prs) (Q := Q) (a0 := a0) (n := n) (g := os.toArray.size - n) hok hn
    (fun listed hh i hi hun t ht => tail_waits hsink hchain hn hh (n - i) i rfl hi hun t ht) hmono.get hpr
    (fun i o hin ho w hs => by
      have := StepsPW.get (ops := os.toArray) (os.take n) T 0 hsteps hT.symm i o (by rw [List.getElem?_take_of_lt hin]; simpa using ho) w hs
      rwa [Nat.zero_add] at this)
    (fun a w h hh hp => by
      have hw := h.finish (Q' := fun a w => PairAtW os prs a w → wpList P os.toArray Q (os.drop n) a w) (by
        rw [zip_vals hF hl (by omega)]
        exact hfin w h.s) (hp.at hb)
      have hdl : (os.drop n).length = os.toArray.size - n := by simp
      rw [← hdl]
      exact wpAny_of_seq (os.drop n) n (full os.toArray n) a w (fun j => by simp [List.getElem?_drop]) (by rw [hdl]; exact hseq) hw)
    n (Array.replicate os.toArray.size false) a0 w.drew (rel_start hS) head_start pair_startW (count_start (by omega))
  rw [show n + (os.toArray.size - n) = os.toArray.size by omega] at hgo
  exact wp_region_any hm hgo
end
end Go.Proofs.YtfgnnbpbbnnnhaaDoor
namespace Go.Proofs.YtfgnnbpbbnnnhaaDoor
open Go.RowKit Go.Maps
section
variable {P : Program} {S : World → Prop} {R : World → World → Prop} {o : Oper} {V : Value → World → Prop} {g : Option (Option Tmp × Bool)} {a : Act} {w w' : World}
end
end Go.Proofs.YtfgnnbpbbnnnhaaDoor
namespace Go.Proofs.YtfgnnbpbbnnnhaaDoor
open Go.RowKit Go.Maps
theorem Tm.sizeL_le_countL : ∀ ts : List Tm, (∀ t ∈ ts, t.size ≤ t.count) → Tm.sizeL ts ≤ Tm.countL ts
  | [], _ => by simp [Tm.sizeL]
  | t :: ts, h => by
    have h1 := h t (by simp)
    have h2 := Tm.sizeL_le_countL ts fun s hs => h s (by simp [hs])
    simp only [Tm.sizeL, Tm.countL]
    omega
theorem Tm.size_le_count : ∀ t : Tm, t.size ≤ t.count := by
  intro t
  induction t using Tm.ind with
  | h k n a lv kids ih =>
    have := Tm.sizeL_le_countL kids ih
    rw [Tm.size_mk, Tm.count_mk]
    omega
/-- a variable just made -/
def BoxV (B : Nat) (x : Value) (w : World) : Prop := ∃ g, x = .pointer (some ⟨g, 0, none⟩) ∧ B ≤ g ∧ w.heap[g]? = some (.cells #[.int .i64 0, .int .i64 0, .int .i64 0, .slice none 0 0, .slice none 0 0] 27 (0, 0))
theorem BoxV.mono {B : Nat} {x : Value} {w w' : World} (h : BoxV B x w) (hR : Below w.heap.size w w') : BoxV B x w' := by
  obtain ⟨g, h1, h2, h3⟩ := h
  exact ⟨g, h1, h2, (hR.block g (heap_some_lt h3)).trans h3⟩
def NewB (w _w' : World) (x : Value) : Prop := ∃ g, x = .pointer (some ⟨g, 0, none⟩) ∧ w.heap.size ≤ g
set_option maxRecDepth 100000 in
theorem alloc_term (w : World) : (Instr.alloc 27 true (.tuple #[])).run Tryd.prog w = .ok (.pointer (some ⟨w.heap.size, 0, none⟩)) (w.alloc (.cells #[.int .i64 0, .int .i64 0, .int .i64 0, .slice none 0 0, .slice none 0 0] 27)) := by go_simp
set_option maxRecDepth 100000 in
theorem gtr_to {x y : Int} {b : Bool} (p q : Operand) (w : World) (h : decide (y < x) = b) : ((do eqGuard .gtr 3 p q (.int .i64 x) (.int .i64 y); binOp .gtr 3 (.int .i64 x) (.int .i64 y) : Sem Value)).run Tryd.prog w = .ok (.bool b) w := by
  subst h
  go_simp
end Go.Proofs.YtfgnnbpbbnnnhaaDoor
