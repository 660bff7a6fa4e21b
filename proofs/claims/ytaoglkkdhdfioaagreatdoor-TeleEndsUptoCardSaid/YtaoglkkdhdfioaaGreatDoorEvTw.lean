/- Ranges over functions, step by step. -/
/- A region whose order is drawn, and whose end is of two rows of operations that may come between each other. -/
import Derived.Test.YtaoglkkdhdfioaaGreatDoorEvZ
namespace Go.Proofs.YtaoglkkdhdfioaaGreatDoor
open Go
section
variable {P : Program} {h : AH} {f : AF} {Q : Ex → AF → AH → Prop}
theorem within_gen {L : List Nat} {e : Ex} {f' : AF} {h' : AH} (h1 : OfL h.has (f'.keep L).t.l) (h2 : OfM h.has f'.marks) (h3 : OfE h.has e) (h4 : ∀ p ∈ (h'.cut h).blk, OfB h.has p.2) (h5 : Q e (f'.keep L) (h'.cut h)) : within h L Q e f' h' :=
  ⟨h1.all, h2.all, fun v hv => by subst hv; exact h3, h4, h5⟩
/-- a round, as the iterator asks for it -/
def GivesY (P : Program) (r : Nat) (args : List AV) (h : AH) (R : Bool → AH → Prop) : Prop := ∃ b h', Run P (.yld r args h) (.call (.ret (.raw (.bool b))) h') ∧ R b h'
theorem GivesY.mono {r : Nat} {args : List AV} {R R' : Bool → AH → Prop} (hk : GivesY P r args h R) (hr : ∀ b h', R b h' → R' b h') : GivesY P r args h R' := by
  obtain ⟨b, h', k1, k2⟩ := hk
  exact ⟨b, h', k1, hr _ _ k2⟩
/-- what a round made is forgotten, but for what was there ahead of it -/
theorem givesY_cut {r : Nat} {args : List AV} {R : Bool → AH → Prop} (hk : GivesY P r args h fun b h' => (∀ p ∈ (h'.cut h).blk, OfB h.has p.2) ∧ R b (h'.cut h)) : GivesY P r args h R := by
  obtain ⟨b, h', k1, k2, k3⟩ := hk
  refine ⟨b, _, .knowny ?_, k3⟩
  have hs := sound k1
  refine ⟨hs.1, fun F n res g q us w hF hV hu => (hs.2 F n res g q us w hF hV hu).mono fun e w1 hp => ?_⟩
  obtain ⟨g', q', t, hd⟩ := hp
  refine ⟨g', q', cut_to hV t k2, ?_⟩
  cases e with
  | returned v =>
    have : Den _ _ v (.raw (.bool b)) := hd
    obtain rfl := den_raw this
    exact Den.raw _
  | panicked ch => exact hd.elim
  | outgrown => exact hd.elim
theorem goes_range {G : Nat} {fn : Func} {c assign body : Code} {g : Operand} {ps : Array Tmp} {first cap : List AV} (hg : f.ev g = some (.clo (.func G) first cap)) (hf : P.funcs[G]? = some fn) (hb : fn.body = some c) (hn : (fn.name == "runtime.NumGoroutine") = false) (hr : f.rnd = none)
    (hk : ∀ L0, L0 = (⟨.ready, none, f.t, ps, assign, body, h.next⟩ : ALoop) → Gives P (.func G) (first ++ [.yld (h.next + 1)]) cap ((h.new .mark).new (.loop L0)) fun r h2 => ∃ y L, r = .ret y ∧ h2.get (h.next + 1) = some (.loop L) ∧ L.st ≠ .busy ∧ match L.pending with
      | none => Q .normal { f with marks := h.next :: f.marks } (h2.drop1 (h.next + 1))
      | some j => Goes P j { f with marks := h.next :: f.marks } (h2.drop1 (h.next + 1)) Q) : Goes P (.rangeFunc g ps assign body) f h Q := by
  obtain ⟨r, h2, k1, y, L, rfl, k2, k3, k4⟩ := hk _ rfl
  cases hp : L.pending with
  | none =>
    rw [hp] at k4
    exact ⟨_, _, _, .range hg hf hb hn hr k1 k2 k3 hp, k4⟩
  | some j =>
    rw [hp] at k4
    obtain ⟨e, f', h', k5, k6⟩ := k4
    exact ⟨e, f', h', .rangej hg hf hb hn hr k1 k2 k3 hp k5, k6⟩
theorem gives_yld {r : Nat} {args : List AV} {L : ALoop} {R : Bool → AH → Prop} (hl : h.get r = some (.loop L)) (hs : L.st = .ready) (ha : args.length = L.params.size)
    (h1 : Goes P L.assign ⟨givenA L.tmps L.params.toList args, [], some r⟩ h fun e f1 hA => e = .normal ∧ hA.get r = some (.loop L) ∧ Goes P L.body f1 (hA.put r (.loop { L with st := .busy })) fun e f2 hB => ∃ L3 b st pe, hB.get r = some (.loop L3) ∧ leftA e = some (b, st, pe) ∧ R b (hB.put r (.loop { L3 with st := st, pending := pe }))) : GivesY P r args h R := by
  obtain ⟨e, f1, hA, k1, rfl, k2, e2, f2, hB, k3, L3, b, st, pe, k4, k5, k6⟩ := h1
  exact ⟨b, _, .yld hl hs ha k1 k2 k3 k4 k5, k6⟩
theorem goesL_yield {ops : Array Oper} {o : Oper} {l : List Oper} {c : Call} {x : Operand} {r : Nat} {args : List AV} (hg : guardA ops f o = some true) (hc : o.op = .call c) (hx : c.callee = .value x)
    (hf : f.ev x = some (.yld r)) (ha : f.evs c.args.toList = some args) (hk : GivesY P r args h fun b h' => GoesL P ops l (f.put o.dst (.raw (.bool b))) h' Q) : GoesL P ops (o :: l) f h Q := by
  intro i hi
  obtain ⟨h1, h2⟩ := drop_get hi
  obtain ⟨b, h', k1, k2⟩ := hk
  obtain ⟨e, f2, h2', j1, j2⟩ := k2 (i + 1) h2
  exact ⟨e, f2, h2', .ops_yield h1 hg hc hx hf ha k1 j1, j2⟩
def noLoop : List (Nat × Blk) → Bool
  | [] => true
  | (_, .loop _) :: _ => false
  | _ :: l => noLoop l
theorem no_loop {h : AH} {M : List Nat} (hb : noLoop h.blk = true) : ∀ r l, h.get r = some (.loop l) → l.mark ∉ M := by
  intro r l e
  have e := find_mem e
  generalize h.blk = bs at e hb
  induction bs with
  | nil => cases e
  | cons p bs ih =>
    obtain ⟨s, o⟩ := p
    cases e with
    | head => simp [noLoop] at hb
    | tail _ e =>
      cases o with
      | loop _ => simp [noLoop] at hb
      | cells _ => exact ih e hb
      | mark => exact ih e hb
/-- what a body must achieve that ranges over functions -/
def leavesM (P : Program) (fn : Func) (h0 : AH) (R : Res → AH → Prop) : Ex → AF → AH → Prop
  | .normal, f, h => (∀ m ∈ f.marks, h0.next ≤ m) ∧ (∀ r l, h.get r = some (.loop l) → l.mark ∉ f.marks) ∧ ∃ y, resultA P (h.drop f.marks) f fn = some y ∧ R (.ret y) (h.drop f.marks)
  | .ret, f, h => (∀ m ∈ f.marks, h0.next ≤ m) ∧ (∀ r l, h.get r = some (.loop l) → l.mark ∉ f.marks) ∧ ∃ y, resultA P (h.drop f.marks) f fn = some y ∧ R (.ret y) (h.drop f.marks)
  | .pan y, f, h => f.marks = [] ∧ R (.pan y) h
  | .exit _, _, _ => False
theorem gives_enterM {F : Nat} {fn : Func} {c : Code} {args cap : List AV} {R : Res → AH → Prop} (hf : P.funcs[F]? = some fn) (hb : fn.body = some c) (hn : (fn.name == "runtime.NumGoroutine") = false) (hc : Goes P c (AF.start (args ++ cap) fn.ntmps) h (leavesM P fn h R)) : Gives P (.func F) args cap h R := by
  obtain ⟨e, f', h', k1, k2⟩ := hc
  cases e with
  | normal => obtain ⟨hm, hl, y, hy, hr⟩ := k2; exact ⟨_, _, .enter hf hb hn k1 (.inl rfl) hy hm hl, hr⟩
  | ret => obtain ⟨hm, hl, y, hy, hr⟩ := k2; exact ⟨_, _, .enter hf hb hn k1 (.inr rfl) hy hm hl, hr⟩
  | pan y => obtain ⟨hm, hr⟩ := k2; exact ⟨_, _, .enterx hf hb hn k1 hm, hr⟩
  | exit id => exact k2.elim
end
end Go.Proofs.YtaoglkkdhdfioaaGreatDoor
namespace Go.Proofs.YtaoglkkdhdfioaaGreatDoor
open Go
section
variable {P : Program} {ops : Array Oper} {h h1 : AH} {f f1 : AF} {i : Nat} {o : Oper}
/-- an operation leads from one state to another -/
structure StepOk (P : Program) (ops : Array Oper) (i : Nat) (s s1 : AF × AH) : Prop where
  rnd : s1.1.rnd = s.1.rnd
  run : ∀ (F : Fence) (nn : Nat) (res : Nat → Nat → Prop) (g q : Nat → Nat) (a : Act) (w : World) (Q : Exit → Act → World → Prop) (K : Act → World → Prop), FOk F → Rel (s.2.mem res g q) w → FrDen (s.2.mem res g q) w s.1 a →
  (∀ g' q' a' w', To (s.2.mem res g q) w (s1.2.mem res g' q') w' → FrDen (s1.2.mem res g' q') w' s1.1 a' → K a' w') → wpOpIn F nn P ops Q i K a w
theorem step_q {y : AV} (ho : ops[i]? = some o) (hg : guardA ops f o = some true) (hy : qop P h f o = some y) : StepOk P ops i (f, h) (f.put o.dst y, h) := by
  refine ⟨put_rnd .., fun F nn res g q a w Q K hF hV hf hk => ?_⟩
  obtain ⟨v, k1, k2⟩ := qop_ok hV (Agr.mem _ _ _ _) hf hy
  exact op_val hF ho (guard_ok hf hg) k1 (hk g q _ w (To.refl hV) (hf.put k2))
theorem step_m {y : AV} (ho : ops[i]? = some o) (hg : guardA ops f o = some true) (hy : mop P h f o = some (y, h1)) : StepOk P ops i (f, h) (f.put o.dst y, h1) := by
  refine ⟨put_rnd .., fun F nn res g q a w Q K hF hV hf hk => ?_⟩
  obtain ⟨v, w', g', q', k1, k2, k3⟩ := mop_ok hV hf hy
  have hK := hk g' q' _ w' k2 ((hf.fwd k2.fwd).put k3)
  rcases k1 with k1 | ⟨k1, rfl⟩
  · exact op_val hF ho (guard_ok hf hg) k1 hK
  · simp only [wpOpIn, ho, guard_ok hf hg, if_true]
    refine ⟨about_ok hF o, ?_⟩
    rw [Oper.semAt_eq _ _ _ (no_defer k1 (fun d e => by cases e)), k1]
    exact hK
theorem step_n {y : Nat → AV} {c : Cells} (ho : ops[i]? = some o) (hg : guardA ops f o = some true) (hy : nop P h f o = some (y, c)) : StepOk P ops i (f, h) (f.put o.dst (y h.next), h.new (.cells c)) := by
  refine ⟨put_rnd .., fun F nn res g q a w Q K hF hV hf hk => ?_⟩
  obtain ⟨v, w', h1, h2⟩ := nop_ok hV (Agr.mem _ _ _ _) hf hy
  obtain ⟨m, h3, h4⟩ := h2.to hV (not_born (h := h) (res := res) (g := g) (q := q)) h2.imm
  have h3 : To (h.mem res g q) w ((h.mem res g q).upd h.next (some (.cells c)) w.heap.size m) w' := h3
  have h4 : Den ((h.mem res g q).upd h.next (some (.cells c)) w.heap.size m) w' v (y h.next) := h4
  rw [← AH.mem_new] at h3 h4
  exact op_val hF ho (guard_ok hf hg) h1 (hk _ _ _ w' h3 ((hf.fwd h3.fwd).put h4))
theorem step_eq {s s1 s2 : AF × AH} (hs : StepOk P ops i s s1) (e : s1 = s2) : StepOk P ops i s s2 := e ▸ hs
/-- the end: a row of m - n operations, p behind them, q beside these -/
def tailB (ops : Array Oper) (n m p : Nat) : Bool :=
  decide (n < m) && decide (m + p ≤ ops.size) &&
  ((List.range ops.size).all fun k => (decide (k ≤ n) || decide (m ≤ k) || edgeB ops k (k - 1)) && (decide (k < m) || edgeB ops k (m - 1)) && (decide (k ≤ m) || decide (k == m + p) || edgeB ops k (k - 1)))
structure TailOk (ops : Array Oper) (n m p : Nat) : Prop where
  lt : n < m
  le : m + p ≤ ops.size
  chain : ∀ k, n < k → k < m → k < ops.size → edgeB ops k (k - 1) = true
  last : ∀ k, m ≤ k → k < ops.size → edgeB ops k (m - 1) = true
  rows : ∀ k, m < k → k ≠ m + p → k < ops.size → edgeB ops k (k - 1) = true
theorem tailB_spec {n m p : Nat} (h : tailB ops n m p = true) : TailOk ops n m p := by
  unfold tailB at h
  simp only [Bool.and_eq_true, decide_eq_true_eq] at h
  obtain ⟨⟨h1, h2⟩, h3⟩ := h
  have g : ∀ k, k < ops.size → _ := fun k hk => List.all_eq_true.1 h3 k (List.mem_range.2 hk)
  simp only [Bool.and_eq_true, Bool.or_eq_true, decide_eq_true_eq, beq_iff_eq] at g
  refine ⟨h1, h2, fun k a b c => ?_, fun k a c => ?_, fun k a b c => ?_⟩
  · exact (g k c).1.1.resolve_left (by omega)
  · exact (g k c).1.2.resolve_left (by omega)
  · exact (g k c).2.resolve_left (by omega)
def drawC (ops : Array Oper) (n k : Nat) : Bool :=
  Region.noSelect ops && decide (n ≤ ops.size) &&
  ((List.range ops.size).all fun i => match ops[i]? with
    | none => true
    | some o => (match o.dst with | some d => decide (d < k) | none => true) && (o.after.all fun e => !Region.binds .any e || decide (e.on < i))) &&
  ((List.range n).all fun i => match ops[i]? with
    | none => true
    | some o => (List.range ops.size).all fun j => match (ops[j]?).bind (·.dst) with
      | none => true
      | some d => (!(o.looksAt ops).contains d || edgeB ops i j) && (j == i || o.dst != some d)) &&
  ((List.range n).all fun i => (n == ops.size) || (List.range (n + 1)).any fun s => decide (i < s) && edgeB ops s i)
theorem drawC_spec {n k m p : Nat} (h : drawC ops n k = true) (ht : TailOk ops n m p) : DrawOk ops n k := by
  unfold drawC at h
  simp only [Bool.and_eq_true, decide_eq_true_eq] at h
  obtain ⟨⟨⟨⟨_, h1⟩, h2⟩, h3⟩, h4⟩ := h
  have lt : ∀ {i : Nat} {o : Oper}, ops[i]? = some o → i < ops.size := fun h => (Array.getElem?_eq_some_iff.1 h).1
  have g2 : ∀ i o, ops[i]? = some o → (∀ d, o.dst = some d → d < k) ∧ ∀ e ∈ o.after, Region.binds .any e = true → e.on < i := fun i o ho => by
    have := List.all_eq_true.1 h2 i (List.mem_range.2 (lt ho))
    rw [ho] at this
    simp only [Bool.and_eq_true] at this
    refine ⟨fun d hd => ?_, fun e he hb => ?_⟩
    · have h := this.1
      rw [hd] at h
      simpa using h
    · have := Array.all_eq_true_iff_forall_mem.1 this.2 e he
      simpa [hb] using this
  have g3 : ∀ i o j d, i < n → ops[i]? = some o → (ops[j]?).bind (·.dst) = some d → (d ∈ o.looksAt ops → edgeB ops i j = true) ∧ (j = i ∨ o.dst ≠ some d) := fun i o j d hi ho hj => by
    have := List.all_eq_true.1 h3 i (List.mem_range.2 hi)
    rw [ho] at this
    have hjl : j < ops.size := by
      cases hoj : ops[j]? with
      | none => rw [hoj] at hj; cases hj
      | some oj => exact lt hoj
    have := List.all_eq_true.1 this j (List.mem_range.2 hjl)
    rw [hj] at this
    simp only [Bool.and_eq_true, Bool.or_eq_true, Bool.not_eq_true', List.contains_eq_mem, decide_eq_false_iff_not, beq_iff_eq, bne_iff_ne] at this
    exact ⟨fun hd => this.1.resolve_left fun hn => hn hd, this.2⟩
  refine ⟨h1, fun i o d ho => (g2 i o ho).1 d, fun i o e ho => (g2 i o ho).2 e, fun i o j d hi ho hj => (g3 i o j d hi ho hj).1, fun i j d hi hdi hdj => ?_, fun i hi => ?_, fun k hk hks => ?_⟩
  · cases hoi : ops[i]? with
    | none => rw [hoi] at hdi; cases hdi
    | some o =>
      rw [hoi] at hdi
      exact (g3 i o j d hi hoi hdj).2.resolve_right fun hn => hn hdi
  · have := List.all_eq_true.1 h4 i (List.mem_range.2 hi)
    simp only [Bool.or_eq_true, beq_iff_eq, List.any_eq_true, List.mem_range, Bool.and_eq_true, decide_eq_true_eq] at this
    rcases this with h | ⟨s, h1, h2, h3⟩
    · exact .inl h
    · exact .inr ⟨s, h2, by omega, h3⟩
  · rcases Nat.lt_or_ge k m with h | h
    · exact ⟨k - 1, by omega, by omega, ht.chain k hk h hks⟩
    · exact ⟨m - 1, by have := ht.lt; omega, by have := ht.lt; omega, ht.last k h hks⟩
/-- the two rows, in whatever order -/
theorem any_rows {F : Fence} {nn n k m p : Nat} {res : Nat → Nat → Prop} {Q : Exit → Act → World → Prop} (hF : FOk F) (hd : DrawOk ops n k) (ht : TailOk ops n m p) (S : Nat → Nat → AF × AH)
    (hA : ∀ i j, i < p → m + p + j ≤ ops.size → StepOk P ops (m + i) (S i j) (S (i + 1) j)) (hB : ∀ i j, i ≤ p → m + p + j < ops.size → StepOk P ops (m + p + j) (S i j) (S i (j + 1))) {V0 : Mem} {w0 : World}
    (hQ : ∀ g q a w, To V0 w0 ((S p (ops.size - m - p)).2.mem res g q) w → FrDen ((S p (ops.size - m - p)).2.mem res g q) w (S p (ops.size - m - p)).1 a → Q .normal a w) :
    ∀ (fuel i j : Nat) (listed : Array Bool) (g q : Nat → Nat) (a : Act) (w : World), i ≤ p → m + p + j ≤ ops.size → listed.size = ops.size → (∀ x, x < m + i → listed.getD x true = true) → (∀ x, m + i ≤ x → x < m + p → listed.getD x true = false) → (∀ x, m + p ≤ x → x < m + p + j → listed.getD x true = true) → (∀ x, m + p + j ≤ x → x < ops.size → listed.getD x true = false) →
      (p - i) + (ops.size - m - p - j) ≤ fuel → To V0 w0 ((S i j).2.mem res g q) w → FrDen ((S i j).2.mem res g q) w (S i j).1 a → wpAnyIn F nn P .any ops Q fuel listed a w := by
  have hlt := ht.lt
  have hle := ht.le
  intro fuel
  induction fuel with
  | zero =>
    intro i j listed g q a w hi hj hs l1 l2 l3 l4 hf hT hfr
    obtain rfl : i = p := by omega
    obtain rfl : j = ops.size - m - i := by omega
    refine ⟨List.eq_nil_iff_forall_not_mem.2 fun x hx => ?_, hQ g q a w hT hfr⟩
    obtain ⟨k1, k2, _⟩ := (ready_iff hd hs).1 hx
    rcases Nat.lt_or_ge x (m + i) with h | h
    · rw [l1 x h] at k1; cases k1
    · rw [l3 x h (by omega)] at k1; cases k1
  | succ fuel ih =>
    intro i j listed g q a w hi hj hs l1 l2 l3 l4 hf hT hfr
    refine ⟨fun e => ?_, fun x hx => ?_⟩
    · have hno : ∀ x, x ∉ Region.ready .any ops listed := fun x hx => by rw [e] at hx; cases hx
      rcases Nat.lt_or_ge i p with h | h
      · refine absurd ((ready_iff hd hs).2 ⟨l2 (m + i) (Nat.le_refl _) (by omega), by omega, fun y hy => ?_⟩) (hno (m + i))
        obtain ⟨o, e1, e, e2, e3, rfl⟩ := edgeB_iff.1 hy
        exact l1 _ (hd.back _ o e e1 e2 e3)
      · obtain rfl : i = p := by omega
        rcases Nat.lt_or_ge (m + i + j) ops.size with h2 | h2
        · refine absurd ((ready_iff hd hs).2 ⟨l4 (m + i + j) (Nat.le_refl _) h2, h2, fun y hy => ?_⟩) (hno (m + i + j))
          obtain ⟨o, e1, e, e2, e3, rfl⟩ := edgeB_iff.1 hy
          have := hd.back _ o e e1 e2 e3
          rcases Nat.lt_or_ge e.on (m + i) with h3 | h3
          · exact l1 _ h3
          · exact l3 _ h3 this
        · obtain rfl : j = ops.size - m - i := by omega
          exact hQ g q a w hT hfr
    · obtain ⟨k1, k2, k3⟩ := (ready_iff hd hs).1 hx
      have hxl : x < listed.size := by omega
      have hx1 : m + i ≤ x := by
        rcases Nat.lt_or_ge x (m + i) with h | h
        · rw [l1 x h] at k1; cases k1
        · exact h
      rcases Nat.lt_or_ge x (m + p) with h | h
      · obtain rfl : x = m + i := by
          rcases Nat.lt_or_ge (m + i) x with h' | h'
          · have := k3 (x - 1) (ht.rows x (by omega) (by omega) k2)
            rw [l2 (x - 1) (by omega) (by omega)] at this
            cases this
          · omega
        refine (hA i j (by omega) hj).run F nn res g q a w Q _ hF hT.rel hfr fun g' q' a' w' t f' => ?_
        refine ih (i + 1) j _ g' q' a' w' (by omega) hj (by simpa using hs) (fun y hy => ?_) (fun y y1 y2 => ?_) (fun y y1 y2 => ?_) (fun y y1 y2 => ?_) (by omega) (hT.trans t) f'
        · rw [set_getD hxl]
          split
          · rfl
          · exact l1 y (by omega)
        · rw [set_getD hxl, if_neg (by omega)]; exact l2 y (by omega) y2
        · rw [set_getD hxl, if_neg (by omega)]; exact l3 y y1 y2
        · rw [set_getD hxl, if_neg (by omega)]; exact l4 y y1 y2
      · have hx2 : m + p + j ≤ x := by
          rcases Nat.lt_or_ge x (m + p + j) with h' | h'
          · rw [l3 x h h'] at k1; cases k1
          · exact h'
        obtain rfl : x = m + p + j := by
          rcases Nat.lt_or_ge (m + p + j) x with h' | h'
          · have := k3 (x - 1) (ht.rows x (by omega) (by omega) k2)
            rw [l4 (x - 1) (by omega) (by omega)] at this
            cases this
          · omega
        refine (hB i j hi k2).run F nn res g q a w Q _ hF hT.rel hfr fun g' q' a' w' t f' => ?_
        refine ih i (j + 1) _ g' q' a' w' hi (by omega) (by simpa using hs) (fun y hy => ?_) (fun y y1 y2 => ?_) (fun y y1 y2 => ?_) (fun y y1 y2 => ?_) (by omega) (hT.trans t) f'
        · rw [set_getD hxl, if_neg (by omega)]; exact l1 y hy
        · rw [set_getD hxl, if_neg (by omega)]; exact l2 y y1 y2
        · rw [set_getD hxl]
          split
          · rfl
          · exact l3 y y1 (by omega)
        · rw [set_getD hxl, if_neg (by omega)]; exact l4 y (by omega) y2
/-- what an operation of the end does -/
inductive Eff where
  | val (d : Option Tmp) (y : AV)
  | put (r : Nat) (b : Blk)
def Eff.run : Eff → AF × AH → AF × AH
  | .val d y, s => (s.1.put d y, s.2)
  | .put r b, s => (s.1, s.2.put r b)
def rowsS (s0 : AF × AH) (A B : List Eff) (i j : Nat) : AF × AH := (A.take i ++ B.take j).foldl (fun s e => e.run s) s0
def allLt : Nat → (Nat → Prop) → Prop
  | 0, _ => True
  | n + 1, R => allLt n R ∧ R n
theorem allLt_spec : ∀ {n : Nat} {R : Nat → Prop}, allLt n R → ∀ i, i < n → R i
  | n + 1, R, h, i, hi => by
    rcases Nat.lt_succ_iff_lt_or_eq.1 hi with e | rfl
    · exact allLt_spec h.1 i e
    · exact h.2
/-- behind the first n in whatever order, one operation, and two rows -/
def GoesT (P : Program) (ops : Array Oper) (n : Nat) (A B : List Eff) (Q : Ex → AF → AH → Prop) (f : AF) (h : AH) : Prop :=
  ∃ s0 : AF × AH, StepOk P ops n (f, h) s0 ∧ (allLt A.length fun i => allLt (B.length + 1) fun j => StepOk P ops (n + 1 + i) (rowsS s0 A B i j) (rowsS s0 A B (i + 1) j)) ∧
    (allLt (A.length + 1) fun i => allLt B.length fun j => StepOk P ops (n + 1 + A.length + j) (rowsS s0 A B i j) (rowsS s0 A B i (j + 1))) ∧ Q .normal (rowsS s0 A B A.length B.length).1 (rowsS s0 A B A.length B.length).2
theorem rows_rnd : ∀ (l : List Eff) (s : AF × AH), (l.foldl (fun s e => e.run s) s).1.rnd = s.1.rnd
  | [], s => rfl
  | e :: l, s => by
    rw [List.foldl_cons, rows_rnd l]
    cases e with
    | val d y => exact put_rnd ..
    | put r b => rfl
theorem any_end {F : Fence} {nn n k : Nat} {res : Nat → Nat → Prop} {Q : Exit → Act → World → Prop} {A B : List Eff} {s s0 : AF × AH} (hF : FOk F) (hd : DrawOk ops n k) (ht : TailOk ops n (n + 1) A.length) (hs : ops.size = n + 1 + A.length + B.length) (h0 : StepOk P ops n s s0)
    (hA : allLt A.length fun i => allLt (B.length + 1) fun j => StepOk P ops (n + 1 + i) (rowsS s0 A B i j) (rowsS s0 A B (i + 1) j)) (hB : allLt (A.length + 1) fun i => allLt B.length fun j => StepOk P ops (n + 1 + A.length + j) (rowsS s0 A B i j) (rowsS s0 A B i (j + 1)))
    {V0 : Mem} {w0 : World} (hQ : ∀ g q a w, To V0 w0 ((rowsS s0 A B A.length B.length).2.mem res g q) w → FrDen ((rowsS s0 A B A.length B.length).2.mem res g q) w (rowsS s0 A B A.length B.length).1 a → Q .normal a w) {g q : Nat → Nat} {a : Act} {w : World} (hT : To V0 w0 (s.2.mem res g q) w) (hf : FrDen (s.2.mem res g q) w s.1 a) :
    ∀ (fuel : Nat) (listed : Array Bool), listed.size = ops.size → (∀ i, i < n → listed.getD i true = true) → (∀ i, n ≤ i → i < ops.size → listed.getD i true = false) → ops.size - n ≤ fuel → wpAnyIn F nn P .any ops Q fuel listed a w := by
  intro fuel listed l1 l2 l3 l4
  cases fuel with
  | zero => omega
  | succ fuel =>
    have hn : n ∈ Region.ready .any ops listed := (ready_iff hd l1).2 ⟨l3 n (Nat.le_refl _) (by omega), by omega, fun i hi => by
      obtain ⟨o, e1, e, e2, e3, rfl⟩ := edgeB_iff.1 hi
      exact l2 _ (hd.back n o e e1 e2 e3)⟩
    refine ⟨fun e => (by rw [e] at hn; cases hn), fun i hi => ?_⟩
    obtain ⟨k1, k2, k3⟩ := (ready_iff hd l1).1 hi
    obtain rfl : i = n := by
      rcases Nat.lt_or_ge i n with h | h
      · rw [l2 i h] at k1; cases k1
      · rcases Nat.lt_or_ge n i with h' | h'
        · have := k3 n (ht.last i (by omega) k2)
          rw [l3 n (Nat.le_refl _) (by omega)] at this
          cases this
        · omega
    refine h0.run F nn res g q a w Q _ hF hT.rel hf fun g' q' a' w' t f' => ?_
    have hil : i < listed.size := by omega
    refine any_rows hF hd ht (rowsS s0 A B) (fun x y h1 h2 => allLt_spec (allLt_spec hA x h1) y (by omega)) (fun x y h1 h2 => allLt_spec (allLt_spec hB x (by omega)) y (by omega)) (res := res) (V0 := V0) (w0 := w0) ?_ fuel 0 0 _ g' q' a' w' (Nat.zero_le _) (by omega) (by simpa using l1) (fun x hx => ?_) (fun x h1 h2 => ?_) (fun x h1 h2 => by omega) (fun x h1 h2 => ?_) (by omega) (hT.trans t) f'
    · rw [show ops.size - (i + 1) - A.length = B.length by omega]
      exact hQ
    · rw [set_getD hil]
      split
      · rfl
      · exact l2 x (by omega)
    · rw [set_getD hil, if_neg (by omega)]; exact l3 x (by omega) (by omega)
    · rw [set_getD hil, if_neg (by omega)]; exact l3 x (by omega) (by omega)
/-- a region whose order is drawn, with such an end -/
theorem goes_drawT {id : Nat} {Q : Ex → AF → AH → Prop} (n : Nat) (L : List (Nat × Nat)) (A B : List Eff) (hm : P.follows .mixedOrders = true) (hk : drawC ops n f.t.n = true) (htl : tailB ops n (n + 1) A.length = true) (hs : ops.size = n + 1 + A.length + B.length)
    (hc : GoesD P ops h.next (h.seals L) n (GoesT P ops n A B Q) ops.toList f []) : Goes P (.region id ops true) f h Q := by
  have ht := tailB_spec htl
  have hd := drawC_spec hk ht
  obtain ⟨ys, Bs, e1, e2, e3, e4⟩ := hc 0 _ hd rfl rfl
  have h3 := e3 [] rfl
  simp only [List.nil_append] at h3 e4
  have hp : putsFrom ops 0 ys f = f.puts ops ys := rfl
  rw [hp] at h3 e4
  have hyn : ys.length = n := by omega
  have hbn : Bs.length = n := by omega
  rw [hyn, ← List.range_eq_range'] at h3
  have hh : ∀ i ∈ List.range n, HeadOk P ops h.next (f.puts ops ys) ((h.seals L).adds h.next Bs) ys Bs i := sound h3
  obtain ⟨s0, t0, tA, tB, tQ⟩ := e4
  refine ⟨_, _, _, .knownc (e := .normal) ?_, tQ⟩
  have hpr : (f.puts ops ys).rnd = f.rnd := puts_rnd _ f
  refine ⟨(rows_rnd _ _).trans (t0.rnd.trans hpr), fun F nn res g q a w hF hR hV hf => wpIn_region_any hm ?_⟩
  have tt0 : To (h.mem res g q) w (h.mem res g q) { w with drawn := w.drawn + 1 } := to_same hV rfl rfl rfl (Nat.le_refl _) fun _ _ => rfl
  have t1 := tt0.trans (seals_to L tt0.rel)
  obtain ⟨en, eh⟩ := seals_next L h
  have live : ∀ r o, (h.seals L).get r = some o → r < (h.seals L).next ∧ r ∉ (h.seals L).hid := fun r o ho => (t1.rel.live r o ho).1
  have hG := adds_grown (h := h.seals L) (B := Bs) hbn fun r o ho => (live r o ho).1
  rw [← en] at hh t0
  have hs' := memS_start (res := res) (g := g) (q := q) (ops := ops) hG hd.le live
  refine any_head (res := res) (h := h.seals L) (V0 := h.mem res g q) (w0 := w) hF hd rfl hyn hG (fun r o ho hne => live r o (by rw [← hG.old r hne]; exact ho)) (fun i hi => hh i (List.mem_range.2 hi)) (fun g2 q2 a2 w2 t2 f2 fu li l1 l2 l3 l4 => ?_) ops.size _ a _ g q f ⟨by simp, fun i j h1 h2 h3 => ?_, fun k h1 h2 => ?_⟩ (by rw [hs']; exact t1) (by rw [hs']; exact hf.fwd t1.fwd)
    ⟨rfl, rfl, rfl, fun _ _ => rfl, fun j d y j1 j2 _ _ => ?_⟩ ?_
  · exact any_end (res := res) (s := (f.puts ops ys, (h.seals L).adds (h.seals L).next Bs)) hF hd ht hs t0 tA tB (V0 := h.mem res g q) (w0 := w) (fun g q a w t f' => ⟨g, q, t, trivial, f'⟩) t2 f2 fu li l1 l2 l3 l4
  · simp [h2] at h1
  · simp [h2]
  · have := hd.le
    have : j < ops.size := by omega
    simp [this] at j2
  · have := hd.le
    have h3 := List.countP_le_length (p := fun i => !(Array.replicate ops.size false).getD i true) (l := List.range n)
    rw [List.length_range] at h3
    omega
/-! ### All orders, one by one -/
theorem step_call {c : Call} {x : Operand} {fn : Fn} {first cap args : List AV} {y : AV} (hk : Run P (.call fn (first ++ args) cap h) (.call (.ret y) h1)) (ho : ops[i]? = some o) (hg : guardA ops f o = some true) (hc : o.op = .call c) (hx : c.callee = .value x) (hfx : f.ev x = some (.clo fn first cap)) (ha : f.evs c.args.toList = some args) : StepOk P ops i (f, h) (f.put o.dst y, h1) := by
  refine ⟨put_rnd .., fun F nn res g q a w Q K hF hV hf hK => ?_⟩
  obtain ⟨v1, c1, e1, d1, d2⟩ := call_den hf hfx ha
  simp only [wpOpIn, ho, guard_ok hf hg, if_true]
  refine ⟨about_ok hF o, ?_⟩
  rw [Oper.semAt_eq _ _ _ (call_nodefer hc), exec_call hc hx e1]
  refine upon_call hF (sound hk F nn res g q _ _ w hF hV d1 d2) (fun v w' hr => ?_) (fun ch w' hr => ?_) fun w' hr => ?_
  · obtain ⟨g', q', h3, h4⟩ := hr
    exact hK g' q' _ w' h3 ((hf.fwd h3.fwd).put h4)
  · obtain ⟨g', q', h3, h4⟩ := hr
    exact h4.elim
  · obtain ⟨g', q', h3, h4⟩ := hr
    exact h4.elim
theorem step_tells {c : Call} {x : Operand} {fn : Fn} {first cap args args' : List AV} {z : AV} (ht : Tells P fn args' cap z) (ho : ops[i]? = some o) (hg : guardA ops f o = some true) (hc : o.op = .call c) (hx : c.callee = .value x) (hfx : f.ev x = some (.clo fn first cap)) (ha : f.evs c.args.toList = some args) (he : first ++ args = args') : StepOk P ops i (f, h) (f.put o.dst z, h) := by
  subst he
  obtain ⟨y, h', l1, l2, k1, k2, k3⟩ := ht.run
  exact step_call (.pure (L := []) (snap_pure ht.pure) rfl (fun p hp => (by cases hp)) ht.pure k1 k2 k3 ht.out) ho hg hc hx hfx ha
theorem step_off (ho : ops[i]? = some o) (hg : guardA ops f o = some false) : StepOk P ops i (f, h) (f.put o.dst (.raw undef), h) := by
  refine ⟨put_rnd .., fun F nn res g q a w Q K hF hV hf hk => ?_⟩
  simp only [wpOpIn, ho, guard_ok hf hg]
  exact ⟨about_ok hF o, hk g q _ w (To.refl hV) (hf.put (.raw _))⟩
theorem step_s {y : AV} (ho : ops[i]? = some o) (hg : guardA ops f o = some true) (hy : QOk P h f o y) : StepOk P ops i (f, h) (f.put o.dst y, h) := by
  refine ⟨put_rnd .., fun F nn res g q a w Q K hF hV hf hk => ?_⟩
  obtain ⟨v, k1, k2⟩ := hy _ w f a hV (Agr.mem _ _ _ _) hf (fun _ _ => rfl)
  exact op_val hF ho (guard_ok hf hg) k1 (hk g q _ w (To.refl hV) (hf.put k2))
def readyL (ops : Array Oper) (l : List Nat) : List Nat := (List.range ops.size).filter fun i => !l.contains i && (match ops[i]? with | some o => o.after.toList.all fun e => !Region.binds .any e || l.contains e.on | none => false)
def insL (i : Nat) : List Nat → List Nat
  | [] => [i]
  | j :: l => if i < j then i :: j :: l else j :: insL i l
theorem mem_insL {i x : Nat} : ∀ {l : List Nat}, x ∈ insL i l ↔ x = i ∨ x ∈ l
  | [] => by simp [insL]
  | j :: l => by
    unfold insL
    split
    · simp
    · simp only [List.mem_cons, mem_insL (l := l)]
      constructor
      · rintro (h | h | h)
        · exact .inr (.inl h)
        · exact .inl h
        · exact .inr (.inr h)
      · rintro (h | h | h)
        · exact .inr (.inl h)
        · exact .inl h
        · exact .inr (.inr h)
/-- what is done when these have come -/
def freeS (E : List Eff) (s0 : AF × AH) (l : List Nat) : AF × AH := l.foldl (fun s i => match E[i]? with | some e => e.run s | none => s) s0
def allIn : List Nat → (Nat → Prop) → Prop
  | [], _ => True
  | i :: l, R => R i ∧ allIn l R
theorem allIn_spec : ∀ {l : List Nat} {R : Nat → Prop}, allIn l R → ∀ i ∈ l, R i
  | j :: l, R, h, i, hi => by
    rcases List.mem_cons.1 hi with rfl | hi
    · exact h.1
    · exact allIn_spec h.2 i hi
def FreeOk (P : Program) (ops : Array Oper) (E : List Eff) (s0 : AF × AH) (Q : AF × AH → Prop) : Nat → List Nat → Prop
  | 0, l => (readyL ops l).isEmpty = true ∧ Q (freeS E s0 l)
  | k + 1, l => (readyL ops l).isEmpty = false ∧ allIn (readyL ops l) fun i => StepOk P ops i (freeS E s0 l) (freeS E s0 (insL i l)) ∧ FreeOk P ops E s0 Q k (insL i l)
theorem ready_in {listed : Array Bool} {l : List Nat} {i : Nat} (hb : ∀ (i : Nat) (o : Oper) (e : Edge), ops[i]? = some o → e ∈ o.after → Region.binds .any e = true → e.on < i) (hs : listed.size = ops.size) (hl : ∀ x, x < ops.size → (listed.getD x true = true ↔ x ∈ l)) : i ∈ Region.ready .any ops listed ↔ i ∈ readyL ops l := by
  rw [mem_ready]
  unfold readyL
  rw [List.mem_filter, List.mem_range]
  simp only [Bool.and_eq_true, Bool.not_eq_true', List.contains_eq_mem, decide_eq_false_iff_not]
  constructor
  · rintro ⟨h1, o, h2, h3⟩
    have hi := (Array.getElem?_eq_some_iff.1 h2).1
    refine ⟨hi, fun hm => ?_, ?_⟩
    · rw [(hl i hi).2 hm] at h1; cases h1
    · rw [h2]
      simp only [List.all_eq_true, Bool.or_eq_true, Bool.not_eq_true', decide_eq_true_eq]
      intro e he
      cases hbe : Region.binds .any e with
      | false => exact .inl rfl
      | true =>
        right
        have he' : e ∈ o.after := by simpa using he
        have hlt := hb i o e h2 he' hbe
        refine (hl _ (by omega)).1 ?_
        rw [← getD_same (by omega)]
        exact h3 e he' hbe
  · rintro ⟨hi, hm, h⟩
    have ho : ops[i]? = some ops[i] := by simp [hi]
    rw [ho] at h
    simp only [List.all_eq_true, Bool.or_eq_true, Bool.not_eq_true', decide_eq_true_eq] at h
    refine ⟨?_, ops[i], ho, fun e he hbe => ?_⟩
    · cases hc : listed.getD i true with
      | false => rfl
      | true => exact absurd ((hl i hi).1 hc) hm
    · have hlt := hb i ops[i] e ho he hbe
      rw [getD_same (by omega)]
      refine (hl _ (by omega)).2 ?_
      rcases h e (by simpa using he) with h | h
      · rw [hbe] at h; cases h
      · exact h
def backB (ops : Array Oper) : Bool := (List.range ops.size).all fun i => match ops[i]? with | some o => o.after.toList.all fun e => !Region.binds .any e || decide (e.on < i) | none => true
theorem backB_spec (h : backB ops = true) : ∀ (i : Nat) (o : Oper) (e : Edge), ops[i]? = some o → e ∈ o.after → Region.binds .any e = true → e.on < i := fun i o e ho he hbe => by
  have hi := (Array.getElem?_eq_some_iff.1 ho).1
  have := List.all_eq_true.1 h i (List.mem_range.2 hi)
  rw [ho] at this
  have := List.all_eq_true.1 this e (by simpa using he)
  rw [hbe] at this
  simpa using this
theorem any_free {F : Fence} {nn : Nat} {res : Nat → Nat → Prop} {E : List Eff} {s0 : AF × AH} {Q : AF × AH → Prop} {Q1 : Exit → Act → World → Prop} (hF : FOk F) (hb : ∀ (i : Nat) (o : Oper) (e : Edge), ops[i]? = some o → e ∈ o.after → Region.binds .any e = true → e.on < i) {V0 : Mem} {w0 : World}
    (hQ : ∀ s g q a w, Q s → To V0 w0 (s.2.mem res g q) w → FrDen (s.2.mem res g q) w s.1 a → Q1 .normal a w) : ∀ (k : Nat) (l : List Nat) (listed : Array Bool) (g q : Nat → Nat) (a : Act) (w : World), FreeOk P ops E s0 Q k l → listed.size = ops.size → (∀ x, x < ops.size → (listed.getD x true = true ↔ x ∈ l)) → To V0 w0 ((freeS E s0 l).2.mem res g q) w → FrDen ((freeS E s0 l).2.mem res g q) w (freeS E s0 l).1 a → wpAnyIn F nn P .any ops Q1 k listed a w
  | 0, l, listed, g, q, a, w, hk, hs, hl, hT, hf => by
    have hr : Region.ready .any ops listed = [] := List.eq_nil_iff_forall_not_mem.2 fun x hx => by
      have := (ready_in hb hs hl).1 hx
      rw [List.isEmpty_iff.1 hk.1] at this
      cases this
    exact ⟨hr, hQ _ g q a w hk.2 hT hf⟩
  | k + 1, l, listed, g, q, a, w, hk, hs, hl, hT, hf => by
    refine ⟨fun e => ?_, fun i hi => ?_⟩
    · have hne := hk.1
      cases hrl : readyL ops l with
      | nil => rw [hrl] at hne; cases hne
      | cons i t =>
        have : i ∈ Region.ready .any ops listed := (ready_in hb hs hl).2 (by rw [hrl]; exact List.mem_cons_self ..)
        rw [e] at this
        cases this
    · have hi' := (ready_in hb hs hl).1 hi
      have hil : i < listed.size := by
        have := List.mem_filter.1 hi'
        have := List.mem_range.1 this.1
        omega
      obtain ⟨h1, h2⟩ := allIn_spec hk.2 i hi'
      refine h1.run F nn res g q a w Q1 _ hF hT.rel hf fun g' q' a' w' t f' => ?_
      refine any_free hF hb hQ k _ _ g' q' a' w' h2 (by simpa using hs) (fun x hx => ?_) (hT.trans t) f'
      rw [set_getD hil, mem_insL]
      split
      · rename_i e; simp [e]
      · rename_i e; simp only [e, false_or]; exact hl x hx
theorem free_rnd (E : List Eff) : ∀ (l : List Nat) (s : AF × AH), (freeS E s l).1.rnd = s.1.rnd
  | [], s => rfl
  | i :: l, s => by
    show (freeS E (match E[i]? with | some e => e.run s | none => s) l).1.rnd = _
    rw [free_rnd E l]
    cases E[i]? with
    | none => rfl
    | some e =>
      cases e with
      | val d y => exact put_rnd ..
      | put r b => rfl
/-- a region whose order is drawn: every order -/
theorem goes_free {id : Nat} {Q : Ex → AF → AH → Prop} (E : List Eff) (l : List Nat) (hm : P.follows .mixedOrders = true) (hb : backB ops = true) (hc : FreeOk P ops E (f, h) (fun s => s = freeS E (f, h) l) ops.size []) (hq : Q .normal (freeS E (f, h) l).1 (freeS E (f, h) l).2) : Goes P (.region id ops true) f h Q := by
  refine ⟨_, _, _, .knownc (e := .normal) ?_, hq⟩
  refine ⟨free_rnd E l (f, h), fun F nn res g q a w hF hR hV hf => wpIn_region_any hm ?_⟩
  have t0 : To (h.mem res g q) w (h.mem res g q) { w with drawn := w.drawn + 1 } := to_same hV rfl rfl rfl (Nat.le_refl _) fun _ _ => rfl
  refine any_free hF (backB_spec hb) (res := res) (V0 := h.mem res g q) (w0 := w) (fun s g q a w hs t f' => ?_) ops.size [] _ g q a _ hc (by simp) (fun x hx => by simp [hx]) t0 (hf.fwd t0.fwd)
  subst hs
  exact ⟨g, q, t, trivial, f'⟩
end
end Go.Proofs.YtaoglkkdhdfioaaGreatDoor
