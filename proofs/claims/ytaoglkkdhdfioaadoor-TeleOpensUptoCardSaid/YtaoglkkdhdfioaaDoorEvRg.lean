/- Ranges over functions, step by step. -/
import Derived.Test.YtaoglkkdhdfioaaDoorEvZ
namespace Go.Proofs.YtaoglkkdhdfioaaDoor
open Go
section
variable {P : Program} {h : AH} {f : AF} {Q : Ex → AF → AH → Prop}
theorem within_gen {L : List Nat} {e : Ex} {f' : AF} {h' : AH} (h1 : OfL h.has (f'.keep L).t.l) (h2 : OfM h.has f'.marks) (h3 : OfE h.has e) (h4 : ∀ p ∈ (h'.cut h).blk, OfB h.has p.2) (h5 : Q e (f'.keep L) (h'.cut h)) : within h L Q e f' h' :=
  ⟨h1.all, h2.all, fun v hv => by subst hv; exact h3, h4, h5⟩
/-- a round, as the iterator asks for it -/
def GivesY (P : Program) (r : Nat) (args : List AV) (h : AH) (R : Bool → AH → Prop) : Prop := ∃ b h', Run P (.yld r args h) (.call (.ret (.raw (.bool b))) h') ∧ R b h'
theorem GivesY.mono {r : Nat} {args : List AV} {R R' : Bool → AH → Prop} (hk : GivesY P r args h R) (hr : ∀ b h', R b h' → R' b h') : GivesY P r args h R' := by
  obtain ⟨b, h', k1, k2⟩ := hk
  exact ⟨b, h', k1, hr _ _ k2⟩
/-- what a round made is forgotten, but for what was there ahead of it -/
theorem givesY_cut {r : Nat} {args : List AV} {R : Bool → AH → Prop} (hk : GivesY P r args h fun b h' => (∀ p ∈ (h'.cut h).blk, OfB h.has p.2) ∧ R b (h'.cut h)) : GivesY P r args h R := by
  obtain ⟨b, h', k1, k2, k3⟩ := hk
  refine ⟨b, _, .knowny ?_, k3⟩
  have hs := sound k1
  refine ⟨hs.1, fun F n res g q us w hF hV hu => (hs.2 F n res g q us w hF hV hu).mono fun e w1 hp => ?_⟩
  obtain ⟨g', q', t, hd⟩ := hp
  refine ⟨g', q', cut_to hV t k2, ?_⟩
  cases e with
  | returned v =>
    have : Den _ _ v (.raw (.bool b)) := hd
    obtain rfl := den_raw this
    exact Den.raw _
  | panicked ch => exact hd.elim
  | outgrown => exact hd.elim
theorem goes_range {G : Nat} {fn : Func} {c assign body : Code} {g : Operand} {ps : Array Tmp} {first cap : List AV} (hg : f.ev g = some (.clo (.func G) first cap)) (hf : P.funcs[G]? = some fn) (hb : fn.body = some c) (hn : (fn.name == "runtime.NumGoroutine") = false) (hr : f.rnd = none)
    (hk : ∀ L0, L0 = (⟨.ready, none, f.t, ps, assign, body, h.next⟩ : ALoop) → Gives P (.func G) (first ++ [.yld (h.next + 1)]) cap ((h.new .mark).new (.loop L0)) fun r h2 => ∃ y L, r = .ret y ∧ h2.get (h.next + 1) = some (.loop L) ∧ L.st ≠ .busy ∧ match L.pending with
      | none => Q .normal { f with marks := h.next :: f.marks } (h2.drop1 (h.next + 1))
      | some j => Goes P j { f with marks := h.next :: f.marks } (h2.drop1 (h.next + 1)) Q) : Goes P (.rangeFunc g ps assign body) f h Q := by
  obtain ⟨r, h2, k1, y, L, rfl, k2, k3, k4⟩ := hk _ rfl
  cases hp : L.pending with
  | none =>
    rw [hp] at k4
    exact ⟨_, _, _, .range hg hf hb hn hr k1 k2 k3 hp, k4⟩
  | some j =>
    rw [hp] at k4
    obtain ⟨e, f', h', k5, k6⟩ := k4
    exact ⟨e, f', h', .rangej hg hf hb hn hr k1 k2 k3 hp k5, k6⟩
theorem gives_yld {r : Nat} {args : List AV} {L : ALoop} {R : Bool → AH → Prop} (hl : h.get r = some (.loop L)) (hs : L.st = .ready) (ha : args.length = L.params.size)
    (h1 : Goes P L.assign ⟨givenA L.tmps L.params.toList args, [], some r⟩ h fun e f1 hA => e = .normal ∧ hA.get r = some (.loop L) ∧ Goes P L.body f1 (hA.put r (.loop { L with st := .busy })) fun e f2 hB => ∃ L3 b st pe, hB.get r = some (.loop L3) ∧ leftA e = some (b, st, pe) ∧ R b (hB.put r (.loop { L3 with st := st, pending := pe }))) : GivesY P r args h R := by
  obtain ⟨e, f1, hA, k1, rfl, k2, e2, f2, hB, k3, L3, b, st, pe, k4, k5, k6⟩ := h1
  exact ⟨b, _, .yld hl hs ha k1 k2 k3 k4 k5, k6⟩
theorem goesL_yield {ops : Array Oper} {o : Oper} {l : List Oper} {c : Call} {x : Operand} {r : Nat} {args : List AV} (hg : guardA ops f o = some true) (hc : o.op = .call c) (hx : c.callee = .value x)
    (hf : f.ev x = some (.yld r)) (ha : f.evs c.args.toList = some args) (hk : GivesY P r args h fun b h' => GoesL P ops l (f.put o.dst (.raw (.bool b))) h' Q) : GoesL P ops (o :: l) f h Q := by
  intro i hi
  obtain ⟨h1, h2⟩ := drop_get hi
  obtain ⟨b, h', k1, k2⟩ := hk
  obtain ⟨e, f2, h2', j1, j2⟩ := k2 (i + 1) h2
  exact ⟨e, f2, h2', .ops_yield h1 hg hc hx hf ha k1 j1, j2⟩
def noLoop : List (Nat × Blk) → Bool
  | [] => true
  | (_, .loop _) :: _ => false
  | _ :: l => noLoop l
theorem no_loop {h : AH} {M : List Nat} (hb : noLoop h.blk = true) : ∀ r l, h.get r = some (.loop l) → l.mark ∉ M := by
  intro r l e
  have e := find_mem e
  generalize h.blk = bs at e hb
  induction bs with
  | nil => cases e
  | cons p bs ih =>
    obtain ⟨s, o⟩ := p
    cases e with
    | head => simp [noLoop] at hb
    | tail _ e =>
      cases o with
      | loop _ => simp [noLoop] at hb
      | cells _ => exact ih e hb
      | mark => exact ih e hb
/-- what a body must achieve that ranges over functions -/
def leavesM (P : Program) (fn : Func) (h0 : AH) (R : Res → AH → Prop) : Ex → AF → AH → Prop
  | .normal, f, h => (∀ m ∈ f.marks, h0.next ≤ m) ∧ (∀ r l, h.get r = some (.loop l) → l.mark ∉ f.marks) ∧ ∃ y, resultA P (h.drop f.marks) f fn = some y ∧ R (.ret y) (h.drop f.marks)
  | .ret, f, h => (∀ m ∈ f.marks, h0.next ≤ m) ∧ (∀ r l, h.get r = some (.loop l) → l.mark ∉ f.marks) ∧ ∃ y, resultA P (h.drop f.marks) f fn = some y ∧ R (.ret y) (h.drop f.marks)
  | .pan y, f, h => f.marks = [] ∧ R (.pan y) h
  | .exit _, _, _ => False
theorem gives_enterM {F : Nat} {fn : Func} {c : Code} {args cap : List AV} {R : Res → AH → Prop} (hf : P.funcs[F]? = some fn) (hb : fn.body = some c) (hn : (fn.name == "runtime.NumGoroutine") = false) (hc : Goes P c (AF.start (args ++ cap) fn.ntmps) h (leavesM P fn h R)) : Gives P (.func F) args cap h R := by
  obtain ⟨e, f', h', k1, k2⟩ := hc
  cases e with
  | normal => obtain ⟨hm, hl, y, hy, hr⟩ := k2; exact ⟨_, _, .enter hf hb hn k1 (.inl rfl) hy hm hl, hr⟩
  | ret => obtain ⟨hm, hl, y, hy, hr⟩ := k2; exact ⟨_, _, .enter hf hb hn k1 (.inr rfl) hy hm hl, hr⟩
  | pan y => obtain ⟨hm, hr⟩ := k2; exact ⟨_, _, .enterx hf hb hn k1 hm, hr⟩
  | exit id => exact k2.elim
end
end Go.Proofs.YtaoglkkdhdfioaaDoor
