/- Operations one behind the other, reckoned. -/
import Derived.Test.YtaoglkkdhdfioaaDoorEvM
namespace Go.Proofs.YtaoglkkdhdfioaaDoor
open Go
/-- as far as it goes without a call -/
def steps (P : Program) (ops : Array Oper) : List Oper → AF → AH → List Oper × AF × AH
  | [], f, h => ([], f, h)
  | o :: l, f, h => match guardA ops f o with
    | none => (o :: l, f, h)
    | some false => steps P ops l (f.put o.dst (.raw undef)) h
    | some true => match qop P h f o with
      | some y => steps P ops l (f.put o.dst y) h
      | none => match nop P h f o with
        | some (y, c) => steps P ops l (f.put o.dst (y h.next)) (h.new (.cells c))
        | none => match mop P h f o with
          | some (y, h') => steps P ops l (f.put o.dst y) h'
          | none => (o :: l, f, h)
/-! ### Where it goes -/
def Goes (P : Program) (c : Code) (f : AF) (h : AH) (Q : Ex → AF → AH → Prop) : Prop := ∃ e f' h', Run P (.code c f h) (.code e f' h') ∧ Q e f' h'
def GoesO (P : Program) (ops : Array Oper) (l : List Nat) (f : AF) (h : AH) (Q : Ex → AF → AH → Prop) : Prop := ∃ e f' h', Run P (.ops ops l f h) (.code e f' h') ∧ Q e f' h'
def Gives (P : Program) (fn : Fn) (args cap : List AV) (h : AH) (Q : Res → AH → Prop) : Prop := ∃ r h', Run P (.call fn args cap h) (.call r h') ∧ Q r h'
section
variable {P : Program} {f : AF} {h : AH} {Q : Ex → AF → AH → Prop}
/-- on from there, if it comes there -/
def andThen (K : AF → AH → Prop) (Q : Ex → AF → AH → Prop) : Ex → AF → AH → Prop
  | .normal, f, h => K f h
  | e, f, h => Q e f h
theorem goes_seq {c d : Code} (hc : Goes P c f h (andThen (fun f h => Goes P d f h Q) Q)) : Goes P (.seq c d) f h Q := by
  obtain ⟨e, f', h', h1, h2⟩ := hc
  cases e with
  | normal =>
    obtain ⟨e2, f2, h2', k1, k2⟩ := h2
    exact ⟨e2, f2, h2', .seq h1 k1, k2⟩
  | exit id => exact ⟨_, _, _, .seqx h1 (by simp), h2⟩
  | ret => exact ⟨_, _, _, .seqx h1 (by simp), h2⟩
  | pan v => exact ⟨_, _, _, .seqx h1 (by simp), h2⟩
theorem goes_skip (hq : Q .normal f h) : Goes P .skip f h Q := ⟨_, _, _, .skip, hq⟩
theorem goes_ret (hq : Q .ret f h) : Goes P .ret f h Q := ⟨_, _, _, .ret, hq⟩
theorem goes_exit {id : Nat} (hq : Q (.exit id) f h) : Goes P (.exit id) f h Q := ⟨_, _, _, .exit, hq⟩
theorem goes_cond {x : Operand} {c d : Code} {b : Bool} (hb : f.ev x = some (.raw (.bool b))) (h1 : b = true → Goes P c f h Q) (h2 : b = false → Goes P d f h Q) : Goes P (.cond x c d) f h Q := by
  cases b with
  | true => obtain ⟨e, f', h', k1, k2⟩ := h1 rfl; exact ⟨e, f', h', .cond hb k1, k2⟩
  | false => obtain ⟨e, f', h', k1, k2⟩ := h2 rfl; exact ⟨e, f', h', .cond hb k1, k2⟩
/-- a jump to the end of the block is the end of the block -/
def atEnd (id : Nat) (Q : Ex → AF → AH → Prop) : Ex → AF → AH → Prop
  | .exit i, f, h => if i = id then Q .normal f h else Q (.exit i) f h
  | e, f, h => Q e f h
theorem goes_block {id : Nat} {c : Code} (hc : Goes P c f h (atEnd id Q)) : Goes P (.block id c) f h Q := by
  obtain ⟨e, f', h', h1, h2⟩ := hc
  cases e with
  | exit i =>
    by_cases e : i = id
    · subst e
      simp only [atEnd, if_true] at h2
      exact ⟨_, _, _, .blockx h1, h2⟩
    · simp only [atEnd, e, if_false] at h2
      exact ⟨_, _, _, .block h1 (by simpa using e), h2⟩
  | normal => exact ⟨_, _, _, .block h1 (by simp), h2⟩
  | ret => exact ⟨_, _, _, .block h1 (by simp), h2⟩
  | pan v => exact ⟨_, _, _, .block h1 (by simp), h2⟩
theorem goes_weak {c : Code} {f' : AF} (h1 : f'.t.n = f.t.n) (h2 : ∀ i y, f'.t.get i = some y → f.t.get i = some y) (h3 : f'.marks = f.marks) (h4 : f'.rnd = f.rnd) (hc : Goes P c f' h Q) : Goes P c f h Q := by
  obtain ⟨e, f2, h', k1, k2⟩ := hc
  exact ⟨e, f2, h', .weak h1 h2 h3 h4 k1, k2⟩
theorem look_filter (L : List Nat) : ∀ (l : List (Nat × AV)) (i : Nat) (y : AV), Slots.look (l.filter fun p => L.contains p.1) i = some y → Slots.look l i = some y
  | [], i, y, hy => by simp [Slots.look] at hy
  | (e, z) :: l, i, y, hy => by
    rw [List.filter_cons] at hy
    by_cases h : L.contains e = true
    · simp only [h, if_true, Slots.look] at hy ⊢
      split
      · rename_i e1; rw [if_pos e1] at hy; exact hy
      · rename_i e1; rw [if_neg e1] at hy; exact look_filter L l i y hy
    · simp only [h] at hy
      have h2 := look_filter L l i y (by simpa using hy)
      simp only [Slots.look]
      split
      · rename_i e1
        subst e1
        exfalso
        have : ∀ l : List (Nat × AV), Slots.look (l.filter fun p => L.contains p.1) i = none := by
          intro l
          induction l with
          | nil => rfl
          | cons a l ih =>
            obtain ⟨e, z⟩ := a
            rw [List.filter_cons]
            split
            · rename_i hc
              simp only [Slots.look]
              rw [if_neg]
              · exact ih
              · rintro rfl; exact h hc
            · exact ih
        have hy' : Slots.look (l.filter fun p => L.contains p.1) i = some y := by simpa using hy
        rw [this l] at hy'
        cases hy'
      · exact h2
/-- only these slots from here on -/
theorem goes_keep {c : Code} (L : List Nat) (hc : Goes P c (f.keep L) h Q) : Goes P c f h Q :=
  goes_weak (f' := f.keep L) rfl (fun i y hy => look_filter L _ i y hy) rfl rfl hc
/-- the rest of a region -/
def GoesL (P : Program) (ops : Array Oper) (l : List Oper) (f : AF) (h : AH) (Q : Ex → AF → AH → Prop) : Prop := ∀ i, ops.toList.drop i = l → GoesO P ops (List.range' i l.length) f h Q
theorem drop_get {ops : Array Oper} {i : Nat} {o : Oper} {l : List Oper} (h : ops.toList.drop i = o :: l) : ops[i]? = some o ∧ ops.toList.drop (i + 1) = l := by
  have h1 : (ops.toList.drop i)[0]? = some o := by rw [h]; rfl
  rw [List.getElem?_drop] at h1
  refine ⟨by simpa using h1, ?_⟩
  have : (ops.toList.drop i).drop 1 = l := by rw [h]; rfl
  rwa [List.drop_drop] at this
theorem goes_region {id : Nat} {ops : Array Oper} (hc : GoesL P ops ops.toList f h Q) : Goes P (.region id ops false) f h Q := by
  obtain ⟨e, f', h', k1, k2⟩ := hc 0 rfl
  rw [Array.length_toList, ← List.range_eq_range'] at k1
  exact ⟨e, f', h', .region k1, k2⟩
theorem goesL_nil {ops : Array Oper} (hq : Q .normal f h) : GoesL P ops [] f h Q := fun _ _ => ⟨_, _, _, .ops_nil, hq⟩
theorem goesL_steps {ops : Array Oper} : ∀ {l l' : List Oper} {f f' : AF} {h h' : AH}, steps P ops l f h = (l', f', h') → GoesL P ops l' f' h' Q → GoesL P ops l f h Q
  | [], l', f, f', h, h', hs, hr => by
    simp only [steps, Prod.mk.injEq] at hs
    obtain ⟨rfl, rfl, rfl⟩ := hs
    exact hr
  | o :: l, l', f, f', h, h', hs, hr => by
    have stop : (o :: l, f, h) = (l', f', h') → GoesL P ops (o :: l) f h Q := fun e => by
      simp only [Prod.mk.injEq] at e
      obtain ⟨rfl, rfl, rfl⟩ := e
      exact hr
    simp only [steps] at hs
    split at hs
    · exact stop hs
    · rename_i hg
      intro i hi
      obtain ⟨h1, h2⟩ := drop_get hi
      obtain ⟨e, f2, h2', k1, k2⟩ := goesL_steps hs hr (i + 1) h2
      exact ⟨e, f2, h2', .ops_off h1 hg k1, k2⟩
    · rename_i hg
      split at hs
      · rename_i y hy
        intro i hi
        obtain ⟨h1, h2⟩ := drop_get hi
        obtain ⟨e, f2, h2', k1, k2⟩ := goesL_steps hs hr (i + 1) h2
        exact ⟨e, f2, h2', .ops_q h1 hg hy k1, k2⟩
      · split at hs
        · rename_i y c hy
          intro i hi
          obtain ⟨h1, h2⟩ := drop_get hi
          obtain ⟨e, f2, h2', k1, k2⟩ := goesL_steps hs hr (i + 1) h2
          exact ⟨e, f2, h2', .ops_n h1 hg hy k1, k2⟩
        · split at hs
          · rename_i y h3 hy
            intro i hi
            obtain ⟨h1, h2⟩ := drop_get hi
            obtain ⟨e, f2, h2', k1, k2⟩ := goesL_steps hs hr (i + 1) h2
            exact ⟨e, f2, h2', .ops_m h1 hg hy k1, k2⟩
          · exact stop hs
theorem goesL_end {ops : Array Oper} {l : List Oper} {f' : AF} {h' : AH} (hs : steps P ops l f h = ([], f', h')) (hq : Q .normal f' h') : GoesL P ops l f h Q := goesL_steps hs (goesL_nil hq)
theorem goesL_call {ops : Array Oper} {o : Oper} {l : List Oper} {c : Call} {x : Operand} {fn : Fn} {first cap args : List AV} (hg : guardA ops f o = some true) (hc : o.op = .call c) (hx : c.callee = .value x)
    (hf : f.ev x = some (.clo fn first cap)) (ha : f.evs c.args.toList = some args) (hk : Gives P fn (first ++ args) cap h fun r h' => match r with | .ret y => GoesL P ops l (f.put o.dst y) h' Q | .pan y => Q (.pan y) f h') : GoesL P ops (o :: l) f h Q := by
  intro i hi
  obtain ⟨h1, h2⟩ := drop_get hi
  obtain ⟨r, h', k1, k2⟩ := hk
  cases r with
  | ret y =>
    obtain ⟨e, f2, h2', j1, j2⟩ := k2 (i + 1) h2
    exact ⟨e, f2, h2', .ops_call h1 hg hc hx hf ha k1 j1, j2⟩
  | pan y => exact ⟨_, _, _, .ops_calx h1 hg hc hx hf ha k1, k2⟩
theorem goesL_panic {ops : Array Oper} {o : Oper} {l : List Oper} {x : Operand} {t : TypeId} {y : AV} (hg : guardA ops f o = some true) (hc : o.op = .panic x) (hx : f.ev x = some (.ifc t y)) (hq : Q (.pan (.ifc t y)) f h) : GoesL P ops (o :: l) f h Q := fun i hi => by
  obtain ⟨h1, h2⟩ := drop_get hi
  rw [List.length_cons, List.range'_succ]
  exact ⟨_, _, _, .ops_panic h1 hg hc hx, hq⟩
theorem goesL_off {ops : Array Oper} {o : Oper} {l : List Oper} (hg : guardA ops f o = some false) (hc : GoesL P ops l (f.put o.dst (.raw undef)) h Q) : GoesL P ops (o :: l) f h Q := fun i hi => by
  obtain ⟨h1, h2⟩ := drop_get hi
  obtain ⟨e, f2, h2', k1, k2⟩ := hc (i + 1) h2
  exact ⟨e, f2, h2', .ops_off h1 hg k1, k2⟩
theorem goesL_q {ops : Array Oper} {o : Oper} {l : List Oper} {y : AV} (hg : guardA ops f o = some true) (hy : qop P h f o = some y) (hc : GoesL P ops l (f.put o.dst y) h Q) : GoesL P ops (o :: l) f h Q := fun i hi => by
  obtain ⟨h1, h2⟩ := drop_get hi
  obtain ⟨e, f2, h2', k1, k2⟩ := hc (i + 1) h2
  exact ⟨e, f2, h2', .ops_q h1 hg hy k1, k2⟩
theorem goesL_s {ops : Array Oper} {o : Oper} {l : List Oper} {y : AV} (hg : guardA ops f o = some true) (hy : QOk P h f o y) (hc : GoesL P ops l (f.put o.dst y) h Q) : GoesL P ops (o :: l) f h Q := fun i hi => by
  obtain ⟨h1, h2⟩ := drop_get hi
  obtain ⟨e, f2, h2', k1, k2⟩ := hc (i + 1) h2
  exact ⟨e, f2, h2', .ops_s h1 hg hy k1, k2⟩
theorem goesL_n {ops : Array Oper} {o : Oper} {l : List Oper} {y : Nat → AV} {c : Cells} (hg : guardA ops f o = some true) (hy : nop P h f o = some (y, c)) (hc : GoesL P ops l (f.put o.dst (y h.next)) (h.new (.cells c)) Q) : GoesL P ops (o :: l) f h Q := fun i hi => by
  obtain ⟨h1, h2⟩ := drop_get hi
  obtain ⟨e, f2, h2', k1, k2⟩ := hc (i + 1) h2
  exact ⟨e, f2, h2', .ops_n h1 hg hy k1, k2⟩
theorem goesL_m {ops : Array Oper} {o : Oper} {l : List Oper} {y : AV} {h' : AH} (hg : guardA ops f o = some true) (hy : mop P h f o = some (y, h')) (hc : GoesL P ops l (f.put o.dst y) h' Q) : GoesL P ops (o :: l) f h Q := fun i hi => by
  obtain ⟨h1, h2⟩ := drop_get hi
  obtain ⟨e, f2, h2', k1, k2⟩ := hc (i + 1) h2
  exact ⟨e, f2, h2', .ops_m h1 hg hy k1, k2⟩
/-- where a truth is told: either way -/
theorem goesL_b {ops : Array Oper} {o : Oper} {l : List Oper} {b : Bool} (hg : guardA ops f o = some true) (hy : qop P h f o = some (.raw (.bool b))) (hc : ∀ c, b = c → GoesL P ops l (f.put o.dst (.raw (.bool c))) h Q) : GoesL P ops (o :: l) f h Q :=
  goesL_q hg hy (hc b rfl)
theorem Gives.mono {fn : Fn} {args cap : List AV} {R R' : Res → AH → Prop} (hk : Gives P fn args cap h R) (hr : ∀ r h', R r h' → R' r h') : Gives P fn args cap h R' := by
  obtain ⟨r, h', k1, k2⟩ := hk
  exact ⟨r, h', k1, hr _ _ k2⟩
theorem gives_run {fn : Fn} {args cap : List AV} {r : Res} {h' : AH} {R : Res → AH → Prop} (hk : Run P (.call fn args cap h) (.call r h')) (hr : R r h') : Gives P fn args cap h R := ⟨r, h', hk, hr⟩
/-- what a function's body must achieve -/
def leaves (P : Program) (fn : Func) (R : Res → AH → Prop) : Ex → AF → AH → Prop
  | .normal, f, h => f.marks = [] ∧ ∃ y, resultA P h f fn = some y ∧ R (.ret y) h
  | .ret, f, h => f.marks = [] ∧ ∃ y, resultA P h f fn = some y ∧ R (.ret y) h
  | .pan y, f, h => f.marks = [] ∧ R (.pan y) h
  | .exit _, _, _ => False
theorem gives_enter {F : Nat} {fn : Func} {c : Code} {args cap : List AV} {R : Res → AH → Prop} (hf : P.funcs[F]? = some fn) (hb : fn.body = some c) (hn : (fn.name == "runtime.NumGoroutine") = false) (hc : Goes P c (AF.start (args ++ cap) fn.ntmps) h (leaves P fn R)) : Gives P (.func F) args cap h R := by
  obtain ⟨e, f', h', k1, k2⟩ := hc
  have ret : (e = .normal ∨ e = .ret) → f'.marks = [] → ∀ y, resultA P h' f' fn = some y → R (.ret y) h' → Gives P (.func F) args cap h R := fun he hm y hy hr => by
    have := Run.enter hf hb hn k1 he (y := y) (by rw [hm]; exact hy) (by rw [hm]; intro m hm; cases hm) (by rw [hm]; intro r l _ h; cases h)
    rw [hm] at this
    exact ⟨_, _, this, hr⟩
  cases e with
  | normal => obtain ⟨hm, y, hy, hr⟩ := k2; exact ret (.inl rfl) hm y hy hr
  | ret => obtain ⟨hm, y, hy, hr⟩ := k2; exact ret (.inr rfl) hm y hy hr
  | pan y => obtain ⟨hm, hr⟩ := k2; exact ⟨_, _, .enterx hf hb hn k1 hm, hr⟩
  | exit id => exact k2.elim
theorem snap_pure : ∀ {l : List AV}, (∀ a ∈ l, Pure a) → SnapL h l l []
  | [], _ => .nil
  | a :: l, hl => .pure (hl a (List.mem_cons_self ..)) (snap_pure fun b hb => hl b (List.mem_cons_of_mem _ hb))
/-- a call of pure values: nothing is left of it but what it tells -/
theorem gives_pure {fn : Fn} {args cap : List AV} {z : AV} {R : Res → AH → Prop} (hp : ∀ a ∈ args ++ cap, Pure a) (hz : Pure z)
    (hk : Gives P fn args cap .zero fun r h' => ∃ y l, r = .ret y ∧ SnapL (h'.seals l) [y] [z] l ∧ Sealed (h'.seals l) l) (hr : R (.ret z) h) : Gives P fn args cap h R := by
  obtain ⟨r, h', k1, y, l, rfl, k2, k3⟩ := hk
  exact ⟨_, _, .pure (L := []) (snap_pure hp) rfl (fun p hp => (by cases hp)) hp k1 k2 k3 hz, hr⟩
end
end Go.Proofs.YtaoglkkdhdfioaaDoor
