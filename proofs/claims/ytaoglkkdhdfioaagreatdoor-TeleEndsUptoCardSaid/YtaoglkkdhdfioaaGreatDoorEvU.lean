/- Operations one behind the other, reckoned. -/
/- Regions whose order is drawn, step by step. -/
/- Regions whose order is drawn: the head, step by step; the rest behind it. -/
/- Loops, scopes, rows by number. -/
import Derived.Test.YtaoglkkdhdfioaaGreatDoorEvM
namespace Go.Proofs.YtaoglkkdhdfioaaGreatDoor
open Go
/-- as far as it goes without a call -/
def steps (P : Program) (ops : Array Oper) : List Oper → AF → AH → List Oper × AF × AH
  | [], f, h => ([], f, h)
  | o :: l, f, h => match guardA ops f o with
    | none => (o :: l, f, h)
    | some false => steps P ops l (f.put o.dst (.raw undef)) h
    | some true => match qop P h f o with
      | some y => steps P ops l (f.put o.dst y) h
      | none => match nop P h f o with
        | some (y, c) => steps P ops l (f.put o.dst (y h.next)) (h.new (.cells c))
        | none => match mop P h f o with
          | some (y, h') => steps P ops l (f.put o.dst y) h'
          | none => (o :: l, f, h)
/-! ### Where it goes -/
def Goes (P : Program) (c : Code) (f : AF) (h : AH) (Q : Ex → AF → AH → Prop) : Prop := ∃ e f' h', Run P (.code c f h) (.code e f' h') ∧ Q e f' h'
def GoesO (P : Program) (ops : Array Oper) (l : List Nat) (f : AF) (h : AH) (Q : Ex → AF → AH → Prop) : Prop := ∃ e f' h', Run P (.ops ops l f h) (.code e f' h') ∧ Q e f' h'
def Gives (P : Program) (fn : Fn) (args cap : List AV) (h : AH) (Q : Res → AH → Prop) : Prop := ∃ r h', Run P (.call fn args cap h) (.call r h') ∧ Q r h'
section
variable {P : Program} {f : AF} {h : AH} {Q : Ex → AF → AH → Prop}
/-- on from there, if it comes there -/
def andThen (K : AF → AH → Prop) (Q : Ex → AF → AH → Prop) : Ex → AF → AH → Prop
  | .normal, f, h => K f h
  | e, f, h => Q e f h
theorem goes_seq {c d : Code} (hc : Goes P c f h (andThen (fun f h => Goes P d f h Q) Q)) : Goes P (.seq c d) f h Q := by
  obtain ⟨e, f', h', h1, h2⟩ := hc
  cases e with
  | normal =>
    obtain ⟨e2, f2, h2', k1, k2⟩ := h2
    exact ⟨e2, f2, h2', .seq h1 k1, k2⟩
  | exit id => exact ⟨_, _, _, .seqx h1 (by simp), h2⟩
  | ret => exact ⟨_, _, _, .seqx h1 (by simp), h2⟩
  | pan v => exact ⟨_, _, _, .seqx h1 (by simp), h2⟩
theorem goes_skip (hq : Q .normal f h) : Goes P .skip f h Q := ⟨_, _, _, .skip, hq⟩
theorem goes_ret (hq : Q .ret f h) : Goes P .ret f h Q := ⟨_, _, _, .ret, hq⟩
theorem goes_exit {id : Nat} (hq : Q (.exit id) f h) : Goes P (.exit id) f h Q := ⟨_, _, _, .exit, hq⟩
theorem goes_cond {x : Operand} {c d : Code} {b : Bool} (hb : f.ev x = some (.raw (.bool b))) (h1 : b = true → Goes P c f h Q) (h2 : b = false → Goes P d f h Q) : Goes P (.cond x c d) f h Q := by
  cases b with
  | true => obtain ⟨e, f', h', k1, k2⟩ := h1 rfl; exact ⟨e, f', h', .cond hb k1, k2⟩
  | false => obtain ⟨e, f', h', k1, k2⟩ := h2 rfl; exact ⟨e, f', h', .cond hb k1, k2⟩
/-- a jump to the end of the block is the end of the block -/
def atEnd (id : Nat) (Q : Ex → AF → AH → Prop) : Ex → AF → AH → Prop
  | .exit i, f, h => if i = id then Q .normal f h else Q (.exit i) f h
  | e, f, h => Q e f h
theorem goes_block {id : Nat} {c : Code} (hc : Goes P c f h (atEnd id Q)) : Goes P (.block id c) f h Q := by
  obtain ⟨e, f', h', h1, h2⟩ := hc
  cases e with
  | exit i =>
    by_cases e : i = id
    · subst e
      simp only [atEnd, if_true] at h2
      exact ⟨_, _, _, .blockx h1, h2⟩
    · simp only [atEnd, e, if_false] at h2
      exact ⟨_, _, _, .block h1 (by simpa using e), h2⟩
  | normal => exact ⟨_, _, _, .block h1 (by simp), h2⟩
  | ret => exact ⟨_, _, _, .block h1 (by simp), h2⟩
  | pan v => exact ⟨_, _, _, .block h1 (by simp), h2⟩
theorem goes_weak {c : Code} {f' : AF} (h1 : f'.t.n = f.t.n) (h2 : ∀ i y, f'.t.get i = some y → f.t.get i = some y) (h3 : f'.marks = f.marks) (h4 : f'.rnd = f.rnd) (hc : Goes P c f' h Q) : Goes P c f h Q := by
  obtain ⟨e, f2, h', k1, k2⟩ := hc
  exact ⟨e, f2, h', .weak h1 h2 h3 h4 k1, k2⟩
theorem look_filter (L : List Nat) : ∀ (l : List (Nat × AV)) (i : Nat) (y : AV), Slots.look (l.filter fun p => L.contains p.1) i = some y → Slots.look l i = some y
  | [], i, y, hy => by simp [Slots.look] at hy
  | (e, z) :: l, i, y, hy => by
    rw [List.filter_cons] at hy
    by_cases h : L.contains e = true
    · simp only [h, if_true, Slots.look] at hy ⊢
      split
      · rename_i e1; rw [if_pos e1] at hy; exact hy
      · rename_i e1; rw [if_neg e1] at hy; exact look_filter L l i y hy
    · simp only [h] at hy
      have h2 := look_filter L l i y (by simpa using hy)
      simp only [Slots.look]
      split
      · rename_i e1
        subst e1
        exfalso
        have : ∀ l : List (Nat × AV), Slots.look (l.filter fun p => L.contains p.1) i = none := by
          intro l
          induction l with
          | nil => rfl
          | cons a l ih =>
            obtain ⟨e, z⟩ := a
            rw [List.filter_cons]
            split
            · rename_i hc
              simp only [Slots.look]
              rw [if_neg]
              · exact ih
              · rintro rfl; exact h hc
            · exact ih
        have hy' : Slots.look (l.filter fun p => L.contains p.1) i = some y := by simpa using hy
        rw [this l] at hy'
        cases hy'
      · exact h2
/-- only these slots from here on -/
theorem goes_keep {c : Code} (L : List Nat) (hc : Goes P c (f.keep L) h Q) : Goes P c f h Q :=
  goes_weak (f' := f.keep L) rfl (fun i y hy => look_filter L _ i y hy) rfl rfl hc
/-- the rest of a region -/
def GoesL (P : Program) (ops : Array Oper) (l : List Oper) (f : AF) (h : AH) (Q : Ex → AF → AH → Prop) : Prop := ∀ i, ops.toList.drop i = l → GoesO P ops (List.range' i l.length) f h Q
theorem drop_get {ops : Array Oper} {i : Nat} {o : Oper} {l : List Oper} (h : ops.toList.drop i = o :: l) : ops[i]? = some o ∧ ops.toList.drop (i + 1) = l := by
  have h1 : (ops.toList.drop i)[0]? = some o := by rw [h]; rfl
  rw [List.getElem?_drop] at h1
  refine ⟨by simpa using h1, ?_⟩
  have : (ops.toList.drop i).drop 1 = l := by rw [h]; rfl
  rwa [List.drop_drop] at this
theorem goes_region {id : Nat} {ops : Array Oper} (hc : GoesL P ops ops.toList f h Q) : Goes P (.region id ops false) f h Q := by
  obtain ⟨e, f', h', k1, k2⟩ := hc 0 rfl
  rw [Array.length_toList, ← List.range_eq_range'] at k1
  exact ⟨e, f', h', .region k1, k2⟩
theorem goesL_nil {ops : Array Oper} (hq : Q .normal f h) : GoesL P ops [] f h Q := fun _ _ => ⟨_, _, _, .ops_nil, hq⟩
theorem goesL_steps {ops : Array Oper} : ∀ {l l' : List Oper} {f f' : AF} {h h' : AH}, steps P ops l f h = (l', f', h') → GoesL P ops l' f' h' Q → GoesL P ops l f h Q
  | [], l', f, f', h, h', hs, hr => by
    simp only [steps, Prod.mk.injEq] at hs
    obtain ⟨rfl, rfl, rfl⟩ := hs
    exact hr
  | o :: l, l', f, f', h, h', hs, hr => by
    have stop : (o :: l, f, h) = (l', f', h') → GoesL P ops (o :: l) f h Q := fun e => by
      simp only [Prod.mk.injEq] at e
      obtain ⟨rfl, rfl, rfl⟩ := e
      exact hr
    simp only [steps] at hs
    split at hs
    · exact stop hs
    · rename_i hg
      intro i hi
      obtain ⟨h1, h2⟩ := drop_get hi
      obtain ⟨e, f2, h2', k1, k2⟩ := goesL_steps hs hr (i + 1) h2
      exact ⟨e, f2, h2', .ops_off h1 hg k1, k2⟩
    · rename_i hg
      split at hs
      · rename_i y hy
        intro i hi
        obtain ⟨h1, h2⟩ := drop_get hi
        obtain ⟨e, f2, h2', k1, k2⟩ := goesL_steps hs hr (i + 1) h2
        exact ⟨e, f2, h2', .ops_q h1 hg hy k1, k2⟩
      · split at hs
        · rename_i y c hy
          intro i hi
          obtain ⟨h1, h2⟩ := drop_get hi
          obtain ⟨e, f2, h2', k1, k2⟩ := goesL_steps hs hr (i + 1) h2
          exact ⟨e, f2, h2', .ops_n h1 hg hy k1, k2⟩
        · split at hs
          · rename_i y h3 hy
            intro i hi
            obtain ⟨h1, h2⟩ := drop_get hi
            obtain ⟨e, f2, h2', k1, k2⟩ := goesL_steps hs hr (i + 1) h2
            exact ⟨e, f2, h2', .ops_m h1 hg hy k1, k2⟩
          · exact stop hs
theorem goesL_end {ops : Array Oper} {l : List Oper} {f' : AF} {h' : AH} (hs : steps P ops l f h = ([], f', h')) (hq : Q .normal f' h') : GoesL P ops l f h Q := goesL_steps hs (goesL_nil hq)
theorem goesL_call {ops : Array Oper} {o : Oper} {l : List Oper} {c : Call} {x : Operand} {fn : Fn} {first cap args : List AV} (hg : guardA ops f o = some true) (hc : o.op = .call c) (hx : c.callee = .value x)
    (hf : f.ev x = some (.clo fn first cap)) (ha : f.evs c.args.toList = some args) (hk : Gives P fn (first ++ args) cap h fun r h' => match r with | .ret y => GoesL P ops l (f.put o.dst y) h' Q | .pan y => Q (.pan y) f h') : GoesL P ops (o :: l) f h Q := by
  intro i hi
  obtain ⟨h1, h2⟩ := drop_get hi
  obtain ⟨r, h', k1, k2⟩ := hk
  cases r with
  | ret y =>
    obtain ⟨e, f2, h2', j1, j2⟩ := k2 (i + 1) h2
    exact ⟨e, f2, h2', .ops_call h1 hg hc hx hf ha k1 j1, j2⟩
  | pan y => exact ⟨_, _, _, .ops_calx h1 hg hc hx hf ha k1, k2⟩
theorem goesL_panic {ops : Array Oper} {o : Oper} {l : List Oper} {x : Operand} {t : TypeId} {y : AV} (hg : guardA ops f o = some true) (hc : o.op = .panic x) (hx : f.ev x = some (.ifc t y)) (hq : Q (.pan (.ifc t y)) f h) : GoesL P ops (o :: l) f h Q := fun i hi => by
  obtain ⟨h1, h2⟩ := drop_get hi
  rw [List.length_cons, List.range'_succ]
  exact ⟨_, _, _, .ops_panic h1 hg hc hx, hq⟩
theorem goesL_off {ops : Array Oper} {o : Oper} {l : List Oper} (hg : guardA ops f o = some false) (hc : GoesL P ops l (f.put o.dst (.raw undef)) h Q) : GoesL P ops (o :: l) f h Q := fun i hi => by
  obtain ⟨h1, h2⟩ := drop_get hi
  obtain ⟨e, f2, h2', k1, k2⟩ := hc (i + 1) h2
  exact ⟨e, f2, h2', .ops_off h1 hg k1, k2⟩
theorem goesL_q {ops : Array Oper} {o : Oper} {l : List Oper} {y : AV} (hg : guardA ops f o = some true) (hy : qop P h f o = some y) (hc : GoesL P ops l (f.put o.dst y) h Q) : GoesL P ops (o :: l) f h Q := fun i hi => by
  obtain ⟨h1, h2⟩ := drop_get hi
  obtain ⟨e, f2, h2', k1, k2⟩ := hc (i + 1) h2
  exact ⟨e, f2, h2', .ops_q h1 hg hy k1, k2⟩
theorem goesL_s {ops : Array Oper} {o : Oper} {l : List Oper} {y : AV} (hg : guardA ops f o = some true) (hy : QOk P h f o y) (hc : GoesL P ops l (f.put o.dst y) h Q) : GoesL P ops (o :: l) f h Q := fun i hi => by
  obtain ⟨h1, h2⟩ := drop_get hi
  obtain ⟨e, f2, h2', k1, k2⟩ := hc (i + 1) h2
  exact ⟨e, f2, h2', .ops_s h1 hg hy k1, k2⟩
theorem goesL_n {ops : Array Oper} {o : Oper} {l : List Oper} {y : Nat → AV} {c : Cells} (hg : guardA ops f o = some true) (hy : nop P h f o = some (y, c)) (hc : GoesL P ops l (f.put o.dst (y h.next)) (h.new (.cells c)) Q) : GoesL P ops (o :: l) f h Q := fun i hi => by
  obtain ⟨h1, h2⟩ := drop_get hi
  obtain ⟨e, f2, h2', k1, k2⟩ := hc (i + 1) h2
  exact ⟨e, f2, h2', .ops_n h1 hg hy k1, k2⟩
theorem goesL_m {ops : Array Oper} {o : Oper} {l : List Oper} {y : AV} {h' : AH} (hg : guardA ops f o = some true) (hy : mop P h f o = some (y, h')) (hc : GoesL P ops l (f.put o.dst y) h' Q) : GoesL P ops (o :: l) f h Q := fun i hi => by
  obtain ⟨h1, h2⟩ := drop_get hi
  obtain ⟨e, f2, h2', k1, k2⟩ := hc (i + 1) h2
  exact ⟨e, f2, h2', .ops_m h1 hg hy k1, k2⟩
/-- where a truth is told: either way -/
theorem goesL_b {ops : Array Oper} {o : Oper} {l : List Oper} {b : Bool} (hg : guardA ops f o = some true) (hy : qop P h f o = some (.raw (.bool b))) (hc : ∀ c, b = c → GoesL P ops l (f.put o.dst (.raw (.bool c))) h Q) : GoesL P ops (o :: l) f h Q :=
  goesL_q hg hy (hc b rfl)
theorem Gives.mono {fn : Fn} {args cap : List AV} {R R' : Res → AH → Prop} (hk : Gives P fn args cap h R) (hr : ∀ r h', R r h' → R' r h') : Gives P fn args cap h R' := by
  obtain ⟨r, h', k1, k2⟩ := hk
  exact ⟨r, h', k1, hr _ _ k2⟩
theorem gives_run {fn : Fn} {args cap : List AV} {r : Res} {h' : AH} {R : Res → AH → Prop} (hk : Run P (.call fn args cap h) (.call r h')) (hr : R r h') : Gives P fn args cap h R := ⟨r, h', hk, hr⟩
/-- what a function's body must achieve -/
def leaves (P : Program) (fn : Func) (R : Res → AH → Prop) : Ex → AF → AH → Prop
  | .normal, f, h => f.marks = [] ∧ ∃ y, resultA P h f fn = some y ∧ R (.ret y) h
  | .ret, f, h => f.marks = [] ∧ ∃ y, resultA P h f fn = some y ∧ R (.ret y) h
  | .pan y, f, h => f.marks = [] ∧ R (.pan y) h
  | .exit _, _, _ => False
theorem gives_enter {F : Nat} {fn : Func} {c : Code} {args cap : List AV} {R : Res → AH → Prop} (hf : P.funcs[F]? = some fn) (hb : fn.body = some c) (hn : (fn.name == "runtime.NumGoroutine") = false) (hc : Goes P c (AF.start (args ++ cap) fn.ntmps) h (leaves P fn R)) : Gives P (.func F) args cap h R := by
  obtain ⟨e, f', h', k1, k2⟩ := hc
  have ret : (e = .normal ∨ e = .ret) → f'.marks = [] → ∀ y, resultA P h' f' fn = some y → R (.ret y) h' → Gives P (.func F) args cap h R := fun he hm y hy hr => by
    have := Run.enter hf hb hn k1 he (y := y) (by rw [hm]; exact hy) (by rw [hm]; intro m hm; cases hm) (by rw [hm]; intro r l _ h; cases h)
    rw [hm] at this
    exact ⟨_, _, this, hr⟩
  cases e with
  | normal => obtain ⟨hm, y, hy, hr⟩ := k2; exact ret (.inl rfl) hm y hy hr
  | ret => obtain ⟨hm, y, hy, hr⟩ := k2; exact ret (.inr rfl) hm y hy hr
  | pan y => obtain ⟨hm, hr⟩ := k2; exact ⟨_, _, .enterx hf hb hn k1 hm, hr⟩
  | exit id => exact k2.elim
theorem snap_pure : ∀ {l : List AV}, (∀ a ∈ l, Pure a) → SnapL h l l []
  | [], _ => .nil
  | a :: l, hl => .pure (hl a (List.mem_cons_self ..)) (snap_pure fun b hb => hl b (List.mem_cons_of_mem _ hb))
/-- a call of pure values: nothing is left of it but what it tells -/
theorem gives_pure {fn : Fn} {args cap : List AV} {z : AV} {R : Res → AH → Prop} (hp : ∀ a ∈ args ++ cap, Pure a) (hz : Pure z)
    (hk : Gives P fn args cap .zero fun r h' => ∃ y l, r = .ret y ∧ SnapL (h'.seals l) [y] [z] l ∧ Sealed (h'.seals l) l) (hr : R (.ret z) h) : Gives P fn args cap h R := by
  obtain ⟨r, h', k1, y, l, rfl, k2, k3⟩ := hk
  exact ⟨_, _, .pure (L := []) (snap_pure hp) rfl (fun p hp => (by cases hp)) hp k1 k2 k3 hz, hr⟩
end
end Go.Proofs.YtaoglkkdhdfioaaGreatDoor
namespace Go.Proofs.YtaoglkkdhdfioaaGreatDoor
open Go
/-- all that is there is there too -/
def More (h h' : AH) : Prop := ∀ r o, h.get r = some o → h'.get r = some o
theorem More.refl (h : AH) : More h h := fun _ _ e => e
theorem More.now {h h' : AH} (hm : More h h') {r k : Nat} {c : Cells} (e : h.now r k = some c) : h'.now r k = some c := by
  obtain ⟨e1, e2⟩ := AH.now_get e
  unfold AH.now
  rw [hm r _ e1]
  simp [e2]
section
variable {P : Program} {h h' : AH} {f : AF} {y : AV}
theorem rLoad_more {t : TypeId} {a : Operand} (hm : More h h') (e : rLoad P h f t a = some y) : rLoad P h' f t a = some y := by
  unfold rLoad at e ⊢
  split at e
  · rename_i r k off hx
    split at e
    · rename_i c hc
      first | (simp only [hm.now hc]; exact e) | (simp only [hx, hm.now hc]; exact e)
    · cases e
  · rename_i cs hx
    first | exact e | (simp only [hx]; exact e)
  · cases e
theorem rFieldAddr_more {t : TypeId} {x : Operand} {k : Nat} (hm : More h h') (e : rFieldAddr P h f t x k = some y) : rFieldAddr P h' f t x k = some y := by
  unfold rFieldAddr at e ⊢
  cases hu : P.underlying t with
  | none => rw [hu] at e; cases e
  | some d =>
    rw [hu] at e
    cases d <;> simp only at e ⊢ <;> try (cases e; done)
    rename_i fs
    cases hf : fs[k]? with
    | none => rw [hf] at e; cases e
    | some fd =>
      rw [hf] at e
      simp only at e ⊢
      cases hs : szOf P fd.type with
      | none => rw [hs] at e; cases e
      | some n =>
        rw [hs] at e
        cases n with
        | zero => cases e
        | succ n =>
          simp only at e ⊢
          split at e
          · rename_i r j off hx
            split at e
            · rename_i c hc
              first | (simp only [hm.now hc]; exact e) | (simp only [hx, hm.now hc]; exact e)
            · cases e
          · rename_i cs hx
            first | exact e | (simp only [hx]; exact e)
          · cases e
theorem rIndexAddr_more {t : TypeId} {x i : Operand} (hm : More h h') (e : rIndexAddr P h f t x i = some y) : rIndexAddr P h' f t x i = some y := by
  unfold rIndexAddr at e ⊢
  split at e
  · rename_i e0 k n hu hi
    split at e
    · rename_i sz r j off len hs hx
      split at e
      · rename_i c hc
        first | (simp only [hm.now hc]; exact e) | (simp only [hs, hx, hm.now hc]; exact e) | (simp only [hu, hi, hs, hx, hm.now hc]; exact e)
      · cases e
    · rename_i sz s es hs hx
      first | exact e | (simp only [hs, hx]; exact e) | (simp only [hu, hi, hs, hx]; exact e)
    · cases e
  · exact e
  · cases e
theorem rNil_more {x : Operand} (hm : More h h') (e : rNil h f x = some y) : rNil h' f x = some y := by
  unfold rNil at e ⊢
  split at e
  · rename_i cs hx; first | exact e | (simp only [hx]; exact e)
  · rename_i r k off hx
    split at e
    · rename_i c hc
      first | (simp only [hm.now hc]; exact e) | (simp only [hx, hm.now hc]; exact e)
    · cases e
  · rename_i g a b hx; first | exact e | (simp only [hx]; exact e)
  · rename_i cs hx; first | exact e | (simp only [hx]; exact e)
  · cases e
theorem rLen_more {t : TypeId} {x : Operand} (hm : More h h') (e : rLen P h f t x = some y) : rLen P h' f t x = some y := by
  unfold rLen at e ⊢
  split at e
  · rename_i e0 hu
    split at e
    · rename_i r k off len hx
      split at e
      · rename_i c hc
        first | (simp only [hm.now hc]; exact e) | (simp only [hx, hm.now hc]; exact e) | (simp only [hu, hx, hm.now hc]; exact e)
      · cases e
    · rename_i s es hx; first | exact e | (simp only [hx]; exact e) | (simp only [hu, hx]; exact e)
    · rename_i hx; first | exact e | (simp only [hx]; exact e) | (simp only [hu, hx]; exact e)
    · rename_i hx; first | exact e | (simp only [hx]; exact e) | (simp only [hu, hx]; exact e)
    · cases e
  · cases e
theorem rSlice_more {t : TypeId} {x : Operand} {lo hi mx : Option Operand} (hm : More h h') (e : rSlice P h f t x lo hi mx = some y) : rSlice P h' f t x lo hi mx = some y := by
  unfold rSlice at e ⊢
  cases hu : P.underlying t with
  | none => rw [hu] at e; cases e
  | some d =>
    rw [hu] at e
    cases d <;> simp only at e ⊢ <;> try (cases e; done)
    rename_i el
    cases hs : szOf P el with
    | none => rw [hs] at e; simp at e
    | some sz =>
      rw [hs] at e
      cases hx : f.ev x with
      | none => rw [hx] at e; simp at e
      | some a =>
        rw [hx] at e
        cases a <;> cases mx <;> simp only at e ⊢ <;> first
          | exact e
          | (cases e; done)
          | (rename_i r k _ _
             cases hc : h.now r k with
             | none => rw [hc] at e; cases e
             | some c => rw [hc] at e; rw [hm.now hc]; exact e)
          | (rename_i r k _ _ _
             cases hc : h.now r k with
             | none => rw [hc] at e; cases e
             | some c => rw [hc] at e; rw [hm.now hc]; exact e)
theorem rop_more {o : Oper} (hm : More h h') (e : rop P h f o = some y) : rop P h' f o = some y := by
  obtain ⟨dst, op, ty, pos, after, guard⟩ := o
  cases op <;> simp only [rop] at e ⊢ <;> first | exact e | exact rLoad_more hm e | exact rFieldAddr_more hm e | exact rIndexAddr_more hm e | exact rNil_more hm e | exact rSlice_more hm e | skip
  case call c =>
    unfold rCall at e ⊢
    split at e
    · exact rLen_more hm e
    · cases e
theorem src_more {sz : Nat} {x : Operand} {z : Nat × List AV} (hm : More h h') (e : srcA h f sz x = some z) : srcA h' f sz x = some z := by
  unfold srcA at e ⊢
  split at e
  · rename_i c hx; first | exact e | (simp only [hx]; exact e)
  · rename_i hx; first | exact e | (simp only [hx]; exact e)
  · rename_i s es hx; first | exact e | (simp only [hx]; exact e)
  · rename_i r k off len hx
    split at e
    · rename_i c hc
      first | (simp only [hm.now hc]; exact e) | (simp only [hx, hm.now hc]; exact e)
    · cases e
  · cases e
theorem rApp_more {o : Op} (hm : More h h') (e : rApp P h f o = some y) : rApp P h' f o = some y := by
  cases o <;> simp only [rApp] at e ⊢ <;> try (cases e; done)
  split at e
  · rename_i s x ts tx h1 h2 h3
    unfold rAppend at e ⊢
    cases hu : P.underlying ts with
    | none => rw [hu] at e; simp at e
    | some d =>
      cases hk : P.underlying tx with
      | none => rw [hu, hk] at e; cases d <;> first | (cases e; done) | simp at e
      | some d2 =>
        rw [hu, hk] at e
        cases d <;> cases d2 <;> simp only at e ⊢ <;> try (cases e; done)
        rename_i el _
        cases hi : P.info? el with
        | none => rw [hi] at e; cases e
        | some i =>
          rw [hi] at e
          simp only at e ⊢
          cases hs : srcA h f i.size x with
          | none => rw [hs] at e; cases e
          | some z =>
            rw [hs] at e
            rw [src_more hm hs]
            obtain ⟨n, bs⟩ := z
            cases n <;> cases bs <;> simp only at e ⊢ <;> try (cases e; done)
            cases hx : f.ev s with
            | none => rw [hx] at e; cases e
            | some a =>
              rw [hx] at e
              cases a with
              | row r k off len =>
                simp only at e ⊢
                cases hc : h.now r k with
                | none => rw [hc] at e; cases e
                | some c => rw [hc] at e; rw [hm.now hc]; exact e
              | raw v => split at e <;> simp_all
              | _ => exact e
  · cases e
theorem qold_more {o : Oper} (hm : More h h') (e : qold P h f o = some y) : qold P h' f o = some y := by
  unfold qold at e ⊢
  cases hg : gop P f o with
  | some z => rw [hg] at e; exact e
  | none =>
    rw [hg] at e
    simp only at e ⊢
    cases hr : rop P h f o with
    | some z =>
      rw [hr] at e
      rw [rop_more hm hr]; exact e
    | none =>
      rw [hr] at e
      simp only at e
      have h1 := rApp_more hm e
      have h2 : rop P h' f o = none := by
        cases ho : o.op <;> rw [ho] at e <;> simp only [rApp] at e <;> try (cases e; done)
        rename_i c
        split at e
        · rename_i s x ts tx e1 e2 e3
          simp only [rop, ho, rCall, e1]
        · cases e
      rw [h2]; exact h1
theorem qop_more {o : Oper} (hm : More h h') (e : qop P h f o = some y) : qop P h' f o = some y := by
  unfold qop at e ⊢
  cases hg : mvop P f o with
  | some z => rw [hg] at e; exact e
  | none => rw [hg] at e; exact qold_more hm e
theorem nop_more {o : Oper} {z : (Nat → AV) × Cells} (hm : More h h') (e : nop P h f o = some z) : nop P h' f o = some z := by
  obtain ⟨dst, op, ty, pos, after, guard⟩ := o
  cases op <;> simp only [nop] at e ⊢ <;> try exact e
  split at e
  · rename_i s x ts tx h1 h2 h3
    unfold nAppend at e ⊢
    cases hu : P.underlying ts with
    | none => rw [hu] at e; simp at e
    | some d =>
      cases hk : P.underlying tx with
      | none => rw [hu, hk] at e; cases d <;> first | (cases e; done) | simp at e
      | some d2 =>
        rw [hu, hk] at e
        cases d <;> cases d2 <;> simp only at e ⊢ <;> try (cases e; done)
        rename_i el _
        cases hi : P.info? el with
        | none => rw [hi] at e; cases e
        | some i =>
          rw [hi] at e
          simp only at e ⊢
          cases hs : srcA h f i.size x with
          | none => rw [hs] at e; cases hz : i.zero <;> rw [hz] at e <;> cases e
          | some z =>
            rw [hs] at e
            rw [src_more hm hs]; exact e
  · cases e
theorem snap_more {us bs : List AV} {l : List (Nat × Nat)} (hm : More h h') (hs : SnapL h us bs l) : SnapL h' us bs l := by
  induction hs with
  | nil => exact .nil
  | pure hp _ ih => exact .pure hp ih
  | none _ ih => exact .none ih
  | emp _ ih => exact .emp ih
  | row hc hl hz _ hp _ ih1 ih2 => exact .row (hm.now hc) hl hz ih1 hp ih2
  | agg _ _ ih1 ih2 => exact .agg ih1 ih2
  | tup _ _ ih1 ih2 => exact .tup ih1 ih2
  | ifc _ _ ih1 ih2 => exact .ifc ih1 ih2
  | clo _ _ _ ih1 ih2 ih3 => exact .clo ih1 ih2 ih3
  | vptr hc hn _ _ ih1 ih2 => exact .vptr (hm.now hc) hn ih1 ih2
theorem snap_there {us bs : List AV} {l : List (Nat × Nat)} (hs : SnapL h us bs l) : ∀ p ∈ l, ∃ o, h.get p.1 = some o := by
  induction hs with
  | nil => exact fun p hp => (by cases hp)
  | pure _ _ ih => exact ih
  | none _ ih => exact ih
  | emp _ ih => exact ih
  | row hc _ _ _ _ _ ih1 ih2 =>
    intro p hp
    rcases List.mem_cons.1 hp with rfl | hp
    · exact ⟨_, (AH.now_get hc).1⟩
    · rcases List.mem_append.1 hp with hp | hp
      · exact ih1 p hp
      · exact ih2 p hp
  | agg _ _ ih1 ih2 =>
    intro p hp
    rcases List.mem_append.1 hp with hp | hp
    · exact ih1 p hp
    · exact ih2 p hp
  | tup _ _ ih1 ih2 =>
    intro p hp
    rcases List.mem_append.1 hp with hp | hp
    · exact ih1 p hp
    · exact ih2 p hp
  | ifc _ _ ih1 ih2 =>
    intro p hp
    rcases List.mem_append.1 hp with hp | hp
    · exact ih1 p hp
    · exact ih2 p hp
  | clo _ _ _ ih1 ih2 ih3 =>
    intro p hp
    rcases List.mem_append.1 hp with hp | hp
    · exact ih1 p hp
    · rcases List.mem_append.1 hp with hp | hp
      · exact ih2 p hp
      · exact ih3 p hp
  | vptr hc _ _ _ ih1 ih2 =>
    intro p hp
    rcases List.mem_cons.1 hp with rfl | hp
    · exact ⟨_, (AH.now_get hc).1⟩
    · rcases List.mem_append.1 hp with hp | hp
      · exact ih1 p hp
      · exact ih2 p hp
theorem sealed_more {us bs : List AV} {l : List (Nat × Nat)} (hm : More h h') (hs : SnapL h us bs l) (hl : Sealed h l) : Sealed h' l := fun p hp c hc => by
  obtain ⟨o, ho⟩ := snap_there hs p hp
  have := hm _ _ ho
  rw [hc] at this
  injection this with this
  subst this
  exact hl p hp c ho
end
/-- what a function tells of values: whatever there is besides -/
structure Tells (P : Program) (fn : Fn) (args cap : List AV) (z : AV) : Prop where
  pure : ∀ a ∈ args ++ cap, Pure a
  out : Pure z
  run : ∃ y h' l1 l2, Run P (.call fn args cap .zero) (.call (.ret y) h') ∧ SnapL (h'.seals l1) [y] [z] l2 ∧ Sealed (h'.seals l1) l2
theorem Tells.gives {P : Program} {fn : Fn} {args cap : List AV} {z : AV} {h : AH} {R : Res → AH → Prop} (ht : Tells P fn args cap z) (hr : R (.ret z) h) : Gives P fn args cap h R := by
  obtain ⟨y, h', l1, l2, k1, k2, k3⟩ := ht.run
  exact ⟨_, _, .pure (L := []) (snap_pure ht.pure) rfl (fun p hp => (by cases hp)) ht.pure k1 k2 k3 ht.out, hr⟩
theorem tells_of {P : Program} {fn : Fn} {args cap : List AV} {z : AV} (h1 : ∀ a ∈ args ++ cap, Pure a) (h2 : Pure z) (hk : Gives P fn args cap .zero fun r h' => ∃ y l1 l2, r = .ret y ∧ SnapL (h'.seals l1) [y] [z] l2 ∧ Sealed (h'.seals l1) l2) : Tells P fn args cap z := by
  obtain ⟨r, h', k1, y, l1, l2, rfl, k2, k3⟩ := hk
  exact ⟨h1, h2, y, h', l1, l2, k1, k2, k3⟩
theorem tells_raw {P : Program} {fn : Fn} {args cap : List AV} {z : AV} (h1 : ∀ a ∈ args ++ cap, Pure a) (h2 : Pure z) (hk : Gives P fn args cap .zero fun r _ => r = .ret z) : Tells P fn args cap z :=
  tells_of h1 h2 (hk.mono fun r h' e => ⟨z, [], [], e, .pure h2 .nil, fun p hp => (by cases hp)⟩)
end Go.Proofs.YtaoglkkdhdfioaaGreatDoor
namespace Go.Proofs.YtaoglkkdhdfioaaGreatDoor
open Go
section
variable {P : Program} {ops : Array Oper} {n0 n : Nat} {h0 : AH} {Q : Ex → AF → AH → Prop} {T : AF → AH → Prop} {o : Oper} {l : List Oper} {f : AF} {B : List (Option Cells)}
theorem news_append (n0 : Nat) : ∀ (B B' : List (Option Cells)) (k : Nat), news n0 k (B ++ B') = news n0 k B ++ news n0 (k + B.length) B'
  | [], B', k => rfl
  | none :: B, B', k => by simp only [List.cons_append, news, news_append n0 B B' (k + 1), List.length_cons]; congr 2; omega
  | some c :: B, B', k => by simp only [List.cons_append, news, news_append n0 B B' (k + 1), List.length_cons, List.cons.injEq, true_and]; congr 2; omega
theorem adds_more (B' : List (Option Cells)) : More (h0.adds n0 B) (h0.adds n0 (B ++ B')) := fun r o e => by
  have e : AH.find (h0.blk ++ news n0 0 B) r = some o := e
  show AH.find (h0.blk ++ news n0 0 (B ++ B')) r = some o
  rw [news_append, ← List.append_assoc, find_append, e]
def putsFrom (ops : Array Oper) (i : Nat) (ys : List AV) (f : AF) : AF := (ys.zipIdx i).foldl (fun f p => f.put ((ops[p.2]?).bind (·.dst)) p.1) f
theorem putsFrom_get {d : Nat} : ∀ (ys : List AV) (i : Nat) (f : AF), (∀ j, i ≤ j → (ops[j]?).bind (fun x => x.dst) ≠ some d) → (putsFrom ops i ys f).t.get d = f.t.get d
  | [], i, f, _ => rfl
  | y :: ys, i, f, hd => by
    show (putsFrom ops (i + 1) ys (f.put ((ops[i]?).bind (·.dst)) y)).t.get d = _
    rw [putsFrom_get ys (i + 1) _ fun j hj => hd j (by omega)]
    have := hd i (Nat.le_refl _)
    cases hx : (ops[i]?).bind (fun x => x.dst) with
    | none => rfl
    | some e =>
      have hne : ¬ e = d := fun e' => this (by rw [hx, e'])
      simp only [AF.put, Slots.get_set, hne, if_false]
/-- the rest of a head whose order is drawn -/
def GoesD (P : Program) (ops : Array Oper) (n0 : Nat) (h0 : AH) (n : Nat) (T : AF → AH → Prop) (l : List Oper) (f : AF) (B : List (Option Cells)) : Prop :=
  ∀ i k, DrawOk ops n k → ops.toList.drop i = l → B.length = i → ∃ (ys' : List AV) (B' : List (Option Cells)), i + ys'.length = n ∧ B'.length = ys'.length ∧
    (∀ ys0 : List AV, ys0.length = i → Run P (.heads ops n0 (List.range' i ys'.length) (putsFrom ops i ys' f) (h0.adds n0 (B ++ B')) (ys0 ++ ys') (B ++ B')) (.code .normal (putsFrom ops i ys' f) (h0.adds n0 (B ++ B')))) ∧
    T (putsFrom ops i ys' f) (h0.adds n0 (B ++ B'))
theorem goesD_endT (hn : B.length = n) (hc : T f (h0.adds n0 B)) : GoesD P ops n0 h0 n T l f B := fun i k hd hi hB => by
  refine ⟨[], [], by simp; omega, rfl, fun ys0 _ => .heads_nil, ?_⟩
  rw [List.append_nil]
  exact hc
theorem goesD_end (hn : B.length = n) (hc : GoesL P ops l f (h0.adds n0 B) Q) : GoesD P ops n0 h0 n (fun f h => GoesL P ops (ops.toList.drop n) f h Q) l f B := fun i k hd hi hB => by
  refine ⟨[], [], by simp; omega, rfl, fun ys0 _ => .heads_nil, ?_⟩
  have : i = n := by omega
  subst this
  rw [List.append_nil]
  show GoesL P ops (ops.toList.drop i) _ _ Q
  rw [hi]
  exact hc
/-- one more -/
theorem goesD_step {y : AV} {b : Option Cells} (hn : B.length < n) (hc : GoesD P ops n0 h0 n T l (f.put o.dst y) (B ++ [b]))
    (hh : ∀ (i : Nat) (F : AF) (H : AH) (ys : List AV) (BB : List (Option Cells)), ops[i]? = some o → B.length = i → (∀ d ∈ o.looksAt ops, F.t.get d = f.t.get d) → More (h0.adds n0 B) H → ys[i]? = some y → BB[i]? = some b →
      ∀ (l' : List Nat), Run P (.heads ops n0 l' F H ys BB) (.code .normal F H) → Run P (.heads ops n0 (i :: l') F H ys BB) (.code .normal F H)) : GoesD P ops n0 h0 n T (o :: l) f B := fun i k hd hi hB => by
  obtain ⟨ho, hi'⟩ := drop_get hi
  obtain ⟨ys', B', e1, e2, e3, e4⟩ := hc (i + 1) k hd hi' (by simp [hB])
  have hin : i < n := by omega
  have hdst : (ops[i]?).bind (fun x => x.dst) = o.dst := by rw [ho]; rfl
  have hF : putsFrom ops i (y :: ys') f = putsFrom ops (i + 1) ys' (f.put o.dst y) := by
    unfold putsFrom
    rw [List.zipIdx_cons, List.foldl_cons]
    simp only [hdst]
  have hBB : B ++ b :: B' = (B ++ [b]) ++ B' := by simp
  refine ⟨y :: ys', b :: B', by simp; omega, by simp [e2], fun ys0 h0' => ?_, ?_⟩
  · rw [hF, hBB, List.length_cons, List.range'_succ]
    have hlook : ∀ d ∈ o.looksAt ops, (putsFrom ops (i + 1) ys' (f.put o.dst y)).t.get d = f.t.get d := fun d hdl => by
      have hno : ∀ j, i ≤ j → (ops[j]?).bind (fun x => x.dst) ≠ some d := fun j hj hjd => by
        have he := hd.deps i o j d hin ho hjd hdl
        obtain ⟨o', k1, e, k2, k3, k4⟩ := edgeB_iff.1 he
        have := hd.back i o' e k1 k2 k3
        omega
      have := putsFrom_get (ops := ops) (y :: ys') i f hno
      rwa [hF] at this
    have h3 := e3 (ys0 ++ [y]) (by simp [h0'])
    have e5 : ys0 ++ [y] ++ ys' = ys0 ++ y :: ys' := by simp
    rw [e5] at h3
    refine hh i _ _ _ _ ho hB hlook ?_ (by rw [List.getElem?_append_right (by omega), h0', Nat.sub_self]; rfl) (by rw [List.append_assoc, List.getElem?_append_right (by omega), hB, Nat.sub_self]; rfl) _ h3
    rw [← hBB]; exact adds_more _
  · rw [hF, hBB]; exact e4
theorem like_looks {F : AF} (hl : ∀ d ∈ o.looksAt ops, F.t.get d = f.t.get d) : Like F f o.op.operands.toList := fun x hx => by
  cases x with
  | tmp t => exact hl t (List.mem_append_left _ (List.mem_filterMap.2 ⟨.tmp t, hx, rfl⟩))
  | const v => rfl
  | global g => rfl
  | func F => rfl
theorem guard_looks {F : AF} (hl : ∀ d ∈ o.looksAt ops, F.t.get d = f.t.get d) : guardA ops F o = guardA ops f o := by
  unfold guardA
  cases hg : o.guard with
  | none => rfl
  | some p =>
    obtain ⟨j, want⟩ := p
    simp only
    cases hdj : (ops[j]?).bind (·.dst) with
    | none => rfl
    | some d =>
      simp only
      rw [hl d (List.mem_append_right _ (by rw [hg]; simp [hdj]))]
theorem goesD_off (hn : B.length < n) (hg : guardA ops f o = some false) (hc : GoesD P ops n0 h0 n T l (f.put o.dst (.raw undef)) (B ++ [none])) : GoesD P ops n0 h0 n T (o :: l) f B :=
  goesD_step hn hc fun i F H ys BB ho hi hl hm hy hb l' hr => .heads_off ho ((guard_looks hl).trans hg) hy hb hr
theorem goesD_q {y : AV} (hn : B.length < n) (hg : guardA ops f o = some true) (hq : qop P (h0.adds n0 B) f o = some y) (hc : GoesD P ops n0 h0 n T l (f.put o.dst y) (B ++ [none])) : GoesD P ops n0 h0 n T (o :: l) f B :=
  goesD_step hn hc fun i F H ys BB ho hi hl hm hy hb l' hr => .heads_q ho ((guard_looks hl).trans hg) (qop_more hm ((qop_like (like_looks hl)).trans hq)) hy hb hr
theorem qok_more {H : AH} {F : AF} {y : AV} (hm : More (h0.adds n0 B) H) (hl : ∀ d ∈ o.looksAt ops, F.t.get d = f.t.get d) (hq : QOk P (h0.adds n0 B) f o y) : QOk P H F o y := fun V w f' a hV hA hf hx =>
  hq V w f' a hV (fun r p hb e => hA r p hb (hm r p e)) hf fun x hxo => (hx x hxo).trans (like_looks hl x hxo)
theorem goesD_s {y : AV} (hn : B.length < n) (hg : guardA ops f o = some true) (hq : QOk P (h0.adds n0 B) f o y) (hc : GoesD P ops n0 h0 n T l (f.put o.dst y) (B ++ [none])) : GoesD P ops n0 h0 n T (o :: l) f B :=
  goesD_step hn hc fun i F H ys BB ho hi hl hm hy hb l' hr => .heads_s ho ((guard_looks hl).trans hg) (qok_more hm hl hq) hy hb hr
theorem goesD_b {b : Bool} (hn : B.length < n) (hg : guardA ops f o = some true) (hq : qop P (h0.adds n0 B) f o = some (.raw (.bool b))) (hc : ∀ c, b = c → GoesD P ops n0 h0 n T l (f.put o.dst (.raw (.bool c))) (B ++ [none])) : GoesD P ops n0 h0 n T (o :: l) f B :=
  goesD_q hn hg hq (hc b rfl)
/-- memory made; it may stand for ever at once (m: its length), or not (0) -/
theorem goesD_n {y : Nat → AV} {c : Cells} (m : Nat) (hn : B.length < n) (hg : guardA ops f o = some true) (hq : nop P (h0.adds n0 B) f o = some (y, c)) (hm : m ≤ c.cs.length) (hc : GoesD P ops n0 h0 n T l (f.put o.dst (y (n0 + B.length))) (B ++ [some { c with imm := m }])) : GoesD P ops n0 h0 n T (o :: l) f B :=
  goesD_step hn hc fun i F H ys BB ho hi hl hm' hy hb l' hr => .heads_n ho ((guard_looks hl).trans hg) (nop_more hm' ((nop_like (like_looks hl)).trans hq)) hm (by rw [hy, hi]) hb hr
theorem goesD_call {c : Call} {x : Operand} {fn : Fn} {first cap args args' cap' : List AV} {z : AV} {l0 : List (Nat × Nat)} (hn : B.length < n) (hg : guardA ops f o = some true) (hc : o.op = .call c) (hx : c.callee = .value x) (hf : f.ev x = some (.clo fn first cap)) (ha : f.evs c.args.toList = some args)
    (hs : SnapL (h0.adds n0 B) (first ++ args ++ cap) (args' ++ cap') l0) (hl : (first ++ args).length = args'.length) (hs0 : Sealed (h0.adds n0 B) l0) (hk : Tells P fn args' cap' z) (hr : GoesD P ops n0 h0 n T l (f.put o.dst z) (B ++ [none])) : GoesD P ops n0 h0 n T (o :: l) f B :=
  goesD_step hn hr fun i F H ys BB ho hi hlk hm hy hb l' hr => by
    obtain ⟨y, h', l1, l2, k1, k2, k3⟩ := hk.run
    obtain ⟨e1, e2⟩ := call_like (f := F) (f' := f) (like_looks hlk) hc hx
    exact .heads_call ho ((guard_looks hlk).trans hg) hc hx (e1.trans hf) (e2.trans ha) (snap_more hm hs) hl (sealed_more hm hs hs0) hk.pure k1 k2 k3 hk.out hy hb hr
/-- a region whose order is drawn: the first n in whatever order -/
theorem goes_draw {id : Nat} {h : AH} (n : Nat) (L : List (Nat × Nat)) (hm : P.follows .mixedOrders = true) (hk : drawB ops n f.t.n = true) (hc : GoesD P ops h.next (h.seals L) n (fun f h => GoesL P ops (ops.toList.drop n) f h Q) ops.toList f []) : Goes P (.region id ops true) f h Q := by
  obtain ⟨ys, B, e1, e2, e3, e4⟩ := hc 0 _ (drawB_spec hk) rfl rfl
  have hle := (drawB_spec hk).le
  have h3 := e3 [] rfl
  simp only [List.nil_append] at h3 e4
  have hp : putsFrom ops 0 ys f = f.puts ops ys := rfl
  rw [hp] at h3 e4
  have hyn : ys.length = n := by omega
  obtain ⟨e, f', h', k1, k2⟩ := e4 n rfl
  rw [hyn, ← List.range_eq_range'] at h3
  rw [List.length_drop, Array.length_toList] at k1
  exact ⟨e, f', h', .draw hm hk hyn (by omega) h3 k1, k2⟩
end
end Go.Proofs.YtaoglkkdhdfioaaGreatDoor
namespace Go.Proofs.YtaoglkkdhdfioaaGreatDoor
open Go
section
variable {P : Program} {f : AF} {h : AH} {Q : Ex → AF → AH → Prop}
theorem Goes.mono {c : Code} {Q' : Ex → AF → AH → Prop} (hc : Goes P c f h Q) (hq : ∀ e f' h', Q e f' h' → Q' e f' h') : Goes P c f h Q' := by
  obtain ⟨e, f', h', k1, k2⟩ := hc
  exact ⟨e, f', h', k1, hq _ _ _ k2⟩
/-- nothing is left of what was made on the way -/
def within (h : AH) (L : List Nat) (Q : Ex → AF → AH → Prop) (e : Ex) (f' : AF) (h' : AH) : Prop :=
  (∀ p ∈ (f'.keep L).t.l, Of h.has p.2) ∧ (∀ m ∈ f'.marks, h.has m) ∧ (∀ v, e = .pan v → Of h.has v) ∧ (∀ p ∈ (h'.cut h).blk, OfB h.has p.2) ∧ Q e (f'.keep L) (h'.cut h)
theorem look_mem {i : Nat} {y : AV} : ∀ {l : List (Nat × AV)}, Slots.look l i = some y → (i, y) ∈ l
  | [], e => by simp [Slots.look] at e
  | (s, p) :: l, e => by
    simp only [Slots.look] at e
    split at e
    · rename_i hs; subst hs; injection e with e; subst e; exact List.mem_cons_self ..
    · exact List.mem_cons_of_mem _ (look_mem e)
theorem goes_scope {c : Code} (L : List Nat) (hc : Goes P c f h (within h L Q)) : Goes P c f h Q := by
  obtain ⟨e, f', h', k1, k2, k3, k4, k5, k6⟩ := hc
  exact ⟨e, f'.keep L, h'.cut h, .scope k1 rfl (fun i y hy => ⟨look_filter L _ i y hy, k2 _ (look_mem hy)⟩) rfl k3 rfl k4 k5, k6⟩
/-- a loop: rounds that come closer to the end -/
def rounds (I : Nat → AF → AH → Prop) (k : Nat) (Q : Ex → AF → AH → Prop) : Ex → AF → AH → Prop
  | .normal, f, h => ∃ j, j < k ∧ I j f h
  | e, f, h => Q e f h
theorem goes_loop {c : Code} (I : Nat → AF → AH → Prop) (step : ∀ k f h, I k f h → Goes P c f h (rounds I k Q)) : ∀ (k : Nat) (f : AF) (h : AH), I k f h → Goes P (.loop c) f h Q := by
  have go : ∀ (k : Nat) (f : AF) (h : AH), I k f h → ∃ n e f' h', Run P (.iter c n f h) (.code e f' h') ∧ Q e f' h' := by
    intro k
    induction k using Nat.strongRecOn with
    | ind k ih =>
      intro f h hI
      obtain ⟨e, f', h', k1, k2⟩ := step k f h hI
      cases e with
      | normal =>
        obtain ⟨j, hj, hI'⟩ := k2
        obtain ⟨n, e2, f2, h2, j1, j2⟩ := ih j hj f' h' hI'
        exact ⟨n + 1, e2, f2, h2, .more k1 j1, j2⟩
      | exit id => exact ⟨0, _, _, _, .last k1 (by simp), k2⟩
      | ret => exact ⟨0, _, _, _, .last k1 (by simp), k2⟩
      | pan v => exact ⟨0, _, _, _, .last k1 (by simp), k2⟩
  intro k f h hI
  obtain ⟨n, e, f', h', k1, k2⟩ := go k f h hI
  exact ⟨e, f', h', .loop k1, k2⟩
theorem goesL_to {ops : Array Oper} {o : Oper} {l : List Oper} {y y' : AV} (hg : guardA ops f o = some true) (hy : qop P h f o = some y) (he : y = y') (hc : GoesL P ops l (f.put o.dst y') h Q) : GoesL P ops (o :: l) f h Q :=
  goesL_q hg (he ▸ hy) hc
theorem qop_index {o : Oper} {t el : TypeId} {x i : Operand} {sz n : Nat} {k : IntKind} {es : List AV} {e : AV} (ho : o.op = .indexAddr t x i) (hgo : gop P f o = none) (hu : P.underlying t = some (.slice el)) (hs : szOf P el = some sz) (hi : f.ev i = some (.raw (.int k (n : Int)))) (hx : f.ev x = some (.vals sz es)) (he : es[n]? = some e) : qop P h f o = some (.vptr e.cells) := by
  have hr : rop P h f o = some (.vptr e.cells) := by
    simp only [rop, ho, rIndexAddr, hu, hi, hs, hx]
    rw [if_pos ⟨Int.natCast_nonneg n, trivial⟩]
    simp [he]
  have hm : mvop P f o = none := by simp only [mvop, ho]
  simp only [qop, hm, qold, hgo, hr]
/-- an operation on values of no memory: what the model's own operation tells of them -/
theorem qok_rop {o : Oper} {y : AV} (hr : rop P h f o = some y) : QOk P h f o y := fun V w f' a hV hA hf hx => rop_ok hV hA hf ((rop_like (f := f') (f' := f) hx).trans hr)
theorem qok_raw {o : Oper} {v : Value} (hs : Op.isSelect o.op = false) (hall : ∀ x ∈ o.op.operands.toList, ((f.ev x).bind AV.toV).isSome = true) (hr : ∀ w, (execOp f.rawAt o).run P w = .ok (.value v) w) : QOk P h f o (ofV v) := fun V w f' a hV hA hf hx => by
  have hc : execOp a.eval o = execOp f.rawAt o := by
    refine execOp_congr o (fun cs b e => by rw [e] at hs; simp [Op.isSelect] at hs) fun x hxo => ?_
    have := hall x (by simpa using hxo)
    unfold AF.rawAt
    have e := hx x (by simpa using hxo)
    cases h1 : f.ev x with
    | none => simp [h1] at this
    | some z =>
      cases h2 : z.toV with
      | none => simp [h1, h2] at this
      | some u => simpa [h2] using toV_den h2 (hf.ev (e.trans h1))
  exact ⟨v, by rw [hc]; exact hr w, den_ofV V w v⟩
theorem qok_bin {o : Oper} {op : BinOp} {t u : TypeId} {x y : Operand} {A B v : Value} (ho : o.op = .binOp op t x y u) (hx : (f.ev x).bind AV.toV = some A) (hy : (f.ev y).bind AV.toV = some B) (hr : ∀ w, (do eqGuard op t x y A B; binOp op t A B : Sem Value).run P w = .ok v w) : QOk P h f o (ofV v) := by
  refine qok_raw (by rw [ho]; rfl) (fun z hz => ?_) fun w => ?_
  · rw [ho] at hz
    simp [Op.operands] at hz
    rcases hz with rfl | rfl
    · rw [hx]; rfl
    · rw [hy]; rfl
  · have e1 : f.rawAt x = A := by simp only [AF.rawAt, hx, Option.getD_some]
    have e2 : f.rawAt y = B := by simp only [AF.rawAt, hy, Option.getD_some]
    unfold execOp
    rw [ho]
    show (Sem.bind (do eqGuard op t x y (f.rawAt x) (f.rawAt y); binOp op t (f.rawAt x) (f.rawAt y) : Sem Value) (fun x => Sem.pure (Next.value x))).run P w = _
    rw [e1, e2]
    exact (Sem.run_bind ..).trans (by rw [hr w]; rfl)
theorem goesL_index {ops : Array Oper} {o : Oper} {l : List Oper} {t el : TypeId} {x i : Operand} {sz n : Nat} {k : IntKind} {es : List AV} {e : AV} (hg : guardA ops f o = some true) (ho : o.op = .indexAddr t x i) (hgo : gop P f o = none) (hu : P.underlying t = some (.slice el)) (hs : szOf P el = some sz)
    (hi : f.ev i = some (.raw (.int k (n : Int)))) (hx : f.ev x = some (.vals sz es)) (he : es[n]? = some e) (hc : GoesL P ops l (f.put o.dst (.vptr e.cells)) h Q) : GoesL P ops (o :: l) f h Q :=
  goesL_q hg (qop_index ho hgo hu hs hi hx he) hc
theorem qop_indexA {o : Oper} {t el : TypeId} {x i : Operand} {len sz : Nat} {n : Int} {k : IntKind} {cs : List AV} (ho : o.op = .indexAddr t x i) (hgo : gop P f o = none) (hu : P.underlying t = some (.array len el)) (hs : szOf P el = some sz) (hi : f.ev i = some (.raw (.int k n))) (hx : f.ev x = some (.vptr cs)) (h0 : 0 ≤ n) (h1 : n < len) : qop P h f o = some (.vptr (cs.drop (n.toNat * sz))) := by
  have hr : rop P h f o = some (.vptr (cs.drop (n.toNat * sz))) := by
    simp only [rop, ho, rIndexAddr, hu, hi, hs, hx]
    rw [if_pos ⟨h0, h1⟩]
  have hm : mvop P f o = none := by simp only [mvop, ho]
  simp only [qop, hm, qold, hgo, hr]
theorem qop_load1 {o : Oper} {t : TypeId} {x : Operand} {cs : List AV} {b : AV} (ho : o.op = .load t x) (hgo : gop P f o = none) (ht : isAggB P t = some false) (hx : f.ev x = some (.vptr cs)) (hc : cs[0]? = some b) (hb : b.one = true) : qop P h f o = some b := by
  have hr : rop P h f o = some b := by simp only [rop, ho, rLoad, hx, partA, ht, hc, hb, if_true]
  have hm : mvop P f o = none := by simp only [mvop, ho]
  simp only [qop, hm, qold, hgo, hr]
/-- a row of values appended to nothing: new memory -/
theorem nop_append {o : Oper} {c : Call} {s x : Operand} {ts tx e e' : TypeId} {i : TypeInfo} {z : Value} {es : List AV} (ho : o.op = .call c) (hc : c.callee = .builtin .append) (ha : c.args.toList = [s, x]) (ht : c.argTypes.toList = [ts, tx]) (hu : P.underlying ts = some (.slice e)) (hk : P.underlying tx = some (.slice e'))
    (hi : P.info? e = some i) (hz : i.zero = some z) (hzs : z.cells.size = i.size) (hb : i.bytes ≤ 1024) (hx : f.ev x = some (.vals i.size es)) (hs : f.ev s = some (.raw (.slice none 0 0))) (hn : 0 < es.length) (hm : es.length ≤ tops) (hone : ∀ e ∈ es, ∀ a ∈ e.cells, a.one = true) :
    nop P h f o = some (fun r => .row r 0 0 es.length, ⟨0, e, i.size, 0, es.flatMap AV.cells⟩) := by
  obtain ⟨n, hn'⟩ : ∃ n, es.length = n + 1 := ⟨es.length - 1, by omega⟩
  have hall : (es.flatMap AV.cells).all AV.one = true := List.all_eq_true.2 fun a ha => by
    obtain ⟨e, he, hae⟩ := List.mem_flatMap.1 ha
    exact hone e he a hae
  have hsrc : srcA h f i.size x = some (n + 1, es.flatMap AV.cells) := by simp only [srcA, hx, if_true, hn']
  simp only [nop, ho, hc, ha, ht, nAppend, hu, hk, hi, hz, hsrc, hs]
  rw [if_pos ⟨hall, hzs, hb, by omega⟩, hn']
theorem goesD_index {ops : Array Oper} {n0 n : Nat} {h0 : AH} {T : AF → AH → Prop} {B : List (Option Cells)} {o : Oper} {l : List Oper} {t el : TypeId} {x i : Operand} {sz m : Nat} {k : IntKind} {es : List AV} {e : AV} (hn : B.length < n) (hg : guardA ops f o = some true) (ho : o.op = .indexAddr t x i) (hgo : gop P f o = none) (hu : P.underlying t = some (.slice el)) (hs : szOf P el = some sz)
    (hi : f.ev i = some (.raw (.int k (m : Int)))) (hx : f.ev x = some (.vals sz es)) (he : es[m]? = some e) (hc : GoesD P ops n0 h0 n T l (f.put o.dst (.vptr e.cells)) (B ++ [none])) : GoesD P ops n0 h0 n T (o :: l) f B :=
  goesD_q hn hg (qop_index ho hgo hu hs hi hx he) hc
theorem goesD_to {ops : Array Oper} {n0 n : Nat} {h0 : AH} {T : AF → AH → Prop} {B : List (Option Cells)} {o : Oper} {l : List Oper} {y y' : AV} (hn : B.length < n) (hg : guardA ops f o = some true) (hy : qop P (h0.adds n0 B) f o = some y) (he : y = y') (hc : GoesD P ops n0 h0 n T l (f.put o.dst y') (B ++ [none])) : GoesD P ops n0 h0 n T (o :: l) f B :=
  goesD_q hn hg (he ▸ hy) hc
/-- a call of pure values -/
theorem goesD_tells {ops : Array Oper} {n0 n : Nat} {h0 : AH} {T : AF → AH → Prop} {B : List (Option Cells)} {o : Oper} {l : List Oper} {c : Call} {x : Operand} {fn : Fn} {first cap args args' cap' : List AV} {z : AV} (hk : Tells P fn args' cap' z) (hn : B.length < n) (hg : guardA ops f o = some true) (hc : o.op = .call c) (hx : c.callee = .value x)
    (hf : f.ev x = some (.clo fn first cap)) (ha : f.evs c.args.toList = some args) (he : first ++ args ++ cap = args' ++ cap') (hl : (first ++ args).length = args'.length) (hr : GoesD P ops n0 h0 n T l (f.put o.dst z) (B ++ [none])) : GoesD P ops n0 h0 n T (o :: l) f B :=
  goesD_call (l0 := []) hn hg hc hx hf ha (by rw [he]; exact snap_pure hk.pure) hl (fun p hp => nomatch hp) hk hr
theorem goesL_tells {ops : Array Oper} {o : Oper} {l : List Oper} {c : Call} {x : Operand} {fn : Fn} {first cap args args' : List AV} {z : AV} (hk : Tells P fn args' cap z) (hg : guardA ops f o = some true) (hc : o.op = .call c) (hx : c.callee = .value x)
    (hf : f.ev x = some (.clo fn first cap)) (ha : f.evs c.args.toList = some args) (he : first ++ args = args') (hr : GoesL P ops l (f.put o.dst z) h Q) : GoesL P ops (o :: l) f h Q :=
  goesL_call hg hc hx hf ha (he ▸ hk.gives hr)
end
end Go.Proofs.YtaoglkkdhdfioaaGreatDoor
