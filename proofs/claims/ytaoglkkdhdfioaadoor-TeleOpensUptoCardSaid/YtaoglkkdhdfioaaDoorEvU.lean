/- Loops, scopes, rows by number. -/
import Derived.Test.YtaoglkkdhdfioaaDoorEvR
namespace Go.Proofs.YtaoglkkdhdfioaaDoor
open Go
section
variable {P : Program} {f : AF} {h : AH} {Q : Ex → AF → AH → Prop}
theorem Goes.mono {c : Code} {Q' : Ex → AF → AH → Prop} (hc : Goes P c f h Q) (hq : ∀ e f' h', Q e f' h' → Q' e f' h') : Goes P c f h Q' := by
  obtain ⟨e, f', h', k1, k2⟩ := hc
  exact ⟨e, f', h', k1, hq _ _ _ k2⟩
/-- nothing is left of what was made on the way -/
def within (h : AH) (L : List Nat) (Q : Ex → AF → AH → Prop) (e : Ex) (f' : AF) (h' : AH) : Prop :=
  (∀ p ∈ (f'.keep L).t.l, Of h.has p.2) ∧ (∀ m ∈ f'.marks, h.has m) ∧ (∀ v, e = .pan v → Of h.has v) ∧ (∀ p ∈ (h'.cut h).blk, OfB h.has p.2) ∧ Q e (f'.keep L) (h'.cut h)
theorem look_mem {i : Nat} {y : AV} : ∀ {l : List (Nat × AV)}, Slots.look l i = some y → (i, y) ∈ l
  | [], e => by simp [Slots.look] at e
  | (s, p) :: l, e => by
    simp only [Slots.look] at e
    split at e
    · rename_i hs; subst hs; injection e with e; subst e; exact List.mem_cons_self ..
    · exact List.mem_cons_of_mem _ (look_mem e)
theorem goes_scope {c : Code} (L : List Nat) (hc : Goes P c f h (within h L Q)) : Goes P c f h Q := by
  obtain ⟨e, f', h', k1, k2, k3, k4, k5, k6⟩ := hc
  exact ⟨e, f'.keep L, h'.cut h, .scope k1 rfl (fun i y hy => ⟨look_filter L _ i y hy, k2 _ (look_mem hy)⟩) rfl k3 rfl k4 k5, k6⟩
/-- a loop: rounds that come closer to the end -/
def rounds (I : Nat → AF → AH → Prop) (k : Nat) (Q : Ex → AF → AH → Prop) : Ex → AF → AH → Prop
  | .normal, f, h => ∃ j, j < k ∧ I j f h
  | e, f, h => Q e f h
theorem goes_loop {c : Code} (I : Nat → AF → AH → Prop) (step : ∀ k f h, I k f h → Goes P c f h (rounds I k Q)) : ∀ (k : Nat) (f : AF) (h : AH), I k f h → Goes P (.loop c) f h Q := by
  have go : ∀ (k : Nat) (f : AF) (h : AH), I k f h → ∃ n e f' h', Run P (.iter c n f h) (.code e f' h') ∧ Q e f' h' := by
    intro k
    induction k using Nat.strongRecOn with
    | ind k ih =>
      intro f h hI
      obtain ⟨e, f', h', k1, k2⟩ := step k f h hI
      cases e with
      | normal =>
        obtain ⟨j, hj, hI'⟩ := k2
        obtain ⟨n, e2, f2, h2, j1, j2⟩ := ih j hj f' h' hI'
        exact ⟨n + 1, e2, f2, h2, .more k1 j1, j2⟩
      | exit id => exact ⟨0, _, _, _, .last k1 (by simp), k2⟩
      | ret => exact ⟨0, _, _, _, .last k1 (by simp), k2⟩
      | pan v => exact ⟨0, _, _, _, .last k1 (by simp), k2⟩
  intro k f h hI
  obtain ⟨n, e, f', h', k1, k2⟩ := go k f h hI
  exact ⟨e, f', h', .loop k1, k2⟩
theorem goesL_to {ops : Array Oper} {o : Oper} {l : List Oper} {y y' : AV} (hg : guardA ops f o = some true) (hy : qop P h f o = some y) (he : y = y') (hc : GoesL P ops l (f.put o.dst y') h Q) : GoesL P ops (o :: l) f h Q :=
  goesL_q hg (he ▸ hy) hc
theorem qop_index {o : Oper} {t el : TypeId} {x i : Operand} {sz n : Nat} {k : IntKind} {es : List AV} {e : AV} (ho : o.op = .indexAddr t x i) (hgo : gop P f o = none) (hu : P.underlying t = some (.slice el)) (hs : szOf P el = some sz) (hi : f.ev i = some (.raw (.int k (n : Int)))) (hx : f.ev x = some (.vals sz es)) (he : es[n]? = some e) : qop P h f o = some (.vptr e.cells) := by
  have hr : rop P h f o = some (.vptr e.cells) := by
    simp only [rop, ho, rIndexAddr, hu, hi, hs, hx]
    rw [if_pos ⟨Int.natCast_nonneg n, trivial⟩]
    simp [he]
  have hm : mvop P f o = none := by simp only [mvop, ho]
  simp only [qop, hm, qold, hgo, hr]
/-- an operation on values of no memory: what the model's own operation tells of them -/
theorem qok_rop {o : Oper} {y : AV} (hr : rop P h f o = some y) : QOk P h f o y := fun V w f' a hV hA hf hx => rop_ok hV hA hf ((rop_like (f := f') (f' := f) hx).trans hr)
theorem qok_raw {o : Oper} {v : Value} (hs : Op.isSelect o.op = false) (hall : ∀ x ∈ o.op.operands.toList, ((f.ev x).bind AV.toV).isSome = true) (hr : ∀ w, (execOp f.rawAt o).run P w = .ok (.value v) w) : QOk P h f o (ofV v) := fun V w f' a hV hA hf hx => by
  have hc : execOp a.eval o = execOp f.rawAt o := by
    refine execOp_congr o (fun cs b e => by rw [e] at hs; simp [Op.isSelect] at hs) fun x hxo => ?_
    have := hall x (by simpa using hxo)
    unfold AF.rawAt
    have e := hx x (by simpa using hxo)
    cases h1 : f.ev x with
    | none => simp [h1] at this
    | some z =>
      cases h2 : z.toV with
      | none => simp [h1, h2] at this
      | some u => simpa [h2] using toV_den h2 (hf.ev (e.trans h1))
  exact ⟨v, by rw [hc]; exact hr w, den_ofV V w v⟩
theorem qok_bin {o : Oper} {op : BinOp} {t u : TypeId} {x y : Operand} {A B v : Value} (ho : o.op = .binOp op t x y u) (hx : (f.ev x).bind AV.toV = some A) (hy : (f.ev y).bind AV.toV = some B) (hr : ∀ w, (do eqGuard op t x y A B; binOp op t A B : Sem Value).run P w = .ok v w) : QOk P h f o (ofV v) := by
  refine qok_raw (by rw [ho]; rfl) (fun z hz => ?_) fun w => ?_
  · rw [ho] at hz
    simp [Op.operands] at hz
    rcases hz with rfl | rfl
    · rw [hx]; rfl
    · rw [hy]; rfl
  · have e1 : f.rawAt x = A := by simp only [AF.rawAt, hx, Option.getD_some]
    have e2 : f.rawAt y = B := by simp only [AF.rawAt, hy, Option.getD_some]
    unfold execOp
    rw [ho]
    show (Sem.bind (do eqGuard op t x y (f.rawAt x) (f.rawAt y); binOp op t (f.rawAt x) (f.rawAt y) : Sem Value) (fun x => Sem.pure (Next.value x))).run P w = _
    rw [e1, e2]
    exact (Sem.run_bind ..).trans (by rw [hr w]; rfl)
theorem goesL_index {ops : Array Oper} {o : Oper} {l : List Oper} {t el : TypeId} {x i : Operand} {sz n : Nat} {k : IntKind} {es : List AV} {e : AV} (hg : guardA ops f o = some true) (ho : o.op = .indexAddr t x i) (hgo : gop P f o = none) (hu : P.underlying t = some (.slice el)) (hs : szOf P el = some sz)
    (hi : f.ev i = some (.raw (.int k (n : Int)))) (hx : f.ev x = some (.vals sz es)) (he : es[n]? = some e) (hc : GoesL P ops l (f.put o.dst (.vptr e.cells)) h Q) : GoesL P ops (o :: l) f h Q :=
  goesL_q hg (qop_index ho hgo hu hs hi hx he) hc
theorem qop_indexA {o : Oper} {t el : TypeId} {x i : Operand} {len sz : Nat} {n : Int} {k : IntKind} {cs : List AV} (ho : o.op = .indexAddr t x i) (hgo : gop P f o = none) (hu : P.underlying t = some (.array len el)) (hs : szOf P el = some sz) (hi : f.ev i = some (.raw (.int k n))) (hx : f.ev x = some (.vptr cs)) (h0 : 0 ≤ n) (h1 : n < len) : qop P h f o = some (.vptr (cs.drop (n.toNat * sz))) := by
  have hr : rop P h f o = some (.vptr (cs.drop (n.toNat * sz))) := by
    simp only [rop, ho, rIndexAddr, hu, hi, hs, hx]
    rw [if_pos ⟨h0, h1⟩]
  have hm : mvop P f o = none := by simp only [mvop, ho]
  simp only [qop, hm, qold, hgo, hr]
theorem qop_load1 {o : Oper} {t : TypeId} {x : Operand} {cs : List AV} {b : AV} (ho : o.op = .load t x) (hgo : gop P f o = none) (ht : isAggB P t = some false) (hx : f.ev x = some (.vptr cs)) (hc : cs[0]? = some b) (hb : b.one = true) : qop P h f o = some b := by
  have hr : rop P h f o = some b := by simp only [rop, ho, rLoad, hx, partA, ht, hc, hb, if_true]
  have hm : mvop P f o = none := by simp only [mvop, ho]
  simp only [qop, hm, qold, hgo, hr]
/-- a row of values appended to nothing: new memory -/
theorem nop_append {o : Oper} {c : Call} {s x : Operand} {ts tx e e' : TypeId} {i : TypeInfo} {z : Value} {es : List AV} (ho : o.op = .call c) (hc : c.callee = .builtin .append) (ha : c.args.toList = [s, x]) (ht : c.argTypes.toList = [ts, tx]) (hu : P.underlying ts = some (.slice e)) (hk : P.underlying tx = some (.slice e'))
    (hi : P.info? e = some i) (hz : i.zero = some z) (hzs : z.cells.size = i.size) (hb : i.bytes ≤ 1024) (hx : f.ev x = some (.vals i.size es)) (hs : f.ev s = some (.raw (.slice none 0 0))) (hn : 0 < es.length) (hm : es.length ≤ tops) (hone : ∀ e ∈ es, ∀ a ∈ e.cells, a.one = true) :
    nop P h f o = some (fun r => .row r 0 0 es.length, ⟨0, e, i.size, 0, es.flatMap AV.cells⟩) := by
  obtain ⟨n, hn'⟩ : ∃ n, es.length = n + 1 := ⟨es.length - 1, by omega⟩
  have hall : (es.flatMap AV.cells).all AV.one = true := List.all_eq_true.2 fun a ha => by
    obtain ⟨e, he, hae⟩ := List.mem_flatMap.1 ha
    exact hone e he a hae
  have hsrc : srcA h f i.size x = some (n + 1, es.flatMap AV.cells) := by simp only [srcA, hx, if_true, hn']
  simp only [nop, ho, hc, ha, ht, nAppend, hu, hk, hi, hz, hsrc, hs]
  rw [if_pos ⟨hall, hzs, hb, by omega⟩, hn']
theorem goesD_index {ops : Array Oper} {n0 n : Nat} {h0 : AH} {T : AF → AH → Prop} {B : List (Option Cells)} {o : Oper} {l : List Oper} {t el : TypeId} {x i : Operand} {sz m : Nat} {k : IntKind} {es : List AV} {e : AV} (hn : B.length < n) (hg : guardA ops f o = some true) (ho : o.op = .indexAddr t x i) (hgo : gop P f o = none) (hu : P.underlying t = some (.slice el)) (hs : szOf P el = some sz)
    (hi : f.ev i = some (.raw (.int k (m : Int)))) (hx : f.ev x = some (.vals sz es)) (he : es[m]? = some e) (hc : GoesD P ops n0 h0 n T l (f.put o.dst (.vptr e.cells)) (B ++ [none])) : GoesD P ops n0 h0 n T (o :: l) f B :=
  goesD_q hn hg (qop_index ho hgo hu hs hi hx he) hc
theorem goesD_to {ops : Array Oper} {n0 n : Nat} {h0 : AH} {T : AF → AH → Prop} {B : List (Option Cells)} {o : Oper} {l : List Oper} {y y' : AV} (hn : B.length < n) (hg : guardA ops f o = some true) (hy : qop P (h0.adds n0 B) f o = some y) (he : y = y') (hc : GoesD P ops n0 h0 n T l (f.put o.dst y') (B ++ [none])) : GoesD P ops n0 h0 n T (o :: l) f B :=
  goesD_q hn hg (he ▸ hy) hc
/-- a call of pure values -/
theorem goesD_tells {ops : Array Oper} {n0 n : Nat} {h0 : AH} {T : AF → AH → Prop} {B : List (Option Cells)} {o : Oper} {l : List Oper} {c : Call} {x : Operand} {fn : Fn} {first cap args args' cap' : List AV} {z : AV} (hk : Tells P fn args' cap' z) (hn : B.length < n) (hg : guardA ops f o = some true) (hc : o.op = .call c) (hx : c.callee = .value x)
    (hf : f.ev x = some (.clo fn first cap)) (ha : f.evs c.args.toList = some args) (he : first ++ args ++ cap = args' ++ cap') (hl : (first ++ args).length = args'.length) (hr : GoesD P ops n0 h0 n T l (f.put o.dst z) (B ++ [none])) : GoesD P ops n0 h0 n T (o :: l) f B :=
  goesD_call (l0 := []) hn hg hc hx hf ha (by rw [he]; exact snap_pure hk.pure) hl (fun p hp => nomatch hp) hk hr
theorem goesL_tells {ops : Array Oper} {o : Oper} {l : List Oper} {c : Call} {x : Operand} {fn : Fn} {first cap args args' : List AV} {z : AV} (hk : Tells P fn args' cap z) (hg : guardA ops f o = some true) (hc : o.op = .call c) (hx : c.callee = .value x)
    (hf : f.ev x = some (.clo fn first cap)) (ha : f.evs c.args.toList = some args) (he : first ++ args = args') (hr : GoesL P ops l (f.put o.dst z) h Q) : GoesL P ops (o :: l) f h Q :=
  goesL_call hg hc hx hf ha (he ▸ hk.gives hr)
end
end Go.Proofs.YtaoglkkdhdfioaaDoor
