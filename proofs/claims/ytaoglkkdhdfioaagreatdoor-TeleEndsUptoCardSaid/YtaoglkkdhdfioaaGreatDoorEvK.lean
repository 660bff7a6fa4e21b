/- That the model runs so: operations, code. -/
/- That the model runs so: calls. -/
/- An operation sees its operands alone. -/
import Derived.Test.YtaoglkkdhdfioaaGreatDoorEvH
namespace Go.Proofs.YtaoglkkdhdfioaaGreatDoor
open Go
section
variable {P : Program} {h h' : AH} {V : Mem} {res : Nat → Nat → Prop} {g q : Nat → Nat} {w : World} {f f' : AF} {a : Act}
theorem no_defer {ρ : Operand → Value} {o : Oper} {x : Next} {w w' : World} (h : (execOp ρ o).run P w = .ok x w') (hx : ∀ d, x ≠ .defer d) : ∀ c, o.op ≠ .defer c := by
  intro c hc
  unfold execOp at h
  simp only [hc, Sem.run_bind] at h
  cases hr : (resolve ρ c o.type).run P w with
  | ok d w1 =>
    rw [hr] at h
    simp at h
    exact hx d h.1.symm
  | halt hh w1 => rw [hr] at h; cases h
theorem about_ok {F : Fence} (hF : FOk F) (o : Oper) : ∀ f, o.about P w a.eval = some f → F.fn f := fun f _ => hF.fn f
theorem ops_val {F : Fence} {n : Nat} {ops : Array Oper} {i : Nat} {l : List Nat} {o : Oper} {Q : Exit → Act → World → Prop} {v : Value} {w' : World} (hF : FOk F) (ho : ops[i]? = some o) (hw : Region.wanted o (yielded ops a.tmps) = true)
    (hr : (execOp a.eval o).run P w = .ok (.value v) w' ∨ (execOp a.eval o).run P w = .ok .skip w' ∧ v = undef) (hk : wpOpsIn F n P ops Q l (a.put o.dst v) w') : wpOpsIn F n P ops Q (i :: l) a w := by
  simp only [wpOpsIn, ho, hw, if_true]
  refine ⟨about_ok hF o, ?_⟩
  rcases hr with hr | ⟨hr, rfl⟩
  · rw [Oper.semAt_eq _ _ _ (no_defer hr (fun d e => by cases e)), hr]
    exact hk
  · rw [Oper.semAt_eq _ _ _ (no_defer hr (fun d e => by cases e)), hr]
    exact hk
theorem ops_mono {F : Fence} {n : Nat} {ops : Array Oper} {Q Q' : Exit → Act → World → Prop} (hq : ∀ e a w, Q e a w → Q' e a w) : ∀ {l : List Nat} {a : Act} {w : World}, wpOpsIn F n P ops Q l a w → wpOpsIn F n P ops Q' l a w
  | [], a, w, h => hq _ _ _ h
  | i :: l, a, w, h => by
    simp only [wpOpsIn] at h ⊢
    cases ho : ops[i]? with
    | none => simp only [ho] at h ⊢; exact ops_mono hq h
    | some o =>
      simp only [ho] at h ⊢
      split
      · rename_i hw
        rw [if_pos hw] at h
        unfold Oper.wpIn at h ⊢
        refine ⟨h.1, ?_⟩
        have h := h.2
        generalize (o.semAt F.round a.eval).run P w = r at *
        cases r with
        | ok x w' =>
          cases x <;> simp only [Oper.uponIn] at h ⊢
          case value v => exact ops_mono hq h
          case skip => exact ops_mono hq h
          case defer d => exact ops_mono hq h
          case enter f args => exact ⟨h.1, CallsIn.mono h.2 fun e w'' he => by
            cases e with
            | returned v => exact ops_mono hq he
            | panicked c => exact hq _ _ _ he
            | outgrown => obtain ⟨a0, w0, h0⟩ := he; exact ⟨a0, w0, hq _ _ _ h0⟩⟩
          case row row args => exact ⟨h.1, RowsIn.mono h.2 fun _ _ he => ops_mono hq he⟩
          case round l' f' tmps' as' body' => exact ⟨h.1, RoundIn.mono h.2 fun e w'' he => by
            cases e with
            | returned v => exact ops_mono hq he
            | panicked c => exact hq _ _ _ he
            | outgrown => obtain ⟨a0, w0, h0⟩ := he; exact ⟨a0, w0, hq _ _ _ h0⟩⟩
        | halt x w' => cases x <;> simp only [Oper.uponIn] at h ⊢ <;> exact hq _ _ _ h
      · rename_i hw
        rw [if_neg hw] at h
        exact ⟨h.1, ops_mono hq h.2⟩
theorem codePost.up {V1 : Mem} {w1 w2 : World} {h2 h3 : AH} {e : Ex} {f' : AF} (ht : To V1 w1 (h2.mem res g q) w2) {e1 : Exit} {a1 : Act} {w3 : World} (k : codePost (h2.mem res g q) w2 h3 res e f' e1 a1 w3) : codePost V1 w1 h3 res e f' e1 a1 w3 := Post.trans ht k
theorem sound_off {ops : Array Oper} {i : Nat} {l : List Nat} {o : Oper} {out : Out} (ho : ops[i]? = some o) (hg : guardA ops f o = some false) (ih : Sound P (.ops ops l (f.put o.dst (.raw undef)) h) out) : Sound P (.ops ops (i :: l) f h) out := by
  cases out with
  | call r h' => exact ih
  | code e f' h' =>
    refine ⟨ih.1.trans (put_rnd ..), fun F n res g q a w hF hR hV hf => ?_⟩
    simp only [wpOpsIn, ho, guard_ok hf hg, Bool.false_eq_true, if_false]
    exact ⟨about_ok hF o, ih.2 F n res g q _ w hF (hR.fwd (Fwd.refl _ w) (put_rnd ..)) hV (hf.put (.raw _))⟩
theorem sound_q {ops : Array Oper} {i : Nat} {l : List Nat} {o : Oper} {out : Out} {y : AV} (ho : ops[i]? = some o) (hg : guardA ops f o = some true) (hy : qop P h f o = some y) (ih : Sound P (.ops ops l (f.put o.dst y) h) out) : Sound P (.ops ops (i :: l) f h) out := by
  cases out with
  | call r h' => exact ih
  | code e f' h' =>
    refine ⟨ih.1.trans (put_rnd ..), fun F n res g q a w hF hR hV hf => ?_⟩
    obtain ⟨v, h1, h2⟩ := qop_ok hV (Agr.mem _ _ _ _) hf hy
    exact ops_val hF ho (guard_ok hf hg) (.inl h1) (ih.2 F n res g q _ w hF (hR.fwd (Fwd.refl _ w) (put_rnd ..)) hV (hf.put h2))
theorem sound_s {ops : Array Oper} {i : Nat} {l : List Nat} {o : Oper} {out : Out} {y : AV} (ho : ops[i]? = some o) (hg : guardA ops f o = some true) (hy : QOk P h f o y) (ih : Sound P (.ops ops l (f.put o.dst y) h) out) : Sound P (.ops ops (i :: l) f h) out := by
  cases out with
  | call r h' => exact ih
  | code e f' h' =>
    refine ⟨ih.1.trans (put_rnd ..), fun F n res g q a w hF hR hV hf => ?_⟩
    obtain ⟨v, h1, h2⟩ := hy _ w f a hV (Agr.mem _ _ _ _) hf fun _ _ => rfl
    exact ops_val hF ho (guard_ok hf hg) (.inl h1) (ih.2 F n res g q _ w hF (hR.fwd (Fwd.refl _ w) (put_rnd ..)) hV (hf.put h2))
theorem sound_n {ops : Array Oper} {i : Nat} {l : List Nat} {o : Oper} {out : Out} {y : Nat → AV} {c : Cells} (ho : ops[i]? = some o) (hg : guardA ops f o = some true) (hy : nop P h f o = some (y, c)) (ih : Sound P (.ops ops l (f.put o.dst (y h.next)) (h.new (.cells c))) out) : Sound P (.ops ops (i :: l) f h) out := by
  cases out with
  | call r h' => exact ih
  | code e f' h' =>
    refine ⟨ih.1.trans (put_rnd ..), fun F n res g q a w hF hR hV hf => ?_⟩
    obtain ⟨v, w', h1, h2⟩ := nop_ok hV (Agr.mem _ _ _ _) hf hy
    obtain ⟨m, h3, h4⟩ := h2.to hV (not_born (h := h) (res := res) (g := g) (q := q)) h2.imm
    have h3 : To (h.mem res g q) w ((h.mem res g q).upd h.next (some (.cells c)) w.heap.size m) w' := h3
    have h4 : Den ((h.mem res g q).upd h.next (some (.cells c)) w.heap.size m) w' v (y h.next) := h4
    rw [← AH.mem_new] at h3 h4
    refine ops_val hF ho (guard_ok hf hg) (.inl h1) (ops_mono (fun e1 a1 w1 k => codePost.up h3 k) (ih.2 F n res _ _ _ w' hF (hR.fwd h3.fwd (put_rnd ..)) h3.rel ((hf.fwd h3.fwd).put h4)))
theorem sound_m {ops : Array Oper} {i : Nat} {l : List Nat} {o : Oper} {out : Out} {y : AV} (ho : ops[i]? = some o) (hg : guardA ops f o = some true) (hy : mop P h f o = some (y, h')) (ih : Sound P (.ops ops l (f.put o.dst y) h') out) : Sound P (.ops ops (i :: l) f h) out := by
  cases out with
  | call r h' => exact ih
  | code e f' h'' =>
    refine ⟨ih.1.trans (put_rnd ..), fun F n res g q a w hF hR hV hf => ?_⟩
    obtain ⟨v, w', g', q', h1, h3, h4⟩ := mop_ok hV hf hy
    exact ops_val hF ho (guard_ok hf hg) h1 (ops_mono (fun e1 a1 w1 k => codePost.up h3 k) (ih.2 F n res _ _ _ w' hF (hR.fwd h3.fwd (put_rnd ..)) h3.rel ((hf.fwd h3.fwd).put h4)))
theorem exec_call {o : Oper} {c : Call} {x : Operand} {fn : Fn} {v1 c1 : Array Value} (hc : o.op = .call c) (hx : c.callee = .value x) (hv : a.eval x = .func fn v1 c1) : execOp a.eval o = invoke (.fn fn c1) (v1 ++ c.args.map a.eval) := by
  unfold execOp
  simp only [hc, resolve, hx, hv, Deferred.ofValue]
  rfl
theorem call_den {x : Operand} {c : Call} {fn : Fn} {first cap args : List AV} (hf : FrDen V w f a) (hx : f.ev x = some (.clo fn first cap)) (ha : f.evs c.args.toList = some args) :
    ∃ v1 c1, a.eval x = .func fn v1 c1 ∧ DenL V w (v1 ++ c.args.map a.eval) (first ++ args) ∧ DenL V w c1 cap := by
  have hd := hf.ev hx
  generalize a.eval x = u at hd
  cases hd with
  | clo k1 k2 k3 k4 =>
    rename_i v1 c1
    have k5 := hf.evs ha
    have e1 : (c.args.toList.map a.eval).toArray = c.args.map a.eval := by apply Array.ext'; simp
    rw [e1] at k5
    refine ⟨v1, c1, rfl, ⟨by rw [Array.size_append, List.length_append, k1, k5.1], fun i x b h1 h2 => ?_⟩, k2, k4⟩
    by_cases hi : i < v1.size
    · rw [Array.getElem?_append_left hi] at h1
      rw [List.getElem?_append_left (by omega)] at h2
      exact k3 i x b h1 h2
    · rw [Array.getElem?_append_right (by omega)] at h1
      rw [List.getElem?_append_right (by omega), ← k1] at h2
      exact k5.2 _ x b h1 h2
theorem upon_call {F : Fence} {n : Nat} {o : Oper} {s : Sem Next} {next : Act → World → Prop} {Q : Exit → Act → World → Prop} {R : Ending → World → Prop} (hF : FOk F) (hc : CallOk F n P s w R)
    (h1 : ∀ v w', R (.returned v) w' → next (a.put o.dst v) w') (h2 : ∀ ch w', R (.panicked ch) w' → Q (.panic ch) a w') (h3 : ∀ w', ¬ R .outgrown w') : o.uponIn F n P a next Q (s.run P w) := by
  unfold CallOk at hc
  have hn : F.depth.isSome = true → 1 ≤ n := fun e => by rw [hF.depth] at e; cases e
  split at hc
  · rename_i f args w' hr
    rw [hr]
    exact ⟨hn, hc.mono fun e w' hr => by
      cases e with
      | returned v => exact h1 v w' hr
      | panicked ch => exact h2 ch w' hr
      | outgrown => exact (h3 w' hr).elim⟩
  · rename_i l f tmps as' body w' hr
    rw [hr]
    exact ⟨hn, hc.mono fun e w' hr => by
      cases e with
      | returned v => exact h1 v w' hr
      | panicked ch => exact h2 ch w' hr
      | outgrown => exact (h3 w' hr).elim⟩
  · rename_i v w' hr
    rw [hr]
    exact h1 v w' hc
  · exact hc.elim
theorem call_nodefer {o : Oper} {c : Call} (hc : o.op = .call c) : ∀ d, o.op ≠ .defer d := fun d e => by rw [hc] at e; cases e
theorem sound_call {ops : Array Oper} {i : Nat} {l : List Nat} {o : Oper} {out : Out} {c : Call} {x : Operand} {fn : Fn} {first cap args : List AV} {y : AV} (ho : ops[i]? = some o) (hg : guardA ops f o = some true) (hc : o.op = .call c) (hx : c.callee = .value x)
    (hfx : f.ev x = some (.clo fn first cap)) (ha : f.evs c.args.toList = some args) (ih1 : Sound P (.call fn (first ++ args) cap h) (.call (.ret y) h')) (ih : Sound P (.ops ops l (f.put o.dst y) h') out) : Sound P (.ops ops (i :: l) f h) out := by
  cases out with
  | call r h' => exact ih
  | code e f' h'' =>
    refine ⟨ih.1.trans (put_rnd ..), fun F n res g q a w hF hR hV hf => ?_⟩
    obtain ⟨v1, c1, e1, d1, d2⟩ := call_den hf hfx ha
    simp only [wpOpsIn, ho, guard_ok hf hg, if_true]
    refine ⟨about_ok hF o, ?_⟩
    rw [Oper.semAt_eq _ _ _ (call_nodefer hc), exec_call hc hx e1]
    refine upon_call hF (ih1 F n res g q _ _ w hF hV d1 d2) (fun v w' hr => ?_) (fun ch w' hr => ?_) fun w' hr => ?_
    · obtain ⟨g', q', h3, h4⟩ := hr
      exact ops_mono (fun e1 a1 w1 k => codePost.up h3 k) (ih.2 F n res _ _ _ w' hF (hR.fwd h3.fwd (put_rnd ..)) h3.rel ((hf.fwd h3.fwd).put h4))
    · obtain ⟨g', q', h3, h4⟩ := hr
      exact h4.elim
    · obtain ⟨g', q', h3, h4⟩ := hr
      exact h4.elim
theorem sound_calx {ops : Array Oper} {i : Nat} {l : List Nat} {o : Oper} {c : Call} {x : Operand} {fn : Fn} {first cap args : List AV} {y : AV} (ho : ops[i]? = some o) (hg : guardA ops f o = some true) (hc : o.op = .call c) (hx : c.callee = .value x)
    (hfx : f.ev x = some (.clo fn first cap)) (ha : f.evs c.args.toList = some args) (ih1 : Sound P (.call fn (first ++ args) cap h) (.call (.pan y) h')) : Sound P (.ops ops (i :: l) f h) (.code (.pan y) f h') := by
  refine ⟨rfl, fun F n res g q a w hF hR hV hf => ?_⟩
  obtain ⟨v1, c1, e1, d1, d2⟩ := call_den hf hfx ha
  simp only [wpOpsIn, ho, guard_ok hf hg, if_true]
  refine ⟨about_ok hF o, ?_⟩
  rw [Oper.semAt_eq _ _ _ (call_nodefer hc), exec_call hc hx e1]
  refine upon_call hF (ih1 F n res g q _ _ w hF hV d1 d2) (fun v w' hr => ?_) (fun ch w' hr => ?_) fun w' hr => ?_
  · obtain ⟨g', q', h3, h4⟩ := hr
    exact h4.elim
  · obtain ⟨g', q', h3, h4⟩ := hr
    exact ⟨g', q', h3, h4, hf.fwd h3.fwd⟩
  · obtain ⟨g', q', h3, h4⟩ := hr
    exact h4.elim
theorem sound_panic {ops : Array Oper} {i : Nat} {l : List Nat} {o : Oper} {x : Operand} {t : TypeId} {y : AV} (ho : ops[i]? = some o) (hg : guardA ops f o = some true) (hc : o.op = .panic x) (hx : f.ev x = some (.ifc t y)) : Sound P (.ops ops (i :: l) f h) (.code (.pan (.ifc t y)) f h) := by
  refine ⟨rfl, fun F n res g q a w hF hR hV hf => ?_⟩
  simp only [wpOpsIn, ho, guard_ok hf hg, if_true]
  refine ⟨about_ok hF o, ?_⟩
  have hd := hf.ev hx
  have he : ∃ u, a.eval x = .iface t u := by
    generalize a.eval x = u at hd
    cases hd; exact ⟨_, rfl⟩
  obtain ⟨u, hu⟩ := he
  have hr : (execOp a.eval o).run P w = .halt (.panic (.iface t u)) w := by
    unfold execOp
    simp [hc, hu, Instr.panic, goPanic, Sem.run]
  rw [Oper.semAt_eq _ _ _ (fun c e => by rw [hc] at e; cases e), hr]
  exact ⟨g, q, To.refl hV, ⟨_, rfl, hu ▸ hd⟩, hf⟩
theorem post_refl {e : Ex} {e1 : Exit} (hV : Rel (h.mem res g q) w) (hf : FrDen (h.mem res g q) w f a) (he : EDen (h.mem res g q) w e1 e) : codePost (h.mem res g q) w h res e f e1 a w := ⟨g, q, To.refl hV, he, hf⟩
theorem sound_skip : SoundC P .skip f h .normal f h := ⟨rfl, fun F n res g q a w hF hR hV hf => wpIn_skip (post_refl hV hf trivial)⟩
theorem sound_label {n : Nat} : SoundC P (.label n) f h .normal f h := ⟨rfl, fun F n res g q a w hF hR hV hf => wpIn_label (post_refl hV hf trivial)⟩
theorem sound_exit {id : Nat} : SoundC P (.exit id) f h (.exit id) f h := ⟨rfl, fun F n res g q a w hF hR hV hf => wpIn_exit (post_refl hV hf rfl)⟩
theorem sound_ret : SoundC P .ret f h .ret f h := ⟨rfl, fun F n res g q a w hF hR hV hf => wpIn_ret (post_refl hV hf trivial)⟩
theorem eden_normal {V : Mem} {w : World} {e : Exit} (h : EDen V w e .normal) : e = .normal := by
  cases e <;> first | rfl | exact h.elim
theorem eden_not {V : Mem} {w : World} {e : Exit} {x : Ex} (h : EDen V w e x) (hx : x ≠ .normal) : e ≠ .normal := by
  rintro rfl
  cases x <;> first | exact hx rfl | exact h.elim
theorem sound_seq {c d : Code} {f1 f2 : AF} {h1 h2 : AH} {e : Ex} (k1 : SoundC P c f h .normal f1 h1) (k2 : SoundC P d f1 h1 e f2 h2) : SoundC P (.seq c d) f h e f2 h2 := by
  refine ⟨k2.1.trans k1.1, fun F n res g q a w hF hR hV hf => wpIn_seq (wpIn_mono (k1.2 F n res g q a w hF hR hV hf) fun e1 a1 w1 hp => ?_)⟩
  obtain ⟨g', q', ht, he, hf1⟩ := hp
  obtain rfl := eden_normal he
  exact wpIn_mono (k2.2 F n res g' q' a1 w1 hF (hR.fwd ht.fwd k1.1) ht.rel hf1) fun e2 a2 w2 k => codePost.up ht k
theorem then_skip {K : Act → World → Prop} {Q : Exit → Act → World → Prop} {e : Exit} {a : Act} {w : World} (he : e ≠ .normal) (hq : Q e a w) : Exit.then K Q e a w := by
  cases e <;> first | exact absurd rfl he | exact hq
theorem sound_seqx {c d : Code} {f1 : AF} {h1 : AH} {e : Ex} (k1 : SoundC P c f h e f1 h1) (he : e ≠ .normal) : SoundC P (.seq c d) f h e f1 h1 :=
  ⟨k1.1, fun F n res g q a w hF hR hV hf => wpIn_seq (wpIn_mono (k1.2 F n res g q a w hF hR hV hf) fun e1 a1 w1 hp => by
    obtain ⟨g', q', ht, hed, hf1⟩ := hp
    exact then_skip (eden_not hed he) ⟨g', q', ht, hed, hf1⟩)⟩
theorem sound_cond {x : Operand} {c d : Code} {b : Bool} {f1 : AF} {h1 : AH} {e : Ex} (hb : f.ev x = some (.raw (.bool b))) (k1 : SoundC P (if b then c else d) f h e f1 h1) : SoundC P (.cond x c d) f h e f1 h1 :=
  ⟨k1.1, fun F n res g q a w hF hR hV hf => wpIn_cond (den_bool (hf.ev hb)) (k1.2 F n res g q a w hF hR hV hf)⟩
theorem sound_block {id : Nat} {c : Code} {f1 : AF} {h1 : AH} {e : Ex} (k1 : SoundC P c f h e f1 h1) (he : e ≠ .exit id) : SoundC P (.block id c) f h e f1 h1 :=
  ⟨k1.1, fun F n res g q a w hF hR hV hf => wpIn_block (wpIn_mono (k1.2 F n res g q a w hF hR hV hf) fun e1 a1 w1 hp => by
    obtain ⟨g', q', ht, hed, hf1⟩ := hp
    cases e1 with
    | exit id' =>
      have : id' ≠ id := by
        rintro rfl
        cases e <;> first | exact hed.elim | exact he (by rw [show id' = _ from hed])
      simp only [Exit.inBlock, this, if_false]
      exact ⟨g', q', ht, hed, hf1⟩
    | normal => exact ⟨g', q', ht, hed, hf1⟩
    | goto l => exact ⟨g', q', ht, hed, hf1⟩
    | ret => exact ⟨g', q', ht, hed, hf1⟩
    | panic ch => exact ⟨g', q', ht, hed, hf1⟩
    | outgrown => exact ⟨g', q', ht, hed, hf1⟩)⟩
theorem sound_blockx {id : Nat} {c : Code} {f1 : AF} {h1 : AH} (k1 : SoundC P c f h (.exit id) f1 h1) : SoundC P (.block id c) f h .normal f1 h1 :=
  ⟨k1.1, fun F n res g q a w hF hR hV hf => wpIn_block (wpIn_mono (k1.2 F n res g q a w hF hR hV hf) fun e1 a1 w1 hp => by
    obtain ⟨g', q', ht, hed, hf1⟩ := hp
    cases e1 <;> try exact hed.elim
    rename_i id'
    have : id' = id := hed
    simp only [Exit.inBlock, this, if_true]
    exact ⟨g', q', ht, trivial, hf1⟩)⟩
theorem least (p : Nat → Prop) (h : ∃ k, p k) : ∃ m, p m ∧ ∀ k, p k → m ≤ k := by
  obtain ⟨k, hk⟩ := h
  induction k using Nat.strongRecOn with
  | _ k ih =>
    by_cases hs : ∃ j, j < k ∧ p j
    · obtain ⟨j, hj, hp⟩ := hs
      exact ih j hj hp
    · exact ⟨k, hk, fun j hj => Nat.le_of_not_lt fun hlt => hs ⟨j, hlt, hj⟩⟩
theorem sound_loop {c : Code} {k : Nat} {f1 : AF} {h1 : AH} {e : Ex} (k1 : Chain P c k f h e f1 h1) : SoundC P (.loop c) f h e f1 h1 := by
  have hrnd : ∀ (k : Nat) (f : AF) (h : AH), Chain P c k f h e f1 h1 → f1.rnd = f.rnd := by
    intro k
    induction k with
    | zero => exact fun f h hk => hk.1.1
    | succ k ih => exact fun f h hk => by obtain ⟨f2, h2, k2, k3⟩ := hk; exact (ih _ _ k3).trans k2.1
  refine ⟨hrnd _ _ _ k1, fun F n res g q a w hF hR hV hf => ?_⟩
  classical
  let I : Nat → Act → World → Prop := fun k a' w' => ∃ f' h' g' q', Chain P c k f' h' e f1 h1 ∧ To (h.mem res g q) w (h'.mem res g' q') w' ∧ ROk F (h'.mem res g' q') f' ∧ FrDen (h'.mem res g' q') w' f' a'
  have h0 : I k a w := ⟨f, h, g, q, k1, To.refl hV, hR, hf⟩
  refine wpIn_loop (fun a' w' => ∃ k, I k a' w') (fun a' w' => if hx : ∃ k, I k a' w' then Classical.choose (least _ hx) else 0) ⟨k, h0⟩ fun a' w' hI => ?_
  rw [dif_pos hI]
  generalize hm : Classical.choose (least _ hI) = m
  have hIm : I m a' w' := hm ▸ (Classical.choose_spec (least _ hI)).1
  obtain ⟨f', h', g', q', hc, ht, hR', hf'⟩ := hIm
  cases m with
  | zero =>
    refine wpIn_mono (hc.1.2 F n res g' q' a' w' hF hR' ht.rel hf') fun e1 a1 w1 hp => ?_
    have hp2 := codePost.up ht hp
    obtain ⟨g2, q2, t2, hed, hf2⟩ := hp2
    exact then_skip (eden_not hed hc.2) ⟨g2, q2, t2, hed, hf2⟩
  | succ m =>
    obtain ⟨f2, h2, k2, k3⟩ := hc
    refine wpIn_mono (k2.2 F n res g' q' a' w' hF hR' ht.rel hf') fun e1 a1 w1 hp => ?_
    obtain ⟨g3, q3, t3, hed, hf2⟩ := hp
    obtain rfl := eden_normal hed
    have hIn : I m a1 w1 := ⟨f2, h2, g3, q3, k3, ht.trans t3, hR'.fwd t3.fwd k2.1, hf2⟩
    refine ⟨⟨m, hIn⟩, ?_⟩
    rw [dif_pos ⟨m, hIn⟩]
    have := (Classical.choose_spec (least _ (⟨m, hIn⟩ : ∃ k, I k a1 w1))).2 m hIn
    omega
theorem sound_region {id : Nat} {ops : Array Oper} {f1 : AF} {h1 : AH} {e : Ex} (k1 : Sound P (.ops ops (List.range ops.size) f h) (.code e f1 h1)) : SoundC P (.region id ops false) f h e f1 h1 :=
  ⟨k1.1, fun F n res g q a w hF hR hV hf => Go.wpIn_region (k1.2 F n res g q a w hF hR hV hf)⟩
end
end Go.Proofs.YtaoglkkdhdfioaaGreatDoor
namespace Go.Proofs.YtaoglkkdhdfioaaGreatDoor
open Go
theorem AH.find_without (l : List (Nat × Blk)) (r s : Nat) : AH.find (AH.without l r) s = if s = r then none else AH.find l s := by
  induction l with
  | nil => simp [AH.without, AH.find]
  | cons a l ih =>
    obtain ⟨t, p⟩ := a
    by_cases h : r = t
    · subst h
      simp only [AH.without, if_true, AH.find, ih]
      by_cases e : s = r <;> simp [e]
    · simp only [AH.without, h, if_false, AH.find, ih]
      by_cases e : s = t
      · subst e
        have : ¬ s = r := fun e' => h e'.symm
        simp [this]
      · simp [e]
section
variable {P : Program} {h h' : AH} {V V0 : Mem} {res : Nat → Nat → Prop} {g q : Nat → Nat} {w w0 : World} {f f' : AF} {a : Act}
/-- a block that is no cells, forgotten -/
theorem drop1_any {m : Nat} {o : Blk} {ob : Obj} (h0 : Rel V0 w0) (ht : To V0 w0 (h.mem res g q) w) (hm : h.get m = some o) (hno : ∀ i, w.cell? ⟨g m, i, none⟩ = none) (hb : ¬ V0.born m) (hl : ∀ r l, h.get r = some (.loop l) → l.mark ≠ m) :
    To V0 w0 ((h.drop1 m).mem res g q) (w.putObj (g m) ob) ∧ (∀ (v : Value) (y : AV), Den (h.mem res g q) w v y → Den ((h.drop1 m).mem res g q) (w.putObj (g m) ob) v y) := by
  have hget : ∀ s, (h.drop1 m).get s = if s = m then none else h.get s := fun s => AH.find_without _ _ _
  have hblk : ∀ s o, ((h.drop1 m).mem res g q).blk s = some o → s ≠ m ∧ (h.mem res g q).blk s = some o := fun s o hs => by
    have hs : (h.drop1 m).get s = some o := hs
    rw [hget] at hs
    split at hs
    · cases hs
    · exact ⟨by assumption, hs⟩
  have hV := ht.rel
  have hmm : (h.mem res g q).blk m = some o := hm
  have hheap : ∀ b, b ≠ g m → (w.putObj (g m) ob).heap[b]? = w.heap[b]? := fun b hb => World.putObj_heap_other hb
  have hst : Stand (h.mem res g q) w ((h.drop1 m).mem res g q) (w.putObj (g m) ob) := fun b i x h1 h2 => by
    have hne : b ≠ g m := by
      rintro rfl
      rw [hno i] at h2; cases h2
    refine ⟨⟨by simpa using h1.1, h1.2.1, fun r c h3 h4 => h1.2.2 r c (hblk _ _ h3).2 h4⟩, ?_⟩
    rw [cell_of_heap (hheap b hne)]; exact h2
  have hden : ∀ (v : Value) (y : AV), Den (h.mem res g q) w v y → Den ((h.drop1 m).mem res g q) (w.putObj (g m) ob) v y := fun v y hd => by
    induction hd with
    | raw v => exact .raw v
    | agg hl _ ih => exact .agg hl ih
    | tup hl _ ih => exact .tup hl ih
    | vnil => exact .vnil
    | emp => exact .emp
    | vals X hc hs hx _ ih => exact .vals X hc hs (fun j e i a h1 h2 => hst _ _ _ (hx j e i a h1 h2).1 (hx j e i a h1 h2).2) ih
    | row hv hb hh => exact .row hv hb fun c hc => hh c (hblk _ _ hc).2
    | ptr hv hb hh => exact .ptr hv hb fun c hc => hh c (hblk _ _ hc).2
    | vptr X hx _ ih => exact .vptr X (fun i a h1 => hst _ _ _ (hx i a h1).1 (hx i a h1).2) ih
    | clo hf' hc _ _ ih1 ih2 => exact .clo hf' hc ih1 ih2
    | yld hv hb hh => exact .yld hv hb fun l hl => hh l (hblk _ _ hl).2
    | ifc _ ih => exact .ifc ih
  have hpos : ∀ s o, s ≠ m → (h.mem res g q).blk s = some o → (w.putObj (g m) ob).heap[g s]? = w.heap[g s]? := fun s o hs ho => hheap _ fun e => hs (hV.apart s m o _ ho hmm e)
  refine ⟨⟨⟨fun b i hb => by simpa using hV.bound b i hb, fun r o ho i => hV.free r o (hblk _ _ ho).2 i, fun r o ho => ?_, fun r s o p h1 h2 h3 => hV.apart r s o p (hblk _ _ h1).2 (hblk _ _ h2).2 h3, fun r c hc => ?_, fun r l hl' => ?_, fun r hr => ?_, fun g' cs e i x hx => hst _ _ _ (hV.glob g' cs e i x hx).1 (hV.glob g' cs e i x hx).2⟩, ⟨fun b i x h1 h2 => ?_, ht.fwd.born, fun r c hr hc => ht.fwd.cells r c hr (hblk _ _ hc).2, fun r l hr hl' => ht.fwd.loop r l hr (hblk _ _ hl').2, fun r hr => ?_⟩, ⟨ht.keep.os, ht.keep.tape, ht.keep.output, by simpa using ht.keep.size, fun b hb' hn => ?_⟩, fun r o ho => ht.old r o (hblk _ _ ho).2⟩, hden⟩
  · obtain ⟨h1, h2⟩ := hV.live r o (hblk _ _ ho).2
    exact ⟨h1, by rw [World.putObj_size]; exact h2⟩
  · obtain ⟨h1, h2⟩ := hblk _ _ hc
    obtain ⟨X, k1, k2, k3, k4, k5, k6⟩ := hV.cells r c h2
    exact ⟨X, (hpos r _ h1 h2).trans k1, k2, k3, k4, k5, fun i x b e1 e2 => hden _ _ (k6 i x b e1 e2)⟩
  · obtain ⟨h1, h2⟩ := hblk _ _ hl'
    obtain ⟨k1, fn, T, k2, k3, k4⟩ := hV.loop r l h2
    refine ⟨?_, fn, T, (hpos r _ h1 h2).trans k2, k3, fun i b e2 => by obtain ⟨x, e1, e3⟩ := k4 i b e2; exact ⟨x, e1, hden _ _ e3⟩⟩
    show (h.drop1 m).get l.mark = _
    rw [hget, if_neg (hl r l h2)]; exact k1
  · obtain ⟨h1, h2⟩ := hblk _ _ hr
    exact (hpos r _ h1 h2).trans (hV.mark r h2)
  · obtain ⟨k1, k2⟩ := ht.fwd.ok b i x h1 h2
    exact hst b i x k1 k2
  · obtain ⟨k1, k2⟩ := ht.fwd.mark r hr
    refine ⟨?_, k2⟩
    show (h.drop1 m).get r = _
    rw [hget, if_neg]
    · exact k1
    · rintro rfl
      exact hb (h0.live r _ hr).1
  · rw [hheap b ?_, ht.keep.block b hb' hn]
    rintro rfl
    rcases ht.old m _ hmm with e | ⟨s, p, e1, e2⟩
    · have : w0.heap.size ≤ g m := e
      omega
    · exact hn s p e1 e2
/-- a mark taken -/
theorem drop1_to {m : Nat} (h0 : Rel V0 w0) (ht : To V0 w0 (h.mem res g q) w) (hm : h.get m = some .mark) (hb : ¬ V0.born m) (hl : ∀ r l, h.get r = some (.loop l) → l.mark ≠ m) :
    To V0 w0 ((h.drop1 m).mem res g q) (w.putObj (g m) (.deferred none)) ∧ (∀ (v : Value) (y : AV), Den (h.mem res g q) w v y → Den ((h.drop1 m).mem res g q) (w.putObj (g m) (.deferred none)) v y) :=
  drop1_any h0 ht hm (fun i => by
    have hcm : w.heap[g m]? = some (.deferred (some [])) := ht.rel.mark m hm
    simp [World.cell?, hcm]) hb hl
theorem drop_to {P : Program} {F : Fence} {n : Nat} {fn : Func} {tmps : Array Value} {R : Ending → World → Prop} : ∀ (ms : List Nat) {h : AH} {w : World}, Rel V0 w0 → To V0 w0 (h.mem res g q) w → (∀ m ∈ ms, h.get m = some .mark) → ms.Nodup → (∀ m ∈ ms, ¬ V0.born m) → (∀ r l, h.get r = some (.loop l) → l.mark ∉ ms) →
    (∀ w2, To V0 w0 ((h.drop ms).mem res g q) w2 → (∀ x y, Den (h.mem res g q) w x y → Den ((h.drop ms).mem res g q) w2 x y) → (∀ b, (∀ m ∈ ms, g m ≠ b) → w2.heap[b]? = w.heap[b]?) → LeavesInM F n P fn tmps R [] .returning w2) →
    LeavesInM F n P fn tmps R (ms.map fun m => { target := .collected (g m), args := #[] }) .returning w
  | [], h, w, h0, ht, hm, hn, hb, hl, hk => hk w ht (fun x y hx => hx) (fun b _ => rfl)
  | m :: ms, h, w, h0, ht, hm, hn, hb, hl, hk => by
    have hmm : h.get m = some .mark := hm m (List.mem_cons_self ..)
    have hcm : w.heap[g m]? = some (.deferred (some [])) := ht.rel.mark m hmm
    obtain ⟨t1, d1⟩ := drop1_to h0 ht hmm (hb m (List.mem_cons_self ..)) fun r l hr e => hl r l hr (e ▸ List.mem_cons_self ..)
    have hget : ∀ s, (h.drop1 m).get s = if s = m then none else h.get s := fun s => AH.find_without _ _ _
    obtain ⟨hn1, hn2⟩ := List.nodup_cons.1 hn
    refine ⟨by simp, .inl ⟨g m, _, rfl, run_takeDeferred hcm, ?_⟩⟩
    refine drop_to ms h0 t1 (fun k hk' => ?_) hn2 (fun k hk' => hb k (List.mem_cons_of_mem _ hk')) (fun r l hr hlm => ?_) fun w2 t2 d2 k2 => hk w2 t2 (fun x y hx => d2 x y (d1 x y hx)) fun b hb' => ?_
    · rw [hget, if_neg]
      · exact hm k (List.mem_cons_of_mem _ hk')
      · rintro rfl; exact hn1 hk'
    · rw [hget] at hr
      split at hr
      · cases hr
      · exact hl r l hr (List.mem_cons_of_mem _ hlm)
    · rw [k2 b fun k hk' => hb' k (List.mem_cons_of_mem _ hk'), World.putObj_heap_other fun e => hb' m (List.mem_cons_self ..) e.symm]
theorem load_addr {t : TypeId} {u v : Value} (hr : (Instr.loadAt t u).run P w = .ok v w) : (do loadVar t (← asAddr u) : Sem Value).run P w = .ok v w := by
  unfold Instr.loadAt at hr
  unfold Instr.sureAddr at hr
  cases u <;> try (simp [stuck, Sem.run] at hr; done)
  rename_i A
  cases A with
  | none => simp [stuck, Sem.run] at hr
  | some A => simpa [asAddr] using hr
theorem resA_ok (hV : Rel V w) (hA : Agr h V) (hd : DenS V w a.tmps f.t) (k : ResultVar → Sem Value) (hk1 : ∀ t, k (.tmp t) = pure (a.tmps.getD t undef)) (hk2 : ∀ x t, k (.cell x t) = (do loadVar t (← asAddr (a.tmps.getD x undef)))) :
    ∀ {l : List ResultVar} {ys : List AV}, resA P h f l = some ys → ∃ vs : List Value, (l.mapM k).run P w = .ok vs w ∧ DenL V w vs.toArray ys
  | [], ys, hy => by
    simp [resA] at hy
    subst hy
    exact ⟨[], by simp, rfl, fun i x b h1 h2 => by simp at h2⟩
  | r :: l, ys, hy => by
    have cons : ∀ {v : Value} {y : AV} {zs : List AV}, (k r).run P w = .ok v w → Den V w v y → resA P h f l = some zs → ys = y :: zs → ∃ vs : List Value, ((r :: l).mapM k).run P w = .ok vs w ∧ DenL V w vs.toArray ys := fun h1 h2 h3 h4 => by
      obtain ⟨vs, k1, k2⟩ := resA_ok hV hA hd k hk1 hk2 h3
      subst h4
      rename_i v y zs
      refine ⟨v :: vs, by simp [List.mapM_cons, h1, k1], by simpa using k2.1, fun i x b e1 e2 => ?_⟩
      cases i with
      | zero => simp at e1 e2; subst e1 e2; exact h2
      | succ i => exact k2.2 i x b (by simpa using e1) (by simpa using e2)
    cases r with
    | tmp t =>
      simp only [resA] at hy
      split at hy
      · rename_i y zs h1 h2
        injection hy with hy
        obtain ⟨x, hx, hxd⟩ := hd.get h1
        exact cons (by rw [hk1]; simp [Array.getD_eq_getD_getElem?, hx]) hxd h2 hy.symm
      · cases hy
    | cell x t =>
      simp only [resA] at hy
      split at hy
      · rename_i y zs h1 h2
        injection hy with hy
        have hfd : FrDen V w ⟨f.t, [], none⟩ ⟨a.tmps, []⟩ := ⟨hd, rfl, fun m hm => (by cases hm), List.nodup_nil, hV.glob⟩
        have h1' : rLoad P h ⟨f.t, [], none⟩ t (.tmp x) = some y := h1
        obtain ⟨v, e1, e2⟩ := rLoad_ok hV hA hfd h1'
        exact cons (by rw [hk2]; exact load_addr e1) e2 h2 hy.symm
      · cases hy
theorem result_ok {fn : Func} {y : AV} (hV : Rel V w) (hA : Agr h V) (hd : DenS V w a.tmps f.t) (hy : resultA P h f fn = some y) : ∃ v, (results fn a.tmps).run P w = .ok v w ∧ Den V w v y := by
  unfold resultA at hy
  have main : ∀ {ys : List AV}, resA P h f fn.results.toList = some ys → ∃ vs : List Value, (results fn a.tmps).run P w = .ok (if hh : vs.toArray.size = 1 then vs.toArray[0] else .tuple vs.toArray) w ∧ DenL V w vs.toArray ys := fun h1 => by
    obtain ⟨vs, k1, k2⟩ := resA_ok hV hA hd (fun | .tmp t => pure (a.tmps.getD t undef) | .cell x t => do loadVar t (← asAddr (a.tmps.getD x undef))) (fun _ => rfl) (fun _ _ => rfl) h1
    refine ⟨vs, ?_, k2⟩
    have e : results fn a.tmps = (do
      let vs ← fn.results.mapM (fun | .tmp t => pure (a.tmps.getD t undef) | .cell x t => do loadVar t (← asAddr (a.tmps.getD x undef)))
      pure (if h : vs.size = 1 then vs[0] else .tuple vs) : Sem Value) := rfl
    rw [e, Array.mapM_eq_mapM_toList]
    simp only [Sem.run_bind, Sem.run_map, bind_pure_comp, k1, Result.andThen_ok]
  split at hy
  · rename_i b h1
    injection hy with hy
    subst hy
    obtain ⟨vs, k1, k2⟩ := main h1
    have hs := k2.1
    simp at hs
    obtain ⟨v, rfl⟩ := List.length_eq_one_iff.1 hs
    exact ⟨v, by simpa using k1, k2.2 0 v b rfl rfl⟩
  · rename_i ys hne h1
    injection hy with hy
    subst hy
    obtain ⟨vs, k1, k2⟩ := main h1
    have hs := k2.1
    have : ¬ vs.toArray.size = 1 := fun e => by
      rw [e] at hs
      obtain ⟨b, rfl⟩ := List.length_eq_one_iff.1 hs.symm
      exact hne b rfl
    rw [dif_neg this] at k1
    exact ⟨_, k1, .tup k2.1 k2.2⟩
  · cases hy
theorem look_zip : ∀ (l : List AV) (k i : Nat), Slots.look (zipA k l) i = if i < k then none else l[i - k]?
  | [], k, i => by simp [zipA, Slots.look]
  | a :: l, k, i => by
    simp only [zipA, Slots.look]
    by_cases h : i = k
    · subst h; simp
    · rw [if_neg h, look_zip l (k + 1) i]
      by_cases h1 : i < k
      · rw [if_pos (by omega), if_pos h1]
      · rw [if_neg (by omega), if_neg h1, (by omega : i - k = (i - (k + 1)) + 1), List.getElem?_cons_succ]
theorem start_den {us : Array Value} {args : List AV} {n : Nat} (hg : Glob V w) (hd : DenL V w us args) : FrDen V w (AF.start args n) { tmps := us ++ Array.replicate (n - us.size) undef, defers := [] } := by
  refine ⟨⟨by simp [AF.start, hd.1], fun i b h2 => ?_⟩, rfl, fun m hm => (by cases hm), List.nodup_nil, hg⟩
  have h2 : Slots.look (zipA 0 args) i = some b := h2
  rw [look_zip, if_neg (by omega), Nat.sub_zero] at h2
  obtain ⟨x, hx, hxd⟩ := hd.get h2
  exact ⟨x, by rw [Array.getElem?_append_left (Array.getElem?_eq_some_iff.1 hx).1]; exact hx, hxd⟩
theorem app_den {us cs : Array Value} {args cap : List AV} (h1 : DenL V w us args) (h2 : DenL V w cs cap) : DenL V w (us ++ cs) (args ++ cap) := by
  refine ⟨by simp [h1.1, h2.1], fun i x b k1 k2 => ?_⟩
  have hl := h1.1
  by_cases hi : i < us.size
  · rw [Array.getElem?_append_left hi] at k1
    rw [List.getElem?_append_left (by omega)] at k2
    exact h1.2 i x b k1 k2
  · rw [Array.getElem?_append_right (by omega)] at k1
    rw [List.getElem?_append_right (by omega), ← hl] at k2
    exact h2.2 _ x b k1 k2
theorem FOk.plain {F : Fence} (hF : FOk F) : FOk F.plain := ⟨hF.fn, hF.depth, hF.alive⟩
theorem start_round (F : Fence) (args : List AV) (n : Nat) : ROk F.plain V (AF.start args n) := ⟨rfl, fun r hr => (by cases hr), fun r l hr => (by cases hr)⟩
theorem callOk_enter {F : Fence} {n : Nat} {Fid : Nat} {fn : Func} {c : Code} {us cs : Array Value} {R : Ending → World → Prop} (hF : FOk F) (hf : P.funcs[Fid]? = some fn) (hb : fn.body = some c) (hn : (fn.name == "runtime.NumGoroutine") = false)
    (hk : c.wpIn F.plain (n - 1) P (bodyPostM F.plain (n - 1) P fn R) { tmps := (us ++ cs) ++ Array.replicate (fn.ntmps - (us ++ cs).size) undef, defers := [] } w) : CallOk F n P (invoke (.fn (.func Fid) cs) us) w R := by
  have he : (invoke (.fn (.func Fid) cs) us).run P w = .ok (.enter Fid (us ++ cs)) w := enters_of hf hn hb (us ++ cs) w
  unfold CallOk
  rw [he]
  exact callsIn_of_wp_marks (F := F.plain) hf hb (hF.fn Fid) hk rfl
theorem sound_enter {Fid : Nat} {fn : Func} {c : Code} {args cap : List AV} {e : Ex} {y : AV} (hf : P.funcs[Fid]? = some fn) (hb : fn.body = some c) (hn : (fn.name == "runtime.NumGoroutine") = false)
    (ih : SoundC P c (AF.start (args ++ cap) fn.ntmps) h e f' h') (he : e = .normal ∨ e = .ret) (hy : resultA P (h'.drop f'.marks) f' fn = some y) (hm : ∀ m ∈ f'.marks, h.next ≤ m) (hl : ∀ r l, h'.get r = some (.loop l) → l.mark ∉ f'.marks) :
    Sound P (.call (.func Fid) args cap h) (.call (.ret y) (h'.drop f'.marks)) := by
  intro F n res g q us cs w hF hV hu hc
  refine callOk_enter hF hf hb hn ?_
  refine wpIn_mono (ih.2 F.plain (n - 1) res g q _ w hF.plain (start_round F _ _) hV (start_den hV.glob (app_den hu hc))) fun e1 a1 w1 hp => ?_
  obtain ⟨g', q', ht, hed, hfd⟩ := hp
  have hleave : LeavesInM F.plain (n - 1) P fn a1.tmps (fun e w1 => Post (h.mem res g q) w (h'.drop f'.marks) res (fun V' w' => RDen V' w' e (.ret y)) w1) a1.defers .returning w1 := by
    rw [hfd.defers]
    refine drop_to f'.marks hV ht hfd.marks hfd.nodup (fun m hm' hb' => ?_) hl fun w2 t2 d2 k2 => ?_
    · have := hm m hm'
      have hb' : m < h.next ∧ m ∉ h.hid := hb'
      omega
    · obtain ⟨v, r1, r2⟩ := result_ok (a := a1) (f := f') t2.rel (Agr.mem _ _ _ _) ⟨hfd.tmps.1, fun i b k2 => by obtain ⟨x, k1, k3⟩ := hfd.tmps.2 i b k2; exact ⟨x, k1, d2 x b k3⟩⟩ hy
      exact ⟨v, r1, g', q', t2, r2⟩
  rcases he with rfl | rfl
  · obtain rfl := eden_normal hed
    exact hleave
  · cases e1 <;> first | exact hed.elim | exact hleave
theorem sound_enterx {Fid : Nat} {fn : Func} {c : Code} {args cap : List AV} {y : AV} (hf : P.funcs[Fid]? = some fn) (hb : fn.body = some c) (hn : (fn.name == "runtime.NumGoroutine") = false)
    (ih : SoundC P c (AF.start (args ++ cap) fn.ntmps) h (.pan y) f' h') (hm : f'.marks = []) : Sound P (.call (.func Fid) args cap h) (.call (.pan y) h') := by
  intro F n res g q us cs w hF hV hu hc
  refine callOk_enter hF hf hb hn ?_
  refine wpIn_mono (ih.2 F.plain (n - 1) res g q _ w hF.plain (start_round F _ _) hV (start_den hV.glob (app_den hu hc))) fun e1 a1 w1 hp => ?_
  obtain ⟨g', q', ht, hed, hfd⟩ := hp
  have hd := hfd.defers
  rw [hm] at hd
  cases e1 <;> try exact hed.elim
  rename_i ch
  show LeavesInM F.plain (n - 1) P fn a1.tmps _ a1.defers (.panicking ch) w1
  rw [hd]
  exact ⟨g', q', ht, hed⟩
/-! ### Calls of what is handed over -/
/-- what is ours here is another's there -/
def away (V : Mem) : Nat → Nat → Prop := fun b i => V.res b i ∨ ∃ r c, V.blk r = some (.cells c) ∧ V.pos r = b ∧ c.imm ≤ i
theorem zero_blk {res : Nat → Nat → Prop} {g q : Nat → Nat} (r : Nat) : (AH.zero.mem res g q).blk r = none := rfl
theorem zero_rel (hV : Rel V w) (g q : Nat → Nat) : Rel (AH.zero.mem (away V) g q) w where
  bound b i hb := by
    rcases hb with hb | ⟨r, c, h1, h2, _⟩
    · exact hV.bound b i hb
    · rw [← h2]; exact (hV.live r _ h1).2
  free r o ho := by rw [zero_blk] at ho; cases ho
  live r o ho := by rw [zero_blk] at ho; cases ho
  apart r s o p ho := by rw [zero_blk] at ho; cases ho
  cells r c ho := by rw [zero_blk] at ho; cases ho
  loop r l ho := by rw [zero_blk] at ho; cases ho
  mark r ho := by rw [zero_blk] at ho; cases ho
  glob g' cs e i x hx := by
    obtain ⟨h1, h2⟩ := hV.glob g' cs e i x hx
    refine ⟨⟨h1.1, fun ha => ?_, fun r c hr => ?_⟩, h2⟩
    · rcases ha with ha | ⟨r, c, k1, k2, k3⟩
      · exact h1.2.1 ha
      · have := h1.2.2 r c k1 k2; omega
    · rw [zero_blk] at hr; cases hr
theorem stand_in (V : Mem) (w : World) (g q : Nat → Nat) : Stand V w (AH.zero.mem (away V) g q) w := fun b i x h1 h2 => by
  refine ⟨⟨h1.1, fun ha => ?_, fun r c hr => ?_⟩, h2⟩
  · rcases ha with ha | ⟨r, c, k1, k2, k3⟩
    · exact h1.2.1 ha
    · have := h1.2.2 r c k1 k2; omega
  · rw [zero_blk] at hr; cases hr
theorem stand_out {w' : World} {h2 : AH} {g q : Nat → Nat} : Stand (h2.mem (away V) g q) w' V w' := fun b i x h1 h2 =>
  ⟨⟨h1.1, fun hr => h1.2.1 (.inl hr), fun r c hr hp => Nat.lt_of_not_le fun hle => h1.2.1 (.inr ⟨r, c, hr, hp, hle⟩)⟩, h2⟩
/-- all that was there is there -/
theorem to_same {w' : World} (hV : Rel V w) (h1 : w'.os = w.os) (h2 : w'.tape = w.tape) (h3 : w'.output = w.output) (hs : w.heap.size ≤ w'.heap.size) (hk : ∀ b, b < w.heap.size → w'.heap[b]? = w.heap[b]?) : To V w V w' := by
  have hf : Fwd V w V w' := ⟨fun b i x k1 k2 => ⟨⟨by have := k1.1; omega, k1.2⟩, by rw [cell_of_heap (hk b k1.1)]; exact k2⟩, fun _ h => h, fun r c _ h => ⟨c, h, Nat.le_refl _, fun _ => ⟨rfl, rfl, rfl, rfl⟩⟩, fun r l _ h => ⟨l, h, rfl⟩, fun r h => ⟨h, rfl⟩⟩
  refine ⟨⟨fun b i hb => Nat.lt_of_lt_of_le (hV.bound b i hb) hs, hV.free, fun r o ho => ?_, hV.apart, fun r c hc => ?_, fun r l hl => ?_, fun r hr => ?_, hV.glob.fwd hf⟩, hf, ⟨h1, h2, h3, hs, fun b hb _ => hk b hb⟩, Old.refl V w⟩
  · obtain ⟨k1, k2⟩ := hV.live r o ho
    exact ⟨k1, by omega⟩
  · obtain ⟨X, k1, k2, k3, k4, k5, k6⟩ := hV.cells r c hc
    exact ⟨X, (hk _ (hV.live r _ hc).2).trans k1, k2, k3, k4, k5, fun i x b e1 e2 => (k6 i x b e1 e2).fwd hf⟩
  · obtain ⟨k0, fn, T, k1, k2, k3⟩ := hV.loop r l hl
    exact ⟨k0, fn, T, (hk _ (hV.live r _ hl).2).trans k1, k2, fun i b e2 => by obtain ⟨x, e1, e3⟩ := k3 i b e2; exact ⟨x, e1, e3.fwd hf⟩⟩
  · exact (hk _ (hV.live r _ hr).2).trans (hV.mark r hr)
theorem DenL.stand {V' : Mem} {w' : World} {us : Array Value} {zs : List AV} (hd : DenL V w us zs) (hs : Stand V w V' w') (hp : ∀ a ∈ zs, Pure a) : DenL V' w' us zs :=
  ⟨hd.1, fun i x b h1 h2 => (hd.2 i x b h1 h2).stand hs (hp b (List.mem_of_getElem? h2))⟩
theorem split_den {us cs : Array Value} {args cap : List AV} (hl : us.size = args.length) (hd : DenL V w (us ++ cs) (args ++ cap)) : DenL V w us args ∧ DenL V w cs cap := by
  have hs := hd.1
  simp at hs
  refine ⟨⟨hl, fun i x b h1 h2 => ?_⟩, ⟨by omega, fun i x b h1 h2 => ?_⟩⟩
  · have hi : i < us.size := (Array.getElem?_eq_some_iff.1 h1).1
    exact hd.2 i x b (by rw [Array.getElem?_append_left hi]; exact h1) (by rw [List.getElem?_append_left (by omega)]; exact h2)
  · refine hd.2 (us.size + i) x b ?_ ?_
    · rw [Array.getElem?_append_right (by omega)]; simpa using h1
    · rw [List.getElem?_append_right (by omega), hl]; simpa using h2
theorem CallOk.mono {F : Fence} {n : Nat} {s : Sem Next} {R R' : Ending → World → Prop} (hc : CallOk F n P s w R) (hr : ∀ e w', R e w' → R' e w') : CallOk F n P s w R' := by
  unfold CallOk at *
  split at hc
  · rename_i e1; exact CallsIn.mono hc hr
  · exact RoundIn.mono hc hr
  · exact hr _ _ hc
  · exact hc.elim
/-- a value handed back -/
theorem back_den {h2 : AH} {y z : AV} {l1 l2 : List (Nat × Nat)} {v : Value} (hV : Rel (h2.mem res g q) w) (hs : SnapL (h2.seals l1) [y] [z] l2) (hs2 : Sealed (h2.seals l1) l2) (hd : Den (h2.mem res g q) w v y) : Den ((h2.seals l1).mem res g q) w v z := by
  have ht := seals_to l1 hV
  have hd1 : DenL ((h2.seals l1).mem res g q) w #[v] [y] := ⟨rfl, fun i x b e1 e2 => by
    cases i with
    | zero => simp at e1 e2; subst e1 e2; exact hd.fwd ht.fwd
    | succ i => simp at e2⟩
  exact (snap_ok hs ht.rel (Agr.mem _ _ _ _) hs2 hd1).2 0 v z rfl rfl
theorem sound_pure {fn : Fn} {args cap args' cap' : List AV} {r r' : Res} {L l : List (Nat × Nat)} (ha : SnapL (h.seals L) (args ++ cap) (args' ++ cap') l) (hal : args.length = args'.length) (hs : Sealed (h.seals L) l) (hp : ∀ a ∈ args' ++ cap', Pure a)
    (ih : Sound P (.call fn args' cap' .zero) (.call r h')) (hr : ∀ (res : Nat → Nat → Prop) (g q : Nat → Nat) (w : World) (e : Ending), Rel (h'.mem res g q) w → RDen (h'.mem res g q) w e r → ∃ h2 : AH, RDen (h2.mem res g q) w e r')
    (hz : match r' with | .ret z => Pure z | .pan z => Pure z) : Sound P (.call fn args cap h) (.call r' (h.seals L)) := by
  intro F n res g q us cs w hF hV hu hc
  have ht := seals_to L hV
  have hd := snap_ok ha ht.rel (Agr.mem _ _ _ _) hs (app_den (hu.fwd ht.fwd) (hc.fwd ht.fwd))
  obtain ⟨hu', hc'⟩ := split_den (by rw [hu.1, hal]) hd
  have hin := stand_in ((h.seals L).mem res g q) w g q
  refine (ih F n (away ((h.seals L).mem res g q)) g q us cs w hF (zero_rel ht.rel g q) (hu'.stand hin fun b hb => hp b (List.mem_append_left _ hb)) (hc'.stand hin fun b hb => hp b (List.mem_append_right _ hb))).mono fun e w1 hpost => ?_
  obtain ⟨g1, q1, t1, d1⟩ := hpost
  have hk := t1.keep
  have tsame := to_same ht.rel hk.os hk.tape hk.output hk.size fun b hb => hk.block b hb fun r o ho => by rw [zero_blk] at ho; cases ho
  obtain ⟨h2, d2⟩ := hr _ g1 q1 w1 e t1.rel d1
  refine ⟨g, q, ht.trans tsame, ?_⟩
  cases e <;> cases r' <;> try exact d2.elim
  · exact Den.stand d2 stand_out hz
  · obtain ⟨v, e1, e2⟩ := d2
    exact ⟨v, e1, Den.stand e2 stand_out hz⟩
end
end Go.Proofs.YtaoglkkdhdfioaaGreatDoor
namespace Go.Proofs.YtaoglkkdhdfioaaGreatDoor
open Go
/-- two frames, alike on these operands -/
def Like (f f' : AF) (l : List Operand) : Prop := ∀ x ∈ l, f.ev x = f'.ev x
section
variable {P : Program} {h : AH} {f f' : AF}
theorem Like.evs : ∀ {l : List Operand}, Like f f' l → f.evs l = f'.evs l
  | [], _ => rfl
  | x :: l, hl => by
    simp only [AF.evs, hl x (List.mem_cons_self ..), Like.evs fun y hy => hl y (List.mem_cons_of_mem _ hy)]
theorem Like.parts : ∀ {l : List (Nat × Operand)}, Like f f' (l.map (·.2)) → f.parts l = f'.parts l
  | [], _ => rfl
  | (i, x) :: l, hl => by
    simp only [AF.parts, hl x (by simp), Like.parts fun y hy => hl y (by simp at hy ⊢; exact .inr hy)]
theorem Like.bound {x : Option Operand} {d : Nat} (hl : Like f f' x.toList) : f.bound x d = f'.bound x d := by
  cases x with
  | none => rfl
  | some x => simp only [AF.bound, hl x (by simp)]
theorem Like.sub {l l' : List Operand} (hl : Like f f' l) (hs : ∀ x ∈ l', x ∈ l) : Like f f' l' := fun x hx => hl x (hs x hx)
theorem rop_like {o : Oper} (hl : Like f f' o.op.operands.toList) : rop P h f o = rop P h f' o := by
  obtain ⟨dst, op, ty, pos, after, guard⟩ := o
  cases op <;> simp only [rop]
  case move x => exact hl x (by simp [Op.operands])
  case assign x => exact hl x (by simp [Op.operands])
  case pick c a b =>
    simp only [rPick, hl c (by simp [Op.operands])]
    split
    · rename_i t _
      cases t
      · exact hl b (by simp [Op.operands])
      · exact hl a (by simp [Op.operands])
    · rfl
  case build t parts => rw [Like.parts (f := f) (f' := f') (hl.sub fun x hx => by simpa [Op.operands] using hx)]
  case load t a => simp only [rLoad, hl a (by simp [Op.operands])]
  case field t x k => simp only [rField, hl x (by simp [Op.operands])]
  case fieldAddr t x k => simp only [rFieldAddr, hl x (by simp [Op.operands])]
  case indexAddr t x i => simp only [rIndexAddr, hl x (by simp [Op.operands]), hl i (by simp [Op.operands])]
  case extract x i => simp only [rExtract, hl x (by simp [Op.operands])]
  case makeFunc fn first cap => simp only [rMakeFunc, Like.evs (hl.sub (l' := first.toList) fun x hx => by simp [Op.operands] at hx ⊢; exact .inl hx), Like.evs (hl.sub (l' := cap.toList) fun x hx => by simp [Op.operands] at hx ⊢; exact .inr hx)]
  case makeInterface t x => simp only [rIface, hl x (by simp [Op.operands])]
  case nilCheck x => simp only [rNil, hl x (by simp [Op.operands])]
  case slice t x lo hi mx =>
    have h1 := hl x (by simp [Op.operands])
    have h2 : ∀ d, f.bound lo d = f'.bound lo d := fun d => Like.bound (hl.sub fun y hy => by simp [Op.operands] at hy ⊢; exact .inr (.inl hy))
    have h3 : ∀ d, f.bound hi d = f'.bound hi d := fun d => Like.bound (hl.sub fun y hy => by simp [Op.operands] at hy ⊢; exact .inr (.inr (.inl hy)))
    have h5 : hi.bind (fun x => f.bound (some x) 0) = hi.bind (fun x => f'.bound (some x) 0) := by
      cases hi with
      | none => rfl
      | some y => exact h3 0
    have h6 : mx.bind (fun x => f.bound (some x) 0) = mx.bind (fun x => f'.bound (some x) 0) := by
      cases mx with
      | none => rfl
      | some m => exact Like.bound (x := some m) (d := 0) (hl.sub fun y hy => by simp [Op.operands] at hy ⊢; exact .inr (.inr (.inr hy)))
    simp only [rSlice, h1, h2, h3, h5, h6]
  case call c =>
    simp only [rCall]
    split
    · rename_i x t h1 h2 h3
      simp only [rLen, hl x (by simp [Op.operands, Call.operands, ← Array.mem_toList_iff, h2])]
    · rfl
theorem gop_like {o : Oper} (hl : Like f f' o.op.operands.toList) : gop P f o = gop P f' o := by
  unfold gop
  split
  · rfl
  · rename_i hs
    have h1 : (o.op.operands.toList.all fun x => ((f.ev x).bind AV.toV).isSome) = (o.op.operands.toList.all fun x => ((f'.ev x).bind AV.toV).isSome) := by
      have : ∀ {l : List Operand}, Like f f' l → (l.all fun x => ((f.ev x).bind AV.toV).isSome) = (l.all fun x => ((f'.ev x).bind AV.toV).isSome) := by
        intro l
        induction l with
        | nil => exact fun _ => rfl
        | cons x l ih => exact fun hl => by rw [List.all_cons, List.all_cons, hl x (List.mem_cons_self ..), ih fun y hy => hl y (List.mem_cons_of_mem _ hy)]
      exact this hl
    have h2 : execOp f.rawAt o = execOp f'.rawAt o := execOp_congr o (fun cs b e => by rw [e] at hs; simp [Op.isSelect] at hs) fun x hx => by
      simp only [AF.rawAt, hl x (by simpa using hx)]
    rw [h1, h2]
theorem src_like {x : Operand} {sz : Nat} (hx : f.ev x = f'.ev x) : srcA h f sz x = srcA h f' sz x := by simp only [srcA, hx]
theorem qop_like {o : Oper} (hl : Like f f' o.op.operands.toList) : qop P h f o = qop P h f' o := by
  have hmv : mvop P f o = mvop P f' o := by
    have hr := rop_like (P := P) (h := h) hl
    obtain ⟨dst, op, ty, pos, after, guard⟩ := o
    cases op <;> first | rfl | exact hr
  unfold qop qold
  rw [rop_like hl, gop_like hl, hmv]
  have : rApp P h f o.op = rApp P h f' o.op := by
    cases ho : o.op <;> simp only [rApp]
    rename_i c
    split
    · rename_i s x ts tx h1 h2 h3
      have m : ∀ y ∈ c.args.toList, y ∈ o.op.operands.toList := fun y hy => by rw [ho]; simp [Op.operands, Call.operands]; exact .inr (by simpa using hy)
      simp only [rAppend, src_like (hl x (m x (by simp [h2]))), hl s (m s (by simp [h2]))]
    · rfl
  rw [this]
theorem nop_like {o : Oper} (hl : Like f f' o.op.operands.toList) : nop P h f o = nop P h f' o := by
  obtain ⟨dst, op, ty, pos, after, guard⟩ := o
  cases op <;> simp only [nop]
  case box e x => rw [hl x (by simp [Op.operands])]
  case buildSlice t len parts => simp only [nBuild, Like.parts (f := f) (f' := f') (hl.sub (l' := (parts.toList.map (·.2))) fun x hx => by simpa [Op.operands] using hx)]
  case makeSlice t l c => simp only [nMake, hl l (by simp [Op.operands]), hl c (by simp [Op.operands])]
  case call c =>
    split
    · rename_i s x ts tx h1 h2 h3
      have m : ∀ y ∈ c.args.toList, y ∈ (Op.call c).operands.toList := fun y hy => by simp [Op.operands, Call.operands]; exact .inr (by simpa using hy)
      simp only [nAppend, src_like (hl x (m x (by simp [h2]))), hl s (m s (by simp [h2]))]
    · rfl
theorem call_like {o : Oper} {c : Call} {x : Operand} (hl : Like f f' o.op.operands.toList) (hc : o.op = .call c) (hx : c.callee = .value x) : f.ev x = f'.ev x ∧ f.evs c.args.toList = f'.evs c.args.toList := by
  rw [hc] at hl
  refine ⟨hl x (by simp [Op.operands, Call.operands, hx]), Like.evs (hl.sub fun y hy => ?_)⟩
  simp [Op.operands, Call.operands]; exact .inr (by simpa using hy)
end
end Go.Proofs.YtaoglkkdhdfioaaGreatDoor
