/- That the model runs so: operations, code. -/
import Derived.Test.YtaoglkkdhdfioaaDoorEvH
namespace Go.Proofs.YtaoglkkdhdfioaaDoor
open Go
section
variable {P : Program} {h h' : AH} {V : Mem} {res : Nat → Nat → Prop} {g q : Nat → Nat} {w : World} {f f' : AF} {a : Act}
theorem no_defer {ρ : Operand → Value} {o : Oper} {x : Next} {w w' : World} (h : (execOp ρ o).run P w = .ok x w') (hx : ∀ d, x ≠ .defer d) : ∀ c, o.op ≠ .defer c := by
  intro c hc
  unfold execOp at h
  simp only [hc, Sem.run_bind] at h
  cases hr : (resolve ρ c o.type).run P w with
  | ok d w1 =>
    rw [hr] at h
    simp at h
    exact hx d h.1.symm
  | halt hh w1 => rw [hr] at h; cases h
theorem about_ok {F : Fence} (hF : FOk F) (o : Oper) : ∀ f, o.about P w a.eval = some f → F.fn f := fun f _ => hF.fn f
theorem ops_val {F : Fence} {n : Nat} {ops : Array Oper} {i : Nat} {l : List Nat} {o : Oper} {Q : Exit → Act → World → Prop} {v : Value} {w' : World} (hF : FOk F) (ho : ops[i]? = some o) (hw : Region.wanted o (yielded ops a.tmps) = true)
    (hr : (execOp a.eval o).run P w = .ok (.value v) w' ∨ (execOp a.eval o).run P w = .ok .skip w' ∧ v = undef) (hk : wpOpsIn F n P ops Q l (a.put o.dst v) w') : wpOpsIn F n P ops Q (i :: l) a w := by
  simp only [wpOpsIn, ho, hw, if_true]
  refine ⟨about_ok hF o, ?_⟩
  rcases hr with hr | ⟨hr, rfl⟩
  · rw [Oper.semAt_eq _ _ _ (no_defer hr (fun d e => by cases e)), hr]
    exact hk
  · rw [Oper.semAt_eq _ _ _ (no_defer hr (fun d e => by cases e)), hr]
    exact hk
theorem ops_mono {F : Fence} {n : Nat} {ops : Array Oper} {Q Q' : Exit → Act → World → Prop} (hq : ∀ e a w, Q e a w → Q' e a w) : ∀ {l : List Nat} {a : Act} {w : World}, wpOpsIn F n P ops Q l a w → wpOpsIn F n P ops Q' l a w
  | [], a, w, h => hq _ _ _ h
  | i :: l, a, w, h => by
    simp only [wpOpsIn] at h ⊢
    cases ho : ops[i]? with
    | none => simp only [ho] at h ⊢; exact ops_mono hq h
    | some o =>
      simp only [ho] at h ⊢
      split
      · rename_i hw
        rw [if_pos hw] at h
        unfold Oper.wpIn at h ⊢
        refine ⟨h.1, ?_⟩
        have h := h.2
        generalize (o.semAt F.round a.eval).run P w = r at *
        cases r with
        | ok x w' =>
          cases x <;> simp only [Oper.uponIn] at h ⊢
          case value v => exact ops_mono hq h
          case skip => exact ops_mono hq h
          case defer d => exact ops_mono hq h
          case enter f args => exact ⟨h.1, CallsIn.mono h.2 fun e w'' he => by
            cases e with
            | returned v => exact ops_mono hq he
            | panicked c => exact hq _ _ _ he
            | outgrown => obtain ⟨a0, w0, h0⟩ := he; exact ⟨a0, w0, hq _ _ _ h0⟩⟩
          case row row args => exact ⟨h.1, RowsIn.mono h.2 fun _ _ he => ops_mono hq he⟩
          case round l' f' tmps' as' body' => exact ⟨h.1, RoundIn.mono h.2 fun e w'' he => by
            cases e with
            | returned v => exact ops_mono hq he
            | panicked c => exact hq _ _ _ he
            | outgrown => obtain ⟨a0, w0, h0⟩ := he; exact ⟨a0, w0, hq _ _ _ h0⟩⟩
        | halt x w' => cases x <;> simp only [Oper.uponIn] at h ⊢ <;> exact hq _ _ _ h
      · rename_i hw
        rw [if_neg hw] at h
        exact ⟨h.1, ops_mono hq h.2⟩
theorem codePost.up {V1 : Mem} {w1 w2 : World} {h2 h3 : AH} {e : Ex} {f' : AF} (ht : To V1 w1 (h2.mem res g q) w2) {e1 : Exit} {a1 : Act} {w3 : World} (k : codePost (h2.mem res g q) w2 h3 res e f' e1 a1 w3) : codePost V1 w1 h3 res e f' e1 a1 w3 := Post.trans ht k
theorem sound_off {ops : Array Oper} {i : Nat} {l : List Nat} {o : Oper} {out : Out} (ho : ops[i]? = some o) (hg : guardA ops f o = some false) (ih : Sound P (.ops ops l (f.put o.dst (.raw undef)) h) out) : Sound P (.ops ops (i :: l) f h) out := by
  cases out with
  | call r h' => exact ih
  | code e f' h' =>
    refine ⟨ih.1.trans (put_rnd ..), fun F n res g q a w hF hR hV hf => ?_⟩
    simp only [wpOpsIn, ho, guard_ok hf hg, Bool.false_eq_true, if_false]
    exact ⟨about_ok hF o, ih.2 F n res g q _ w hF (hR.fwd (Fwd.refl _ w) (put_rnd ..)) hV (hf.put (.raw _))⟩
theorem sound_q {ops : Array Oper} {i : Nat} {l : List Nat} {o : Oper} {out : Out} {y : AV} (ho : ops[i]? = some o) (hg : guardA ops f o = some true) (hy : qop P h f o = some y) (ih : Sound P (.ops ops l (f.put o.dst y) h) out) : Sound P (.ops ops (i :: l) f h) out := by
  cases out with
  | call r h' => exact ih
  | code e f' h' =>
    refine ⟨ih.1.trans (put_rnd ..), fun F n res g q a w hF hR hV hf => ?_⟩
    obtain ⟨v, h1, h2⟩ := qop_ok hV (Agr.mem _ _ _ _) hf hy
    exact ops_val hF ho (guard_ok hf hg) (.inl h1) (ih.2 F n res g q _ w hF (hR.fwd (Fwd.refl _ w) (put_rnd ..)) hV (hf.put h2))
theorem sound_s {ops : Array Oper} {i : Nat} {l : List Nat} {o : Oper} {out : Out} {y : AV} (ho : ops[i]? = some o) (hg : guardA ops f o = some true) (hy : QOk P h f o y) (ih : Sound P (.ops ops l (f.put o.dst y) h) out) : Sound P (.ops ops (i :: l) f h) out := by
  cases out with
  | call r h' => exact ih
  | code e f' h' =>
    refine ⟨ih.1.trans (put_rnd ..), fun F n res g q a w hF hR hV hf => ?_⟩
    obtain ⟨v, h1, h2⟩ := hy _ w f a hV (Agr.mem _ _ _ _) hf fun _ _ => rfl
    exact ops_val hF ho (guard_ok hf hg) (.inl h1) (ih.2 F n res g q _ w hF (hR.fwd (Fwd.refl _ w) (put_rnd ..)) hV (hf.put h2))
theorem sound_n {ops : Array Oper} {i : Nat} {l : List Nat} {o : Oper} {out : Out} {y : Nat → AV} {c : Cells} (ho : ops[i]? = some o) (hg : guardA ops f o = some true) (hy : nop P h f o = some (y, c)) (ih : Sound P (.ops ops l (f.put o.dst (y h.next)) (h.new (.cells c))) out) : Sound P (.ops ops (i :: l) f h) out := by
  cases out with
  | call r h' => exact ih
  | code e f' h' =>
    refine ⟨ih.1.trans (put_rnd ..), fun F n res g q a w hF hR hV hf => ?_⟩
    obtain ⟨v, w', h1, h2⟩ := nop_ok hV (Agr.mem _ _ _ _) hf hy
    obtain ⟨m, h3, h4⟩ := h2.to hV (not_born (h := h) (res := res) (g := g) (q := q)) h2.imm
    have h3 : To (h.mem res g q) w ((h.mem res g q).upd h.next (some (.cells c)) w.heap.size m) w' := h3
    have h4 : Den ((h.mem res g q).upd h.next (some (.cells c)) w.heap.size m) w' v (y h.next) := h4
    rw [← AH.mem_new] at h3 h4
    refine ops_val hF ho (guard_ok hf hg) (.inl h1) (ops_mono (fun e1 a1 w1 k => codePost.up h3 k) (ih.2 F n res _ _ _ w' hF (hR.fwd h3.fwd (put_rnd ..)) h3.rel ((hf.fwd h3.fwd).put h4)))
theorem sound_m {ops : Array Oper} {i : Nat} {l : List Nat} {o : Oper} {out : Out} {y : AV} (ho : ops[i]? = some o) (hg : guardA ops f o = some true) (hy : mop P h f o = some (y, h')) (ih : Sound P (.ops ops l (f.put o.dst y) h') out) : Sound P (.ops ops (i :: l) f h) out := by
  cases out with
  | call r h' => exact ih
  | code e f' h'' =>
    refine ⟨ih.1.trans (put_rnd ..), fun F n res g q a w hF hR hV hf => ?_⟩
    obtain ⟨v, w', g', q', h1, h3, h4⟩ := mop_ok hV hf hy
    exact ops_val hF ho (guard_ok hf hg) h1 (ops_mono (fun e1 a1 w1 k => codePost.up h3 k) (ih.2 F n res _ _ _ w' hF (hR.fwd h3.fwd (put_rnd ..)) h3.rel ((hf.fwd h3.fwd).put h4)))
theorem exec_call {o : Oper} {c : Call} {x : Operand} {fn : Fn} {v1 c1 : Array Value} (hc : o.op = .call c) (hx : c.callee = .value x) (hv : a.eval x = .func fn v1 c1) : execOp a.eval o = invoke (.fn fn c1) (v1 ++ c.args.map a.eval) := by
  unfold execOp
  simp only [hc, resolve, hx, hv, Deferred.ofValue]
  rfl
theorem call_den {x : Operand} {c : Call} {fn : Fn} {first cap args : List AV} (hf : FrDen V w f a) (hx : f.ev x = some (.clo fn first cap)) (ha : f.evs c.args.toList = some args) :
    ∃ v1 c1, a.eval x = .func fn v1 c1 ∧ DenL V w (v1 ++ c.args.map a.eval) (first ++ args) ∧ DenL V w c1 cap := by
  have hd := hf.ev hx
  generalize a.eval x = u at hd
  cases hd with
  | clo k1 k2 k3 k4 =>
    rename_i v1 c1
    have k5 := hf.evs ha
    have e1 : (c.args.toList.map a.eval).toArray = c.args.map a.eval := by apply Array.ext'; simp
    rw [e1] at k5
    refine ⟨v1, c1, rfl, ⟨by rw [Array.size_append, List.length_append, k1, k5.1], fun i x b h1 h2 => ?_⟩, k2, k4⟩
    by_cases hi : i < v1.size
    · rw [Array.getElem?_append_left hi] at h1
      rw [List.getElem?_append_left (by omega)] at h2
      exact k3 i x b h1 h2
    · rw [Array.getElem?_append_right (by omega)] at h1
      rw [List.getElem?_append_right (by omega), ← k1] at h2
      exact k5.2 _ x b h1 h2
theorem upon_call {F : Fence} {n : Nat} {o : Oper} {s : Sem Next} {next : Act → World → Prop} {Q : Exit → Act → World → Prop} {R : Ending → World → Prop} (hF : FOk F) (hc : CallOk F n P s w R)
    (h1 : ∀ v w', R (.returned v) w' → next (a.put o.dst v) w') (h2 : ∀ ch w', R (.panicked ch) w' → Q (.panic ch) a w') (h3 : ∀ w', ¬ R .outgrown w') : o.uponIn F n P a next Q (s.run P w) := by
  unfold CallOk at hc
  have hn : F.depth.isSome = true → 1 ≤ n := fun e => by rw [hF.depth] at e; cases e
  split at hc
  · rename_i f args w' hr
    rw [hr]
    exact ⟨hn, hc.mono fun e w' hr => by
      cases e with
      | returned v => exact h1 v w' hr
      | panicked ch => exact h2 ch w' hr
      | outgrown => exact (h3 w' hr).elim⟩
  · rename_i l f tmps as' body w' hr
    rw [hr]
    exact ⟨hn, hc.mono fun e w' hr => by
      cases e with
      | returned v => exact h1 v w' hr
      | panicked ch => exact h2 ch w' hr
      | outgrown => exact (h3 w' hr).elim⟩
  · rename_i v w' hr
    rw [hr]
    exact h1 v w' hc
  · exact hc.elim
theorem call_nodefer {o : Oper} {c : Call} (hc : o.op = .call c) : ∀ d, o.op ≠ .defer d := fun d e => by rw [hc] at e; cases e
theorem sound_call {ops : Array Oper} {i : Nat} {l : List Nat} {o : Oper} {out : Out} {c : Call} {x : Operand} {fn : Fn} {first cap args : List AV} {y : AV} (ho : ops[i]? = some o) (hg : guardA ops f o = some true) (hc : o.op = .call c) (hx : c.callee = .value x)
    (hfx : f.ev x = some (.clo fn first cap)) (ha : f.evs c.args.toList = some args) (ih1 : Sound P (.call fn (first ++ args) cap h) (.call (.ret y) h')) (ih : Sound P (.ops ops l (f.put o.dst y) h') out) : Sound P (.ops ops (i :: l) f h) out := by
  cases out with
  | call r h' => exact ih
  | code e f' h'' =>
    refine ⟨ih.1.trans (put_rnd ..), fun F n res g q a w hF hR hV hf => ?_⟩
    obtain ⟨v1, c1, e1, d1, d2⟩ := call_den hf hfx ha
    simp only [wpOpsIn, ho, guard_ok hf hg, if_true]
    refine ⟨about_ok hF o, ?_⟩
    rw [Oper.semAt_eq _ _ _ (call_nodefer hc), exec_call hc hx e1]
    refine upon_call hF (ih1 F n res g q _ _ w hF hV d1 d2) (fun v w' hr => ?_) (fun ch w' hr => ?_) fun w' hr => ?_
    · obtain ⟨g', q', h3, h4⟩ := hr
      exact ops_mono (fun e1 a1 w1 k => codePost.up h3 k) (ih.2 F n res _ _ _ w' hF (hR.fwd h3.fwd (put_rnd ..)) h3.rel ((hf.fwd h3.fwd).put h4))
    · obtain ⟨g', q', h3, h4⟩ := hr
      exact h4.elim
    · obtain ⟨g', q', h3, h4⟩ := hr
      exact h4.elim
theorem sound_calx {ops : Array Oper} {i : Nat} {l : List Nat} {o : Oper} {c : Call} {x : Operand} {fn : Fn} {first cap args : List AV} {y : AV} (ho : ops[i]? = some o) (hg : guardA ops f o = some true) (hc : o.op = .call c) (hx : c.callee = .value x)
    (hfx : f.ev x = some (.clo fn first cap)) (ha : f.evs c.args.toList = some args) (ih1 : Sound P (.call fn (first ++ args) cap h) (.call (.pan y) h')) : Sound P (.ops ops (i :: l) f h) (.code (.pan y) f h') := by
  refine ⟨rfl, fun F n res g q a w hF hR hV hf => ?_⟩
  obtain ⟨v1, c1, e1, d1, d2⟩ := call_den hf hfx ha
  simp only [wpOpsIn, ho, guard_ok hf hg, if_true]
  refine ⟨about_ok hF o, ?_⟩
  rw [Oper.semAt_eq _ _ _ (call_nodefer hc), exec_call hc hx e1]
  refine upon_call hF (ih1 F n res g q _ _ w hF hV d1 d2) (fun v w' hr => ?_) (fun ch w' hr => ?_) fun w' hr => ?_
  · obtain ⟨g', q', h3, h4⟩ := hr
    exact h4.elim
  · obtain ⟨g', q', h3, h4⟩ := hr
    exact ⟨g', q', h3, h4, hf.fwd h3.fwd⟩
  · obtain ⟨g', q', h3, h4⟩ := hr
    exact h4.elim
theorem sound_panic {ops : Array Oper} {i : Nat} {l : List Nat} {o : Oper} {x : Operand} {t : TypeId} {y : AV} (ho : ops[i]? = some o) (hg : guardA ops f o = some true) (hc : o.op = .panic x) (hx : f.ev x = some (.ifc t y)) : Sound P (.ops ops (i :: l) f h) (.code (.pan (.ifc t y)) f h) := by
  refine ⟨rfl, fun F n res g q a w hF hR hV hf => ?_⟩
  simp only [wpOpsIn, ho, guard_ok hf hg, if_true]
  refine ⟨about_ok hF o, ?_⟩
  have hd := hf.ev hx
  have he : ∃ u, a.eval x = .iface t u := by
    generalize a.eval x = u at hd
    cases hd; exact ⟨_, rfl⟩
  obtain ⟨u, hu⟩ := he
  have hr : (execOp a.eval o).run P w = .halt (.panic (.iface t u)) w := by
    unfold execOp
    simp [hc, hu, Instr.panic, goPanic, Sem.run]
  rw [Oper.semAt_eq _ _ _ (fun c e => by rw [hc] at e; cases e), hr]
  exact ⟨g, q, To.refl hV, ⟨_, rfl, hu ▸ hd⟩, hf⟩
theorem post_refl {e : Ex} {e1 : Exit} (hV : Rel (h.mem res g q) w) (hf : FrDen (h.mem res g q) w f a) (he : EDen (h.mem res g q) w e1 e) : codePost (h.mem res g q) w h res e f e1 a w := ⟨g, q, To.refl hV, he, hf⟩
theorem sound_skip : SoundC P .skip f h .normal f h := ⟨rfl, fun F n res g q a w hF hR hV hf => wpIn_skip (post_refl hV hf trivial)⟩
theorem sound_label {n : Nat} : SoundC P (.label n) f h .normal f h := ⟨rfl, fun F n res g q a w hF hR hV hf => wpIn_label (post_refl hV hf trivial)⟩
theorem sound_exit {id : Nat} : SoundC P (.exit id) f h (.exit id) f h := ⟨rfl, fun F n res g q a w hF hR hV hf => wpIn_exit (post_refl hV hf rfl)⟩
theorem sound_ret : SoundC P .ret f h .ret f h := ⟨rfl, fun F n res g q a w hF hR hV hf => wpIn_ret (post_refl hV hf trivial)⟩
theorem eden_normal {V : Mem} {w : World} {e : Exit} (h : EDen V w e .normal) : e = .normal := by
  cases e <;> first | rfl | exact h.elim
theorem eden_not {V : Mem} {w : World} {e : Exit} {x : Ex} (h : EDen V w e x) (hx : x ≠ .normal) : e ≠ .normal := by
  rintro rfl
  cases x <;> first | exact hx rfl | exact h.elim
theorem sound_seq {c d : Code} {f1 f2 : AF} {h1 h2 : AH} {e : Ex} (k1 : SoundC P c f h .normal f1 h1) (k2 : SoundC P d f1 h1 e f2 h2) : SoundC P (.seq c d) f h e f2 h2 := by
  refine ⟨k2.1.trans k1.1, fun F n res g q a w hF hR hV hf => wpIn_seq (wpIn_mono (k1.2 F n res g q a w hF hR hV hf) fun e1 a1 w1 hp => ?_)⟩
  obtain ⟨g', q', ht, he, hf1⟩ := hp
  obtain rfl := eden_normal he
  exact wpIn_mono (k2.2 F n res g' q' a1 w1 hF (hR.fwd ht.fwd k1.1) ht.rel hf1) fun e2 a2 w2 k => codePost.up ht k
theorem then_skip {K : Act → World → Prop} {Q : Exit → Act → World → Prop} {e : Exit} {a : Act} {w : World} (he : e ≠ .normal) (hq : Q e a w) : Exit.then K Q e a w := by
  cases e <;> first | exact absurd rfl he | exact hq
theorem sound_seqx {c d : Code} {f1 : AF} {h1 : AH} {e : Ex} (k1 : SoundC P c f h e f1 h1) (he : e ≠ .normal) : SoundC P (.seq c d) f h e f1 h1 :=
  ⟨k1.1, fun F n res g q a w hF hR hV hf => wpIn_seq (wpIn_mono (k1.2 F n res g q a w hF hR hV hf) fun e1 a1 w1 hp => by
    obtain ⟨g', q', ht, hed, hf1⟩ := hp
    exact then_skip (eden_not hed he) ⟨g', q', ht, hed, hf1⟩)⟩
theorem sound_cond {x : Operand} {c d : Code} {b : Bool} {f1 : AF} {h1 : AH} {e : Ex} (hb : f.ev x = some (.raw (.bool b))) (k1 : SoundC P (if b then c else d) f h e f1 h1) : SoundC P (.cond x c d) f h e f1 h1 :=
  ⟨k1.1, fun F n res g q a w hF hR hV hf => wpIn_cond (den_bool (hf.ev hb)) (k1.2 F n res g q a w hF hR hV hf)⟩
theorem sound_block {id : Nat} {c : Code} {f1 : AF} {h1 : AH} {e : Ex} (k1 : SoundC P c f h e f1 h1) (he : e ≠ .exit id) : SoundC P (.block id c) f h e f1 h1 :=
  ⟨k1.1, fun F n res g q a w hF hR hV hf => wpIn_block (wpIn_mono (k1.2 F n res g q a w hF hR hV hf) fun e1 a1 w1 hp => by
    obtain ⟨g', q', ht, hed, hf1⟩ := hp
    cases e1 with
    | exit id' =>
      have : id' ≠ id := by
        rintro rfl
        cases e <;> first | exact hed.elim | exact he (by rw [show id' = _ from hed])
      simp only [Exit.inBlock, this, if_false]
      exact ⟨g', q', ht, hed, hf1⟩
    | normal => exact ⟨g', q', ht, hed, hf1⟩
    | goto l => exact ⟨g', q', ht, hed, hf1⟩
    | ret => exact ⟨g', q', ht, hed, hf1⟩
    | panic ch => exact ⟨g', q', ht, hed, hf1⟩
    | outgrown => exact ⟨g', q', ht, hed, hf1⟩)⟩
theorem sound_blockx {id : Nat} {c : Code} {f1 : AF} {h1 : AH} (k1 : SoundC P c f h (.exit id) f1 h1) : SoundC P (.block id c) f h .normal f1 h1 :=
  ⟨k1.1, fun F n res g q a w hF hR hV hf => wpIn_block (wpIn_mono (k1.2 F n res g q a w hF hR hV hf) fun e1 a1 w1 hp => by
    obtain ⟨g', q', ht, hed, hf1⟩ := hp
    cases e1 <;> try exact hed.elim
    rename_i id'
    have : id' = id := hed
    simp only [Exit.inBlock, this, if_true]
    exact ⟨g', q', ht, trivial, hf1⟩)⟩
theorem least (p : Nat → Prop) (h : ∃ k, p k) : ∃ m, p m ∧ ∀ k, p k → m ≤ k := by
  obtain ⟨k, hk⟩ := h
  induction k using Nat.strongRecOn with
  | _ k ih =>
    by_cases hs : ∃ j, j < k ∧ p j
    · obtain ⟨j, hj, hp⟩ := hs
      exact ih j hj hp
    · exact ⟨k, hk, fun j hj => Nat.le_of_not_lt fun hlt => hs ⟨j, hlt, hj⟩⟩
theorem sound_loop {c : Code} {k : Nat} {f1 : AF} {h1 : AH} {e : Ex} (k1 : Chain P c k f h e f1 h1) : SoundC P (.loop c) f h e f1 h1 := by
  have hrnd : ∀ (k : Nat) (f : AF) (h : AH), Chain P c k f h e f1 h1 → f1.rnd = f.rnd := by
    intro k
    induction k with
    | zero => exact fun f h hk => hk.1.1
    | succ k ih => exact fun f h hk => by obtain ⟨f2, h2, k2, k3⟩ := hk; exact (ih _ _ k3).trans k2.1
  refine ⟨hrnd _ _ _ k1, fun F n res g q a w hF hR hV hf => ?_⟩
  classical
  let I : Nat → Act → World → Prop := fun k a' w' => ∃ f' h' g' q', Chain P c k f' h' e f1 h1 ∧ To (h.mem res g q) w (h'.mem res g' q') w' ∧ ROk F (h'.mem res g' q') f' ∧ FrDen (h'.mem res g' q') w' f' a'
  have h0 : I k a w := ⟨f, h, g, q, k1, To.refl hV, hR, hf⟩
  refine wpIn_loop (fun a' w' => ∃ k, I k a' w') (fun a' w' => if hx : ∃ k, I k a' w' then Classical.choose (least _ hx) else 0) ⟨k, h0⟩ fun a' w' hI => ?_
  rw [dif_pos hI]
  generalize hm : Classical.choose (least _ hI) = m
  have hIm : I m a' w' := hm ▸ (Classical.choose_spec (least _ hI)).1
  obtain ⟨f', h', g', q', hc, ht, hR', hf'⟩ := hIm
  cases m with
  | zero =>
    refine wpIn_mono (hc.1.2 F n res g' q' a' w' hF hR' ht.rel hf') fun e1 a1 w1 hp => ?_
    have hp2 := codePost.up ht hp
    obtain ⟨g2, q2, t2, hed, hf2⟩ := hp2
    exact then_skip (eden_not hed hc.2) ⟨g2, q2, t2, hed, hf2⟩
  | succ m =>
    obtain ⟨f2, h2, k2, k3⟩ := hc
    refine wpIn_mono (k2.2 F n res g' q' a' w' hF hR' ht.rel hf') fun e1 a1 w1 hp => ?_
    obtain ⟨g3, q3, t3, hed, hf2⟩ := hp
    obtain rfl := eden_normal hed
    have hIn : I m a1 w1 := ⟨f2, h2, g3, q3, k3, ht.trans t3, hR'.fwd t3.fwd k2.1, hf2⟩
    refine ⟨⟨m, hIn⟩, ?_⟩
    rw [dif_pos ⟨m, hIn⟩]
    have := (Classical.choose_spec (least _ (⟨m, hIn⟩ : ∃ k, I k a1 w1))).2 m hIn
    omega
theorem sound_region {id : Nat} {ops : Array Oper} {f1 : AF} {h1 : AH} {e : Ex} (k1 : Sound P (.ops ops (List.range ops.size) f h) (.code e f1 h1)) : SoundC P (.region id ops false) f h e f1 h1 :=
  ⟨k1.1, fun F n res g q a w hF hR hV hf => Go.wpIn_region (k1.2 F n res g q a w hF hR hV hf)⟩
end
end Go.Proofs.YtaoglkkdhdfioaaDoor
