/- That the model runs so: ranges over functions. -/
import Derived.Test.YtaoglkkdhdfioaaDoorEvL
import Derived.RangeFuncNested
namespace Go.Proofs.YtaoglkkdhdfioaaDoor
open Go
section
variable {P : Program} {h h' : AH} {V : Mem} {res : Nat → Nat → Prop} {g q : Nat → Nat} {w : World} {f f' : AF} {a : Act}
/-- a loop's record turned -/
theorem loop_put {r : Nat} {L L' : ALoop} {fn : FuncId} {T : Array Value} (hV : Rel (h.mem res g q) w) (hr : h.get r = some (.loop L)) (e1 : L'.tmps = L.tmps) (e2 : L'.params = L.params) (e3 : L'.assign = L.assign) (e4 : L'.body = L.body) (e5 : L'.mark = L.mark)
    (hT : w.heap[g r]? = some (.loop { state := L.st, pending := L.pending, fn, tmps := T, params := L.params, assign := L.assign, body := L.body, defers := g L.mark })) :
    To (h.mem res g q) w ((h.put r (.loop L')).mem res g q) (w.putObj (g r) (.loop { state := L'.st, pending := L'.pending, fn, tmps := T, params := L.params, assign := L.assign, body := L.body, defers := g L.mark })) := by
  have hr' : (h.mem res g q).blk r = some (.loop L) := hr
  have hlt : g r < w.heap.size := heap_lt hT
  obtain ⟨k0, fn', T', k1, k2, k3⟩ := hV.loop r L hr'
  have k1 : w.heap[g r]? = _ := k1
  rw [hT] at k1
  injection k1 with k1
  injection k1 with k1
  injection k1 with _ _ _ kT
  subst kT
  rw [← put_same r _ (hV.live r _ hr').1]
  generalize hw : w.putObj (g r) (.loop { state := L'.st, pending := L'.pending, fn, tmps := T, params := L.params, assign := L.assign, body := L.body, defers := g L.mark }) = w'
  have hsame : w'.heap[g r]? = some (.loop { state := L'.st, pending := L'.pending, fn, tmps := T, params := L.params, assign := L.assign, body := L.body, defers := g L.mark }) := by rw [← hw]; exact World.putObj_heap_same hlt
  have hoth : ∀ b, b ≠ g r → w'.heap[b]? = w.heap[b]? := fun b hb => by rw [← hw]; exact World.putObj_heap_other hb
  have hs : w'.heap.size = w.heap.size := by rw [← hw]; exact World.putObj_size
  have hf : Fwd (h.mem res g q) w ((h.mem res g q).upd r (some (.loop L')) (g r) (q r)) w' := by
    refine ⟨fun b i x h1 h2 => ?_, fun s hs => .inl hs, fun s c hb hc => ?_, fun s l hb hl => ?_, fun s hm => ?_⟩
    · have hne : b ≠ g r := by
        rintro rfl
        simp [World.cell?, hT] at h2
      refine ⟨⟨by rw [hs]; exact h1.1, h1.2.1, fun s c e1 e2 => ?_⟩, by rw [cell_of_heap (hoth b hne)]; exact h2⟩
      by_cases e : s = r
      · subst e; simp at e1
      · rw [Mem.upd_blk_ne e] at e1
        rw [Mem.upd_pos_ne e] at e2
        exact h1.2.2 s c e1 e2
    · by_cases e : s = r
      · subst e; simp at hc
      · rw [Mem.upd_blk_ne e] at hc
        exact ⟨c, hc, Nat.le_refl _, fun _ => ⟨Mem.upd_pos_ne e, Mem.upd_room_ne e, rfl, rfl⟩⟩
    · by_cases e : s = r
      · subst e; exact ⟨L, hr', by simp; rfl⟩
      · rw [Mem.upd_blk_ne e] at hl
        exact ⟨l, hl, Mem.upd_pos_ne e⟩
    · have e : s ≠ r := by
        rintro rfl
        rw [hr'] at hm; cases hm
      exact ⟨(Mem.upd_blk_ne e).trans hm, Mem.upd_pos_ne e⟩
  refine ⟨rel_upd hV hf (.inl ⟨rfl, _, hr'⟩) (by omega) (by omega) (fun s o hs' ho => hoth _ fun e => hs' (hV.apart s r o _ ho hr' e)) (fun o ho e => by rw [hr'] at ho; rw [e] at ho; cases ho) (fun c hc => by cases hc) (fun l hl => ?_) (fun hm => by cases hm), hf, ⟨by rw [← hw]; rfl, by rw [← hw]; rfl, by rw [← hw]; rfl, by omega, fun b hb hn => hoth b fun e => hn r _ hr' e.symm⟩, fun s o hs => ?_⟩
  · injection hl with hl
    subst hl
    refine ⟨fun e => ?_, by rw [e5]; exact k0, fn, T, by rw [e2, e3, e4, e5]; exact hsame, by rw [e1]; exact k2, fun i b j2 => by obtain ⟨x, j1, j3⟩ := k3 i b (by rw [← e1]; exact j2); exact ⟨x, j1, j3.fwd hf⟩⟩
    rw [e5] at e
    rw [e, hr'] at k0
    cases k0
  · by_cases e : s = r
    · subst e; exact .inr ⟨s, _, hr', by simp; rfl⟩
    · rw [Mem.upd_blk_ne e] at hs
      exact .inr ⟨s, o, hs, by rw [Mem.upd_pos_ne e]⟩
theorem given_den (hg : Glob V w) : ∀ {ps : List Tmp} {us : List Value} {T : Array Value} {t : Slots} {args : List AV}, us.length = args.length → DenL V w us.toArray args → DenS V w T t → DenS V w ((ps.zip us).foldl (fun (T : Array Value) (p : Tmp × Value) => T.setIfInBounds p.1 p.2) T) (givenA t ps args)
  | [], us, T, t, args, _, _, hd => hd
  | p :: ps, [], T, t, [], _, _, hd => hd
  | p :: ps, [], T, t, b :: args, hl, _, _ => by simp at hl
  | p :: ps, u :: us, T, t, [], hl, _, _ => by simp at hl
  | p :: ps, u :: us, T, t, b :: args, hl, ha, hd => by
    have h0 : Den V w u b := ha.2 0 u b rfl rfl
    have hrest : DenL V w us.toArray args := ⟨by simpa using hl, fun i x c k1 k2 => ha.2 (i + 1) x c (by simpa using k1) (by simpa using k2)⟩
    have hset : DenS V w (T.setIfInBounds p u) (t.set p b) := by
      have := (FrDen.put (f := ⟨t, [], none⟩) (a := ⟨T, []⟩) (d := some p) ⟨hd, rfl, fun m hm => (by cases hm), List.nodup_nil, hg⟩ h0).tmps
      exact this
    exact given_den hg (ps := ps) (by simpa using hl) hrest hset
theorem sound_yld {r : Nat} {args : List AV} {h1 h3 : AH} {L L3 : ALoop} {f1 f2 : AF} {e : Ex} {b : Bool} {st : LoopState} {pe : Option Code} (hl : h.get r = some (.loop L)) (hs : L.st = .ready) (ha : args.length = L.params.size)
    (k1 : SoundC P L.assign ⟨givenA L.tmps L.params.toList args, [], some r⟩ h .normal f1 h1) (hl1 : h1.get r = some (.loop L)) (k2 : SoundC P L.body f1 (h1.put r (.loop { L with st := .busy })) e f2 h3) (hl3 : h3.get r = some (.loop L3))
    (he : leftA e = some (b, st, pe)) : Sound P (.yld r args h) (.call (.ret (.raw (.bool b))) (h3.put r (.loop { L3 with st := st, pending := pe }))) := by
  refine ⟨⟨L, hl⟩, fun F n res g q us w hF hV hu => ?_⟩
  have hlV : (h.mem res g q).blk r = some (.loop L) := hl
  obtain ⟨m0, fn, T, m1, m2, m3⟩ := hV.loop r L hlV
  have hy := run_yield (P := P) (args := us) m1 (by rw [hu.1, ha])
  have hy : (Instr.yield (g r) us).run P w = _ := hy
  unfold CallOk
  rw [hy]
  refine roundIn_of_wpIn (hF.fn _) ?_
  have hfr : FrDen (h.mem res g q) w ⟨givenA L.tmps L.params.toList args, [], some r⟩ { tmps := (L.params.zip us).foldl (fun tmps (t, a) => tmps.setIfInBounds t a) T, defers := [] } := by
    refine ⟨?_, rfl, fun m hm => (by cases hm), List.nodup_nil, hV.glob⟩
    have := given_den hV.glob (ps := L.params.toList) (us := us.toList) (by rw [← hu.1]; simp) (by simpa using hu) ⟨m2, m3⟩
    have e : (L.params.zip us).foldl (fun (tmps : Array Value) (p : Tmp × Value) => tmps.setIfInBounds p.1 p.2) T = (L.params.toList.zip us.toList).foldl (fun (tmps : Array Value) (p : Tmp × Value) => tmps.setIfInBounds p.1 p.2) T := by
      rw [← Array.foldl_toList, Array.toList_zip]
    show DenS _ _ ((L.params.zip us).foldl (fun (tmps : Array Value) (p : Tmp × Value) => tmps.setIfInBounds p.1 p.2) T) _
    rw [e]; exact this
  have hFr : FOk (F.inRound (g r)) := ⟨hF.fn, hF.depth, hF.alive⟩
  have hR : ROk (F.inRound (g r)) (h.mem res g q) ⟨givenA L.tmps L.params.toList args, [], some r⟩ := ⟨rfl, fun s hs' => by injection hs' with hs'; subst hs'; exact (hV.live _ _ hlV).1, fun s l hs' _ => by injection hs' with hs'; subst hs'; rfl⟩
  refine wpIn_mono (k1.2 (F.inRound (g r)) (n - 1) res g q _ w hFr hR hV hfr) fun e1 a1 w1 hp => ?_
  obtain ⟨g1, q1, t1, d1, f1d⟩ := hp
  obtain rfl := eden_normal d1
  have hl1V : (h1.mem res g1 q1).blk r = some (.loop L) := hl1
  obtain ⟨_, _, hpos⟩ := t1.fwd.loop r L (hV.live _ _ hlV).1 hl1V
  have hpos : g1 r = g r := hpos
  obtain ⟨n0, fn1, T1, n1, n2, n3⟩ := t1.rel.loop r L hl1V
  have n1' : w1.heap[g1 r]? = _ := n1
  have hbeg := run_beginRound (P := P) n1' hs
  have tp := loop_put (L' := { L with st := .busy }) t1.rel hl1 rfl rfl rfl rfl rfl n1'
  show ∃ w₂, (Instr.beginRound (g r)).run P w1 = .ok () w₂ ∧ L.body.wpIn (F.inRound (g r)) (n - 1) P (roundPost P (g r) fun e w1 => Post (h.mem res g q) w (h3.put r (.loop { L3 with st := st, pending := pe })) res (fun V' w' => RDen V' w' e (.ret (.raw (.bool b)))) w1) a1 w₂
  rw [← hpos]
  refine ⟨_, hbeg, ?_⟩
  rw [← hpos] at hR hFr
  refine wpIn_mono (k2.2 (F.inRound (g1 r)) (n - 1) res g1 q1 _ _ hFr ((hR.fwd t1.fwd k1.1).fwd tp.fwd rfl) tp.rel (f1d.fwd tp.fwd)) fun e2 a2 w3 hp2 => ?_
  obtain ⟨g3, q3, t3, d3, f3d⟩ := hp2
  have hl3V : (h3.mem res g3 q3).blk r = some (.loop L3) := hl3
  obtain ⟨_, _, hpos3⟩ := t3.fwd.loop r L3 (tp.fwd.born r (t1.fwd.born r (hV.live _ _ hlV).1)) hl3V
  have hpos3 : g3 r = g1 r := hpos3
  obtain ⟨p0, fn3, T3, p1, p2, p3⟩ := t3.rel.loop r L3 hl3V
  have p1' : w3.heap[g3 r]? = _ := p1
  have tot := t1.trans (tp.trans t3)
  cases e <;> simp only [leftA, Option.some.injEq, Prod.mk.injEq, reduceCtorEq] at he
  · obtain ⟨rfl, rfl, rfl⟩ := he
    obtain rfl := eden_normal d3
    have hend := run_endRound (P := P) none p1'
    have tq := loop_put (L' := { L3 with st := .ready, pending := none }) t3.rel hl3 rfl rfl rfl rfl rfl p1'
    rw [hpos3] at hend
    exact ⟨_, _, hend, g3, q3, tot.trans (by rw [hpos3] at tq; exact tq), .raw _⟩
  · obtain ⟨rfl, rfl, rfl⟩ := he
    cases e2 <;> try exact d3.elim
    have d3 : _ = _ := d3
    subst d3
    rename_i id
    have hend := run_endRound (P := P) (some (.exit id)) p1'
    have tq := loop_put (L' := { L3 with st := .done, pending := some (.exit id) }) t3.rel hl3 rfl rfl rfl rfl rfl p1'
    rw [hpos3] at hend
    exact ⟨_, _, hend, g3, q3, tot.trans (by rw [hpos3] at tq; exact tq), .raw _⟩
  · obtain ⟨rfl, rfl, rfl⟩ := he
    cases e2 <;> try exact d3.elim
    have hend := run_endRound (P := P) (some .ret) p1'
    have tq := loop_put (L' := { L3 with st := .done, pending := some .ret }) t3.rel hl3 rfl rfl rfl rfl rfl p1'
    rw [hpos3] at hend
    exact ⟨_, _, hend, g3, q3, tot.trans (by rw [hpos3] at tq; exact tq), .raw _⟩
theorem sound_yield {ops : Array Oper} {i r : Nat} {l : List Nat} {o : Oper} {out : Out} {c : Call} {x : Operand} {args : List AV} {y : AV} (ho : ops[i]? = some o) (hg : guardA ops f o = some true) (hc : o.op = .call c) (hx : c.callee = .value x)
    (hfx : f.ev x = some (.yld r)) (ha : f.evs c.args.toList = some args) (ih1 : Sound P (.yld r args h) (.call (.ret y) h')) (ih : Sound P (.ops ops l (f.put o.dst y) h') out) : Sound P (.ops ops (i :: l) f h) out := by
  cases out with
  | call r h' => exact ih
  | code e f' h'' =>
    refine ⟨ih.1.trans (put_rnd ..), fun F n res g q a w hF hR hV hf => ?_⟩
    obtain ⟨⟨L, hL⟩, hs⟩ := ih1
    have hd := hf.ev hfx
    have hev : a.eval x = .func (.yield (g r)) #[] #[] := by
      generalize a.eval x = u at hd
      cases hd with
      | yld hv hb hh => exact hh L hL
    have k5 := hf.evs ha
    have e1 : (c.args.toList.map a.eval).toArray = c.args.map a.eval := by apply Array.ext'; simp
    rw [e1] at k5
    simp only [wpOpsIn, ho, guard_ok hf hg, if_true]
    refine ⟨about_ok hF o, ?_⟩
    rw [Oper.semAt_eq _ _ _ (call_nodefer hc), exec_call hc hx hev]
    have : invoke (.fn (.yield (g r)) #[]) (#[] ++ c.args.map a.eval) = Instr.yield (g r) (c.args.map a.eval) := by simp [invoke]
    rw [this]
    refine upon_call hF (hs F n res g q _ w hF hV k5) (fun v w' hr => ?_) (fun ch w' hr => ?_) fun w' hr => ?_
    · obtain ⟨g', q', h3, h4⟩ := hr
      exact ops_mono (fun e1 a1 w1 k => codePost.up h3 k) (ih.2 F n res _ _ _ w' hF (hR.fwd h3.fwd (put_rnd ..)) h3.rel ((hf.fwd h3.fwd).put h4))
    · obtain ⟨g', q', h3, h4⟩ := hr
      exact h4.elim
    · obtain ⟨g', q', h3, h4⟩ := hr
      exact h4.elim
/-! ### The statement itself -/
theorem to_obj {w' : World} {r : Nat} {o : Blk} {ob : Obj} (hV : Rel V w) (hr : ¬ V.born r) (hw : w' = w.alloc ob) (hc : ∀ c, o ≠ .cells c)
    (hl : ∀ l, o = .loop l → l.mark ≠ r ∧ V.blk l.mark = some .mark ∧ ∃ (fn : FuncId) (T : Array Value), ob = .loop { state := l.st, pending := l.pending, fn, tmps := T, params := l.params, assign := l.assign, body := l.body, defers := V.pos l.mark } ∧ DenS V w T l.tmps)
    (hm : o = .mark → ob = .deferred (some [])) : To V w (V.upd r (some o) w.heap.size 0) w' := by
  subst hw
  have hk : ∀ b, b < w.heap.size → (w.alloc ob).heap[b]? = w.heap[b]? := fun b hb => push_old hb
  have hs : (w.alloc ob).heap.size = w.heap.size + 1 := by simp
  have hnew : (w.alloc ob).heap[w.heap.size]? = some ob := push_new
  have hf : Fwd V w (V.upd r (some o) w.heap.size 0) (w.alloc ob) := fwd_new hV hr (by omega) hk (Nat.le_refl _)
  refine ⟨rel_upd hV hf (.inr (Nat.le_refl _)) (by omega) (by omega) (fun s q _ hq => hk _ (hV.live s q hq).2) (fun q hq => absurd (hV.live r q hq).1 hr) (fun c e => absurd e (hc c)) (fun l e => ?_) (fun e => by rw [hnew, hm e]), hf, ⟨rfl, rfl, rfl, by omega, fun b hb _ => hk b hb⟩, fun s p hs => ?_⟩
  · obtain ⟨h1, h2, fn, T, h3, h4⟩ := hl l e
    exact ⟨h1, h2, fn, T, by rw [hnew, h3], (h4.fwd hf).1, (h4.fwd hf).2⟩
  · by_cases e : s = r
    · subst e; exact .inl (by simp)
    · rw [Mem.upd_blk_ne e] at hs
      exact .inr ⟨s, p, hs, by rw [Mem.upd_pos_ne e]⟩
theorem range_call {G : Nat} {fn : Func} {c : Code} {gx : Operand} {first cap : List AV} {l : Nat} {v1 c1 : Array Value} (hf : P.funcs[G]? = some fn) (hb : fn.body = some c) (hn : (fn.name == "runtime.NumGoroutine") = false) (hev : a.eval gx = .func (.func G) v1 c1) :
    (resolve a.eval (rangeCall gx l) 0).run P w = .ok { target := .fn (.func G) c1, args := v1 ++ #[.func (.yield l) #[] #[]] } w ∧ (invoke (.fn (.func G) c1) (v1 ++ #[.func (.yield l) #[] #[]])).run P w = .ok (.enter G ((v1 ++ #[.func (.yield l) #[] #[]]) ++ c1)) w := by
  refine ⟨?_, enters_of hf hn hb _ w⟩
  have e : (#[Operand.const (.func (.yield l) #[] #[])]).map a.eval = #[.func (.yield l) #[] #[]] := by simp [Act.eval]
  simp only [resolve, hev, Deferred.ofValue, e]
  rfl
theorem callOk_calls {F : Fence} {n G : Nat} {fn : Func} {c : Code} {us cs : Array Value} {R : Ending → World → Prop} (hf : P.funcs[G]? = some fn) (hb : fn.body = some c) (hn : (fn.name == "runtime.NumGoroutine") = false) (hc : CallOk F n P (invoke (.fn (.func G) cs) us) w R) : CallsIn F (n - 1) P G (us ++ cs) w R := by
  have he : (invoke (.fn (.func G) cs) us).run P w = .ok (.enter G (us ++ cs)) w := enters_of hf hn hb (us ++ cs) w
  unfold CallOk at hc
  rw [he] at hc
  exact hc
/-- behind the call -/
theorem range_end {F : Fence} {n r : Nat} {h2 : AH} {L : ALoop} {Q : Exit → Act → World → Prop} {a' : Act} {f' : AF} {g2 q2 : Nat → Nat} {w2 : World} (hV0 : Rel V w) (ht : To V w (h2.mem res g2 q2) w2) (hr : ¬ V.born r) (hl : h2.get r = some (.loop L)) (hs : L.st ≠ .busy) (hfd : FrDen (h2.mem res g2 q2) w2 f' a')
    (hq : ∀ w3, To V w ((h2.drop1 r).mem res g2 q2) w3 → FrDen ((h2.drop1 r).mem res g2 q2) w3 f' a' → match L.pending with | none => Q .normal a' w3 | some j => j.wpIn F n P Q a' w3) :
    ∃ jump w4, (Instr.endLoop (g2 r)).run P w2 = .ok jump w4 ∧ (match jump with | none => Q .normal a' w4 | some c => c.wpIn F n P Q a' w4) := by
  obtain ⟨m0, fn, T, m1, m2, m3⟩ := ht.rel.loop r L hl
  have m1' : w2.heap[g2 r]? = _ := m1
  have hne : ∀ s l, h2.get s = some (.loop l) → l.mark ≠ r := fun s l hs' e => by
    have := (ht.rel.loop s l hs').1
    have : h2.get l.mark = some .mark := this
    rw [e, hl] at this
    cases this
  obtain ⟨t1, d1⟩ := drop1_any (ob := .loop { state := .exhausted, pending := L.pending, fn, tmps := T, params := L.params, assign := L.assign, body := L.body, defers := g2 L.mark }) hV0 ht hl (fun i => by simp [World.cell?, m1']) hr hne
  refine ⟨_, _, run_endLoop m1' hs, ?_⟩
  refine hq _ t1 ⟨⟨hfd.tmps.1, fun i b k2 => by obtain ⟨x, k1, k3⟩ := hfd.tmps.2 i b k2; exact ⟨x, k1, d1 x b k3⟩⟩, hfd.defers, fun m hm => ?_, hfd.nodup, t1.rel.glob⟩
  have hmm : h2.get m = some .mark := hfd.marks m hm
  have hget : (h2.drop1 r).get m = if m = r then none else h2.get m := AH.find_without _ _ _
  show (h2.drop1 r).get m = _
  rw [hget, if_neg]
  · exact hmm
  · rintro rfl
    rw [hl] at hmm; cases hmm
theorem sound_rangeO {G : Nat} {fn : Func} {c assign body : Code} {gx : Operand} {ps : Array Tmp} {h2 h3 : AH} {first cap : List AV} {y : AV} {L : ALoop} {e : Ex} (hg : f.ev gx = some (.clo (.func G) first cap)) (hf : P.funcs[G]? = some fn) (hb : fn.body = some c) (hn : (fn.name == "runtime.NumGoroutine") = false) (hr : f.rnd = none)
    (hk : Sound P (.call (.func G) (first ++ [.yld (h.next + 1)]) cap ((h.new .mark).new (.loop ⟨.ready, none, f.t, ps, assign, body, h.next⟩))) (.call (.ret y) h2)) (hl : h2.get (h.next + 1) = some (.loop L)) (hs : L.st ≠ .busy)
    (hj : f'.rnd = f.rnd ∧ match L.pending with | none => e = .normal ∧ f' = { f with marks := h.next :: f.marks } ∧ h3 = h2.drop1 (h.next + 1) | some j => SoundC P j { f with marks := h.next :: f.marks } (h2.drop1 (h.next + 1)) e f' h3) :
    SoundC P (.rangeFunc gx ps assign body) f h e f' h3 := by
  refine ⟨hj.1, fun F n res g q a w hF hR hV hfd => wpIn_rangeFunc fun fnid hfn => ?_⟩
  have hro : F.round = none := by
    have := hR.same
    rw [hr] at this
    cases hx : F.round with
    | none => rfl
    | some l => rw [hx] at this; cases this
  have hd := hfd.ev hg
  obtain ⟨v1, c1, hev, d1, d2⟩ : ∃ v1 c1, a.eval gx = .func (.func G) v1 c1 ∧ DenL (h.mem res g q) w v1 first ∧ DenL (h.mem res g q) w c1 cap := by
    generalize a.eval gx = u at hd
    cases hd with
    | clo k1 k2 k3 k4 => exact ⟨_, _, rfl, ⟨k1, k3⟩, ⟨k2, k4⟩⟩
  -- the two blocks
  have t1 := to_obj (o := .mark) (ob := .deferred (some [])) hV (not_born (h := h) (res := res) (g := g) (q := q)) rfl (fun c e => by cases e) (fun l e => by cases e) (fun _ => rfl)
  rw [← AH.mem_new] at t1
  have hm1 : ((h.new .mark).mem res (updf g h.next w.heap.size) (updf q h.next 0)).blk h.next = some .mark := by simp [AH.mem, AH.new, AH.get, AH.find]
  have t2 := to_obj (r := (h.new .mark).next) (o := .loop ⟨.ready, none, f.t, ps, assign, body, h.next⟩) (ob := .loop { state := .ready, pending := none, fn := fnid, tmps := a.tmps, params := ps, assign, body, defers := w.heap.size }) t1.rel (not_born (h := h.new .mark)) rfl (fun c e => by cases e)
    (fun l e => by
      injection e with e
      subst e
      exact ⟨by simp [AH.new], hm1, fnid, a.tmps, by simp [AH.mem, updf], hfd.tmps.fwd t1.fwd⟩) (fun e => by cases e)
  rw [← AH.mem_new] at t2
  have t12 := t1.trans t2
  have esz : (w.alloc (.deferred (some []))).heap.size = w.heap.size + 1 := by simp
  obtain ⟨r1, r2⟩ := range_call (P := P) (a := a) (gx := gx) (first := first) (cap := cap) (l := w.heap.size + 1) (w := (w.alloc (.deferred (some []))).alloc (.loop { state := .ready, pending := none, fn := fnid, tmps := a.tmps, params := ps, assign, body, defers := w.heap.size })) hf hb hn hev
  refine ⟨w.heap.size + 1, [{ target := .collected w.heap.size, args := #[] }], _, _, _, G, _, _, by rw [hro]; exact run_enterLoop_outer _ _ _ _ _, r1, fun f' _ => hF.fn f', r2, fun e => (by rw [hF.depth] at e; cases e), ?_⟩
  have hyd : Den (((h.new .mark).new (.loop ⟨.ready, none, f.t, ps, assign, body, h.next⟩)).mem res (updf (updf g h.next w.heap.size) (h.new .mark).next (w.alloc (.deferred (some []))).heap.size) (updf (updf q h.next 0) (h.new .mark).next 0)) ((w.alloc (.deferred (some []))).alloc (.loop { state := .ready, pending := none, fn := fnid, tmps := a.tmps, params := ps, assign, body, defers := w.heap.size })) (.func (.yield (w.heap.size + 1)) #[] #[]) (.yld (h.next + 1)) :=
    .yld rfl (by simp [AH.mem, AH.new]) fun l hl => by simp [AH.mem, updf, AH.new]
  have hargs : DenL (((h.new .mark).new (.loop ⟨.ready, none, f.t, ps, assign, body, h.next⟩)).mem res (updf (updf g h.next w.heap.size) (h.new .mark).next (w.alloc (.deferred (some []))).heap.size) (updf (updf q h.next 0) (h.new .mark).next 0)) ((w.alloc (.deferred (some []))).alloc (.loop { state := .ready, pending := none, fn := fnid, tmps := a.tmps, params := ps, assign, body, defers := w.heap.size })) (v1 ++ #[.func (.yield (w.heap.size + 1)) #[] #[]]) (first ++ [.yld (h.next + 1)]) :=
    app_den (d1.fwd t12.fwd) ⟨rfl, fun i x b e1 e2 => by
      cases i with
      | zero => simp at e1 e2; subst e1 e2; exact hyd
      | succ i => simp at e2⟩
  have hcall := callOk_calls hf hb hn (hk F n res _ _ _ _ _ hF t12.rel hargs (d2.fwd t12.fwd))
  refine hcall.mono fun e1 w2 hp => ?_
  obtain ⟨g2, q2, t3, hrd⟩ := hp
  cases e1 <;> try exact hrd.elim
  have hpos : g2 (h.next + 1) = w.heap.size + 1 := by
    obtain ⟨_, _, hp⟩ := t3.fwd.loop (h.next + 1) L (by simp [AH.mem, AH.new]) hl
    have hp : g2 (h.next + 1) = _ := hp
    rw [hp]
    simp [AH.mem, updf, AH.new]
  have t123 := t12.trans t3
  have hmark2 := (t2.trans t3).fwd.mark h.next hm1
  have hposm : g2 h.next = w.heap.size := by
    have := hmark2.2
    have this : g2 h.next = _ := this
    rw [this]; simp [AH.mem, updf]
  have hfd2 : FrDen (h2.mem res g2 q2) w2 { f with marks := h.next :: f.marks } { a with defers := { target := .collected w.heap.size, args := #[] } :: a.defers } := by
    have hx := hfd.fwd t123.fwd
    refine ⟨hx.tmps, ?_, fun m hm => ?_, List.nodup_cons.2 ⟨fun hm => ?_, hfd.nodup⟩, hx.glob⟩
    · rw [List.map_cons, ← hx.defers]
      show ({ target := .collected w.heap.size, args := #[] } : Deferred) :: _ = { target := .collected (g2 h.next), args := #[] } :: _
      rw [hposm]
    · rcases List.mem_cons.1 hm with rfl | hm
      · exact hmark2.1
      · exact hx.marks m hm
    · have := (hV.live _ _ (hfd.marks _ hm)).1
      exact not_born this
  show ∃ jump w4, (Instr.endLoop (w.heap.size + 1)).run P w2 = .ok jump w4 ∧ _
  rw [← hpos]
  refine range_end (F := F) (n := n) hV t123 (fun hb => by have h1 : h.next + 1 < h.next := hb.1; omega) hl hs hfd2 fun w3 t4 f4 => ?_
  cases hpd : L.pending with
  | none =>
    rw [hpd] at hj
    obtain ⟨_, rfl, rfl, rfl⟩ := hj
    exact ⟨g2, q2, t4, trivial, f4⟩
  | some j =>
    rw [hpd] at hj
    exact wpIn_mono (hj.2.2 F n res g2 q2 _ w3 hF ⟨hR.same, fun r e => (by rw [hr] at e; cases e), fun r l e => (by rw [hr] at e; cases e)⟩ t4.rel f4) fun e1 a1 w1 k => codePost.up t4 k
theorem sound_rangeI {G r0 : Nat} {fn : Func} {c assign body : Code} {gx : Operand} {ps : Array Tmp} {h2 h3 : AH} {first cap : List AV} {y : AV} {L L0 : ALoop} {e : Ex} (hg : f.ev gx = some (.clo (.func G) first cap)) (hf : P.funcs[G]? = some fn) (hb : fn.body = some c) (hn : (fn.name == "runtime.NumGoroutine") = false) (hr : f.rnd = some r0)
    (h0 : h.get r0 = some (.loop L0)) (hk : Sound P (.call (.func G) (first ++ [.yld h.next]) cap (h.new (.loop ⟨.ready, none, f.t, ps, assign, body, L0.mark⟩))) (.call (.ret y) h2)) (hl : h2.get h.next = some (.loop L)) (hs : L.st ≠ .busy)
    (hj : f'.rnd = f.rnd ∧ match L.pending with | none => e = .normal ∧ f' = f ∧ h3 = h2.drop1 h.next | some j => SoundC P j f (h2.drop1 h.next) e f' h3) :
    SoundC P (.rangeFunc gx ps assign body) f h e f' h3 := by
  refine ⟨hj.1, fun F n res g q a w hF hR hV hfd => wpIn_rangeFunc fun fnid hfn => ?_⟩
  have h0V : (h.mem res g q).blk r0 = some (.loop L0) := h0
  have hro : F.round = some (g r0) := hR.pos r0 L0 hr h0V
  obtain ⟨m0, fn0, T0, m1, m2, m3⟩ := hV.loop r0 L0 h0V
  have m1' : w.heap[g r0]? = _ := m1
  have hd := hfd.ev hg
  obtain ⟨v1, c1, hev, d1, d2⟩ : ∃ v1 c1, a.eval gx = .func (.func G) v1 c1 ∧ DenL (h.mem res g q) w v1 first ∧ DenL (h.mem res g q) w c1 cap := by
    generalize a.eval gx = u at hd
    cases hd with
    | clo k1 k2 k3 k4 => exact ⟨_, _, rfl, ⟨k1, k3⟩, ⟨k2, k4⟩⟩
  have t2 := to_obj (r := h.next) (o := .loop ⟨.ready, none, f.t, ps, assign, body, L0.mark⟩) (ob := .loop { state := .ready, pending := none, fn := fnid, tmps := a.tmps, params := ps, assign, body, defers := g L0.mark }) hV (not_born (h := h)) rfl (fun c e => by cases e)
    (fun l e => by
      injection e with e
      subst e
      exact ⟨fun e => not_born (h := h) (res := res) (g := g) (q := q) (e ▸ (hV.live _ _ m0).1), m0, fnid, a.tmps, rfl, hfd.tmps⟩) (fun e => by cases e)
  rw [← AH.mem_new] at t2
  obtain ⟨r1, r2⟩ := range_call (P := P) (a := a) (gx := gx) (first := first) (cap := cap) (l := w.heap.size) (w := w.alloc (.loop { state := .ready, pending := none, fn := fnid, tmps := a.tmps, params := ps, assign, body, defers := g L0.mark })) hf hb hn hev
  refine ⟨w.heap.size, [], _, _, _, G, _, _, by rw [hro]; exact run_enterLoop_inner m1' _ _ _ _ _, r1, fun f' _ => hF.fn f', r2, fun e => (by rw [hF.depth] at e; cases e), ?_⟩
  have hargs : DenL ((h.new (.loop ⟨.ready, none, f.t, ps, assign, body, L0.mark⟩)).mem res (updf g h.next w.heap.size) (updf q h.next 0)) (w.alloc (.loop { state := .ready, pending := none, fn := fnid, tmps := a.tmps, params := ps, assign, body, defers := g L0.mark })) (v1 ++ #[.func (.yield w.heap.size) #[] #[]]) (first ++ [.yld h.next]) :=
    app_den (d1.fwd t2.fwd) ⟨rfl, fun i x b e1 e2 => by
      cases i with
      | zero => simp at e1 e2; subst e1 e2; exact .yld rfl (by simp [AH.mem, AH.new]) fun l hl => by simp [AH.mem, updf]
      | succ i => simp at e2⟩
  have hcall := callOk_calls hf hb hn (hk F n res _ _ _ _ _ hF t2.rel hargs (d2.fwd t2.fwd))
  refine hcall.mono fun e1 w2 hp => ?_
  obtain ⟨g2, q2, t3, hrd⟩ := hp
  cases e1 <;> try exact hrd.elim
  have hpos : g2 h.next = w.heap.size := by
    obtain ⟨_, _, hp⟩ := t3.fwd.loop h.next L (by simp [AH.mem, AH.new]) hl
    have hp : g2 h.next = _ := hp
    rw [hp]
    simp [AH.mem, updf]
  have t123 := t2.trans t3
  show ∃ jump w4, (Instr.endLoop w.heap.size).run P w2 = .ok jump w4 ∧ _
  rw [← hpos]
  refine range_end (F := F) (n := n) hV t123 not_born hl hs (hfd.fwd t123.fwd) fun w3 t4 f4 => ?_
  cases hpd : L.pending with
  | none =>
    rw [hpd] at hj
    obtain ⟨_, rfl, rfl, rfl⟩ := hj
    exact ⟨g2, q2, t4, trivial, f4⟩
  | some j =>
    rw [hpd] at hj
    exact wpIn_mono (hj.2.2 F n res g2 q2 _ w3 hF (hR.fwd t4.fwd rfl) t4.rel f4) fun e1 a1 w1 k => codePost.up t4 k
end
end Go.Proofs.YtaoglkkdhdfioaaDoor
