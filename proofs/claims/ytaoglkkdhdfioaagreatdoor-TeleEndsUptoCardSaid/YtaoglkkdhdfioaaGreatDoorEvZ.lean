/- Operations at an offset that is a letter. -/
/- From what is said here of a call to what the library says of one, and back. -/
import Derived.Test.YtaoglkkdhdfioaaGreatDoorEvX
namespace Go.Proofs.YtaoglkkdhdfioaaGreatDoor
open Go
section
variable {P : Program} {h h' : AH} {f f' : AF}
theorem qop_of_rop {o : Oper} {y : AV} (hm : mvop P f o = none) (hgo : gop P f o = none) (hr : rop P h f o = some y) : qop P h f o = some y := by
  simp only [qop, hm, qold, hgo, hr]
theorem qop_loadP {o : Oper} {t : TypeId} {x : Operand} {r k off : Nat} {c : Cells} {b : AV} (ho : o.op = .load t x) (hgo : gop P f o = none) (ht : isAggB P t = some false) (hx : f.ev x = some (.ptr r k off)) (hn : h.now r k = some c) (hc : c.cs[off]? = some b) (hb : b.one = true) : qop P h f o = some b :=
  qop_of_rop (by simp only [mvop, ho]) hgo (by simp only [rop, ho, rLoad, hx, hn, partA, ht, hc, hb, if_true])
theorem qop_loadA {o : Oper} {t : TypeId} {x : Operand} {r k off n : Nat} {c : Cells} {es : List AV} (ho : o.op = .load t x) (hgo : gop P f o = none) (ht : isAggB P t = some true) (hs : szOf P t = some n) (hx : f.ev x = some (.ptr r k off)) (hn : h.now r k = some c) (hle : off + n ≤ c.cs.length) (he : (c.cs.drop off).take n = es) : qop P h f o = some (.agg es) :=
  qop_of_rop (by simp only [mvop, ho]) hgo (by simp only [rop, ho, rLoad, hx, hn, partA, ht, hs, hle, if_true, he])
theorem qop_indexR {o : Oper} {t el : TypeId} {x i : Operand} {r k off len sz n : Nat} {ki : IntKind} {c : Cells} (ho : o.op = .indexAddr t x i) (hgo : gop P f o = none) (hu : P.underlying t = some (.slice el)) (hs : szOf P el = some sz) (hi : f.ev i = some (.raw (.int ki (n : Int)))) (hx : f.ev x = some (.row r k off len)) (hn : h.now r k = some c) (hlt : n < len) (hsz : c.sz = sz) : qop P h f o = some (.ptr r k (off + n * sz)) :=
  qop_of_rop (by simp only [mvop, ho]) hgo (by
    simp only [rop, ho, rIndexAddr, hu, hi, hs, hx, hn]
    rw [if_pos ⟨by omega, by omega, hsz⟩]
    rfl)
theorem now_of {r : Nat} {c : Cells} (hg : h.get r = some (.cells c)) : h.now r c.ver = some c := by
  unfold AH.now
  rw [hg]
  simp
theorem qok_lenR {o : Oper} {c : Call} {x : Operand} {t e : TypeId} {r k off len : Nat} {cc : Cells} (ho : o.op = .call c) (hc : c.callee = .builtin .len) (ha : c.args.toList = [x]) (ht : c.argTypes.toList = [t]) (hu : P.underlying t = some (.slice e)) (hx : f.ev x = some (.row r k off len)) (hn : h.now r k = some cc) : QOk P h f o (.raw (goInt len)) :=
  qok_rop (by simp only [rop, ho, rCall, hc, ha, ht, rLen, hu, hx, hn])
theorem mop_storeP {o : Oper} {t : TypeId} {x v : Operand} {r k off n : Nat} {c : Cells} {b : AV} (ho : o.op = .store t x v) (hx : f.ev x = some (.ptr r k off)) (hs : szOf P t = some n) (hv : f.ev v = some b) (hn : h.now r k = some c) (h1 : b.cells.length = n) (h2 : off + n ≤ c.cs.length) (h3 : c.imm ≤ off) (h4 : b.cells.all AV.one = true) :
    mop P h f o = some (.raw undef, h.put r (.cells { c with cs := setsA c.cs off b.cells })) := by
  simp only [mop, ho, mStore, hx, hs, hv, hn]
  rw [if_pos ⟨h1, h2, h3, h4⟩]
  rfl
theorem mop_storeS {o : Oper} {t : TypeId} {x v : Operand} {r k off : Nat} (n : Nat) {c : Cells} {b : AV} {cs' : List AV} (hset : setsA c.cs off b.cells = cs') (ho : o.op = .store t x v) (hx : f.ev x = some (.ptr r k off)) (hs : szOf P t = some n) (hv : f.ev v = some b) (hn : h.now r k = some c) (h1 : b.cells.length = n) (h2 : off + n ≤ c.cs.length) (h3 : c.imm ≤ off) (h4 : b.cells.all AV.one = true) :
    mop P h f o = some (.raw undef, h.put r (.cells { c with cs := cs' })) := by
  rw [mop_storeP ho hx hs hv hn h1 h2 h3 h4, hset]
theorem nop_make {o : Oper} {t e : TypeId} {l c : Operand} {k1 k2 : IntKind} {n : Nat} {i : TypeInfo} {z : Value} (ho : o.op = .makeSlice t l c) (hu : P.underlying t = some (.slice e)) (hl : f.ev l = some (.raw (.int k1 (n : Int)))) (hc : f.ev c = some (.raw (.int k2 (n : Int)))) (hi : P.info? e = some i) (hz : i.zero = some z)
    (hn : n ≤ tops) (h1 : i.bytes ≤ 1024) (h2 : z.cells.size = i.size) (h3 : z.cells.all Value.oneCell' = true) : nop P h f o = some (fun r => .row r 0 0 n, ⟨0, e, i.size, 0, zerosA z n⟩) := by
  simp only [nop, ho, nMake, hu, hl, hc, hi, hz]
  rw [if_pos ⟨by omega, by omega, by omega, h1, h2, h3⟩]
  rfl
theorem mop_append {o : Oper} {c : Call} {s x : Operand} {ts tx e e' : TypeId} {i : TypeInfo} {z : Value} {r k len n : Nat} {cc : Cells} {bs : List AV} (ho : o.op = .call c) (hc : c.callee = .builtin .append) (ha : c.args.toList = [s, x]) (ht : c.argTypes.toList = [ts, tx]) (hu : P.underlying ts = some (.slice e)) (hk : P.underlying tx = some (.slice e'))
    (hi : P.info? e = some i) (hz : i.zero = some z) (hzs : z.cells.size = i.size) (hb : i.bytes ≤ 1024) (hsrc : srcA h f i.size x = some (n + 1, bs)) (hone : bs.all AV.one = true) (hs : f.ev s = some (.row r k 0 len)) (hn : h.now r k = some cc) (hsz : cc.sz = i.size) (hel : cc.elem = e) (him : cc.imm ≤ len * cc.sz) (hl : len ≤ tops) (hn1 : n + 1 ≤ tops) :
    mop P h f o = some (.row r (k + 1) 0 (len + (n + 1)), h.put r (.cells { cc with ver := k + 1, cs := cc.cs.take (len * cc.sz) ++ bs })) := by
  simp only [mop, ho, hc, ha, ht, mAppend, hu, hk, hi, hz, hsrc, hs]
  rw [if_pos ⟨hone, hzs, hb, hn1⟩]
  simp only [hn]
  rw [if_pos ⟨hsz, hel, him, hl⟩]
end
/-- a call whose arguments are sealed, and seen as values -/
theorem gives_seal {P : Program} {fn : Fn} {args cap args' cap' : List AV} {z : AV} {h : AH} {l : List (Nat × Nat)} {R : Res → AH → Prop} (L : List (Nat × Nat)) (ht : Tells P fn args' cap' z) (ha : SnapL (h.seals L) (args ++ cap) (args' ++ cap') l) (hal : args.length = args'.length) (hs : Sealed (h.seals L) l) (hr : R (.ret z) (h.seals L)) : Gives P fn args cap h R := by
  obtain ⟨y, h', l1, l2, k1, k2, k3⟩ := ht.run
  exact ⟨_, _, .pure ha hal hs ht.pure k1 k2 k3 ht.out, hr⟩
theorem LentL.pures {r : Nat} : ∀ {l : List AV}, (∀ a ∈ l, Pure a) → LentL r l l
  | [], _ => .nil
  | a :: l, h => .cons (.pure (h a (List.mem_cons_self ..))) (LentL.pures fun b hb => h b (List.mem_cons_of_mem _ hb))
/-- a call that turns the cells of one block of ours -/
theorem gives_lentC {P : Program} {fn : Fn} {args cap args' : List AV} {r : Nat} {c : Cells} {cs' : List AV} {y : AV} {h : AH} {R : Res → AH → Prop} (hr : h.get r = some (.cells c)) (hp : ∀ a ∈ c.cs, Pure a) (ha : LentL r args args') (hcap : ∀ a ∈ cap, Pure a)
    (hk : Gives P fn args' cap (.lone c) fun z h' => z = .ret y ∧ h'.get 0 = some (.cells { c with cs := cs' })) (hy : Pure y) (hl : cs'.length = c.cs.length) (hp' : ∀ a ∈ cs', Pure a) (hR : R (.ret y) (h.put r (.cells { c with cs := cs' }))) : Gives P fn args cap h R :=
  gives_lent hr hp ha (.pures hcap) (hk.mono fun z h' hz => ⟨y, _, hz.1, hy, hz.2, rfl, rfl, rfl, hl, Nat.le_refl _, hp', hR⟩)
theorem sealed_one {h : AH} {r m : Nat} {c : Cells} (hg : h.get r = some (.cells c)) (hm : m ≤ c.imm) : Sealed h [(r, m)] := fun p hp d hd => by
  simp at hp
  subst hp
  rw [hg] at hd
  injection hd with hd; injection hd with hd
  subst hd
  exact hm
theorem seals_one {h : AH} {r m : Nat} {c : Cells} (hg : h.get r = some (.cells c)) (hm : m ≤ c.cs.length) : h.seals [(r, m)] = h.put r (.cells { c with imm := max c.imm m }) := by
  show h.seal (r, m) = _
  unfold AH.seal
  simp only [hg, hm, if_true]
/-- pure values ahead of what is sealed -/
theorem snap_ahead {h : AH} {us bs : List AV} {l : List (Nat × Nat)} (hs : SnapL h us bs l) : ∀ {A : List AV}, (∀ a ∈ A, Pure a) → SnapL h (A ++ us) (A ++ bs) l
  | [], _ => hs
  | a :: A, hp => .pure (hp a (List.mem_cons_self ..)) (snap_ahead hs fun b hb => hp b (List.mem_cons_of_mem _ hb))
/-- a call whose last argument is a row of our own, of pure values: it is seen as values -/
theorem gives_row {P : Program} {fn : Fn} {pre args args' : List AV} {z : AV} {h : AH} {r n : Nat} {c : Cells} {es : List AV} {R : Res → AH → Prop} (hg : h.get r = some (.cells c)) (hcs : c.cs = es.flatMap AV.cells) (hz : ∀ e ∈ es, e.cells.length = c.sz) (hp : ∀ e ∈ es, Pure e) (hn : es.length = n) (hpre : ∀ a ∈ pre, Pure a)
    (ha : args = pre ++ [.row r c.ver 0 n]) (ha' : args' = pre ++ [.vals c.sz es]) (ht : Tells P fn args' [] z) (hr : R (.ret z) (h.put r (.cells { c with imm := max c.imm (n * c.sz) }))) : Gives P fn args [] h R := by
  obtain ⟨k1, k2⟩ := snap_own hg hcs hz hp hn
  have hlen : (es.flatMap AV.cells).length = n * c.sz := by
    subst hn
    clear k1 k2 hr ht ha ha' hcs hp
    induction es with
    | nil => simp
    | cons e es ih =>
      rw [List.flatMap_cons, List.length_append, hz e (List.mem_cons_self ..), ih fun e he => hz e (List.mem_cons_of_mem _ he), List.length_cons, Nat.succ_mul]
      omega
  rw [← seals_one hg (by rw [hcs, hlen]; exact Nat.le_refl _)] at hr
  subst ha ha'
  refine gives_seal [(r, n * c.sz)] ht ?_ (by simp) k2 hr
  rw [List.append_nil, List.append_nil]
  exact snap_ahead k1 hpre
theorem setsA_mid (A X B Y : List AV) (n : Nat) (hn : n = A.length) (h : X.length = Y.length) : setsA (A ++ (X ++ B)) n Y = A ++ (Y ++ B) := by
  subst hn
  unfold setsA
  rw [List.take_left, List.append_assoc, List.drop_append, ← h, List.drop_of_length_le (by omega), Nat.add_sub_cancel_left, List.nil_append, List.drop_left]
theorem get_at {A C B : List AV} {off i : Nat} {x : AV} (hoff : off = A.length) (hx : C[i]? = some x) : (A ++ (C ++ B))[off + i]? = some x := by
  subst hoff
  have hi := (List.getElem?_eq_some_iff.1 hx).1
  rw [List.getElem?_append_right (by omega), Nat.add_sub_cancel_left, List.getElem?_append_left hi, hx]
theorem set_at {A C B C' ys : List AV} {off i : Nat} (hoff : off = A.length) (hle : i + ys.length ≤ C.length) (hs : setsA C i ys = C') : setsA (A ++ (C ++ B)) (off + i) ys = A ++ (C' ++ B) := by
  subst hoff
  subst hs
  unfold setsA
  rw [List.take_append, List.take_of_length_le (by omega), Nat.add_sub_cancel_left, List.take_append_of_le_length (by omega), show A.length + i + ys.length = A.length + (i + ys.length) by omega, List.drop_append, List.drop_of_length_le (by omega), Nat.add_sub_cancel_left, List.nil_append, List.drop_append_of_le_length hle]
  simp only [List.append_assoc]
theorem get_mid (A B : List AV) (x : AV) (n : Nat) (hn : n = A.length) : (A ++ (x :: B))[n]? = some x := by subst hn; simp
theorem drop_mid (A X B : List AV) (n m : Nat) (hn : n = A.length) (hm : m = X.length) : ((A ++ (X ++ B)).drop n).take m = X := by
  subst hn; subst hm; simp
end Go.Proofs.YtaoglkkdhdfioaaGreatDoor
namespace Go.Proofs.YtaoglkkdhdfioaaGreatDoor
open Go
section
variable {P : Program} {h h' : AH} {F : Fence} {n : Nat}
theorem fenced_ok (hF : FOk F) (m : Machine) : m.fenced P F := fun g _ =>
  ⟨fun h => absurd (hF.alive ▸ h) (by simp), .inl (hF.fn _), fun _ _ => hF.fn _, fun d hd => by rw [hF.depth] at hd; cases hd⟩
theorem room_ok (hF : FOk F) (n : Nat) : F.room n := fun d hd => by rw [hF.depth] at hd; cases hd
theorem stepsIn_ok (hF : FOk F) {m m' : Machine} : StepsIn (Machine.fenced P F) P m m' ↔ Steps P m m' :=
  ⟨StepsIn.steps, fun h => (StepsIn.of_steps h).mono fun m _ => fenced_ok hF m⟩
theorem comesIn_ok (hF : FOk F) {m m' : Machine} {e : Ending} : ComesIn (Machine.fenced P F) P m m' e ↔ Comes P m m' e := by
  cases e with
  | returned v => exact stepsIn_ok hF
  | panicked chain => exact stepsIn_ok hF
  | outgrown => exact Iff.rfl
theorem callsIn_ok (hF : FOk F) {f : FuncId} {args : Array Value} {w : World} {R : Ending → World → Prop} : CallsIn F n P f args w R ↔ Calls P f args w R :=
  ⟨fun h cs => let ⟨e, w', fr, r, s, x⟩ := h.2 cs (room_ok hF _); ⟨e, w', fr, r, (comesIn_ok hF).1 s, x⟩,
   fun h => ⟨hF.fn _, fun cs _ => let ⟨e, w', fr, r, s, x⟩ := h cs; ⟨e, w', fr, r, (comesIn_ok hF).2 s, x⟩⟩⟩
theorem wide_ok : FOk Fence.wide := ⟨fun _ => trivial, rfl, rfl⟩
/-- what is said here of a call is so -/
theorem sound_calls {fid : FuncId} {fn : Func} {c : Code} {args cap : List AV} {r : Res} {res : Nat → Nat → Prop} {g q : Nat → Nat} {us cs : Array Value} {w : World} (hs : Sound P (.call (.func fid) args cap h) (.call r h')) (hf : P.funcs[fid]? = some fn) (hb : fn.body = some c) (hn : (fn.name == "runtime.NumGoroutine") = false)
    (hV : Rel (h.mem res g q) w) (hu : DenL (h.mem res g q) w us args) (hc : DenL (h.mem res g q) w cs cap) : Calls P fid (us ++ cs) w fun e w1 => Post (h.mem res g q) w h' res (fun V' w' => RDen V' w' e r) w1 := by
  have k := hs Fence.wide 1 res g q us cs w wide_ok hV hu hc
  have he : (invoke (.fn (.func fid) cs) us).run P w = .ok (.enter fid (us ++ cs)) w := enters_of hf hn hb (us ++ cs) w
  unfold CallOk at k
  rw [he] at k
  exact (callsIn_ok wide_ok).1 k
/-- what is so of a call may be said here -/
theorem sound_of {fid : FuncId} {fn : Func} {c : Code} {args cap : List AV} {r : Res} (hf : P.funcs[fid]? = some fn) (hb : fn.body = some c) (hn : (fn.name == "runtime.NumGoroutine") = false)
    (k : ∀ (res : Nat → Nat → Prop) (g q : Nat → Nat) (us cs : Array Value) (w : World), Rel (h.mem res g q) w → DenL (h.mem res g q) w us args → DenL (h.mem res g q) w cs cap → Calls P fid (us ++ cs) w fun e w1 => Post (h.mem res g q) w h' res (fun V' w' => RDen V' w' e r) w1) :
    Sound P (.call (.func fid) args cap h) (.call r h') := by
  intro F n res g q us cs w hF hV hu hc
  have he : (invoke (.fn (.func fid) cs) us).run P w = .ok (.enter fid (us ++ cs)) w := enters_of hf hn hb (us ++ cs) w
  unfold CallOk
  rw [he]
  exact (callsIn_ok hF).2 (k res g q us cs w hV hu hc)
end
/-! ### Memory that is set aside while a call runs -/
section
variable {h h1 : AH} {res : Nat → Nat → Prop} {g q g' q' : Nat → Nat} {w w1 w2 w3 : World} {X : Nat → Prop}
def resX (res : Nat → Nat → Prop) (X : Nat → Prop) : Nat → Nat → Prop := fun b i => res b i ∨ X b
theorem aside_fwd (hX : ∀ b, X b → w.heap.size ≤ b) (hs : w.heap.size ≤ w1.heap.size) (hk : ∀ b, b < w.heap.size → w1.heap[b]? = w.heap[b]?) : Fwd (h.mem res g q) w (h.mem (resX res X) g q) w1 where
  ok b i x h1 h2 := by
    obtain ⟨k1, k2, k3⟩ := h1
    refine ⟨⟨by omega, ?_, k3⟩, by rw [cell_of_heap (hk b k1)]; exact h2⟩
    rintro (e | e)
    · exact k2 e
    · have := hX b e; omega
  born r hr := hr
  cells r c hb h := ⟨c, h, Nat.le_refl _, fun _ => ⟨rfl, rfl, rfl, rfl⟩⟩
  loop r l hb h := ⟨l, h, rfl⟩
  mark r h := ⟨h, rfl⟩
theorem back_fwd (hs : w3.heap.size = w2.heap.size) (hk : ∀ b, b < w2.heap.size → ¬ X b → w3.heap[b]? = w2.heap[b]?) : Fwd (h1.mem (resX res X) g' q') w2 (h1.mem res g' q') w3 where
  ok b i x h1 h2 := by
    obtain ⟨k1, k2, k3⟩ := h1
    refine ⟨⟨by omega, fun e => k2 (.inl e), k3⟩, by rw [cell_of_heap (hk b k1 fun e => k2 (.inr e))]; exact h2⟩
  born r hr := hr
  cells r c hb h := ⟨c, h, Nat.le_refl _, fun _ => ⟨rfl, rfl, rfl, rfl⟩⟩
  loop r l hb h := ⟨l, h, rfl⟩
  mark r h := ⟨h, rfl⟩
theorem aside_rel (hV : Rel (h.mem res g q) w) (hX : ∀ b, X b → w.heap.size ≤ b ∧ b < w1.heap.size) (hs : w.heap.size ≤ w1.heap.size) (hk : ∀ b, b < w.heap.size → w1.heap[b]? = w.heap[b]?) : Rel (h.mem (resX res X) g q) w1 := by
  have hf := aside_fwd (h := h) (res := res) (g := g) (q := q) (fun b hb => (hX b hb).1) hs hk
  refine ⟨fun b i hb => ?_, fun r o ho i => ?_, fun r o ho => ?_, fun r s o p h1 h2 h3 => hV.apart r s o p h1 h2 h3, fun r c hc => ?_, fun r l hl => ?_, fun r hr => ?_, hV.glob.fwd hf⟩
  · rcases hb with e | e
    · have := hV.bound b i e; omega
    · exact (hX b e).2
  · rintro (e | e)
    · exact hV.free r o ho i e
    · have := (hX _ e).1
      have h2 := (hV.live r o ho).2
      have h2 : g r < w.heap.size := h2
      have this : w.heap.size ≤ g r := this
      omega
  · have := (hV.live r o ho); exact ⟨this.1, Nat.lt_of_lt_of_le this.2 hs⟩
  · obtain ⟨Y, k1, k2, k3, k4, k5, k6⟩ := hV.cells r c hc
    exact ⟨Y, (hk _ (hV.live r _ hc).2).trans k1, k2, k3, k4, k5, fun i x a e1 e2 => (k6 i x a e1 e2).fwd hf⟩
  · obtain ⟨k0, fn, T, k1, k2, k3⟩ := hV.loop r l hl
    exact ⟨k0, fn, T, (hk _ (hV.live r _ hl).2).trans k1, k2, fun i a e => by obtain ⟨x, e1, e2⟩ := k3 i a e; exact ⟨x, e1, e2.fwd hf⟩⟩
  · exact (hk _ (hV.live r _ hr).2).trans (hV.mark r hr)
theorem back_to (hV : Rel (h.mem res g q) w) (hX : ∀ b, X b → w.heap.size ≤ b ∧ b < w1.heap.size) (hs : w.heap.size ≤ w1.heap.size) (hk : ∀ b, b < w.heap.size → w1.heap[b]? = w.heap[b]?) (ho : w1.os = w.os ∧ w1.tape = w.tape ∧ w1.output = w.output)
    (t : To (h.mem (resX res X) g q) w1 (h1.mem (resX res X) g' q') w2) (hs3 : w3.heap.size = w2.heap.size) (hk3 : ∀ b, b < w2.heap.size → ¬ X b → w3.heap[b]? = w2.heap[b]?) (ho3 : w3.os = w2.os ∧ w3.tape = w2.tape ∧ w3.output = w2.output) :
    To (h.mem res g q) w (h1.mem res g' q') w3 := by
  have f1 := aside_fwd (h := h) (res := res) (g := g) (q := q) (fun b hb => (hX b hb).1) hs hk
  have f2 := back_fwd (h1 := h1) (res := res) (g' := g') (q' := q') hs3 hk3
  have hf := (f1.trans t.fwd).trans f2
  have hV2 := t.rel
  have hnx : ∀ r o, h1.get r = some o → ¬ X (g' r) := fun r o ho hx => hV2.free r o ho 0 (.inr hx)
  have kk := t.keep
  refine ⟨⟨fun b i hb => ?_, fun r o ho i e => hV2.free r o ho i (.inl e), fun r o ho => ?_, fun r s o p h1 h2 h3 => hV2.apart r s o p h1 h2 h3, fun r c hc => ?_, fun r l hl => ?_, fun r hr => ?_, hV.glob.fwd hf⟩, hf, ⟨ho3.1.trans (kk.os.trans ho.1), ho3.2.1.trans (kk.tape.trans ho.2.1), ho3.2.2.trans (kk.output.trans ho.2.2), ?_, fun b hb hn => ?_⟩, fun r o ho => ?_⟩
  · have := hV2.bound b i (.inl hb); omega
  · have := hV2.live r o ho; exact ⟨this.1, by have h2 := this.2; show g' r < _; have h2 : g' r < w2.heap.size := h2; omega⟩
  · obtain ⟨Y, k1, k2, k3, k4, k5, k6⟩ := hV2.cells r c hc
    exact ⟨Y, (hk3 _ (hV2.live r _ hc).2 (hnx r _ hc)).trans k1, k2, k3, k4, k5, fun i x a e1 e2 => (k6 i x a e1 e2).fwd f2⟩
  · obtain ⟨k0, fn, T, k1, k2, k3⟩ := hV2.loop r l hl
    exact ⟨k0, fn, T, (hk3 _ (hV2.live r _ hl).2 (hnx r _ hl)).trans k1, k2, fun i a e => by obtain ⟨x, e1, e2⟩ := k3 i a e; exact ⟨x, e1, e2.fwd f2⟩⟩
  · exact (hk3 _ (hV2.live r _ hr).2 (hnx r _ hr)).trans (hV2.mark r hr)
  · have := kk.size; omega
  · have hnX : ¬ X b := fun e => by have := (hX b e).1; omega
    have := kk.size
    rw [hk3 b (by omega) hnX, kk.block b (by omega) hn, hk b hb]
  · rcases t.old r o ho with e | e
    · exact .inl (by have : w1.heap.size ≤ (h1.mem res g' q').pos r := e; omega)
    · exact .inr e
end
end Go.Proofs.YtaoglkkdhdfioaaGreatDoor
