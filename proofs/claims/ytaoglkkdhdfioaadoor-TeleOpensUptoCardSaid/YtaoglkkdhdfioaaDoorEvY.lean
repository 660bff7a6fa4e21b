/- Operations at an offset that is a letter. -/
import Derived.Test.YtaoglkkdhdfioaaDoorEvX
import Derived.Test.YtaoglkkdhdfioaaDoorEvW
namespace Go.Proofs.YtaoglkkdhdfioaaDoor
open Go
section
variable {P : Program} {h h' : AH} {f f' : AF}
theorem qop_of_rop {o : Oper} {y : AV} (hm : mvop P f o = none) (hgo : gop P f o = none) (hr : rop P h f o = some y) : qop P h f o = some y := by
  simp only [qop, hm, qold, hgo, hr]
theorem qop_loadP {o : Oper} {t : TypeId} {x : Operand} {r k off : Nat} {c : Cells} {b : AV} (ho : o.op = .load t x) (hgo : gop P f o = none) (ht : isAggB P t = some false) (hx : f.ev x = some (.ptr r k off)) (hn : h.now r k = some c) (hc : c.cs[off]? = some b) (hb : b.one = true) : qop P h f o = some b :=
  qop_of_rop (by simp only [mvop, ho]) hgo (by simp only [rop, ho, rLoad, hx, hn, partA, ht, hc, hb, if_true])
theorem qop_loadA {o : Oper} {t : TypeId} {x : Operand} {r k off n : Nat} {c : Cells} {es : List AV} (ho : o.op = .load t x) (hgo : gop P f o = none) (ht : isAggB P t = some true) (hs : szOf P t = some n) (hx : f.ev x = some (.ptr r k off)) (hn : h.now r k = some c) (hle : off + n ≤ c.cs.length) (he : (c.cs.drop off).take n = es) : qop P h f o = some (.agg es) :=
  qop_of_rop (by simp only [mvop, ho]) hgo (by simp only [rop, ho, rLoad, hx, hn, partA, ht, hs, hle, if_true, he])
theorem qop_indexR {o : Oper} {t el : TypeId} {x i : Operand} {r k off len sz n : Nat} {ki : IntKind} {c : Cells} (ho : o.op = .indexAddr t x i) (hgo : gop P f o = none) (hu : P.underlying t = some (.slice el)) (hs : szOf P el = some sz) (hi : f.ev i = some (.raw (.int ki (n : Int)))) (hx : f.ev x = some (.row r k off len)) (hn : h.now r k = some c) (hlt : n < len) (hsz : c.sz = sz) : qop P h f o = some (.ptr r k (off + n * sz)) :=
  qop_of_rop (by simp only [mvop, ho]) hgo (by
    simp only [rop, ho, rIndexAddr, hu, hi, hs, hx, hn]
    rw [if_pos ⟨by omega, by omega, hsz⟩]
    rfl)
theorem now_of {r : Nat} {c : Cells} (hg : h.get r = some (.cells c)) : h.now r c.ver = some c := by
  unfold AH.now
  rw [hg]
  simp
theorem qok_lenR {o : Oper} {c : Call} {x : Operand} {t e : TypeId} {r k off len : Nat} {cc : Cells} (ho : o.op = .call c) (hc : c.callee = .builtin .len) (ha : c.args.toList = [x]) (ht : c.argTypes.toList = [t]) (hu : P.underlying t = some (.slice e)) (hx : f.ev x = some (.row r k off len)) (hn : h.now r k = some cc) : QOk P h f o (.raw (goInt len)) :=
  qok_rop (by simp only [rop, ho, rCall, hc, ha, ht, rLen, hu, hx, hn])
theorem mop_storeP {o : Oper} {t : TypeId} {x v : Operand} {r k off n : Nat} {c : Cells} {b : AV} (ho : o.op = .store t x v) (hx : f.ev x = some (.ptr r k off)) (hs : szOf P t = some n) (hv : f.ev v = some b) (hn : h.now r k = some c) (h1 : b.cells.length = n) (h2 : off + n ≤ c.cs.length) (h3 : c.imm ≤ off) (h4 : b.cells.all AV.one = true) :
    mop P h f o = some (.raw undef, h.put r (.cells { c with cs := setsA c.cs off b.cells })) := by
  simp only [mop, ho, mStore, hx, hs, hv, hn]
  rw [if_pos ⟨h1, h2, h3, h4⟩]
  rfl
theorem mop_storeS {o : Oper} {t : TypeId} {x v : Operand} {r k off : Nat} (n : Nat) {c : Cells} {b : AV} {cs' : List AV} (hset : setsA c.cs off b.cells = cs') (ho : o.op = .store t x v) (hx : f.ev x = some (.ptr r k off)) (hs : szOf P t = some n) (hv : f.ev v = some b) (hn : h.now r k = some c) (h1 : b.cells.length = n) (h2 : off + n ≤ c.cs.length) (h3 : c.imm ≤ off) (h4 : b.cells.all AV.one = true) :
    mop P h f o = some (.raw undef, h.put r (.cells { c with cs := cs' })) := by
  rw [mop_storeP ho hx hs hv hn h1 h2 h3 h4, hset]
theorem nop_make {o : Oper} {t e : TypeId} {l c : Operand} {k1 k2 : IntKind} {n : Nat} {i : TypeInfo} {z : Value} (ho : o.op = .makeSlice t l c) (hu : P.underlying t = some (.slice e)) (hl : f.ev l = some (.raw (.int k1 (n : Int)))) (hc : f.ev c = some (.raw (.int k2 (n : Int)))) (hi : P.info? e = some i) (hz : i.zero = some z)
    (hn : n ≤ tops) (h1 : i.bytes ≤ 1024) (h2 : z.cells.size = i.size) (h3 : z.cells.all Value.oneCell' = true) : nop P h f o = some (fun r => .row r 0 0 n, ⟨0, e, i.size, 0, zerosA z n⟩) := by
  simp only [nop, ho, nMake, hu, hl, hc, hi, hz]
  rw [if_pos ⟨by omega, by omega, by omega, h1, h2, h3⟩]
  rfl
theorem mop_append {o : Oper} {c : Call} {s x : Operand} {ts tx e e' : TypeId} {i : TypeInfo} {z : Value} {r k len n : Nat} {cc : Cells} {bs : List AV} (ho : o.op = .call c) (hc : c.callee = .builtin .append) (ha : c.args.toList = [s, x]) (ht : c.argTypes.toList = [ts, tx]) (hu : P.underlying ts = some (.slice e)) (hk : P.underlying tx = some (.slice e'))
    (hi : P.info? e = some i) (hz : i.zero = some z) (hzs : z.cells.size = i.size) (hb : i.bytes ≤ 1024) (hsrc : srcA h f i.size x = some (n + 1, bs)) (hone : bs.all AV.one = true) (hs : f.ev s = some (.row r k 0 len)) (hn : h.now r k = some cc) (hsz : cc.sz = i.size) (hel : cc.elem = e) (him : cc.imm ≤ len * cc.sz) (hl : len ≤ tops) (hn1 : n + 1 ≤ tops) :
    mop P h f o = some (.row r (k + 1) 0 (len + (n + 1)), h.put r (.cells { cc with ver := k + 1, cs := cc.cs.take (len * cc.sz) ++ bs })) := by
  simp only [mop, ho, hc, ha, ht, mAppend, hu, hk, hi, hz, hsrc, hs]
  rw [if_pos ⟨hone, hzs, hb, hn1⟩]
  simp only [hn]
  rw [if_pos ⟨hsz, hel, him, hl⟩]
end
/-- a call whose arguments are sealed, and seen as values -/
theorem gives_seal {P : Program} {fn : Fn} {args cap args' cap' : List AV} {z : AV} {h : AH} {l : List (Nat × Nat)} {R : Res → AH → Prop} (L : List (Nat × Nat)) (ht : Tells P fn args' cap' z) (ha : SnapL (h.seals L) (args ++ cap) (args' ++ cap') l) (hal : args.length = args'.length) (hs : Sealed (h.seals L) l) (hr : R (.ret z) (h.seals L)) : Gives P fn args cap h R := by
  obtain ⟨y, h', l1, l2, k1, k2, k3⟩ := ht.run
  exact ⟨_, _, .pure ha hal hs ht.pure k1 k2 k3 ht.out, hr⟩
theorem LentL.pures {r : Nat} : ∀ {l : List AV}, (∀ a ∈ l, Pure a) → LentL r l l
  | [], _ => .nil
  | a :: l, h => .cons (.pure (h a (List.mem_cons_self ..))) (LentL.pures fun b hb => h b (List.mem_cons_of_mem _ hb))
/-- a call that turns the cells of one block of ours -/
theorem gives_lentC {P : Program} {fn : Fn} {args cap args' : List AV} {r : Nat} {c : Cells} {cs' : List AV} {y : AV} {h : AH} {R : Res → AH → Prop} (hr : h.get r = some (.cells c)) (hp : ∀ a ∈ c.cs, Pure a) (ha : LentL r args args') (hcap : ∀ a ∈ cap, Pure a)
    (hk : Gives P fn args' cap (.lone c) fun z h' => z = .ret y ∧ h'.get 0 = some (.cells { c with cs := cs' })) (hy : Pure y) (hl : cs'.length = c.cs.length) (hp' : ∀ a ∈ cs', Pure a) (hR : R (.ret y) (h.put r (.cells { c with cs := cs' }))) : Gives P fn args cap h R :=
  gives_lent hr hp ha (.pures hcap) (hk.mono fun z h' hz => ⟨y, _, hz.1, hy, hz.2, rfl, rfl, rfl, hl, Nat.le_refl _, hp', hR⟩)
theorem sealed_one {h : AH} {r m : Nat} {c : Cells} (hg : h.get r = some (.cells c)) (hm : m ≤ c.imm) : Sealed h [(r, m)] := fun p hp d hd => by
  simp at hp
  subst hp
  rw [hg] at hd
  injection hd with hd; injection hd with hd
  subst hd
  exact hm
theorem seals_one {h : AH} {r m : Nat} {c : Cells} (hg : h.get r = some (.cells c)) (hm : m ≤ c.cs.length) : h.seals [(r, m)] = h.put r (.cells { c with imm := max c.imm m }) := by
  show h.seal (r, m) = _
  unfold AH.seal
  simp only [hg, hm, if_true]
/-- pure values ahead of what is sealed -/
theorem snap_ahead {h : AH} {us bs : List AV} {l : List (Nat × Nat)} (hs : SnapL h us bs l) : ∀ {A : List AV}, (∀ a ∈ A, Pure a) → SnapL h (A ++ us) (A ++ bs) l
  | [], _ => hs
  | a :: A, hp => .pure (hp a (List.mem_cons_self ..)) (snap_ahead hs fun b hb => hp b (List.mem_cons_of_mem _ hb))
/-- a call whose last argument is a row of our own, of pure values: it is seen as values -/
theorem gives_row {P : Program} {fn : Fn} {pre args args' : List AV} {z : AV} {h : AH} {r n : Nat} {c : Cells} {es : List AV} {R : Res → AH → Prop} (hg : h.get r = some (.cells c)) (hcs : c.cs = es.flatMap AV.cells) (hz : ∀ e ∈ es, e.cells.length = c.sz) (hp : ∀ e ∈ es, Pure e) (hn : es.length = n) (hpre : ∀ a ∈ pre, Pure a)
    (ha : args = pre ++ [.row r c.ver 0 n]) (ha' : args' = pre ++ [.vals c.sz es]) (ht : Tells P fn args' [] z) (hr : R (.ret z) (h.put r (.cells { c with imm := max c.imm (n * c.sz) }))) : Gives P fn args [] h R := by
  obtain ⟨k1, k2⟩ := snap_own hg hcs hz hp hn
  have hlen : (es.flatMap AV.cells).length = n * c.sz := by
    subst hn
    clear k1 k2 hr ht ha ha' hcs hp
    induction es with
    | nil => simp
    | cons e es ih =>
      rw [List.flatMap_cons, List.length_append, hz e (List.mem_cons_self ..), ih fun e he => hz e (List.mem_cons_of_mem _ he), List.length_cons, Nat.succ_mul]
      omega
  rw [← seals_one hg (by rw [hcs, hlen]; exact Nat.le_refl _)] at hr
  subst ha ha'
  refine gives_seal [(r, n * c.sz)] ht ?_ (by simp) k2 hr
  rw [List.append_nil, List.append_nil]
  exact snap_ahead k1 hpre
theorem setsA_mid (A X B Y : List AV) (n : Nat) (hn : n = A.length) (h : X.length = Y.length) : setsA (A ++ (X ++ B)) n Y = A ++ (Y ++ B) := by
  subst hn
  unfold setsA
  rw [List.take_left, List.append_assoc, List.drop_append, ← h, List.drop_of_length_le (by omega), Nat.add_sub_cancel_left, List.nil_append, List.drop_left]
theorem get_at {A C B : List AV} {off i : Nat} {x : AV} (hoff : off = A.length) (hx : C[i]? = some x) : (A ++ (C ++ B))[off + i]? = some x := by
  subst hoff
  have hi := (List.getElem?_eq_some_iff.1 hx).1
  rw [List.getElem?_append_right (by omega), Nat.add_sub_cancel_left, List.getElem?_append_left hi, hx]
theorem set_at {A C B C' ys : List AV} {off i : Nat} (hoff : off = A.length) (hle : i + ys.length ≤ C.length) (hs : setsA C i ys = C') : setsA (A ++ (C ++ B)) (off + i) ys = A ++ (C' ++ B) := by
  subst hoff
  subst hs
  unfold setsA
  rw [List.take_append, List.take_of_length_le (by omega), Nat.add_sub_cancel_left, List.take_append_of_le_length (by omega), show A.length + i + ys.length = A.length + (i + ys.length) by omega, List.drop_append, List.drop_of_length_le (by omega), Nat.add_sub_cancel_left, List.nil_append, List.drop_append_of_le_length hle]
  simp only [List.append_assoc]
theorem get_mid (A B : List AV) (x : AV) (n : Nat) (hn : n = A.length) : (A ++ (x :: B))[n]? = some x := by subst hn; simp
theorem drop_mid (A X B : List AV) (n m : Nat) (hn : n = A.length) (hm : m = X.length) : ((A ++ (X ++ B)).drop n).take m = X := by
  subst hn; subst hm; simp
end Go.Proofs.YtaoglkkdhdfioaaDoor
