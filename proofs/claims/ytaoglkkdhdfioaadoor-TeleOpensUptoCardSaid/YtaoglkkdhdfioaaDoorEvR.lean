/- Regions whose order is drawn: the head, step by step; the rest behind it. -/
import Derived.Test.YtaoglkkdhdfioaaDoorEvQ
namespace Go.Proofs.YtaoglkkdhdfioaaDoor
open Go
section
variable {P : Program} {ops : Array Oper} {n0 n : Nat} {h0 : AH} {Q : Ex → AF → AH → Prop} {T : AF → AH → Prop} {o : Oper} {l : List Oper} {f : AF} {B : List (Option Cells)}
theorem news_append (n0 : Nat) : ∀ (B B' : List (Option Cells)) (k : Nat), news n0 k (B ++ B') = news n0 k B ++ news n0 (k + B.length) B'
  | [], B', k => rfl
  | none :: B, B', k => by simp only [List.cons_append, news, news_append n0 B B' (k + 1), List.length_cons]; congr 2; omega
  | some c :: B, B', k => by simp only [List.cons_append, news, news_append n0 B B' (k + 1), List.length_cons, List.cons.injEq, true_and]; congr 2; omega
theorem adds_more (B' : List (Option Cells)) : More (h0.adds n0 B) (h0.adds n0 (B ++ B')) := fun r o e => by
  have e : AH.find (h0.blk ++ news n0 0 B) r = some o := e
  show AH.find (h0.blk ++ news n0 0 (B ++ B')) r = some o
  rw [news_append, ← List.append_assoc, find_append, e]
def putsFrom (ops : Array Oper) (i : Nat) (ys : List AV) (f : AF) : AF := (ys.zipIdx i).foldl (fun f p => f.put ((ops[p.2]?).bind (·.dst)) p.1) f
theorem putsFrom_get {d : Nat} : ∀ (ys : List AV) (i : Nat) (f : AF), (∀ j, i ≤ j → (ops[j]?).bind (fun x => x.dst) ≠ some d) → (putsFrom ops i ys f).t.get d = f.t.get d
  | [], i, f, _ => rfl
  | y :: ys, i, f, hd => by
    show (putsFrom ops (i + 1) ys (f.put ((ops[i]?).bind (·.dst)) y)).t.get d = _
    rw [putsFrom_get ys (i + 1) _ fun j hj => hd j (by omega)]
    have := hd i (Nat.le_refl _)
    cases hx : (ops[i]?).bind (fun x => x.dst) with
    | none => rfl
    | some e =>
      have hne : ¬ e = d := fun e' => this (by rw [hx, e'])
      simp only [AF.put, Slots.get_set, hne, if_false]
/-- the rest of a head whose order is drawn -/
def GoesD (P : Program) (ops : Array Oper) (n0 : Nat) (h0 : AH) (n : Nat) (T : AF → AH → Prop) (l : List Oper) (f : AF) (B : List (Option Cells)) : Prop :=
  ∀ i k, DrawOk ops n k → ops.toList.drop i = l → B.length = i → ∃ (ys' : List AV) (B' : List (Option Cells)), i + ys'.length = n ∧ B'.length = ys'.length ∧
    (∀ ys0 : List AV, ys0.length = i → Run P (.heads ops n0 (List.range' i ys'.length) (putsFrom ops i ys' f) (h0.adds n0 (B ++ B')) (ys0 ++ ys') (B ++ B')) (.code .normal (putsFrom ops i ys' f) (h0.adds n0 (B ++ B')))) ∧
    T (putsFrom ops i ys' f) (h0.adds n0 (B ++ B'))
theorem goesD_endT (hn : B.length = n) (hc : T f (h0.adds n0 B)) : GoesD P ops n0 h0 n T l f B := fun i k hd hi hB => by
  refine ⟨[], [], by simp; omega, rfl, fun ys0 _ => .heads_nil, ?_⟩
  rw [List.append_nil]
  exact hc
theorem goesD_end (hn : B.length = n) (hc : GoesL P ops l f (h0.adds n0 B) Q) : GoesD P ops n0 h0 n (fun f h => GoesL P ops (ops.toList.drop n) f h Q) l f B := fun i k hd hi hB => by
  refine ⟨[], [], by simp; omega, rfl, fun ys0 _ => .heads_nil, ?_⟩
  have : i = n := by omega
  subst this
  rw [List.append_nil]
  show GoesL P ops (ops.toList.drop i) _ _ Q
  rw [hi]
  exact hc
/-- one more -/
theorem goesD_step {y : AV} {b : Option Cells} (hn : B.length < n) (hc : GoesD P ops n0 h0 n T l (f.put o.dst y) (B ++ [b]))
    (hh : ∀ (i : Nat) (F : AF) (H : AH) (ys : List AV) (BB : List (Option Cells)), ops[i]? = some o → B.length = i → (∀ d ∈ o.looksAt ops, F.t.get d = f.t.get d) → More (h0.adds n0 B) H → ys[i]? = some y → BB[i]? = some b →
      ∀ (l' : List Nat), Run P (.heads ops n0 l' F H ys BB) (.code .normal F H) → Run P (.heads ops n0 (i :: l') F H ys BB) (.code .normal F H)) : GoesD P ops n0 h0 n T (o :: l) f B := fun i k hd hi hB => by
  obtain ⟨ho, hi'⟩ := drop_get hi
  obtain ⟨ys', B', e1, e2, e3, e4⟩ := hc (i + 1) k hd hi' (by simp [hB])
  have hin : i < n := by omega
  have hdst : (ops[i]?).bind (fun x => x.dst) = o.dst := by rw [ho]; rfl
  have hF : putsFrom ops i (y :: ys') f = putsFrom ops (i + 1) ys' (f.put o.dst y) := by
    unfold putsFrom
    rw [List.zipIdx_cons, List.foldl_cons]
    simp only [hdst]
  have hBB : B ++ b :: B' = (B ++ [b]) ++ B' := by simp
  refine ⟨y :: ys', b :: B', by simp; omega, by simp [e2], fun ys0 h0' => ?_, ?_⟩
  · rw [hF, hBB, List.length_cons, List.range'_succ]
    have hlook : ∀ d ∈ o.looksAt ops, (putsFrom ops (i + 1) ys' (f.put o.dst y)).t.get d = f.t.get d := fun d hdl => by
      have hno : ∀ j, i ≤ j → (ops[j]?).bind (fun x => x.dst) ≠ some d := fun j hj hjd => by
        have he := hd.deps i o j d hin ho hjd hdl
        obtain ⟨o', k1, e, k2, k3, k4⟩ := edgeB_iff.1 he
        have := hd.back i o' e k1 k2 k3
        omega
      have := putsFrom_get (ops := ops) (y :: ys') i f hno
      rwa [hF] at this
    have h3 := e3 (ys0 ++ [y]) (by simp [h0'])
    have e5 : ys0 ++ [y] ++ ys' = ys0 ++ y :: ys' := by simp
    rw [e5] at h3
    refine hh i _ _ _ _ ho hB hlook ?_ (by rw [List.getElem?_append_right (by omega), h0', Nat.sub_self]; rfl) (by rw [List.append_assoc, List.getElem?_append_right (by omega), hB, Nat.sub_self]; rfl) _ h3
    rw [← hBB]; exact adds_more _
  · rw [hF, hBB]; exact e4
theorem like_looks {F : AF} (hl : ∀ d ∈ o.looksAt ops, F.t.get d = f.t.get d) : Like F f o.op.operands.toList := fun x hx => by
  cases x with
  | tmp t => exact hl t (List.mem_append_left _ (List.mem_filterMap.2 ⟨.tmp t, hx, rfl⟩))
  | const v => rfl
  | global g => rfl
  | func F => rfl
theorem guard_looks {F : AF} (hl : ∀ d ∈ o.looksAt ops, F.t.get d = f.t.get d) : guardA ops F o = guardA ops f o := by
  unfold guardA
  cases hg : o.guard with
  | none => rfl
  | some p =>
    obtain ⟨j, want⟩ := p
    simp only
    cases hdj : (ops[j]?).bind (·.dst) with
    | none => rfl
    | some d =>
      simp only
      rw [hl d (List.mem_append_right _ (by rw [hg]; simp [hdj]))]
theorem goesD_off (hn : B.length < n) (hg : guardA ops f o = some false) (hc : GoesD P ops n0 h0 n T l (f.put o.dst (.raw undef)) (B ++ [none])) : GoesD P ops n0 h0 n T (o :: l) f B :=
  goesD_step hn hc fun i F H ys BB ho hi hl hm hy hb l' hr => .heads_off ho ((guard_looks hl).trans hg) hy hb hr
theorem goesD_q {y : AV} (hn : B.length < n) (hg : guardA ops f o = some true) (hq : qop P (h0.adds n0 B) f o = some y) (hc : GoesD P ops n0 h0 n T l (f.put o.dst y) (B ++ [none])) : GoesD P ops n0 h0 n T (o :: l) f B :=
  goesD_step hn hc fun i F H ys BB ho hi hl hm hy hb l' hr => .heads_q ho ((guard_looks hl).trans hg) (qop_more hm ((qop_like (like_looks hl)).trans hq)) hy hb hr
theorem qok_more {H : AH} {F : AF} {y : AV} (hm : More (h0.adds n0 B) H) (hl : ∀ d ∈ o.looksAt ops, F.t.get d = f.t.get d) (hq : QOk P (h0.adds n0 B) f o y) : QOk P H F o y := fun V w f' a hV hA hf hx =>
  hq V w f' a hV (fun r p hb e => hA r p hb (hm r p e)) hf fun x hxo => (hx x hxo).trans (like_looks hl x hxo)
theorem goesD_s {y : AV} (hn : B.length < n) (hg : guardA ops f o = some true) (hq : QOk P (h0.adds n0 B) f o y) (hc : GoesD P ops n0 h0 n T l (f.put o.dst y) (B ++ [none])) : GoesD P ops n0 h0 n T (o :: l) f B :=
  goesD_step hn hc fun i F H ys BB ho hi hl hm hy hb l' hr => .heads_s ho ((guard_looks hl).trans hg) (qok_more hm hl hq) hy hb hr
theorem goesD_b {b : Bool} (hn : B.length < n) (hg : guardA ops f o = some true) (hq : qop P (h0.adds n0 B) f o = some (.raw (.bool b))) (hc : ∀ c, b = c → GoesD P ops n0 h0 n T l (f.put o.dst (.raw (.bool c))) (B ++ [none])) : GoesD P ops n0 h0 n T (o :: l) f B :=
  goesD_q hn hg hq (hc b rfl)
/-- memory made; it may stand for ever at once (m: its length), or not (0) -/
theorem goesD_n {y : Nat → AV} {c : Cells} (m : Nat) (hn : B.length < n) (hg : guardA ops f o = some true) (hq : nop P (h0.adds n0 B) f o = some (y, c)) (hm : m ≤ c.cs.length) (hc : GoesD P ops n0 h0 n T l (f.put o.dst (y (n0 + B.length))) (B ++ [some { c with imm := m }])) : GoesD P ops n0 h0 n T (o :: l) f B :=
  goesD_step hn hc fun i F H ys BB ho hi hl hm' hy hb l' hr => .heads_n ho ((guard_looks hl).trans hg) (nop_more hm' ((nop_like (like_looks hl)).trans hq)) hm (by rw [hy, hi]) hb hr
theorem goesD_call {c : Call} {x : Operand} {fn : Fn} {first cap args args' cap' : List AV} {z : AV} {l0 : List (Nat × Nat)} (hn : B.length < n) (hg : guardA ops f o = some true) (hc : o.op = .call c) (hx : c.callee = .value x) (hf : f.ev x = some (.clo fn first cap)) (ha : f.evs c.args.toList = some args)
    (hs : SnapL (h0.adds n0 B) (first ++ args ++ cap) (args' ++ cap') l0) (hl : (first ++ args).length = args'.length) (hs0 : Sealed (h0.adds n0 B) l0) (hk : Tells P fn args' cap' z) (hr : GoesD P ops n0 h0 n T l (f.put o.dst z) (B ++ [none])) : GoesD P ops n0 h0 n T (o :: l) f B :=
  goesD_step hn hr fun i F H ys BB ho hi hlk hm hy hb l' hr => by
    obtain ⟨y, h', l1, l2, k1, k2, k3⟩ := hk.run
    obtain ⟨e1, e2⟩ := call_like (f := F) (f' := f) (like_looks hlk) hc hx
    exact .heads_call ho ((guard_looks hlk).trans hg) hc hx (e1.trans hf) (e2.trans ha) (snap_more hm hs) hl (sealed_more hm hs hs0) hk.pure k1 k2 k3 hk.out hy hb hr
/-- a region whose order is drawn: the first n in whatever order -/
theorem goes_draw {id : Nat} {h : AH} (n : Nat) (L : List (Nat × Nat)) (hm : P.follows .mixedOrders = true) (hk : drawB ops n f.t.n = true) (hc : GoesD P ops h.next (h.seals L) n (fun f h => GoesL P ops (ops.toList.drop n) f h Q) ops.toList f []) : Goes P (.region id ops true) f h Q := by
  obtain ⟨ys, B, e1, e2, e3, e4⟩ := hc 0 _ (drawB_spec hk) rfl rfl
  have hle := (drawB_spec hk).le
  have h3 := e3 [] rfl
  simp only [List.nil_append] at h3 e4
  have hp : putsFrom ops 0 ys f = f.puts ops ys := rfl
  rw [hp] at h3 e4
  have hyn : ys.length = n := by omega
  obtain ⟨e, f', h', k1, k2⟩ := e4 n rfl
  rw [hyn, ← List.range_eq_range'] at h3
  rw [List.length_drop, Array.length_toList] at k1
  exact ⟨e, f', h', .draw hm hk hyn (by omega) h3 k1, k2⟩
end
end Go.Proofs.YtaoglkkdhdfioaaDoor
