/- That the model runs so: regions whose order is drawn. -/
import Derived.Test.YtaoglkkdhdfioaaDoorEvK
namespace Go.Proofs.YtaoglkkdhdfioaaDoor
open Go
section
variable {P : Program} {h h' : AH} {V : Mem} {res : Nat → Nat → Prop} {g q : Nat → Nat} {w : World} {f f' : AF} {a : Act} {ops : Array Oper} {n0 i : Nat} {ys : List AV} {B : List (Option Cells)}
theorem op_val {F : Fence} {n : Nat} {o : Oper} {Q : Exit → Act → World → Prop} {K : Act → World → Prop} {v : Value} {w' : World} (hF : FOk F) (ho : ops[i]? = some o) (hw : Region.wanted o (yielded ops a.tmps) = true)
    (hr : (execOp a.eval o).run P w = .ok (.value v) w') (hk : K (a.put o.dst v) w') : wpOpIn F n P ops Q i K a w := by
  simp only [wpOpIn, ho, hw, if_true]
  refine ⟨about_ok hF o, ?_⟩
  rw [Oper.semAt_eq _ _ _ (no_defer hr (fun d e => by cases e)), hr]
  exact hk
theorem head_off {o : Oper} (ho : ops[i]? = some o) (hg : guardA ops f o = some false) (hy : ys[i]? = some (.raw undef)) (hb : B[i]? = some none) : HeadOk P ops n0 f h ys B i :=
  ⟨o, _, none, ho, hy, hb, fun F n V w fS a K Q hF hV hA hf hx hgu hbn hK => by
    have hw := guard_ok hf (hgu.trans hg)
    simp only [wpOpIn, ho, hw, Bool.false_eq_true, if_false]
    exact ⟨about_ok hF o, hK _ _ (To.refl hV) (.raw _)⟩⟩
theorem head_q {o : Oper} {y : AV} (ho : ops[i]? = some o) (hg : guardA ops f o = some true) (hq : qop P h f o = some y) (hy : ys[i]? = some y) (hb : B[i]? = some none) : HeadOk P ops n0 f h ys B i :=
  ⟨o, y, none, ho, hy, hb, fun F n V w fS a K Q hF hV hA hf hx hgu hbn hK => by
    obtain ⟨v, h1, h2⟩ := qop_ok hV hA hf ((qop_like hx).trans hq)
    exact op_val hF ho (guard_ok hf (hgu.trans hg)) h1 (hK _ _ (To.refl hV) h2)⟩
theorem head_s {o : Oper} {y : AV} (ho : ops[i]? = some o) (hg : guardA ops f o = some true) (hq : QOk P h f o y) (hy : ys[i]? = some y) (hb : B[i]? = some none) : HeadOk P ops n0 f h ys B i :=
  ⟨o, y, none, ho, hy, hb, fun F n V w fS a K Q hF hV hA hf hx hgu hbn hK => by
    obtain ⟨v, h1, h2⟩ := hq V w fS a hV hA hf hx
    exact op_val hF ho (guard_ok hf (hgu.trans hg)) h1 (hK _ _ (To.refl hV) h2)⟩
theorem head_n {o : Oper} {y : Nat → AV} {c : Cells} {m : Nat} (ho : ops[i]? = some o) (hg : guardA ops f o = some true) (hq : nop P h f o = some (y, c)) (hm : m ≤ c.cs.length) (hy : ys[i]? = some (y (n0 + i))) (hb : B[i]? = some (some { c with imm := m })) : HeadOk P ops n0 f h ys B i :=
  ⟨o, _, _, ho, hy, hb, fun F n V w fS a K Q hF hV hA hf hx hgu hbn hK => by
    obtain ⟨v, w', h1, h2⟩ := nop_ok hV hA hf ((nop_like hx).trans hq)
    obtain ⟨k, h3, h4⟩ := h2.to hV hbn hm
    exact op_val hF ho (guard_ok hf (hgu.trans hg)) h1 (hK _ _ _ h3 h4)⟩
theorem head_call {o : Oper} {c : Call} {x : Operand} {fn : Fn} {first args cap args' cap' : List AV} {y z : AV} {l0 l1 l2 : List (Nat × Nat)} (ho : ops[i]? = some o) (hg : guardA ops f o = some true)
    (hc : o.op = .call c) (hx : c.callee = .value x) (hfx : f.ev x = some (.clo fn first cap)) (ha : f.evs c.args.toList = some args) (hs : SnapL h (first ++ args ++ cap) (args' ++ cap') l0) (hl : (first ++ args).length = args'.length) (hs0 : Sealed h l0) (hp : ∀ a ∈ args' ++ cap', Pure a)
    (ih : Sound P (.call fn args' cap' .zero) (.call (.ret y) h')) (hz : SnapL (h'.seals l1) [y] [z] l2) (hs2 : Sealed (h'.seals l1) l2) (hpz : Pure z) (hy : ys[i]? = some z) (hb : B[i]? = some none) : HeadOk P ops n0 f h ys B i :=
  ⟨o, z, none, ho, hy, hb, fun F n V w fS a K Q hF hV hA hf hlike hgu hbn hK => by
    obtain ⟨e1, e2⟩ := call_like (f := fS) (f' := f) hlike hc hx
    obtain ⟨v1, c1, e3, d1, d2⟩ := call_den (c := c) hf (e1.trans hfx) (e2.trans ha)
    have hd := snap_ok hs hV hA hs0 (app_den d1 d2)
    obtain ⟨hu', hc'⟩ := split_den (by rw [d1.1, hl]) hd
    have hin := stand_in V w (fun _ => 0) (fun _ => 0)
    simp only [wpOpIn, ho, guard_ok hf (hgu.trans hg), if_true]
    refine ⟨about_ok hF o, ?_⟩
    rw [Oper.semAt_eq _ _ _ (call_nodefer hc), exec_call hc hx e3]
    refine upon_call hF (ih F n (away V) (fun _ => 0) (fun _ => 0) _ _ w hF (zero_rel hV _ _) (hu'.stand hin fun b hb => hp b (List.mem_append_left _ hb)) (hc'.stand hin fun b hb => hp b (List.mem_append_right _ hb))) (fun v w1 hr => ?_) (fun ch w1 hr => ?_) fun w1 hr => ?_
    · obtain ⟨g1, q1, t1, d1⟩ := hr
      have hk := t1.keep
      have tsame := to_same hV hk.os hk.tape hk.output hk.size fun b hb => hk.block b hb fun r o ho => by rw [zero_blk] at ho; cases ho
      exact hK _ _ tsame (Den.stand (back_den t1.rel hz hs2 d1) stand_out hpz)
    · obtain ⟨g1, q1, t1, d1⟩ := hr
      exact d1.elim
    · obtain ⟨g1, q1, t1, d1⟩ := hr
      exact d1.elim⟩

/-! ### The region -/
/-- a number given to nobody is given -/
theorem Mem.given {V V' : Mem} (hV : Rel V w) (hb : ∀ r, V.born r → V'.born r) (hk : V'.blk = V.blk) (hp : V'.pos = V.pos) (hq : V'.room = V.room) (hr : V'.res = V.res) : To V w V' w := by
  have hf : Fwd V w V' w := ⟨fun b i x k1 k2 => ⟨⟨k1.1, by rw [hr]; exact k1.2.1, fun r c e1 e2 => k1.2.2 r c (by rw [← hk]; exact e1) (by rw [← hp]; exact e2)⟩, k2⟩, hb, fun r c _ e => ⟨c, by rw [← hk]; exact e, Nat.le_refl _, fun _ => ⟨by rw [hp], by rw [hq], rfl, rfl⟩⟩, fun r l _ e => ⟨l, by rw [← hk]; exact e, by rw [hp]⟩, fun r e => ⟨by rw [hk]; exact e, by rw [hp]⟩⟩
  refine ⟨⟨fun b i e => hV.bound b i (by rw [← hr]; exact e), fun r o e i => by rw [hr, hp]; exact hV.free r o (by rw [← hk]; exact e) i, fun r o e => ?_, fun r s o p e1 e2 e3 => hV.apart r s o p (by rw [← hk]; exact e1) (by rw [← hk]; exact e2) (by rw [← hp]; exact e3), fun r c e => ?_, fun r l e => ?_, fun r e => ?_, hV.glob.fwd hf⟩, hf, Keep.refl V w, fun r o e => .inr ⟨r, o, by rw [← hk]; exact e, by rw [hp]⟩⟩
  · obtain ⟨k1, k2⟩ := hV.live r o (by rw [← hk]; exact e)
    exact ⟨hb r k1, by rw [hp]; exact k2⟩
  · obtain ⟨X, k1, k2, k3, k4, k5, k6⟩ := hV.cells r c (by rw [← hk]; exact e)
    exact ⟨X, by rw [hp]; exact k1, by rw [hq]; exact k2, k3, k4, k5, fun i x b e1 e2 => (k6 i x b e1 e2).fwd hf⟩
  · obtain ⟨k0, fn, T, k1, k2, k3⟩ := hV.loop r l (by rw [← hk]; exact e)
    exact ⟨by rw [hk]; exact k0, fn, T, by rw [hp]; exact k1, k2, fun i b e2 => by obtain ⟨x, e1, e3⟩ := k3 i b e2; exact ⟨x, e1, e3.fwd hf⟩⟩
  · have := hV.mark r (by rw [← hk]; exact e)
    rw [hp]; exact this
/-- what is there when some of the operations have come up -/
def memS (H : AH) (h : AH) (listed : Array Bool) (n : Nat) (res : Nat → Nat → Prop) (g q : Nat → Nat) : Mem where
  born r := (r < h.next ∧ r ∉ h.hid) ∨ ∃ i, i < n ∧ listed.getD i true = true ∧ r = h.next + i
  blk r := open Classical in if (r < h.next ∧ r ∉ h.hid) ∨ ∃ i, i < n ∧ listed.getD i true = true ∧ r = h.next + i then H.get r else none
  pos := g
  room := q
  res := res
/-- the frame when some of the operations have come up -/
structure FrS (ops : Array Oper) (f : AF) (ys : List AV) (n : Nat) (listed : Array Bool) (fS : AF) : Prop where
  len : fS.t.n = f.t.n
  marks : fS.marks = f.marks
  rnd : fS.rnd = f.rnd
  old : ∀ k, (∀ i, i < n → listed.getD i true = true → (ops[i]?).bind (·.dst) ≠ some k) → fS.t.get k = f.t.get k
  got : ∀ i d y, i < n → listed.getD i true = true → (ops[i]?).bind (·.dst) = some d → ys[i]? = some y → fS.t.get d = some y
theorem edgeB_iff {i j : Nat} : edgeB ops i j = true ↔ ∃ o, ops[i]? = some o ∧ ∃ e ∈ o.after, Region.binds .any e = true ∧ e.on = j := by
  unfold edgeB
  cases ho : ops[i]? with
  | none => simp
  | some o =>
    simp only [Option.some.injEq, exists_eq_left', ← Array.any_toList, List.any_eq_true, Array.mem_toList_iff, Bool.and_eq_true, beq_iff_eq]
structure DrawOk (ops : Array Oper) (n k : Nat) : Prop where
  le : n ≤ ops.size
  dst : ∀ (i : Nat) (o : Oper) d, ops[i]? = some o → o.dst = some d → d < k
  back : ∀ (i : Nat) (o : Oper) (e : Edge), ops[i]? = some o → e ∈ o.after → Region.binds .any e = true → e.on < i
  deps : ∀ (i : Nat) (o : Oper) (j d : Nat), i < n → ops[i]? = some o → (ops[j]?).bind (·.dst) = some d → d ∈ o.looksAt ops → edgeB ops i j = true
  dis : ∀ (i j d : Nat), i < n → (ops[i]?).bind (·.dst) = some d → (ops[j]?).bind (·.dst) = some d → j = i
  sink : ∀ i, i < n → n = ops.size ∨ ∃ s, i < s ∧ s ≤ n ∧ edgeB ops s i = true
  hub : ∀ k, n < k → k < ops.size → ∃ j, n ≤ j ∧ j < k ∧ edgeB ops k j = true
theorem drawB_spec {n k : Nat} (h : drawB ops n k = true) : DrawOk ops n k := by
  unfold drawB at h
  simp only [Bool.and_eq_true, decide_eq_true_eq] at h
  obtain ⟨⟨⟨⟨⟨_, h1⟩, h2⟩, h3⟩, h4⟩, h5⟩ := h
  have lt : ∀ {i : Nat} {o : Oper}, ops[i]? = some o → i < ops.size := fun h => (Array.getElem?_eq_some_iff.1 h).1
  have g2 : ∀ i o, ops[i]? = some o → (∀ d, o.dst = some d → d < k) ∧ ∀ e ∈ o.after, Region.binds .any e = true → e.on < i := fun i o ho => by
    have := List.all_eq_true.1 h2 i (List.mem_range.2 (lt ho))
    rw [ho] at this
    simp only [Bool.and_eq_true] at this
    refine ⟨fun d hd => ?_, fun e he hb => ?_⟩
    · have h := this.1
      rw [hd] at h
      simpa using h
    · have := Array.all_eq_true_iff_forall_mem.1 this.2 e he
      simpa [hb] using this
  have g3 : ∀ i o j d, i < n → ops[i]? = some o → (ops[j]?).bind (·.dst) = some d → (d ∈ o.looksAt ops → edgeB ops i j = true) ∧ (j = i ∨ o.dst ≠ some d) := fun i o j d hi ho hj => by
    have := List.all_eq_true.1 h3 i (List.mem_range.2 hi)
    rw [ho] at this
    have hjl : j < ops.size := by
      cases hoj : ops[j]? with
      | none => rw [hoj] at hj; cases hj
      | some oj => exact lt hoj
    have := List.all_eq_true.1 this j (List.mem_range.2 hjl)
    rw [hj] at this
    simp only [Bool.and_eq_true, Bool.or_eq_true, Bool.not_eq_true', List.contains_eq_mem, decide_eq_false_iff_not, beq_iff_eq, bne_iff_ne] at this
    exact ⟨fun hd => this.1.resolve_left fun hn => hn hd, this.2⟩
  refine ⟨h1, fun i o d ho => (g2 i o ho).1 d, fun i o e ho => (g2 i o ho).2 e, fun i o j d hi ho hj => (g3 i o j d hi ho hj).1, fun i j d hi hdi hdj => ?_, fun i hi => ?_, fun k hk hks => ?_⟩
  · cases hoi : ops[i]? with
    | none => rw [hoi] at hdi; cases hdi
    | some o =>
      rw [hoi] at hdi
      exact (g3 i o j d hi hoi hdj).2.resolve_right fun hn => hn hdi
  · have := List.all_eq_true.1 h4 i (List.mem_range.2 hi)
    simp only [Bool.or_eq_true, beq_iff_eq, List.any_eq_true, List.mem_range, Bool.and_eq_true, decide_eq_true_eq] at this
    rcases this with h | ⟨s, h1, h2, h3⟩
    · exact .inl h
    · exact .inr ⟨s, h2, by omega, h3⟩
  · have := List.all_eq_true.1 h5 k (List.mem_range.2 hks)
    simp only [Bool.or_eq_true, decide_eq_true_eq] at this
    exact ⟨k - 1, by omega, by omega, this.resolve_left (by omega)⟩
theorem drawB_chain {n k : Nat} (h : drawB ops n k = true) : ∀ k, n < k → k < ops.size → edgeB ops k (k - 1) = true := by
  unfold drawB at h
  simp only [Bool.and_eq_true, decide_eq_true_eq] at h
  obtain ⟨⟨⟨⟨⟨_, h1⟩, h2⟩, h3⟩, h4⟩, h5⟩ := h
  intro k hk hks
  have := List.all_eq_true.1 h5 k (List.mem_range.2 hks)
  simp only [Bool.or_eq_true, decide_eq_true_eq] at this
  exact this.resolve_left (by omega)
/-- what has come up is closed -/
structure Listed (ops : Array Oper) (n : Nat) (listed : Array Bool) : Prop where
  size : listed.size = ops.size
  shut : ∀ i j, listed.getD i true = true → i < ops.size → edgeB ops i j = true → listed.getD j true = true
  tail : ∀ k, n ≤ k → k < ops.size → listed.getD k true = false
theorem getD_same {listed : Array Bool} {j : Nat} (hj : j < listed.size) : listed.getD j false = listed.getD j true := by simp [hj]
theorem ready_iff {listed : Array Bool} {k n : Nat} (hd : DrawOk ops n k) (hs : listed.size = ops.size) {j : Nat} : j ∈ Region.ready .any ops listed ↔ listed.getD j true = false ∧ j < ops.size ∧ ∀ i, edgeB ops j i = true → listed.getD i true = true := by
  rw [mem_ready]
  constructor
  · rintro ⟨h1, o, h2, h3⟩
    refine ⟨h1, (Array.getElem?_eq_some_iff.1 h2).1, fun i hi => ?_⟩
    obtain ⟨o', e1, e, e2, e3, rfl⟩ := edgeB_iff.1 hi
    rw [h2] at e1
    injection e1 with e1
    subst e1
    have hlt := hd.back j o e h2 e2 e3
    have hj : j < ops.size := (Array.getElem?_eq_some_iff.1 h2).1
    rw [← getD_same (by omega)]
    exact h3 e e2 e3
  · rintro ⟨h1, h2, h3⟩
    refine ⟨h1, ops[j], by simp [h2], fun e he hb => ?_⟩
    have hlt := hd.back j ops[j] e (by simp [h2]) he hb
    rw [getD_same (by omega)]
    exact h3 e.on (edgeB_iff.2 ⟨ops[j], by simp [h2], e, he, hb, rfl⟩)
theorem set_getD {listed : Array Bool} {i j : Nat} (hi : i < listed.size) : (listed.setIfInBounds i true).getD j true = if j = i then true else listed.getD j true := by
  by_cases e : j = i
  · subst e; simp [hi]
  · simp only [e, if_false, Array.getD_eq_getD_getElem?, Array.getElem?_setIfInBounds_ne (Ne.symm e)]
theorem set_mono {listed : Array Bool} {i j : Nat} (hi : i < listed.size) (hj : listed.getD j true = true) : (listed.setIfInBounds i true).getD j true = true := by
  rw [set_getD hi]
  split
  · rfl
  · exact hj
theorem ready_head {listed : Array Bool} {n k i : Nat} (hd : DrawOk ops n k) (hl : Listed ops n listed) (hi : i ∈ Region.ready .any ops listed) (hu : ∃ j, j < n ∧ listed.getD j true = false) : i < n := by
  obtain ⟨h1, h2, h3⟩ := (ready_iff hd hl.size).1 hi
  rcases Nat.lt_or_ge i n with h | h
  · exact h
  exfalso
  rcases Nat.lt_or_ge n i with h' | h'
  · obtain ⟨j, j1, j2, j3⟩ := hd.hub i h' h2
    have e := h3 j j3
    rw [hl.tail j (by omega) (by omega)] at e
    cases e
  · have : i = n := by omega
    subst this
    have all : ∀ m j, i - m ≤ j → j < i → listed.getD j true = true := by
      intro m
      induction m with
      | zero => exact fun j a b => by omega
      | succ m ih =>
        intro j a b
        rcases Nat.lt_or_ge j (i - m) with hlt | hge
        · rcases hd.sink j b with e | ⟨s, s1, s2, s3⟩
          · omega
          · rcases Nat.lt_or_ge s i with s4 | s4
            · exact hl.shut s j (ih s (by omega) s4) (by omega) s3
            · have : s = i := by omega
              subst this
              exact h3 j s3
        · exact ih j hge b
    obtain ⟨j, j1, j2⟩ := hu
    rw [all i j (by omega) j1] at j2
    cases j2
theorem ready_some {listed : Array Bool} {n k : Nat} (hd : DrawOk ops n k) (hl : Listed ops n listed) (hu : ∃ j, j < n ∧ listed.getD j true = false) : Region.ready .any ops listed ≠ [] := by
  obtain ⟨m, ⟨m1, m2⟩, m3⟩ := least _ hu
  have hle := hd.le
  have : m ∈ Region.ready .any ops listed := (ready_iff hd hl.size).2 ⟨m2, by omega, fun i hi => by
    obtain ⟨o, e1, e, e2, e3, rfl⟩ := edgeB_iff.1 hi
    have hlt := hd.back m o e e1 e2 e3
    cases hc : listed.getD e.on true with
    | true => rfl
    | false => have := m3 e.on ⟨by omega, hc⟩; omega⟩
  intro e
  rw [e] at this
  cases this
theorem any_tail {F : Fence} {nn n k : Nat} {Q : Exit → Act → World → Prop} (hd : DrawOk ops n k) (hch : ∀ k, n < k → k < ops.size → edgeB ops k (k - 1) = true) : ∀ (m j fuel : Nat) (listed : Array Bool) (a : Act) (w : World), j + m = ops.size → n ≤ j → listed.size = ops.size → (∀ i, i < j → listed.getD i true = true) → (∀ i, j ≤ i → i < ops.size → listed.getD i true = false) → m ≤ fuel →
    wpOpsIn F nn P ops Q (List.range' j m) a w → wpAnyIn F nn P .any ops Q fuel listed a w
  | 0, j, fuel, listed, a, w, h1, hn, h2, h3, h4, h5, hw => by
    have hr : Region.ready .any ops listed = [] := List.eq_nil_iff_forall_not_mem.2 fun i hi => by
      obtain ⟨k1, k2, _⟩ := (ready_iff hd h2).1 hi
      rw [h3 i (by omega)] at k1
      cases k1
    have hq : Q .normal a w := hw
    cases fuel with
    | zero => exact ⟨hr, hq⟩
    | succ fuel => exact ⟨fun _ => hq, fun i hi => by rw [hr] at hi; cases hi⟩
  | m + 1, j, fuel, listed, a, w, h1, hn, h2, h3, h4, h5, hw => by
    cases fuel with
    | zero => omega
    | succ fuel =>
      have hj : j ∈ Region.ready .any ops listed := (ready_iff hd h2).2 ⟨h4 j (Nat.le_refl _) (by omega), by omega, fun i hi => by
        obtain ⟨o, e1, e, e2, e3, rfl⟩ := edgeB_iff.1 hi
        exact h3 _ (hd.back j o e e1 e2 e3)⟩
      refine ⟨fun e => (by rw [e] at hj; cases hj), fun i hi => ?_⟩
      obtain ⟨k1, k2, k3⟩ := (ready_iff hd h2).1 hi
      have hij : i = j := by
        rcases Nat.lt_or_ge i j with h | h
        · rw [h3 i h] at k1; cases k1
        · rcases Nat.lt_or_ge j i with h' | h'
          · have := k3 (i - 1) (hch i (by omega) k2)
            rw [h4 (i - 1) (by omega) (by omega)] at this
            cases this
          · omega
      subst hij
      rw [List.range'_succ, wpOpsIn_cons] at hw
      refine wpOpIn_mono (fun a' w' hw' => any_tail hd hch m (i + 1) fuel _ a' w' (by omega) (by omega) (by simpa using h2) (fun l hl => ?_) (fun l hl1 hl2 => ?_) (by omega) hw') hw
      · rw [set_getD (by omega)]
        split
        · rfl
        · exact h3 l (by omega)
      · rw [set_getD (by omega), if_neg (by omega)]
        exact h4 l (by omega) hl2
theorem count_set {n i : Nat} (p p' : Nat → Bool) (hi : i < n) (h1 : p i = true) (h2 : p' i = false) (h3 : ∀ j, j ≠ i → p' j = p j) : (List.range n).countP p' + 1 = (List.range n).countP p := by
  induction n with
  | zero => omega
  | succ n ih =>
    rw [List.range_succ, List.countP_append, List.countP_append]
    by_cases e : i = n
    · subst e
      have : (List.range i).countP p' = (List.range i).countP p := List.countP_congr fun j hj => by
        have := List.mem_range.1 hj
        rw [h3 j (by omega)]
      simp [this, h1, h2]
    · have := ih (by omega)
      have hn := h3 n (Ne.symm e)
      simp only [List.countP_cons, List.countP_nil, hn]
      omega
theorem FrS.swap {n : Nat} {listed : Array Bool} {f1 f2 : AF} (hn : n ≤ ys.length) (hall : ∀ i, i < n → listed.getD i true = true) (h1 : FrS ops f ys n listed f1) (h2 : FrS ops f ys n listed f2) (hf : FrDen V w f1 a) : FrDen V w f2 a := by
  have ht : ∀ k, f2.t.get k = f1.t.get k := fun k => by
    by_cases hk : ∃ i : Nat, i < n ∧ (ops[i]?).bind (fun x => x.dst) = some k
    · obtain ⟨i, i1, i2⟩ := hk
      have hy : ys[i]? = some ys[i] := List.getElem?_eq_getElem (by omega)
      rw [h1.got i k _ i1 (hall i i1) i2 hy, h2.got i k _ i1 (hall i i1) i2 hy]
    · have hno : ∀ i, i < n → listed.getD i true = true → (ops[i]?).bind (fun x => x.dst) ≠ some k := fun i i1 _ i2 => hk ⟨i, i1, i2⟩
      rw [h1.old k hno, h2.old k hno]
  exact ⟨⟨by rw [hf.tmps.1, h1.len, h2.len], fun i b hb => hf.tmps.2 i b (by rw [← ht]; exact hb)⟩, by rw [h2.marks, ← h1.marks]; exact hf.defers, fun m hm => hf.marks m (by rw [h1.marks, ← h2.marks]; exact hm), by rw [h2.marks, ← h1.marks]; exact hf.nodup, hf.glob⟩
theorem FrS.step {n k : Nat} {listed : Array Bool} {fS : AF} {y : AV} {o : Oper} (hd : DrawOk ops n k) (hk : k = f.t.n) (hs : listed.size = ops.size) (h1 : FrS ops f ys n listed fS) (hi : i < n) (ho : ops[i]? = some o) (hy : ys[i]? = some y) : FrS ops f ys n (listed.setIfInBounds i true) (fS.put o.dst y) := by
  have hle := hd.le
  have hlen : (fS.put o.dst y).t.n = f.t.n := by
    cases o.dst with
    | none => exact h1.len
    | some d => exact h1.len
  refine ⟨hlen, ?_, (put_rnd ..).trans h1.rnd, fun j hj => ?_, fun j d z j1 j2 j3 j4 => ?_⟩
  · cases o.dst with
    | none => exact h1.marks
    | some d => exact h1.marks
  · have hold : fS.t.get j = f.t.get j := h1.old j fun l l1 l2 => hj l l1 (set_mono (by omega) l2)
    have hne : o.dst ≠ some j := fun e => hj i hi (by rw [set_getD (by omega), if_pos rfl]) (by rw [ho]; exact e)
    cases hdst : o.dst with
    | none => exact hold
    | some d =>
      have : d ≠ j := fun e => hne (by rw [hdst, e])
      simp only [AF.put, Slots.get_set, this, if_false]
      exact hold
  · rw [set_getD (by omega)] at j2
    by_cases e : j = i
    · subst e
      rw [ho] at j3
      have j3 : o.dst = some d := j3
      rw [hy] at j4
      injection j4 with j4
      subst j4
      rw [j3]
      have hdl := hd.dst j o d ho j3
      simp only [AF.put, Slots.get_set, if_true]
      have hlt : d < fS.t.n := by rw [h1.len, ← hk]; exact hdl
      rw [if_pos hlt]
    · rw [if_neg e] at j2
      have hold := h1.got j d z j1 j2 j3 j4
      cases hdst : o.dst with
      | none => exact hold
      | some d' =>
        have : d' ≠ d := by
          rintro rfl
          exact e (hd.dis i j d' hi (by rw [ho]; exact hdst) j3)
        simp only [AF.put, Slots.get_set, this, if_false]
        exact hold
theorem puts_spec {n k : Nat} (hd : DrawOk ops n k) (hk : k = f.t.n) (hys : ys.length = n) : FrS ops f ys n (Array.replicate ops.size true) (f.puts ops ys) := by
  have key : ∀ (l : List AV) (m : Nat) (fS : AF) (listed : Array Bool), listed.size = ops.size → FrS ops f ys n listed fS → m + l.length = n → (∀ j, l[j]? = ys[m + j]?) → (∀ j, j < m → listed.getD j true = true) →
      ∃ listed', (∀ j, j < n → listed'.getD j true = true) ∧ FrS ops f ys n listed' ((l.zipIdx m).foldl (fun f p => f.put ((ops[p.2]?).bind (·.dst)) p.1) fS) := by
    intro l
    induction l with
    | nil => exact fun m fS listed hs h1 h2 _ h4 => ⟨listed, fun j hj => h4 j (by simp at h2; omega), h1⟩
    | cons y l ih =>
      intro m fS listed hs h1 h2 h3 h4
      simp at h2
      have hle := hd.le
      have hm : m < ops.size := by omega
      have ho : ops[m]? = some ops[m] := by simp [hm]
      have hym : ys[m]? = some y := by have := h3 0; simpa using this.symm
      have hst := h1.step (i := m) hd hk hs (by omega) ho hym
      have e : (ops[m]?).bind (·.dst) = ops[m].dst := by rw [ho]; rfl
      rw [List.zipIdx_cons, List.foldl_cons]
      simp only [e]
      refine ih (m + 1) _ (listed.setIfInBounds m true) (by simpa using hs) hst (by omega) (fun j => ?_) fun j hj => ?_
      · have := h3 (j + 1)
        rw [List.getElem?_cons_succ] at this
        rw [this]
        congr 1; omega
      · rw [set_getD (by omega)]
        split
        · rfl
        · exact h4 j (by omega)
  obtain ⟨listed', k1, k2⟩ := key ys 0 f (Array.replicate ops.size false) (by simp) ⟨rfl, rfl, rfl, fun _ _ => rfl, fun j d y j1 j2 _ _ => by
    have hle := hd.le
    have : j < ops.size := by omega
    simp [this] at j2⟩ (by omega) (fun j => by simp) (fun j hj => by omega)
  exact ⟨k2.len, k2.marks, k2.rnd, fun j hj => k2.old j fun i i1 _ => hj i i1 (by
    have hle := hd.le
    have : i < ops.size := by omega
    simp [this]), fun j d y j1 _ j3 j4 => k2.got j d y j1 (k1 j j1) j3 j4⟩

/-- the heap behind the head -/
structure Grown (H h : AH) (n : Nat) (B : List (Option Cells)) : Prop where
  next : H.next = h.next + n
  hid : H.hid = h.hid.filter (· < h.next)
  old : ∀ r, (∀ i, i < n → r ≠ h.next + i) → H.get r = h.get r
  new : ∀ i b, i < n → B[i]? = some b → H.get (h.next + i) = b.map .cells
theorem memS_yes {H : AH} {listed : Array Bool} {n r : Nat} (hb : (memS H h listed n res g q).born r) : (memS H h listed n res g q).blk r = H.get r := if_pos hb
theorem memS_no {H : AH} {listed : Array Bool} {n r : Nat} (hb : ¬ (memS H h listed n res g q).born r) : (memS H h listed n res g q).blk r = none := if_neg hb
theorem memS_agr {H : AH} {listed : Array Bool} {n : Nat} : Agr H (memS H h listed n res g q) := fun r o hb hr => by
  rw [memS_yes hb]; exact hr
theorem memS_born {H : AH} {listed : Array Bool} {n : Nat} {r : Nat} (hi : i < listed.size) (hin : i < n) : (memS H h (listed.setIfInBounds i true) n res g q).born r ↔ (memS H h listed n res g q).born r ∨ r = h.next + i := by
  show (_ ∨ _) ↔ (_ ∨ _) ∨ _
  constructor
  · rintro (h1 | ⟨j, j1, j2, j3⟩)
    · exact .inl (.inl h1)
    · rw [set_getD hi] at j2
      by_cases e : j = i
      · subst e; exact .inr j3
      · rw [if_neg e] at j2; exact .inl (.inr ⟨j, j1, j2, j3⟩)
  · rintro ((h1 | ⟨j, j1, j2, j3⟩) | h1)
    · exact .inl h1
    · exact .inr ⟨j, j1, set_mono hi j2, j3⟩
    · exact .inr ⟨i, hin, by rw [set_getD hi, if_pos rfl], h1⟩
theorem memS_unborn {H : AH} {listed : Array Bool} {n : Nat} (hi : listed.getD i true = false) : ¬ (memS H h listed n res g q).born (h.next + i) := by
  rintro (⟨h1, _⟩ | ⟨j, j1, j2, j3⟩)
  · omega
  · have : j = i := by omega
    subst this
    rw [hi] at j2; cases j2
theorem memS_none {H : AH} {listed : Array Bool} {n : Nat} (hG : Grown H h n B) (hi : i < listed.size) (hin : i < n) (hu : listed.getD i true = false) (hb : B[i]? = some none) : (memS H h (listed.setIfInBounds i true) n res g q).blk = (memS H h listed n res g q).blk := by
  funext r
  by_cases e : r = h.next + i
  · subst e
    rw [memS_yes ((memS_born hi hin).2 (.inr rfl)), memS_no (memS_unborn hu), hG.new i none hin hb]; rfl
  · by_cases hbr : (memS H h listed n res g q).born r
    · rw [memS_yes hbr, memS_yes ((memS_born hi hin).2 (.inl hbr))]
    · rw [memS_no hbr, memS_no fun h' => hbr (((memS_born hi hin).1 h').resolve_right e)]
theorem memS_some {H : AH} {listed : Array Bool} {n p m : Nat} {c : Cells} (hG : Grown H h n B) (hi : i < listed.size) (hin : i < n) (hu : listed.getD i true = false) (hb : B[i]? = some (some c)) :
    (memS H h listed n res g q).upd (h.next + i) (some (.cells c)) p m = memS H h (listed.setIfInBounds i true) n res (updf g (h.next + i) p) (updf q (h.next + i) m) := by
  have e1 : ((memS H h listed n res g q).upd (h.next + i) (some (.cells c)) p m).born = (memS H h (listed.setIfInBounds i true) n res (updf g (h.next + i) p) (updf q (h.next + i) m)).born := by
    funext r
    exact propext (memS_born (g := g) (q := q) hi hin).symm
  have e2 : ((memS H h listed n res g q).upd (h.next + i) (some (.cells c)) p m).blk = (memS H h (listed.setIfInBounds i true) n res (updf g (h.next + i) p) (updf q (h.next + i) m)).blk := by
    funext r
    by_cases e : r = h.next + i
    · subst e
      rw [memS_yes ((memS_born (g := updf g (h.next + i) p) (q := updf q (h.next + i) m) hi hin).2 (.inr rfl)), hG.new i _ hin hb, Mem.upd_blk_same]; rfl
    · rw [Mem.upd_blk_ne e]
      by_cases hbr : (memS H h listed n res g q).born r
      · rw [memS_yes hbr, memS_yes ((memS_born (g := updf g (h.next + i) p) (q := updf q (h.next + i) m) hi hin).2 (.inl hbr))]
      · rw [memS_no hbr, memS_no fun h' => hbr (((memS_born (g := updf g (h.next + i) p) (q := updf q (h.next + i) m) hi hin).1 h').resolve_right e)]
  have e3 : ((memS H h listed n res g q).upd (h.next + i) (some (.cells c)) p m).pos = (memS H h (listed.setIfInBounds i true) n res (updf g (h.next + i) p) (updf q (h.next + i) m)).pos := rfl
  have e4 : ((memS H h listed n res g q).upd (h.next + i) (some (.cells c)) p m).room = (memS H h (listed.setIfInBounds i true) n res (updf g (h.next + i) p) (updf q (h.next + i) m)).room := rfl
  have e5 : ((memS H h listed n res g q).upd (h.next + i) (some (.cells c)) p m).res = (memS H h (listed.setIfInBounds i true) n res (updf g (h.next + i) p) (updf q (h.next + i) m)).res := rfl
  generalize (memS H h listed n res g q).upd (h.next + i) (some (.cells c)) p m = A at *
  generalize memS H h (listed.setIfInBounds i true) n res (updf g (h.next + i) p) (updf q (h.next + i) m) = A' at *
  obtain ⟨a1, a2, a3, a4, a5⟩ := A
  obtain ⟨b1, b2, b3, b4, b5⟩ := A'
  simp only at e1 e2 e3 e4 e5
  subst e1 e2 e3 e4 e5
  rfl
theorem memS_all {H : AH} {listed : Array Bool} {n : Nat} (hG : Grown H h n B) (hall : ∀ i, i < n → listed.getD i true = true) (hold : ∀ r o, H.get r = some o → (∀ i, i < n → r ≠ h.next + i) → r < h.next ∧ r ∉ h.hid) : memS H h listed n res g q = H.mem res g q := by
  have e1 : (memS H h listed n res g q).born = (H.mem res g q).born := by
    funext r
    apply propext
    show (_ ∨ _) ↔ r < H.next ∧ r ∉ H.hid
    rw [hG.next, hG.hid]
    simp only [List.mem_filter, decide_eq_true_eq]
    constructor
    · rintro (⟨h1, h2⟩ | ⟨i, i1, _, i3⟩)
      · exact ⟨by omega, fun h' => h2 h'.1⟩
      · exact ⟨by omega, fun h' => by omega⟩
    · rintro ⟨h1, h2⟩
      rcases Nat.lt_or_ge r h.next with h3 | h3
      · exact .inl ⟨h3, fun h' => h2 ⟨h', h3⟩⟩
      · exact .inr ⟨r - h.next, by omega, hall _ (by omega), by omega⟩
  have e2 : (memS H h listed n res g q).blk = (H.mem res g q).blk := by
    funext r
    show _ = H.get r
    by_cases hb : (memS H h listed n res g q).born r
    · exact memS_yes hb
    · rw [memS_no hb]
      cases hr : H.get r with
      | none => rfl
      | some o =>
        exfalso
        refine hb (.inl (hold r o hr fun i i1 i2 => hb (.inr ⟨i, i1, hall i i1, i2⟩)))
  unfold memS AH.mem at *
  simp only [Mem.mk.injEq] at e1 e2 ⊢
  exact ⟨e1, e2, trivial, trivial, trivial⟩
theorem memS_start {H : AH} {n : Nat} (hG : Grown H h n B) (hn : n ≤ ops.size) (hold : ∀ r o, h.get r = some o → r < h.next ∧ r ∉ h.hid) : memS H h (Array.replicate ops.size false) n res g q = h.mem res g q := by
  have hf : ∀ i, i < n → (Array.replicate ops.size false).getD i true = false := fun i hi => by
    have : i < ops.size := by omega
    simp [this]
  have e1 : (memS H h (Array.replicate ops.size false) n res g q).born = (h.mem res g q).born := by
    funext r
    apply propext
    show (_ ∨ _) ↔ r < h.next ∧ r ∉ h.hid
    constructor
    · rintro (h1 | ⟨i, i1, i2, i3⟩)
      · exact h1
      · rw [hf i i1] at i2; cases i2
    · exact fun h1 => .inl h1
  have e2 : (memS H h (Array.replicate ops.size false) n res g q).blk = (h.mem res g q).blk := by
    funext r
    show _ = h.get r
    by_cases hb : (memS H h (Array.replicate ops.size false) n res g q).born r
    · rw [memS_yes hb]
      rw [e1] at hb
      have hb : r < h.next ∧ r ∉ h.hid := hb
      exact hG.old r fun i i1 => by omega
    · rw [memS_no hb]
      cases hr : h.get r with
      | none => rfl
      | some o => exact (hb (.inl (hold r o hr))).elim
  unfold memS AH.mem at *
  simp only [Mem.mk.injEq] at e1 e2 ⊢
  exact ⟨e1, e2, trivial, trivial, trivial⟩
theorem rep_true (n i : Nat) : (Array.replicate n true).getD i true = true := by
  by_cases h : i < n <;> simp [h]
theorem any_head {F : Fence} {nn n k : Nat} {Q : Exit → Act → World → Prop} {H : AH} {V0 : Mem} {w0 : World} (hF : FOk F) (hd : DrawOk ops n k) (hk : k = f.t.n) (hys : ys.length = n) (hG : Grown H h n B)
    (hold : ∀ r o, H.get r = some o → (∀ i, i < n → r ≠ h.next + i) → r < h.next ∧ r ∉ h.hid) (hh : ∀ i, i < n → HeadOk P ops h.next (f.puts ops ys) H ys B i)
    (htail : ∀ (g q : Nat → Nat) (a : Act) (w : World), To V0 w0 (H.mem res g q) w → FrDen (H.mem res g q) w (f.puts ops ys) a → ∀ (fuel : Nat) (listed : Array Bool), listed.size = ops.size → (∀ i, i < n → listed.getD i true = true) → (∀ i, n ≤ i → i < ops.size → listed.getD i true = false) → ops.size - n ≤ fuel → wpAnyIn F nn P .any ops Q fuel listed a w) :
    ∀ (fuel : Nat) (listed : Array Bool) (a : Act) (w : World) (g q : Nat → Nat) (fS : AF), Listed ops n listed → To V0 w0 (memS H h listed n res g q) w → FrDen (memS H h listed n res g q) w fS a → FrS ops f ys n listed fS →
      (List.range n).countP (fun i => !listed.getD i true) + (ops.size - n) ≤ fuel → wpAnyIn F nn P .any ops Q fuel listed a w := by
  have hF0 := puts_spec (f := f) (ys := ys) hd hk hys
  have hle := hd.le
  intro fuel
  induction fuel with
  | zero =>
    intro listed a w g q fS hl ht hf hs hc
    have hall : ∀ i, i < n → listed.getD i true = true := fun i hi => by
      have h0 : (List.range n).countP (fun i => !listed.getD i true) = 0 := by omega
      have := List.countP_eq_zero.1 h0 i (List.mem_range.2 hi)
      simpa using this
    rw [memS_all hG hall hold] at ht hf
    have hf := FrS.swap (by omega) hall hs (f2 := f.puts ops ys) ⟨hF0.len, hF0.marks, hF0.rnd, fun j hj => hF0.old j fun i i1 _ => hj i i1 (hall i i1), fun i d y i1 _ i3 i4 => hF0.got i d y i1 (rep_true _ _) i3 i4⟩ hf
    exact htail g q a w ht hf 0 listed hl.size hall hl.tail (by omega)
  | succ fuel ih =>
    intro listed a w g q fS hl ht hf hs hc
    by_cases hu : ∃ j, j < n ∧ listed.getD j true = false
    · refine ⟨fun e => absurd e (ready_some hd hl hu), fun i hi => ?_⟩
      have hin := ready_head hd hl hi hu
      obtain ⟨r1, r2, r3⟩ := (ready_iff hd hl.size).1 hi
      obtain ⟨o, y, b, ho, hy, hb, hstep⟩ := hh i hin
      have hil : i < listed.size := by rw [hl.size]; exact r2
      have hl' : Listed ops n (listed.setIfInBounds i true) := ⟨by simpa using hl.size, fun x j j1 j2 j3 => by
        rw [set_getD hil] at j1
        by_cases e : x = i
        · subst e; exact set_mono hil (r3 j j3)
        · rw [if_neg e] at j1; exact set_mono hil (hl.shut x j j1 j2 j3), fun x x1 x2 => by rw [set_getD hil, if_neg (by omega)]; exact hl.tail x x1 x2⟩
      have hc' : (List.range n).countP (fun i_1 => !(listed.setIfInBounds i true).getD i_1 true) + (ops.size - n) ≤ fuel := by
        have := count_set (n := n) (i := i) (fun j => !listed.getD j true) (fun j => !(listed.setIfInBounds i true).getD j true) hin (by simp [r1]) (by rw [set_getD hil, if_pos rfl]; rfl) (fun j hj => by rw [set_getD hil, if_neg hj])
        omega
      have hs' := hs.step (y := y) hd hk hl.size hin ho hy
      have slot : ∀ d ∈ o.looksAt ops, fS.t.get d = (f.puts ops ys).t.get d := fun d hdl => by
        by_cases hj : ∃ j : Nat, (ops[j]?).bind (fun x => x.dst) = some d
        · obtain ⟨j, hj⟩ := hj
          have he := hd.deps i o j d hin ho hj hdl
          have hjl := r3 j he
          obtain ⟨o', e1, e, e2, e3, e4⟩ := edgeB_iff.1 he
          have hji := hd.back i o' e e1 e2 e3
          have hjn : j < n := by omega
          have hyj : ys[j]? = some ys[j] := List.getElem?_eq_getElem (by omega)
          rw [hs.got j d _ hjn hjl hj hyj, hF0.got j d _ hjn (rep_true _ _) hj hyj]
        · rw [hs.old d fun j _ _ hj' => hj ⟨j, hj'⟩, hF0.old d fun j _ _ hj' => hj ⟨j, hj'⟩]
      have hops : ∀ x ∈ o.op.operands.toList, fS.ev x = (f.puts ops ys).ev x := fun x hx => by
        cases x with
        | tmp t => exact slot t (List.mem_append_left _ (List.mem_filterMap.2 ⟨.tmp t, hx, rfl⟩))
        | const v => rfl
        | global g => rfl
        | func F => rfl
      have hgd : guardA ops fS o = guardA ops (f.puts ops ys) o := by
        unfold guardA
        cases hg : o.guard with
        | none => rfl
        | some p =>
          obtain ⟨j, want⟩ := p
          simp only
          cases hdj : (ops[j]?).bind (·.dst) with
          | none => rfl
          | some d =>
            simp only
            rw [slot d (List.mem_append_right _ (by rw [hg]; simp [hdj]))]
      refine hstep F nn _ w fS a _ Q hF ht.rel memS_agr hf hops hgd (memS_unborn r1) ?_
      cases b with
      | none =>
        intro v w' t1 d1
        have t2 : To (memS H h listed n res g q) w' (memS H h (listed.setIfInBounds i true) n res g q) w' := Mem.given t1.rel (fun r hr => (memS_born hil hin).2 (.inl hr)) (memS_none hG hil hin r1 hb) rfl rfl rfl
        exact ih _ _ w' g q _ hl' (ht.trans (t1.trans t2)) (((hf.fwd t1.fwd).put d1).fwd t2.fwd) hs' hc'
      | some c =>
        intro v w' m t1 d1
        rw [memS_some hG hil hin r1 hb] at t1 d1
        exact ih _ _ w' _ _ _ hl' (ht.trans t1) ((hf.fwd t1.fwd).put d1) hs' hc'
    · have hall : ∀ i, i < n → listed.getD i true = true := fun i hi => by
        cases hx : listed.getD i true with
        | true => rfl
        | false => exact (hu ⟨i, hi, hx⟩).elim
      rw [memS_all hG hall hold] at ht hf
      have hf := FrS.swap (by omega) hall hs (f2 := f.puts ops ys) ⟨hF0.len, hF0.marks, hF0.rnd, fun j hj => hF0.old j fun i i1 _ => hj i i1 (hall i i1), fun i d y i1 _ i3 i4 => hF0.got i d y i1 (rep_true _ _) i3 i4⟩ hf
      exact htail g q a w ht hf (fuel + 1) listed hl.size hall hl.tail (by omega)
theorem find_append : ∀ (l l' : List (Nat × Blk)) (r : Nat), AH.find (l ++ l') r = match AH.find l r with | some o => some o | none => AH.find l' r
  | [], l', r => rfl
  | (e, z) :: l, l', r => by
    simp only [List.cons_append, AH.find]
    by_cases h : r = e
    · simp [h]
    · simp only [h, if_false]; exact find_append l l' r
theorem find_news (n0 : Nat) : ∀ (B : List (Option Cells)) (k r : Nat), AH.find (news n0 k B) r = if n0 + k ≤ r then (match B[r - n0 - k]? with | some (some c) => some (.cells c) | _ => none) else none
  | [], k, r => by simp [news, AH.find]
  | none :: B, k, r => by
    simp only [news]
    rw [find_news n0 B (k + 1) r]
    by_cases h1 : r = n0 + k
    · subst h1
      rw [if_neg (by omega), if_pos (Nat.le_refl _), (by omega : n0 + k - n0 - k = 0)]
      rfl
    · by_cases h2 : n0 + (k + 1) ≤ r
      · rw [if_pos h2, if_pos (by omega), (by omega : r - n0 - k = (r - n0 - (k + 1)) + 1), List.getElem?_cons_succ]
      · rw [if_neg h2, if_neg (by omega)]
  | some c :: B, k, r => by
    simp only [news, AH.find]
    by_cases h1 : r = n0 + k
    · subst h1
      rw [if_pos rfl, if_pos (Nat.le_refl _), (by omega : n0 + k - n0 - k = 0)]
      rfl
    · rw [if_neg h1, find_news n0 B (k + 1) r]
      by_cases h2 : n0 + (k + 1) ≤ r
      · rw [if_pos h2, if_pos (by omega), (by omega : r - n0 - k = (r - n0 - (k + 1)) + 1), List.getElem?_cons_succ]
      · rw [if_neg h2, if_neg (by omega)]
theorem adds_grown {n : Nat} (hB : B.length = n) (hlt : ∀ r o, h.get r = some o → r < h.next) : Grown (h.adds h.next B) h n B := by
  have key : ∀ r, (h.adds h.next B).get r = match h.get r with | some o => some o | none => if h.next ≤ r then (match B[r - h.next]? with | some (some c) => some (.cells c) | _ => none) else none := fun r => by
    show AH.find (h.blk ++ news h.next 0 B) r = _
    rw [find_append, find_news]
    rfl
  refine ⟨by simp [AH.adds, hB], rfl, fun r hr => ?_, fun i b hi hb => ?_⟩
  · rw [key]
    cases hg : h.get r with
    | some o => rfl
    | none =>
      simp only
      split
      · rename_i hle
        have : B[r - h.next]? = none := List.getElem?_eq_none (by
          rcases Nat.lt_or_ge (r - h.next) B.length with h1 | h1
          · exact absurd (by omega) (hr (r - h.next) (by omega))
          · exact h1)
        rw [this]
      · rfl
  · rw [key]
    cases hg : h.get (h.next + i) with
    | some o => have := hlt _ _ hg; omega
    | none =>
      simp only
      rw [if_pos (by omega), (by omega : h.next + i - h.next = i), hb]
      cases b <;> rfl
end
end Go.Proofs.YtaoglkkdhdfioaaDoor
