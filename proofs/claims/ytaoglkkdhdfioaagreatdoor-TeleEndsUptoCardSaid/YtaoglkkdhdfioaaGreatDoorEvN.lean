/- That the model runs so: regions whose order is drawn. -/
/- That the model runs so: ranges over functions. -/
import Derived.Test.YtaoglkkdhdfioaaGreatDoorEvK
import Derived.RangeFuncNested
namespace Go.Proofs.YtaoglkkdhdfioaaGreatDoor
open Go
section
variable {P : Program} {h h' : AH} {V : Mem} {res : Nat → Nat → Prop} {g q : Nat → Nat} {w : World} {f f' : AF} {a : Act} {ops : Array Oper} {n0 i : Nat} {ys : List AV} {B : List (Option Cells)}
theorem op_val {F : Fence} {n : Nat} {o : Oper} {Q : Exit → Act → World → Prop} {K : Act → World → Prop} {v : Value} {w' : World} (hF : FOk F) (ho : ops[i]? = some o) (hw : Region.wanted o (yielded ops a.tmps) = true)
    (hr : (execOp a.eval o).run P w = .ok (.value v) w') (hk : K (a.put o.dst v) w') : wpOpIn F n P ops Q i K a w := by
  simp only [wpOpIn, ho, hw, if_true]
  refine ⟨about_ok hF o, ?_⟩
  rw [Oper.semAt_eq _ _ _ (no_defer hr (fun d e => by cases e)), hr]
  exact hk
theorem head_off {o : Oper} (ho : ops[i]? = some o) (hg : guardA ops f o = some false) (hy : ys[i]? = some (.raw undef)) (hb : B[i]? = some none) : HeadOk P ops n0 f h ys B i :=
  ⟨o, _, none, ho, hy, hb, fun F n V w fS a K Q hF hV hA hf hx hgu hbn hK => by
    have hw := guard_ok hf (hgu.trans hg)
    simp only [wpOpIn, ho, hw, Bool.false_eq_true, if_false]
    exact ⟨about_ok hF o, hK _ _ (To.refl hV) (.raw _)⟩⟩
theorem head_q {o : Oper} {y : AV} (ho : ops[i]? = some o) (hg : guardA ops f o = some true) (hq : qop P h f o = some y) (hy : ys[i]? = some y) (hb : B[i]? = some none) : HeadOk P ops n0 f h ys B i :=
  ⟨o, y, none, ho, hy, hb, fun F n V w fS a K Q hF hV hA hf hx hgu hbn hK => by
    obtain ⟨v, h1, h2⟩ := qop_ok hV hA hf ((qop_like hx).trans hq)
    exact op_val hF ho (guard_ok hf (hgu.trans hg)) h1 (hK _ _ (To.refl hV) h2)⟩
theorem head_s {o : Oper} {y : AV} (ho : ops[i]? = some o) (hg : guardA ops f o = some true) (hq : QOk P h f o y) (hy : ys[i]? = some y) (hb : B[i]? = some none) : HeadOk P ops n0 f h ys B i :=
  ⟨o, y, none, ho, hy, hb, fun F n V w fS a K Q hF hV hA hf hx hgu hbn hK => by
    obtain ⟨v, h1, h2⟩ := hq V w fS a hV hA hf hx
    exact op_val hF ho (guard_ok hf (hgu.trans hg)) h1 (hK _ _ (To.refl hV) h2)⟩
theorem head_n {o : Oper} {y : Nat → AV} {c : Cells} {m : Nat} (ho : ops[i]? = some o) (hg : guardA ops f o = some true) (hq : nop P h f o = some (y, c)) (hm : m ≤ c.cs.length) (hy : ys[i]? = some (y (n0 + i))) (hb : B[i]? = some (some { c with imm := m })) : HeadOk P ops n0 f h ys B i :=
  ⟨o, _, _, ho, hy, hb, fun F n V w fS a K Q hF hV hA hf hx hgu hbn hK => by
    obtain ⟨v, w', h1, h2⟩ := nop_ok hV hA hf ((nop_like hx).trans hq)
    obtain ⟨k, h3, h4⟩ := h2.to hV hbn hm
    exact op_val hF ho (guard_ok hf (hgu.trans hg)) h1 (hK _ _ _ h3 h4)⟩
theorem head_call {o : Oper} {c : Call} {x : Operand} {fn : Fn} {first args cap args' cap' : List AV} {y z : AV} {l0 l1 l2 : List (Nat × Nat)} (ho : ops[i]? = some o) (hg : guardA ops f o = some true)
    (hc : o.op = .call c) (hx : c.callee = .value x) (hfx : f.ev x = some (.clo fn first cap)) (ha : f.evs c.args.toList = some args) (hs : SnapL h (first ++ args ++ cap) (args' ++ cap') l0) (hl : (first ++ args).length = args'.length) (hs0 : Sealed h l0) (hp : ∀ a ∈ args' ++ cap', Pure a)
    (ih : Sound P (.call fn args' cap' .zero) (.call (.ret y) h')) (hz : SnapL (h'.seals l1) [y] [z] l2) (hs2 : Sealed (h'.seals l1) l2) (hpz : Pure z) (hy : ys[i]? = some z) (hb : B[i]? = some none) : HeadOk P ops n0 f h ys B i :=
  ⟨o, z, none, ho, hy, hb, fun F n V w fS a K Q hF hV hA hf hlike hgu hbn hK => by
    obtain ⟨e1, e2⟩ := call_like (f := fS) (f' := f) hlike hc hx
    obtain ⟨v1, c1, e3, d1, d2⟩ := call_den (c := c) hf (e1.trans hfx) (e2.trans ha)
    have hd := snap_ok hs hV hA hs0 (app_den d1 d2)
    obtain ⟨hu', hc'⟩ := split_den (by rw [d1.1, hl]) hd
    have hin := stand_in V w (fun _ => 0) (fun _ => 0)
    simp only [wpOpIn, ho, guard_ok hf (hgu.trans hg), if_true]
    refine ⟨about_ok hF o, ?_⟩
    rw [Oper.semAt_eq _ _ _ (call_nodefer hc), exec_call hc hx e3]
    refine upon_call hF (ih F n (away V) (fun _ => 0) (fun _ => 0) _ _ w hF (zero_rel hV _ _) (hu'.stand hin fun b hb => hp b (List.mem_append_left _ hb)) (hc'.stand hin fun b hb => hp b (List.mem_append_right _ hb))) (fun v w1 hr => ?_) (fun ch w1 hr => ?_) fun w1 hr => ?_
    · obtain ⟨g1, q1, t1, d1⟩ := hr
      have hk := t1.keep
      have tsame := to_same hV hk.os hk.tape hk.output hk.size fun b hb => hk.block b hb fun r o ho => by rw [zero_blk] at ho; cases ho
      exact hK _ _ tsame (Den.stand (back_den t1.rel hz hs2 d1) stand_out hpz)
    · obtain ⟨g1, q1, t1, d1⟩ := hr
      exact d1.elim
    · obtain ⟨g1, q1, t1, d1⟩ := hr
      exact d1.elim⟩

/-! ### The region -/
/-- a number given to nobody is given -/
theorem Mem.given {V V' : Mem} (hV : Rel V w) (hb : ∀ r, V.born r → V'.born r) (hk : V'.blk = V.blk) (hp : V'.pos = V.pos) (hq : V'.room = V.room) (hr : V'.res = V.res) : To V w V' w := by
  have hf : Fwd V w V' w := ⟨fun b i x k1 k2 => ⟨⟨k1.1, by rw [hr]; exact k1.2.1, fun r c e1 e2 => k1.2.2 r c (by rw [← hk]; exact e1) (by rw [← hp]; exact e2)⟩, k2⟩, hb, fun r c _ e => ⟨c, by rw [← hk]; exact e, Nat.le_refl _, fun _ => ⟨by rw [hp], by rw [hq], rfl, rfl⟩⟩, fun r l _ e => ⟨l, by rw [← hk]; exact e, by rw [hp]⟩, fun r e => ⟨by rw [hk]; exact e, by rw [hp]⟩⟩
  refine ⟨⟨fun b i e => hV.bound b i (by rw [← hr]; exact e), fun r o e i => by rw [hr, hp]; exact hV.free r o (by rw [← hk]; exact e) i, fun r o e => ?_, fun r s o p e1 e2 e3 => hV.apart r s o p (by rw [← hk]; exact e1) (by rw [← hk]; exact e2) (by rw [← hp]; exact e3), fun r c e => ?_, fun r l e => ?_, fun r e => ?_, hV.glob.fwd hf⟩, hf, Keep.refl V w, fun r o e => .inr ⟨r, o, by rw [← hk]; exact e, by rw [hp]⟩⟩
  · obtain ⟨k1, k2⟩ := hV.live r o (by rw [← hk]; exact e)
    exact ⟨hb r k1, by rw [hp]; exact k2⟩
  · obtain ⟨X, k1, k2, k3, k4, k5, k6⟩ := hV.cells r c (by rw [← hk]; exact e)
    exact ⟨X, by rw [hp]; exact k1, by rw [hq]; exact k2, k3, k4, k5, fun i x b e1 e2 => (k6 i x b e1 e2).fwd hf⟩
  · obtain ⟨k0, fn, T, k1, k2, k3⟩ := hV.loop r l (by rw [← hk]; exact e)
    exact ⟨by rw [hk]; exact k0, fn, T, by rw [hp]; exact k1, k2, fun i b e2 => by obtain ⟨x, e1, e3⟩ := k3 i b e2; exact ⟨x, e1, e3.fwd hf⟩⟩
  · have := hV.mark r (by rw [← hk]; exact e)
    rw [hp]; exact this
/-- what is there when some of the operations have come up -/
def memS (H : AH) (h : AH) (listed : Array Bool) (n : Nat) (res : Nat → Nat → Prop) (g q : Nat → Nat) : Mem where
  born r := (r < h.next ∧ r ∉ h.hid) ∨ ∃ i, i < n ∧ listed.getD i true = true ∧ r = h.next + i
  blk r := open Classical in if (r < h.next ∧ r ∉ h.hid) ∨ ∃ i, i < n ∧ listed.getD i true = true ∧ r = h.next + i then H.get r else none
  pos := g
  room := q
  res := res
/-- the frame when some of the operations have come up -/
structure FrS (ops : Array Oper) (f : AF) (ys : List AV) (n : Nat) (listed : Array Bool) (fS : AF) : Prop where
  len : fS.t.n = f.t.n
  marks : fS.marks = f.marks
  rnd : fS.rnd = f.rnd
  old : ∀ k, (∀ i, i < n → listed.getD i true = true → (ops[i]?).bind (·.dst) ≠ some k) → fS.t.get k = f.t.get k
  got : ∀ i d y, i < n → listed.getD i true = true → (ops[i]?).bind (·.dst) = some d → ys[i]? = some y → fS.t.get d = some y
theorem edgeB_iff {i j : Nat} : edgeB ops i j = true ↔ ∃ o, ops[i]? = some o ∧ ∃ e ∈ o.after, Region.binds .any e = true ∧ e.on = j := by
  unfold edgeB
  cases ho : ops[i]? with
  | none => simp
  | some o =>
    simp only [Option.some.injEq, exists_eq_left', ← Array.any_toList, List.any_eq_true, Array.mem_toList_iff, Bool.and_eq_true, beq_iff_eq]
structure DrawOk (ops : Array Oper) (n k : Nat) : Prop where
  le : n ≤ ops.size
  dst : ∀ (i : Nat) (o : Oper) d, ops[i]? = some o → o.dst = some d → d < k
  back : ∀ (i : Nat) (o : Oper) (e : Edge), ops[i]? = some o → e ∈ o.after → Region.binds .any e = true → e.on < i
  deps : ∀ (i : Nat) (o : Oper) (j d : Nat), i < n → ops[i]? = some o → (ops[j]?).bind (·.dst) = some d → d ∈ o.looksAt ops → edgeB ops i j = true
  dis : ∀ (i j d : Nat), i < n → (ops[i]?).bind (·.dst) = some d → (ops[j]?).bind (·.dst) = some d → j = i
  sink : ∀ i, i < n → n = ops.size ∨ ∃ s, i < s ∧ s ≤ n ∧ edgeB ops s i = true
  hub : ∀ k, n < k → k < ops.size → ∃ j, n ≤ j ∧ j < k ∧ edgeB ops k j = true
theorem drawB_spec {n k : Nat} (h : drawB ops n k = true) : DrawOk ops n k := by
  unfold drawB at h
  simp only [Bool.and_eq_true, decide_eq_true_eq] at h
  obtain ⟨⟨⟨⟨⟨_, h1⟩, h2⟩, h3⟩, h4⟩, h5⟩ := h
  have lt : ∀ {i : Nat} {o : Oper}, ops[i]? = some o → i < ops.size := fun h => (Array.getElem?_eq_some_iff.1 h).1
  have g2 : ∀ i o, ops[i]? = some o → (∀ d, o.dst = some d → d < k) ∧ ∀ e ∈ o.after, Region.binds .any e = true → e.on < i := fun i o ho => by
    have := List.all_eq_true.1 h2 i (List.mem_range.2 (lt ho))
    rw [ho] at this
    simp only [Bool.and_eq_true] at this
    refine ⟨fun d hd => ?_, fun e he hb => ?_⟩
    · have h := this.1
      rw [hd] at h
      simpa using h
    · have := Array.all_eq_true_iff_forall_mem.1 this.2 e he
      simpa [hb] using this
  have g3 : ∀ i o j d, i < n → ops[i]? = some o → (ops[j]?).bind (·.dst) = some d → (d ∈ o.looksAt ops → edgeB ops i j = true) ∧ (j = i ∨ o.dst ≠ some d) := fun i o j d hi ho hj => by
    have := List.all_eq_true.1 h3 i (List.mem_range.2 hi)
    rw [ho] at this
    have hjl : j < ops.size := by
      cases hoj : ops[j]? with
      | none => rw [hoj] at hj; cases hj
      | some oj => exact lt hoj
    have := List.all_eq_true.1 this j (List.mem_range.2 hjl)
    rw [hj] at this
    simp only [Bool.and_eq_true, Bool.or_eq_true, Bool.not_eq_true', List.contains_eq_mem, decide_eq_false_iff_not, beq_iff_eq, bne_iff_ne] at this
    exact ⟨fun hd => this.1.resolve_left fun hn => hn hd, this.2⟩
  refine ⟨h1, fun i o d ho => (g2 i o ho).1 d, fun i o e ho => (g2 i o ho).2 e, fun i o j d hi ho hj => (g3 i o j d hi ho hj).1, fun i j d hi hdi hdj => ?_, fun i hi => ?_, fun k hk hks => ?_⟩
  · cases hoi : ops[i]? with
    | none => rw [hoi] at hdi; cases hdi
    | some o =>
      rw [hoi] at hdi
      exact (g3 i o j d hi hoi hdj).2.resolve_right fun hn => hn hdi
  · have := List.all_eq_true.1 h4 i (List.mem_range.2 hi)
    simp only [Bool.or_eq_true, beq_iff_eq, List.any_eq_true, List.mem_range, Bool.and_eq_true, decide_eq_true_eq] at this
    rcases this with h | ⟨s, h1, h2, h3⟩
    · exact .inl h
    · exact .inr ⟨s, h2, by omega, h3⟩
  · have := List.all_eq_true.1 h5 k (List.mem_range.2 hks)
    simp only [Bool.or_eq_true, decide_eq_true_eq] at this
    exact ⟨k - 1, by omega, by omega, this.resolve_left (by omega)⟩
theorem drawB_chain {n k : Nat} (h : drawB ops n k = true) : ∀ k, n < k → k < ops.size → edgeB ops k (k - 1) = true := by
  unfold drawB at h
  simp only [Bool.and_eq_true, decide_eq_true_eq] at h
  obtain ⟨⟨⟨⟨⟨_, h1⟩, h2⟩, h3⟩, h4⟩, h5⟩ := h
  intro k hk hks
  have := List.all_eq_true.1 h5 k (List.mem_range.2 hks)
  simp only [Bool.or_eq_true, decide_eq_true_eq] at this
  exact this.resolve_left (by omega)
/-- what has come up is closed -/
structure Listed (ops : Array Oper) (n : Nat) (listed : Array Bool) : Prop where
  size : listed.size = ops.size
  shut : ∀ i j, listed.getD i true = true → i < ops.size → edgeB ops i j = true → listed.getD j true = true
  tail : ∀ k, n ≤ k → k < ops.size → listed.getD k true = false
theorem getD_same {listed : Array Bool} {j : Nat} (hj : j < listed.size) : listed.getD j false = listed.getD j true := by simp [hj]
theorem ready_iff {listed : Array Bool} {k n : Nat} (hd : DrawOk ops n k) (hs : listed.size = ops.size) {j : Nat} : j ∈ Region.ready .any ops listed ↔ listed.getD j true = false ∧ j < ops.size ∧ ∀ i, edgeB ops j i = true → listed.getD i true = true := by
  rw [mem_ready]
  constructor
  · rintro ⟨h1, o, h2, h3⟩
    refine ⟨h1, (Array.getElem?_eq_some_iff.1 h2).1, fun i hi => ?_⟩
    obtain ⟨o', e1, e, e2, e3, rfl⟩ := edgeB_iff.1 hi
    rw [h2] at e1
    injection e1 with e1
    subst e1
    have hlt := hd.back j o e h2 e2 e3
    have hj : j < ops.size := (Array.getElem?_eq_some_iff.1 h2).1
    rw [← getD_same (by omega)]
    exact h3 e e2 e3
  · rintro ⟨h1, h2, h3⟩
    refine ⟨h1, ops[j], by simp [h2], fun e he hb => ?_⟩
    have hlt := hd.back j ops[j] e (by simp [h2]) he hb
    rw [getD_same (by omega)]
    exact h3 e.on (edgeB_iff.2 ⟨ops[j], by simp [h2], e, he, hb, rfl⟩)
theorem set_getD {listed : Array Bool} {i j : Nat} (hi : i < listed.size) : (listed.setIfInBounds i true).getD j true = if j = i then true else listed.getD j true := by
  by_cases e : j = i
  · subst e; simp [hi]
  · simp only [e, if_false, Array.getD_eq_getD_getElem?, Array.getElem?_setIfInBounds_ne (Ne.symm e)]
theorem set_mono {listed : Array Bool} {i j : Nat} (hi : i < listed.size) (hj : listed.getD j true = true) : (listed.setIfInBounds i true).getD j true = true := by
  rw [set_getD hi]
  split
  · rfl
  · exact hj
theorem ready_head {listed : Array Bool} {n k i : Nat} (hd : DrawOk ops n k) (hl : Listed ops n listed) (hi : i ∈ Region.ready .any ops listed) (hu : ∃ j, j < n ∧ listed.getD j true = false) : i < n := by
  obtain ⟨h1, h2, h3⟩ := (ready_iff hd hl.size).1 hi
  rcases Nat.lt_or_ge i n with h | h
  · exact h
  exfalso
  rcases Nat.lt_or_ge n i with h' | h'
  · obtain ⟨j, j1, j2, j3⟩ := hd.hub i h' h2
    have e := h3 j j3
    rw [hl.tail j (by omega) (by omega)] at e
    cases e
  · have : i = n := by omega
    subst this
    have all : ∀ m j, i - m ≤ j → j < i → listed.getD j true = true := by
      intro m
      induction m with
      | zero => exact fun j a b => by omega
      | succ m ih =>
        intro j a b
        rcases Nat.lt_or_ge j (i - m) with hlt | hge
        · rcases hd.sink j b with e | ⟨s, s1, s2, s3⟩
          · omega
          · rcases Nat.lt_or_ge s i with s4 | s4
            · exact hl.shut s j (ih s (by omega) s4) (by omega) s3
            · have : s = i := by omega
              subst this
              exact h3 j s3
        · exact ih j hge b
    obtain ⟨j, j1, j2⟩ := hu
    rw [all i j (by omega) j1] at j2
    cases j2
theorem ready_some {listed : Array Bool} {n k : Nat} (hd : DrawOk ops n k) (hl : Listed ops n listed) (hu : ∃ j, j < n ∧ listed.getD j true = false) : Region.ready .any ops listed ≠ [] := by
  obtain ⟨m, ⟨m1, m2⟩, m3⟩ := least _ hu
  have hle := hd.le
  have : m ∈ Region.ready .any ops listed := (ready_iff hd hl.size).2 ⟨m2, by omega, fun i hi => by
    obtain ⟨o, e1, e, e2, e3, rfl⟩ := edgeB_iff.1 hi
    have hlt := hd.back m o e e1 e2 e3
    cases hc : listed.getD e.on true with
    | true => rfl
    | false => have := m3 e.on ⟨by omega, hc⟩; omega⟩
  intro e
  rw [e] at this
  cases this
theorem any_tail {F : Fence} {nn n k : Nat} {Q : Exit → Act → World → Prop} (hd : DrawOk ops n k) (hch : ∀ k, n < k → k < ops.size → edgeB ops k (k - 1) = true) : ∀ (m j fuel : Nat) (listed : Array Bool) (a : Act) (w : World), j + m = ops.size → n ≤ j → listed.size = ops.size → (∀ i, i < j → listed.getD i true = true) → (∀ i, j ≤ i → i < ops.size → listed.getD i true = false) → m ≤ fuel →
    wpOpsIn F nn P ops Q (List.range' j m) a w → wpAnyIn F nn P .any ops Q fuel listed a w
  | 0, j, fuel, listed, a, w, h1, hn, h2, h3, h4, h5, hw => by
    have hr : Region.ready .any ops listed = [] := List.eq_nil_iff_forall_not_mem.2 fun i hi => by
      obtain ⟨k1, k2, _⟩ := (ready_iff hd h2).1 hi
      rw [h3 i (by omega)] at k1
      cases k1
    have hq : Q .normal a w := hw
    cases fuel with
    | zero => exact ⟨hr, hq⟩
    | succ fuel => exact ⟨fun _ => hq, fun i hi => by rw [hr] at hi; cases hi⟩
  | m + 1, j, fuel, listed, a, w, h1, hn, h2, h3, h4, h5, hw => by
    cases fuel with
    | zero => omega
    | succ fuel =>
      have hj : j ∈ Region.ready .any ops listed := (ready_iff hd h2).2 ⟨h4 j (Nat.le_refl _) (by omega), by omega, fun i hi => by
        obtain ⟨o, e1, e, e2, e3, rfl⟩ := edgeB_iff.1 hi
        exact h3 _ (hd.back j o e e1 e2 e3)⟩
      refine ⟨fun e => (by rw [e] at hj; cases hj), fun i hi => ?_⟩
      obtain ⟨k1, k2, k3⟩ := (ready_iff hd h2).1 hi
      have hij : i = j := by
        rcases Nat.lt_or_ge i j with h | h
        · rw [h3 i h] at k1; cases k1
        · rcases Nat.lt_or_ge j i with h' | h'
          · have := k3 (i - 1) (hch i (by omega) k2)
            rw [h4 (i - 1) (by omega) (by omega)] at this
            cases this
          · omega
      subst hij
      rw [List.range'_succ, wpOpsIn_cons] at hw
      refine wpOpIn_mono (fun a' w' hw' => any_tail hd hch m (i + 1) fuel _ a' w' (by omega) (by omega) (by simpa using h2) (fun l hl => ?_) (fun l hl1 hl2 => ?_) (by omega) hw') hw
      · rw [set_getD (by omega)]
        split
        · rfl
        · exact h3 l (by omega)
      · rw [set_getD (by omega), if_neg (by omega)]
        exact h4 l (by omega) hl2
theorem count_set {n i : Nat} (p p' : Nat → Bool) (hi : i < n) (h1 : p i = true) (h2 : p' i = false) (h3 : ∀ j, j ≠ i → p' j = p j) : (List.range n).countP p' + 1 = (List.range n).countP p := by
  induction n with
  | zero => omega
  | succ n ih =>
    rw [List.range_succ, List.countP_append, List.countP_append]
    by_cases e : i = n
    · subst e
      have : (List.range i).countP p' = (List.range i).countP p := List.countP_congr fun j hj => by
        have := List.mem_range.1 hj
        rw [h3 j (by omega)]
      simp [this, h1, h2]
    · have := ih (by omega)
      have hn := h3 n (Ne.symm e)
      simp only [List.countP_cons, List.countP_nil, hn]
      omega
theorem FrS.swap {n : Nat} {listed : Array Bool} {f1 f2 : AF} (hn : n ≤ ys.length) (hall : ∀ i, i < n → listed.getD i true = true) (h1 : FrS ops f ys n listed f1) (h2 : FrS ops f ys n listed f2) (hf : FrDen V w f1 a) : FrDen V w f2 a := by
  have ht : ∀ k, f2.t.get k = f1.t.get k := fun k => by
    by_cases hk : ∃ i : Nat, i < n ∧ (ops[i]?).bind (fun x => x.dst) = some k
    · obtain ⟨i, i1, i2⟩ := hk
      have hy : ys[i]? = some ys[i] := List.getElem?_eq_getElem (by omega)
      rw [h1.got i k _ i1 (hall i i1) i2 hy, h2.got i k _ i1 (hall i i1) i2 hy]
    · have hno : ∀ i, i < n → listed.getD i true = true → (ops[i]?).bind (fun x => x.dst) ≠ some k := fun i i1 _ i2 => hk ⟨i, i1, i2⟩
      rw [h1.old k hno, h2.old k hno]
  exact ⟨⟨by rw [hf.tmps.1, h1.len, h2.len], fun i b hb => hf.tmps.2 i b (by rw [← ht]; exact hb)⟩, by rw [h2.marks, ← h1.marks]; exact hf.defers, fun m hm => hf.marks m (by rw [h1.marks, ← h2.marks]; exact hm), by rw [h2.marks, ← h1.marks]; exact hf.nodup, hf.glob⟩
theorem FrS.step {n k : Nat} {listed : Array Bool} {fS : AF} {y : AV} {o : Oper} (hd : DrawOk ops n k) (hk : k = f.t.n) (hs : listed.size = ops.size) (h1 : FrS ops f ys n listed fS) (hi : i < n) (ho : ops[i]? = some o) (hy : ys[i]? = some y) : FrS ops f ys n (listed.setIfInBounds i true) (fS.put o.dst y) := by
  have hle := hd.le
  have hlen : (fS.put o.dst y).t.n = f.t.n := by
    cases o.dst with
    | none => exact h1.len
    | some d => exact h1.len
  refine ⟨hlen, ?_, (put_rnd ..).trans h1.rnd, fun j hj => ?_, fun j d z j1 j2 j3 j4 => ?_⟩
  · cases o.dst with
    | none => exact h1.marks
    | some d => exact h1.marks
  · have hold : fS.t.get j = f.t.get j := h1.old j fun l l1 l2 => hj l l1 (set_mono (by omega) l2)
    have hne : o.dst ≠ some j := fun e => hj i hi (by rw [set_getD (by omega), if_pos rfl]) (by rw [ho]; exact e)
    cases hdst : o.dst with
    | none => exact hold
    | some d =>
      have : d ≠ j := fun e => hne (by rw [hdst, e])
      simp only [AF.put, Slots.get_set, this, if_false]
      exact hold
  · rw [set_getD (by omega)] at j2
    by_cases e : j = i
    · subst e
      rw [ho] at j3
      have j3 : o.dst = some d := j3
      rw [hy] at j4
      injection j4 with j4
      subst j4
      rw [j3]
      have hdl := hd.dst j o d ho j3
      simp only [AF.put, Slots.get_set, if_true]
      have hlt : d < fS.t.n := by rw [h1.len, ← hk]; exact hdl
      rw [if_pos hlt]
    · rw [if_neg e] at j2
      have hold := h1.got j d z j1 j2 j3 j4
      cases hdst : o.dst with
      | none => exact hold
      | some d' =>
        have : d' ≠ d := by
          rintro rfl
          exact e (hd.dis i j d' hi (by rw [ho]; exact hdst) j3)
        simp only [AF.put, Slots.get_set, this, if_false]
        exact hold
theorem puts_spec {n k : Nat} (hd : DrawOk ops n k) (hk : k = f.t.n) (hys : ys.length = n) : FrS ops f ys n (Array.replicate ops.size true) (f.puts ops ys) := by
  have key : ∀ (l : List AV) (m : Nat) (fS : AF) (listed : Array Bool), listed.size = ops.size → FrS ops f ys n listed fS → m + l.length = n → (∀ j, l[j]? = ys[m + j]?) → (∀ j, j < m → listed.getD j true = true) →
      ∃ listed', (∀ j, j < n → listed'.getD j true = true) ∧ FrS ops f ys n listed' ((l.zipIdx m).foldl (fun f p => f.put ((ops[p.2]?).bind (·.dst)) p.1) fS) := by
    intro l
    induction l with
    | nil => exact fun m fS listed hs h1 h2 _ h4 => ⟨listed, fun j hj => h4 j (by simp at h2; omega), h1⟩
    | cons y l ih =>
      intro m fS listed hs h1 h2 h3 h4
      simp at h2
      have hle := hd.le
      have hm : m < ops.size := by omega
      have ho : ops[m]? = some ops[m] := by simp [hm]
      have hym : ys[m]? = some y := by have := h3 0; simpa using this.symm
      have hst := h1.step (i := m) hd hk hs (by omega) ho hym
      have e : (ops[m]?).bind (·.dst) = ops[m].dst := by rw [ho]; rfl
      rw [List.zipIdx_cons, List.foldl_cons]
      simp only [e]
      refine ih (m + 1) _ (listed.setIfInBounds m true) (by simpa using hs) hst (by omega) (fun j => ?_) fun j hj => ?_
      · have := h3 (j + 1)
        rw [List.getElem?_cons_succ] at this
        rw [this]
        congr 1; omega
      · rw [set_getD (by omega)]
        split
        · rfl
        · exact h4 j (by omega)
  obtain ⟨listed', k1, k2⟩ := key ys 0 f (Array.replicate ops.size false) (by simp) ⟨rfl, rfl, rfl, fun _ _ => rfl, fun j d y j1 j2 _ _ => by
    have hle := hd.le
    have : j < ops.size := by omega
    simp [this] at j2⟩ (by omega) (fun j => by simp) (fun j hj => by omega)
  exact ⟨k2.len, k2.marks, k2.rnd, fun j hj => k2.old j fun i i1 _ => hj i i1 (by
    have hle := hd.le
    have : i < ops.size := by omega
    simp [this]), fun j d y j1 _ j3 j4 => k2.got j d y j1 (k1 j j1) j3 j4⟩

/-- the heap behind the head -/
structure Grown (H h : AH) (n : Nat) (B : List (Option Cells)) : Prop where
  next : H.next = h.next + n
  hid : H.hid = h.hid.filter (· < h.next)
  old : ∀ r, (∀ i, i < n → r ≠ h.next + i) → H.get r = h.get r
  new : ∀ i b, i < n → B[i]? = some b → H.get (h.next + i) = b.map .cells
theorem memS_yes {H : AH} {listed : Array Bool} {n r : Nat} (hb : (memS H h listed n res g q).born r) : (memS H h listed n res g q).blk r = H.get r := if_pos hb
theorem memS_no {H : AH} {listed : Array Bool} {n r : Nat} (hb : ¬ (memS H h listed n res g q).born r) : (memS H h listed n res g q).blk r = none := if_neg hb
theorem memS_agr {H : AH} {listed : Array Bool} {n : Nat} : Agr H (memS H h listed n res g q) := fun r o hb hr => by
  rw [memS_yes hb]; exact hr
theorem memS_born {H : AH} {listed : Array Bool} {n : Nat} {r : Nat} (hi : i < listed.size) (hin : i < n) : (memS H h (listed.setIfInBounds i true) n res g q).born r ↔ (memS H h listed n res g q).born r ∨ r = h.next + i := by
  show (_ ∨ _) ↔ (_ ∨ _) ∨ _
  constructor
  · rintro (h1 | ⟨j, j1, j2, j3⟩)
    · exact .inl (.inl h1)
    · rw [set_getD hi] at j2
      by_cases e : j = i
      · subst e; exact .inr j3
      · rw [if_neg e] at j2; exact .inl (.inr ⟨j, j1, j2, j3⟩)
  · rintro ((h1 | ⟨j, j1, j2, j3⟩) | h1)
    · exact .inl h1
    · exact .inr ⟨j, j1, set_mono hi j2, j3⟩
    · exact .inr ⟨i, hin, by rw [set_getD hi, if_pos rfl], h1⟩
theorem memS_unborn {H : AH} {listed : Array Bool} {n : Nat} (hi : listed.getD i true = false) : ¬ (memS H h listed n res g q).born (h.next + i) := by
  rintro (⟨h1, _⟩ | ⟨j, j1, j2, j3⟩)
  · omega
  · have : j = i := by omega
    subst this
    rw [hi] at j2; cases j2
theorem memS_none {H : AH} {listed : Array Bool} {n : Nat} (hG : Grown H h n B) (hi : i < listed.size) (hin : i < n) (hu : listed.getD i true = false) (hb : B[i]? = some none) : (memS H h (listed.setIfInBounds i true) n res g q).blk = (memS H h listed n res g q).blk := by
  funext r
  by_cases e : r = h.next + i
  · subst e
    rw [memS_yes ((memS_born hi hin).2 (.inr rfl)), memS_no (memS_unborn hu), hG.new i none hin hb]; rfl
  · by_cases hbr : (memS H h listed n res g q).born r
    · rw [memS_yes hbr, memS_yes ((memS_born hi hin).2 (.inl hbr))]
    · rw [memS_no hbr, memS_no fun h' => hbr (((memS_born hi hin).1 h').resolve_right e)]
theorem memS_some {H : AH} {listed : Array Bool} {n p m : Nat} {c : Cells} (hG : Grown H h n B) (hi : i < listed.size) (hin : i < n) (hu : listed.getD i true = false) (hb : B[i]? = some (some c)) :
    (memS H h listed n res g q).upd (h.next + i) (some (.cells c)) p m = memS H h (listed.setIfInBounds i true) n res (updf g (h.next + i) p) (updf q (h.next + i) m) := by
  have e1 : ((memS H h listed n res g q).upd (h.next + i) (some (.cells c)) p m).born = (memS H h (listed.setIfInBounds i true) n res (updf g (h.next + i) p) (updf q (h.next + i) m)).born := by
    funext r
    exact propext (memS_born (g := g) (q := q) hi hin).symm
  have e2 : ((memS H h listed n res g q).upd (h.next + i) (some (.cells c)) p m).blk = (memS H h (listed.setIfInBounds i true) n res (updf g (h.next + i) p) (updf q (h.next + i) m)).blk := by
    funext r
    by_cases e : r = h.next + i
    · subst e
      rw [memS_yes ((memS_born (g := updf g (h.next + i) p) (q := updf q (h.next + i) m) hi hin).2 (.inr rfl)), hG.new i _ hin hb, Mem.upd_blk_same]; rfl
    · rw [Mem.upd_blk_ne e]
      by_cases hbr : (memS H h listed n res g q).born r
      · rw [memS_yes hbr, memS_yes ((memS_born (g := updf g (h.next + i) p) (q := updf q (h.next + i) m) hi hin).2 (.inl hbr))]
      · rw [memS_no hbr, memS_no fun h' => hbr (((memS_born (g := updf g (h.next + i) p) (q := updf q (h.next + i) m) hi hin).1 h').resolve_right e)]
  have e3 : ((memS H h listed n res g q).upd (h.next + i) (some (.cells c)) p m).pos = (memS H h (listed.setIfInBounds i true) n res (updf g (h.next + i) p) (updf q (h.next + i) m)).pos := rfl
  have e4 : ((memS H h listed n res g q).upd (h.next + i) (some (.cells c)) p m).room = (memS H h (listed.setIfInBounds i true) n res (updf g (h.next + i) p) (updf q (h.next + i) m)).room := rfl
  have e5 : ((memS H h listed n res g q).upd (h.next + i) (some (.cells c)) p m).res = (memS H h (listed.setIfInBounds i true) n res (updf g (h.next + i) p) (updf q (h.next + i) m)).res := rfl
  generalize (memS H h listed n res g q).upd (h.next + i) (some (.cells c)) p m = A at *
  generalize memS H h (listed.setIfInBounds i true) n res (updf g (h.next + i) p) (updf q (h.next + i) m) = A' at *
  obtain ⟨a1, a2, a3, a4, a5⟩ := A
  obtain ⟨b1, b2, b3, b4, b5⟩ := A'
  simp only at e1 e2 e3 e4 e5
  subst e1 e2 e3 e4 e5
  rfl
theorem memS_all {H : AH} {listed : Array Bool} {n : Nat} (hG : Grown H h n B) (hall : ∀ i, i < n → listed.getD i true = true) (hold : ∀ r o, H.get r = some o → (∀ i, i < n → r ≠ h.next + i) → r < h.next ∧ r ∉ h.hid) : memS H h listed n res g q = H.mem res g q := by
  have e1 : (memS H h listed n res g q).born = (H.mem res g q).born := by
    funext r
    apply propext
    show (_ ∨ _) ↔ r < H.next ∧ r ∉ H.hid
    rw [hG.next, hG.hid]
    simp only [List.mem_filter, decide_eq_true_eq]
    constructor
    · rintro (⟨h1, h2⟩ | ⟨i, i1, _, i3⟩)
      · exact ⟨by omega, fun h' => h2 h'.1⟩
      · exact ⟨by omega, fun h' => by omega⟩
    · rintro ⟨h1, h2⟩
      rcases Nat.lt_or_ge r h.next with h3 | h3
      · exact .inl ⟨h3, fun h' => h2 ⟨h', h3⟩⟩
      · exact .inr ⟨r - h.next, by omega, hall _ (by omega), by omega⟩
  have e2 : (memS H h listed n res g q).blk = (H.mem res g q).blk := by
    funext r
    show _ = H.get r
    by_cases hb : (memS H h listed n res g q).born r
    · exact memS_yes hb
    · rw [memS_no hb]
      cases hr : H.get r with
      | none => rfl
      | some o =>
        exfalso
        refine hb (.inl (hold r o hr fun i i1 i2 => hb (.inr ⟨i, i1, hall i i1, i2⟩)))
  unfold memS AH.mem at *
  simp only [Mem.mk.injEq] at e1 e2 ⊢
  exact ⟨e1, e2, trivial, trivial, trivial⟩
theorem memS_start {H : AH} {n : Nat} (hG : Grown H h n B) (hn : n ≤ ops.size) (hold : ∀ r o, h.get r = some o → r < h.next ∧ r ∉ h.hid) : memS H h (Array.replicate ops.size false) n res g q = h.mem res g q := by
  have hf : ∀ i, i < n → (Array.replicate ops.size false).getD i true = false := fun i hi => by
    have : i < ops.size := by omega
    simp [this]
  have e1 : (memS H h (Array.replicate ops.size false) n res g q).born = (h.mem res g q).born := by
    funext r
    apply propext
    show (_ ∨ _) ↔ r < h.next ∧ r ∉ h.hid
    constructor
    · rintro (h1 | ⟨i, i1, i2, i3⟩)
      · exact h1
      · rw [hf i i1] at i2; cases i2
    · exact fun h1 => .inl h1
  have e2 : (memS H h (Array.replicate ops.size false) n res g q).blk = (h.mem res g q).blk := by
    funext r
    show _ = h.get r
    by_cases hb : (memS H h (Array.replicate ops.size false) n res g q).born r
    · rw [memS_yes hb]
      rw [e1] at hb
      have hb : r < h.next ∧ r ∉ h.hid := hb
      exact hG.old r fun i i1 => by omega
    · rw [memS_no hb]
      cases hr : h.get r with
      | none => rfl
      | some o => exact (hb (.inl (hold r o hr))).elim
  unfold memS AH.mem at *
  simp only [Mem.mk.injEq] at e1 e2 ⊢
  exact ⟨e1, e2, trivial, trivial, trivial⟩
theorem rep_true (n i : Nat) : (Array.replicate n true).getD i true = true := by
  by_cases h : i < n <;> simp [h]
theorem any_head {F : Fence} {nn n k : Nat} {Q : Exit → Act → World → Prop} {H : AH} {V0 : Mem} {w0 : World} (hF : FOk F) (hd : DrawOk ops n k) (hk : k = f.t.n) (hys : ys.length = n) (hG : Grown H h n B)
    (hold : ∀ r o, H.get r = some o → (∀ i, i < n → r ≠ h.next + i) → r < h.next ∧ r ∉ h.hid) (hh : ∀ i, i < n → HeadOk P ops h.next (f.puts ops ys) H ys B i)
    (htail : ∀ (g q : Nat → Nat) (a : Act) (w : World), To V0 w0 (H.mem res g q) w → FrDen (H.mem res g q) w (f.puts ops ys) a → ∀ (fuel : Nat) (listed : Array Bool), listed.size = ops.size → (∀ i, i < n → listed.getD i true = true) → (∀ i, n ≤ i → i < ops.size → listed.getD i true = false) → ops.size - n ≤ fuel → wpAnyIn F nn P .any ops Q fuel listed a w) :
    ∀ (fuel : Nat) (listed : Array Bool) (a : Act) (w : World) (g q : Nat → Nat) (fS : AF), Listed ops n listed → To V0 w0 (memS H h listed n res g q) w → FrDen (memS H h listed n res g q) w fS a → FrS ops f ys n listed fS →
      (List.range n).countP (fun i => !listed.getD i true) + (ops.size - n) ≤ fuel → wpAnyIn F nn P .any ops Q fuel listed a w := by
  have hF0 := puts_spec (f := f) (ys := ys) hd hk hys
  have hle := hd.le
  intro fuel
  induction fuel with
  | zero =>
    intro listed a w g q fS hl ht hf hs hc
    have hall : ∀ i, i < n → listed.getD i true = true := fun i hi => by
      have h0 : (List.range n).countP (fun i => !listed.getD i true) = 0 := by omega
      have := List.countP_eq_zero.1 h0 i (List.mem_range.2 hi)
      simpa using this
    rw [memS_all hG hall hold] at ht hf
    have hf := FrS.swap (by omega) hall hs (f2 := f.puts ops ys) ⟨hF0.len, hF0.marks, hF0.rnd, fun j hj => hF0.old j fun i i1 _ => hj i i1 (hall i i1), fun i d y i1 _ i3 i4 => hF0.got i d y i1 (rep_true _ _) i3 i4⟩ hf
    exact htail g q a w ht hf 0 listed hl.size hall hl.tail (by omega)
  | succ fuel ih =>
    intro listed a w g q fS hl ht hf hs hc
    by_cases hu : ∃ j, j < n ∧ listed.getD j true = false
    · refine ⟨fun e => absurd e (ready_some hd hl hu), fun i hi => ?_⟩
      have hin := ready_head hd hl hi hu
      obtain ⟨r1, r2, r3⟩ := (ready_iff hd hl.size).1 hi
      obtain ⟨o, y, b, ho, hy, hb, hstep⟩ := hh i hin
      have hil : i < listed.size := by rw [hl.size]; exact r2
      have hl' : Listed ops n (listed.setIfInBounds i true) := ⟨by simpa using hl.size, fun x j j1 j2 j3 => by
        rw [set_getD hil] at j1
        by_cases e : x = i
        · subst e; exact set_mono hil (r3 j j3)
        · rw [if_neg e] at j1; exact set_mono hil (hl.shut x j j1 j2 j3), fun x x1 x2 => by rw [set_getD hil, if_neg (by omega)]; exact hl.tail x x1 x2⟩
      have hc' : (List.range n).countP (fun i_1 => !(listed.setIfInBounds i true).getD i_1 true) + (ops.size - n) ≤ fuel := by
        have := count_set (n := n) (i := i) (fun j => !listed.getD j true) (fun j => !(listed.setIfInBounds i true).getD j true) hin (by simp [r1]) (by rw [set_getD hil, if_pos rfl]; rfl) (fun j hj => by rw [set_getD hil, if_neg hj])
        omega
      have hs' := hs.step (y := y) hd hk hl.size hin ho hy
      have slot : ∀ d ∈ o.looksAt ops, fS.t.get d = (f.puts ops ys).t.get d := fun d hdl => by
        by_cases hj : ∃ j : Nat, (ops[j]?).bind (fun x => x.dst) = some d
        · obtain ⟨j, hj⟩ := hj
          have he := hd.deps i o j d hin ho hj hdl
          have hjl := r3 j he
          obtain ⟨o', e1, e, e2, e3, e4⟩ := edgeB_iff.1 he
          have hji := hd.back i o' e e1 e2 e3
          have hjn : j < n := by omega
          have hyj : ys[j]? = some ys[j] := List.getElem?_eq_getElem (by omega)
          rw [hs.got j d _ hjn hjl hj hyj, hF0.got j d _ hjn (rep_true _ _) hj hyj]
        · rw [hs.old d fun j _ _ hj' => hj ⟨j, hj'⟩, hF0.old d fun j _ _ hj' => hj ⟨j, hj'⟩]
      have hops : ∀ x ∈ o.op.operands.toList, fS.ev x = (f.puts ops ys).ev x := fun x hx => by
        cases x with
        | tmp t => exact slot t (List.mem_append_left _ (List.mem_filterMap.2 ⟨.tmp t, hx, rfl⟩))
        | const v => rfl
        | global g => rfl
        | func F => rfl
      have hgd : guardA ops fS o = guardA ops (f.puts ops ys) o := by
        unfold guardA
        cases hg : o.guard with
        | none => rfl
        | some p =>
          obtain ⟨j, want⟩ := p
          simp only
          cases hdj : (ops[j]?).bind (·.dst) with
          | none => rfl
          | some d =>
            simp only
            rw [slot d (List.mem_append_right _ (by rw [hg]; simp [hdj]))]
      refine hstep F nn _ w fS a _ Q hF ht.rel memS_agr hf hops hgd (memS_unborn r1) ?_
      cases b with
      | none =>
        intro v w' t1 d1
        have t2 : To (memS H h listed n res g q) w' (memS H h (listed.setIfInBounds i true) n res g q) w' := Mem.given t1.rel (fun r hr => (memS_born hil hin).2 (.inl hr)) (memS_none hG hil hin r1 hb) rfl rfl rfl
        exact ih _ _ w' g q _ hl' (ht.trans (t1.trans t2)) (((hf.fwd t1.fwd).put d1).fwd t2.fwd) hs' hc'
      | some c =>
        intro v w' m t1 d1
        rw [memS_some hG hil hin r1 hb] at t1 d1
        exact ih _ _ w' _ _ _ hl' (ht.trans t1) ((hf.fwd t1.fwd).put d1) hs' hc'
    · have hall : ∀ i, i < n → listed.getD i true = true := fun i hi => by
        cases hx : listed.getD i true with
        | true => rfl
        | false => exact (hu ⟨i, hi, hx⟩).elim
      rw [memS_all hG hall hold] at ht hf
      have hf := FrS.swap (by omega) hall hs (f2 := f.puts ops ys) ⟨hF0.len, hF0.marks, hF0.rnd, fun j hj => hF0.old j fun i i1 _ => hj i i1 (hall i i1), fun i d y i1 _ i3 i4 => hF0.got i d y i1 (rep_true _ _) i3 i4⟩ hf
      exact htail g q a w ht hf (fuel + 1) listed hl.size hall hl.tail (by omega)
theorem find_append : ∀ (l l' : List (Nat × Blk)) (r : Nat), AH.find (l ++ l') r = match AH.find l r with | some o => some o | none => AH.find l' r
  | [], l', r => rfl
  | (e, z) :: l, l', r => by
    simp only [List.cons_append, AH.find]
    by_cases h : r = e
    · simp [h]
    · simp only [h, if_false]; exact find_append l l' r
theorem find_news (n0 : Nat) : ∀ (B : List (Option Cells)) (k r : Nat), AH.find (news n0 k B) r = if n0 + k ≤ r then (match B[r - n0 - k]? with | some (some c) => some (.cells c) | _ => none) else none
  | [], k, r => by simp [news, AH.find]
  | none :: B, k, r => by
    simp only [news]
    rw [find_news n0 B (k + 1) r]
    by_cases h1 : r = n0 + k
    · subst h1
      rw [if_neg (by omega), if_pos (Nat.le_refl _), (by omega : n0 + k - n0 - k = 0)]
      rfl
    · by_cases h2 : n0 + (k + 1) ≤ r
      · rw [if_pos h2, if_pos (by omega), (by omega : r - n0 - k = (r - n0 - (k + 1)) + 1), List.getElem?_cons_succ]
      · rw [if_neg h2, if_neg (by omega)]
  | some c :: B, k, r => by
    simp only [news, AH.find]
    by_cases h1 : r = n0 + k
    · subst h1
      rw [if_pos rfl, if_pos (Nat.le_refl _), (by omega : n0 + k - n0 - k = 0)]
      rfl
    · rw [if_neg h1, find_news n0 B (k + 1) r]
      by_cases h2 : n0 + (k + 1) ≤ r
      · rw [if_pos h2, if_pos (by omega), (by omega : r - n0 - k = (r - n0 - (k + 1)) + 1), List.getElem?_cons_succ]
      · rw [if_neg h2, if_neg (by omega)]
theorem adds_grown {n : Nat} (hB : B.length = n) (hlt : ∀ r o, h.get r = some o → r < h.next) : Grown (h.adds h.next B) h n B := by
  have key : ∀ r, (h.adds h.next B).get r = match h.get r with | some o => some o | none => if h.next ≤ r then (match B[r - h.next]? with | some (some c) => some (.cells c) | _ => none) else none := fun r => by
    show AH.find (h.blk ++ news h.next 0 B) r = _
    rw [find_append, find_news]
    rfl
  refine ⟨by simp [AH.adds, hB], rfl, fun r hr => ?_, fun i b hi hb => ?_⟩
  · rw [key]
    cases hg : h.get r with
    | some o => rfl
    | none =>
      simp only
      split
      · rename_i hle
        have : B[r - h.next]? = none := List.getElem?_eq_none (by
          rcases Nat.lt_or_ge (r - h.next) B.length with h1 | h1
          · exact absurd (by omega) (hr (r - h.next) (by omega))
          · exact h1)
        rw [this]
      · rfl
  · rw [key]
    cases hg : h.get (h.next + i) with
    | some o => have := hlt _ _ hg; omega
    | none =>
      simp only
      rw [if_pos (by omega), (by omega : h.next + i - h.next = i), hb]
      cases b <;> rfl
end
end Go.Proofs.YtaoglkkdhdfioaaGreatDoor
namespace Go.Proofs.YtaoglkkdhdfioaaGreatDoor
open Go
section
variable {P : Program} {h h' : AH} {V : Mem} {res : Nat → Nat → Prop} {g q : Nat → Nat} {w : World} {f f' : AF} {a : Act}
/-- a loop's record turned -/
theorem loop_put {r : Nat} {L L' : ALoop} {fn : FuncId} {T : Array Value} (hV : Rel (h.mem res g q) w) (hr : h.get r = some (.loop L)) (e1 : L'.tmps = L.tmps) (e2 : L'.params = L.params) (e3 : L'.assign = L.assign) (e4 : L'.body = L.body) (e5 : L'.mark = L.mark)
    (hT : w.heap[g r]? = some (.loop { state := L.st, pending := L.pending, fn, tmps := T, params := L.params, assign := L.assign, body := L.body, defers := g L.mark })) :
    To (h.mem res g q) w ((h.put r (.loop L')).mem res g q) (w.putObj (g r) (.loop { state := L'.st, pending := L'.pending, fn, tmps := T, params := L.params, assign := L.assign, body := L.body, defers := g L.mark })) := by
  have hr' : (h.mem res g q).blk r = some (.loop L) := hr
  have hlt : g r < w.heap.size := heap_lt hT
  obtain ⟨k0, fn', T', k1, k2, k3⟩ := hV.loop r L hr'
  have k1 : w.heap[g r]? = _ := k1
  rw [hT] at k1
  injection k1 with k1
  injection k1 with k1
  injection k1 with _ _ _ kT
  subst kT
  rw [← put_same r _ (hV.live r _ hr').1]
  generalize hw : w.putObj (g r) (.loop { state := L'.st, pending := L'.pending, fn, tmps := T, params := L.params, assign := L.assign, body := L.body, defers := g L.mark }) = w'
  have hsame : w'.heap[g r]? = some (.loop { state := L'.st, pending := L'.pending, fn, tmps := T, params := L.params, assign := L.assign, body := L.body, defers := g L.mark }) := by rw [← hw]; exact World.putObj_heap_same hlt
  have hoth : ∀ b, b ≠ g r → w'.heap[b]? = w.heap[b]? := fun b hb => by rw [← hw]; exact World.putObj_heap_other hb
  have hs : w'.heap.size = w.heap.size := by rw [← hw]; exact World.putObj_size
  have hf : Fwd (h.mem res g q) w ((h.mem res g q).upd r (some (.loop L')) (g r) (q r)) w' := by
    refine ⟨fun b i x h1 h2 => ?_, fun s hs => .inl hs, fun s c hb hc => ?_, fun s l hb hl => ?_, fun s hm => ?_⟩
    · have hne : b ≠ g r := by
        rintro rfl
        simp [World.cell?, hT] at h2
      refine ⟨⟨by rw [hs]; exact h1.1, h1.2.1, fun s c e1 e2 => ?_⟩, by rw [cell_of_heap (hoth b hne)]; exact h2⟩
      by_cases e : s = r
      · subst e; simp at e1
      · rw [Mem.upd_blk_ne e] at e1
        rw [Mem.upd_pos_ne e] at e2
        exact h1.2.2 s c e1 e2
    · by_cases e : s = r
      · subst e; simp at hc
      · rw [Mem.upd_blk_ne e] at hc
        exact ⟨c, hc, Nat.le_refl _, fun _ => ⟨Mem.upd_pos_ne e, Mem.upd_room_ne e, rfl, rfl⟩⟩
    · by_cases e : s = r
      · subst e; exact ⟨L, hr', by simp; rfl⟩
      · rw [Mem.upd_blk_ne e] at hl
        exact ⟨l, hl, Mem.upd_pos_ne e⟩
    · have e : s ≠ r := by
        rintro rfl
        rw [hr'] at hm; cases hm
      exact ⟨(Mem.upd_blk_ne e).trans hm, Mem.upd_pos_ne e⟩
  refine ⟨rel_upd hV hf (.inl ⟨rfl, _, hr'⟩) (by omega) (by omega) (fun s o hs' ho => hoth _ fun e => hs' (hV.apart s r o _ ho hr' e)) (fun o ho e => by rw [hr'] at ho; rw [e] at ho; cases ho) (fun c hc => by cases hc) (fun l hl => ?_) (fun hm => by cases hm), hf, ⟨by rw [← hw]; rfl, by rw [← hw]; rfl, by rw [← hw]; rfl, by omega, fun b hb hn => hoth b fun e => hn r _ hr' e.symm⟩, fun s o hs => ?_⟩
  · injection hl with hl
    subst hl
    refine ⟨fun e => ?_, by rw [e5]; exact k0, fn, T, by rw [e2, e3, e4, e5]; exact hsame, by rw [e1]; exact k2, fun i b j2 => by obtain ⟨x, j1, j3⟩ := k3 i b (by rw [← e1]; exact j2); exact ⟨x, j1, j3.fwd hf⟩⟩
    rw [e5] at e
    rw [e, hr'] at k0
    cases k0
  · by_cases e : s = r
    · subst e; exact .inr ⟨s, _, hr', by simp; rfl⟩
    · rw [Mem.upd_blk_ne e] at hs
      exact .inr ⟨s, o, hs, by rw [Mem.upd_pos_ne e]⟩
theorem given_den (hg : Glob V w) : ∀ {ps : List Tmp} {us : List Value} {T : Array Value} {t : Slots} {args : List AV}, us.length = args.length → DenL V w us.toArray args → DenS V w T t → DenS V w ((ps.zip us).foldl (fun (T : Array Value) (p : Tmp × Value) => T.setIfInBounds p.1 p.2) T) (givenA t ps args)
  | [], us, T, t, args, _, _, hd => hd
  | p :: ps, [], T, t, [], _, _, hd => hd
  | p :: ps, [], T, t, b :: args, hl, _, _ => by simp at hl
  | p :: ps, u :: us, T, t, [], hl, _, _ => by simp at hl
  | p :: ps, u :: us, T, t, b :: args, hl, ha, hd => by
    have h0 : Den V w u b := ha.2 0 u b rfl rfl
    have hrest : DenL V w us.toArray args := ⟨by simpa using hl, fun i x c k1 k2 => ha.2 (i + 1) x c (by simpa using k1) (by simpa using k2)⟩
    have hset : DenS V w (T.setIfInBounds p u) (t.set p b) := by
      have := (FrDen.put (f := ⟨t, [], none⟩) (a := ⟨T, []⟩) (d := some p) ⟨hd, rfl, fun m hm => (by cases hm), List.nodup_nil, hg⟩ h0).tmps
      exact this
    exact given_den hg (ps := ps) (by simpa using hl) hrest hset
theorem sound_yld {r : Nat} {args : List AV} {h1 h3 : AH} {L L3 : ALoop} {f1 f2 : AF} {e : Ex} {b : Bool} {st : LoopState} {pe : Option Code} (hl : h.get r = some (.loop L)) (hs : L.st = .ready) (ha : args.length = L.params.size)
    (k1 : SoundC P L.assign ⟨givenA L.tmps L.params.toList args, [], some r⟩ h .normal f1 h1) (hl1 : h1.get r = some (.loop L)) (k2 : SoundC P L.body f1 (h1.put r (.loop { L with st := .busy })) e f2 h3) (hl3 : h3.get r = some (.loop L3))
    (he : leftA e = some (b, st, pe)) : Sound P (.yld r args h) (.call (.ret (.raw (.bool b))) (h3.put r (.loop { L3 with st := st, pending := pe }))) := by
  refine ⟨⟨L, hl⟩, fun F n res g q us w hF hV hu => ?_⟩
  have hlV : (h.mem res g q).blk r = some (.loop L) := hl
  obtain ⟨m0, fn, T, m1, m2, m3⟩ := hV.loop r L hlV
  have hy := run_yield (P := P) (args := us) m1 (by rw [hu.1, ha])
  have hy : (Instr.yield (g r) us).run P w = _ := hy
  unfold CallOk
  rw [hy]
  refine roundIn_of_wpIn (hF.fn _) ?_
  have hfr : FrDen (h.mem res g q) w ⟨givenA L.tmps L.params.toList args, [], some r⟩ { tmps := (L.params.zip us).foldl (fun tmps (t, a) => tmps.setIfInBounds t a) T, defers := [] } := by
    refine ⟨?_, rfl, fun m hm => (by cases hm), List.nodup_nil, hV.glob⟩
    have := given_den hV.glob (ps := L.params.toList) (us := us.toList) (by rw [← hu.1]; simp) (by simpa using hu) ⟨m2, m3⟩
    have e : (L.params.zip us).foldl (fun (tmps : Array Value) (p : Tmp × Value) => tmps.setIfInBounds p.1 p.2) T = (L.params.toList.zip us.toList).foldl (fun (tmps : Array Value) (p : Tmp × Value) => tmps.setIfInBounds p.1 p.2) T := by
      rw [← Array.foldl_toList, Array.toList_zip]
    show DenS _ _ ((L.params.zip us).foldl (fun (tmps : Array Value) (p : Tmp × Value) => tmps.setIfInBounds p.1 p.2) T) _
    rw [e]; exact this
  have hFr : FOk (F.inRound (g r)) := ⟨hF.fn, hF.depth, hF.alive⟩
  have hR : ROk (F.inRound (g r)) (h.mem res g q) ⟨givenA L.tmps L.params.toList args, [], some r⟩ := ⟨rfl, fun s hs' => by injection hs' with hs'; subst hs'; exact (hV.live _ _ hlV).1, fun s l hs' _ => by injection hs' with hs'; subst hs'; rfl⟩
  refine wpIn_mono (k1.2 (F.inRound (g r)) (n - 1) res g q _ w hFr hR hV hfr) fun e1 a1 w1 hp => ?_
  obtain ⟨g1, q1, t1, d1, f1d⟩ := hp
  obtain rfl := eden_normal d1
  have hl1V : (h1.mem res g1 q1).blk r = some (.loop L) := hl1
  obtain ⟨_, _, hpos⟩ := t1.fwd.loop r L (hV.live _ _ hlV).1 hl1V
  have hpos : g1 r = g r := hpos
  obtain ⟨n0, fn1, T1, n1, n2, n3⟩ := t1.rel.loop r L hl1V
  have n1' : w1.heap[g1 r]? = _ := n1
  have hbeg := run_beginRound (P := P) n1' hs
  have tp := loop_put (L' := { L with st := .busy }) t1.rel hl1 rfl rfl rfl rfl rfl n1'
  show ∃ w₂, (Instr.beginRound (g r)).run P w1 = .ok () w₂ ∧ L.body.wpIn (F.inRound (g r)) (n - 1) P (roundPost P (g r) fun e w1 => Post (h.mem res g q) w (h3.put r (.loop { L3 with st := st, pending := pe })) res (fun V' w' => RDen V' w' e (.ret (.raw (.bool b)))) w1) a1 w₂
  rw [← hpos]
  refine ⟨_, hbeg, ?_⟩
  rw [← hpos] at hR hFr
  refine wpIn_mono (k2.2 (F.inRound (g1 r)) (n - 1) res g1 q1 _ _ hFr ((hR.fwd t1.fwd k1.1).fwd tp.fwd rfl) tp.rel (f1d.fwd tp.fwd)) fun e2 a2 w3 hp2 => ?_
  obtain ⟨g3, q3, t3, d3, f3d⟩ := hp2
  have hl3V : (h3.mem res g3 q3).blk r = some (.loop L3) := hl3
  obtain ⟨_, _, hpos3⟩ := t3.fwd.loop r L3 (tp.fwd.born r (t1.fwd.born r (hV.live _ _ hlV).1)) hl3V
  have hpos3 : g3 r = g1 r := hpos3
  obtain ⟨p0, fn3, T3, p1, p2, p3⟩ := t3.rel.loop r L3 hl3V
  have p1' : w3.heap[g3 r]? = _ := p1
  have tot := t1.trans (tp.trans t3)
  cases e <;> simp only [leftA, Option.some.injEq, Prod.mk.injEq, reduceCtorEq] at he
  · obtain ⟨rfl, rfl, rfl⟩ := he
    obtain rfl := eden_normal d3
    have hend := run_endRound (P := P) none p1'
    have tq := loop_put (L' := { L3 with st := .ready, pending := none }) t3.rel hl3 rfl rfl rfl rfl rfl p1'
    rw [hpos3] at hend
    exact ⟨_, _, hend, g3, q3, tot.trans (by rw [hpos3] at tq; exact tq), .raw _⟩
  · obtain ⟨rfl, rfl, rfl⟩ := he
    cases e2 <;> try exact d3.elim
    have d3 : _ = _ := d3
    subst d3
    rename_i id
    have hend := run_endRound (P := P) (some (.exit id)) p1'
    have tq := loop_put (L' := { L3 with st := .done, pending := some (.exit id) }) t3.rel hl3 rfl rfl rfl rfl rfl p1'
    rw [hpos3] at hend
    exact ⟨_, _, hend, g3, q3, tot.trans (by rw [hpos3] at tq; exact tq), .raw _⟩
  · obtain ⟨rfl, rfl, rfl⟩ := he
    cases e2 <;> try exact d3.elim
    have hend := run_endRound (P := P) (some .ret) p1'
    have tq := loop_put (L' := { L3 with st := .done, pending := some .ret }) t3.rel hl3 rfl rfl rfl rfl rfl p1'
    rw [hpos3] at hend
    exact ⟨_, _, hend, g3, q3, tot.trans (by rw [hpos3] at tq; exact tq), .raw _⟩
theorem sound_yield {ops : Array Oper} {i r : Nat} {l : List Nat} {o : Oper} {out : Out} {c : Call} {x : Operand} {args : List AV} {y : AV} (ho : ops[i]? = some o) (hg : guardA ops f o = some true) (hc : o.op = .call c) (hx : c.callee = .value x)
    (hfx : f.ev x = some (.yld r)) (ha : f.evs c.args.toList = some args) (ih1 : Sound P (.yld r args h) (.call (.ret y) h')) (ih : Sound P (.ops ops l (f.put o.dst y) h') out) : Sound P (.ops ops (i :: l) f h) out := by
  cases out with
  | call r h' => exact ih
  | code e f' h'' =>
    refine ⟨ih.1.trans (put_rnd ..), fun F n res g q a w hF hR hV hf => ?_⟩
    obtain ⟨⟨L, hL⟩, hs⟩ := ih1
    have hd := hf.ev hfx
    have hev : a.eval x = .func (.yield (g r)) #[] #[] := by
      generalize a.eval x = u at hd
      cases hd with
      | yld hv hb hh => exact hh L hL
    have k5 := hf.evs ha
    have e1 : (c.args.toList.map a.eval).toArray = c.args.map a.eval := by apply Array.ext'; simp
    rw [e1] at k5
    simp only [wpOpsIn, ho, guard_ok hf hg, if_true]
    refine ⟨about_ok hF o, ?_⟩
    rw [Oper.semAt_eq _ _ _ (call_nodefer hc), exec_call hc hx hev]
    have : invoke (.fn (.yield (g r)) #[]) (#[] ++ c.args.map a.eval) = Instr.yield (g r) (c.args.map a.eval) := by simp [invoke]
    rw [this]
    refine upon_call hF (hs F n res g q _ w hF hV k5) (fun v w' hr => ?_) (fun ch w' hr => ?_) fun w' hr => ?_
    · obtain ⟨g', q', h3, h4⟩ := hr
      exact ops_mono (fun e1 a1 w1 k => codePost.up h3 k) (ih.2 F n res _ _ _ w' hF (hR.fwd h3.fwd (put_rnd ..)) h3.rel ((hf.fwd h3.fwd).put h4))
    · obtain ⟨g', q', h3, h4⟩ := hr
      exact h4.elim
    · obtain ⟨g', q', h3, h4⟩ := hr
      exact h4.elim
/-! ### The statement itself -/
theorem to_obj {w' : World} {r : Nat} {o : Blk} {ob : Obj} (hV : Rel V w) (hr : ¬ V.born r) (hw : w' = w.alloc ob) (hc : ∀ c, o ≠ .cells c)
    (hl : ∀ l, o = .loop l → l.mark ≠ r ∧ V.blk l.mark = some .mark ∧ ∃ (fn : FuncId) (T : Array Value), ob = .loop { state := l.st, pending := l.pending, fn, tmps := T, params := l.params, assign := l.assign, body := l.body, defers := V.pos l.mark } ∧ DenS V w T l.tmps)
    (hm : o = .mark → ob = .deferred (some [])) : To V w (V.upd r (some o) w.heap.size 0) w' := by
  subst hw
  have hk : ∀ b, b < w.heap.size → (w.alloc ob).heap[b]? = w.heap[b]? := fun b hb => push_old hb
  have hs : (w.alloc ob).heap.size = w.heap.size + 1 := by simp
  have hnew : (w.alloc ob).heap[w.heap.size]? = some ob := push_new
  have hf : Fwd V w (V.upd r (some o) w.heap.size 0) (w.alloc ob) := fwd_new hV hr (by omega) hk (Nat.le_refl _)
  refine ⟨rel_upd hV hf (.inr (Nat.le_refl _)) (by omega) (by omega) (fun s q _ hq => hk _ (hV.live s q hq).2) (fun q hq => absurd (hV.live r q hq).1 hr) (fun c e => absurd e (hc c)) (fun l e => ?_) (fun e => by rw [hnew, hm e]), hf, ⟨rfl, rfl, rfl, by omega, fun b hb _ => hk b hb⟩, fun s p hs => ?_⟩
  · obtain ⟨h1, h2, fn, T, h3, h4⟩ := hl l e
    exact ⟨h1, h2, fn, T, by rw [hnew, h3], (h4.fwd hf).1, (h4.fwd hf).2⟩
  · by_cases e : s = r
    · subst e; exact .inl (by simp)
    · rw [Mem.upd_blk_ne e] at hs
      exact .inr ⟨s, p, hs, by rw [Mem.upd_pos_ne e]⟩
theorem range_call {G : Nat} {fn : Func} {c : Code} {gx : Operand} {first cap : List AV} {l : Nat} {v1 c1 : Array Value} (hf : P.funcs[G]? = some fn) (hb : fn.body = some c) (hn : (fn.name == "runtime.NumGoroutine") = false) (hev : a.eval gx = .func (.func G) v1 c1) :
    (resolve a.eval (rangeCall gx l) 0).run P w = .ok { target := .fn (.func G) c1, args := v1 ++ #[.func (.yield l) #[] #[]] } w ∧ (invoke (.fn (.func G) c1) (v1 ++ #[.func (.yield l) #[] #[]])).run P w = .ok (.enter G ((v1 ++ #[.func (.yield l) #[] #[]]) ++ c1)) w := by
  refine ⟨?_, enters_of hf hn hb _ w⟩
  have e : (#[Operand.const (.func (.yield l) #[] #[])]).map a.eval = #[.func (.yield l) #[] #[]] := by simp [Act.eval]
  simp only [resolve, hev, Deferred.ofValue, e]
  rfl
theorem callOk_calls {F : Fence} {n G : Nat} {fn : Func} {c : Code} {us cs : Array Value} {R : Ending → World → Prop} (hf : P.funcs[G]? = some fn) (hb : fn.body = some c) (hn : (fn.name == "runtime.NumGoroutine") = false) (hc : CallOk F n P (invoke (.fn (.func G) cs) us) w R) : CallsIn F (n - 1) P G (us ++ cs) w R := by
  have he : (invoke (.fn (.func G) cs) us).run P w = .ok (.enter G (us ++ cs)) w := enters_of hf hn hb (us ++ cs) w
  unfold CallOk at hc
  rw [he] at hc
  exact hc
/-- behind the call -/
theorem range_end {F : Fence} {n r : Nat} {h2 : AH} {L : ALoop} {Q : Exit → Act → World → Prop} {a' : Act} {f' : AF} {g2 q2 : Nat → Nat} {w2 : World} (hV0 : Rel V w) (ht : To V w (h2.mem res g2 q2) w2) (hr : ¬ V.born r) (hl : h2.get r = some (.loop L)) (hs : L.st ≠ .busy) (hfd : FrDen (h2.mem res g2 q2) w2 f' a')
    (hq : ∀ w3, To V w ((h2.drop1 r).mem res g2 q2) w3 → FrDen ((h2.drop1 r).mem res g2 q2) w3 f' a' → match L.pending with | none => Q .normal a' w3 | some j => j.wpIn F n P Q a' w3) :
    ∃ jump w4, (Instr.endLoop (g2 r)).run P w2 = .ok jump w4 ∧ (match jump with | none => Q .normal a' w4 | some c => c.wpIn F n P Q a' w4) := by
  obtain ⟨m0, fn, T, m1, m2, m3⟩ := ht.rel.loop r L hl
  have m1' : w2.heap[g2 r]? = _ := m1
  have hne : ∀ s l, h2.get s = some (.loop l) → l.mark ≠ r := fun s l hs' e => by
    have := (ht.rel.loop s l hs').1
    have : h2.get l.mark = some .mark := this
    rw [e, hl] at this
    cases this
  obtain ⟨t1, d1⟩ := drop1_any (ob := .loop { state := .exhausted, pending := L.pending, fn, tmps := T, params := L.params, assign := L.assign, body := L.body, defers := g2 L.mark }) hV0 ht hl (fun i => by simp [World.cell?, m1']) hr hne
  refine ⟨_, _, run_endLoop m1' hs, ?_⟩
  refine hq _ t1 ⟨⟨hfd.tmps.1, fun i b k2 => by obtain ⟨x, k1, k3⟩ := hfd.tmps.2 i b k2; exact ⟨x, k1, d1 x b k3⟩⟩, hfd.defers, fun m hm => ?_, hfd.nodup, t1.rel.glob⟩
  have hmm : h2.get m = some .mark := hfd.marks m hm
  have hget : (h2.drop1 r).get m = if m = r then none else h2.get m := AH.find_without _ _ _
  show (h2.drop1 r).get m = _
  rw [hget, if_neg]
  · exact hmm
  · rintro rfl
    rw [hl] at hmm; cases hmm
theorem sound_rangeO {G : Nat} {fn : Func} {c assign body : Code} {gx : Operand} {ps : Array Tmp} {h2 h3 : AH} {first cap : List AV} {y : AV} {L : ALoop} {e : Ex} (hg : f.ev gx = some (.clo (.func G) first cap)) (hf : P.funcs[G]? = some fn) (hb : fn.body = some c) (hn : (fn.name == "runtime.NumGoroutine") = false) (hr : f.rnd = none)
    (hk : Sound P (.call (.func G) (first ++ [.yld (h.next + 1)]) cap ((h.new .mark).new (.loop ⟨.ready, none, f.t, ps, assign, body, h.next⟩))) (.call (.ret y) h2)) (hl : h2.get (h.next + 1) = some (.loop L)) (hs : L.st ≠ .busy)
    (hj : f'.rnd = f.rnd ∧ match L.pending with | none => e = .normal ∧ f' = { f with marks := h.next :: f.marks } ∧ h3 = h2.drop1 (h.next + 1) | some j => SoundC P j { f with marks := h.next :: f.marks } (h2.drop1 (h.next + 1)) e f' h3) :
    SoundC P (.rangeFunc gx ps assign body) f h e f' h3 := by
  refine ⟨hj.1, fun F n res g q a w hF hR hV hfd => wpIn_rangeFunc fun fnid hfn => ?_⟩
  have hro : F.round = none := by
    have := hR.same
    rw [hr] at this
    cases hx : F.round with
    | none => rfl
    | some l => rw [hx] at this; cases this
  have hd := hfd.ev hg
  obtain ⟨v1, c1, hev, d1, d2⟩ : ∃ v1 c1, a.eval gx = .func (.func G) v1 c1 ∧ DenL (h.mem res g q) w v1 first ∧ DenL (h.mem res g q) w c1 cap := by
    generalize a.eval gx = u at hd
    cases hd with
    | clo k1 k2 k3 k4 => exact ⟨_, _, rfl, ⟨k1, k3⟩, ⟨k2, k4⟩⟩
  -- the two blocks
  have t1 := to_obj (o := .mark) (ob := .deferred (some [])) hV (not_born (h := h) (res := res) (g := g) (q := q)) rfl (fun c e => by cases e) (fun l e => by cases e) (fun _ => rfl)
  rw [← AH.mem_new] at t1
  have hm1 : ((h.new .mark).mem res (updf g h.next w.heap.size) (updf q h.next 0)).blk h.next = some .mark := by simp [AH.mem, AH.new, AH.get, AH.find]
  have t2 := to_obj (r := (h.new .mark).next) (o := .loop ⟨.ready, none, f.t, ps, assign, body, h.next⟩) (ob := .loop { state := .ready, pending := none, fn := fnid, tmps := a.tmps, params := ps, assign, body, defers := w.heap.size }) t1.rel (not_born (h := h.new .mark)) rfl (fun c e => by cases e)
    (fun l e => by
      injection e with e
      subst e
      exact ⟨by simp [AH.new], hm1, fnid, a.tmps, by simp [AH.mem, updf], hfd.tmps.fwd t1.fwd⟩) (fun e => by cases e)
  rw [← AH.mem_new] at t2
  have t12 := t1.trans t2
  have esz : (w.alloc (.deferred (some []))).heap.size = w.heap.size + 1 := by simp
  obtain ⟨r1, r2⟩ := range_call (P := P) (a := a) (gx := gx) (first := first) (cap := cap) (l := w.heap.size + 1) (w := (w.alloc (.deferred (some []))).alloc (.loop { state := .ready, pending := none, fn := fnid, tmps := a.tmps, params := ps, assign, body, defers := w.heap.size })) hf hb hn hev
  refine ⟨w.heap.size + 1, [{ target := .collected w.heap.size, args := #[] }], _, _, _, G, _, _, by rw [hro]; exact run_enterLoop_outer _ _ _ _ _, r1, fun f' _ => hF.fn f', r2, fun e => (by rw [hF.depth] at e; cases e), ?_⟩
  have hyd : Den (((h.new .mark).new (.loop ⟨.ready, none, f.t, ps, assign, body, h.next⟩)).mem res (updf (updf g h.next w.heap.size) (h.new .mark).next (w.alloc (.deferred (some []))).heap.size) (updf (updf q h.next 0) (h.new .mark).next 0)) ((w.alloc (.deferred (some []))).alloc (.loop { state := .ready, pending := none, fn := fnid, tmps := a.tmps, params := ps, assign, body, defers := w.heap.size })) (.func (.yield (w.heap.size + 1)) #[] #[]) (.yld (h.next + 1)) :=
    .yld rfl (by simp [AH.mem, AH.new]) fun l hl => by simp [AH.mem, updf, AH.new]
  have hargs : DenL (((h.new .mark).new (.loop ⟨.ready, none, f.t, ps, assign, body, h.next⟩)).mem res (updf (updf g h.next w.heap.size) (h.new .mark).next (w.alloc (.deferred (some []))).heap.size) (updf (updf q h.next 0) (h.new .mark).next 0)) ((w.alloc (.deferred (some []))).alloc (.loop { state := .ready, pending := none, fn := fnid, tmps := a.tmps, params := ps, assign, body, defers := w.heap.size })) (v1 ++ #[.func (.yield (w.heap.size + 1)) #[] #[]]) (first ++ [.yld (h.next + 1)]) :=
    app_den (d1.fwd t12.fwd) ⟨rfl, fun i x b e1 e2 => by
      cases i with
      | zero => simp at e1 e2; subst e1 e2; exact hyd
      | succ i => simp at e2⟩
  have hcall := callOk_calls hf hb hn (hk F n res _ _ _ _ _ hF t12.rel hargs (d2.fwd t12.fwd))
  refine hcall.mono fun e1 w2 hp => ?_
  obtain ⟨g2, q2, t3, hrd⟩ := hp
  cases e1 <;> try exact hrd.elim
  have hpos : g2 (h.next + 1) = w.heap.size + 1 := by
    obtain ⟨_, _, hp⟩ := t3.fwd.loop (h.next + 1) L (by simp [AH.mem, AH.new]) hl
    have hp : g2 (h.next + 1) = _ := hp
    rw [hp]
    simp [AH.mem, updf, AH.new]
  have t123 := t12.trans t3
  have hmark2 := (t2.trans t3).fwd.mark h.next hm1
  have hposm : g2 h.next = w.heap.size := by
    have := hmark2.2
    have this : g2 h.next = _ := this
    rw [this]; simp [AH.mem, updf]
  have hfd2 : FrDen (h2.mem res g2 q2) w2 { f with marks := h.next :: f.marks } { a with defers := { target := .collected w.heap.size, args := #[] } :: a.defers } := by
    have hx := hfd.fwd t123.fwd
    refine ⟨hx.tmps, ?_, fun m hm => ?_, List.nodup_cons.2 ⟨fun hm => ?_, hfd.nodup⟩, hx.glob⟩
    · rw [List.map_cons, ← hx.defers]
      show ({ target := .collected w.heap.size, args := #[] } : Deferred) :: _ = { target := .collected (g2 h.next), args := #[] } :: _
      rw [hposm]
    · rcases List.mem_cons.1 hm with rfl | hm
      · exact hmark2.1
      · exact hx.marks m hm
    · have := (hV.live _ _ (hfd.marks _ hm)).1
      exact not_born this
  show ∃ jump w4, (Instr.endLoop (w.heap.size + 1)).run P w2 = .ok jump w4 ∧ _
  rw [← hpos]
  refine range_end (F := F) (n := n) hV t123 (fun hb => by have h1 : h.next + 1 < h.next := hb.1; omega) hl hs hfd2 fun w3 t4 f4 => ?_
  cases hpd : L.pending with
  | none =>
    rw [hpd] at hj
    obtain ⟨_, rfl, rfl, rfl⟩ := hj
    exact ⟨g2, q2, t4, trivial, f4⟩
  | some j =>
    rw [hpd] at hj
    exact wpIn_mono (hj.2.2 F n res g2 q2 _ w3 hF ⟨hR.same, fun r e => (by rw [hr] at e; cases e), fun r l e => (by rw [hr] at e; cases e)⟩ t4.rel f4) fun e1 a1 w1 k => codePost.up t4 k
theorem sound_rangeI {G r0 : Nat} {fn : Func} {c assign body : Code} {gx : Operand} {ps : Array Tmp} {h2 h3 : AH} {first cap : List AV} {y : AV} {L L0 : ALoop} {e : Ex} (hg : f.ev gx = some (.clo (.func G) first cap)) (hf : P.funcs[G]? = some fn) (hb : fn.body = some c) (hn : (fn.name == "runtime.NumGoroutine") = false) (hr : f.rnd = some r0)
    (h0 : h.get r0 = some (.loop L0)) (hk : Sound P (.call (.func G) (first ++ [.yld h.next]) cap (h.new (.loop ⟨.ready, none, f.t, ps, assign, body, L0.mark⟩))) (.call (.ret y) h2)) (hl : h2.get h.next = some (.loop L)) (hs : L.st ≠ .busy)
    (hj : f'.rnd = f.rnd ∧ match L.pending with | none => e = .normal ∧ f' = f ∧ h3 = h2.drop1 h.next | some j => SoundC P j f (h2.drop1 h.next) e f' h3) :
    SoundC P (.rangeFunc gx ps assign body) f h e f' h3 := by
  refine ⟨hj.1, fun F n res g q a w hF hR hV hfd => wpIn_rangeFunc fun fnid hfn => ?_⟩
  have h0V : (h.mem res g q).blk r0 = some (.loop L0) := h0
  have hro : F.round = some (g r0) := hR.pos r0 L0 hr h0V
  obtain ⟨m0, fn0, T0, m1, m2, m3⟩ := hV.loop r0 L0 h0V
  have m1' : w.heap[g r0]? = _ := m1
  have hd := hfd.ev hg
  obtain ⟨v1, c1, hev, d1, d2⟩ : ∃ v1 c1, a.eval gx = .func (.func G) v1 c1 ∧ DenL (h.mem res g q) w v1 first ∧ DenL (h.mem res g q) w c1 cap := by
    generalize a.eval gx = u at hd
    cases hd with
    | clo k1 k2 k3 k4 => exact ⟨_, _, rfl, ⟨k1, k3⟩, ⟨k2, k4⟩⟩
  have t2 := to_obj (r := h.next) (o := .loop ⟨.ready, none, f.t, ps, assign, body, L0.mark⟩) (ob := .loop { state := .ready, pending := none, fn := fnid, tmps := a.tmps, params := ps, assign, body, defers := g L0.mark }) hV (not_born (h := h)) rfl (fun c e => by cases e)
    (fun l e => by
      injection e with e
      subst e
      exact ⟨fun e => not_born (h := h) (res := res) (g := g) (q := q) (e ▸ (hV.live _ _ m0).1), m0, fnid, a.tmps, rfl, hfd.tmps⟩) (fun e => by cases e)
  rw [← AH.mem_new] at t2
  obtain ⟨r1, r2⟩ := range_call (P := P) (a := a) (gx := gx) (first := first) (cap := cap) (l := w.heap.size) (w := w.alloc (.loop { state := .ready, pending := none, fn := fnid, tmps := a.tmps, params := ps, assign, body, defers := g L0.mark })) hf hb hn hev
  refine ⟨w.heap.size, [], _, _, _, G, _, _, by rw [hro]; exact run_enterLoop_inner m1' _ _ _ _ _, r1, fun f' _ => hF.fn f', r2, fun e => (by rw [hF.depth] at e; cases e), ?_⟩
  have hargs : DenL ((h.new (.loop ⟨.ready, none, f.t, ps, assign, body, L0.mark⟩)).mem res (updf g h.next w.heap.size) (updf q h.next 0)) (w.alloc (.loop { state := .ready, pending := none, fn := fnid, tmps := a.tmps, params := ps, assign, body, defers := g L0.mark })) (v1 ++ #[.func (.yield w.heap.size) #[] #[]]) (first ++ [.yld h.next]) :=
    app_den (d1.fwd t2.fwd) ⟨rfl, fun i x b e1 e2 => by
      cases i with
      | zero => simp at e1 e2; subst e1 e2; exact .yld rfl (by simp [AH.mem, AH.new]) fun l hl => by simp [AH.mem, updf]
      | succ i => simp at e2⟩
  have hcall := callOk_calls hf hb hn (hk F n res _ _ _ _ _ hF t2.rel hargs (d2.fwd t2.fwd))
  refine hcall.mono fun e1 w2 hp => ?_
  obtain ⟨g2, q2, t3, hrd⟩ := hp
  cases e1 <;> try exact hrd.elim
  have hpos : g2 h.next = w.heap.size := by
    obtain ⟨_, _, hp⟩ := t3.fwd.loop h.next L (by simp [AH.mem, AH.new]) hl
    have hp : g2 h.next = _ := hp
    rw [hp]
    simp [AH.mem, updf]
  have t123 := t2.trans t3
  show ∃ jump w4, (Instr.endLoop w.heap.size).run P w2 = .ok jump w4 ∧ _
  rw [← hpos]
  refine range_end (F := F) (n := n) hV t123 not_born hl hs (hfd.fwd t123.fwd) fun w3 t4 f4 => ?_
  cases hpd : L.pending with
  | none =>
    rw [hpd] at hj
    obtain ⟨_, rfl, rfl, rfl⟩ := hj
    exact ⟨g2, q2, t4, trivial, f4⟩
  | some j =>
    rw [hpd] at hj
    exact wpIn_mono (hj.2.2 F n res g2 q2 _ w3 hF (hR.fwd t4.fwd rfl) t4.rel f4) fun e1 a1 w1 k => codePost.up t4 k
end
end Go.Proofs.YtaoglkkdhdfioaaGreatDoor
