/- Arguments as values in the heap as it is: nil rows, sealed rows of terms; rows for a call of one's own. -/
import Derived.Test.YtaoglkkdhdfioaaGreatDoorEvWk
import Derived.Test.YtaoglkkdhdfioaaGreatDoorEvZ
import Derived.Test.YtaoglkkdhdfioaaGreatDoorTePush
namespace Go.Proofs.YtaoglkkdhdfioaaGreatDoor
open Go Go.Proofs
/-- the cells of a row, one term after another -/
def rowC : List Tm → List AV
  | [] => []
  | t :: ts => tmC t ++ rowC ts
theorem rowC_eq : ∀ ts : List Tm, rowC ts = tmsC ts
  | [] => rfl
  | t :: ts => by rw [rowC, tmsC_cons, rowC_eq ts]
/-- in this heap these are these values -/
def Sees (h : AH) (us bs : List AV) : Prop := ∃ l, SnapL h us bs l ∧ Sealed h l
section
variable {h : AH} {us bs : List AV}
theorem Sees.pures (hp : ∀ a ∈ us, Pure a) : Sees h us us := ⟨[], snap_pure hp, fun p hp => nomatch hp⟩
theorem Sees.nil : Sees h [] [] := ⟨[], .nil, fun p hp => nomatch hp⟩
theorem Sees.pure {a : AV} (hp : Pure a) (ht : Sees h us bs) : Sees h (a :: us) (a :: bs) := by
  obtain ⟨l, h1, h2⟩ := ht
  exact ⟨l, .pure hp h1, h2⟩
theorem Sees.none {sz : Nat} (ht : Sees h us bs) : Sees h (.raw (.slice none 0 0) :: us) (.vals sz [] :: bs) := by
  obtain ⟨l, h1, h2⟩ := ht
  exact ⟨l, .none h1, h2⟩
theorem Sees.tms {r k imm len : Nat} {T : TypeId} {c : List Tm} (hg : h.get r = some (.cells ⟨k, T, 5, imm, tmsC c⟩)) (hl : c.length = len) (hi : len * 5 ≤ imm) (ht : Sees h us bs) : Sees h (.row r k 0 len :: us) (.vals 5 (c.map eTm) :: bs) := by
  obtain ⟨l, h1, h2⟩ := ht
  refine ⟨_, .row (j := []) (now_of hg) (by simp [hl]) ?_ ?_ ?_ h1, ?_⟩
  · intro j e he
    obtain ⟨t, _, rfl⟩ := List.mem_map.1 (List.mem_of_getElem? he)
    rw [tmC_eq]; exact tmC_length t
  · show SnapL h (((tmsC c).drop 0).take (len * 5)) _ _
    rw [List.drop_zero, List.take_of_length_le (by rw [tmsC_length, hl]; exact Nat.le_refl _)]
    exact snap_pure (pure_tmsC c)
  · intro e he
    obtain ⟨t, _, rfl⟩ := List.mem_map.1 he
    exact pure_tm t
  · intro p hp
    rw [List.nil_append] at hp
    rcases List.mem_cons.1 hp with rfl | hp
    · intro d hd
      rw [hg] at hd
      injection hd with hd; injection hd with hd
      subst hd
      show 0 + len * 5 ≤ imm
      omega
    · exact h2 p hp
theorem Sees.row {r k imm len : Nat} {T : TypeId} {c : List Tm} (hg : h.get r = some (.cells ⟨k, T, 5, imm, rowC c⟩)) (hl : c.length = len) (hi : len * 5 ≤ imm) (ht : Sees h us bs) : Sees h (.row r k 0 len :: us) (.vals 5 (c.map eTm) :: bs) :=
  .tms (by rw [← rowC_eq]; exact hg) hl hi ht
end
section
variable {P : Program} {ops : Array Oper} {f : AF} {h : AH} {o : Oper} {l : List Oper} {Q : Ex → AF → AH → Prop} {c : Call} {x : Operand} {fn : Fn} {us bs : List AV} {z : AV} {n0 : Nat} {K : List (List Nat × Option (Nat × Bool))}
/-- a call of what is seen as values -/
theorem ts (hk : Tells P fn bs [] z) (hS : Sees h us bs) (hr : GoesL P ops l (f.put o.dst z) h Q) (hg : guardA ops f o = some true := by rfl) (hc : o.op = .call c := by rfl) (hx : c.callee = .value x := by rfl) (hf : f.ev x = some (.clo fn [] []) := by rfl) (ha : f.evs c.args.toList = some us := by rfl) : GoesL P ops (o :: l) f h Q := by
  obtain ⟨l0, h1, h2⟩ := hS
  exact goesL_call hg hc hx hf ha (gives_seal (l := l0) [] hk (by rw [List.append_nil, List.append_nil]; exact h1) h1.length h2 hr)
theorem tas (T : List Nat) (hk : Tells P fn bs [] z) (hS : Sees (h.only T) us bs) (hr : GoesA P ops n0 l (f.put o.dst z) h (K ++ [(T, none)]) Q) (hg : guardA ops f o = some true := by rfl) (hc : o.op = .call c := by rfl) (hx : c.callee = .value x := by rfl) (hf : f.ev x = some (.clo fn [] []) := by rfl) (ha : f.evs c.args.toList = some us := by rfl) : GoesA P ops n0 (o :: l) f h K Q := by
  obtain ⟨l0, h1, h2⟩ := hS
  exact goesA_call (l0 := l0) T hg hc hx hf ha (by rw [List.append_nil, List.append_nil]; exact h1) h1.length h2 hk hr
/-- one row is sealed ahead of the call -/
theorem tsO (r m : Nat) {cc : Cells} (hk : Tells P fn bs [] z) (hS : Sees (h.put r (.cells { cc with imm := max cc.imm m })) us bs) (hr : GoesL P ops l (f.put o.dst z) (h.put r (.cells { cc with imm := max cc.imm m })) Q) (hg : guardA ops f o = some true := by rfl) (hc : o.op = .call c := by rfl) (hx : c.callee = .value x := by rfl) (hf : f.ev x = some (.clo fn [] []) := by rfl) (ha : f.evs c.args.toList = some us := by rfl)
    (hget : h.get r = some (.cells cc) := by rfl) (hm : m ≤ cc.cs.length := by exact Nat.le_of_ble_eq_true rfl) : GoesL P ops (o :: l) f h Q := by
  rw [← seals_one hget hm] at hS hr
  obtain ⟨l0, h1, h2⟩ := hS
  exact goesL_call hg hc hx hf ha (gives_seal (l := l0) [(r, m)] hk (by rw [List.append_nil, List.append_nil]; exact h1) h1.length h2 hr)
/-- a call of a word and of a row made for it -/
theorem to {k : Int} {vs : List Tm} {r v imm n : Nat} {T : TypeId} (hk : Tells P fn [eInt k, .vals 5 (vs.map eTm)] [] z) (hr : GoesL P ops l (f.put o.dst z) (h.put r (.cells ⟨v, T, 5, max imm (n * 5), rowC vs⟩)) Q) (hn : vs.length = n := by rfl) (hg : guardA ops f o = some true := by rfl) (hc : o.op = .call c := by rfl) (hx : c.callee = .value x := by rfl) (hf : f.ev x = some (.clo fn [] []) := by rfl)
    (ha : f.evs c.args.toList = some [eInt k, .row r v 0 n] := by rfl) (hget : h.get r = some (.cells ⟨v, T, 5, imm, rowC vs⟩) := by rfl) : GoesL P ops (o :: l) f h Q :=
  goesL_call hg hc hx hf ha (gives_row (r := r) (n := n) (pre := [eInt k]) (c := ⟨v, T, 5, imm, rowC vs⟩) (es := vs.map eTm) hget (rowC_eq vs) (fun e he => by
    obtain ⟨t, _, rfl⟩ := List.mem_map.1 he
    rw [tmC_eq]; exact tmC_length t) (fun e he => by
    obtain ⟨t, _, rfl⟩ := List.mem_map.1 he
    exact pure_tm t) (by simp [hn]) (fun a ha => by simp at ha; subst ha; exact .raw _) rfl rfl hk hr)
/-- the same where the order is drawn: the row is sealed -/
theorem tao {k : Int} {vs : List Tm} {r v imm n : Nat} {T : TypeId} (hk : Tells P fn [eInt k, .vals 5 (vs.map eTm)] [] z) (hr : GoesA P ops n0 l (f.put o.dst z) h (K ++ [([r], none)]) Q) (hn : vs.length = n := by rfl) (hg : guardA ops f o = some true := by rfl) (hc : o.op = .call c := by rfl) (hx : c.callee = .value x := by rfl) (hf : f.ev x = some (.clo fn [] []) := by rfl)
    (ha : f.evs c.args.toList = some [eInt k, .row r v 0 n] := by rfl) (hget : (h.only [r]).get r = some (.cells ⟨v, T, 5, imm, rowC vs⟩) := by rfl) (him : n * 5 ≤ imm := by exact Nat.le_of_ble_eq_true rfl) : GoesA P ops n0 (o :: l) f h K Q :=
  tas [r] hk (.pure (.raw _) (.row hget hn him .nil)) hr hg hc hx hf ha
def isBS (o : Op) : Bool := match o with
  | .buildSlice .. => true
  | _ => false
/-- a row made where the order is drawn, sealed at once -/
theorem goesA_bs {y : Nat → AV} {c : Cells} {T : List Nat} (hb : isBS o.op = true) (ht : touched f o = T) (hg : guardA ops f o = some true) (hq : nop P (h.only T) f o = some (y, c))
    (hc : GoesA P ops n0 l (f.put o.dst (y (n0 + K.length))) { h with blk := h.blk ++ [(n0 + K.length, .cells { c with imm := c.cs.length })] } (K ++ [(T, some (n0 + K.length, true))]) Q) : GoesA P ops n0 (o :: l) f h K Q :=
  goesA_step (e := ⟨y (n0 + K.length), T, some (n0 + K.length, { c with imm := c.cs.length }), true⟩) (fun i ho hK => by
    have := did_head (n0 := n0) (y := y (n0 + i)) (T := T) (b := some { c with imm := c.cs.length }) (head_n (m := c.cs.length) ho hg hq (Nat.le_refl _) (pad_get ..) (pad_get ..))
    rw [hK]; exact this) hc
/-- the walk of a drawn region whose rows are sealed as they are made -/
theorem wb {A B : Prop} (k : B) (h : B → A := by
  intro k
  repeat1' first
    | (refine goesA_bs (by rfl) (by rfl) (by rfl) (by rfl) ?_; refine sm ?_)
    | (refine goesA_q [] (y := .raw (.bool true)) (by rfl) (by rfl) ?_; refine sm ?_)
    | (refine goesA_q [] (y := .raw (.bool false)) (by rfl) (by rfl) ?_; refine sm ?_)
    | (fail_if_success refine goesA_b (by rfl) (by rfl) fun b hb => ?_
       refine goesA_q [] (by rfl) (by rfl) ?_; refine sm ?_)
    | (refine goesA_t (by rfl) (by rfl) (by rfl) ?_; refine sm ?_)
    | (refine goesA_n [] (by rfl) (by rfl) ?_; refine sm ?_)
    | (refine goesA_nt (by rfl) (by rfl) (by rfl) ?_; refine sm ?_)
    | (refine goesA_m (by rfl) (by rfl) (by rfl) ?_; refine sm ?_)
    | (refine goesA_off (by rfl) ?_; refine sm ?_)
    | (refine goesA_end (by kernel_rfl) ?_; refine sm ?_)
    | (refine goes_any (by rfl) ?_; refine sm ?_)
  exact k) : A := h k
end
section
variable {P : Program} {ops : Array Oper} {l : List Oper} {f : AF} {h : AH} {o : Oper} {Q : Ex → AF → AH → Prop} {cl : Call} {s x : Operand} {ts tx e e' : TypeId} {j : TypeInfo} {z : Value} {r m imm : Nat} {c : List Tm} {w : Tm}
/-- a term appended to a row of one's own that was sealed -/
theorem goesL_pushS (hm : c.length = m + 1) (him : imm ≤ (m + 1) * 5) (hb0 : m ≤ 1073741000) (hr : GoesL P ops l (f.put o.dst (.row r (m + 1) 0 (m + 1 + 1))) (h.put r (.cells ⟨m + 1, e, 5, imm, tmsC (c ++ [w])⟩)) Q) 
    (hg : guardA ops f o = some true := by rfl) (ho : o.op = .call cl := by rfl) (hc : cl.callee = .builtin .append := by rfl) (ha : cl.args.toList = [s, x] := by rfl) (ht : cl.argTypes.toList = [ts, tx] := by rfl) (hs : f.ev s = some (.row r m 0 (m + 1)) := by rfl) (hu : P.underlying ts = some (.slice e) := by rfl) (hn : h.get r = some (.cells ⟨m, e, 5, imm, tmsC c⟩) := by rfl) (hk : P.underlying tx = some (.slice e') := by rfl)
    (hi : P.info? e = some j := by rfl) (hz : j.zero = some z := by rfl) (hzs : z.cells.size = j.size := by rfl) (hb : j.bytes ≤ 1024 := by decide) (hsz : j.size = 5 := by rfl) (hsrc : srcA h f 5 x = some (0 + 1, tmC w) := by rfl)  : GoesL P ops (o :: l) f h Q := by
  have hmop := mop_append (P := P) (h := h) (f := f) (len := m + 1) (n := 0) (bs := tmC w) (cc := ⟨m, e, 5, imm, tmsC c⟩) ho hc ha ht hu hk hi hz hzs hb (by rw [hsz]; exact hsrc) (tmC_one w) hs (now_of hn) hsz.symm rfl him (by unfold tops; omega) (by decide)
  refine goesL_m hg hmop ?_
  have := tms_push (t := w) hm
  show GoesL P ops l (f.put o.dst (.row r (m + 1) 0 (m + 1 + 1))) (h.put r (.cells ⟨m + 1, e, 5, imm, (tmsC c).take ((m + 1) * 5) ++ tmC w⟩)) Q
  rw [this]
  exact hr
end
theorem snap_ownI {h : AH} {r n : Nat} {c : Cells} {us : List Tm} (hg : h.get r = some (.cells { c with cs := tmsC us, sz := 5 })) (hn : us.length = n) :
    SnapL (h.seals [(r, n * 5)]) [.row r c.ver 0 n] [.vals 5 (us.map eTm)] [(r, 0 + n * 5)] ∧ Sealed (h.seals [(r, n * 5)]) [(r, 0 + n * 5)] :=
  snap_own (c := { c with cs := tmsC us, sz := 5 }) hg rfl (fun e he => by
    obtain ⟨t, _, rfl⟩ := List.mem_map.1 he
    rw [tmC_eq]; exact tmC_length t) (fun e he => by
    obtain ⟨t, _, rfl⟩ := List.mem_map.1 he
    exact pure_tm t) (by simp [hn])
end Go.Proofs.YtaoglkkdhdfioaaGreatDoor
