/- A term appended to a row of terms of our own. -/
import Derived.Test.YtaoglkkdhdfioaaGreatDoorEvWk
import Derived.Test.YtaoglkkdhdfioaaGreatDoorTeRef2
namespace Go.Proofs.YtaoglkkdhdfioaaGreatDoor
open Go Go.Proofs
section
variable {P : Program} {ops : Array Oper} {l : List Oper} {f : AF} {h : AH} {o : Oper} {Q : Ex → AF → AH → Prop} {cl : Call} {s x : Operand} {ts tx e e' : TypeId} {j : TypeInfo} {z : Value} {r m : Nat} {c : List Tm} {w : Tm}
theorem goesL_push (hm : c.length = m + 1) (hb0 : m ≤ 1073741000) (hr : GoesL P ops l (f.put o.dst (.row r (m + 1) 0 (m + 1 + 1))) (h.put r (.cells ⟨m + 1, e, 5, 0, tmsC (c ++ [w])⟩)) Q) 
    (hg : guardA ops f o = some true := by rfl) (ho : o.op = .call cl := by rfl) (hc : cl.callee = .builtin .append := by rfl) (ha : cl.args.toList = [s, x] := by rfl) (ht : cl.argTypes.toList = [ts, tx] := by rfl) (hs : f.ev s = some (.row r m 0 (m + 1)) := by rfl) (hu : P.underlying ts = some (.slice e) := by rfl) (hn : h.get r = some (.cells ⟨m, e, 5, 0, tmsC c⟩) := by rfl) (hk : P.underlying tx = some (.slice e') := by rfl)
    (hi : P.info? e = some j := by rfl) (hz : j.zero = some z := by rfl) (hzs : z.cells.size = j.size := by rfl) (hb : j.bytes ≤ 1024 := by decide) (hsz : j.size = 5 := by rfl) (hsrc : srcA h f 5 x = some (0 + 1, tmC w) := by rfl)  : GoesL P ops (o :: l) f h Q := by
  have hmop := mop_append (P := P) (h := h) (f := f) (len := m + 1) (n := 0) (bs := tmC w) (cc := ⟨m, e, 5, 0, tmsC c⟩) ho hc ha ht hu hk hi hz hzs hb (by rw [hsz]; exact hsrc) (tmC_one w) hs (now_of hn) hsz.symm rfl (Nat.zero_le _) (by unfold tops; omega) (by decide)
  refine goesL_m hg hmop ?_
  have := tms_push (t := w) hm
  show GoesL P ops l (f.put o.dst (.row r (m + 1) 0 (m + 1 + 1))) (h.put r (.cells ⟨m + 1, e, 5, 0, (tmsC c).take ((m + 1) * 5) ++ tmC w⟩)) Q
  rw [this]
  exact hr
theorem goesA_push {n0 : Nat} {K : List (List Nat × Option (Nat × Bool))} (T : List Nat) (hm : c.length = m + 1) (hb0 : m ≤ 1073741000) (hr : GoesA P ops n0 l (f.put o.dst (.row r (m + 1) 0 (m + 1 + 1))) (h.put r (.cells ⟨m + 1, e, 5, 0, tmsC (c ++ [w])⟩)) (K ++ [(T, some (r, false))]) Q) 
    (hg : guardA ops f o = some true := by rfl) (ho : o.op = .call cl := by rfl) (hc : cl.callee = .builtin .append := by rfl) (ha : cl.args.toList = [s, x] := by rfl) (ht : cl.argTypes.toList = [ts, tx] := by rfl) (hs : f.ev s = some (.row r m 0 (m + 1)) := by rfl) (hu : P.underlying ts = some (.slice e) := by rfl) (hn : (h.only T).get r = some (.cells ⟨m, e, 5, 0, tmsC c⟩) := by rfl) (hk : P.underlying tx = some (.slice e') := by rfl)
    (hi : P.info? e = some j := by rfl) (hz : j.zero = some z := by rfl) (hzs : z.cells.size = j.size := by rfl) (hb : j.bytes ≤ 1024 := by decide) (hsz : j.size = 5 := by rfl) (hsrc : srcA (h.only T) f 5 x = some (0 + 1, tmC w) := by rfl)  (hrT : r ∈ T := by decide) : GoesA P ops n0 (o :: l) f h K Q :=
  goesA_app (n := 0) T (now_of hn) (Nat.zero_le _) (by unfold tops; omega) (by decide) (tms_push (t := w) hm) (tmC_one w) hg ho hc ha ht hu hk hi hz hzs hb (by rw [hsz]; exact hsrc) hs hrT hsz.symm rfl hr
end
theorem snap_tms {H : AH} {r m : Nat} {T : TypeId} {c : List Tm} (hg : H.get r = some (.cells ⟨m, T, 5, 0, tmsC c⟩)) (hm : c.length = m + 1) : SnapL (H.seals [(r, (m + 1) * 5)]) [.row r m 0 (m + 1)] [.vals 5 (c.map eTm)] [(r, 0 + (m + 1) * 5)] ∧ Sealed (H.seals [(r, (m + 1) * 5)]) [(r, 0 + (m + 1) * 5)] :=
  snap_own (c := ⟨m, T, 5, 0, tmsC c⟩) (es := c.map eTm) (n := m + 1) hg rfl (fun e he => by
    obtain ⟨t, _, rfl⟩ := List.mem_map.1 he
    rw [tmC_eq]; exact tmC_length t) (fun e he => by
    obtain ⟨t, _, rfl⟩ := List.mem_map.1 he
    exact pure_tm t) (by simp [hm])
theorem next_nat {m : Nat} (h : m ≤ 1073741824) : IntKind.i64.wrap (((m + 1 : Nat) : Int) + 1) = ((m + 1 + 1 : Nat) : Int) := by
  rw [show (((m + 1 : Nat) : Int) + 1) = ((m + 1 + 1 : Nat) : Int) from rfl, wrap_nat (by omega)]
theorem take_one_t {W : List Tm} {w : Tm} (h : W[0]? = some w) : W.take 1 = [w] := by
  cases W with
  | nil => simp at h
  | cons x W => simp at h; rw [h]; rfl
theorem take_next {W : List Tm} {w : Tm} {i : Nat} (h : W[i]? = some w) : W.take (i + 1) = W.take i ++ [w] := by rw [List.take_add_one, h]; rfl
theorem tms_one (w : Tm) : tmsC [w] = tmC w := by rw [tmsC_cons, tmsC_nil, List.append_nil]
end Go.Proofs.YtaoglkkdhdfioaaGreatDoor
