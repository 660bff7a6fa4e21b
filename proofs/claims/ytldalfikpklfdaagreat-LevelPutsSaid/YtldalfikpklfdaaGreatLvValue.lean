/- What level.Value answers of parts that may stand in a normal form: the greatest of its parts with numbers for their variables. -/
import Derived.Test.YtldalfikpklfdaaGreatLvLeq
namespace Go.Proofs.YtldalfikpklfdaaGreat
open Go.RowKit Go.Maps

theorem quiet_of_eq {P : Program} {f : FuncId} {args : Array Value} {w : World} {n : Nat} {v : Value} (h : Calls P f args (w.drewN n) fun e w' => e = .returned v ∧ w.drewN n = w') :
    Calls P f args (w.drewN n) fun e w'' => e = .returned v ∧ ∃ m, w'' = w.drewN m := h.mono fun _ _ ⟨he, hw⟩ => ⟨he, n, hw.symm⟩

/-- A row of ints in memory. -/
def Ints (w : World) (B : Nat) (A : Option Addr) (ns : List Int) : Prop :=
  0 < ns.length → ∃ b o, A = some ⟨b, o, none⟩ ∧ b < B ∧ ∀ j, j < ns.length → w.cell? ⟨b, o + j, none⟩ = some (.int .i64 (ns.getD j 0))
theorem Ints.below {w w' : World} {B : Nat} {A : Option Addr} {ns : List Int} (h : Ints w B A ns) (hb : Below B w w') : Ints w' B A ns := fun hn => by
  obtain ⟨b, o, e, hbB, hc⟩ := h hn
  exact ⟨b, o, e, hbB, fun j hj => (hb.cell hbB).trans (hc j hj)⟩
theorem Ints.more {w : World} {B B' : Nat} {A : Option Addr} {ns : List Int} (h : Ints w B A ns) (hB : B ≤ B') : Ints w B' A ns := fun hn => by
  obtain ⟨b, o, e, hb, hc⟩ := h hn
  exact ⟨b, o, e, by omega, hc⟩

/-- The number that stands for a variable. -/
def numS (ns : List Int) (v : Int) : Int :=
  if v < 1 ∨ (ns.length : Int) < v then 0 else if 0 ≤ ns.getD (v - 1).toNat 0 ∧ ns.getD (v - 1).toNat 0 ≤ 1048576 then ns.getD (v - 1).toNat 0 else 0
theorem numS_bd (ns : List Int) (v : Int) : 0 ≤ numS ns v ∧ numS ns v ≤ 1048576 := by
  unfold numS
  split
  · omega
  · split <;> omega

set_option maxRecDepth 100000 in
set_option maxHeartbeats 1000000 in
theorem number_any (A : Option Addr) (ns : List Int) (c : Nat) (v : Int) (w : World) (B : Nat) (h : Ints w B A ns) (hm : ns.length ≤ maxLen) (hv : 0 ≤ v ∧ v ≤ 1048576) :
    Calls Tryz.prog 44 #[.slice A ns.length c, .int .i64 v] w fun e w' => e = .returned (.int .i64 (numS ns v)) ∧ w = w' := by
  unfold maxLen at hm
  obtain ⟨hv0, hv1⟩ := hv
  by_cases t1 : v < 1
  · have HF : Hid (numS ns v = 0) := by unfold numS Hid; rw [if_pos (Or.inl t1)]
    clear h
    go_enter Tryz.func44, Tryz.ntmps44
    go_wp2
    go_ret
    exact ⟨by rw [HF.out]; rfl, rfl⟩
  · by_cases t2 : (ns.length : Int) < v
    · have HF : Hid (numS ns v = 0) := by unfold numS Hid; rw [if_pos (Or.inr t2)]
      clear h
      go_enter Tryz.func44, Tryz.ntmps44
      go_wp2
      go_ret
      exact ⟨by rw [HF.out]; rfl, rfl⟩
    · obtain ⟨k, rfl⟩ : ∃ k : Nat, v = (k : Int) + 1 := ⟨(v - 1).toNat, by omega⟩
      obtain ⟨b, o, rfl, hb, hc⟩ := h (by omega)
      have c0 := hc k (by omega)
      have hk : k < ns.length := by omega
      have hki : (k : Int) < (ns.length : Int) := by omega
      have e0 : numS ns ((k : Int) + 1) = if 0 ≤ ns.getD k 0 ∧ ns.getD k 0 ≤ 1048576 then ns.getD k 0 else 0 := by
        unfold numS
        rw [if_neg (by omega), show ((k : Int) + 1 - 1).toNat = k from by omega]
      obtain ⟨x, hx⟩ : ∃ x, x = ns.getD k 0 := ⟨_, rfl⟩
      rw [← hx] at c0 e0
      clear hc hx
      by_cases t3 : 0 ≤ x
      · by_cases t4 : x ≤ 1048576
        · have HF : Hid (numS ns ((k : Int) + 1) = x) := by rw [Hid, e0, if_pos ⟨t3, t4⟩]
          clear e0
          go_enter Tryz.func44, Tryz.ntmps44
          go_wp2
          go_ret
          exact ⟨by rw [HF.out]; rfl, rfl⟩
        · have HF : Hid (numS ns ((k : Int) + 1) = 0) := by rw [Hid, e0, if_neg (fun q => t4 q.2)]
          clear e0
          go_enter Tryz.func44, Tryz.ntmps44
          go_wp2
          go_ret
          exact ⟨by rw [HF.out]; rfl, rfl⟩
      · have HF : Hid (numS ns ((k : Int) + 1) = 0) := by rw [Hid, e0, if_neg (fun q => t3 q.1)]
        clear e0
        go_enter Tryz.func44, Tryz.ntmps44
        go_wp2
        go_ret
        exact ⟨by rw [HF.out]; rfl, rfl⟩

/-- The value of what a map keeps. -/
def IsVal (m : Int → Option Int) (ns : List Int) (x : Int) : Prop :=
  0 ≤ x ∧ (∀ k v, Kept m k v → numS ns k + v ≤ x) ∧ (x = 0 ∨ ∃ k v, Kept m k v ∧ x = numS ns k + v)
def ValPost (w : World) (m : Int → Option Int) (ns : List Int) (e : Ending) (w' : World) : Prop := ∃ x, e = .returned (.int .i64 x) ∧ IsVal m ns x ∧ Below w.heap.size w w'
def ValSo (qs : List (Int × Int)) (ns : List Int) (x : Int) : Prop :=
  0 ≤ x ∧ x ≤ 2097152 ∧ (∀ p ∈ qs, numS ns p.1 + p.2 ≤ x) ∧ (x = 0 ∨ ∃ p ∈ qs, x = numS ns p.1 + p.2)
theorem ValSo.step {qs : List (Int × Int)} {ns : List Int} {x : Int} (h : ValSo qs ns x) {p : Int × Int} (hp : 0 ≤ p.2 ∧ p.2 ≤ 1048576) : ValSo (qs ++ [p]) ns (max x (numS ns p.1 + p.2)) := by
  have hb := numS_bd ns p.1
  obtain ⟨h0, h1, h2, h3⟩ := h
  refine ⟨by omega, by omega, fun q hq => ?_, ?_⟩
  · rw [List.mem_append] at hq
    rcases hq with hq | hq
    · have := h2 q hq; omega
    · simp at hq; subst hq; omega
  · by_cases e : x ≤ numS ns p.1 + p.2
    · exact Or.inr ⟨p, by simp, by omega⟩
    · rcases h3 with h3 | ⟨q, hq, hh⟩
      · exact Or.inl (by omega)
      · exact Or.inr ⟨q, by simp [hq], by omega⟩

set_option maxRecDepth 100000 in
set_option maxHeartbeats 2000000 in
theorem value_any (A A' : Option Addr) (ps : List (Int × Int)) (ns : List Int) (c c' : Nat) (w : World) (hmp : Few ps.length) (hmn : ns.length ≤ maxLen) (ha : Lev w w.heap.size A ps) (hn : Ints w w.heap.size A' ns) (hca : A = none → c = 0) (hoa : ∀ p ∈ ps, okPart p) :
    Calls Tryz.prog 19 #[.agg #[.slice A ps.length c], .slice A' ns.length c'] w (ValPost w (mapOf ps) ns) := by
  have hfd := field_parts
  have hb0 : Below w.heap.size w (w.alloc (.cells #[.slice A ps.length c] 24)) := (Below.refl _ _).alloc (Nat.le_refl _) _
  have HG1 := Lib.hid (gather_ok A ps c (w.alloc (.cells #[.slice A ps.length c] 24)) hmp ((ha.below hb0).more (by simp)) hca hoa)
  have HB0 := Lib.hid hb0
  have HN := Lib.hid hn
  have HMN := Lib.hid hmn
  have HMP := Lib.hid hmp
  have HO := Lib.hid hoa
  clear hb0 ha hoa hca hmp hn hmn
  go_enter Tryz.func19, Tryz.ntmps19
  go_wp2_with (fail)
  refine HG1.out.mono ?_
  rintro e w1 ⟨v1, q1, rfl, hq1, hrow1, hb1⟩
  obtain ⟨A1, n1, m1, rfl⟩ := own_slice hrow1
  obtain ⟨rfl, hl1, hc1⟩ := own_lev hrow1
  have E2 : Hid (Below w.heap.size w w1) := HB0.out.trans (hb1.mono (by simp))
  have hz1 : w.heap.size + 1 ≤ w1.heap.size := by have := hb1.size; simp at this; omega
  have HL1 := Lib.hid hl1
  have HQ1 := Lib.hid hq1
  have hln1 : q1.length ≤ 9223372036854775807 := by have := level_len hq1; have := HMP.out; unfold Few at this; omega
  have HK1 : Hid (∀ p ∈ q1, okPart p) := fun p hp => HO.out _ (mapOf_mem ps p.1 p.2 ((hq1.2 p).1 hp).1)
  clear hl1 hc1 hq1 hrow1 hb1
  go_wp2
  go_loopw [5, 13] (fun x i wr => ∃ (k : Nat) (u : Int), k ≤ q1.length ∧ i = .int .i64 k ∧ x = .int .i64 u ∧ Below w1.heap.size w1 wr ∧ ValSo (q1.take k) ns u) (fun _ i _ => q1.length - (intOf i).toNat)
  case atStart => exact ⟨0, 0, Nat.zero_le _, rfl, rfl, Below.refl _ _, ⟨by omega, by omega, fun p hp => by simp at hp, Or.inl rfl⟩⟩
  case round =>
    obtain ⟨k, u, hk, rfl, rfl, hb, hs⟩ := hrel
    have hbz := hb.size
    by_cases hlt : k < q1.length
    · obtain ⟨b, o, rfl, hbB, hcell⟩ := HL1.out (by omega)
      have c0 := (hb.cell hbB).trans (hcell k hlt).1
      have c1 := (hb.cell hbB).trans (hcell k hlt).2
      have hin : q1.getD k (0, 0) ∈ q1 := by rw [List.getD_eq_getElem?_getD, List.getElem?_eq_getElem hlt]; exact List.getElem_mem hlt
      have hok := HK1.out _ hin
      obtain ⟨x, hx⟩ : ∃ x, x = (q1.getD k (0, 0)).1 := ⟨_, rfl⟩
      obtain ⟨y, hy⟩ : ∃ y, y = (q1.getD k (0, 0)).2 := ⟨_, rfl⟩
      unfold okPart at hok
      rw [← hx, ← hy] at hok
      rw [← hx] at c0
      rw [← hy] at c1
      have hq : q1[k] = (x, y) := by rw [hx, hy, List.getD_eq_getElem?_getD, List.getElem?_eq_getElem hlt]; rfl
      obtain ⟨k0, k1, k2, k3⟩ := hok
      have hbw : b < wr.heap.size := by omega
      have hu0 := hs.1
      have hu1 := hs.2.1
      have hnb := numS_bd ns x
      obtain ⟨z, hz⟩ : ∃ z, z = numS ns x := ⟨_, rfl⟩
      have HNUM : Hid (∀ W, Below w1.heap.size w1 W → Calls Tryz.prog 44 #[.slice A' ns.length c', .int .i64 x] W fun e w' => e = .returned (.int .i64 z) ∧ W = w') := fun W hW => by
        rw [hz]; exact number_any A' ns c' x W w.heap.size (HN.out.below (E2.out.trans (hW.mono E2.out.size))) HMN.out ⟨k0, k2⟩
      rw [← hz] at hnb
      have HST : Hid (ValSo (q1.take (k + 1)) ns (max u (z + y))) := by
        rw [Hid, List.take_succ_eq_append_getElem hlt, hq, hz]
        exact hs.step (p := (x, y)) ⟨k1, k3⟩
      have HBB := Lib.hid hb
      obtain ⟨z0, z1⟩ := hnb
      have ws : IntKind.i64.wrap (z + y) = z + y := IntWalk.i64_in _ (by omega)
      have zy : 0 ≤ z + y := by omega
      clear hs hq hx hy hz hcell hin hb
      go_wp2
      go_quiet ((go_at_call 44; exact quiet_of_eq (HNUM.out _ (below_drewN (HBB.out.alloc hbz _) _))))
      go_wp2
      go_roundw
      case rel => exact ⟨k + 1, _, by omega, by go_num, rfl, below_drewN (HBB.out.alloc hbz _) _, HST.out⟩
      case measure => simp [intOf]; omega
    · obtain rfl : k = q1.length := by omega
      have HF : Hid (ValPost w (mapOf ps) ns (.returned (.int .i64 u)) wr) := ⟨u, rfl, ⟨hs.1, fun k v hkv => hs.2.2.1 (k, v) (by simpa using (HQ1.out.2 (k, v)).2 hkv), hs.2.2.2.imp id (fun ⟨p, hp, h⟩ => ⟨p.1, p.2, (HQ1.out.2 p).1 (by simpa using hp), h⟩)⟩, E2.out.trans (hb.mono E2.out.size)⟩
      clear hs hb
      go_wp2
      go_ret
      exact HF.out

end Go.Proofs.YtldalfikpklfdaaGreat
