/- Laws. -/
import Derived.Test.YtfgnnbpbbnnnhaaDoorRows
import Derived.WalkKit
import Derived.WalkSpells
import Derived.WalkLawsBesides
import Derived.BigQuiet
import Derived.Deep.QuietTactic
import Derived.Lib.Hide
import Derived.Outline
import Derived.IntWalk
namespace Go.Proofs.YtfgnnbpbbnnnhaaDoor
open Go.RowKit
/-- A row of parts in memory: each by its two cells. -/
def Lev (w : World) (B : Nat) (A : Option Addr) (ps : List (Int × Int)) : Prop :=
  0 < ps.length → ∃ b o, A = some ⟨b, o, none⟩ ∧ b < B ∧ ∀ i, i < ps.length → w.cell? ⟨b, o + i * 2, none⟩ = some (.int .i64 (ps.getD i (0, 0)).1) ∧ w.cell? ⟨b, o + i * 2 + 1, none⟩ = some (.int .i64 (ps.getD i (0, 0)).2)
theorem Lev.keep {w w' : World} {B : Nat} {A : Option Addr} {ps : List (Int × Int)} (h : Lev w B A ps) (hk : ∀ p : Addr, p.block < B → w'.cell? p = w.cell? p) : Lev w' B A ps := fun hn => by
  obtain ⟨b, o, e, hb, hc⟩ := h hn
  exact ⟨b, o, e, hb, fun i hi => ⟨(hk _ hb).trans (hc i hi).1, (hk _ hb).trans (hc i hi).2⟩⟩
theorem Lev.below {w w' : World} {B : Nat} {A : Option Addr} {ps : List (Int × Int)} (h : Lev w B A ps) (hb : Below B w w') : Lev w' B A ps := h.keep fun _ hp => hb.cell hp
theorem Lev.more {w : World} {B B' : Nat} {A : Option Addr} {ps : List (Int × Int)} (h : Lev w B A ps) (hB : B ≤ B') : Lev w B' A ps := fun hn => by
  obtain ⟨b, o, e, hb, hc⟩ := h hn
  exact ⟨b, o, e, by omega, hc⟩
theorem below_drewN {B : Nat} {a w : World} (h : Below B a w) (n : Nat) : Below B a (w.drewN n) := ⟨h.os, h.tape, h.output, h.size, h.block⟩
/-- Can a part stand in a normal form? -/
def okPart (p : Int × Int) : Prop := 0 ≤ p.1 ∧ 0 ≤ p.2 ∧ p.1 ≤ 1048576 ∧ p.2 ≤ 1048576
/-- Is the part of a number as a normal form has it, those ahead being so? -/
def okStep (ps : List (Int × Int)) (i : Nat) : Prop :=
  okPart (ps.getD i (0, 0)) ∧ (0 < i → (ps.getD (i - 1) (0, 0)).1 < (ps.getD i (0, 0)).1 ∧ ((ps.getD 0 (0, 0)).1 = 0 → (ps.getD i (0, 0)).2 < (ps.getD 0 (0, 0)).2))
theorem okStep_snoc {ps : List (Int × Int)} {k : Nat} (h : ∀ j, j < k → okStep ps j) (hk : okStep ps k) : ∀ j, j < k + 1 → okStep ps j := fun j hj => by
  rcases Nat.lt_succ_iff_lt_or_eq.1 hj with hlt | rfl
  · exact h j hlt
  · exact hk
/-- Are parts a normal form as they stand? -/
def Normal (ps : List (Int × Int)) : Prop := (∀ i, i < ps.length → okStep ps i) ∧ (ps.length = 0 ∨ (ps.getD 0 (0, 0)).1 ≠ 0 ∨ 0 < (ps.getD 0 (0, 0)).2)
end Go.Proofs.YtfgnnbpbbnnnhaaDoor
namespace Go.Proofs.YtfgnnbpbbnnnhaaDoor
open Go.RowKit
theorem normal_no {ps : List (Int × Int)} {r : Bool} (hr : r = true ↔ Normal ps) {k : Nat} (hk : k < ps.length) (h : ¬ okStep ps k) : Ending.returned (.bool false) = .returned (.bool r) := by
  cases r
  · rfl
  · exact absurd ((hr.1 rfl).1 k hk) h
theorem normal_end {ps : List (Int × Int)} {r : Bool} (hr : r = true ↔ Normal ps) (hs : ∀ j, j < ps.length → okStep ps j) (s : Bool)
    (h : s = true ↔ (ps.length = 0 ∨ (ps.getD 0 (0, 0)).1 ≠ 0 ∨ 0 < (ps.getD 0 (0, 0)).2)) : Ending.returned (.bool s) = .returned (.bool r) := by
  have : r = s := by
    rw [Bool.eq_iff_iff, hr, h]
    exact ⟨fun x => x.2, fun x => ⟨hs, x⟩⟩
  rw [this]
set_option maxRecDepth 100000 in
set_option maxHeartbeats 4000000 in
theorem normal_any (A : Option Addr) (ps : List (Int × Int)) (c : Nat) (w : World) (B : Nat) (hB : B ≤ w.heap.size) (hm : ps.length ≤ maxLen) (h : Lev w B A ps) (r : Bool) (hr : r = true ↔ Normal ps) :
    Calls Tryd.prog 108 #[.slice A ps.length c] w fun e w' => e = .returned (.bool r) ∧ Below B w w' := by
  unfold maxLen at hm
  have Hr := Lib.hid hr
  clear hr
  go_enter Tryd.func108, Tryd.ntmps108
  go_wp2
  go_loopw [7] (fun i wr => ∃ k : Nat, k ≤ ps.length ∧ i = .int .i64 k ∧ Below B w wr ∧ ∀ j, j < k → okStep ps j) (fun i _ => ps.length - (intOf i).toNat)
  case atStart => exact ⟨0, Nat.zero_le _, rfl, Below.refl _ _, fun j hj => absurd hj (by omega)⟩
  case round =>
    obtain ⟨k, hk, rfl, hb, hs⟩ := hrel
    have Hs := Lib.hid hs
    clear hs
    by_cases hlt : k < ps.length
    · obtain ⟨b, o, rfl, hbB, hc⟩ := h (by omega)
      have hbs := hb.size
      have hbw : b < wr.heap.size := by omega
      have hck := hc k (by omega)
      have c0 := (hb.cell hbB).trans hck.1
      have c1 := (hb.cell hbB).trans hck.2
      have z0 := (hb.cell hbB).trans (hc 0 (by omega)).1
      have z1 := (hb.cell hbB).trans (hc 0 (by omega)).2
      have hno : ¬ okStep ps k → Ending.returned (.bool false) = .returned (.bool r) := fun x => normal_no Hr.out hlt x
      have Hno := Lib.hid hno
      clear hno hck
      obtain ⟨x, hx⟩ : ∃ x, x = (ps.getD k (0, 0)).1 := ⟨_, rfl⟩
      obtain ⟨y, hy⟩ : ∃ y, y = (ps.getD k (0, 0)).2 := ⟨_, rfl⟩
      obtain ⟨x0, hx0⟩ : ∃ x, x = (ps.getD 0 (0, 0)).1 := ⟨_, rfl⟩
      obtain ⟨y0, hy0⟩ : ∃ y, y = (ps.getD 0 (0, 0)).2 := ⟨_, rfl⟩
      rw [← hx] at c0
      rw [← hy] at c1
      rw [← hx0] at z0
      rw [← hy0] at z1
      simp only [Nat.zero_mul, Nat.add_zero] at z0 z1
      have five : x < 0 ∨ (0 ≤ x ∧ y < 0) ∨ (0 ≤ x ∧ 0 ≤ y ∧ 1048576 < x) ∨ (0 ≤ x ∧ 0 ≤ y ∧ x ≤ 1048576 ∧ 1048576 < y) ∨ (0 ≤ x ∧ 0 ≤ y ∧ x ≤ 1048576 ∧ y ≤ 1048576) := by omega
      have HX : Hid (x = (ps.getD k (0, 0)).1 ∧ y = (ps.getD k (0, 0)).2 ∧ x0 = (ps.getD 0 (0, 0)).1 ∧ y0 = (ps.getD 0 (0, 0)).2) := ⟨hx, hy, hx0, hy0⟩
      clear hx hy hx0 hy0
      rcases five with t | ⟨t1, t⟩ | ⟨t1, t2, t⟩ | ⟨t1, t2, t3, t⟩ | ⟨t1, t2, t3, t4⟩
      iterate 4
        · clear hc
          have hx : ¬ okStep ps k := fun hq => by
            have hq := hq.1
            unfold okPart at hq
            rw [← HX.out.1, ← HX.out.2.1] at hq
            omega
          have Hx := Lib.hid hx
          clear hx z0 z1
          go_wp2
          go_ret
          exact ⟨Hno.out Hx.out, hb.alloc (by omega) _⟩
      · rcases Nat.eq_zero_or_pos k with rfl | hk0
        · clear hc c0 c1
          have e0 : x = x0 := HX.out.1.trans HX.out.2.2.1.symm
          have e1 : y = y0 := HX.out.2.1.trans HX.out.2.2.2.symm
          subst e0 e1
          have hst : okStep ps 0 := ⟨by unfold okPart; rw [← HX.out.1, ← HX.out.2.1]; exact ⟨t1, t2, t3, t4⟩, fun hq => absurd hq (by omega)⟩
          have Hst := Lib.hid hst
          clear hst
          go_wp2
          go_quiet (fail)
          go_wp2
          go_roundw
          case rel => exact ⟨1, by omega, by go_num, below_drewN (hb.alloc (by omega) _) _, okStep_snoc (fun i hi => absurd hi (by omega)) Hst.out⟩
          case measure => simp [intOf]; omega
        · obtain ⟨j, rfl⟩ : ∃ j, k = j + 1 := ⟨k - 1, by omega⟩
          have p0 := (hb.cell hbB).trans (hc j (by omega)).1
          clear hc
          obtain ⟨x', hx'⟩ : ∃ x, x = (ps.getD j (0, 0)).1 := ⟨_, rfl⟩
          rw [← hx'] at p0
          have HX' := Lib.hid hx'
          have wj : IntKind.i64.wrap (j : Int) = j := IntWalk.i64_in _ (by omega)
          have ij0 : (0 : Int) ≤ (j : Int) := by omega
          have ij1 : (j : Int) < (ps.length : Int) := by omega
          have ij2 : 0 < ps.length := by omega
          have ij3 : j < ps.length := by omega
          clear hx'
          have hok : okPart (ps.getD (j + 1) (0, 0)) := by
            unfold okPart; rw [← HX.out.1, ← HX.out.2.1]; exact ⟨t1, t2, t3, t4⟩
          have Hok := Lib.hid hok
          clear hok
          by_cases q : x ≤ x'
          · have hx : ¬ okStep ps (j + 1) := fun hq => by
              have hq := (hq.2 (by omega)).1
              rw [Nat.add_sub_cancel, ← HX.out.1, ← HX'.out] at hq
              omega
            have Hx := Lib.hid hx
            clear hx
            go_wp2
            go_quiet (fail)
            go_wp2
            go_ret
            exact ⟨Hno.out Hx.out, below_drewN (hb.alloc (by omega) _) _⟩
          · have hxx : x' < x := by omega
            have qd : decide (x ≤ x') = false := by simpa using q
            by_cases z : x0 = 0
            · subst z
              by_cases g : y0 ≤ y
              · have hx : ¬ okStep ps (j + 1) := fun hq => by
                  have hq := (hq.2 (by omega)).2 HX.out.2.2.1.symm
                  rw [← HX.out.2.1, ← HX.out.2.2.2] at hq
                  omega
                have Hx := Lib.hid hx
                clear hx
                go_wp2
                go_quiet (fail)
                go_wp2
                go_ret
                exact ⟨Hno.out Hx.out, below_drewN (hb.alloc (by omega) _) _⟩
              · have gd : decide (y0 ≤ y) = false := by simpa using g
                have hst : okStep ps (j + 1) := ⟨Hok.out, fun _ => ⟨by rw [Nat.add_sub_cancel, ← HX.out.1, ← HX'.out]; exact hxx, fun _ => by rw [← HX.out.2.1, ← HX.out.2.2.2]; omega⟩⟩
                have Hst := Lib.hid hst
                clear hst
                go_wp2
                go_quiet (fail)
                go_wp2
                go_roundw
                case rel => exact ⟨j + 1 + 1, by omega, by go_num, below_drewN (hb.alloc (by omega) _) _, okStep_snoc Hs.out Hst.out⟩
                case measure => simp [intOf]; omega
            · have zf : (x0 == 0) = false := by simpa using z
              have zd : decide (x0 = 0) = false := by simpa using z
              have hst : okStep ps (j + 1) := ⟨Hok.out, fun _ => ⟨by rw [Nat.add_sub_cancel, ← HX.out.1, ← HX'.out]; exact hxx, fun hq => absurd (HX.out.2.2.1.trans hq) z⟩⟩
              have Hst := Lib.hid hst
              clear hst z
              go_wp2
              go_quiet (fail)
              go_wp2
              go_roundw
              case rel => exact ⟨j + 1 + 1, by omega, by go_num, below_drewN (hb.alloc (by omega) _) _, okStep_snoc Hs.out Hst.out⟩
              case measure => simp [intOf]; omega
    · obtain rfl : k = ps.length := by omega
      clear hk hlt
      rcases Nat.eq_zero_or_pos ps.length with h0 | h0
      · obtain rfl := List.eq_nil_of_length_eq_zero h0
        have He : Hid (Ending.returned (.bool true) = .returned (.bool r)) := normal_end Hr.out Hs.out true (by simp)
        clear h h0
        go_wp2
        go_ret
        exact ⟨He.out, hb⟩
      · obtain ⟨b, o, rfl, hbB, hc⟩ := h h0
        have hbs := hb.size
        have hbw : b < wr.heap.size := by omega
        have z0 := (hb.cell hbB).trans (hc 0 (by omega)).1
        have z1 := (hb.cell hbB).trans (hc 0 (by omega)).2
        clear hc
        obtain ⟨x0, hx0⟩ : ∃ x, x = (ps.getD 0 (0, 0)).1 := ⟨_, rfl⟩
        obtain ⟨y0, hy0⟩ : ∃ y, y = (ps.getD 0 (0, 0)).2 := ⟨_, rfl⟩
        rw [← hx0] at z0
        rw [← hy0] at z1
        simp only [Nat.zero_mul, Nat.add_zero] at z0 z1
        have lf : ((ps.length : Int) == 0) = false := by simp; intro e; subst e; simp at h0
        by_cases z : x0 = 0
        · subst z
          by_cases g : 0 < y0
          · have He : Hid (Ending.returned (.bool true) = .returned (.bool r)) := normal_end Hr.out Hs.out true (by simp only [true_iff]; right; right; rw [← hy0]; exact g)
            clear hx0 hy0
            go_wp2
            go_ret
            exact ⟨He.out, hb⟩
          · have He : Hid (Ending.returned (.bool false) = .returned (.bool r)) := normal_end Hr.out Hs.out false (by simp only [Bool.false_eq_true, false_iff]; rintro (e | e | e); (· omega); (· exact e hx0.symm); (· rw [← hy0] at e; omega))
            clear hx0 hy0
            go_wp2
            go_ret
            exact ⟨He.out, hb⟩
        · have zf : (x0 == 0) = false := by simpa using z
          have zn : (x0 != 0) = true := by simpa using z
          have He : Hid (Ending.returned (.bool true) = .returned (.bool r)) := normal_end Hr.out Hs.out true (by simp only [true_iff]; right; left; rw [← hx0]; exact z)
          clear hx0 hy0
          go_wp2
          go_ret
          exact ⟨He.out, hb⟩
end Go.Proofs.YtfgnnbpbbnnnhaaDoor
