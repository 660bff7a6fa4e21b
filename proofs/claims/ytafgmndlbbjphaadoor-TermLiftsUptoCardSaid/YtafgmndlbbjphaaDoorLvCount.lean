/- What the counts of the statements answer: whether levels are more than is gone through, whether a level's numbers are small. -/
import Derived.Test.YtafgmndlbbjphaaDoorLvMk
namespace Go.Proofs.YtafgmndlbbjphaaDoor
open Go.RowKit Go.Maps

/-- A row of levels in memory: each by its slice. -/
def Levs (w : World) (B : Nat) (A : Option Addr) (ls : List (List (Int × Int))) : Prop :=
  0 < ls.length → ∃ b o, A = some ⟨b, o, none⟩ ∧ b < B ∧ ∀ i, i < ls.length → ∃ Ai ci, w.cell? ⟨b, o + i, none⟩ = some (.slice Ai (ls.getD i []).length ci) ∧ Lev w B Ai (ls.getD i []) ∧ (Ai = none → ci = 0) ∧ (ls.getD i []).length ≤ 4611686018427387904
theorem Levs.below {w w' : World} {B : Nat} {A : Option Addr} {ls : List (List (Int × Int))} (h : Levs w B A ls) (hb : Below B w w') : Levs w' B A ls := fun hn => by
  obtain ⟨b, o, e, hbB, hc⟩ := h hn
  refine ⟨b, o, e, hbB, fun i hi => ?_⟩
  obtain ⟨Ai, ci, h1, h2, h3⟩ := hc i hi
  exact ⟨Ai, ci, (hb.cell hbB).trans h1, h2.below hb, h3⟩
theorem Levs.more {w : World} {B B' : Nat} {A : Option Addr} {ls : List (List (Int × Int))} (h : Levs w B A ls) (hB : B ≤ B') : Levs w B' A ls := fun hn => by
  obtain ⟨b, o, e, hbB, hc⟩ := h hn
  refine ⟨b, o, e, by omega, fun i hi => ?_⟩
  obtain ⟨Ai, ci, h1, h2, h3⟩ := hc i hi
  exact ⟨Ai, ci, h1, h2.more hB, h3⟩

set_option maxRecDepth 100000 in
set_option maxHeartbeats 1000000 in
theorem levelOf_any (A : Option Addr) (n c : Nat) (w : World) (hn : n ≤ 4611686018427387904) :
    Calls Tryd.prog 59 #[.agg #[.slice A n c], .int .i64 60] w (NumPost w (min (1 + (n : Int)) 61)) := by
  have hw : IntKind.i64.wrap (1 + (n : Int)) = 1 + (n : Int) := IntWalk.i64_in _ (by omega)
  have HB := Lib.hid ((Below.refl w.heap.size w).alloc (Nat.le_refl _) (.cells #[.slice A n c] 56))
  by_cases t : n ≤ 60
  · have HF : Hid (min (1 + (n : Int)) 61 = 1 + (n : Int)) := by unfold Hid; omega
    have t1 : 1 + (n : Int) ≤ 61 := by omega
    go_enter Tryd.func59, Tryd.ntmps59
    go_wp2
    go_ret
    exact ⟨by rw [HF.out]; rfl, HB.out⟩
  · have HF : Hid (min (1 + (n : Int)) 61 = 61) := by unfold Hid; omega
    have t1 : ¬ (1 + (n : Int) ≤ 61) := by omega
    go_enter Tryd.func59, Tryd.ntmps59
    go_wp2
    go_ret
    exact ⟨by rw [HF.out]; rfl, HB.out⟩

def LensPost (w : World) (ls : List (List (Int × Int))) (e : Ending) (w' : World) : Prop :=
  ∃ r : Int, e = .returned (.int .i64 r) ∧ 0 ≤ r ∧ (r ≤ 60 → (ls.length : Int) ≤ 60 ∧ ∀ l ∈ ls, l.length ≤ 60) ∧ Below w.heap.size w w'
def LensSo (ls : List (List (Int × Int))) (k : Nat) (u : Int) : Prop := 0 ≤ u ∧ u ≤ 121 ∧ (u ≤ 60 → (k : Int) ≤ u ∧ ∀ l ∈ ls.take k, l.length ≤ 60)

set_option maxRecDepth 100000 in
set_option maxHeartbeats 1000000 in
theorem levelsOf_any (A : Option Addr) (ls : List (List (Int × Int))) (c : Nat) (w : World) (hm : ls.length ≤ maxLen) (h : Levs w w.heap.size A ls) :
    Calls Tryd.prog 44 #[.slice A ls.length c, .int .i64 60] w (LensPost w ls) := by
  unfold maxLen at hm
  have HL := Lib.hid h
  clear h
  go_enter Tryd.func44, Tryd.ntmps44
  go_wp2
  go_loopw [5, 6] (fun n i wr => ∃ (k : Nat) (u : Int), k ≤ ls.length ∧ i = .int .i64 k ∧ n = .int .i64 u ∧ Below w.heap.size w wr ∧ LensSo ls k u) (fun _ i _ => ls.length - (intOf i).toNat)
  case atStart => exact ⟨0, 0, Nat.zero_le _, rfl, rfl, Below.refl _ _, ⟨by omega, by omega, fun _ => ⟨by omega, fun l hl => by simp at hl⟩⟩⟩
  case round =>
    obtain ⟨k, u, hk, rfl, rfl, hb, hs⟩ := hrel
    have hbz := hb.size
    by_cases hlt : k < ls.length
    · by_cases hu : u ≤ 60
      · obtain ⟨b, o, rfl, hbB, hcell⟩ := HL.out (by omega)
        obtain ⟨Ai, ci, q0, _, _, q3⟩ := hcell k hlt
        have c0 := (hb.cell hbB).trans q0
        have hq : ls[k] = ls.getD k [] := by rw [List.getD_eq_getElem?_getD, List.getElem?_eq_getElem hlt]; rfl
        obtain ⟨n, hn⟩ : ∃ n, n = (ls.getD k []).length := ⟨_, rfl⟩
        rw [← hn] at c0 q3
        have HC := Lib.hid (levelOf_any Ai n ci wr q3)
        have HF : Hid (LensSo ls (k + 1) (u + min (1 + (n : Int)) 61)) := by
          obtain ⟨s0, s1, s2⟩ := hs
          refine ⟨by omega, by omega, fun h6 => ?_⟩
          obtain ⟨s3, s4⟩ := s2 hu
          refine ⟨by omega, fun l hl => ?_⟩
          rw [List.take_succ_eq_append_getElem hlt, List.mem_append] at hl
          rcases hl with hl | hl
          · exact s4 l hl
          · simp at hl; rw [hl, hq, ← hn]; omega
        have HB := Lib.hid hb
        have ij0 : (0 : Int) ≤ (k : Int) := by omega
        have ij1 : (k : Int) < (ls.length : Int) := by omega
        have hbw : b < wr.heap.size := by omega
        have u0 := hs.1
        obtain ⟨z, hz⟩ : ∃ z, z = min (1 + (n : Int)) 61 := ⟨_, rfl⟩
        rw [← hz] at HC HF
        have z0 : 0 ≤ z := by omega
        have z1 : z ≤ 61 := by omega
        have ws : IntKind.i64.wrap (u + z) = u + z := IntWalk.i64_in _ (by omega)
        clear hs hb hcell q0 q3 hq hn hz
        go_wp2_with (fail)
        refine HC.out.mono ?_
        rintro e w1 ⟨rfl, hb1⟩
        have HB1 : Hid (Below w.heap.size w w1) := HB.out.trans (hb1.mono hbz)
        clear hb1
        go_wp2
        go_roundw
        case rel => exact ⟨k + 1, _, by omega, by go_num, rfl, HB1.out, HF.out⟩
        case measure => simp [intOf]; omega
      · have HF : Hid (LensPost w ls (.returned (.int .i64 u)) wr) := ⟨u, rfl, hs.1, fun h => absurd h hu, hb⟩
        clear hs hb
        go_wp2
        go_ret
        exact HF.out
    · obtain rfl : k = ls.length := by omega
      have HF : Hid (LensPost w ls (.returned (.int .i64 u)) wr) := ⟨u, rfl, hs.1, fun h => ⟨by have := (hs.2.2 h).1; omega, fun l hl => (hs.2.2 h).2 l (by simpa using hl)⟩, hb⟩
      clear hs hb
      go_wp2
      go_ret
      exact HF.out

def GreatPost (w : World) (ls : List (List (Int × Int))) (e : Ending) (w' : World) : Prop :=
  ∃ r : Bool, e = .returned (.bool r) ∧ (r = false → (ls.length : Int) ≤ 60 ∧ ∀ l ∈ ls, l.length ≤ 60) ∧ Below w.heap.size w w'

/-- Are a level's numbers small, and none below 0? -/
def okSmall (p : Int × Int) : Prop := 0 ≤ p.1 ∧ p.1 ≤ 200 ∧ 0 ≤ p.2 ∧ p.2 ≤ 262144
end Go.Proofs.YtafgmndlbbjphaaDoor
