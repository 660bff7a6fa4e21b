/- Whether a level is right: what the program answers. -/
import Derived.Test.YtafgmndlbbjphaaDoorLvKindsB
namespace Go.Proofs.YtafgmndlbbjphaaDoor
open Go.RowKit Go.Maps

def RightAt (ps : List (Int × Int)) (n : Int) (i : Nat) : Prop :=
  0 ≤ (ps.getD i (0, 0)).1 ∧ (ps.getD i (0, 0)).1 ≤ n ∧ 0 ≤ (ps.getD i (0, 0)).2 ∧ (ps.getD i (0, 0)).2 ≤ 1000 ∧ (0 < i → (ps.getD (i - 1) (0, 0)).1 < (ps.getD i (0, 0)).1)
def RightS (ps : List (Int × Int)) (n : Int) : Prop := ps.length ≤ 9 ∧ ∀ i, i < ps.length → RightAt ps n i
theorem right_snoc {ps : List (Int × Int)} {n : Int} {k : Nat} (h : ∀ i, i < k → RightAt ps n i) (hk : RightAt ps n k) : ∀ i, i < k + 1 → RightAt ps n i := fun i hi => by
  rcases Nat.lt_succ_iff_lt_or_eq.1 hi with hi | rfl
  · exact h i hi
  · exact hk


set_option maxRecDepth 100000 in
set_option maxHeartbeats 4000000 in
theorem right_any (A : Option Addr) (ps : List (Int × Int)) (c : Nat) (n : Int) (w : World) (hm : ps.length ≤ maxLen) (h : Lev w w.heap.size A ps) (r : Bool) (hr : r = true ↔ RightS ps n) :
    Calls Tryd.prog 65 #[.agg #[.slice A ps.length c], .int .i64 n] w (HasPost w r) := by
  unfold maxLen at hm
  have HB0 := Lib.hid ((Below.refl w.heap.size w).alloc (Nat.le_refl _) (.cells #[.slice A ps.length c] 56))
  have HR := Lib.hid hr
  have HL := Lib.hid h
  obtain ⟨len, hlen⟩ : ∃ len, ps.length = len := ⟨_, rfl⟩
  have HLN := Lib.hid hlen
  rw [hlen] at HB0 hm ⊢
  have X0 := Lib.hid (heap_alloc_new w (.cells #[.slice A len c] 56))
  clear h hr hlen
  go_enter Tryd.func65, Tryd.ntmps65
  by_cases h9 : (9 : Int) < (len : Int)
  · have HF : Hid (HasPost w r (.returned (.bool false)) (w.alloc (.cells #[.slice A len c] 56))) := ⟨by
      have : r = false := by
        rcases r with _ | _
        · rfl
        · have := (HR.out.1 rfl).1
          have := HLN.out
          omega
      rw [this], HB0.out⟩
    go_wp2
    go_ret
    exact HF.out
  · have d9 : decide ((9 : Int) < (len : Int)) = false := by simpa using h9
    go_wp2
    go_loopw [14] (fun i wr => ∃ k : Nat, k ≤ len ∧ i = .int .i64 k ∧ Below (w.heap.size + 1) (w.alloc (.cells #[.slice A len c] 56)) wr ∧ ∀ j, j < k → RightAt ps n j) (fun i _ => len - (intOf i).toNat)
    case atStart => exact ⟨0, Nat.zero_le _, rfl, Below.refl _ _, fun j hj => absurd hj (by omega)⟩
    case round =>
      obtain ⟨k, hk, rfl, hb, hs⟩ := hrel
      have hbz := hb.size
      simp at hbz
      have hB : Below w.heap.size w wr := HB0.out.trans (hb.mono (by omega))
      have e0 : wr.heap[w.heap.size]? = some (.cells #[.slice A len c] 56 (0, 0)) := (hb.block _ (by omega)).trans X0.out
      have f0 := cell_of_one e0
      by_cases hlt : k < len
      · obtain ⟨b, o, rfl, hbB, hcell⟩ := HL.out (by have := HLN.out; omega)
        have c0 := (hB.cell hbB).trans (hcell k (by have := HLN.out; omega)).1
        have c1 := (hB.cell hbB).trans (hcell k (by have := HLN.out; omega)).2
        obtain ⟨x, hx⟩ : ∃ x, x = (ps.getD k (0, 0)).1 := ⟨_, rfl⟩
        obtain ⟨y, hy⟩ : ∃ y, y = (ps.getD k (0, 0)).2 := ⟨_, rfl⟩
        rw [← hx] at c0
        rw [← hy] at c1
        have HB := Lib.hid hb
        have ij0 : (0 : Int) ≤ (k : Int) := by omega
        have ij1 : (k : Int) < (len : Int) := by omega
        have hbw : b < wr.heap.size := by omega
        have hww : w.heap.size < wr.heap.size := by omega
        have HN : ∀ m, ¬ RightAt ps n k → Hid (HasPost w r (.returned (.bool false)) ((wr.alloc (.cells #[.int .i64 x, .int .i64 y] 71)).drewN m)) := fun m hn => ⟨by
          have : r = false := by
            rcases r with _ | _
            · rfl
            · exact absurd ((HR.out.1 rfl).2 k (by have := HLN.out; omega)) hn
          rw [this], below_drewN (hB.alloc (by omega) _) _⟩
        have HY : RightAt ps n k → Hid (∀ j, j < k + 1 → RightAt ps n j) := fun hy => right_snoc hs hy
        have HAT : Hid (RightAt ps n k ↔ 0 ≤ x ∧ x ≤ n ∧ 0 ≤ y ∧ y ≤ 1000 ∧ (0 < k → (ps.getD (k - 1) (0, 0)).1 < x)) := by
          unfold Hid RightAt
          rw [← hx, ← hy]
        have HPV : Hid (0 < k → wr.cell? ⟨b, o + (k - 1) * 2, none⟩ = some (.int .i64 (ps.getD (k - 1) (0, 0)).1)) := fun _ => (hB.cell hbB).trans (hcell (k - 1) (by have := HLN.out; omega)).1
        obtain ⟨pv, hpv⟩ : ∃ pv, pv = (ps.getD (k - 1) (0, 0)).1 := ⟨_, rfl⟩
        rw [← hpv] at HAT HPV
        have hn2 := two_new wr (.int .i64 x) (.int .i64 y) 71
        clear hs hx hy hcell hb hB e0 hpv
        by_cases t1 : x < 0
        · have HF := fun m => HN m (fun h => by have := HAT.out.1 h; omega)
          clear HN HY HAT HPV
          go_wp2
          go_ret
          exact (HF 0).out
        · have d1 : decide (x < 0) = false := by simpa using t1
          by_cases t2 : n < x
          · have HF := fun m => HN m (fun h => by have := HAT.out.1 h; omega)
            clear HN HY HAT HPV
            go_wp2
            go_ret
            exact (HF 0).out
          · have d2 : decide (n < x) = false := by simpa using t2
            by_cases t3 : y < 0
            · have HF := fun m => HN m (fun h => by have := HAT.out.1 h; omega)
              clear HN HY HAT HPV
              go_wp2
              go_ret
              exact (HF 0).out
            · have d3 : decide (y < 0) = false := by simpa using t3
              by_cases t4 : 1000 < y
              · have HF := fun m => HN m (fun h => by have := HAT.out.1 h; omega)
                clear HN HY HAT HPV
                go_wp2
                go_ret
                exact (HF 0).out
              · have d4 : decide (1000 < y) = false := by simpa using t4
                by_cases t5 : 0 < k
                · obtain ⟨j, rfl⟩ : ∃ j, k = j + 1 := ⟨k - 1, by omega⟩
                  have cp := HPV.out (by omega)
                  simp only [Nat.add_sub_cancel] at cp
                  have ij2 : (0 : Int) ≤ (j : Int) := by omega
                  have ij3 : (j : Int) < (len : Int) := by omega
                  have ij4 : (0 : Int) < ((j : Int) + 1) := by omega
                  by_cases t6 : x ≤ pv
                  · have HF := fun m => HN m (fun h => by have := (HAT.out.1 h).2.2.2.2 (by omega); omega)
                    clear HN HY HAT HPV
                    go_wp2_with (fail)
                    go_quiet (fail)
                    go_wp2
                    go_ret
                    exact (HF _).out
                  · have d6 : decide (x ≤ pv) = false := by simpa using t6
                    have HF := HY (HAT.out.2 ⟨by omega, by omega, by omega, by omega, fun _ => by omega⟩)
                    clear HN HY HAT HPV
                    go_wp2_with (fail)
                    go_quiet (fail)
                    go_wp2
                    go_roundw
                    case rel => exact ⟨j + 1 + 1, by omega, by go_num, below_drewN (HB.out.alloc (by omega) _) _, HF.out⟩
                    case measure => simp [intOf]; omega
                · obtain rfl : k = 0 := by omega
                  simp only [Nat.zero_mul, Nat.add_zero] at c0 c1
                  have HF := HY (HAT.out.2 ⟨by omega, by omega, by omega, by omega, fun _ => by omega⟩)
                  clear HN HY HAT HPV
                  go_wp2_with (fail)
                  go_quiet (fail)
                  go_wp2
                  go_roundw
                  case rel => exact ⟨0 + 1, by omega, by go_num, below_drewN (HB.out.alloc (by omega) _) _, HF.out⟩
                  case measure => simp [intOf]; omega
      · obtain rfl : k = len := by omega
        have HF : Hid (HasPost w r (.returned (.bool true)) wr) := ⟨by
          have : r = true := HR.out.2 ⟨by have := HLN.out; omega, fun i hi => hs i (by have := HLN.out; omega)⟩
          rw [this], hB⟩
        clear hs hb hB e0
        go_wp2
        go_ret
        exact HF.out
end Go.Proofs.YtafgmndlbbjphaaDoor
