/- What the reference's none answers of any parts: whether one can't stand in a normal form. -/
import Derived.Test.YtldalfikpklfdaaGreatLvAll2
namespace Go.Proofs.YtldalfikpklfdaaGreat
open Go.RowKit Go.Maps

set_option maxRecDepth 100000 in
set_option maxHeartbeats 2000000 in
theorem none_any (A : Option Addr) (ps : List (Int × Int)) (c : Nat) (w : World) (hm : ps.length ≤ maxLen) (h : Lev w w.heap.size A ps) (r : Bool) (hr : r = true ↔ ¬ ∀ p ∈ ps, okPart p) :
    Calls Tryz.prog 55 #[.agg #[.slice A ps.length c]] w (HasPost w r) := by
  unfold maxLen at hm
  have HB0 := Lib.hid ((Below.refl w.heap.size w).alloc (Nat.le_refl _) (.cells #[.slice A ps.length c] 24))
  have HR := Lib.hid hr
  have HL := Lib.hid h
  clear h hr
  go_enter Tryz.func55, Tryz.ntmps55
  go_wp2
  go_loopw [3] (fun i wr => ∃ k : Nat, k ≤ ps.length ∧ i = .int .i64 k ∧ Below (w.heap.size + 1) (w.alloc (.cells #[.slice A ps.length c] 24)) wr ∧ ∀ p ∈ ps.take k, okPart p) (fun i _ => ps.length - (intOf i).toNat)
  case atStart => exact ⟨0, Nat.zero_le _, rfl, Below.refl _ _, fun p hp => by simp at hp⟩
  case round =>
    obtain ⟨k, hk, rfl, hb, hs⟩ := hrel
    have hbz := hb.size
    simp at hbz
    have hB : Below w.heap.size w wr := HB0.out.trans (hb.mono (by omega))
    have e0 : wr.heap[w.heap.size]? = some (.cells #[.slice A ps.length c] 24 (0, 0)) := (hb.block _ (by omega)).trans (heap_alloc_new w _)
    have f0 := cell_of_one e0
    by_cases hlt : k < ps.length
    · obtain ⟨b, o, rfl, hbB, hcell⟩ := HL.out (by omega)
      have c0 := (hB.cell hbB).trans (hcell k hlt).1
      have c1 := (hB.cell hbB).trans (hcell k hlt).2
      obtain ⟨x, hx⟩ : ∃ x, x = (ps.getD k (0, 0)).1 := ⟨_, rfl⟩
      obtain ⟨y, hy⟩ : ∃ y, y = (ps.getD k (0, 0)).2 := ⟨_, rfl⟩
      rw [← hx] at c0
      rw [← hy] at c1
      have hq : ps[k] = (x, y) := by rw [hx, hy, List.getD_eq_getElem?_getD, List.getElem?_eq_getElem hlt]; rfl
      have HS := Lib.hid hs
      have HQ := Lib.hid hq
      have HB := Lib.hid hb
      have HBB := Lib.hid hB
      have ij0 : (0 : Int) ≤ (k : Int) := by omega
      have ij1 : (k : Int) < (ps.length : Int) := by omega
      have hbw : b < wr.heap.size := by omega
      have hww : w.heap.size < wr.heap.size := by omega
      have HN : ¬ okPart (x, y) → Hid (HasPost w r (.returned (.bool true)) (wr.alloc (.cells #[.int .i64 x, .int .i64 y] 47))) := fun hn => ⟨by
        have : r = true := HR.out.2 (fun hh => hn (hh (x, y) (by rw [← hq]; exact List.getElem_mem hlt)))
        rw [this], hB.alloc (by omega) _⟩
      have HY : okPart (x, y) → Hid (∀ p ∈ ps.take (k + 1), okPart p) := fun hy p hp => by
        rw [List.take_succ_eq_append_getElem hlt, List.mem_append] at hp
        rcases hp with hp | hp
        · exact hs p hp
        · simp at hp; rw [hp, hq]; exact hy
      have hn2 := two_new wr (.int .i64 x) (.int .i64 y) 47
      clear hs hq hx hy hcell hb hB e0
      by_cases t1 : x < 0
      · have HF := HN (fun h => by unfold okPart at h; omega)
        clear HN HY
        go_wp2
        go_ret
        exact HF.out
      · by_cases t2 : y < 0
        · have HF := HN (fun h => by unfold okPart at h; omega)
          clear HN HY
          go_wp2
          go_ret
          exact HF.out
        · by_cases t3 : 1048576 < x
          · have HF := HN (fun h => by unfold okPart at h; omega)
            clear HN HY
            go_wp2
            go_ret
            exact HF.out
          · by_cases t4 : 1048576 < y
            · have HF := HN (fun h => by unfold okPart at h; omega)
              clear HN HY
              go_wp2
              go_ret
              exact HF.out
            · have HF := HY (by unfold okPart; omega)
              clear HN HY
              go_wp2
              go_roundw
              case rel => exact ⟨k + 1, by omega, by go_num, HB.out.alloc (by omega) _, HF.out⟩
              case measure => simp [intOf]; omega
    · obtain rfl : k = ps.length := by omega
      have HF : Hid (HasPost w r (.returned (.bool false)) wr) := ⟨by
        have : r = false := by
          rcases r with _ | _
          · rfl
          · exact absurd (fun p hp => hs p (by simpa using hp)) (HR.out.1 rfl)
        rw [this], hB⟩
      clear hs hb hB e0
      go_wp2
      go_ret
      exact HF.out


end Go.Proofs.YtldalfikpklfdaaGreat
