/- What spandrelkit's bag keeps of rows of levels, and whether they lie apart: yes, where they are the call's own, no two in one block. -/
import Derived.Test.YtldalfikpklfdaaGreatLvSame
import Derived.Test.YtldalfikpklfdaaGreatLvFlatL
namespace Go.Proofs.YtldalfikpklfdaaGreat
open Go.RowKit Go.Maps
theorem below_none {w w' : World} (h : w.grownBy w' none) : Below w.heap.size w w' := ⟨h.os, h.tape, h.output, h.size, fun k hk => h.block k hk (by simp)⟩


theorem infoLimbs : (Tryz.prog.info? 115).map (fun i => (i.zero, i.size, i.bytes)) = some (some (.slice none 0 0), 1, 24) := by kernel_rfl
set_option maxRecDepth 100000 in
set_option maxHeartbeats 2000000 in
theorem flatLimbs_nil (w : World) : Calls Tryz.prog 59 #[.slice none 0 0] w (HasPost w true) := by
  obtain ⟨i0, hi, hz0, hz1, hz2⟩ := info_parts infoLimbs
  go_enter Tryz.func59, Tryz.ntmps59
  go_wp2
  go_loopw [3] (fun i wr => i = .int .i64 0 ∧ Below w.heap.size w wr) (fun _ _ => 0)
  case atStart => exact ⟨rfl, Below.refl _ _⟩
  case round =>
    obtain ⟨rfl, hb⟩ := hrel
    have HB := Lib.hid hb
    have hbz := hb.size
    clear hb
    go_wp2_with (at_make; refine wpList_make_full _ rfl _ _ 51 rfl wr.heap.size 115 i0 (.slice none 0 0) 1 Tryz.underlying51 hi hz0 hz1 .i64 .i64 0 0 0 rfl rfl rfl rfl ?b1 ?b2 ?b3 ?_)
    case b1 => rw [hz2]; omega
    case b2 => unfold maxLen; omega
    case b3 => exact Nat.le_refl _
    intro w1 ho1 hg1
    have HB1 : Hid (Below w.heap.size w w1) := HB.out.trans ((below_none hg1).mono hbz)
    clear ho1 hg1 HB
    go_wp2
    go_loopw [6] (fun i wr => i = .int .i64 0 ∧ Below w.heap.size w wr) (fun _ _ => 0)
    case atStart => exact ⟨rfl, HB1.out⟩
    clear HB1
    case round =>
      obtain ⟨rfl, hb⟩ := hrel
      have HB := Lib.hid hb
      clear hb
      go_wp2
      go_loopw [9] (fun i wr => i = .int .i64 0 ∧ Below w.heap.size w wr) (fun _ _ => 0)
      case atStart => exact ⟨rfl, HB.out⟩
      clear HB
      case round =>
        obtain ⟨rfl, hb⟩ := hrel
        have HB := Lib.hid hb
        clear hb
        go_wp2
        go_loopw [11] (fun i wr => i = .int .i64 0 ∧ Below w.heap.size w wr) (fun _ _ => 0)
        case atStart => exact ⟨rfl, HB.out⟩
        clear HB
        case round =>
          obtain ⟨rfl, hb⟩ := hrel
          have HB := Lib.hid hb
          clear hb
          go_wp2
          go_loopw [14] (fun i wr => i = .int .i64 0 ∧ Below w.heap.size w wr) (fun _ _ => 0)
          case atStart => exact ⟨rfl, HB.out⟩
          clear HB
          case round =>
            obtain ⟨rfl, hb⟩ := hrel
            have HF : Hid (HasPost w true (.returned (.bool true)) _) := ⟨rfl, hb⟩
            clear hb
            go_wp2
            go_ret
            exact HF.out

theorem infoWords : (Tryz.prog.info? 117).map (fun i => (i.zero, i.size, i.bytes)) = some (some (.slice none 0 0), 1, 24) := by kernel_rfl
set_option maxRecDepth 100000 in
set_option maxHeartbeats 2000000 in
theorem flatWords_nil (w : World) : Calls Tryz.prog 60 #[.slice none 0 0] w (HasPost w true) := by
  obtain ⟨i0, hi, hz0, hz1, hz2⟩ := info_parts infoWords
  go_enter Tryz.func60, Tryz.ntmps60
  go_wp2
  go_loopw [3] (fun i wr => i = .int .i64 0 ∧ Below w.heap.size w wr) (fun _ _ => 0)
  case atStart => exact ⟨rfl, Below.refl _ _⟩
  case round =>
    obtain ⟨rfl, hb⟩ := hrel
    have HB := Lib.hid hb
    have hbz := hb.size
    clear hb
    go_wp2_with (at_make; refine wpList_make_full _ rfl _ _ 52 rfl wr.heap.size 117 i0 (.slice none 0 0) 1 Tryz.underlying52 hi hz0 hz1 .i64 .i64 0 0 0 rfl rfl rfl rfl ?b1 ?b2 ?b3 ?_)
    case b1 => rw [hz2]; omega
    case b2 => unfold maxLen; omega
    case b3 => exact Nat.le_refl _
    intro w1 ho1 hg1
    have HB1 : Hid (Below w.heap.size w w1) := HB.out.trans ((below_none hg1).mono hbz)
    clear ho1 hg1 HB
    go_wp2
    go_loopw [6] (fun i wr => i = .int .i64 0 ∧ Below w.heap.size w wr) (fun _ _ => 0)
    case atStart => exact ⟨rfl, HB1.out⟩
    clear HB1
    case round =>
      obtain ⟨rfl, hb⟩ := hrel
      have HB := Lib.hid hb
      clear hb
      go_wp2
      go_loopw [9] (fun i wr => i = .int .i64 0 ∧ Below w.heap.size w wr) (fun _ _ => 0)
      case atStart => exact ⟨rfl, HB.out⟩
      clear HB
      case round =>
        obtain ⟨rfl, hb⟩ := hrel
        have HB := Lib.hid hb
        clear hb
        go_wp2
        go_loopw [11] (fun i wr => i = .int .i64 0 ∧ Below w.heap.size w wr) (fun _ _ => 0)
        case atStart => exact ⟨rfl, HB.out⟩
        clear HB
        case round =>
          obtain ⟨rfl, hb⟩ := hrel
          have HB := Lib.hid hb
          clear hb
          go_wp2
          go_loopw [14] (fun i wr => i = .int .i64 0 ∧ Below w.heap.size w wr) (fun _ _ => 0)
          case atStart => exact ⟨rfl, HB.out⟩
          clear HB
          case round =>
            obtain ⟨rfl, hb⟩ := hrel
            have HF : Hid (HasPost w true (.returned (.bool true)) _) := ⟨rfl, hb⟩
            clear hb
            go_wp2
            go_ret
            exact HF.out

theorem infoInts : (Tryz.prog.info? 33).map (fun i => (i.zero, i.size, i.bytes)) = some (some (.slice none 0 0), 1, 24) := by kernel_rfl
set_option maxRecDepth 100000 in
set_option maxHeartbeats 2000000 in
theorem flatInts_nil (w : World) : Calls Tryz.prog 61 #[.slice none 0 0] w (HasPost w true) := by
  obtain ⟨i0, hi, hz0, hz1, hz2⟩ := info_parts infoInts
  go_enter Tryz.func61, Tryz.ntmps61
  go_wp2
  go_loopw [3] (fun i wr => i = .int .i64 0 ∧ Below w.heap.size w wr) (fun _ _ => 0)
  case atStart => exact ⟨rfl, Below.refl _ _⟩
  case round =>
    obtain ⟨rfl, hb⟩ := hrel
    have HB := Lib.hid hb
    have hbz := hb.size
    clear hb
    go_wp2_with (at_make; refine wpList_make_full _ rfl _ _ 53 rfl wr.heap.size 33 i0 (.slice none 0 0) 1 Tryz.underlying53 hi hz0 hz1 .i64 .i64 0 0 0 rfl rfl rfl rfl ?b1 ?b2 ?b3 ?_)
    case b1 => rw [hz2]; omega
    case b2 => unfold maxLen; omega
    case b3 => exact Nat.le_refl _
    intro w1 ho1 hg1
    have HB1 : Hid (Below w.heap.size w w1) := HB.out.trans ((below_none hg1).mono hbz)
    clear ho1 hg1 HB
    go_wp2
    go_loopw [6] (fun i wr => i = .int .i64 0 ∧ Below w.heap.size w wr) (fun _ _ => 0)
    case atStart => exact ⟨rfl, HB1.out⟩
    clear HB1
    case round =>
      obtain ⟨rfl, hb⟩ := hrel
      have HB := Lib.hid hb
      clear hb
      go_wp2
      go_loopw [9] (fun i wr => i = .int .i64 0 ∧ Below w.heap.size w wr) (fun _ _ => 0)
      case atStart => exact ⟨rfl, HB.out⟩
      clear HB
      case round =>
        obtain ⟨rfl, hb⟩ := hrel
        have HB := Lib.hid hb
        clear hb
        go_wp2
        go_loopw [11] (fun i wr => i = .int .i64 0 ∧ Below w.heap.size w wr) (fun _ _ => 0)
        case atStart => exact ⟨rfl, HB.out⟩
        clear HB
        case round =>
          obtain ⟨rfl, hb⟩ := hrel
          have HB := Lib.hid hb
          clear hb
          go_wp2
          go_loopw [14] (fun i wr => i = .int .i64 0 ∧ Below w.heap.size w wr) (fun _ _ => 0)
          case atStart => exact ⟨rfl, HB.out⟩
          clear HB
          case round =>
            obtain ⟨rfl, hb⟩ := hrel
            have HF : Hid (HasPost w true (.returned (.bool true)) _) := ⟨rfl, hb⟩
            clear hb
            go_wp2
            go_ret
            exact HF.out

theorem infoLongs : (Tryz.prog.info? 119).map (fun i => (i.zero, i.size, i.bytes)) = some (some (.slice none 0 0), 1, 24) := by kernel_rfl
set_option maxRecDepth 100000 in
set_option maxHeartbeats 2000000 in
theorem flatLongs_nil (w : World) : Calls Tryz.prog 62 #[.slice none 0 0] w (HasPost w true) := by
  obtain ⟨i0, hi, hz0, hz1, hz2⟩ := info_parts infoLongs
  go_enter Tryz.func62, Tryz.ntmps62
  go_wp2
  go_loopw [3] (fun i wr => i = .int .i64 0 ∧ Below w.heap.size w wr) (fun _ _ => 0)
  case atStart => exact ⟨rfl, Below.refl _ _⟩
  case round =>
    obtain ⟨rfl, hb⟩ := hrel
    have HB := Lib.hid hb
    have hbz := hb.size
    clear hb
    go_wp2_with (at_make; refine wpList_make_full _ rfl _ _ 54 rfl wr.heap.size 119 i0 (.slice none 0 0) 1 Tryz.underlying54 hi hz0 hz1 .i64 .i64 0 0 0 rfl rfl rfl rfl ?b1 ?b2 ?b3 ?_)
    case b1 => rw [hz2]; omega
    case b2 => unfold maxLen; omega
    case b3 => exact Nat.le_refl _
    intro w1 ho1 hg1
    have HB1 : Hid (Below w.heap.size w w1) := HB.out.trans ((below_none hg1).mono hbz)
    clear ho1 hg1 HB
    go_wp2
    go_loopw [6] (fun i wr => i = .int .i64 0 ∧ Below w.heap.size w wr) (fun _ _ => 0)
    case atStart => exact ⟨rfl, HB1.out⟩
    clear HB1
    case round =>
      obtain ⟨rfl, hb⟩ := hrel
      have HB := Lib.hid hb
      clear hb
      go_wp2
      go_loopw [9] (fun i wr => i = .int .i64 0 ∧ Below w.heap.size w wr) (fun _ _ => 0)
      case atStart => exact ⟨rfl, HB.out⟩
      clear HB
      case round =>
        obtain ⟨rfl, hb⟩ := hrel
        have HB := Lib.hid hb
        clear hb
        go_wp2
        go_loopw [11] (fun i wr => i = .int .i64 0 ∧ Below w.heap.size w wr) (fun _ _ => 0)
        case atStart => exact ⟨rfl, HB.out⟩
        clear HB
        case round =>
          obtain ⟨rfl, hb⟩ := hrel
          have HB := Lib.hid hb
          clear hb
          go_wp2
          go_loopw [14] (fun i wr => i = .int .i64 0 ∧ Below w.heap.size w wr) (fun _ _ => 0)
          case atStart => exact ⟨rfl, HB.out⟩
          clear HB
          case round =>
            obtain ⟨rfl, hb⟩ := hrel
            have HF : Hid (HasPost w true (.returned (.bool true)) _) := ⟨rfl, hb⟩
            clear hb
            go_wp2
            go_ret
            exact HF.out

theorem infoTexts : (Tryz.prog.info? 120).map (fun i => (i.zero, i.size, i.bytes)) = some (some (.slice none 0 0), 1, 24) := by kernel_rfl
set_option maxRecDepth 100000 in
set_option maxHeartbeats 2000000 in
theorem flatTexts_nil (w : World) : Calls Tryz.prog 63 #[.slice none 0 0] w (HasPost w true) := by
  obtain ⟨i0, hi, hz0, hz1, hz2⟩ := info_parts infoTexts
  go_enter Tryz.func63, Tryz.ntmps63
  go_wp2
  go_loopw [3] (fun i wr => i = .int .i64 0 ∧ Below w.heap.size w wr) (fun _ _ => 0)
  case atStart => exact ⟨rfl, Below.refl _ _⟩
  case round =>
    obtain ⟨rfl, hb⟩ := hrel
    have HB := Lib.hid hb
    have hbz := hb.size
    clear hb
    go_wp2_with (at_make; refine wpList_make_full _ rfl _ _ 55 rfl wr.heap.size 120 i0 (.slice none 0 0) 1 Tryz.underlying55 hi hz0 hz1 .i64 .i64 0 0 0 rfl rfl rfl rfl ?b1 ?b2 ?b3 ?_)
    case b1 => rw [hz2]; omega
    case b2 => unfold maxLen; omega
    case b3 => exact Nat.le_refl _
    intro w1 ho1 hg1
    have HB1 : Hid (Below w.heap.size w w1) := HB.out.trans ((below_none hg1).mono hbz)
    clear ho1 hg1 HB
    go_wp2
    go_loopw [6] (fun i wr => i = .int .i64 0 ∧ Below w.heap.size w wr) (fun _ _ => 0)
    case atStart => exact ⟨rfl, HB1.out⟩
    clear HB1
    case round =>
      obtain ⟨rfl, hb⟩ := hrel
      have HB := Lib.hid hb
      clear hb
      go_wp2
      go_loopw [9] (fun i wr => i = .int .i64 0 ∧ Below w.heap.size w wr) (fun _ _ => 0)
      case atStart => exact ⟨rfl, HB.out⟩
      clear HB
      case round =>
        obtain ⟨rfl, hb⟩ := hrel
        have HB := Lib.hid hb
        clear hb
        go_wp2
        go_loopw [11] (fun i wr => i = .int .i64 0 ∧ Below w.heap.size w wr) (fun _ _ => 0)
        case atStart => exact ⟨rfl, HB.out⟩
        clear HB
        case round =>
          obtain ⟨rfl, hb⟩ := hrel
          have HB := Lib.hid hb
          clear hb
          go_wp2
          go_loopw [14] (fun i wr => i = .int .i64 0 ∧ Below w.heap.size w wr) (fun _ _ => 0)
          case atStart => exact ⟨rfl, HB.out⟩
          clear HB
          case round =>
            obtain ⟨rfl, hb⟩ := hrel
            have HF : Hid (HasPost w true (.returned (.bool true)) _) := ⟨rfl, hb⟩
            clear hb
            go_wp2
            go_ret
            exact HF.out

theorem infoBytes : (Tryz.prog.info? 122).map (fun i => (i.zero, i.size, i.bytes)) = some (some (.slice none 0 0), 1, 24) := by kernel_rfl
set_option maxRecDepth 100000 in
set_option maxHeartbeats 2000000 in
theorem flatBytes_nil (w : World) : Calls Tryz.prog 64 #[.slice none 0 0] w (HasPost w true) := by
  obtain ⟨i0, hi, hz0, hz1, hz2⟩ := info_parts infoBytes
  go_enter Tryz.func64, Tryz.ntmps64
  go_wp2
  go_loopw [3] (fun i wr => i = .int .i64 0 ∧ Below w.heap.size w wr) (fun _ _ => 0)
  case atStart => exact ⟨rfl, Below.refl _ _⟩
  case round =>
    obtain ⟨rfl, hb⟩ := hrel
    have HB := Lib.hid hb
    have hbz := hb.size
    clear hb
    go_wp2_with (at_make; refine wpList_make_full _ rfl _ _ 56 rfl wr.heap.size 122 i0 (.slice none 0 0) 1 Tryz.underlying56 hi hz0 hz1 .i64 .i64 0 0 0 rfl rfl rfl rfl ?b1 ?b2 ?b3 ?_)
    case b1 => rw [hz2]; omega
    case b2 => unfold maxLen; omega
    case b3 => exact Nat.le_refl _
    intro w1 ho1 hg1
    have HB1 : Hid (Below w.heap.size w w1) := HB.out.trans ((below_none hg1).mono hbz)
    clear ho1 hg1 HB
    go_wp2
    go_loopw [6] (fun i wr => i = .int .i64 0 ∧ Below w.heap.size w wr) (fun _ _ => 0)
    case atStart => exact ⟨rfl, HB1.out⟩
    clear HB1
    case round =>
      obtain ⟨rfl, hb⟩ := hrel
      have HB := Lib.hid hb
      clear hb
      go_wp2
      go_loopw [9] (fun i wr => i = .int .i64 0 ∧ Below w.heap.size w wr) (fun _ _ => 0)
      case atStart => exact ⟨rfl, HB.out⟩
      clear HB
      case round =>
        obtain ⟨rfl, hb⟩ := hrel
        have HB := Lib.hid hb
        clear hb
        go_wp2
        go_loopw [11] (fun i wr => i = .int .i64 0 ∧ Below w.heap.size w wr) (fun _ _ => 0)
        case atStart => exact ⟨rfl, HB.out⟩
        clear HB
        case round =>
          obtain ⟨rfl, hb⟩ := hrel
          have HB := Lib.hid hb
          clear hb
          go_wp2
          go_loopw [14] (fun i wr => i = .int .i64 0 ∧ Below w.heap.size w wr) (fun _ _ => 0)
          case atStart => exact ⟨rfl, HB.out⟩
          clear HB
          case round =>
            obtain ⟨rfl, hb⟩ := hrel
            have HF : Hid (HasPost w true (.returned (.bool true)) _) := ⟨rfl, hb⟩
            clear hb
            go_wp2
            go_ret
            exact HF.out

theorem infoTruths : (Tryz.prog.info? 124).map (fun i => (i.zero, i.size, i.bytes)) = some (some (.slice none 0 0), 1, 24) := by kernel_rfl
set_option maxRecDepth 100000 in
set_option maxHeartbeats 2000000 in
theorem flatTruths_nil (w : World) : Calls Tryz.prog 65 #[.slice none 0 0] w (HasPost w true) := by
  obtain ⟨i0, hi, hz0, hz1, hz2⟩ := info_parts infoTruths
  go_enter Tryz.func65, Tryz.ntmps65
  go_wp2
  go_loopw [3] (fun i wr => i = .int .i64 0 ∧ Below w.heap.size w wr) (fun _ _ => 0)
  case atStart => exact ⟨rfl, Below.refl _ _⟩
  case round =>
    obtain ⟨rfl, hb⟩ := hrel
    have HB := Lib.hid hb
    have hbz := hb.size
    clear hb
    go_wp2_with (at_make; refine wpList_make_full _ rfl _ _ 57 rfl wr.heap.size 124 i0 (.slice none 0 0) 1 Tryz.underlying57 hi hz0 hz1 .i64 .i64 0 0 0 rfl rfl rfl rfl ?b1 ?b2 ?b3 ?_)
    case b1 => rw [hz2]; omega
    case b2 => unfold maxLen; omega
    case b3 => exact Nat.le_refl _
    intro w1 ho1 hg1
    have HB1 : Hid (Below w.heap.size w w1) := HB.out.trans ((below_none hg1).mono hbz)
    clear ho1 hg1 HB
    go_wp2
    go_loopw [6] (fun i wr => i = .int .i64 0 ∧ Below w.heap.size w wr) (fun _ _ => 0)
    case atStart => exact ⟨rfl, HB1.out⟩
    clear HB1
    case round =>
      obtain ⟨rfl, hb⟩ := hrel
      have HB := Lib.hid hb
      clear hb
      go_wp2
      go_loopw [9] (fun i wr => i = .int .i64 0 ∧ Below w.heap.size w wr) (fun _ _ => 0)
      case atStart => exact ⟨rfl, HB.out⟩
      clear HB
      case round =>
        obtain ⟨rfl, hb⟩ := hrel
        have HB := Lib.hid hb
        clear hb
        go_wp2
        go_loopw [11] (fun i wr => i = .int .i64 0 ∧ Below w.heap.size w wr) (fun _ _ => 0)
        case atStart => exact ⟨rfl, HB.out⟩
        clear HB
        case round =>
          obtain ⟨rfl, hb⟩ := hrel
          have HB := Lib.hid hb
          clear hb
          go_wp2
          go_loopw [14] (fun i wr => i = .int .i64 0 ∧ Below w.heap.size w wr) (fun _ _ => 0)
          case atStart => exact ⟨rfl, HB.out⟩
          clear HB
          case round =>
            obtain ⟨rfl, hb⟩ := hrel
            have HF : Hid (HasPost w true (.returned (.bool true)) _) := ⟨rfl, hb⟩
            clear hb
            go_wp2
            go_ret
            exact HF.out

theorem infoParts : (Tryz.prog.info? 22).map (fun i => (i.zero, i.size, i.bytes)) = some (some (.slice none 0 0), 1, 24) := by kernel_rfl
set_option maxRecDepth 100000 in
set_option maxHeartbeats 2000000 in
theorem flatParts_nil (w : World) : Calls Tryz.prog 66 #[.slice none 0 0] w (HasPost w true) := by
  obtain ⟨i0, hi, hz0, hz1, hz2⟩ := info_parts infoParts
  go_enter Tryz.func66, Tryz.ntmps66
  go_wp2
  go_loopw [3] (fun i wr => i = .int .i64 0 ∧ Below w.heap.size w wr) (fun _ _ => 0)
  case atStart => exact ⟨rfl, Below.refl _ _⟩
  case round =>
    obtain ⟨rfl, hb⟩ := hrel
    have HB := Lib.hid hb
    have hbz := hb.size
    clear hb
    go_wp2_with (at_make; refine wpList_make_full _ rfl _ _ 58 rfl wr.heap.size 22 i0 (.slice none 0 0) 1 Tryz.underlying58 hi hz0 hz1 .i64 .i64 0 0 0 rfl rfl rfl rfl ?b1 ?b2 ?b3 ?_)
    case b1 => rw [hz2]; omega
    case b2 => unfold maxLen; omega
    case b3 => exact Nat.le_refl _
    intro w1 ho1 hg1
    have HB1 : Hid (Below w.heap.size w w1) := HB.out.trans ((below_none hg1).mono hbz)
    clear ho1 hg1 HB
    go_wp2
    go_loopw [6] (fun i wr => i = .int .i64 0 ∧ Below w.heap.size w wr) (fun _ _ => 0)
    case atStart => exact ⟨rfl, HB1.out⟩
    clear HB1
    case round =>
      obtain ⟨rfl, hb⟩ := hrel
      have HB := Lib.hid hb
      clear hb
      go_wp2
      go_loopw [9] (fun i wr => i = .int .i64 0 ∧ Below w.heap.size w wr) (fun _ _ => 0)
      case atStart => exact ⟨rfl, HB.out⟩
      clear HB
      case round =>
        obtain ⟨rfl, hb⟩ := hrel
        have HB := Lib.hid hb
        clear hb
        go_wp2
        go_loopw [11] (fun i wr => i = .int .i64 0 ∧ Below w.heap.size w wr) (fun _ _ => 0)
        case atStart => exact ⟨rfl, HB.out⟩
        clear HB
        case round =>
          obtain ⟨rfl, hb⟩ := hrel
          have HB := Lib.hid hb
          clear hb
          go_wp2
          go_loopw [14] (fun i wr => i = .int .i64 0 ∧ Below w.heap.size w wr) (fun _ _ => 0)
          case atStart => exact ⟨rfl, HB.out⟩
          clear HB
          case round =>
            obtain ⟨rfl, hb⟩ := hrel
            have HF : Hid (HasPost w true (.returned (.bool true)) _) := ⟨rfl, hb⟩
            clear hb
            go_wp2
            go_ret
            exact HF.out

theorem infoLevels : (Tryz.prog.info? 31).map (fun i => (i.zero, i.size, i.bytes)) = some (some (.slice none 0 0), 1, 24) := by kernel_rfl
set_option maxRecDepth 100000 in
set_option maxHeartbeats 2000000 in
theorem flatLevels_nil (w : World) : Calls Tryz.prog 67 #[.slice none 0 0] w (HasPost w true) := by
  obtain ⟨i0, hi, hz0, hz1, hz2⟩ := info_parts infoLevels
  go_enter Tryz.func67, Tryz.ntmps67
  go_wp2
  go_loopw [3] (fun i wr => i = .int .i64 0 ∧ Below w.heap.size w wr) (fun _ _ => 0)
  case atStart => exact ⟨rfl, Below.refl _ _⟩
  case round =>
    obtain ⟨rfl, hb⟩ := hrel
    have HB := Lib.hid hb
    have hbz := hb.size
    clear hb
    go_wp2_with (at_make; refine wpList_make_full _ rfl _ _ 32 rfl wr.heap.size 31 i0 (.slice none 0 0) 1 Tryz.underlying32 hi hz0 hz1 .i64 .i64 0 0 0 rfl rfl rfl rfl ?b1 ?b2 ?b3 ?_)
    case b1 => rw [hz2]; omega
    case b2 => unfold maxLen; omega
    case b3 => exact Nat.le_refl _
    intro w1 ho1 hg1
    have HB1 : Hid (Below w.heap.size w w1) := HB.out.trans ((below_none hg1).mono hbz)
    clear ho1 hg1 HB
    go_wp2
    go_loopw [6] (fun i wr => i = .int .i64 0 ∧ Below w.heap.size w wr) (fun _ _ => 0)
    case atStart => exact ⟨rfl, HB1.out⟩
    clear HB1
    case round =>
      obtain ⟨rfl, hb⟩ := hrel
      have HB := Lib.hid hb
      clear hb
      go_wp2
      go_loopw [9] (fun i wr => i = .int .i64 0 ∧ Below w.heap.size w wr) (fun _ _ => 0)
      case atStart => exact ⟨rfl, HB.out⟩
      clear HB
      case round =>
        obtain ⟨rfl, hb⟩ := hrel
        have HB := Lib.hid hb
        clear hb
        go_wp2
        go_loopw [11] (fun i wr => i = .int .i64 0 ∧ Below w.heap.size w wr) (fun _ _ => 0)
        case atStart => exact ⟨rfl, HB.out⟩
        clear HB
        case round =>
          obtain ⟨rfl, hb⟩ := hrel
          have HB := Lib.hid hb
          clear hb
          go_wp2
          go_loopw [14] (fun i wr => i = .int .i64 0 ∧ Below w.heap.size w wr) (fun _ _ => 0)
          case atStart => exact ⟨rfl, HB.out⟩
          clear HB
          case round =>
            obtain ⟨rfl, hb⟩ := hrel
            have HF : Hid (HasPost w true (.returned (.bool true)) _) := ⟨rfl, hb⟩
            clear hb
            go_wp2
            go_ret
            exact HF.out

theorem infoTerms : (Tryz.prog.info? 125).map (fun i => (i.zero, i.size, i.bytes)) = some (some (.slice none 0 0), 1, 24) := by kernel_rfl
set_option maxRecDepth 100000 in
set_option maxHeartbeats 2000000 in
theorem flatTerms_nil (w : World) : Calls Tryz.prog 68 #[.slice none 0 0] w (HasPost w true) := by
  obtain ⟨i0, hi, hz0, hz1, hz2⟩ := info_parts infoTerms
  go_enter Tryz.func68, Tryz.ntmps68
  go_wp2
  go_loopw [3] (fun i wr => i = .int .i64 0 ∧ Below w.heap.size w wr) (fun _ _ => 0)
  case atStart => exact ⟨rfl, Below.refl _ _⟩
  case round =>
    obtain ⟨rfl, hb⟩ := hrel
    have HB := Lib.hid hb
    have hbz := hb.size
    clear hb
    go_wp2_with (at_make; refine wpList_make_full _ rfl _ _ 59 rfl wr.heap.size 125 i0 (.slice none 0 0) 1 Tryz.underlying59 hi hz0 hz1 .i64 .i64 0 0 0 rfl rfl rfl rfl ?b1 ?b2 ?b3 ?_)
    case b1 => rw [hz2]; omega
    case b2 => unfold maxLen; omega
    case b3 => exact Nat.le_refl _
    intro w1 ho1 hg1
    have HB1 : Hid (Below w.heap.size w w1) := HB.out.trans ((below_none hg1).mono hbz)
    clear ho1 hg1 HB
    go_wp2
    go_loopw [6] (fun i wr => i = .int .i64 0 ∧ Below w.heap.size w wr) (fun _ _ => 0)
    case atStart => exact ⟨rfl, HB1.out⟩
    clear HB1
    case round =>
      obtain ⟨rfl, hb⟩ := hrel
      have HB := Lib.hid hb
      clear hb
      go_wp2
      go_loopw [9] (fun i wr => i = .int .i64 0 ∧ Below w.heap.size w wr) (fun _ _ => 0)
      case atStart => exact ⟨rfl, HB.out⟩
      clear HB
      case round =>
        obtain ⟨rfl, hb⟩ := hrel
        have HB := Lib.hid hb
        clear hb
        go_wp2
        go_loopw [11] (fun i wr => i = .int .i64 0 ∧ Below w.heap.size w wr) (fun _ _ => 0)
        case atStart => exact ⟨rfl, HB.out⟩
        clear HB
        case round =>
          obtain ⟨rfl, hb⟩ := hrel
          have HB := Lib.hid hb
          clear hb
          go_wp2
          go_loopw [14] (fun i wr => i = .int .i64 0 ∧ Below w.heap.size w wr) (fun _ _ => 0)
          case atStart => exact ⟨rfl, HB.out⟩
          clear HB
          case round =>
            obtain ⟨rfl, hb⟩ := hrel
            have HF : Hid (HasPost w true (.returned (.bool true)) _) := ⟨rfl, hb⟩
            clear hb
            go_wp2
            go_ret
            exact HF.out

theorem infoMembers : (Tryz.prog.info? 131).map (fun i => (i.zero, i.size, i.bytes)) = some (some (.slice none 0 0), 1, 24) := by kernel_rfl
set_option maxRecDepth 100000 in
set_option maxHeartbeats 2000000 in
theorem flatMembers_nil (w : World) : Calls Tryz.prog 69 #[.slice none 0 0] w (HasPost w true) := by
  obtain ⟨i0, hi, hz0, hz1, hz2⟩ := info_parts infoMembers
  go_enter Tryz.func69, Tryz.ntmps69
  go_wp2
  go_loopw [3] (fun i wr => i = .int .i64 0 ∧ Below w.heap.size w wr) (fun _ _ => 0)
  case atStart => exact ⟨rfl, Below.refl _ _⟩
  case round =>
    obtain ⟨rfl, hb⟩ := hrel
    have HB := Lib.hid hb
    have hbz := hb.size
    clear hb
    go_wp2_with (at_make; refine wpList_make_full _ rfl _ _ 60 rfl wr.heap.size 131 i0 (.slice none 0 0) 1 Tryz.underlying60 hi hz0 hz1 .i64 .i64 0 0 0 rfl rfl rfl rfl ?b1 ?b2 ?b3 ?_)
    case b1 => rw [hz2]; omega
    case b2 => unfold maxLen; omega
    case b3 => exact Nat.le_refl _
    intro w1 ho1 hg1
    have HB1 : Hid (Below w.heap.size w w1) := HB.out.trans ((below_none hg1).mono hbz)
    clear ho1 hg1 HB
    go_wp2
    go_loopw [6] (fun i wr => i = .int .i64 0 ∧ Below w.heap.size w wr) (fun _ _ => 0)
    case atStart => exact ⟨rfl, HB1.out⟩
    clear HB1
    case round =>
      obtain ⟨rfl, hb⟩ := hrel
      have HB := Lib.hid hb
      clear hb
      go_wp2
      go_loopw [9] (fun i wr => i = .int .i64 0 ∧ Below w.heap.size w wr) (fun _ _ => 0)
      case atStart => exact ⟨rfl, HB.out⟩
      clear HB
      case round =>
        obtain ⟨rfl, hb⟩ := hrel
        have HB := Lib.hid hb
        clear hb
        go_wp2
        go_loopw [11] (fun i wr => i = .int .i64 0 ∧ Below w.heap.size w wr) (fun _ _ => 0)
        case atStart => exact ⟨rfl, HB.out⟩
        clear HB
        case round =>
          obtain ⟨rfl, hb⟩ := hrel
          have HB := Lib.hid hb
          clear hb
          go_wp2
          go_loopw [14] (fun i wr => i = .int .i64 0 ∧ Below w.heap.size w wr) (fun _ _ => 0)
          case atStart => exact ⟨rfl, HB.out⟩
          clear HB
          case round =>
            obtain ⟨rfl, hb⟩ := hrel
            have HF : Hid (HasPost w true (.returned (.bool true)) _) := ⟨rfl, hb⟩
            clear hb
            go_wp2
            go_ret
            exact HF.out

theorem infoCtors : (Tryz.prog.info? 136).map (fun i => (i.zero, i.size, i.bytes)) = some (some (.slice none 0 0), 1, 24) := by kernel_rfl
set_option maxRecDepth 100000 in
set_option maxHeartbeats 2000000 in
theorem flatCtors_nil (w : World) : Calls Tryz.prog 70 #[.slice none 0 0] w (HasPost w true) := by
  obtain ⟨i0, hi, hz0, hz1, hz2⟩ := info_parts infoCtors
  go_enter Tryz.func70, Tryz.ntmps70
  go_wp2
  go_loopw [3] (fun i wr => i = .int .i64 0 ∧ Below w.heap.size w wr) (fun _ _ => 0)
  case atStart => exact ⟨rfl, Below.refl _ _⟩
  case round =>
    obtain ⟨rfl, hb⟩ := hrel
    have HB := Lib.hid hb
    have hbz := hb.size
    clear hb
    go_wp2_with (at_make; refine wpList_make_full _ rfl _ _ 61 rfl wr.heap.size 136 i0 (.slice none 0 0) 1 Tryz.underlying61 hi hz0 hz1 .i64 .i64 0 0 0 rfl rfl rfl rfl ?b1 ?b2 ?b3 ?_)
    case b1 => rw [hz2]; omega
    case b2 => unfold maxLen; omega
    case b3 => exact Nat.le_refl _
    intro w1 ho1 hg1
    have HB1 : Hid (Below w.heap.size w w1) := HB.out.trans ((below_none hg1).mono hbz)
    clear ho1 hg1 HB
    go_wp2
    go_loopw [6] (fun i wr => i = .int .i64 0 ∧ Below w.heap.size w wr) (fun _ _ => 0)
    case atStart => exact ⟨rfl, HB1.out⟩
    clear HB1
    case round =>
      obtain ⟨rfl, hb⟩ := hrel
      have HB := Lib.hid hb
      clear hb
      go_wp2
      go_loopw [9] (fun i wr => i = .int .i64 0 ∧ Below w.heap.size w wr) (fun _ _ => 0)
      case atStart => exact ⟨rfl, HB.out⟩
      clear HB
      case round =>
        obtain ⟨rfl, hb⟩ := hrel
        have HB := Lib.hid hb
        clear hb
        go_wp2
        go_loopw [11] (fun i wr => i = .int .i64 0 ∧ Below w.heap.size w wr) (fun _ _ => 0)
        case atStart => exact ⟨rfl, HB.out⟩
        clear HB
        case round =>
          obtain ⟨rfl, hb⟩ := hrel
          have HB := Lib.hid hb
          clear hb
          go_wp2
          go_loopw [14] (fun i wr => i = .int .i64 0 ∧ Below w.heap.size w wr) (fun _ _ => 0)
          case atStart => exact ⟨rfl, HB.out⟩
          clear HB
          case round =>
            obtain ⟨rfl, hb⟩ := hrel
            have HF : Hid (HasPost w true (.returned (.bool true)) _) := ⟨rfl, hb⟩
            clear hb
            go_wp2
            go_ret
            exact HF.out

theorem infoDecls : (Tryz.prog.info? 141).map (fun i => (i.zero, i.size, i.bytes)) = some (some (.slice none 0 0), 1, 24) := by kernel_rfl
set_option maxRecDepth 100000 in
set_option maxHeartbeats 2000000 in
theorem flatDecls_nil (w : World) : Calls Tryz.prog 71 #[.slice none 0 0] w (HasPost w true) := by
  obtain ⟨i0, hi, hz0, hz1, hz2⟩ := info_parts infoDecls
  go_enter Tryz.func71, Tryz.ntmps71
  go_wp2
  go_loopw [3] (fun i wr => i = .int .i64 0 ∧ Below w.heap.size w wr) (fun _ _ => 0)
  case atStart => exact ⟨rfl, Below.refl _ _⟩
  case round =>
    obtain ⟨rfl, hb⟩ := hrel
    have HB := Lib.hid hb
    have hbz := hb.size
    clear hb
    go_wp2_with (at_make; refine wpList_make_full _ rfl _ _ 62 rfl wr.heap.size 141 i0 (.slice none 0 0) 1 Tryz.underlying62 hi hz0 hz1 .i64 .i64 0 0 0 rfl rfl rfl rfl ?b1 ?b2 ?b3 ?_)
    case b1 => rw [hz2]; omega
    case b2 => unfold maxLen; omega
    case b3 => exact Nat.le_refl _
    intro w1 ho1 hg1
    have HB1 : Hid (Below w.heap.size w w1) := HB.out.trans ((below_none hg1).mono hbz)
    clear ho1 hg1 HB
    go_wp2
    go_loopw [6] (fun i wr => i = .int .i64 0 ∧ Below w.heap.size w wr) (fun _ _ => 0)
    case atStart => exact ⟨rfl, HB1.out⟩
    clear HB1
    case round =>
      obtain ⟨rfl, hb⟩ := hrel
      have HB := Lib.hid hb
      clear hb
      go_wp2
      go_loopw [9] (fun i wr => i = .int .i64 0 ∧ Below w.heap.size w wr) (fun _ _ => 0)
      case atStart => exact ⟨rfl, HB.out⟩
      clear HB
      case round =>
        obtain ⟨rfl, hb⟩ := hrel
        have HB := Lib.hid hb
        clear hb
        go_wp2
        go_loopw [11] (fun i wr => i = .int .i64 0 ∧ Below w.heap.size w wr) (fun _ _ => 0)
        case atStart => exact ⟨rfl, HB.out⟩
        clear HB
        case round =>
          obtain ⟨rfl, hb⟩ := hrel
          have HB := Lib.hid hb
          clear hb
          go_wp2
          go_loopw [14] (fun i wr => i = .int .i64 0 ∧ Below w.heap.size w wr) (fun _ _ => 0)
          case atStart => exact ⟨rfl, HB.out⟩
          clear HB
          case round =>
            obtain ⟨rfl, hb⟩ := hrel
            have HF : Hid (HasPost w true (.returned (.bool true)) _) := ⟨rfl, hb⟩
            clear hb
            go_wp2
            go_ret
            exact HF.out

theorem infoArgs : (Tryz.prog.info? 147).map (fun i => (i.zero, i.size, i.bytes)) = some (some (.slice none 0 0), 1, 24) := by kernel_rfl
set_option maxRecDepth 100000 in
set_option maxHeartbeats 2000000 in
theorem flatArgs_nil (w : World) : Calls Tryz.prog 72 #[.slice none 0 0] w (HasPost w true) := by
  obtain ⟨i0, hi, hz0, hz1, hz2⟩ := info_parts infoArgs
  go_enter Tryz.func72, Tryz.ntmps72
  go_wp2
  go_loopw [3] (fun i wr => i = .int .i64 0 ∧ Below w.heap.size w wr) (fun _ _ => 0)
  case atStart => exact ⟨rfl, Below.refl _ _⟩
  case round =>
    obtain ⟨rfl, hb⟩ := hrel
    have HB := Lib.hid hb
    have hbz := hb.size
    clear hb
    go_wp2_with (at_make; refine wpList_make_full _ rfl _ _ 63 rfl wr.heap.size 147 i0 (.slice none 0 0) 1 Tryz.underlying63 hi hz0 hz1 .i64 .i64 0 0 0 rfl rfl rfl rfl ?b1 ?b2 ?b3 ?_)
    case b1 => rw [hz2]; omega
    case b2 => unfold maxLen; omega
    case b3 => exact Nat.le_refl _
    intro w1 ho1 hg1
    have HB1 : Hid (Below w.heap.size w w1) := HB.out.trans ((below_none hg1).mono hbz)
    clear ho1 hg1 HB
    go_wp2
    go_loopw [6] (fun i wr => i = .int .i64 0 ∧ Below w.heap.size w wr) (fun _ _ => 0)
    case atStart => exact ⟨rfl, HB1.out⟩
    clear HB1
    case round =>
      obtain ⟨rfl, hb⟩ := hrel
      have HB := Lib.hid hb
      clear hb
      go_wp2
      go_loopw [9] (fun i wr => i = .int .i64 0 ∧ Below w.heap.size w wr) (fun _ _ => 0)
      case atStart => exact ⟨rfl, HB.out⟩
      clear HB
      case round =>
        obtain ⟨rfl, hb⟩ := hrel
        have HB := Lib.hid hb
        clear hb
        go_wp2
        go_loopw [11] (fun i wr => i = .int .i64 0 ∧ Below w.heap.size w wr) (fun _ _ => 0)
        case atStart => exact ⟨rfl, HB.out⟩
        clear HB
        case round =>
          obtain ⟨rfl, hb⟩ := hrel
          have HB := Lib.hid hb
          clear hb
          go_wp2
          go_loopw [14] (fun i wr => i = .int .i64 0 ∧ Below w.heap.size w wr) (fun _ _ => 0)
          case atStart => exact ⟨rfl, HB.out⟩
          clear HB
          case round =>
            obtain ⟨rfl, hb⟩ := hrel
            have HF : Hid (HasPost w true (.returned (.bool true)) _) := ⟨rfl, hb⟩
            clear hb
            go_wp2
            go_ret
            exact HF.out

theorem infoRules : (Tryz.prog.info? 152).map (fun i => (i.zero, i.size, i.bytes)) = some (some (.slice none 0 0), 1, 24) := by kernel_rfl
set_option maxRecDepth 100000 in
set_option maxHeartbeats 2000000 in
theorem flatRules_nil (w : World) : Calls Tryz.prog 73 #[.slice none 0 0] w (HasPost w true) := by
  obtain ⟨i0, hi, hz0, hz1, hz2⟩ := info_parts infoRules
  go_enter Tryz.func73, Tryz.ntmps73
  go_wp2
  go_loopw [3] (fun i wr => i = .int .i64 0 ∧ Below w.heap.size w wr) (fun _ _ => 0)
  case atStart => exact ⟨rfl, Below.refl _ _⟩
  case round =>
    obtain ⟨rfl, hb⟩ := hrel
    have HB := Lib.hid hb
    have hbz := hb.size
    clear hb
    go_wp2_with (at_make; refine wpList_make_full _ rfl _ _ 64 rfl wr.heap.size 152 i0 (.slice none 0 0) 1 Tryz.underlying64 hi hz0 hz1 .i64 .i64 0 0 0 rfl rfl rfl rfl ?b1 ?b2 ?b3 ?_)
    case b1 => rw [hz2]; omega
    case b2 => unfold maxLen; omega
    case b3 => exact Nat.le_refl _
    intro w1 ho1 hg1
    have HB1 : Hid (Below w.heap.size w w1) := HB.out.trans ((below_none hg1).mono hbz)
    clear ho1 hg1 HB
    go_wp2
    go_loopw [6] (fun i wr => i = .int .i64 0 ∧ Below w.heap.size w wr) (fun _ _ => 0)
    case atStart => exact ⟨rfl, HB1.out⟩
    clear HB1
    case round =>
      obtain ⟨rfl, hb⟩ := hrel
      have HB := Lib.hid hb
      clear hb
      go_wp2
      go_loopw [9] (fun i wr => i = .int .i64 0 ∧ Below w.heap.size w wr) (fun _ _ => 0)
      case atStart => exact ⟨rfl, HB.out⟩
      clear HB
      case round =>
        obtain ⟨rfl, hb⟩ := hrel
        have HB := Lib.hid hb
        clear hb
        go_wp2
        go_loopw [11] (fun i wr => i = .int .i64 0 ∧ Below w.heap.size w wr) (fun _ _ => 0)
        case atStart => exact ⟨rfl, HB.out⟩
        clear HB
        case round =>
          obtain ⟨rfl, hb⟩ := hrel
          have HB := Lib.hid hb
          clear hb
          go_wp2
          go_loopw [14] (fun i wr => i = .int .i64 0 ∧ Below w.heap.size w wr) (fun _ _ => 0)
          case atStart => exact ⟨rfl, HB.out⟩
          clear HB
          case round =>
            obtain ⟨rfl, hb⟩ := hrel
            have HF : Hid (HasPost w true (.returned (.bool true)) _) := ⟨rfl, hb⟩
            clear hb
            go_wp2
            go_ret
            exact HF.out

theorem infoCores : (Tryz.prog.info? 157).map (fun i => (i.zero, i.size, i.bytes)) = some (some (.slice none 0 0), 1, 24) := by kernel_rfl
set_option maxRecDepth 100000 in
set_option maxHeartbeats 2000000 in
theorem flatCores_nil (w : World) : Calls Tryz.prog 74 #[.slice none 0 0] w (HasPost w true) := by
  obtain ⟨i0, hi, hz0, hz1, hz2⟩ := info_parts infoCores
  go_enter Tryz.func74, Tryz.ntmps74
  go_wp2
  go_loopw [3] (fun i wr => i = .int .i64 0 ∧ Below w.heap.size w wr) (fun _ _ => 0)
  case atStart => exact ⟨rfl, Below.refl _ _⟩
  case round =>
    obtain ⟨rfl, hb⟩ := hrel
    have HB := Lib.hid hb
    have hbz := hb.size
    clear hb
    go_wp2_with (at_make; refine wpList_make_full _ rfl _ _ 65 rfl wr.heap.size 157 i0 (.slice none 0 0) 1 Tryz.underlying65 hi hz0 hz1 .i64 .i64 0 0 0 rfl rfl rfl rfl ?b1 ?b2 ?b3 ?_)
    case b1 => rw [hz2]; omega
    case b2 => unfold maxLen; omega
    case b3 => exact Nat.le_refl _
    intro w1 ho1 hg1
    have HB1 : Hid (Below w.heap.size w w1) := HB.out.trans ((below_none hg1).mono hbz)
    clear ho1 hg1 HB
    go_wp2
    go_loopw [6] (fun i wr => i = .int .i64 0 ∧ Below w.heap.size w wr) (fun _ _ => 0)
    case atStart => exact ⟨rfl, HB1.out⟩
    clear HB1
    case round =>
      obtain ⟨rfl, hb⟩ := hrel
      have HB := Lib.hid hb
      clear hb
      go_wp2
      go_loopw [9] (fun i wr => i = .int .i64 0 ∧ Below w.heap.size w wr) (fun _ _ => 0)
      case atStart => exact ⟨rfl, HB.out⟩
      clear HB
      case round =>
        obtain ⟨rfl, hb⟩ := hrel
        have HB := Lib.hid hb
        clear hb
        go_wp2
        go_loopw [11] (fun i wr => i = .int .i64 0 ∧ Below w.heap.size w wr) (fun _ _ => 0)
        case atStart => exact ⟨rfl, HB.out⟩
        clear HB
        case round =>
          obtain ⟨rfl, hb⟩ := hrel
          have HB := Lib.hid hb
          clear hb
          go_wp2
          go_loopw [14] (fun i wr => i = .int .i64 0 ∧ Below w.heap.size w wr) (fun _ _ => 0)
          case atStart => exact ⟨rfl, HB.out⟩
          clear HB
          case round =>
            obtain ⟨rfl, hb⟩ := hrel
            have HF : Hid (HasPost w true (.returned (.bool true)) _) := ⟨rfl, hb⟩
            clear hb
            go_wp2
            go_ret
            exact HF.out

theorem infoEnvs : (Tryz.prog.info? 162).map (fun i => (i.zero, i.size, i.bytes)) = some (some (.slice none 0 0), 1, 24) := by kernel_rfl
set_option maxRecDepth 100000 in
set_option maxHeartbeats 2000000 in
theorem flatEnvs_nil (w : World) : Calls Tryz.prog 75 #[.slice none 0 0] w (HasPost w true) := by
  obtain ⟨i0, hi, hz0, hz1, hz2⟩ := info_parts infoEnvs
  go_enter Tryz.func75, Tryz.ntmps75
  go_wp2
  go_loopw [3] (fun i wr => i = .int .i64 0 ∧ Below w.heap.size w wr) (fun _ _ => 0)
  case atStart => exact ⟨rfl, Below.refl _ _⟩
  case round =>
    obtain ⟨rfl, hb⟩ := hrel
    have HB := Lib.hid hb
    have hbz := hb.size
    clear hb
    go_wp2_with (at_make; refine wpList_make_full _ rfl _ _ 66 rfl wr.heap.size 162 i0 (.slice none 0 0) 1 Tryz.underlying66 hi hz0 hz1 .i64 .i64 0 0 0 rfl rfl rfl rfl ?b1 ?b2 ?b3 ?_)
    case b1 => rw [hz2]; omega
    case b2 => unfold maxLen; omega
    case b3 => exact Nat.le_refl _
    intro w1 ho1 hg1
    have HB1 : Hid (Below w.heap.size w w1) := HB.out.trans ((below_none hg1).mono hbz)
    clear ho1 hg1 HB
    go_wp2
    go_loopw [6] (fun i wr => i = .int .i64 0 ∧ Below w.heap.size w wr) (fun _ _ => 0)
    case atStart => exact ⟨rfl, HB1.out⟩
    clear HB1
    case round =>
      obtain ⟨rfl, hb⟩ := hrel
      have HB := Lib.hid hb
      clear hb
      go_wp2
      go_loopw [9] (fun i wr => i = .int .i64 0 ∧ Below w.heap.size w wr) (fun _ _ => 0)
      case atStart => exact ⟨rfl, HB.out⟩
      clear HB
      case round =>
        obtain ⟨rfl, hb⟩ := hrel
        have HB := Lib.hid hb
        clear hb
        go_wp2
        go_loopw [11] (fun i wr => i = .int .i64 0 ∧ Below w.heap.size w wr) (fun _ _ => 0)
        case atStart => exact ⟨rfl, HB.out⟩
        clear HB
        case round =>
          obtain ⟨rfl, hb⟩ := hrel
          have HB := Lib.hid hb
          clear hb
          go_wp2
          go_loopw [14] (fun i wr => i = .int .i64 0 ∧ Below w.heap.size w wr) (fun _ _ => 0)
          case atStart => exact ⟨rfl, HB.out⟩
          clear HB
          case round =>
            obtain ⟨rfl, hb⟩ := hrel
            have HF : Hid (HasPost w true (.returned (.bool true)) _) := ⟨rfl, hb⟩
            clear hb
            go_wp2
            go_ret
            exact HF.out
end Go.Proofs.YtldalfikpklfdaaGreat
namespace Go.Proofs.YtldalfikpklfdaaGreat
open Go.RowKit Go.Maps

/-- a bag's cells -/
def bagC (p l : Value) : Array Value := #[.slice none 0 0, .slice none 0 0, .slice none 0 0, .slice none 0 0, .slice none 0 0, .slice none 0 0, .slice none 0 0, p, l, .slice none 0 0, .slice none 0 0, .slice none 0 0, .slice none 0 0, .slice none 0 0, .slice none 0 0, .slice none 0 0, .slice none 0 0]
theorem bagC_7 (p l v : Value) : (bagC p l).setIfInBounds 7 v = bagC v l := rfl
theorem bagC_8 (p l v : Value) : (bagC p l).setIfInBounds 8 v = bagC p v := rfl
def TypeAt (w : World) (r : Option Nat) (t : TypeId) : Prop := ∀ b, r = some b → ∃ cs fr, w.heap[b]? = some (.cells cs t fr)
theorem own_at {w : World} {B : Nat} {e : TypeId} {s : Nat} {v : Value} {n : Nat} {xs : List Value} (h : w.ownsRow B e s v n xs) : TypeAt w v.ownBlock e := fun b hb => by
  rcases h.2 with ⟨rfl, _⟩ | ⟨g, cap, cur, rfl, _, hh, _⟩
  · simp [Value.ownBlock] at hb
  · have : g = b := by simpa [Value.ownBlock] using hb
    subst this
    exact ⟨cur, _, hh⟩
theorem own_keptT {w w' : World} {B : Nat} {e t : TypeId} {s : Nat} {v : Value} {n : Nat} {xs : List Value} {r : Option Nat} (h : w.ownsRow B e s v n xs) (hg : w.grownBy w' r) (hr : TypeAt w r t) (hne : e ≠ t) : w'.ownsRow B e s v n xs :=
  kept_ne h hg fun b hb e' => by
    obtain ⟨cs, fr, h1⟩ := own_at h b hb
    obtain ⟨cs', fr', h2⟩ := hr b e'.symm
    rw [h1] at h2
    injection h2 with h2
    injection h2 with _ h2
    exact hne h2
theorem Fleet.keptT {w w' : World} {B : Nat} {e t : TypeId} {s : Nat} {L : List Sl} {X : Nat → List Value} {r : Option Nat} (h : Fleet w B e s L X) (hg : w.grownBy w' r) (hr : TypeAt w r t) (hne : e ≠ t) : Fleet w' B e s L X :=
  ⟨fun k p hp => own_keptT (h.own k p hp) hg hr hne, h.apart⟩
def slV (p : Sl) : Value := .slice p.1 p.2.1 p.2.2

/-- where a bag stands that was made from W on: the rows of parts and of levels that it keeps -/
structure BagS (W w : World) (bg : Nat) (ps ls : List Sl) : Prop where
  below : Below W.heap.size W w
  ge : W.heap.size ≤ bg
  rows : ∃ pv lv, w.heap[bg]? = some (.cells (bagC pv lv) 68 (0, 0)) ∧ w.ownsRow W.heap.size 22 1 pv ps.length (ps.map slV) ∧ w.ownsRow W.heap.size 31 1 lv ls.length (ls.map slV)
theorem BagS.step {W w w' : World} {bg : Nat} {ps ls : List Sl} (h : BagS W w bg ps ls) (hb : Below w.heap.size w w') : BagS W w' bg ps ls := by
  obtain ⟨pv, lv, h1, h2, h3⟩ := h.rows
  exact ⟨h.below.trans (hb.mono h.below.size), h.ge, pv, lv, (hb.block bg (heap_some_lt h1)).trans h1, own_below h2 hb, own_below h3 hb⟩
/-- the step of a put -/
theorem BagS.put7 {W w w1 : World} {bg : Nat} {ps ls : List Sl} {pv lv v : Value} {p : Sl} (hge : W.heap.size ≤ bg) (hb : Below W.heap.size W w) (h1 : w.heap[bg]? = some (.cells (bagC pv lv) 68 (0, 0))) (h2 : w.ownsRow W.heap.size 22 1 pv ps.length (ps.map slV)) (h3 : w.ownsRow W.heap.size 31 1 lv ls.length (ls.map slV))
    (ho : w1.ownsRow W.heap.size 22 1 v (ps.length + 1) (ps.map slV ++ [slV p])) (hg : w.grownBy w1 pv.ownBlock) :
    w1.heap[bg]? = some (.cells (bagC pv lv) 68 (0, 0)) ∧ BagS W (w1.setCell ⟨bg, 7, none⟩ v) bg (ps ++ [p]) ls := by
  have hne : ∀ b, pv.ownBlock = some b → b ≠ bg := fun b hb' e => by
    subst e
    obtain ⟨cs, fr, h4⟩ := own_at h2 b hb'
    rw [h1] at h4
    injection h4 with h4
    injection h4 with _ h4
    exact absurd h4 (by decide)
  have hbg : w1.heap[bg]? = some (.cells (bagC pv lv) 68 (0, 0)) := (hg.block bg (heap_some_lt h1) (fun e => hne bg e.symm rfl)).trans h1
  have hat : TypeAt w1 (some bg) 68 := fun b e => by injection e with e; subst e; exact ⟨_, _, hbg⟩
  have hsg := setCell_grown w1 bg 7 v
  refine ⟨hbg, (hb.grown hg hb.size (fun k e => (h2.lt k e).1)).setCell hge _, hge, v, lv, ?_, ?_, ?_⟩
  · have := heap_setCell_same w1 bg 7 (bagC pv lv) 68 v hbg
    rwa [bagC_7] at this
  · rw [List.length_append, List.map_append]
    exact own_keptT ho hsg hat (by decide)
  · exact own_keptT (own_keptT h3 hg (own_at h2) (by decide)) hsg hat (by decide)
theorem BagS.put8 {W w w1 : World} {bg : Nat} {ps ls : List Sl} {pv lv v : Value} {p : Sl} (hge : W.heap.size ≤ bg) (hb : Below W.heap.size W w) (h1 : w.heap[bg]? = some (.cells (bagC pv lv) 68 (0, 0))) (h2 : w.ownsRow W.heap.size 22 1 pv ps.length (ps.map slV)) (h3 : w.ownsRow W.heap.size 31 1 lv ls.length (ls.map slV))
    (ho : w1.ownsRow W.heap.size 31 1 v (ls.length + 1) (ls.map slV ++ [slV p])) (hg : w.grownBy w1 lv.ownBlock) :
    w1.heap[bg]? = some (.cells (bagC pv lv) 68 (0, 0)) ∧ BagS W (w1.setCell ⟨bg, 8, none⟩ v) bg ps (ls ++ [p]) := by
  have hne : ∀ b, lv.ownBlock = some b → b ≠ bg := fun b hb' e => by
    subst e
    obtain ⟨cs, fr, h4⟩ := own_at h3 b hb'
    rw [h1] at h4
    injection h4 with h4
    injection h4 with _ h4
    exact absurd h4 (by decide)
  have hbg : w1.heap[bg]? = some (.cells (bagC pv lv) 68 (0, 0)) := (hg.block bg (heap_some_lt h1) (fun e => hne bg e.symm rfl)).trans h1
  have hat : TypeAt w1 (some bg) 68 := fun b e => by injection e with e; subst e; exact ⟨_, _, hbg⟩
  have hsg := setCell_grown w1 bg 8 v
  refine ⟨hbg, (hb.grown hg hb.size (fun k e => (h3.lt k e).1)).setCell hge _, hge, pv, v, ?_, ?_, ?_⟩
  · have := heap_setCell_same w1 bg 8 (bagC pv lv) 68 v hbg
    rwa [bagC_8] at this
  · exact own_keptT (own_keptT h2 hg (own_at h3) (by decide)) hsg hat (by decide)
  · rw [List.length_append, List.map_append]
    exact own_keptT ho hsg hat (by decide)
/-- what a method of the bag leaves -/
def BagP (W : World) (bg : Nat) (ps ls : List Sl) (e : Ending) (w' : World) : Prop := e = .returned (.tuple #[]) ∧ BagS W w' bg ps ls

set_option maxRecDepth 100000 in
set_option maxHeartbeats 2000000 in
theorem putParts_any (W w : World) (bg : Nat) (ps ls : List Sl) (A : Option Addr) (n c : Nat) (h : BagS W w bg ps ls) (hk : ps.length ≤ 1000000) :
    Calls Tryz.prog 81 #[.pointer (some ⟨bg, 0, none⟩), .slice A n c] w (BagP W bg (ps ++ [(A, n, c)]) ls) := by
  obtain ⟨i0, hi, hz0, hz1, hz2⟩ := info_parts infoSP
  have hwz := h.below.size
  have hW := h.step ((Below.refl w.heap.size w).alloc (Nat.le_refl _) (.cells #[.slice A n c] 22))
  obtain ⟨pv, lv, h1, h2, h3⟩ := hW.rows
  obtain ⟨pv0, lv0, h10, _, _⟩ := h.rows
  have e0 : pv0 = pv ∧ lv0 = lv := by
    have := (Below.heap_alloc w (.cells #[.slice A n c] 22) bg (heap_some_lt h10)).trans h10
    rw [h1] at this
    injection this with this
    injection this with this _
    have e7 := congrArg (fun a : Array Value => a[7]?) this
    have e8 := congrArg (fun a : Array Value => a[8]?) this
    simp [bagC] at e7 e8
    exact ⟨e7.symm, e8.symm⟩
  obtain ⟨rfl, rfl⟩ := e0
  obtain ⟨Ap, np, cp, rfl⟩ := own_slice h2
  have f0 : w.cell? ⟨bg, 7, none⟩ = some (.slice Ap np cp) := cell_of_row _ _ 7 _ _ (0, 0) h10
  have HNW := Lib.hid (heap_alloc_new w (.cells #[.slice A n c] 22))
  have HW := Lib.hid hW.below
  have HGE := Lib.hid hW.ge
  have H1 := Lib.hid h1
  have H2 := Lib.hid h2
  have H3 := Lib.hid h3
  obtain ⟨k, hkk⟩ : ∃ k, ps.length = k := ⟨_, rfl⟩
  have HKK := Lib.hid hkk
  have hk2 : k ≤ 1000000 := by omega
  clear h hW h1 h2 h3 h10 hkk hk
  go_enter Tryz.func81, Tryz.ntmps81
  go_wp2_with (at_builtin; refine wpList_append_own _ rfl _ _ 58 rfl W.heap.size 22 i0 (.slice none 0 0) 1 24 Tryz.underlying58 hi hz0 hz1 hz2 rfl (by decide) _ ps.length _ rfl H2.out ⟨w.heap.size, 0, none⟩ 1 1 [.slice A n c] rfl rfl (World.news_of_block (cs := #[.slice A n c]) (t := 22) (fr := (0, 0)) HNW.out) (by simp [Value.oneCell']) ?c1 ?c2 ?c3 ?_)
  case c1 => have := HKK.out; unfold maxLen; omega
  case c2 => have := HKK.out; omega
  case c3 => first | omega | (simp; omega)
  intro v w1 ho hg _
  obtain ⟨Av, nv, cv, rfl⟩ := own_slice ho
  obtain ⟨hbg, hbs⟩ := BagS.put7 (p := (A, n, c)) HGE.out HW.out H1.out H2.out H3.out ho hg
  have d1 : w1.cell? ⟨bg, 7, none⟩ = some (.slice Ap np cp) := cell_of_row _ _ 7 _ _ (0, 0) hbg
  have z1 : w1.frozen? ⟨bg, 7, none⟩ = false := frozen_of_row w1 bg 7 _ _ hbg
  have HFIN : Hid (BagP W bg (ps ++ [(A, n, c)]) ls (.returned (.tuple #[])) (w1.setCell ⟨bg, 7, none⟩ (.slice Av nv cv))) := ⟨rfl, hbs⟩
  clear ho hg hbg hbs H1 H2 H3 HW f0
  go_wp2
  exact bodyPost_ret (v := .tuple #[]) (by simp [results, Tryz.results81, go_sem]) rfl HFIN.out

set_option maxRecDepth 100000 in
set_option maxHeartbeats 2000000 in
theorem oneLevel_any (W w : World) (bg : Nat) (ps ls : List Sl) (A : Option Addr) (n c : Nat) (h : BagS W w bg ps ls) (hk : ps.length ≤ 1000000) :
    Calls Tryz.prog 58 #[.pointer (some ⟨bg, 0, none⟩), .agg #[.slice A n c]] w (BagP W bg (ps ++ [(A, n, c)]) ls) := by
  have hfd := field_parts
  have HC := Lib.hid (putParts_any W (w.alloc (.cells #[.slice A n c] 24)) bg ps ls A n c (h.step ((Below.refl w.heap.size w).alloc (Nat.le_refl _) _)) hk)
  clear h hk
  go_enter Tryz.func58, Tryz.ntmps58
  go_wp2_with (fail)
  refine HC.out.mono ?_
  rintro e w1 ⟨rfl, hb⟩
  have HF := Lib.hid hb
  clear hb
  go_wp2
  exact bodyPost_ret (v := .tuple #[]) (by simp [results, Tryz.results58, go_sem]) rfl ⟨rfl, HF.out⟩

/-- a row of levels, each by its parts' slice -/
def LvlRow (w : World) (p : Sl) (qs : List Sl) : Prop := qs.length = p.2.1 ∧ ∀ (k : Nat) (q : Sl), qs[k]? = some q → ∃ g, p.1 = some ⟨g, 0, none⟩ ∧ g < w.heap.size ∧ w.cell? ⟨g, k, none⟩ = some (slV q)

set_option maxRecDepth 100000 in
set_option maxHeartbeats 4000000 in
theorem putLevels_any (W w : World) (bg : Nat) (ps ls : List Sl) (A : Option Addr) (n c : Nat) (qs : List Sl) (h : BagS W w bg ps ls) (hk : ps.length ≤ 100000) (hn : n ≤ 100000) (hl : ls.length ≤ 100000) (hq : LvlRow W (A, n, c) qs) :
    Calls Tryz.prog 40 #[.pointer (some ⟨bg, 0, none⟩), .slice A n c] w (BagP W bg (ps ++ qs) (ls ++ [(A, n, c)])) := by
  obtain ⟨i0, hi, hz0, hz1, hz2⟩ := info_parts infoSL
  have hwz := h.below.size
  have hW := h.step ((Below.refl w.heap.size w).alloc (Nat.le_refl _) (.cells #[.slice A n c] 31))
  obtain ⟨pv, lv, h1, h2, h3⟩ := hW.rows
  obtain ⟨pv0, lv0, h10, _, _⟩ := h.rows
  have e0 : pv0 = pv ∧ lv0 = lv := by
    have := (Below.heap_alloc w (.cells #[.slice A n c] 31) bg (heap_some_lt h10)).trans h10
    rw [h1] at this
    injection this with this
    injection this with this _
    have e7 := congrArg (fun a : Array Value => a[7]?) this
    have e8 := congrArg (fun a : Array Value => a[8]?) this
    simp [bagC] at e7 e8
    exact ⟨e7.symm, e8.symm⟩
  obtain ⟨rfl, rfl⟩ := e0
  obtain ⟨Ap, np, cp, rfl⟩ := own_slice h3
  have f0 : w.cell? ⟨bg, 8, none⟩ = some (.slice Ap np cp) := cell_of_row _ _ 8 _ _ (0, 0) h10
  have HNW := Lib.hid (heap_alloc_new w (.cells #[.slice A n c] 31))
  have HW := Lib.hid hW.below
  have HGE := Lib.hid hW.ge
  have H1 := Lib.hid h1
  have H2 := Lib.hid h2
  have H3 := Lib.hid h3
  have HQ := Lib.hid hq
  obtain ⟨k, hkk⟩ : ∃ k, ls.length = k := ⟨_, rfl⟩
  have HKK := Lib.hid hkk
  have hk2 : k ≤ 100000 := by omega
  have HPK := Lib.hid hk
  clear h hW h1 h2 h3 h10 hkk hk hl hq
  go_enter Tryz.func40, Tryz.ntmps40
  go_wp2_with (at_builtin; refine wpList_append_own _ rfl _ _ 32 rfl W.heap.size 31 i0 (.slice none 0 0) 1 24 Tryz.underlying32 hi hz0 hz1 hz2 rfl (by decide) _ ls.length _ rfl H3.out ⟨w.heap.size, 0, none⟩ 1 1 [.slice A n c] rfl rfl (World.news_of_block (cs := #[.slice A n c]) (t := 31) (fr := (0, 0)) HNW.out) (by simp [Value.oneCell']) ?c1 ?c2 ?c3 ?_)
  case c1 => have := HKK.out; unfold maxLen; omega
  case c2 => have := HKK.out; omega
  case c3 => first | omega | (simp; omega)
  intro v w1 ho hg _
  obtain ⟨Av, nv, cv, rfl⟩ := own_slice ho
  obtain ⟨hbg, hbs⟩ := BagS.put8 (p := (A, n, c)) HGE.out HW.out H1.out H2.out H3.out ho hg
  have d1 : w1.cell? ⟨bg, 8, none⟩ = some (.slice Ap np cp) := cell_of_row _ _ 8 _ _ (0, 0) hbg
  have z1 : w1.frozen? ⟨bg, 8, none⟩ = false := frozen_of_row w1 bg 8 _ _ hbg
  have HBS := Lib.hid hbs
  clear ho hg hbg hbs H1 H2 H3 HW f0
  go_wp2
  go_loopw [4] (fun i wr => ∃ k : Nat, k ≤ n ∧ i = .int .i64 (k : Int) ∧ BagS W wr bg (ps ++ qs.take k) (ls ++ [(A, n, c)])) (fun i _ => n - (intOf i).toNat)
  case atStart => exact ⟨0, by omega, rfl, by rw [List.take_zero, List.append_nil]; exact HBS.out⟩
  case round =>
    obtain ⟨k, hk, rfl, hbs⟩ := hrel
    obtain ⟨hql, hqc⟩ := HQ.out
    simp only at hql hqc
    by_cases hlt : k < n
    · obtain ⟨⟨Aq, nq, cq⟩, hqk⟩ : ∃ q, qs[k]? = some q := ⟨qs[k]'(by omega), List.getElem?_eq_getElem _⟩
      obtain ⟨g, e, hgz, hcell⟩ := hqc k _ hqk
      subst e
      have c0 : wr.cell? ⟨g, k, none⟩ = some (.slice Aq nq cq) := (hbs.below.cell (p := ⟨g, k, none⟩) hgz).trans hcell
      have HC := Lib.hid (oneLevel_any W wr bg (ps ++ qs.take k) (ls ++ [(some ⟨g, 0, none⟩, n, c)]) Aq nq cq hbs (by
        have := HPK.out
        rw [List.length_append, List.length_take]
        omega))
      have HT : Hid (ps ++ qs.take k ++ [(Aq, nq, cq)] = ps ++ qs.take (k + 1)) := by
        show _ = _
        rw [List.append_assoc, take_snoc_ hqk]
      have ij0 : (0 : Int) ≤ (k : Int) := by omega
      have ij1 : (k : Int) < (n : Int) := by omega
      clear hbs hql hqc hqk hcell
      go_wp2_with (fail)
      refine HC.out.mono ?_
      rintro e w2 ⟨rfl, hb2⟩
      rw [HT.out] at hb2
      have HF := Lib.hid hb2
      clear hb2 c0
      go_wp2
      go_roundw
      case rel => exact ⟨k + 1, by omega, by go_num, HF.out⟩
      case measure => simp [intOf]; omega
    · have HF : Hid (BagS W wr bg (ps ++ qs) (ls ++ [(A, n, c)])) := by
        rw [List.take_of_length_le (by omega)] at hbs
        exact hbs
      clear hbs hql hqc
      go_wp2
      exact bodyPost_ret (v := .tuple #[]) (by simp [results, Tryz.results40, go_sem]) rfl ⟨rfl, HF.out⟩

/-- yes; below block B nothing has turned -/
def YesPost (B : Nat) (w : World) (e : Ending) (w' : World) : Prop := e = .returned (.bool true) ∧ Below B w w'

theorem flatParts_row (w : World) (B B0 : Nat) (L : List Sl) (X : Nat → List Value) (v : Value) (hr : w.ownsRow B0 22 1 v L.length (L.map slV)) (hF : Fleet w B 47 2 L X) (hB : B ≤ w.heap.size) (hn : ∀ p ∈ L, p.2.1 ≤ 1000000) (hm : L.length ≤ 1000) :
    Calls Tryz.prog 66 #[v] w (FlatPost w L) := by
  rcases hr.2 with ⟨rfl, h0⟩ | ⟨g, cap, cur, rfl, _, hh, _⟩
  · exact (flatParts_nil w).mono fun e w' h => ⟨h.1, (Sea.refl w L).below h.2⟩
  · refine flatParts_any w B g cap L L.length X rfl hm (heap_some_lt hh) (fun p hp e => ?_) (fun k p hp => ?_) hF hB hn
    · obtain ⟨k, hk⟩ := List.getElem?_of_mem hp
      obtain ⟨cs, fr, h1⟩ := own_at (hF.own k p hk) g e
      rw [hh] at h1
      injection h1 with h1
      injection h1 with _ h1
      exact absurd h1 (by decide)
    · have hk := (List.getElem?_eq_some_iff.1 hp).1
      rw [hr.cellAt k (by omega), List.getElem?_map, hp]
      rfl

theorem flatLevels_row (w : World) (B B0 : Nat) (L : List Sl) (X : Nat → List Value) (v : Value) (hr : w.ownsRow B0 31 1 v L.length (L.map slV)) (hF : Fleet w B 24 1 L X) (hB : B ≤ w.heap.size) (hn : ∀ p ∈ L, p.2.1 ≤ 1000000) (hm : L.length ≤ 1000) :
    Calls Tryz.prog 67 #[v] w (FlatPost w L) := by
  rcases hr.2 with ⟨rfl, h0⟩ | ⟨g, cap, cur, rfl, _, hh, _⟩
  · exact (flatLevels_nil w).mono fun e w' h => ⟨h.1, (Sea.refl w L).below h.2⟩
  · refine flatLevels_any w B g cap L L.length X rfl hm (heap_some_lt hh) (fun p hp e => ?_) (fun k p hp => ?_) hF hB hn
    · obtain ⟨k, hk⟩ := List.getElem?_of_mem hp
      obtain ⟨cs, fr, h1⟩ := own_at (hF.own k p hk) g e
      rw [hh] at h1
      injection h1 with h1
      injection h1 with _ h1
      exact absurd h1 (by decide)
    · have hk := (List.getElem?_eq_some_iff.1 hp).1
      rw [hr.cellAt k (by omega), List.getElem?_map, hp]
      rfl

set_option maxRecDepth 100000 in
set_option maxHeartbeats 4000000 in
theorem apart_any (w : World) (bg B B0 : Nat) (Lp Ll : List Sl) (Xp Xl : Nat → List Value) (pv lv : Value) (hbag : w.heap[bg]? = some (.cells (bagC pv lv) 68 (0, 0))) (hpr : w.ownsRow B0 22 1 pv Lp.length (Lp.map slV)) (hlr : w.ownsRow B0 31 1 lv Ll.length (Ll.map slV))
    (hp : Fleet w B 47 2 Lp Xp) (hl : Fleet w B 24 1 Ll Xl) (hB : B ≤ w.heap.size) (hpn : ∀ p ∈ Lp, p.2.1 ≤ 1000000) (hpm : Lp.length ≤ 1000) (hln : ∀ p ∈ Ll, p.2.1 ≤ 1000000) (hlm : Ll.length ≤ 1000) :
    Calls Tryz.prog 41 #[.pointer (some ⟨bg, 0, none⟩)] w (YesPost B w) := by
  obtain ⟨Ap, np, cp, rfl⟩ := own_slice hpr
  obtain ⟨Al, nl, cl, rfl⟩ := own_slice hlr
  obtain ⟨w0, hw0⟩ : ∃ x, x = w := ⟨_, rfl⟩
  have HB0 : Hid (Below B w w0) := by rw [hw0]; exact Below.refl _ _
  rw [← hw0] at hbag hpr hlr hp hl
  have HE0 := Lib.hid hbag
  have HR0 := Lib.hid hpr
  have HS0 := Lib.hid hlr
  have HP0 := Lib.hid hp
  have HL0 := Lib.hid hl
  clear hbag hpr hlr hp hl
  suffices hgo : Calls Tryz.prog 41 #[.pointer (some ⟨bg, 0, none⟩)] w0 (YesPost B w) by rwa [hw0] at hgo
  clear hw0
  go_enter Tryz.func41, Tryz.ntmps41
  have f0 : w0.cell? ⟨bg, 0, none⟩ = some (.slice none 0 0) := cell_of_row _ _ 0 _ _ (0, 0) HE0.out
  go_wp2_with (fail)
  refine (flatLimbs_nil _).mono ?_
  rintro e w1 ⟨rfl, hb⟩
  have HE1 := Lib.hid ((hb.block bg (heap_some_lt HE0.out)).trans HE0.out)
  have HB1 : Hid (Below B w w1) := HB0.out.trans (hb.mono (Nat.le_trans hB HB0.out.size))
  have HP1 := Lib.hid (HP0.out.below hb)
  have HR1 := Lib.hid (own_below HR0.out hb)
  have HL1 := Lib.hid (HL0.out.below hb)
  have HS1 := Lib.hid (own_below HS0.out hb)
  clear hb f0 HE0 HB0 HP0 HR0 HL0 HS0
  have f1 : w1.cell? ⟨bg, 1, none⟩ = some (.slice none 0 0) := cell_of_row _ _ 1 _ _ (0, 0) HE1.out
  go_wp2_with (fail)
  refine (flatWords_nil _).mono ?_
  rintro e w2 ⟨rfl, hb⟩
  have HE2 := Lib.hid ((hb.block bg (heap_some_lt HE1.out)).trans HE1.out)
  have HB2 : Hid (Below B w w2) := HB1.out.trans (hb.mono (Nat.le_trans hB HB1.out.size))
  have HP2 := Lib.hid (HP1.out.below hb)
  have HR2 := Lib.hid (own_below HR1.out hb)
  have HL2 := Lib.hid (HL1.out.below hb)
  have HS2 := Lib.hid (own_below HS1.out hb)
  clear hb f1 HE1 HB1 HP1 HR1 HL1 HS1
  have f2 : w2.cell? ⟨bg, 2, none⟩ = some (.slice none 0 0) := cell_of_row _ _ 2 _ _ (0, 0) HE2.out
  go_wp2_with (fail)
  refine (flatInts_nil _).mono ?_
  rintro e w3 ⟨rfl, hb⟩
  have HE3 := Lib.hid ((hb.block bg (heap_some_lt HE2.out)).trans HE2.out)
  have HB3 : Hid (Below B w w3) := HB2.out.trans (hb.mono (Nat.le_trans hB HB2.out.size))
  have HP3 := Lib.hid (HP2.out.below hb)
  have HR3 := Lib.hid (own_below HR2.out hb)
  have HL3 := Lib.hid (HL2.out.below hb)
  have HS3 := Lib.hid (own_below HS2.out hb)
  clear hb f2 HE2 HB2 HP2 HR2 HL2 HS2
  have f3 : w3.cell? ⟨bg, 3, none⟩ = some (.slice none 0 0) := cell_of_row _ _ 3 _ _ (0, 0) HE3.out
  go_wp2_with (fail)
  refine (flatLongs_nil _).mono ?_
  rintro e w4 ⟨rfl, hb⟩
  have HE4 := Lib.hid ((hb.block bg (heap_some_lt HE3.out)).trans HE3.out)
  have HB4 : Hid (Below B w w4) := HB3.out.trans (hb.mono (Nat.le_trans hB HB3.out.size))
  have HP4 := Lib.hid (HP3.out.below hb)
  have HR4 := Lib.hid (own_below HR3.out hb)
  have HL4 := Lib.hid (HL3.out.below hb)
  have HS4 := Lib.hid (own_below HS3.out hb)
  clear hb f3 HE3 HB3 HP3 HR3 HL3 HS3
  have f4 : w4.cell? ⟨bg, 4, none⟩ = some (.slice none 0 0) := cell_of_row _ _ 4 _ _ (0, 0) HE4.out
  go_wp2_with (fail)
  refine (flatTexts_nil _).mono ?_
  rintro e w5 ⟨rfl, hb⟩
  have HE5 := Lib.hid ((hb.block bg (heap_some_lt HE4.out)).trans HE4.out)
  have HB5 : Hid (Below B w w5) := HB4.out.trans (hb.mono (Nat.le_trans hB HB4.out.size))
  have HP5 := Lib.hid (HP4.out.below hb)
  have HR5 := Lib.hid (own_below HR4.out hb)
  have HL5 := Lib.hid (HL4.out.below hb)
  have HS5 := Lib.hid (own_below HS4.out hb)
  clear hb f4 HE4 HB4 HP4 HR4 HL4 HS4
  have f5 : w5.cell? ⟨bg, 5, none⟩ = some (.slice none 0 0) := cell_of_row _ _ 5 _ _ (0, 0) HE5.out
  go_wp2_with (fail)
  refine (flatBytes_nil _).mono ?_
  rintro e w6 ⟨rfl, hb⟩
  have HE6 := Lib.hid ((hb.block bg (heap_some_lt HE5.out)).trans HE5.out)
  have HB6 : Hid (Below B w w6) := HB5.out.trans (hb.mono (Nat.le_trans hB HB5.out.size))
  have HP6 := Lib.hid (HP5.out.below hb)
  have HR6 := Lib.hid (own_below HR5.out hb)
  have HL6 := Lib.hid (HL5.out.below hb)
  have HS6 := Lib.hid (own_below HS5.out hb)
  clear hb f5 HE5 HB5 HP5 HR5 HL5 HS5
  have f6 : w6.cell? ⟨bg, 6, none⟩ = some (.slice none 0 0) := cell_of_row _ _ 6 _ _ (0, 0) HE6.out
  go_wp2_with (fail)
  refine (flatTruths_nil _).mono ?_
  rintro e w7 ⟨rfl, hb⟩
  have HE7 := Lib.hid ((hb.block bg (heap_some_lt HE6.out)).trans HE6.out)
  have HB7 : Hid (Below B w w7) := HB6.out.trans (hb.mono (Nat.le_trans hB HB6.out.size))
  have HP7 := Lib.hid (HP6.out.below hb)
  have HR7 := Lib.hid (own_below HR6.out hb)
  have HL7 := Lib.hid (HL6.out.below hb)
  have HS7 := Lib.hid (own_below HS6.out hb)
  clear hb f6 HE6 HB6 HP6 HR6 HL6 HS6
  have f7 : w7.cell? ⟨bg, 7, none⟩ = some (.slice Ap np cp) := cell_of_row _ _ 7 _ _ (0, 0) HE7.out
  have HC7 := Lib.hid (flatParts_row w7 B B0 Lp Xp (.slice Ap np cp) HR7.out HP7.out (Nat.le_trans hB HB7.out.size) hpn hpm)
  go_wp2_with (fail)
  refine HC7.out.mono ?_
  rintro e w8 ⟨rfl, hs⟩
  have hat : ∀ (b : Nat) (t : TypeId) (cs : Array Value) (fr : Nat × Nat), w7.heap[b]? = some (Obj.cells cs t fr) → t ≠ 47 → w8.heap[b]? = w7.heap[b]? := fun b t cs fr h1 h2 => hs.block b (heap_some_lt h1) fun p hp e' => by
    obtain ⟨k, hk⟩ := List.getElem?_of_mem hp
    obtain ⟨cs', fr', h3⟩ := own_at (HP7.out.own k p hk) b e'
    rw [h1] at h3
    injection h3 with h3
    injection h3 with _ h3
    exact h2 h3
  have hkeep : ∀ {B' : Nat} {e : TypeId} {s : Nat} {v : Value} {n : Nat} {xs : List Value}, w7.ownsRow B' e s v n xs → e ≠ 47 → w8.ownsRow B' e s v n xs := fun h he =>
    ⟨h.1, h.2.imp id fun ⟨g, cap, cur, q1, q2, q3, q4⟩ => ⟨g, cap, cur, q1, q2, (hat g _ _ _ q3 he).trans q3, q4⟩⟩
  have HE8 := Lib.hid ((hat bg _ _ _ HE7.out (by decide)).trans HE7.out)
  have HB8 : Hid (Below B w w8) := HB7.out.trans (hs.toBelow (Nat.le_trans hB HB7.out.size) (fun p hp b hb => (HP7.out.lt hp hb).1))
  have HL8 : Hid (Fleet w8 B 24 1 Ll Xl) := ⟨fun k p hp => hkeep (HL7.out.own k p hp) (by decide), HL7.out.apart⟩
  have HS8 := Lib.hid (hkeep HS7.out (by decide))
  clear hs hat hkeep f7 HE7 HB7 HP7 HR7 HL7 HS7 HC7
  have f8 : w8.cell? ⟨bg, 8, none⟩ = some (.slice Al nl cl) := cell_of_row _ _ 8 _ _ (0, 0) HE8.out
  have HC8 := Lib.hid (flatLevels_row w8 B B0 Ll Xl (.slice Al nl cl) HS8.out HL8.out (Nat.le_trans hB HB8.out.size) hln hlm)
  go_wp2_with (fail)
  refine HC8.out.mono ?_
  rintro e w9 ⟨rfl, hs⟩
  have HE9 := Lib.hid ((hs.block bg (heap_some_lt HE8.out) fun p hp e' => by
    obtain ⟨k, hk⟩ := List.getElem?_of_mem hp
    obtain ⟨cs', fr', h3⟩ := own_at (HL8.out.own k p hk) bg e'
    rw [HE8.out] at h3
    injection h3 with h3
    injection h3 with _ h3
    exact absurd h3 (by decide)).trans HE8.out)
  have HB9 : Hid (Below B w w9) := HB8.out.trans (hs.toBelow (Nat.le_trans hB HB8.out.size) (fun p hp b hb => (HL8.out.lt hp hb).1))
  clear hs f8 HE8 HB8 HL8 HS8 HC8
  have f9 : w9.cell? ⟨bg, 9, none⟩ = some (.slice none 0 0) := cell_of_row _ _ 9 _ _ (0, 0) HE9.out
  go_wp2_with (fail)
  refine (flatTerms_nil _).mono ?_
  rintro e w10 ⟨rfl, hb⟩
  have HE10 := Lib.hid ((hb.block bg (heap_some_lt HE9.out)).trans HE9.out)
  have HB10 : Hid (Below B w w10) := HB9.out.trans (hb.mono (Nat.le_trans hB HB9.out.size))
  clear hb f9 HE9 HB9
  have f10 : w10.cell? ⟨bg, 10, none⟩ = some (.slice none 0 0) := cell_of_row _ _ 10 _ _ (0, 0) HE10.out
  go_wp2_with (fail)
  refine (flatMembers_nil _).mono ?_
  rintro e w11 ⟨rfl, hb⟩
  have HE11 := Lib.hid ((hb.block bg (heap_some_lt HE10.out)).trans HE10.out)
  have HB11 : Hid (Below B w w11) := HB10.out.trans (hb.mono (Nat.le_trans hB HB10.out.size))
  clear hb f10 HE10 HB10
  have f11 : w11.cell? ⟨bg, 11, none⟩ = some (.slice none 0 0) := cell_of_row _ _ 11 _ _ (0, 0) HE11.out
  go_wp2_with (fail)
  refine (flatCtors_nil _).mono ?_
  rintro e w12 ⟨rfl, hb⟩
  have HE12 := Lib.hid ((hb.block bg (heap_some_lt HE11.out)).trans HE11.out)
  have HB12 : Hid (Below B w w12) := HB11.out.trans (hb.mono (Nat.le_trans hB HB11.out.size))
  clear hb f11 HE11 HB11
  have f12 : w12.cell? ⟨bg, 12, none⟩ = some (.slice none 0 0) := cell_of_row _ _ 12 _ _ (0, 0) HE12.out
  go_wp2_with (fail)
  refine (flatDecls_nil _).mono ?_
  rintro e w13 ⟨rfl, hb⟩
  have HE13 := Lib.hid ((hb.block bg (heap_some_lt HE12.out)).trans HE12.out)
  have HB13 : Hid (Below B w w13) := HB12.out.trans (hb.mono (Nat.le_trans hB HB12.out.size))
  clear hb f12 HE12 HB12
  have f13 : w13.cell? ⟨bg, 13, none⟩ = some (.slice none 0 0) := cell_of_row _ _ 13 _ _ (0, 0) HE13.out
  go_wp2_with (fail)
  refine (flatArgs_nil _).mono ?_
  rintro e w14 ⟨rfl, hb⟩
  have HE14 := Lib.hid ((hb.block bg (heap_some_lt HE13.out)).trans HE13.out)
  have HB14 : Hid (Below B w w14) := HB13.out.trans (hb.mono (Nat.le_trans hB HB13.out.size))
  clear hb f13 HE13 HB13
  have f14 : w14.cell? ⟨bg, 14, none⟩ = some (.slice none 0 0) := cell_of_row _ _ 14 _ _ (0, 0) HE14.out
  go_wp2_with (fail)
  refine (flatRules_nil _).mono ?_
  rintro e w15 ⟨rfl, hb⟩
  have HE15 := Lib.hid ((hb.block bg (heap_some_lt HE14.out)).trans HE14.out)
  have HB15 : Hid (Below B w w15) := HB14.out.trans (hb.mono (Nat.le_trans hB HB14.out.size))
  clear hb f14 HE14 HB14
  have f15 : w15.cell? ⟨bg, 15, none⟩ = some (.slice none 0 0) := cell_of_row _ _ 15 _ _ (0, 0) HE15.out
  go_wp2_with (fail)
  refine (flatCores_nil _).mono ?_
  rintro e w16 ⟨rfl, hb⟩
  have HE16 := Lib.hid ((hb.block bg (heap_some_lt HE15.out)).trans HE15.out)
  have HB16 : Hid (Below B w w16) := HB15.out.trans (hb.mono (Nat.le_trans hB HB15.out.size))
  clear hb f15 HE15 HB15
  have f16 : w16.cell? ⟨bg, 16, none⟩ = some (.slice none 0 0) := cell_of_row _ _ 16 _ _ (0, 0) HE16.out
  go_wp2_with (fail)
  refine (flatEnvs_nil _).mono ?_
  rintro e w17 ⟨rfl, hb⟩
  have HE17 := Lib.hid ((hb.block bg (heap_some_lt HE16.out)).trans HE16.out)
  have HB17 : Hid (Below B w w17) := HB16.out.trans (hb.mono (Nat.le_trans hB HB16.out.size))
  clear hb f16 HE16 HB16
  go_wp2
  go_ret
  exact ⟨rfl, HB17.out⟩

set_option maxRecDepth 100000 in
set_option maxHeartbeats 4000000 in
theorem apartLevels_any (W : World) (G cG B : Nat) (L : List Sl) (Q : List (List Sl)) (Xp Xl : Nat → List Value) (K : Nat) (hK : L.length = K) (hQ : Q.length = K) (hm : K ≤ 1000) (hq : Q.flatten.length ≤ 1000) (hG : G < W.heap.size)
    (hls : ∀ (k : Nat) (p : Sl), L[k]? = some p → W.cell? ⟨G, k, none⟩ = some (slV p)) (hrow : ∀ (k : Nat) (p : Sl) (qs : List Sl), L[k]? = some p → Q[k]? = some qs → LvlRow W p qs)
    (hp : Fleet W B 47 2 Q.flatten Xp) (hl : Fleet W B 24 1 L Xl) (hB : B ≤ W.heap.size) (hpn : ∀ p ∈ Q.flatten, p.2.1 ≤ 1000000) (hln : ∀ p ∈ L, p.2.1 ≤ 1000) :
    Calls Tryz.prog 12 #[.slice (some ⟨G, 0, none⟩) K cG] W (YesPost B W) := by
  have hb0 : Below W.heap.size W (W.alloc (.cells (bagC (.slice none 0 0) (.slice none 0 0)) 68)) := (Below.refl _ _).alloc (Nat.le_refl _) _
  have HS : Hid (BagS W (W.alloc (.cells (bagC (.slice none 0 0) (.slice none 0 0)) 68)) W.heap.size [] []) := ⟨hb0, Nat.le_refl _, _, _, heap_alloc_new W _, World.ownsRow_nil _ _ _ _, World.ownsRow_nil _ _ _ _⟩
  have HLS := Lib.hid hls
  have HROW := Lib.hid hrow
  have HP := Lib.hid hp
  have HL := Lib.hid hl
  have HPN := Lib.hid hpn
  have HLN := Lib.hid hln
  have HK := Lib.hid hK
  have HQ := Lib.hid hQ
  have HQM := Lib.hid hq
  clear hb0 hls hrow hp hl hpn hln hK hQ hq
  unfold bagC at HS
  go_enter Tryz.func12, Tryz.ntmps12
  go_wp2
  go_loopw [4] (fun i wr => ∃ k : Nat, k ≤ K ∧ i = .int .i64 (k : Int) ∧ BagS W wr W.heap.size (Q.take k).flatten (L.take k)) (fun i _ => K - (intOf i).toNat)
  case atStart => exact ⟨0, by omega, rfl, HS.out⟩
  clear HS
  case round =>
    obtain ⟨k, hk, rfl, hbs⟩ := hrel
    by_cases hlt : k < K
    · obtain ⟨⟨A, n, c⟩, hp⟩ : ∃ p, L[k]? = some p := ⟨L[k]'(by rw [HK.out]; exact hlt), List.getElem?_eq_getElem _⟩
      obtain ⟨qs, hqs⟩ : ∃ q, Q[k]? = some q := ⟨Q[k]'(by rw [HQ.out]; exact hlt), List.getElem?_eq_getElem _⟩
      have c0 : wr.cell? ⟨G, k, none⟩ = some (.slice A n c) := (hbs.below.cell (p := ⟨G, k, none⟩) hG).trans (HLS.out k _ hp)
      have hn9 : n ≤ 1000 := HLN.out _ (List.mem_of_getElem? hp)
      have hsub : (Q.take k).flatten.length ≤ 1000 := by
        have h1 : Q.flatten = (Q.take k).flatten ++ (Q.drop k).flatten := by rw [← List.flatten_append, List.take_append_drop]
        have h2 := HQM.out
        rw [h1, List.length_append] at h2
        omega
      have HC := Lib.hid (putLevels_any W wr W.heap.size (Q.take k).flatten (L.take k) A n c qs hbs (by omega) (by omega) (by rw [List.length_take]; omega) (HROW.out k _ qs hp hqs))
      have HT1 : Hid ((Q.take k).flatten ++ qs = (Q.take (k + 1)).flatten) := by show _ = _; rw [take_snoc_ hqs, List.flatten_append]; simp
      have HT2 : Hid (L.take k ++ [(A, n, c)] = L.take (k + 1)) := (take_snoc_ hp).symm
      have ij0 : (0 : Int) ≤ (k : Int) := by omega
      have ij1 : (k : Int) < (K : Int) := by omega
      clear hbs hsub hp hqs
      go_wp2_with (fail)
      refine HC.out.mono ?_
      rintro e w2 ⟨rfl, hb2⟩
      rw [HT1.out, HT2.out] at hb2
      have HF := Lib.hid hb2
      clear hb2 c0
      go_wp2
      go_roundw
      case rel => exact ⟨k + 1, by omega, by go_num, HF.out⟩
      case measure => simp [intOf]; omega
    · have h1 : (Q.take k) = Q := List.take_of_length_le (by rw [HQ.out]; omega)
      have h2 : (L.take k) = L := List.take_of_length_le (by rw [HK.out]; omega)
      rw [h1, h2] at hbs
      obtain ⟨pv, lv, e1, e2, e3⟩ := hbs.rows
      have hbw : Below B W wr := hbs.below.mono hB
      have hFp : Fleet wr B 47 2 Q.flatten Xp := HP.out.below hbs.below
      have hFl : Fleet wr B 24 1 L Xl := HL.out.below hbs.below
      have HC := Lib.hid (apart_any wr W.heap.size B W.heap.size Q.flatten L Xp Xl pv lv e1 e2 e3 hFp hFl (Nat.le_trans hB hbs.below.size) HPN.out HQM.out (fun p hp => by have := HLN.out p hp; omega) (by rw [HK.out]; exact hm))
      have HBW := Lib.hid hbw
      clear hbs e1 e2 e3 hbw hFp hFl h1 h2
      go_wp2_with (fail)
      refine HC.out.mono ?_
      rintro e w2 ⟨rfl, hb2⟩
      have HF : Hid (Below B W w2) := HBW.out.trans hb2
      clear hb2
      go_wp2
      go_ret
      exact ⟨rfl, HF.out⟩
end Go.Proofs.YtldalfikpklfdaaGreat
