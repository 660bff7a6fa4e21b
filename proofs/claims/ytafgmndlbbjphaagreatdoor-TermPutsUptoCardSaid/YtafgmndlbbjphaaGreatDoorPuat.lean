/- Laws. -/
import Derived.Test.YtafgmndlbbjphaaGreatDoorPuah
import Derived.Test.YtafgmndlbbjphaaGreatDoorPuas
set_option maxRecDepth 100000
namespace Go.Proofs.YtafgmndlbbjphaaGreatDoor
open Go.RowKit Go.Maps
theorem below_none {w w' : World} (h : w.grownBy w' none) : Below w.heap.size w w' := ⟨h.os, h.tape, h.output, h.size, fun k hk => h.block k hk (by simp)⟩
theorem infoLimbs : (Tryz.prog.info? 133).map (fun i => (i.zero, i.size, i.bytes)) = some (some (.slice none 0 0), 1, 24) := by kernel_rfl
set_option maxHeartbeats 2000000 in
theorem flatLimbs_nil (w : World) : Calls Tryz.prog 61 #[.slice none 0 0] w (HasPost w true) := by
 obtain ⟨i0, hi, hz0, hz1, hz2⟩ := info_parts infoLimbs
 go_enter Tryz.func61, Tryz.ntmps61
 go_wp2
 go_loopw [3] (fun i wr => i = .int .i64 0 ∧ Below w.heap.size w wr) (fun _ _ => 0)
 case atStart => exact ⟨rfl, Below.refl _ _⟩
 case round =>
  obtain ⟨rfl, hb⟩ := hrel
  have HB := Lib.hid hb
  have hbz := hb.size
  clear hb
  go_wp2_with (at_make; refine wpList_make_full _ rfl _ _ 69 rfl wr.heap.size 133 i0 (.slice none 0 0) 1 Tryz.underlying69 hi hz0 hz1 .i64 .i64 0 0 0 rfl rfl rfl rfl ?b1 ?b2 ?b3 ?_)
  case b1 => rw [hz2]; omega
  case b2 => unfold maxLen; omega
  case b3 => exact Nat.le_refl _
  intro w1 ho1 hg1
  have HB1 : Hid (Below w.heap.size w w1) := HB.out.trans ((below_none hg1).mono hbz)
  clear ho1 hg1 HB
  go_wp2
  go_loopw [6] (fun i wr => i = .int .i64 0 ∧ Below w.heap.size w wr) (fun _ _ => 0)
  case atStart => exact ⟨rfl, HB1.out⟩
  clear HB1
  case round =>
   obtain ⟨rfl, hb⟩ := hrel
   have HB := Lib.hid hb
   clear hb
   go_wp2
   go_loopw [9] (fun i wr => i = .int .i64 0 ∧ Below w.heap.size w wr) (fun _ _ => 0)
   case atStart => exact ⟨rfl, HB.out⟩
   clear HB
   case round =>
    obtain ⟨rfl, hb⟩ := hrel
    have HB := Lib.hid hb
    clear hb
    go_wp2
    go_loopw [11] (fun i wr => i = .int .i64 0 ∧ Below w.heap.size w wr) (fun _ _ => 0)
    case atStart => exact ⟨rfl, HB.out⟩
    clear HB
    case round =>
     obtain ⟨rfl, hb⟩ := hrel
     have HB := Lib.hid hb
     clear hb
     go_wp2
     go_loopw [14] (fun i wr => i = .int .i64 0 ∧ Below w.heap.size w wr) (fun _ _ => 0)
     case atStart => exact ⟨rfl, HB.out⟩
     clear HB
     case round =>
      obtain ⟨rfl, hb⟩ := hrel
      have HF : Hid (HasPost w true (.returned (.bool true)) _) := ⟨rfl, hb⟩
      clear hb
      go_wp2
      go_ret
      exact HF.out
theorem infoWords : (Tryz.prog.info? 135).map (fun i => (i.zero, i.size, i.bytes)) = some (some (.slice none 0 0), 1, 24) := by kernel_rfl
set_option maxHeartbeats 2000000 in
theorem flatWords_nil (w : World) : Calls Tryz.prog 62 #[.slice none 0 0] w (HasPost w true) := by
 obtain ⟨i0, hi, hz0, hz1, hz2⟩ := info_parts infoWords
 go_enter Tryz.func62, Tryz.ntmps62
 go_wp2
 go_loopw [3] (fun i wr => i = .int .i64 0 ∧ Below w.heap.size w wr) (fun _ _ => 0)
 case atStart => exact ⟨rfl, Below.refl _ _⟩
 case round =>
  obtain ⟨rfl, hb⟩ := hrel
  have HB := Lib.hid hb
  have hbz := hb.size
  clear hb
  go_wp2_with (at_make; refine wpList_make_full _ rfl _ _ 70 rfl wr.heap.size 135 i0 (.slice none 0 0) 1 Tryz.underlying70 hi hz0 hz1 .i64 .i64 0 0 0 rfl rfl rfl rfl ?b1 ?b2 ?b3 ?_)
  case b1 => rw [hz2]; omega
  case b2 => unfold maxLen; omega
  case b3 => exact Nat.le_refl _
  intro w1 ho1 hg1
  have HB1 : Hid (Below w.heap.size w w1) := HB.out.trans ((below_none hg1).mono hbz)
  clear ho1 hg1 HB
  go_wp2
  go_loopw [6] (fun i wr => i = .int .i64 0 ∧ Below w.heap.size w wr) (fun _ _ => 0)
  case atStart => exact ⟨rfl, HB1.out⟩
  clear HB1
  case round =>
   obtain ⟨rfl, hb⟩ := hrel
   have HB := Lib.hid hb
   clear hb
   go_wp2
   go_loopw [9] (fun i wr => i = .int .i64 0 ∧ Below w.heap.size w wr) (fun _ _ => 0)
   case atStart => exact ⟨rfl, HB.out⟩
   clear HB
   case round =>
    obtain ⟨rfl, hb⟩ := hrel
    have HB := Lib.hid hb
    clear hb
    go_wp2
    go_loopw [11] (fun i wr => i = .int .i64 0 ∧ Below w.heap.size w wr) (fun _ _ => 0)
    case atStart => exact ⟨rfl, HB.out⟩
    clear HB
    case round =>
     obtain ⟨rfl, hb⟩ := hrel
     have HB := Lib.hid hb
     clear hb
     go_wp2
     go_loopw [14] (fun i wr => i = .int .i64 0 ∧ Below w.heap.size w wr) (fun _ _ => 0)
     case atStart => exact ⟨rfl, HB.out⟩
     clear HB
     case round =>
      obtain ⟨rfl, hb⟩ := hrel
      have HF : Hid (HasPost w true (.returned (.bool true)) _) := ⟨rfl, hb⟩
      clear hb
      go_wp2
      go_ret
      exact HF.out
theorem infoInts : (Tryz.prog.info? 137).map (fun i => (i.zero, i.size, i.bytes)) = some (some (.slice none 0 0), 1, 24) := by kernel_rfl
set_option maxHeartbeats 2000000 in
theorem flatInts_nil (w : World) : Calls Tryz.prog 63 #[.slice none 0 0] w (HasPost w true) := by
 obtain ⟨i0, hi, hz0, hz1, hz2⟩ := info_parts infoInts
 go_enter Tryz.func63, Tryz.ntmps63
 go_wp2
 go_loopw [3] (fun i wr => i = .int .i64 0 ∧ Below w.heap.size w wr) (fun _ _ => 0)
 case atStart => exact ⟨rfl, Below.refl _ _⟩
 case round =>
  obtain ⟨rfl, hb⟩ := hrel
  have HB := Lib.hid hb
  have hbz := hb.size
  clear hb
  go_wp2_with (at_make; refine wpList_make_full _ rfl _ _ 71 rfl wr.heap.size 137 i0 (.slice none 0 0) 1 Tryz.underlying71 hi hz0 hz1 .i64 .i64 0 0 0 rfl rfl rfl rfl ?b1 ?b2 ?b3 ?_)
  case b1 => rw [hz2]; omega
  case b2 => unfold maxLen; omega
  case b3 => exact Nat.le_refl _
  intro w1 ho1 hg1
  have HB1 : Hid (Below w.heap.size w w1) := HB.out.trans ((below_none hg1).mono hbz)
  clear ho1 hg1 HB
  go_wp2
  go_loopw [6] (fun i wr => i = .int .i64 0 ∧ Below w.heap.size w wr) (fun _ _ => 0)
  case atStart => exact ⟨rfl, HB1.out⟩
  clear HB1
  case round =>
   obtain ⟨rfl, hb⟩ := hrel
   have HB := Lib.hid hb
   clear hb
   go_wp2
   go_loopw [9] (fun i wr => i = .int .i64 0 ∧ Below w.heap.size w wr) (fun _ _ => 0)
   case atStart => exact ⟨rfl, HB.out⟩
   clear HB
   case round =>
    obtain ⟨rfl, hb⟩ := hrel
    have HB := Lib.hid hb
    clear hb
    go_wp2
    go_loopw [11] (fun i wr => i = .int .i64 0 ∧ Below w.heap.size w wr) (fun _ _ => 0)
    case atStart => exact ⟨rfl, HB.out⟩
    clear HB
    case round =>
     obtain ⟨rfl, hb⟩ := hrel
     have HB := Lib.hid hb
     clear hb
     go_wp2
     go_loopw [14] (fun i wr => i = .int .i64 0 ∧ Below w.heap.size w wr) (fun _ _ => 0)
     case atStart => exact ⟨rfl, HB.out⟩
     clear HB
     case round =>
      obtain ⟨rfl, hb⟩ := hrel
      have HF : Hid (HasPost w true (.returned (.bool true)) _) := ⟨rfl, hb⟩
      clear hb
      go_wp2
      go_ret
      exact HF.out
theorem infoLongs : (Tryz.prog.info? 138).map (fun i => (i.zero, i.size, i.bytes)) = some (some (.slice none 0 0), 1, 24) := by kernel_rfl
set_option maxHeartbeats 2000000 in
theorem flatLongs_nil (w : World) : Calls Tryz.prog 64 #[.slice none 0 0] w (HasPost w true) := by
 obtain ⟨i0, hi, hz0, hz1, hz2⟩ := info_parts infoLongs
 go_enter Tryz.func64, Tryz.ntmps64
 go_wp2
 go_loopw [3] (fun i wr => i = .int .i64 0 ∧ Below w.heap.size w wr) (fun _ _ => 0)
 case atStart => exact ⟨rfl, Below.refl _ _⟩
 case round =>
  obtain ⟨rfl, hb⟩ := hrel
  have HB := Lib.hid hb
  have hbz := hb.size
  clear hb
  go_wp2_with (at_make; refine wpList_make_full _ rfl _ _ 72 rfl wr.heap.size 138 i0 (.slice none 0 0) 1 Tryz.underlying72 hi hz0 hz1 .i64 .i64 0 0 0 rfl rfl rfl rfl ?b1 ?b2 ?b3 ?_)
  case b1 => rw [hz2]; omega
  case b2 => unfold maxLen; omega
  case b3 => exact Nat.le_refl _
  intro w1 ho1 hg1
  have HB1 : Hid (Below w.heap.size w w1) := HB.out.trans ((below_none hg1).mono hbz)
  clear ho1 hg1 HB
  go_wp2
  go_loopw [6] (fun i wr => i = .int .i64 0 ∧ Below w.heap.size w wr) (fun _ _ => 0)
  case atStart => exact ⟨rfl, HB1.out⟩
  clear HB1
  case round =>
   obtain ⟨rfl, hb⟩ := hrel
   have HB := Lib.hid hb
   clear hb
   go_wp2
   go_loopw [9] (fun i wr => i = .int .i64 0 ∧ Below w.heap.size w wr) (fun _ _ => 0)
   case atStart => exact ⟨rfl, HB.out⟩
   clear HB
   case round =>
    obtain ⟨rfl, hb⟩ := hrel
    have HB := Lib.hid hb
    clear hb
    go_wp2
    go_loopw [11] (fun i wr => i = .int .i64 0 ∧ Below w.heap.size w wr) (fun _ _ => 0)
    case atStart => exact ⟨rfl, HB.out⟩
    clear HB
    case round =>
     obtain ⟨rfl, hb⟩ := hrel
     have HB := Lib.hid hb
     clear hb
     go_wp2
     go_loopw [14] (fun i wr => i = .int .i64 0 ∧ Below w.heap.size w wr) (fun _ _ => 0)
     case atStart => exact ⟨rfl, HB.out⟩
     clear HB
     case round =>
      obtain ⟨rfl, hb⟩ := hrel
      have HF : Hid (HasPost w true (.returned (.bool true)) _) := ⟨rfl, hb⟩
      clear hb
      go_wp2
      go_ret
      exact HF.out
theorem infoTexts : (Tryz.prog.info? 139).map (fun i => (i.zero, i.size, i.bytes)) = some (some (.slice none 0 0), 1, 24) := by kernel_rfl
set_option maxHeartbeats 2000000 in
theorem flatTexts_nil (w : World) : Calls Tryz.prog 65 #[.slice none 0 0] w (HasPost w true) := by
 obtain ⟨i0, hi, hz0, hz1, hz2⟩ := info_parts infoTexts
 go_enter Tryz.func65, Tryz.ntmps65
 go_wp2
 go_loopw [3] (fun i wr => i = .int .i64 0 ∧ Below w.heap.size w wr) (fun _ _ => 0)
 case atStart => exact ⟨rfl, Below.refl _ _⟩
 case round =>
  obtain ⟨rfl, hb⟩ := hrel
  have HB := Lib.hid hb
  have hbz := hb.size
  clear hb
  go_wp2_with (at_make; refine wpList_make_full _ rfl _ _ 73 rfl wr.heap.size 139 i0 (.slice none 0 0) 1 Tryz.underlying73 hi hz0 hz1 .i64 .i64 0 0 0 rfl rfl rfl rfl ?b1 ?b2 ?b3 ?_)
  case b1 => rw [hz2]; omega
  case b2 => unfold maxLen; omega
  case b3 => exact Nat.le_refl _
  intro w1 ho1 hg1
  have HB1 : Hid (Below w.heap.size w w1) := HB.out.trans ((below_none hg1).mono hbz)
  clear ho1 hg1 HB
  go_wp2
  go_loopw [6] (fun i wr => i = .int .i64 0 ∧ Below w.heap.size w wr) (fun _ _ => 0)
  case atStart => exact ⟨rfl, HB1.out⟩
  clear HB1
  case round =>
   obtain ⟨rfl, hb⟩ := hrel
   have HB := Lib.hid hb
   clear hb
   go_wp2
   go_loopw [9] (fun i wr => i = .int .i64 0 ∧ Below w.heap.size w wr) (fun _ _ => 0)
   case atStart => exact ⟨rfl, HB.out⟩
   clear HB
   case round =>
    obtain ⟨rfl, hb⟩ := hrel
    have HB := Lib.hid hb
    clear hb
    go_wp2
    go_loopw [11] (fun i wr => i = .int .i64 0 ∧ Below w.heap.size w wr) (fun _ _ => 0)
    case atStart => exact ⟨rfl, HB.out⟩
    clear HB
    case round =>
     obtain ⟨rfl, hb⟩ := hrel
     have HB := Lib.hid hb
     clear hb
     go_wp2
     go_loopw [14] (fun i wr => i = .int .i64 0 ∧ Below w.heap.size w wr) (fun _ _ => 0)
     case atStart => exact ⟨rfl, HB.out⟩
     clear HB
     case round =>
      obtain ⟨rfl, hb⟩ := hrel
      have HF : Hid (HasPost w true (.returned (.bool true)) _) := ⟨rfl, hb⟩
      clear hb
      go_wp2
      go_ret
      exact HF.out
theorem infoBytes : (Tryz.prog.info? 141).map (fun i => (i.zero, i.size, i.bytes)) = some (some (.slice none 0 0), 1, 24) := by kernel_rfl
set_option maxHeartbeats 2000000 in
theorem flatBytes_nil (w : World) : Calls Tryz.prog 66 #[.slice none 0 0] w (HasPost w true) := by
 obtain ⟨i0, hi, hz0, hz1, hz2⟩ := info_parts infoBytes
 go_enter Tryz.func66, Tryz.ntmps66
 go_wp2
 go_loopw [3] (fun i wr => i = .int .i64 0 ∧ Below w.heap.size w wr) (fun _ _ => 0)
 case atStart => exact ⟨rfl, Below.refl _ _⟩
 case round =>
  obtain ⟨rfl, hb⟩ := hrel
  have HB := Lib.hid hb
  have hbz := hb.size
  clear hb
  go_wp2_with (at_make; refine wpList_make_full _ rfl _ _ 74 rfl wr.heap.size 141 i0 (.slice none 0 0) 1 Tryz.underlying74 hi hz0 hz1 .i64 .i64 0 0 0 rfl rfl rfl rfl ?b1 ?b2 ?b3 ?_)
  case b1 => rw [hz2]; omega
  case b2 => unfold maxLen; omega
  case b3 => exact Nat.le_refl _
  intro w1 ho1 hg1
  have HB1 : Hid (Below w.heap.size w w1) := HB.out.trans ((below_none hg1).mono hbz)
  clear ho1 hg1 HB
  go_wp2
  go_loopw [6] (fun i wr => i = .int .i64 0 ∧ Below w.heap.size w wr) (fun _ _ => 0)
  case atStart => exact ⟨rfl, HB1.out⟩
  clear HB1
  case round =>
   obtain ⟨rfl, hb⟩ := hrel
   have HB := Lib.hid hb
   clear hb
   go_wp2
   go_loopw [9] (fun i wr => i = .int .i64 0 ∧ Below w.heap.size w wr) (fun _ _ => 0)
   case atStart => exact ⟨rfl, HB.out⟩
   clear HB
   case round =>
    obtain ⟨rfl, hb⟩ := hrel
    have HB := Lib.hid hb
    clear hb
    go_wp2
    go_loopw [11] (fun i wr => i = .int .i64 0 ∧ Below w.heap.size w wr) (fun _ _ => 0)
    case atStart => exact ⟨rfl, HB.out⟩
    clear HB
    case round =>
     obtain ⟨rfl, hb⟩ := hrel
     have HB := Lib.hid hb
     clear hb
     go_wp2
     go_loopw [14] (fun i wr => i = .int .i64 0 ∧ Below w.heap.size w wr) (fun _ _ => 0)
     case atStart => exact ⟨rfl, HB.out⟩
     clear HB
     case round =>
      obtain ⟨rfl, hb⟩ := hrel
      have HF : Hid (HasPost w true (.returned (.bool true)) _) := ⟨rfl, hb⟩
      clear hb
      go_wp2
      go_ret
      exact HF.out
theorem infoTruths : (Tryz.prog.info? 143).map (fun i => (i.zero, i.size, i.bytes)) = some (some (.slice none 0 0), 1, 24) := by kernel_rfl
set_option maxHeartbeats 2000000 in
theorem flatTruths_nil (w : World) : Calls Tryz.prog 67 #[.slice none 0 0] w (HasPost w true) := by
 obtain ⟨i0, hi, hz0, hz1, hz2⟩ := info_parts infoTruths
 go_enter Tryz.func67, Tryz.ntmps67
 go_wp2
 go_loopw [3] (fun i wr => i = .int .i64 0 ∧ Below w.heap.size w wr) (fun _ _ => 0)
 case atStart => exact ⟨rfl, Below.refl _ _⟩
 case round =>
  obtain ⟨rfl, hb⟩ := hrel
  have HB := Lib.hid hb
  have hbz := hb.size
  clear hb
  go_wp2_with (at_make; refine wpList_make_full _ rfl _ _ 75 rfl wr.heap.size 143 i0 (.slice none 0 0) 1 Tryz.underlying75 hi hz0 hz1 .i64 .i64 0 0 0 rfl rfl rfl rfl ?b1 ?b2 ?b3 ?_)
  case b1 => rw [hz2]; omega
  case b2 => unfold maxLen; omega
  case b3 => exact Nat.le_refl _
  intro w1 ho1 hg1
  have HB1 : Hid (Below w.heap.size w w1) := HB.out.trans ((below_none hg1).mono hbz)
  clear ho1 hg1 HB
  go_wp2
  go_loopw [6] (fun i wr => i = .int .i64 0 ∧ Below w.heap.size w wr) (fun _ _ => 0)
  case atStart => exact ⟨rfl, HB1.out⟩
  clear HB1
  case round =>
   obtain ⟨rfl, hb⟩ := hrel
   have HB := Lib.hid hb
   clear hb
   go_wp2
   go_loopw [9] (fun i wr => i = .int .i64 0 ∧ Below w.heap.size w wr) (fun _ _ => 0)
   case atStart => exact ⟨rfl, HB.out⟩
   clear HB
   case round =>
    obtain ⟨rfl, hb⟩ := hrel
    have HB := Lib.hid hb
    clear hb
    go_wp2
    go_loopw [11] (fun i wr => i = .int .i64 0 ∧ Below w.heap.size w wr) (fun _ _ => 0)
    case atStart => exact ⟨rfl, HB.out⟩
    clear HB
    case round =>
     obtain ⟨rfl, hb⟩ := hrel
     have HB := Lib.hid hb
     clear hb
     go_wp2
     go_loopw [14] (fun i wr => i = .int .i64 0 ∧ Below w.heap.size w wr) (fun _ _ => 0)
     case atStart => exact ⟨rfl, HB.out⟩
     clear HB
     case round =>
      obtain ⟨rfl, hb⟩ := hrel
      have HF : Hid (HasPost w true (.returned (.bool true)) _) := ⟨rfl, hb⟩
      clear hb
      go_wp2
      go_ret
      exact HF.out
theorem infoParts : (Tryz.prog.info? 45).map (fun i => (i.zero, i.size, i.bytes)) = some (some (.slice none 0 0), 1, 24) := by kernel_rfl
set_option maxHeartbeats 2000000 in
theorem flatParts_nil (w : World) : Calls Tryz.prog 68 #[.slice none 0 0] w (HasPost w true) := by
 obtain ⟨i0, hi, hz0, hz1, hz2⟩ := info_parts infoParts
 go_enter Tryz.func68, Tryz.ntmps68
 go_wp2
 go_loopw [3] (fun i wr => i = .int .i64 0 ∧ Below w.heap.size w wr) (fun _ _ => 0)
 case atStart => exact ⟨rfl, Below.refl _ _⟩
 case round =>
  obtain ⟨rfl, hb⟩ := hrel
  have HB := Lib.hid hb
  have hbz := hb.size
  clear hb
  go_wp2_with (at_make; refine wpList_make_full _ rfl _ _ 76 rfl wr.heap.size 45 i0 (.slice none 0 0) 1 Tryz.underlying76 hi hz0 hz1 .i64 .i64 0 0 0 rfl rfl rfl rfl ?b1 ?b2 ?b3 ?_)
  case b1 => rw [hz2]; omega
  case b2 => unfold maxLen; omega
  case b3 => exact Nat.le_refl _
  intro w1 ho1 hg1
  have HB1 : Hid (Below w.heap.size w w1) := HB.out.trans ((below_none hg1).mono hbz)
  clear ho1 hg1 HB
  go_wp2
  go_loopw [6] (fun i wr => i = .int .i64 0 ∧ Below w.heap.size w wr) (fun _ _ => 0)
  case atStart => exact ⟨rfl, HB1.out⟩
  clear HB1
  case round =>
   obtain ⟨rfl, hb⟩ := hrel
   have HB := Lib.hid hb
   clear hb
   go_wp2
   go_loopw [9] (fun i wr => i = .int .i64 0 ∧ Below w.heap.size w wr) (fun _ _ => 0)
   case atStart => exact ⟨rfl, HB.out⟩
   clear HB
   case round =>
    obtain ⟨rfl, hb⟩ := hrel
    have HB := Lib.hid hb
    clear hb
    go_wp2
    go_loopw [11] (fun i wr => i = .int .i64 0 ∧ Below w.heap.size w wr) (fun _ _ => 0)
    case atStart => exact ⟨rfl, HB.out⟩
    clear HB
    case round =>
     obtain ⟨rfl, hb⟩ := hrel
     have HB := Lib.hid hb
     clear hb
     go_wp2
     go_loopw [14] (fun i wr => i = .int .i64 0 ∧ Below w.heap.size w wr) (fun _ _ => 0)
     case atStart => exact ⟨rfl, HB.out⟩
     clear HB
     case round =>
      obtain ⟨rfl, hb⟩ := hrel
      have HF : Hid (HasPost w true (.returned (.bool true)) _) := ⟨rfl, hb⟩
      clear hb
      go_wp2
      go_ret
      exact HF.out
theorem infoLevels : (Tryz.prog.info? 23).map (fun i => (i.zero, i.size, i.bytes)) = some (some (.slice none 0 0), 1, 24) := by kernel_rfl
set_option maxHeartbeats 2000000 in
theorem flatLevels_nil (w : World) : Calls Tryz.prog 69 #[.slice none 0 0] w (HasPost w true) := by
 obtain ⟨i0, hi, hz0, hz1, hz2⟩ := info_parts infoLevels
 go_enter Tryz.func69, Tryz.ntmps69
 go_wp2
 go_loopw [3] (fun i wr => i = .int .i64 0 ∧ Below w.heap.size w wr) (fun _ _ => 0)
 case atStart => exact ⟨rfl, Below.refl _ _⟩
 case round =>
  obtain ⟨rfl, hb⟩ := hrel
  have HB := Lib.hid hb
  have hbz := hb.size
  clear hb
  go_wp2_with (at_make; refine wpList_make_full _ rfl _ _ 77 rfl wr.heap.size 23 i0 (.slice none 0 0) 1 Tryz.underlying77 hi hz0 hz1 .i64 .i64 0 0 0 rfl rfl rfl rfl ?b1 ?b2 ?b3 ?_)
  case b1 => rw [hz2]; omega
  case b2 => unfold maxLen; omega
  case b3 => exact Nat.le_refl _
  intro w1 ho1 hg1
  have HB1 : Hid (Below w.heap.size w w1) := HB.out.trans ((below_none hg1).mono hbz)
  clear ho1 hg1 HB
  go_wp2
  go_loopw [6] (fun i wr => i = .int .i64 0 ∧ Below w.heap.size w wr) (fun _ _ => 0)
  case atStart => exact ⟨rfl, HB1.out⟩
  clear HB1
  case round =>
   obtain ⟨rfl, hb⟩ := hrel
   have HB := Lib.hid hb
   clear hb
   go_wp2
   go_loopw [9] (fun i wr => i = .int .i64 0 ∧ Below w.heap.size w wr) (fun _ _ => 0)
   case atStart => exact ⟨rfl, HB.out⟩
   clear HB
   case round =>
    obtain ⟨rfl, hb⟩ := hrel
    have HB := Lib.hid hb
    clear hb
    go_wp2
    go_loopw [11] (fun i wr => i = .int .i64 0 ∧ Below w.heap.size w wr) (fun _ _ => 0)
    case atStart => exact ⟨rfl, HB.out⟩
    clear HB
    case round =>
     obtain ⟨rfl, hb⟩ := hrel
     have HB := Lib.hid hb
     clear hb
     go_wp2
     go_loopw [14] (fun i wr => i = .int .i64 0 ∧ Below w.heap.size w wr) (fun _ _ => 0)
     case atStart => exact ⟨rfl, HB.out⟩
     clear HB
     case round =>
      obtain ⟨rfl, hb⟩ := hrel
      have HF : Hid (HasPost w true (.returned (.bool true)) _) := ⟨rfl, hb⟩
      clear hb
      go_wp2
      go_ret
      exact HF.out
theorem infoTerms : (Tryz.prog.info? 24).map (fun i => (i.zero, i.size, i.bytes)) = some (some (.slice none 0 0), 1, 24) := by kernel_rfl
set_option maxHeartbeats 2000000 in
theorem flatTerms_nil (w : World) : Calls Tryz.prog 70 #[.slice none 0 0] w (HasPost w true) := by
 obtain ⟨i0, hi, hz0, hz1, hz2⟩ := info_parts infoTerms
 go_enter Tryz.func70, Tryz.ntmps70
 go_wp2
 go_loopw [3] (fun i wr => i = .int .i64 0 ∧ Below w.heap.size w wr) (fun _ _ => 0)
 case atStart => exact ⟨rfl, Below.refl _ _⟩
 case round =>
  obtain ⟨rfl, hb⟩ := hrel
  have HB := Lib.hid hb
  have hbz := hb.size
  clear hb
  go_wp2_with (at_make; refine wpList_make_full _ rfl _ _ 42 rfl wr.heap.size 24 i0 (.slice none 0 0) 1 Tryz.underlying42 hi hz0 hz1 .i64 .i64 0 0 0 rfl rfl rfl rfl ?b1 ?b2 ?b3 ?_)
  case b1 => rw [hz2]; omega
  case b2 => unfold maxLen; omega
  case b3 => exact Nat.le_refl _
  intro w1 ho1 hg1
  have HB1 : Hid (Below w.heap.size w w1) := HB.out.trans ((below_none hg1).mono hbz)
  clear ho1 hg1 HB
  go_wp2
  go_loopw [6] (fun i wr => i = .int .i64 0 ∧ Below w.heap.size w wr) (fun _ _ => 0)
  case atStart => exact ⟨rfl, HB1.out⟩
  clear HB1
  case round =>
   obtain ⟨rfl, hb⟩ := hrel
   have HB := Lib.hid hb
   clear hb
   go_wp2
   go_loopw [9] (fun i wr => i = .int .i64 0 ∧ Below w.heap.size w wr) (fun _ _ => 0)
   case atStart => exact ⟨rfl, HB.out⟩
   clear HB
   case round =>
    obtain ⟨rfl, hb⟩ := hrel
    have HB := Lib.hid hb
    clear hb
    go_wp2
    go_loopw [11] (fun i wr => i = .int .i64 0 ∧ Below w.heap.size w wr) (fun _ _ => 0)
    case atStart => exact ⟨rfl, HB.out⟩
    clear HB
    case round =>
     obtain ⟨rfl, hb⟩ := hrel
     have HB := Lib.hid hb
     clear hb
     go_wp2
     go_loopw [14] (fun i wr => i = .int .i64 0 ∧ Below w.heap.size w wr) (fun _ _ => 0)
     case atStart => exact ⟨rfl, HB.out⟩
     clear HB
     case round =>
      obtain ⟨rfl, hb⟩ := hrel
      have HF : Hid (HasPost w true (.returned (.bool true)) _) := ⟨rfl, hb⟩
      clear hb
      go_wp2
      go_ret
      exact HF.out
theorem infoMembers : (Tryz.prog.info? 144).map (fun i => (i.zero, i.size, i.bytes)) = some (some (.slice none 0 0), 1, 24) := by kernel_rfl
set_option maxHeartbeats 2000000 in
theorem flatMembers_nil (w : World) : Calls Tryz.prog 71 #[.slice none 0 0] w (HasPost w true) := by
 obtain ⟨i0, hi, hz0, hz1, hz2⟩ := info_parts infoMembers
 go_enter Tryz.func71, Tryz.ntmps71
 go_wp2
 go_loopw [3] (fun i wr => i = .int .i64 0 ∧ Below w.heap.size w wr) (fun _ _ => 0)
 case atStart => exact ⟨rfl, Below.refl _ _⟩
 case round =>
  obtain ⟨rfl, hb⟩ := hrel
  have HB := Lib.hid hb
  have hbz := hb.size
  clear hb
  go_wp2_with (at_make; refine wpList_make_full _ rfl _ _ 78 rfl wr.heap.size 144 i0 (.slice none 0 0) 1 Tryz.underlying78 hi hz0 hz1 .i64 .i64 0 0 0 rfl rfl rfl rfl ?b1 ?b2 ?b3 ?_)
  case b1 => rw [hz2]; omega
  case b2 => unfold maxLen; omega
  case b3 => exact Nat.le_refl _
  intro w1 ho1 hg1
  have HB1 : Hid (Below w.heap.size w w1) := HB.out.trans ((below_none hg1).mono hbz)
  clear ho1 hg1 HB
  go_wp2
  go_loopw [6] (fun i wr => i = .int .i64 0 ∧ Below w.heap.size w wr) (fun _ _ => 0)
  case atStart => exact ⟨rfl, HB1.out⟩
  clear HB1
  case round =>
   obtain ⟨rfl, hb⟩ := hrel
   have HB := Lib.hid hb
   clear hb
   go_wp2
   go_loopw [9] (fun i wr => i = .int .i64 0 ∧ Below w.heap.size w wr) (fun _ _ => 0)
   case atStart => exact ⟨rfl, HB.out⟩
   clear HB
   case round =>
    obtain ⟨rfl, hb⟩ := hrel
    have HB := Lib.hid hb
    clear hb
    go_wp2
    go_loopw [11] (fun i wr => i = .int .i64 0 ∧ Below w.heap.size w wr) (fun _ _ => 0)
    case atStart => exact ⟨rfl, HB.out⟩
    clear HB
    case round =>
     obtain ⟨rfl, hb⟩ := hrel
     have HB := Lib.hid hb
     clear hb
     go_wp2
     go_loopw [14] (fun i wr => i = .int .i64 0 ∧ Below w.heap.size w wr) (fun _ _ => 0)
     case atStart => exact ⟨rfl, HB.out⟩
     clear HB
     case round =>
      obtain ⟨rfl, hb⟩ := hrel
      have HF : Hid (HasPost w true (.returned (.bool true)) _) := ⟨rfl, hb⟩
      clear hb
      go_wp2
      go_ret
      exact HF.out
theorem infoCtors : (Tryz.prog.info? 149).map (fun i => (i.zero, i.size, i.bytes)) = some (some (.slice none 0 0), 1, 24) := by kernel_rfl
set_option maxHeartbeats 2000000 in
theorem flatCtors_nil (w : World) : Calls Tryz.prog 72 #[.slice none 0 0] w (HasPost w true) := by
 obtain ⟨i0, hi, hz0, hz1, hz2⟩ := info_parts infoCtors
 go_enter Tryz.func72, Tryz.ntmps72
 go_wp2
 go_loopw [3] (fun i wr => i = .int .i64 0 ∧ Below w.heap.size w wr) (fun _ _ => 0)
 case atStart => exact ⟨rfl, Below.refl _ _⟩
 case round =>
  obtain ⟨rfl, hb⟩ := hrel
  have HB := Lib.hid hb
  have hbz := hb.size
  clear hb
  go_wp2_with (at_make; refine wpList_make_full _ rfl _ _ 79 rfl wr.heap.size 149 i0 (.slice none 0 0) 1 Tryz.underlying79 hi hz0 hz1 .i64 .i64 0 0 0 rfl rfl rfl rfl ?b1 ?b2 ?b3 ?_)
  case b1 => rw [hz2]; omega
  case b2 => unfold maxLen; omega
  case b3 => exact Nat.le_refl _
  intro w1 ho1 hg1
  have HB1 : Hid (Below w.heap.size w w1) := HB.out.trans ((below_none hg1).mono hbz)
  clear ho1 hg1 HB
  go_wp2
  go_loopw [6] (fun i wr => i = .int .i64 0 ∧ Below w.heap.size w wr) (fun _ _ => 0)
  case atStart => exact ⟨rfl, HB1.out⟩
  clear HB1
  case round =>
   obtain ⟨rfl, hb⟩ := hrel
   have HB := Lib.hid hb
   clear hb
   go_wp2
   go_loopw [9] (fun i wr => i = .int .i64 0 ∧ Below w.heap.size w wr) (fun _ _ => 0)
   case atStart => exact ⟨rfl, HB.out⟩
   clear HB
   case round =>
    obtain ⟨rfl, hb⟩ := hrel
    have HB := Lib.hid hb
    clear hb
    go_wp2
    go_loopw [11] (fun i wr => i = .int .i64 0 ∧ Below w.heap.size w wr) (fun _ _ => 0)
    case atStart => exact ⟨rfl, HB.out⟩
    clear HB
    case round =>
     obtain ⟨rfl, hb⟩ := hrel
     have HB := Lib.hid hb
     clear hb
     go_wp2
     go_loopw [14] (fun i wr => i = .int .i64 0 ∧ Below w.heap.size w wr) (fun _ _ => 0)
     case atStart => exact ⟨rfl, HB.out⟩
     clear HB
     case round =>
      obtain ⟨rfl, hb⟩ := hrel
      have HF : Hid (HasPost w true (.returned (.bool true)) _) := ⟨rfl, hb⟩
      clear hb
      go_wp2
      go_ret
      exact HF.out
theorem infoDecls : (Tryz.prog.info? 154).map (fun i => (i.zero, i.size, i.bytes)) = some (some (.slice none 0 0), 1, 24) := by kernel_rfl
set_option maxHeartbeats 2000000 in
theorem flatDecls_nil (w : World) : Calls Tryz.prog 73 #[.slice none 0 0] w (HasPost w true) := by
 obtain ⟨i0, hi, hz0, hz1, hz2⟩ := info_parts infoDecls
 go_enter Tryz.func73, Tryz.ntmps73
 go_wp2
 go_loopw [3] (fun i wr => i = .int .i64 0 ∧ Below w.heap.size w wr) (fun _ _ => 0)
 case atStart => exact ⟨rfl, Below.refl _ _⟩
 case round =>
  obtain ⟨rfl, hb⟩ := hrel
  have HB := Lib.hid hb
  have hbz := hb.size
  clear hb
  go_wp2_with (at_make; refine wpList_make_full _ rfl _ _ 80 rfl wr.heap.size 154 i0 (.slice none 0 0) 1 Tryz.underlying80 hi hz0 hz1 .i64 .i64 0 0 0 rfl rfl rfl rfl ?b1 ?b2 ?b3 ?_)
  case b1 => rw [hz2]; omega
  case b2 => unfold maxLen; omega
  case b3 => exact Nat.le_refl _
  intro w1 ho1 hg1
  have HB1 : Hid (Below w.heap.size w w1) := HB.out.trans ((below_none hg1).mono hbz)
  clear ho1 hg1 HB
  go_wp2
  go_loopw [6] (fun i wr => i = .int .i64 0 ∧ Below w.heap.size w wr) (fun _ _ => 0)
  case atStart => exact ⟨rfl, HB1.out⟩
  clear HB1
  case round =>
   obtain ⟨rfl, hb⟩ := hrel
   have HB := Lib.hid hb
   clear hb
   go_wp2
   go_loopw [9] (fun i wr => i = .int .i64 0 ∧ Below w.heap.size w wr) (fun _ _ => 0)
   case atStart => exact ⟨rfl, HB.out⟩
   clear HB
   case round =>
    obtain ⟨rfl, hb⟩ := hrel
    have HB := Lib.hid hb
    clear hb
    go_wp2
    go_loopw [11] (fun i wr => i = .int .i64 0 ∧ Below w.heap.size w wr) (fun _ _ => 0)
    case atStart => exact ⟨rfl, HB.out⟩
    clear HB
    case round =>
     obtain ⟨rfl, hb⟩ := hrel
     have HB := Lib.hid hb
     clear hb
     go_wp2
     go_loopw [14] (fun i wr => i = .int .i64 0 ∧ Below w.heap.size w wr) (fun _ _ => 0)
     case atStart => exact ⟨rfl, HB.out⟩
     clear HB
     case round =>
      obtain ⟨rfl, hb⟩ := hrel
      have HF : Hid (HasPost w true (.returned (.bool true)) _) := ⟨rfl, hb⟩
      clear hb
      go_wp2
      go_ret
      exact HF.out
theorem infoArgs : (Tryz.prog.info? 160).map (fun i => (i.zero, i.size, i.bytes)) = some (some (.slice none 0 0), 1, 24) := by kernel_rfl
set_option maxHeartbeats 2000000 in
theorem flatArgs_nil (w : World) : Calls Tryz.prog 74 #[.slice none 0 0] w (HasPost w true) := by
 obtain ⟨i0, hi, hz0, hz1, hz2⟩ := info_parts infoArgs
 go_enter Tryz.func74, Tryz.ntmps74
 go_wp2
 go_loopw [3] (fun i wr => i = .int .i64 0 ∧ Below w.heap.size w wr) (fun _ _ => 0)
 case atStart => exact ⟨rfl, Below.refl _ _⟩
 case round =>
  obtain ⟨rfl, hb⟩ := hrel
  have HB := Lib.hid hb
  have hbz := hb.size
  clear hb
  go_wp2_with (at_make; refine wpList_make_full _ rfl _ _ 81 rfl wr.heap.size 160 i0 (.slice none 0 0) 1 Tryz.underlying81 hi hz0 hz1 .i64 .i64 0 0 0 rfl rfl rfl rfl ?b1 ?b2 ?b3 ?_)
  case b1 => rw [hz2]; omega
  case b2 => unfold maxLen; omega
  case b3 => exact Nat.le_refl _
  intro w1 ho1 hg1
  have HB1 : Hid (Below w.heap.size w w1) := HB.out.trans ((below_none hg1).mono hbz)
  clear ho1 hg1 HB
  go_wp2
  go_loopw [6] (fun i wr => i = .int .i64 0 ∧ Below w.heap.size w wr) (fun _ _ => 0)
  case atStart => exact ⟨rfl, HB1.out⟩
  clear HB1
  case round =>
   obtain ⟨rfl, hb⟩ := hrel
   have HB := Lib.hid hb
   clear hb
   go_wp2
   go_loopw [9] (fun i wr => i = .int .i64 0 ∧ Below w.heap.size w wr) (fun _ _ => 0)
   case atStart => exact ⟨rfl, HB.out⟩
   clear HB
   case round =>
    obtain ⟨rfl, hb⟩ := hrel
    have HB := Lib.hid hb
    clear hb
    go_wp2
    go_loopw [11] (fun i wr => i = .int .i64 0 ∧ Below w.heap.size w wr) (fun _ _ => 0)
    case atStart => exact ⟨rfl, HB.out⟩
    clear HB
    case round =>
     obtain ⟨rfl, hb⟩ := hrel
     have HB := Lib.hid hb
     clear hb
     go_wp2
     go_loopw [14] (fun i wr => i = .int .i64 0 ∧ Below w.heap.size w wr) (fun _ _ => 0)
     case atStart => exact ⟨rfl, HB.out⟩
     clear HB
     case round =>
      obtain ⟨rfl, hb⟩ := hrel
      have HF : Hid (HasPost w true (.returned (.bool true)) _) := ⟨rfl, hb⟩
      clear hb
      go_wp2
      go_ret
      exact HF.out
theorem infoRules : (Tryz.prog.info? 165).map (fun i => (i.zero, i.size, i.bytes)) = some (some (.slice none 0 0), 1, 24) := by kernel_rfl
set_option maxHeartbeats 2000000 in
theorem flatRules_nil (w : World) : Calls Tryz.prog 75 #[.slice none 0 0] w (HasPost w true) := by
 obtain ⟨i0, hi, hz0, hz1, hz2⟩ := info_parts infoRules
 go_enter Tryz.func75, Tryz.ntmps75
 go_wp2
 go_loopw [3] (fun i wr => i = .int .i64 0 ∧ Below w.heap.size w wr) (fun _ _ => 0)
 case atStart => exact ⟨rfl, Below.refl _ _⟩
 case round =>
  obtain ⟨rfl, hb⟩ := hrel
  have HB := Lib.hid hb
  have hbz := hb.size
  clear hb
  go_wp2_with (at_make; refine wpList_make_full _ rfl _ _ 82 rfl wr.heap.size 165 i0 (.slice none 0 0) 1 Tryz.underlying82 hi hz0 hz1 .i64 .i64 0 0 0 rfl rfl rfl rfl ?b1 ?b2 ?b3 ?_)
  case b1 => rw [hz2]; omega
  case b2 => unfold maxLen; omega
  case b3 => exact Nat.le_refl _
  intro w1 ho1 hg1
  have HB1 : Hid (Below w.heap.size w w1) := HB.out.trans ((below_none hg1).mono hbz)
  clear ho1 hg1 HB
  go_wp2
  go_loopw [6] (fun i wr => i = .int .i64 0 ∧ Below w.heap.size w wr) (fun _ _ => 0)
  case atStart => exact ⟨rfl, HB1.out⟩
  clear HB1
  case round =>
   obtain ⟨rfl, hb⟩ := hrel
   have HB := Lib.hid hb
   clear hb
   go_wp2
   go_loopw [9] (fun i wr => i = .int .i64 0 ∧ Below w.heap.size w wr) (fun _ _ => 0)
   case atStart => exact ⟨rfl, HB.out⟩
   clear HB
   case round =>
    obtain ⟨rfl, hb⟩ := hrel
    have HB := Lib.hid hb
    clear hb
    go_wp2
    go_loopw [11] (fun i wr => i = .int .i64 0 ∧ Below w.heap.size w wr) (fun _ _ => 0)
    case atStart => exact ⟨rfl, HB.out⟩
    clear HB
    case round =>
     obtain ⟨rfl, hb⟩ := hrel
     have HB := Lib.hid hb
     clear hb
     go_wp2
     go_loopw [14] (fun i wr => i = .int .i64 0 ∧ Below w.heap.size w wr) (fun _ _ => 0)
     case atStart => exact ⟨rfl, HB.out⟩
     clear HB
     case round =>
      obtain ⟨rfl, hb⟩ := hrel
      have HF : Hid (HasPost w true (.returned (.bool true)) _) := ⟨rfl, hb⟩
      clear hb
      go_wp2
      go_ret
      exact HF.out
theorem infoCores : (Tryz.prog.info? 170).map (fun i => (i.zero, i.size, i.bytes)) = some (some (.slice none 0 0), 1, 24) := by kernel_rfl
set_option maxHeartbeats 2000000 in
theorem flatCores_nil (w : World) : Calls Tryz.prog 76 #[.slice none 0 0] w (HasPost w true) := by
 obtain ⟨i0, hi, hz0, hz1, hz2⟩ := info_parts infoCores
 go_enter Tryz.func76, Tryz.ntmps76
 go_wp2
 go_loopw [3] (fun i wr => i = .int .i64 0 ∧ Below w.heap.size w wr) (fun _ _ => 0)
 case atStart => exact ⟨rfl, Below.refl _ _⟩
 case round =>
  obtain ⟨rfl, hb⟩ := hrel
  have HB := Lib.hid hb
  have hbz := hb.size
  clear hb
  go_wp2_with (at_make; refine wpList_make_full _ rfl _ _ 83 rfl wr.heap.size 170 i0 (.slice none 0 0) 1 Tryz.underlying83 hi hz0 hz1 .i64 .i64 0 0 0 rfl rfl rfl rfl ?b1 ?b2 ?b3 ?_)
  case b1 => rw [hz2]; omega
  case b2 => unfold maxLen; omega
  case b3 => exact Nat.le_refl _
  intro w1 ho1 hg1
  have HB1 : Hid (Below w.heap.size w w1) := HB.out.trans ((below_none hg1).mono hbz)
  clear ho1 hg1 HB
  go_wp2
  go_loopw [6] (fun i wr => i = .int .i64 0 ∧ Below w.heap.size w wr) (fun _ _ => 0)
  case atStart => exact ⟨rfl, HB1.out⟩
  clear HB1
  case round =>
   obtain ⟨rfl, hb⟩ := hrel
   have HB := Lib.hid hb
   clear hb
   go_wp2
   go_loopw [9] (fun i wr => i = .int .i64 0 ∧ Below w.heap.size w wr) (fun _ _ => 0)
   case atStart => exact ⟨rfl, HB.out⟩
   clear HB
   case round =>
    obtain ⟨rfl, hb⟩ := hrel
    have HB := Lib.hid hb
    clear hb
    go_wp2
    go_loopw [11] (fun i wr => i = .int .i64 0 ∧ Below w.heap.size w wr) (fun _ _ => 0)
    case atStart => exact ⟨rfl, HB.out⟩
    clear HB
    case round =>
     obtain ⟨rfl, hb⟩ := hrel
     have HB := Lib.hid hb
     clear hb
     go_wp2
     go_loopw [14] (fun i wr => i = .int .i64 0 ∧ Below w.heap.size w wr) (fun _ _ => 0)
     case atStart => exact ⟨rfl, HB.out⟩
     clear HB
     case round =>
      obtain ⟨rfl, hb⟩ := hrel
      have HF : Hid (HasPost w true (.returned (.bool true)) _) := ⟨rfl, hb⟩
      clear hb
      go_wp2
      go_ret
      exact HF.out
theorem infoEnvs : (Tryz.prog.info? 175).map (fun i => (i.zero, i.size, i.bytes)) = some (some (.slice none 0 0), 1, 24) := by kernel_rfl
set_option maxHeartbeats 2000000 in
theorem flatEnvs_nil (w : World) : Calls Tryz.prog 77 #[.slice none 0 0] w (HasPost w true) := by
 obtain ⟨i0, hi, hz0, hz1, hz2⟩ := info_parts infoEnvs
 go_enter Tryz.func77, Tryz.ntmps77
 go_wp2
 go_loopw [3] (fun i wr => i = .int .i64 0 ∧ Below w.heap.size w wr) (fun _ _ => 0)
 case atStart => exact ⟨rfl, Below.refl _ _⟩
 case round =>
  obtain ⟨rfl, hb⟩ := hrel
  have HB := Lib.hid hb
  have hbz := hb.size
  clear hb
  go_wp2_with (at_make; refine wpList_make_full _ rfl _ _ 84 rfl wr.heap.size 175 i0 (.slice none 0 0) 1 Tryz.underlying84 hi hz0 hz1 .i64 .i64 0 0 0 rfl rfl rfl rfl ?b1 ?b2 ?b3 ?_)
  case b1 => rw [hz2]; omega
  case b2 => unfold maxLen; omega
  case b3 => exact Nat.le_refl _
  intro w1 ho1 hg1
  have HB1 : Hid (Below w.heap.size w w1) := HB.out.trans ((below_none hg1).mono hbz)
  clear ho1 hg1 HB
  go_wp2
  go_loopw [6] (fun i wr => i = .int .i64 0 ∧ Below w.heap.size w wr) (fun _ _ => 0)
  case atStart => exact ⟨rfl, HB1.out⟩
  clear HB1
  case round =>
   obtain ⟨rfl, hb⟩ := hrel
   have HB := Lib.hid hb
   clear hb
   go_wp2
   go_loopw [9] (fun i wr => i = .int .i64 0 ∧ Below w.heap.size w wr) (fun _ _ => 0)
   case atStart => exact ⟨rfl, HB.out⟩
   clear HB
   case round =>
    obtain ⟨rfl, hb⟩ := hrel
    have HB := Lib.hid hb
    clear hb
    go_wp2
    go_loopw [11] (fun i wr => i = .int .i64 0 ∧ Below w.heap.size w wr) (fun _ _ => 0)
    case atStart => exact ⟨rfl, HB.out⟩
    clear HB
    case round =>
     obtain ⟨rfl, hb⟩ := hrel
     have HB := Lib.hid hb
     clear hb
     go_wp2
     go_loopw [14] (fun i wr => i = .int .i64 0 ∧ Below w.heap.size w wr) (fun _ _ => 0)
     case atStart => exact ⟨rfl, HB.out⟩
     clear HB
     case round =>
      obtain ⟨rfl, hb⟩ := hrel
      have HF : Hid (HasPost w true (.returned (.bool true)) _) := ⟨rfl, hb⟩
      clear hb
      go_wp2
      go_ret
      exact HF.out
def TypeAt (w : World) (r : Option Nat) (t : TypeId) : Prop := ∀ b, r = some b → ∃ cs fr, w.heap[b]? = some (.cells cs t fr)
theorem own_at {w : World} {B : Nat} {e : TypeId} {s : Nat} {v : Value} {n : Nat} {xs : List Value} (h : w.ownsRow B e s v n xs) : TypeAt w v.ownBlock e := fun b hb => by
 rcases h.2 with ⟨rfl, _⟩ | ⟨g, cap, cur, rfl, _, hh, _⟩
 ·simp [Value.ownBlock] at hb
 ·have : g = b := by simpa [Value.ownBlock] using hb
  subst this
  exact ⟨cur, _, hh⟩
theorem own_keptT {w w' : World} {B : Nat} {e t : TypeId} {s : Nat} {v : Value} {n : Nat} {xs : List Value} {r : Option Nat} (h : w.ownsRow B e s v n xs) (hg : w.grownBy w' r) (hr : TypeAt w r t) (hne : e ≠ t) : w'.ownsRow B e s v n xs :=
 kept_ne h hg fun b hb e' => by
  obtain ⟨cs, fr, h1⟩ := own_at h b hb
  obtain ⟨cs', fr', h2⟩ := hr b e'.symm
  rw [h1] at h2
  injection h2 with h2
  injection h2 with _ h2
  exact hne h2
def slV (p : Sl) : Value := .slice p.1 p.2.1 p.2.2
def LvlRow (w : World) (p : Sl) (qs : List Sl) : Prop := qs.length = p.2.1 ∧ ∀ (k : Nat) (q : Sl), qs[k]? = some q → ∃ g, p.1 = some ⟨g, 0, none⟩ ∧ g < w.heap.size ∧ w.cell? ⟨g, k, none⟩ = some (slV q)
def YesPost (B : Nat) (w : World) (e : Ending) (w' : World) : Prop := e = .returned (.bool true) ∧ Below B w w'
theorem flatParts_row (w : World) (B B0 : Nat) (L : List Sl) (X : Nat → List Value) (v : Value) (hr : w.ownsRow B0 45 1 v L.length (L.map slV)) (hF : Fleet w B 95 2 L X) (hB : B ≤ w.heap.size) (hn : ∀ p ∈ L, p.2.1 ≤ 1000000) (hm : L.length ≤ 400000) :
  Calls Tryz.prog 68 #[v] w (FlatPost w L) := by
 rcases hr.2 with ⟨rfl, h0⟩ | ⟨g, cap, cur, rfl, _, hh, _⟩
 ·exact (flatParts_nil w).mono fun e w' h => ⟨h.1, (Sea.refl w L).below h.2⟩
 ·refine flatParts_any w B g cap L L.length X rfl hm (heap_some_lt hh) (fun p hp e => ?_) (fun k p hp => ?_) hF hB hn
  ·obtain ⟨k, hk⟩ := List.getElem?_of_mem hp
   obtain ⟨cs, fr, h1⟩ := own_at (hF.own k p hk) g e
   rw [hh] at h1
   injection h1 with h1
   injection h1 with _ h1
   exact absurd h1 (by decide)
  ·have hk := (List.getElem?_eq_some_iff.1 hp).1
   rw [hr.cellAt k (by omega), List.getElem?_map, hp]
   rfl
theorem flatLevels_row (w : World) (B B0 : Nat) (L : List Sl) (X : Nat → List Value) (v : Value) (hr : w.ownsRow B0 23 1 v L.length (L.map slV)) (hF : Fleet w B 47 1 L X) (hB : B ≤ w.heap.size) (hn : ∀ p ∈ L, p.2.1 ≤ 1000000) (hm : L.length ≤ 400000) :
  Calls Tryz.prog 69 #[v] w (FlatPost w L) := by
 rcases hr.2 with ⟨rfl, h0⟩ | ⟨g, cap, cur, rfl, _, hh, _⟩
 ·exact (flatLevels_nil w).mono fun e w' h => ⟨h.1, (Sea.refl w L).below h.2⟩
 ·refine flatLevels_any w B g cap L L.length X rfl hm (heap_some_lt hh) (fun p hp e => ?_) (fun k p hp => ?_) hF hB hn
  ·obtain ⟨k, hk⟩ := List.getElem?_of_mem hp
   obtain ⟨cs, fr, h1⟩ := own_at (hF.own k p hk) g e
   rw [hh] at h1
   injection h1 with h1
   injection h1 with _ h1
   exact absurd h1 (by decide)
  ·have hk := (List.getElem?_eq_some_iff.1 hp).1
   rw [hr.cellAt k (by omega), List.getElem?_map, hp]
   rfl
end Go.Proofs.YtafgmndlbbjphaaGreatDoor
