/- What spandrelkit's marks answer: a number, and a part with it. -/
import Derived.Test.YtldalfikpklfdaaGreatLvAll2
namespace Go.Proofs.YtldalfikpklfdaaGreat
open Go.RowKit Go.Maps

set_option maxRecDepth 100000 in
set_option maxHeartbeats 1000000 in
theorem mark_any (k i : Int) (w : World) (hk : 0 ≤ k ∧ k ≤ 1000000) (hi : 0 ≤ i ∧ i ≤ 1000000000) :
    Calls Tryz.prog 76 #[.int .i64 k, .int .i64 i] w (NumPost w (1000003 * (k + 7) + i)) := by
  have q1 : IntKind.i64.wrap (k + 7) = k + 7 := IntWalk.i64_in _ (by omega)
  have q2 : IntKind.i64.wrap (1000003 * (k + 7)) = 1000003 * (k + 7) := IntWalk.i64_in _ (by omega)
  have q3 : IntKind.i64.wrap (1000003 * (k + 7) + i) = 1000003 * (k + 7) + i := IntWalk.i64_in _ (by omega)
  have HF : Hid (NumPost w (1000003 * (k + 7) + i) (.returned (.int .i64 (1000003 * (k + 7) + i))) w) := ⟨rfl, Below.refl _ _⟩
  go_enter Tryz.func76, Tryz.ntmps76
  go_wp2
  go_ret
  exact HF.out

/-- a part: variable 0, and a mark -/
def PartPost (w : World) (x y : Int) (e : Ending) (w' : World) : Prop := e = .returned (.agg #[.int .i64 x, .int .i64 y]) ∧ Below w.heap.size w w'
set_option maxRecDepth 100000 in
set_option maxHeartbeats 1000000 in
theorem markPart_any (k i : Int) (w : World) (hk : 0 ≤ k ∧ k ≤ 1000000) (hi : 0 ≤ i ∧ i ≤ 1000000000) :
    Calls Tryz.prog 49 #[.int .i64 k, .int .i64 i] w (PartPost w 0 (1000003 * (k + 7) + i)) := by
  have hfd := field_parts
  have X1 := Lib.hid (heap_alloc_new w (.cells #[.int .i64 0, .int .i64 0] 47))
  have HB := Lib.hid ((Below.refl w.heap.size w).alloc (Nat.le_refl _) (.cells #[.int .i64 0, .int .i64 0] 47))
  have HM := Lib.hid (mark_any k i (w.alloc (.cells #[.int .i64 0, .int .i64 0] 47)) hk hi)
  obtain ⟨m, hm⟩ : ∃ m, 1000003 * (k + 7) + i = m := ⟨_, rfl⟩
  rw [hm] at HM ⊢
  clear hm hk hi
  go_enter Tryz.func49, Tryz.ntmps49
  go_wp2_with (fail)
  refine HM.out.mono ?_
  rintro e w1 ⟨rfl, hb1⟩
  have hr := (hb1.block w.heap.size (by simp)).trans X1.out
  have f1 : w1.cell? ⟨w.heap.size, 0, none⟩ = some (.int .i64 0) := cell_of_row _ _ 0 _ _ (0, 0) hr
  have f2 : w1.cell? ⟨w.heap.size, 1, none⟩ = some (.int .i64 0) := cell_of_row _ _ 1 _ _ (0, 0) hr
  have z1 : w1.frozen? ⟨w.heap.size, 0, none⟩ = false := by simp [World.frozen?, hr]
  have z2 : w1.frozen? ⟨w.heap.size, 1, none⟩ = false := by simp [World.frozen?, hr]
  have HBB := Lib.hid (HB.out.trans (hb1.mono (by simp)))
  clear hb1 hr
  have hs1 : ((w1.setCell ⟨w.heap.size, 0, none⟩ (.int .i64 0)).setCell ⟨w.heap.size, 1, none⟩ (.int .i64 m)).cell? ⟨w.heap.size, 0, none⟩ = some (.int .i64 0) := (World.cell?_setCell_other _ _ _ _ (by simp)).trans (World.cell?_setCell_same _ _ _ f1)
  have hs2 : ((w1.setCell ⟨w.heap.size, 0, none⟩ (.int .i64 0)).setCell ⟨w.heap.size, 1, none⟩ (.int .i64 m)).cell? ⟨w.heap.size, 1, none⟩ = some (.int .i64 m) := World.cell?_setCell_same _ _ _ ((World.cell?_setCell_other _ _ _ _ (by simp)).trans f2)
  have HFIN : Hid (PartPost w 0 m (.returned (.agg #[.int .i64 0, .int .i64 m])) ((w1.setCell ⟨w.heap.size, 0, none⟩ (.int .i64 0)).setCell ⟨w.heap.size, 1, none⟩ (.int .i64 m))) := ⟨rfl, (HBB.out.setCell (Nat.le_refl _) _).setCell (Nat.le_refl _) _⟩
  go_wp2
  exact bodyPost_ret (v := .agg #[.int .i64 0, .int .i64 m]) (by simp [results, Tryz.results49, go_sem, hs1, hs2]) rfl HFIN.out
end Go.Proofs.YtldalfikpklfdaaGreat
