/- What LentLevel answers: the level's parts, in new memory, with twelve marks behind them. -/
import Derived.Test.YtldalfikpklfdaaGreatLvLent
namespace Go.Proofs.YtldalfikpklfdaaGreat
open Go.RowKit Go.Maps

def LentL (w : World) (ps : List (Int × Int)) (n : Nat) (e : Ending) (w' : World) : Prop := ∃ g cap, e = .returned (.agg #[.slice (some ⟨g, 0, none⟩) n cap]) ∧ w'.ownsRow w.heap.size 47 2 (.slice (some ⟨g, 0, none⟩) (n + 12) cap) (n + 12) (cells (ps ++ marks 1 12)) ∧ Below w.heap.size w w'

set_option maxRecDepth 100000 in
set_option maxHeartbeats 2000000 in
theorem lentLevel_any (A : Option Addr) (ps : List (Int × Int)) (c n : Nat) (w : World) (hn : ps.length = n) (hm : n ≤ 900000) (h : Lev w w.heap.size A ps) (hc : A = none → c = 0) :
    Calls Tryz.prog 7 #[.agg #[.slice A n c]] w (LentL w ps n) := by
  have hfd := field_parts
  obtain ⟨x1, x2, x3⟩ := two_allocs w (.cells #[.slice A n c] 24) (.cells #[.slice none 0 0] 24)
  have hb0 : Below w.heap.size w ((w.alloc (.cells #[.slice A n c] 24)).alloc (.cells #[.slice none 0 0] 24)) := ((Below.refl _ _).alloc (Nat.le_refl _) _).alloc (by simp) _
  have hz : ((w.alloc (.cells #[.slice A n c] 24)).alloc (.cells #[.slice none 0 0] 24)).heap.size = w.heap.size + 2 := by simp
  have HP := Lib.hid (lentParts_any A ps c n ((w.alloc (.cells #[.slice A n c] 24)).alloc (.cells #[.slice none 0 0] 24)) hn hm ((h.below hb0).more hb0.size) hc)
  have X1 := Lib.hid x1
  have X2 := Lib.hid x2
  have HB0 := Lib.hid hb0
  have f1 := cell_of_one x1
  have f2 := cell_of_one x2
  clear x1 x2 x3 hb0 h hc hn
  go_enter Tryz.func7, Tryz.ntmps7
  go_wp2_with (fail)
  refine HP.out.mono ?_
  rintro e w1 ⟨g, cap, rfl, hrow, hb1⟩
  have e1 := (hb1.block w.heap.size (by omega)).trans X1.out
  have e2 := (hb1.block (w.heap.size + 1) (by omega)).trans X2.out
  have g1 := cell_of_one e1
  have g2 := free_of_one e1
  have g3 := cell_of_one e2
  have g4 := free_of_one e2
  have h1 : (w1.setCell ⟨w.heap.size, 0, none⟩ (.slice (some ⟨g, 0, none⟩) n cap)).cell? ⟨w.heap.size, 0, none⟩ = some (.slice (some ⟨g, 0, none⟩) n cap) := World.cell?_setCell_same _ _ _ g1
  have h2 : (w1.setCell ⟨w.heap.size, 0, none⟩ (.slice (some ⟨g, 0, none⟩) n cap)).cell? ⟨w.heap.size + 1, 0, none⟩ = some (.slice none 0 0) := (World.cell?_setCell_other _ _ _ _ (by simp)).trans g3
  have hs : ((w1.setCell ⟨w.heap.size, 0, none⟩ (.slice (some ⟨g, 0, none⟩) n cap)).setCell ⟨w.heap.size + 1, 0, none⟩ (.slice (some ⟨g, 0, none⟩) n cap)).cell? ⟨w.heap.size + 1, 0, none⟩ = some (.slice (some ⟨g, 0, none⟩) n cap) := World.cell?_setCell_same _ _ _ h2
  have HFIN : Hid (LentL w ps n (.returned (.agg #[(.slice (some ⟨g, 0, none⟩) n cap)])) ((w1.setCell ⟨w.heap.size, 0, none⟩ (.slice (some ⟨g, 0, none⟩) n cap)).setCell ⟨w.heap.size + 1, 0, none⟩ (.slice (some ⟨g, 0, none⟩) n cap))) :=
    ⟨g, cap, rfl, own_base (ownsRow_setCell_below (ownsRow_setCell_below hrow (by show w.heap.size < _; omega) _) (by show w.heap.size + 1 < _; omega) _) (by omega), ((HB0.out.trans (hb1.mono (by omega))).setCell (Nat.le_refl _) _).setCell (by show w.heap.size ≤ w.heap.size + 1; omega) _⟩
  clear hrow hb1 e1 e2
  go_wp2
  exact bodyPost_ret (v := .agg #[(.slice (some ⟨g, 0, none⟩) n cap)]) (by simp [results, Tryz.results7, go_sem, hs]) rfl HFIN.out
end Go.Proofs.YtldalfikpklfdaaGreat
