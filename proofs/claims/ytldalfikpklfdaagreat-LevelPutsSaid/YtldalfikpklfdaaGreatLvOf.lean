/- What 'of' of the statements answers: the level of pairs of numbers; of at most a million of them. -/
import Derived.Test.YtldalfikpklfdaaGreatLvSame
import Derived.Deep.RegionLaw
import Derived.Deep.AppendLies
import Derived.StillTactics
namespace Go.Proofs.YtldalfikpklfdaaGreat
open Go.RowKit Go.Maps

def pairsOf : List Int → List (Int × Int)
  | a :: b :: r => (a, b) :: pairsOf r
  | _ => []
theorem pairsOf_length : ∀ ns : List Int, (pairsOf ns).length = ns.length / 2
  | [] => rfl
  | [_] => by simp [pairsOf]
  | a :: b :: r => by simp [pairsOf, pairsOf_length r]; omega
theorem pairsOf_get : ∀ (ns : List Int) (k : Nat), k * 2 + 1 < ns.length → (pairsOf ns)[k]? = some (ns.getD (k * 2) 0, ns.getD (k * 2 + 1) 0)
  | [], k, h => by simp at h
  | [_], k, h => by simp at h
  | a :: b :: r, 0, _ => by simp [pairsOf]
  | a :: b :: r, k + 1, h => by
    have := pairsOf_get r k (by simp at h; omega)
    simp only [pairsOf, List.getElem?_cons_succ, this]
    rw [show (k + 1) * 2 = k * 2 + 2 from by omega]
    simp

theorem take_snoc_ {α : Type} {l : List α} {k : Nat} {p : α} (h : l[k]? = some p) : l.take (k + 1) = l.take k ++ [p] := by
  obtain ⟨hk, e⟩ := List.getElem?_eq_some_iff.1 h
  rw [List.take_succ_eq_append_getElem hk, e]

set_option maxRecDepth 100000 in
set_option maxHeartbeats 4000000 in
theorem of_any (A : Option Addr) (ns : List Int) (c : Nat) (w : World) (hm : Few ns.length) (h : Ints w w.heap.size A ns) :
    Calls Tryz.prog 25 #[.slice A ns.length c] w (LvlPost w (pairsOf ns)) := by
  obtain ⟨i0, hi, hz0, hz1, hz2⟩ := info_parts infoP
  obtain ⟨x1, x2, x3⟩ := two_allocs w (.cells #[.slice none 0 0] 24) (.cells #[.slice none 0 0] 24)
  have hlen : ns.length ≤ 9223372036854775806 := by unfold Few at hm; omega
  have X1 := Lib.hid x1
  have X2 := Lib.hid x2
  have X3 := Lib.hid x3
  have HM := Lib.hid hm
  have HI := Lib.hid h
  clear x1 x2 x3 hm h
  go_enter Tryz.func25, Tryz.ntmps25
  go_wp2
  go_loopw [4] (fun i wr => ∃ (k : Nat) (lv : Value), k * 2 ≤ ns.length ∧ i = .int .i64 ((k * 2 : Nat) : Int) ∧ LoopW ((w.alloc (.cells #[.slice none 0 0] 24)).alloc (.cells #[.slice none 0 0] 24)) wr (w.heap.size + 1) lv k ((pairsOf ns).take k)) (fun i _ => ns.length - (intOf i).toNat)
  case atStart => exact ⟨0, _, by omega, rfl, ⟨World.grownBy.refl _ _, X2.out, ⟨rfl, Or.inl ⟨rfl, rfl⟩⟩⟩⟩
  case round =>
    obtain ⟨k, lv, hk, rfl, hw⟩ := hrel
    have HW := Lib.hid hw
    have hwz := hw.grown.size
    simp at hwz
    have f0 := cell_of_one hw.cell
    have f3 := free_of_one hw.cell
    have g1 : w.heap.size + 1 < wr.heap.size := by omega
    by_cases hlt : k * 2 + 1 < ns.length
    · obtain ⟨b, o, rfl, hbB, hc⟩ := HI.out (by omega)
      have hwb := fun p (hp : p < w.heap.size) => (hw.grown.block p (by simp; omega) (by simp; omega)).trans (X3.out p hp)
      have c0 := (World.cell?_of_block (a := ⟨b, o + k * 2, none⟩) (hwb b hbB)).trans (hc (k * 2) (by omega))
      have c1 := (World.cell?_of_block (a := ⟨b, o + (k * 2 + 1), none⟩) (hwb b hbB)).trans (hc (k * 2 + 1) (by omega))
      have hp := pairsOf_get ns k hlt
      obtain ⟨x, hx⟩ : ∃ x, x = ns.getD (k * 2) 0 := ⟨_, rfl⟩
      obtain ⟨y, hy⟩ : ∃ y, y = ns.getD (k * 2 + 1) 0 := ⟨_, rfl⟩
      rw [← hx] at c0
      rw [← hy] at c1
      rw [← hx, ← hy] at hp
      have HP := Lib.hid (take_snoc_ hp)
      have Hrw := Lib.hid hw.row
      have ag : lv.ownBlock ≠ some (w.heap.size + 1) := fun e => by have := (hw.row.lt _ e).1; simp at this; omega
      have ab : lv.ownBlock ≠ some b := fun e => by have := (hw.row.lt _ e).1; simp at this; omega
      have hbw : b < wr.heap.size := by omega
      have AG := Lib.hid ag
      have AB := Lib.hid ab
      clear hwb hc hp hx hy hw ag ab
      have q0 : (0 : Int) ≤ (k : Int) * 2 := by omega
      have q1 : (k : Int) * 2 < (ns.length : Int) := by omega
      have q2 : (k : Int) * 2 + 1 < (ns.length : Int) := by omega
      have q3 : IntKind.i64.wrap ((k : Int) * 2 + 1) = (k : Int) * 2 + 1 := IntWalk.i64_in _ (by omega)
      have q4 : (0 : Int) ≤ (k : Int) * 2 + 1 := by omega
      have q5 : ((k : Int) * 2 + 1).toNat = k * 2 + 1 := by omega
      have q6 : ((k : Int) * 2).toNat = k * 2 := by omega
      have fz : ∀ ob : Obj, (wr.alloc ob).frozen? ⟨w.heap.size + 1, 0, none⟩ = false := fun ob => (((Below.refl wr.heap.size wr).alloc (Nat.le_refl _) ob).frozen (by show w.heap.size + 1 < wr.heap.size; exact g1)).trans f3
      have fa : ∀ ob : Obj, (wr.alloc ob).cell? ⟨w.heap.size + 1, 0, none⟩ = some lv := fun ob => (((Below.refl wr.heap.size wr).alloc (Nat.le_refl _) ob).cell (by show w.heap.size + 1 < wr.heap.size; exact g1)).trans f0
      have FA := Lib.hid fa
      go_wp2
      go_region_law
        ((refine step_append_lies _ (by rfl) _ _ _ (by rfl) ((w.alloc (.cells #[.slice none 0 0] 24)).alloc (.cells #[.slice none 0 0] 24)).heap.size 47 i0 _ 2 16 Tryz.underlying22 hi hz0 hz1 hz2 rfl (by omega) lv k (cells ((pairsOf ns).take k)) (by rfl) ((Hrw.out.alloc _).drew)
            ⟨wr.heap.size, 0, none⟩ 1 1 [.int .i64 x, .int .i64 y] (by rfl) (by rfl) (World.news_of_block (cs := #[.int .i64 x, .int .i64 y]) (t := 47) (fr := (0, 0)) (heap_alloc_new wr _)) (by simp [Value.oneCell'])
            (by omega) (by have := HM.out; unfold Few at this; unfold maxLen; omega) (by have := HM.out; unfold Few at this; omega) (by simp; omega) (wr.heap.size + 1) (by simp) ?_; intro gg cap w1 hown1 hgrow hat hlt1; have fL : w1.cell? ⟨w.heap.size + 1, 0, none⟩ = some lv := (World.cell?_of_block (a := ⟨w.heap.size + 1, 0, none⟩) (hgrow.block _ (by simp; omega) (Ne.symm AG.out))).trans (FA.out _); have fF : w1.frozen? ⟨w.heap.size + 1, 0, none⟩ = false := (World.frozen?_of_block (a := ⟨w.heap.size + 1, 0, none⟩) (hgrow.block _ (by simp; omega) (Ne.symm AG.out))).trans (fz _)))
      all_goals (
        have HF : Hid (LoopW ((w.alloc (.cells #[.slice none 0 0] 24)).alloc (.cells #[.slice none 0 0] 24)) (w1.setCell ⟨w.heap.size + 1, 0, none⟩ (.slice (some ⟨gg, 0, none⟩) (k + 1) cap)) (w.heap.size + 1) (.slice (some ⟨gg, 0, none⟩) (k + 1) cap) (k + 1) ((pairsOf ns).take (k + 1))) := by
          refine ⟨loop_grown (o := .cells #[.int .i64 x, .int .i64 y] 47) HW.out.grown Hrw.out ⟨hgrow.os, hgrow.tape, hgrow.output, hgrow.size, hgrow.block⟩ (by simp) _, one_setCell (((hgrow.block _ (by simp; omega) (Ne.symm AG.out)).trans (Below.heap_alloc _ _ _ g1)).trans HW.out.cell), ?_⟩
          rw [HP.out, cells_append]
          exact ownsRow_setCell_below hown1 (by simp) _
        clear hown1 hgrow hat hlt1 fL fF fa fz
        go_wp2
        go_roundw
        case rel => exact ⟨k + 1, _, by omega, congrArg (Value.int .i64) (by omega), HF.out⟩
        case measure => simp [intOf]; omega)
    · have hkk : k = ns.length / 2 := by omega
      have hq : (pairsOf ns).take k = pairsOf ns := List.take_of_length_le (by rw [pairsOf_length]; omega)
      obtain ⟨A1, n1, m1, rfl⟩ := own_slice hw.row
      have hr2 := (hw.grown.block w.heap.size (by simp; omega) (by simp)).trans X1.out
      have f5 := cell_of_one hr2
      have f6 := free_of_one hr2
      have hrow := hw.row
      rw [hq, show k = (pairsOf ns).length from by rw [pairsOf_length]; exact hkk] at hrow
      have HF : Hid (LvlPost w (pairsOf ns) (.returned (.agg #[.slice A1 n1 m1])) (wr.setCell ⟨w.heap.size, 0, none⟩ (.slice A1 n1 m1))) := by
        refine ⟨_, rfl, own_base (ownsRow_setCell_below hrow (by simp; omega) _) (by simp; omega), ?_⟩
        have hbb : Below w.heap.size w wr := ⟨hw.grown.os, hw.grown.tape, hw.grown.output, by omega, fun i hi => (hw.grown.block i (by simp; omega) (by simp; omega)).trans (X3.out i hi)⟩
        exact hbb.setCell (Nat.le_refl _) _
      have q1 : ¬ ((k : Int) * 2 + 1 < (ns.length : Int)) := by omega
      clear hr2 hrow hq hw hkk HW
      go_wp2
      exact bodyPost_ret (v := .agg #[.slice A1 n1 m1]) (by simp [results, Tryz.results25, go_sem, f5]) rfl HF.out

end Go.Proofs.YtldalfikpklfdaaGreat
