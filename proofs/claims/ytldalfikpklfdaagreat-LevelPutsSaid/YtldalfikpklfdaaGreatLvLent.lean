/- What LentParts answers: the parts, in new memory, with twelve marks behind them. -/
import Derived.Test.YtldalfikpklfdaaGreatLvMark
import Derived.Test.YtldalfikpklfdaaGreatLvRefNorm
import Derived.OwnWalk
import Derived.Laws.AppendOwnNone
namespace Go.Proofs.YtldalfikpklfdaaGreat
open Go.RowKit Go.Maps

/-- the marks behind the k-th list -/
def marks (k : Int) (j : Nat) : List (Int × Int) := (List.range j).map fun (i : Nat) => ((0 : Int), 1000003 * (k + 7) + (i : Int))
theorem marks_snoc (j : Nat) : marks 1 (j + 1) = marks 1 j ++ [((0 : Int), 8000024 + (j : Int))] := by
  unfold marks
  rw [List.range_succ, List.map_append]
  rfl
/-- what is lent: n parts, and behind their end the marks -/
def LentP (w : World) (ps : List (Int × Int)) (n : Nat) (e : Ending) (w' : World) : Prop := ∃ g cap, e = .returned (.slice (some ⟨g, 0, none⟩) n cap) ∧ w'.ownsRow w.heap.size 47 2 (.slice (some ⟨g, 0, none⟩) (n + 12) cap) (n + 12) (cells (ps ++ marks 1 12)) ∧ Below w.heap.size w w'

set_option maxRecDepth 100000 in
set_option maxHeartbeats 4000000 in
theorem lentParts_any (A : Option Addr) (ps : List (Int × Int)) (c n : Nat) (w : World) (hn : ps.length = n) (hm : n ≤ 900000) (h : Lev w w.heap.size A ps) (hc : A = none → c = 0) :
    Calls Tryz.prog 28 #[.slice A n c] w (LentP w ps n) := by
  obtain ⟨i0, hi, hz0, hz1, hz2⟩ := info_parts infoP
  have q1 : IntKind.i64.wrap ((n : Int) + 12) = (n : Int) + 12 := IntWalk.i64_in _ (by omega)
  have HL := Lib.hid h
  have HC := Lib.hid hc
  have HN := Lib.hid hn
  clear h hc hn
  go_enter Tryz.func28, Tryz.ntmps28
  go_wp2_with (at_make; refine wpList_make_own _ rfl _ _ 22 rfl w.heap.size 47 i0 (.agg #[.int .i64 0, .int .i64 0]) 2 Tryz.underlying22 hi hz0 hz1 _ _ _ (n + 12) rfl rfl (by omega) ?b1 ?b2 ?b3 ?_)
  case b1 => rw [hz2]; omega
  case b2 => unfold maxLen; omega
  case b3 => exact Nat.le_refl _
  intro w1 ho1 hg1
  have hb1 : Below w.heap.size w w1 := (Below.refl w.heap.size w).grown hg1 (Nat.le_refl _) (fun k e => by cases e)
  have hs1 := hb1.size
  have HB1 := Lib.hid hb1
  have HO1 := Lib.hid ho1
  clear hb1 ho1 hg1
  rcases A with _ | a
  · obtain rfl := HC.out rfl
    obtain rfl : ps = [] := by
      rcases ps with _ | ⟨p, l⟩
      · rfl
      · obtain ⟨b, o, e, _⟩ := HL.out (by simp)
        cases e
    obtain rfl : n = 0 := HN.out.symm
    go_wp2_with (at_builtin; refine wpList_append_own_none rfl _ _ 22 rfl w.heap.size 47 i0 2 Tryz.underlying22 hi _ 0 [] rfl HO1.out rfl ?_)
    have HB := HB1
    have HR : Hid (w1.ownsRow w.heap.size 47 2 _ (0 + 0) (cells ([] ++ marks 1 0))) := HO1.out
    clear HB1 HO1
    go_wp2
    go_loopw [3, 4] (fun lv i wr => ∃ j : Nat, j ≤ 12 ∧ i = .int .i64 (j : Int) ∧ Below w.heap.size w wr ∧ wr.ownsRow w.heap.size 47 2 lv (0 + j) (cells (([] : List (Int × Int)) ++ marks 1 j))) (fun _ i _ => 12 - (intOf i).toNat)
    case atStart => exact ⟨0, by omega, rfl, HB.out, HR.out⟩
    case round =>
      obtain ⟨j, hj, rfl, hb, hrow⟩ := hrel
      have hbz := hb.size
      obtain ⟨Al, nv, cv, rfl⟩ := own_slice hrow
      by_cases hlt : j < 12
      · have HM := Lib.hid (markPart_any 1 (j : Int) wr (by omega) (by omega))
        rw [show (1000003 : Int) * (1 + 7) + (j : Int) = 8000024 + (j : Int) by omega] at HM
        have HBJ := Lib.hid hb
        have HRJ := Lib.hid hrow
        clear hb hrow
        go_wp2_with (fail)
        refine HM.out.mono ?_
        rintro e w4 ⟨rfl, hb4⟩
        have hs4 := hb4.size
        have hb5 : Below w4.heap.size w4 (w4.alloc (.cells #[.int .i64 0, .int .i64 (8000024 + (j : Int))] 47)) := (Below.refl _ _).alloc (Nat.le_refl _) _
        have HR5 := Lib.hid (own_kept (own_kept HRJ.out hb4) hb5)
        have HB5 : Hid (Below w.heap.size w (w4.alloc (.cells #[.int .i64 0, .int .i64 (8000024 + (j : Int))] 47))) := (HBJ.out.trans (hb4.mono hbz)).trans (hb5.mono (by omega))
        have HNW := Lib.hid (heap_alloc_new w4 (.cells #[.int .i64 0, .int .i64 (8000024 + (j : Int))] 47))
        clear hb4 hb5
        go_wp2_with (at_builtin; refine wpList_append_own _ rfl _ _ 22 rfl w.heap.size 47 i0 (.agg #[.int .i64 0, .int .i64 0]) 2 16 Tryz.underlying22 hi hz0 hz1 hz2 rfl (by decide) _ (0 + j) (cells (([] : List (Int × Int)) ++ marks 1 j)) rfl HR5.out ⟨w4.heap.size, 0, none⟩ 1 1 [.int .i64 0, .int .i64 (8000024 + (j : Int))] rfl rfl (World.news_of_block (cs := #[.int .i64 0, .int .i64 (8000024 + (j : Int))]) (t := 47) (fr := (0, 0)) HNW.out) (by simp [Value.oneCell']) ?c1 ?c2 ?c3 ?_)
        case c1 => unfold maxLen; omega
        case c2 => omega
        case c3 => first | omega | (simp; omega)
        intro v w5 ho hg _
        have HR6 : Hid (w5.ownsRow w.heap.size 47 2 v (0 + (j + 1)) (cells (([] : List (Int × Int)) ++ marks 1 (j + 1)))) := by
          rw [marks_snoc, ← List.append_assoc, cells_append]
          first | exact ho | (rw [Nat.zero_add]; exact ho)
        have HB6 : Hid (Below w.heap.size w w5) := HB5.out.grown hg (by simp; omega) (fun k e => (HR5.out.lt k e).1)
        clear ho hg
        go_wp2
        go_roundw
        case rel => exact ⟨j + 1, by omega, by go_num, HB6.out, HR6.out⟩
        case measure => simp [intOf]; omega
      · have hj12 : j = 12 := by omega
        rw [hj12] at hrow
        obtain ⟨g, cap, e, _, _⟩ := hrow.form (by omega)
        injection e with e1 e2 e3
        subst e1 e2 e3
        obtain ⟨hc1, hc2⟩ := own_cap hrow
        have HFIN : Hid (LentP w ([] : List (Int × Int)) 0 (.returned (.slice (some ⟨g, 0, none⟩) 0 cv)) wr) := ⟨g, cv, rfl, hrow, hb⟩
        have hc3 : 0 ≤ cv := by omega
        have hc4 : ((0 : Nat) : Int) ≤ (cv : Int) := by omega
        have hc5 : (0 : Int) ≤ ((0 : Nat) : Int) := by omega
        clear hb hrow hj12
        go_wp2
        go_ret
        exact HFIN.out
  · have hsrc : ∀ j u, (cells ps)[j]? = some u → w1.cell? (a.add j) = some u := by
      intro j u hu
      have hpos : 0 < ps.length := by
        have := List.getElem?_eq_some_iff.1 hu
        obtain ⟨h1, _⟩ := this
        rw [cells_length] at h1
        omega
      obtain ⟨b', o', e, hlt, hc'⟩ := ((HL.out.below HB1.out).more hs1) hpos
      injection e with e
      subst e
      exact Lev.src hc' j u hu
    have HS := Lib.hid hsrc
    clear hsrc
    go_wp2_with (at_builtin; refine wpList_append_own _ rfl _ _ 22 rfl w.heap.size 47 i0 (.agg #[.int .i64 0, .int .i64 0]) 2 16 Tryz.underlying22 hi hz0 hz1 hz2 rfl (by decide) _ 0 [] rfl HO1.out a n c (cells ps) rfl (by rw [cells_length, HN.out]) HS.out (cells_one ps) ?c1 ?c2 ?c3 ?_)
    case c1 => unfold maxLen; omega
    case c2 => omega
    case c3 => first | omega | (simp; omega)
    intro v0 w2 ho2 hg2 _
    have HB : Hid (Below w.heap.size w w2) := HB1.out.grown hg2 hs1 (fun k e => (HO1.out.lt k e).1)
    have HR : Hid (w2.ownsRow w.heap.size 47 2 v0 (n + 0) (cells (ps ++ marks 1 0))) := by
      have e : ps ++ marks 1 0 = ps := List.append_nil ps
      rw [e]
      show w2.ownsRow _ _ _ _ _ _
      simpa using ho2
    clear ho2 hg2 HB1 HO1
    go_wp2
    go_loopw [3, 4] (fun lv i wr => ∃ j : Nat, j ≤ 12 ∧ i = .int .i64 (j : Int) ∧ Below w.heap.size w wr ∧ wr.ownsRow w.heap.size 47 2 lv (n + j) (cells (ps ++ marks 1 j))) (fun _ i _ => 12 - (intOf i).toNat)
    case atStart => exact ⟨0, by omega, rfl, HB.out, HR.out⟩
    case round =>
      obtain ⟨j, hj, rfl, hb, hrow⟩ := hrel
      have hbz := hb.size
      obtain ⟨Al, nv, cv, rfl⟩ := own_slice hrow
      by_cases hlt : j < 12
      · have HM := Lib.hid (markPart_any 1 (j : Int) wr (by omega) (by omega))
        rw [show (1000003 : Int) * (1 + 7) + (j : Int) = 8000024 + (j : Int) by omega] at HM
        have HBJ := Lib.hid hb
        have HRJ := Lib.hid hrow
        clear hb hrow
        go_wp2_with (fail)
        refine HM.out.mono ?_
        rintro e w4 ⟨rfl, hb4⟩
        have hs4 := hb4.size
        have hb5 : Below w4.heap.size w4 (w4.alloc (.cells #[.int .i64 0, .int .i64 (8000024 + (j : Int))] 47)) := (Below.refl _ _).alloc (Nat.le_refl _) _
        have HR5 := Lib.hid (own_kept (own_kept HRJ.out hb4) hb5)
        have HB5 : Hid (Below w.heap.size w (w4.alloc (.cells #[.int .i64 0, .int .i64 (8000024 + (j : Int))] 47))) := (HBJ.out.trans (hb4.mono hbz)).trans (hb5.mono (by omega))
        have HNW := Lib.hid (heap_alloc_new w4 (.cells #[.int .i64 0, .int .i64 (8000024 + (j : Int))] 47))
        clear hb4 hb5
        go_wp2_with (at_builtin; refine wpList_append_own _ rfl _ _ 22 rfl w.heap.size 47 i0 (.agg #[.int .i64 0, .int .i64 0]) 2 16 Tryz.underlying22 hi hz0 hz1 hz2 rfl (by decide) _ (n + j) (cells (ps ++ marks 1 j)) rfl HR5.out ⟨w4.heap.size, 0, none⟩ 1 1 [.int .i64 0, .int .i64 (8000024 + (j : Int))] rfl rfl (World.news_of_block (cs := #[.int .i64 0, .int .i64 (8000024 + (j : Int))]) (t := 47) (fr := (0, 0)) HNW.out) (by simp [Value.oneCell']) ?c1 ?c2 ?c3 ?_)
        case c1 => unfold maxLen; omega
        case c2 => omega
        case c3 => first | omega | (simp; omega)
        intro v w5 ho hg _
        have HR6 : Hid (w5.ownsRow w.heap.size 47 2 v (n + (j + 1)) (cells (ps ++ marks 1 (j + 1)))) := by
          rw [marks_snoc, ← List.append_assoc, cells_append]
          first | exact ho | (rw [Nat.zero_add]; exact ho)
        have HB6 : Hid (Below w.heap.size w w5) := HB5.out.grown hg (by simp; omega) (fun k e => (HR5.out.lt k e).1)
        clear ho hg
        go_wp2
        go_roundw
        case rel => exact ⟨j + 1, by omega, by go_num, HB6.out, HR6.out⟩
        case measure => simp [intOf]; omega
      · have hj12 : j = 12 := by omega
        rw [hj12] at hrow
        obtain ⟨g, cap, e, _, _⟩ := hrow.form (by omega)
        injection e with e1 e2 e3
        subst e1 e2 e3
        obtain ⟨hc1, hc2⟩ := own_cap hrow
        have HFIN : Hid (LentP w ps n (.returned (.slice (some ⟨g, 0, none⟩) n cv)) wr) := ⟨g, cv, rfl, hrow, hb⟩
        have hc3 : n ≤ cv := by omega
        have hc4 : (n : Int) ≤ (cv : Int) := by omega
        have hc5 : (0 : Int) ≤ (n : Int) := by omega
        clear hb hrow hj12
        go_wp2
        go_ret
        exact HFIN.out
end Go.Proofs.YtldalfikpklfdaaGreat
