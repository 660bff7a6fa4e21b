/- LevelSmall answers true. -/
import Derived.Test.YtldalfikpklfdaaLvOne
import Derived.Test.YtldalfikpklfdaaLvRefSub
import Derived.Test.YtldalfikpklfdaaLvKindsB
import Derived.Test.YtldalfikpklfdaaLvFacts
import Derived.Test.YtldalfikpklfdaaLvOf
import Derived.Test.YtldalfikpklfdaaLvCount
import Derived.Test.YtldalfikpklfdaaLvAwake
namespace Go.Proofs.Ytldalfikpklfdaa
open Go.RowKit Go.Maps

theorem infoLL : (Try.prog.info? 25).map (fun i => (i.zero, i.size, i.bytes)) = some (some (.agg #[.slice none 0 0]), 1, 24) := by kernel_rfl

/-- A row of levels, each with parts of its own. -/
def RowT (B : Nat) (w : World) (ls : List (List (Int × Int))) (vs : List Value) : Prop :=
  vs.length = ls.length ∧ ∀ i, i < ls.length → ∃ Ai ci, vs[i]? = some (.slice Ai (ls.getD i []).length ci) ∧ w.ownsRow B 33 2 (.slice Ai (ls.getD i []).length ci) (ls.getD i []).length (cells (ls.getD i [])) ∧ (ls.getD i []).length ≤ 9
theorem RowT.nil {B : Nat} {w : World} : RowT B w [] [] := ⟨rfl, fun i hi => by simp at hi⟩
theorem RowT.below {B : Nat} {w w' : World} {ls : List (List (Int × Int))} {vs : List Value} (h : RowT B w ls vs) (hb : Below w.heap.size w w') : RowT B w' ls vs :=
  ⟨h.1, fun i hi => by
    obtain ⟨Ai, ci, h1, h2, h3⟩ := h.2 i hi
    exact ⟨Ai, ci, h1, own_kept h2 hb, h3⟩⟩
theorem RowT.base {B B' : Nat} {w : World} {ls : List (List (Int × Int))} {vs : List Value} (h : RowT B w ls vs) (hB : B' ≤ B) : RowT B' w ls vs :=
  ⟨h.1, fun i hi => by
    obtain ⟨Ai, ci, h1, h2, h3⟩ := h.2 i hi
    exact ⟨Ai, ci, h1, own_base h2 hB, h3⟩⟩
theorem RowT.grown {B B' n : Nat} {w w' : World} {ls : List (List (Int × Int))} {vs xs : List Value} {lv : Value} (h : RowT B w ls vs) (hrow : w.ownsRow B' 25 1 lv n xs) (hg : w.grownBy w' lv.ownBlock) : RowT B w' ls vs :=
  ⟨h.1, fun i hi => by
    obtain ⟨Ai, ci, h1, h2, h3⟩ := h.2 i hi
    refine ⟨Ai, ci, h1, ⟨h2.1, h2.2.imp id fun ⟨g, cap, cur, q1, q2, q3, q4⟩ => ⟨g, cap, cur, q1, q2, ?_, q4⟩⟩, h3⟩
    refine (hg.block g (heap_some_lt q3) (fun e => ?_)).trans q3
    rcases hrow.2 with ⟨r1, _⟩ | ⟨g', cap', cur', r1, _, r3, _⟩
    · rw [r1] at e; cases e
    · rw [r1] at e
      injection e with e
      simp only at e
      subst e
      rw [q3] at r3
      injection r3 with r3
      injection r3 with _ r3
      exact absurd r3 (by decide)⟩
theorem RowT.app {B : Nat} {w : World} {ls ms : List (List (Int × Int))} {vs us : List Value} (h : RowT B w ls vs) (k : RowT B w ms us) : RowT B w (ls ++ ms) (vs ++ us) := by
  refine ⟨by rw [List.length_append, List.length_append, h.1, k.1], fun i hi => ?_⟩
  rw [List.length_append] at hi
  by_cases hl : i < ls.length
  · obtain ⟨Ai, ci, h1, h2⟩ := h.2 i hl
    have e : (ls ++ ms).getD i [] = ls.getD i [] := by rw [List.getD_eq_getElem?_getD, List.getElem?_append_left hl, ← List.getD_eq_getElem?_getD]
    rw [e]
    exact ⟨Ai, ci, by rw [List.getElem?_append_left (by rw [h.1]; exact hl)]; exact h1, h2⟩
  · obtain ⟨Ai, ci, h1, h2⟩ := k.2 (i - ls.length) (by omega)
    have e : (ls ++ ms).getD i [] = ms.getD (i - ls.length) [] := by rw [List.getD_eq_getElem?_getD, List.getElem?_append_right (by omega), ← List.getD_eq_getElem?_getD]
    rw [e]
    exact ⟨Ai, ci, by rw [List.getElem?_append_right (by rw [h.1]; omega), h.1]; exact h1, h2⟩
theorem RowT.one {B : Nat} {w : World} {A : Option Addr} {ps : List (Int × Int)} {n c : Nat} (hn : n = ps.length) (h : w.ownsRow B 33 2 (.slice A n c) n (cells ps)) (h9 : ps.length ≤ 9) : RowT B w [ps] [.slice A n c] :=
  ⟨rfl, fun i hi => by
    obtain rfl : i = 0 := by simpa using hi
    subst hn
    exact ⟨A, c, rfl, h, h9⟩⟩
theorem RowT.levs {w : World} {B B' g n cap : Nat} {ls : List (List (Int × Int))} {vs : List Value} (h : w.ownsRow B 25 1 (.slice (some ⟨g, 0, none⟩) n cap) n vs) (hr : RowT B' w ls vs) (hg : g < w.heap.size) : Levs w w.heap.size (some ⟨g, 0, none⟩) ls := fun _ =>
  ⟨g, 0, rfl, hg, fun i hi => by
    obtain ⟨Ai, ci, h1, h2, h3⟩ := hr.2 i hi
    obtain ⟨_, h4, h5⟩ := own_lev h2
    refine ⟨Ai, ci, ?_, h4, h5, by omega⟩
    rw [Nat.zero_add, h.cellAt i ?_]
    · exact h1
    · have h3 := h.1
      have h4 := hr.1
      omega⟩
theorem ints_four (w : World) (a b c d : Int) (t : TypeId) : Ints (w.alloc (.cells #[.int .i64 a, .int .i64 b, .int .i64 c, .int .i64 d] t)) (w.alloc (.cells #[.int .i64 a, .int .i64 b, .int .i64 c, .int .i64 d] t)).heap.size (some ⟨w.heap.size, 0, none⟩) [a, b, c, d] := fun _ =>
  ⟨_, _, rfl, by simp, fun i hi => by
    have hr := heap_alloc_new w (.cells #[.int .i64 a, .int .i64 b, .int .i64 c, .int .i64 d] t)
    have hi2 : i < 4 := by simpa using hi
    rcases (show i = 0 ∨ i = 1 ∨ i = 2 ∨ i = 3 by omega) with rfl | rfl | rfl | rfl
    · exact cell_of_row _ _ 0 _ _ (0, 0) hr
    · exact cell_of_row _ _ 1 _ _ (0, 0) hr
    · exact cell_of_row _ _ 2 _ _ (0, 0) hr
    · exact cell_of_row _ _ 3 _ _ (0, 0) hr⟩
theorem ints_six (w : World) (a b c d e f : Int) (t : TypeId) : Ints (w.alloc (.cells #[.int .i64 a, .int .i64 b, .int .i64 c, .int .i64 d, .int .i64 e, .int .i64 f] t)) (w.alloc (.cells #[.int .i64 a, .int .i64 b, .int .i64 c, .int .i64 d, .int .i64 e, .int .i64 f] t)).heap.size (some ⟨w.heap.size, 0, none⟩) [a, b, c, d, e, f] := fun _ =>
  ⟨_, _, rfl, by simp, fun i hi => by
    have hr := heap_alloc_new w (.cells #[.int .i64 a, .int .i64 b, .int .i64 c, .int .i64 d, .int .i64 e, .int .i64 f] t)
    have hi2 : i < 6 := by simpa using hi
    rcases (show i = 0 ∨ i = 1 ∨ i = 2 ∨ i = 3 ∨ i = 4 ∨ i = 5 by omega) with rfl | rfl | rfl | rfl | rfl | rfl
    · exact cell_of_row _ _ 0 _ _ (0, 0) hr
    · exact cell_of_row _ _ 1 _ _ (0, 0) hr
    · exact cell_of_row _ _ 2 _ _ (0, 0) hr
    · exact cell_of_row _ _ 3 _ _ (0, 0) hr
    · exact cell_of_row _ _ 4 _ _ (0, 0) hr
    · exact cell_of_row _ _ 5 _ _ (0, 0) hr⟩
/-- what 'of' makes, from where the world stood before its numbers were made -/
def OfOut (B : Nat) (w : World) (ps : List (Int × Int)) (e : Ending) (w' : World) : Prop := ∃ A n c, e = .returned (.agg #[.slice A n c]) ∧ n = ps.length ∧ w'.ownsRow B 33 2 (.slice A n c) n (cells ps) ∧ Below w.heap.size w w'
theorem of_out {B : Nat} {w w1 : World} {ps : List (Int × Int)} {e : Ending} {w' : World} (h : LvlPost w1 ps e w') (hb : Below w.heap.size w w1) (hB : B ≤ w.heap.size) : OfOut B w ps e w' := by
  obtain ⟨v, rfl, hrow, hb1⟩ := h
  obtain ⟨A, n, c, rfl⟩ := own_slice hrow
  obtain ⟨rfl, _, _⟩ := own_lev hrow
  exact ⟨A, _, c, rfl, rfl, own_base hrow (Nat.le_trans hB hb.size), hb.trans (hb1.mono hb.size)⟩
theorem of_four (B : Nat) (w : World) (hB : B ≤ w.heap.size) (a b c d : Int) : Calls Try.prog 6 #[.slice (some ⟨w.heap.size, 0, none⟩) 4 4] (w.alloc (.cells #[.int .i64 a, .int .i64 b, .int .i64 c, .int .i64 d] 3)) (OfOut B w [(a, b), (c, d)]) :=
  (of_any (some ⟨w.heap.size, 0, none⟩) [a, b, c, d] 4 _ (by unfold Few; simp) (ints_four w a b c d _)).mono fun _ _ h => of_out h ((Below.refl _ _).alloc (Nat.le_refl _) _) hB
theorem of_two (B : Nat) (w : World) (hB : B ≤ w.heap.size) (a b : Int) : Calls Try.prog 6 #[.slice (some ⟨w.heap.size, 0, none⟩) 2 2] (w.alloc (.cells #[.int .i64 a, .int .i64 b] 3)) (OfOut B w [(a, b)]) :=
  (of_any (some ⟨w.heap.size, 0, none⟩) [a, b] 2 _ (by unfold Few; simp) (ints_two w a b _)).mono fun _ _ h => of_out h ((Below.refl _ _).alloc (Nat.le_refl _) _) hB
theorem of_six (B : Nat) (w : World) (hB : B ≤ w.heap.size) (a b c d e f : Int) : Calls Try.prog 6 #[.slice (some ⟨w.heap.size, 0, none⟩) 6 6] (w.alloc (.cells #[.int .i64 a, .int .i64 b, .int .i64 c, .int .i64 d, .int .i64 e, .int .i64 f] 3)) (OfOut B w [(a, b), (c, d), (e, f)]) :=
  (of_any (some ⟨w.heap.size, 0, none⟩) [a, b, c, d, e, f] 6 _ (by unfold Few; simp) (ints_six w a b c d e f _)).mono fun _ _ h => of_out h ((Below.refl _ _).alloc (Nat.le_refl _) _) hB
theorem of_zero (B : Nat) (w : World) (hB : B ≤ w.heap.size) : Calls Try.prog 6 #[.slice none 0 0] w (OfOut B w []) :=
  (of_any none [] 0 _ (by unfold Few; simp) (fun h => by simp at h)).mono fun _ _ h => of_out h (Below.refl _ _) hB

theorem levs_sub {w : World} {B g j h : Nat} {ls : List (List (Int × Int))} (hl : Levs w B (some ⟨g, 0, none⟩) ls) (h1 : h ≤ ls.length) : Levs w B (some ⟨g, j, none⟩) ((ls.drop j).take (h - j)) := fun hp => by
  have hlen : ((ls.drop j).take (h - j)).length = min (h - j) (ls.length - j) := by rw [List.length_take, List.length_drop]
  obtain ⟨b, o, e, hb, hc⟩ := hl (by omega)
  injection e with e
  injection e with e1 e2
  subst e1 e2
  refine ⟨_, _, rfl, hb, fun i hi => ?_⟩
  obtain ⟨Ai, ci, q1, q2⟩ := hc (j + i) (by omega)
  have e : ((ls.drop j).take (h - j)).getD i [] = ls.getD (j + i) [] := by
    rw [List.getD_eq_getElem?_getD, List.getElem?_take_of_lt (by omega), List.getElem?_drop, ← List.getD_eq_getElem?_getD]
  rw [e]
  exact ⟨Ai, ci, by rw [Nat.zero_add] at q1; exact q1, q2⟩
theorem enter_one (vs : Array Value) (w : World) : (callFunc 7 vs).run Try.prog w = .ok (.enter 7 vs) w := by go_simp
theorem enter_rput (vs : Array Value) (w : World) : (callFunc 10 vs).run Try.prog w = .ok (.enter 10 vs) w := by go_simp
theorem enter_rvalue (vs : Array Value) (w : World) : (callFunc 12 vs).run Try.prog w = .ok (.enter 12 vs) w := by go_simp
theorem enter_of (vs : Array Value) (w : World) : (callFunc 6 vs).run Try.prog w = .ok (.enter 6 vs) w := by go_simp

theorem lit_cells (w : World) (ns : List Int) (cs : Array Value) (hcs : cs = (ns.map (Value.int .i64)).toArray) (t : TypeId) : ∀ i, i < ns.length → (w.alloc (.cells cs t)).cell? ⟨w.heap.size, i, none⟩ = some (.int .i64 (ns.getD i 0)) := fun i hi => by
  subst hcs
  rw [cell_of_row _ _ _ _ _ (0, 0) (heap_alloc_new w _)]
  simp [List.getD_eq_getElem?_getD, List.getElem?_eq_getElem hi]
theorem slice_ints4 {w : World} (x y z u : Int) : (Instr.buildSlice 31 4 [(0, Value.int .i64 x), (1, Value.int .i64 y), (2, Value.int .i64 z), (3, Value.int .i64 u)].toArray).run Try.prog w = .ok (.slice (some ⟨w.heap.size, 0, none⟩) 4 4) (w.alloc (.cells #[.int .i64 x, .int .i64 y, .int .i64 z, .int .i64 u] 3)) := by
  go_simp

/-- the row l as it grows -/
def Grows (w wr : World) (lv : Value) (n : Nat) : Prop := ∃ ls vs, ls.length = n ∧ Below w.heap.size w wr ∧ wr.ownsRow w.heap.size 25 1 lv n vs ∧ RowT w.heap.size wr ls vs

set_option maxRecDepth 100000 in
set_option maxHeartbeats 8000000 in
theorem lsmall_any (w : World) : Calls Try.prog 3 #[] w (HasPost w true) := by
  obtain ⟨i0, hi, hz0, hz1, hz2⟩ := info_parts infoLL
  obtain ⟨i1, ji, jz0, jz1, jz2⟩ := info_parts infoP
  have hfd := field_parts
  go_enter Try.func3, Try.ntmps3
  go_wp2
  go_loopw [1, 2] (fun lv i wr => ∃ n : Nat, n ≤ 81 ∧ i = .int .i64 (n : Int) ∧ Grows w wr lv n) (fun _ i _ => 81 - (intOf i).toNat)
  case atStart => exact ⟨0, Nat.zero_le _, rfl, [], [], rfl, Below.refl _ _, ⟨rfl, Or.inl ⟨rfl, rfl⟩⟩, RowT.nil⟩
  case round =>
    obtain ⟨n, hn, rfl, ls, vs, hln, hb, hrow, hrt⟩ := hrel
    have hbz := hb.size
    have HB := Lib.hid hb
    have HR := Lib.hid hrow
    have HT := Lib.hid hrt
    have HLN := Lib.hid hln
    clear hb hrow hrt hln
    by_cases hlt : n < 81
    · have q0 : (0 : Int) ≤ (n : Int) := by omega
      go_wp2_with (fail)
      refine (of_four w.heap.size wr hbz _ _ _ _).mono ?_
      rintro e w2 ⟨A2, n2, c2, rfl, hn2, hown, hb2⟩
      have hrow2 := own_kept HR.out hb2
      have hb3 : Below w2.heap.size w2 (w2.alloc (.cells #[.slice A2 n2 c2] 25)) := (Below.refl _ _).alloc (Nat.le_refl _) _
      have hs2 := hb2.size
      have HT2 := Lib.hid (((HT.out.below hb2).below hb3).app ((RowT.one hn2 hown (by simp)).below hb3))
      have HR2 := Lib.hid (own_kept hrow2 hb3)
      have HB2 : Hid (Below w.heap.size w (w2.alloc (.cells #[.slice A2 n2 c2] 25))) := (HB.out.trans (hb2.mono hbz)).trans (hb3.mono (by omega))
      have HNW := Lib.hid (heap_alloc_new w2 (.cells #[.slice A2 n2 c2] 25))
      clear hown hb2 hb3 hrow2 hn2
      go_wp2_with (at_builtin; refine wpList_append_own _ rfl _ _ 22 rfl w.heap.size 25 i0 (.agg #[.slice none 0 0]) 1 24 Try.underlying22 hi hz0 hz1 hz2 rfl (by decide) _ n vs rfl HR2.out ⟨w2.heap.size, 0, none⟩ 1 1 [.slice A2 n2 c2] rfl rfl (World.news_of_block (cs := #[.slice A2 n2 c2]) (t := 25) (fr := (0, 0)) HNW.out) (by simp [Value.oneCell']) ?c1 ?c2 ?c3 ?_)
      case c1 => unfold maxLen; omega
      case c2 => omega
      case c3 => simp; omega
      intro v w3 ho hg _
      have HF : Hid (Grows w w3 v (n + 1)) := by
        refine ⟨_, _, ?_, HB2.out.grown hg (by simp; omega) (fun k e => (HR2.out.lt k e).1), ho, HT2.out.grown HR2.out hg⟩
        rw [List.length_append, HLN.out]
        rfl
      clear ho hg
      go_wp2
      go_roundw
      case rel => exact ⟨n + 1, by omega, by go_num, HF.out⟩
      case measure => simp [intOf]; omega
    · obtain rfl : n = 81 := by omega
      go_wp2_with (fail)
      refine (of_zero w.heap.size wr hbz).mono ?_
      rintro e w2 ⟨A1, n1, c1, rfl, hn1, hown1, hb2⟩
      have s2 := hb2.size
      have R2 := Lib.hid (own_kept HR.out hb2)
      have T2 := Lib.hid (HT.out.below hb2)
      have D1 := Lib.hid (RowT.one hn1 hown1 (by simp))
      have B2 : Hid (Below w.heap.size w w2) := HB.out.trans (hb2.mono hbz)
      clear hn1 hown1 hb2 HR HT HB
      go_wp2_with (fail)
      refine (of_two w.heap.size w2 (by omega) _ _).mono ?_
      rintro e w3 ⟨A3, n3, c3, rfl, hn3, hown3, hb3⟩
      have s3 := hb3.size
      have R3 := Lib.hid (own_kept R2.out hb3)
      have T3 := Lib.hid (T2.out.below hb3)
      have D2 := Lib.hid ((D1.out.below hb3).app (RowT.one hn3 hown3 (by simp)))
      have B3 : Hid (Below w.heap.size w w3) := B2.out.trans (hb3.mono (by omega))
      clear hn3 hown3 hb3 R2 T2 B2 D1
      go_wp2_with (fail)
      refine (of_four w.heap.size w3 (by omega) _ _ _ _).mono ?_
      rintro e w4 ⟨A4, n4, c4, rfl, hn4, hown4, hb4⟩
      have s4 := hb4.size
      have R4 := Lib.hid (own_kept R3.out hb4)
      have T4 := Lib.hid (T3.out.below hb4)
      have D3 := Lib.hid ((D2.out.below hb4).app (RowT.one hn4 hown4 (by simp)))
      have B4 : Hid (Below w.heap.size w w4) := B3.out.trans (hb4.mono (by omega))
      clear hn4 hown4 hb4 R3 T3 B3 D2
      go_wp2_with (fail)
      refine (of_six w.heap.size w4 (by omega) _ _ _ _ _ _).mono ?_
      rintro e w5 ⟨A5, n5, c5, rfl, hn5, hown5, hb5⟩
      have s5 := hb5.size
      have R5 := own_kept R4.out hb5
      have T5 := T4.out.below hb5
      have D4 := (D3.out.below hb5).app (RowT.one hn5 hown5 (by simp))
      have B5 : Below w.heap.size w w5 := B4.out.trans (hb5.mono (by omega))
      have hb6 : Below w5.heap.size w5 (w5.alloc (.cells #[.slice A1 n1 c1, .slice A3 n3 c3, .slice A4 n4 c4, .slice A5 n5 c5] 25)) := (Below.refl _ _).alloc (Nat.le_refl _) _
      have HR2 := Lib.hid (own_kept R5 hb6)
      have HT2 := Lib.hid ((T5.below hb6).app (D4.below hb6))
      have HB2 : Hid (Below w.heap.size w (w5.alloc (.cells #[.slice A1 n1 c1, .slice A3 n3 c3, .slice A4 n4 c4, .slice A5 n5 c5] 25))) := B5.trans (hb6.mono (by omega))
      have HNW := Lib.hid (heap_alloc_new w5 (.cells #[.slice A1 n1 c1, .slice A3 n3 c3, .slice A4 n4 c4, .slice A5 n5 c5] 25))
      clear hn5 hown5 hb5 hb6 R4 T4 B4 D3 R5 T5 B5 D4
      go_wp2_with (at_builtin; refine wpList_append_own _ rfl _ _ 22 rfl w.heap.size 25 i0 (.agg #[.slice none 0 0]) 1 24 Try.underlying22 hi hz0 hz1 hz2 rfl (by decide) _ 81 vs rfl HR2.out ⟨w5.heap.size, 0, none⟩ 4 4 [.slice A1 n1 c1, .slice A3 n3 c3, .slice A4 n4 c4, .slice A5 n5 c5] rfl rfl (World.news_of_block (cs := #[.slice A1 n1 c1, .slice A3 n3 c3, .slice A4 n4 c4, .slice A5 n5 c5]) (t := 25) (fr := (0, 0)) HNW.out) (by simp [Value.oneCell']) ?c1 ?c2 ?c3 ?_)
      case c1 => unfold maxLen; omega
      case c2 => omega
      case c3 => simp; omega
      intro v w6 ho hg _
      have HF : Hid (Grows w w6 v 85) := by
        refine ⟨_, _, ?_, HB2.out.grown hg (by simp; omega) (fun k e => (HR2.out.lt k e).1), ho, HT2.out.grown HR2.out hg⟩
        rw [List.length_append, HLN.out]
        rfl
      clear ho hg HR2 HT2 HB2 HNW HLN
      obtain ⟨ls2, vs2, hl85, hb7, hrow7, hrt7⟩ := HF.out
      clear HF
      obtain ⟨g, cap, rfl, hg0, hg1⟩ := hrow7.form (by omega)
      have HLV := Lib.hid (hrt7.levs hrow7 hg1)
      have HL9 : Hid (∀ l ∈ ls2, l.length ≤ 9) := fun l hl => by
        obtain ⟨i, hi, rfl⟩ := List.getElem_of_mem hl
        obtain ⟨_, _, _, _, h9⟩ := hrt7.2 i hi
        rwa [List.getD_eq_getElem?_getD, List.getElem?_eq_getElem hi] at h9
      have HB7 := Lib.hid hb7
      have HL85 := Lib.hid hl85
      have s7 := hb7.size
      have hcap : 85 ≤ cap ∧ cap ≤ maxLen := own_cap hrow7
      obtain ⟨hcap1, hcap2⟩ := hcap
      clear hb7 hrow7 hrt7 hl85
      go_wp2
      go_loopw [3] (fun i wr => ∃ k : Nat, k ≤ 85 ∧ i = .int .i64 (k : Int) ∧ Below w6.heap.size w6 wr) (fun i _ => 85 - (intOf i).toNat)
      case atStart => exact ⟨0, Nat.zero_le _, rfl, Below.refl _ _⟩
      case round =>
        obtain ⟨k, hk, rfl, hb⟩ := hrel
        have hbz8 := hb.size
        by_cases hlt : k < 85
        · have HBK := Lib.hid hb
          clear hb
          go_wp2
          go_loopw [4] (fun i wq => ∃ j : Nat, j ≤ 85 ∧ i = .int .i64 (j : Int) ∧ Below w6.heap.size w6 wq) (fun i _ => 85 - (intOf i).toNat)
          case atStart => exact ⟨0, Nat.zero_le _, rfl, HBK.out⟩
          case round =>
            obtain ⟨j, hj, rfl, hb⟩ := hrel
            by_cases hlt2 : j < 85
            · have HBQ := Lib.hid hb
              have hwz := hb.size
              obtain ⟨gq, ol, hAl, _, hcl⟩ := HLV.out (by rw [HL85.out]; omega)
              injection hAl with hAl
              injection hAl with hAl1 hAl2
              subst hAl1 hAl2
              obtain ⟨Aa, ca, ck6, la6, lca, _⟩ := hcl k (by rw [HL85.out]; exact hlt)
              obtain ⟨Ab, cb, cj6, lb6, lcb, _⟩ := hcl j (by rw [HL85.out]; exact hlt2)
              have hla9 : (ls2.getD k []).length ≤ 9 := by
                rw [List.getD_eq_getElem?_getD, List.getElem?_eq_getElem (by rw [HL85.out]; exact hlt)]
                exact HL9.out _ (List.getElem_mem _)
              have hlb9 : (ls2.getD j []).length ≤ 9 := by
                rw [List.getD_eq_getElem?_getD, List.getElem?_eq_getElem (by rw [HL85.out]; exact hlt2)]
                exact HL9.out _ (List.getElem_mem _)
              obtain ⟨la, hla⟩ : ∃ l, ls2.getD k [] = l := ⟨_, rfl⟩
              obtain ⟨lb, hlb⟩ : ∃ l, ls2.getD j [] = l := ⟨_, rfl⟩
              rw [hla] at ck6 la6 hla9
              rw [hlb] at cj6 lb6 hlb9
              obtain ⟨na, hna⟩ : ∃ n, la.length = n := ⟨_, rfl⟩
              obtain ⟨nb, hnb⟩ : ∃ n, lb.length = n := ⟨_, rfl⟩
              rw [hna, Nat.zero_add] at ck6
              rw [hnb, Nat.zero_add] at cj6
              have ck := (hb.cell (by show g < w6.heap.size; exact hg1)).trans ck6
              have cj := (hb.cell (by show g < w6.heap.size; exact hg1)).trans cj6
              have LA := Lib.hid (show LAt wr Aa na ca la from ⟨hna.symm, (la6.below hb).more hb.size, lca⟩)
              have LB := Lib.hid (show LAt wr Ab nb cb lb from ⟨hnb.symm, (lb6.below hb).more hb.size, lcb⟩)
              obtain ⟨h2, hh2n⟩ : ∃ h : Nat, h = min (j + 2) 85 := ⟨_, rfl⟩
              have hh2 : min ((j : Int) + 2) ((85 : Nat) : Int) = (h2 : Int) := by omega
              have b0 : (j : Int) ≤ (h2 : Int) := by omega
              have b1 : (h2 : Int) ≤ (cap : Int) := by omega
              have b2 : j < cap := by omega
              have LSB := Lib.hid (((levs_sub (j := j) (h := h2) HLV.out (by rw [HL85.out]; omega)).below hb).more hb.size)
              have hsl : ((ls2.drop j).take (h2 - j)).length = h2 - j := by rw [List.length_take, List.length_drop, HL85.out]; omega
              have hs9 : ∀ b ∈ (ls2.drop j).take (h2 - j), b.length ≤ 900 := fun b hb => by
                have := HL9.out b (List.mem_of_mem_drop (List.mem_of_mem_take hb))
                omega
              obtain ⟨sb, hsb⟩ : ∃ l, (ls2.drop j).take (h2 - j) = l := ⟨_, rfl⟩
              rw [hsb] at LSB hsl hs9
              obtain ⟨qp, hqp⟩ : ∃ q, nfA (putS (nfA la) sb) = q := ⟨_, rfl⟩
              obtain ⟨nq, hnq⟩ : ∃ n, qp.length = n := ⟨_, rfl⟩
              obtain ⟨r4, hr4⟩ : ∃ r, ((k : Int) + (j : Int)).tmod 4 = r := ⟨_, rfl⟩
              obtain ⟨r7, hr7⟩ : ∃ r, (k : Int).tmod 7 = r := ⟨_, rfl⟩
              obtain ⟨r9, hr9⟩ : ∃ r, (j : Int).tmod 9 = r := ⟨_, rfl⟩
              obtain ⟨z9, hz9⟩ : ∃ r, (r9 == 0) = r := ⟨_, rfl⟩
              obtain ⟨va, hva⟩ : ∃ v, valF (nfA la) (numS [(j : Int), r7]) = v := ⟨_, rfl⟩
              have wkj : IntKind.i64.wrap ((k : Int) + (j : Int)) = (k : Int) + (j : Int) := IntWalk.i64_in _ (by omega)
              have wj2 : IntKind.i64.wrap ((j : Int) + 2) = (j : Int) + 2 := IntWalk.i64_in _ (by omega)
              have k0 : (0 : Int) ≤ (k : Int) := by omega
              have k1 : (k : Int) < ((85 : Nat) : Int) := by omega
              have j0 : (0 : Int) ≤ (j : Int) := by omega
              have j1 : (j : Int) < ((85 : Nat) : Int) := by omega
              have hgr : g < wr.heap.size := by omega
              have hql : qp.length ≤ 9000 := by
                have h1 := nfA_len (putS (nfA la) sb)
                have h2 := putS_len hs9 (nfA la)
                have h3 := nfA_len la
                rw [hqp] at h1
                omega
              have C66 : Hid (∀ w', Below wr.heap.size wr w' → Calls Try.prog 7 #[.agg #[.slice Aa na ca], .agg #[.slice Ab nb cb], .int .i64 r4] w' fun e w'' => e = .returned (.bool true) ∧ Below w'.heap.size w' w'' ∧ Below wr.heap.size wr w'') := fun w' hx => by
                obtain ⟨a0, a1, a2⟩ := LA.out.step hx
                obtain ⟨b0, b1, b2⟩ := LB.out.step hx
                have h := one_any Aa Ab la lb ca cb r4 w' (by omega) (by omega) a1 a2 b1 b2
                rw [hna, hnb] at h
                exact h.mono fun _ _ h => ⟨h.1, h.2, hx.trans (h.2.mono hx.size)⟩
              have C85 : Hid (∀ w', Below wr.heap.size wr w' → Calls Try.prog 9 #[.agg #[.slice Aa na ca], .slice (some ⟨g, j, none⟩) (h2 - j) (cap - j)] w' fun e w'' => ∃ A c, e = .returned (.agg #[.slice A nq c]) ∧ LAt w'' A nq c qp ∧ Below w'.heap.size w' w'' ∧ Below wr.heap.size wr w'') := fun w' hx => by
                obtain ⟨a0, a1, a2⟩ := LA.out.step hx
                have h := put_any Aa (some ⟨g, j, none⟩) la sb ca (cap - j) w' (by omega) a1 a2 (by unfold maxLen; omega) hs9 ((LSB.out.below hx).more hx.size)
                rw [hna, hsl] at h
                refine h.mono fun _ _ h => ?_
                obtain ⟨A, c, h1, h2, h3⟩ := h.lout
                rw [hqp, hnq] at h1 h2
                exact ⟨A, c, h1, h2, h3, hx.trans (h3.mono hx.size)⟩
              have C98 : Hid (∀ w', Below wr.heap.size wr w' → Calls Try.prog 10 #[.agg #[.slice Aa na ca], .slice (some ⟨g, j, none⟩) (h2 - j) (cap - j)] w' fun e w'' => ∃ A c, e = .returned (.agg #[.slice A nq c]) ∧ LAt w'' A nq c qp ∧ Below w'.heap.size w' w'' ∧ Below wr.heap.size wr w'') := fun w' hx => by
                obtain ⟨a0, a1, a2⟩ := LA.out.step hx
                have h := rputs_any Aa (some ⟨g, j, none⟩) la sb ca (cap - j) w' (by omega) a1 a2 (by unfold maxLen; omega) hs9 ((LSB.out.below hx).more hx.size)
                rw [hna, hsl] at h
                refine h.mono fun _ _ h => ?_
                obtain ⟨A, c, h1, h2, h3⟩ := h
                rw [hqp, hnq] at h1 h2
                exact ⟨A, c, h1, h2, h3, hx.trans (h3.mono hx.size)⟩
              have C99 : Hid (∀ (A A' : Option Addr) (c c' : Nat) w', LAt w' A nq c qp → LAt w' A' nq c' qp → Below wr.heap.size wr w' → Calls Try.prog 8 #[.agg #[.slice A nq c], .agg #[.slice A' nq c']] w' fun e w'' => e = .returned (.bool true) ∧ Below w'.heap.size w' w'' ∧ Below wr.heap.size wr w'') := fun A A' c c' w' h1 h2 hx => by
                obtain ⟨h0, h3, _⟩ := h1
                obtain ⟨_, h4, _⟩ := h2
                have h := same_any A A' qp qp c c' w' (by unfold maxLen; omega) (by unfold maxLen; omega) h3 h4 true ⟨fun _ => rfl, fun _ => rfl⟩
                rw [hnq] at h
                exact h.mono fun _ _ h => ⟨h.1, h.2, hx.trans (h.2.mono hx.size)⟩
              have C110 : Hid (∀ gi w', Ints w' w'.heap.size (some ⟨gi, 0, none⟩) [(j : Int), r7] → Below wr.heap.size wr w' → Calls Try.prog 11 #[.agg #[.slice Aa na ca], .slice (some ⟨gi, 0, none⟩) 2 2] w' fun e w'' => e = .returned (.int .i64 va) ∧ Below w'.heap.size w' w'' ∧ Below wr.heap.size wr w'') := fun gi w' hi hx => by
                obtain ⟨a0, a1, a2⟩ := LA.out.step hx
                have h := value_all Aa (some ⟨gi, 0, none⟩) la [(j : Int), r7] ca 2 w' (by unfold Few; omega) (by unfold maxLen; simp) a1 hi a2
                rw [hna, hva] at h
                exact h.mono fun _ _ h => ⟨h.1, h.2, hx.trans (h.2.mono hx.size)⟩
              have C119 : Hid (∀ gi w', Ints w' w'.heap.size (some ⟨gi, 0, none⟩) [(j : Int), r7] → Below wr.heap.size wr w' → Calls Try.prog 12 #[.agg #[.slice Aa na ca], .slice (some ⟨gi, 0, none⟩) 2 2] w' fun e w'' => e = .returned (.int .i64 va) ∧ Below w'.heap.size w' w'' ∧ Below wr.heap.size wr w'') := fun gi w' hi hx => by
                obtain ⟨a0, a1, a2⟩ := LA.out.step hx
                have h := rvalue_any Aa (some ⟨gi, 0, none⟩) la [(j : Int), r7] ca 2 w' (by omega) (by unfold maxLen; simp) a1 hi a2
                rw [hna, hva] at h
                exact h.mono fun _ _ h => ⟨h.1, h.2, hx.trans (h.2.mono hx.size)⟩
              have hS : Below wr.heap.size wr wr.drew := (Below.refl _ _).drew
              clear hb hcl ck6 cj6 la6 lb6 lca lcb hla hlb hla9 hlb9 hna hnb hqp hnq hva hsb hsl hs9 hql hh2n
              go_upto_region 13 with (fail)
              refine wp_region_tab (fun w' => Below wr.heap.size wr w') (fun w1 w2 : World => Below w1.heap.size w1 w2) [(fun (x : Value) (_ : World) => x = (.slice (some ⟨g, 0, none⟩) 85 cap : Value)), (fun (x : Value) (_ : World) => x = (.int .i64 (k : Int) : Value)), (fun (x : Value) (_ : World) => x = (.pointer (some ⟨g, k, none⟩) : Value)), (fun (x : Value) (_ : World) => x = (.agg #[.slice Aa na ca] : Value)), (fun (x : Value) (_ : World) => x = (.slice (some ⟨g, 0, none⟩) 85 cap : Value)), (fun (x : Value) (_ : World) => x = (.int .i64 (j : Int) : Value)), (fun (x : Value) (_ : World) => x = (.pointer (some ⟨g, j, none⟩) : Value)), (fun (x : Value) (_ : World) => x = (.agg #[.slice Ab nb cb] : Value)), (fun (x : Value) (_ : World) => x = (.int .i64 (k : Int) : Value)), (fun (x : Value) (_ : World) => x = (.int .i64 (j : Int) : Value)), (fun (x : Value) (_ : World) => x = (.int .i64 ((k : Int) + (j : Int)) : Value)), (fun (x : Value) (_ : World) => x = (.int .i64 r4 : Value)), (fun (x : Value) (_ : World) => x = (.bool true : Value)), (fun (x : Value) (_ : World) => x = (.bool false : Value)), (fun (x : Value) (_ : World) => x = (.bool false : Value)), (fun (x : Value) (_ : World) => x = (.int .i64 (j : Int) : Value)), (fun (x : Value) (_ : World) => x = (.int .i64 r9 : Value)), (fun (x : Value) (_ : World) => x = (.bool z9 : Value)), (fun (x : Value) (_ : World) => x = (.bool z9 : Value)), (fun (x : Value) (_ : World) => x = gv z9 (.slice (some ⟨g, 0, none⟩) 85 cap)), (fun (x : Value) (_ : World) => x = gv z9 (.int .i64 (k : Int))), (fun (x : Value) (_ : World) => x = gv z9 (.pointer (some ⟨g, k, none⟩))), (fun (x : Value) (_ : World) => x = gv z9 (.agg #[.slice Aa na ca])), (fun (x : Value) (_ : World) => x = gv z9 (.slice (some ⟨g, 0, none⟩) 85 cap)), (fun (x : Value) (_ : World) => x = gv z9 (.int .i64 (j : Int))), (fun (x : Value) (_ : World) => x = gv z9 (.int .i64 (j : Int))), (fun (x : Value) (_ : World) => x = gv z9 (.int .i64 ((j : Int) + 2))), (fun (x : Value) (_ : World) => x = gv z9 (.slice (some ⟨g, 0, none⟩) 85 cap)), (fun (x : Value) (_ : World) => x = gv z9 (.int .i64 ((85 : Nat) : Int))), (fun (x : Value) (_ : World) => x = gv z9 (.int .i64 (h2 : Int))), (fun (x : Value) (_ : World) => x = gv z9 (.slice (some ⟨g, j, none⟩) (h2 - j) (cap - j))), (fun (x : Value) (w : World) => z9 = true → ∃ A c, x = .agg #[.slice A nq c] ∧ LAt w A nq c qp), (fun (x : Value) (_ : World) => x = gv z9 (.slice (some ⟨g, 0, none⟩) 85 cap)), (fun (x : Value) (_ : World) => x = gv z9 (.int .i64 (k : Int))), (fun (x : Value) (_ : World) => x = gv z9 (.pointer (some ⟨g, k, none⟩))), (fun (x : Value) (_ : World) => x = gv z9 (.agg #[.slice Aa na ca])), (fun (x : Value) (_ : World) => x = gv z9 (.slice (some ⟨g, 0, none⟩) 85 cap)), (fun (x : Value) (_ : World) => x = gv z9 (.int .i64 (j : Int))), (fun (x : Value) (_ : World) => x = gv z9 (.int .i64 (j : Int))), (fun (x : Value) (_ : World) => x = gv z9 (.int .i64 ((j : Int) + 2))), (fun (x : Value) (_ : World) => x = gv z9 (.slice (some ⟨g, 0, none⟩) 85 cap)), (fun (x : Value) (_ : World) => x = gv z9 (.int .i64 ((85 : Nat) : Int))), (fun (x : Value) (_ : World) => x = gv z9 (.int .i64 (h2 : Int))), (fun (x : Value) (_ : World) => x = gv z9 (.slice (some ⟨g, j, none⟩) (h2 - j) (cap - j))), (fun (x : Value) (w : World) => z9 = true → ∃ A c, x = .agg #[.slice A nq c] ∧ LAt w A nq c qp), (fun (x : Value) (_ : World) => x = gv z9 (.bool true)), (fun (x : Value) (_ : World) => x = gv z9 (.bool false)), (fun (x : Value) (_ : World) => x = gv z9 (.bool false)), (fun (x : Value) (_ : World) => x = gv z9 (.slice (some ⟨g, 0, none⟩) 85 cap)), (fun (x : Value) (_ : World) => x = gv z9 (.int .i64 (k : Int))), (fun (x : Value) (_ : World) => x = gv z9 (.pointer (some ⟨g, k, none⟩))), (fun (x : Value) (_ : World) => x = gv z9 (.agg #[.slice Aa na ca])), (fun (x : Value) (_ : World) => x = gv z9 (.int .i64 (j : Int))), (fun (x : Value) (_ : World) => x = gv z9 (.int .i64 (k : Int))), (fun (x : Value) (_ : World) => x = gv z9 (.int .i64 r7)), (fun (x : Value) (w : World) => z9 = true → ∃ g, x = .slice (some ⟨g, 0, none⟩) 2 2 ∧ Ints w w.heap.size (some ⟨g, 0, none⟩) [(j : Int), r7]), (fun (x : Value) (_ : World) => x = gv z9 (.int .i64 va)), (fun (x : Value) (_ : World) => x = gv z9 (.slice (some ⟨g, 0, none⟩) 85 cap)), (fun (x : Value) (_ : World) => x = gv z9 (.int .i64 (k : Int))), (fun (x : Value) (_ : World) => x = gv z9 (.pointer (some ⟨g, k, none⟩))), (fun (x : Value) (_ : World) => x = gv z9 (.agg #[.slice Aa na ca])), (fun (x : Value) (_ : World) => x = gv z9 (.int .i64 (j : Int))), (fun (x : Value) (_ : World) => x = gv z9 (.int .i64 (k : Int))), (fun (x : Value) (_ : World) => x = gv z9 (.int .i64 r7)), (fun (x : Value) (w : World) => z9 = true → ∃ g, x = .slice (some ⟨g, 0, none⟩) 2 2 ∧ Ints w w.heap.size (some ⟨g, 0, none⟩) [(j : Int), r7]), (fun (x : Value) (_ : World) => x = gv z9 (.int .i64 va)), (fun (x : Value) (_ : World) => x = gv z9 (.bool false)), (fun (x : Value) (_ : World) => x = gv z9 (.bool false)), (fun (x : Value) (_ : World) => x = (.bool false : Value)), (fun (x : Value) (_ : World) => x = (.bool false : Value))] [⟨some 54, .move (.tmp 1), none, []⟩, ⟨some 55, .move (.tmp 3), none, []⟩, ⟨some 56, .indexAddr 22 (.tmp 54) (.tmp 55), none, [(54, 0), (55, 1)]⟩, ⟨some 57, .load 25 (.tmp 56), none, [(56, 2)]⟩, ⟨some 58, .move (.tmp 1), none, []⟩, ⟨some 59, .move (.tmp 4), none, []⟩, ⟨some 60, .indexAddr 22 (.tmp 58) (.tmp 59), none, [(58, 4), (59, 5)]⟩, ⟨some 61, .load 25 (.tmp 60), none, [(60, 6)]⟩, ⟨some 62, .move (.tmp 3), none, []⟩, ⟨some 63, .move (.tmp 4), none, []⟩, ⟨some 64, .binOp .add 3 (.tmp 62) (.tmp 63) 3, none, [(62, 8), (63, 9)]⟩, ⟨some 65, .binOp .rem 3 (.tmp 64) (.const (.int .i64 4)) 3, none, [(64, 10)]⟩, ⟨some 66, .call { callee := .value (.func 7), args := #[.tmp 57, .tmp 61, .tmp 65], argTypes := #[25, 25, 3] }, none, [(57, 3), (61, 7), (65, 11)]⟩, ⟨some 67, .unOp .not 4 (.tmp 66), none, [(66, 12)]⟩, ⟨some 68, .move (.tmp 67), none, [(67, 13)]⟩, ⟨some 69, .move (.tmp 4), some (some 68, false), [(68, 14)]⟩, ⟨some 70, .binOp .rem 3 (.tmp 69) (.const (.int .i64 9)) 3, some (some 68, false), [(68, 14), (69, 15)]⟩, ⟨some 71, .binOp .eql 3 (.tmp 70) (.const (.int .i64 0)) 3, some (some 68, false), [(68, 14), (70, 16)]⟩, ⟨some 72, .move (.tmp 71), some (some 68, false), [(68, 14), (71, 17)]⟩, ⟨some 73, .move (.tmp 1), some (some 72, true), [(72, 18)]⟩, ⟨some 74, .move (.tmp 3), some (some 72, true), [(72, 18)]⟩, ⟨some 75, .indexAddr 22 (.tmp 73) (.tmp 74), some (some 72, true), [(72, 18), (73, 19), (74, 20)]⟩, ⟨some 76, .load 25 (.tmp 75), some (some 72, true), [(72, 18), (75, 21)]⟩, ⟨some 77, .move (.tmp 1), some (some 72, true), [(72, 18)]⟩, ⟨some 78, .move (.tmp 4), some (some 72, true), [(72, 18)]⟩, ⟨some 79, .move (.tmp 4), some (some 72, true), [(72, 18)]⟩, ⟨some 80, .binOp .add 3 (.tmp 79) (.const (.int .i64 2)) 3, some (some 72, true), [(72, 18), (79, 25)]⟩, ⟨some 81, .move (.tmp 1), some (some 72, true), [(72, 18)]⟩, ⟨some 82, .call { callee := .builtin .len, args := #[.tmp 81], argTypes := #[22] }, some (some 72, true), [(72, 18), (81, 27)]⟩, ⟨some 83, .call { callee := .builtin .min, args := #[.tmp 80, .tmp 82], argTypes := #[3, 3] }, some (some 72, true), [(72, 18), (80, 26), (82, 28)]⟩, ⟨some 84, .slice 22 (.tmp 77) (some (.tmp 78)) (some (.tmp 83)) none, some (some 72, true), [(72, 18), (77, 23), (78, 24), (83, 29)]⟩, ⟨some 85, .call { callee := .value (.func 9), args := #[.tmp 76, .tmp 84], argTypes := #[25, 22] }, some (some 72, true), [(72, 18), (76, 22), (84, 30)]⟩, ⟨some 86, .move (.tmp 1), some (some 72, true), [(72, 18)]⟩, ⟨some 87, .move (.tmp 3), some (some 72, true), [(72, 18)]⟩, ⟨some 88, .indexAddr 22 (.tmp 86) (.tmp 87), some (some 72, true), [(72, 18), (86, 32), (87, 33)]⟩, ⟨some 89, .load 25 (.tmp 88), some (some 72, true), [(72, 18), (88, 34)]⟩, ⟨some 90, .move (.tmp 1), some (some 72, true), [(72, 18)]⟩, ⟨some 91, .move (.tmp 4), some (some 72, true), [(72, 18)]⟩, ⟨some 92, .move (.tmp 4), some (some 72, true), [(72, 18)]⟩, ⟨some 93, .binOp .add 3 (.tmp 92) (.const (.int .i64 2)) 3, some (some 72, true), [(72, 18), (92, 38)]⟩, ⟨some 94, .move (.tmp 1), some (some 72, true), [(72, 18)]⟩, ⟨some 95, .call { callee := .builtin .len, args := #[.tmp 94], argTypes := #[22] }, some (some 72, true), [(72, 18), (94, 40)]⟩, ⟨some 96, .call { callee := .builtin .min, args := #[.tmp 93, .tmp 95], argTypes := #[3, 3] }, some (some 72, true), [(72, 18), (93, 39), (95, 41)]⟩, ⟨some 97, .slice 22 (.tmp 90) (some (.tmp 91)) (some (.tmp 96)) none, some (some 72, true), [(72, 18), (90, 36), (91, 37), (96, 42)]⟩, ⟨some 98, .call { callee := .value (.func 10), args := #[.tmp 89, .tmp 97], argTypes := #[25, 22] }, some (some 72, true), [(72, 18), (89, 35), (97, 43)]⟩, ⟨some 99, .call { callee := .value (.func 8), args := #[.tmp 85, .tmp 98], argTypes := #[25, 25] }, some (some 72, true), [(72, 18), (85, 31), (98, 44)]⟩, ⟨some 100, .unOp .not 4 (.tmp 99), some (some 72, true), [(72, 18), (99, 45)]⟩, ⟨some 101, .move (.tmp 100), some (some 72, true), [(72, 18), (100, 46)]⟩, ⟨some 102, .move (.tmp 1), some (some 101, false), [(101, 47)]⟩, ⟨some 103, .move (.tmp 3), some (some 101, false), [(101, 47)]⟩, ⟨some 104, .indexAddr 22 (.tmp 102) (.tmp 103), some (some 101, false), [(101, 47), (102, 48), (103, 49)]⟩, ⟨some 105, .load 25 (.tmp 104), some (some 101, false), [(101, 47), (104, 50)]⟩, ⟨some 106, .move (.tmp 4), some (some 101, false), [(101, 47)]⟩, ⟨some 107, .move (.tmp 3), some (some 101, false), [(101, 47)]⟩, ⟨some 108, .binOp .rem 3 (.tmp 107) (.const (.int .i64 7)) 3, some (some 101, false), [(101, 47), (107, 53)]⟩, ⟨some 109, .buildSlice 31 2 #[(0, .tmp 106), (1, .tmp 108)], some (some 101, false), [(101, 47), (106, 52), (108, 54)]⟩, ⟨some 110, .call { callee := .value (.func 11), args := #[.tmp 105, .tmp 109], argTypes := #[25, 31] }, some (some 101, false), [(101, 47), (105, 51), (109, 55)]⟩, ⟨some 111, .move (.tmp 1), some (some 101, false), [(101, 47)]⟩, ⟨some 112, .move (.tmp 3), some (some 101, false), [(101, 47)]⟩, ⟨some 113, .indexAddr 22 (.tmp 111) (.tmp 112), some (some 101, false), [(101, 47), (111, 57), (112, 58)]⟩, ⟨some 114, .load 25 (.tmp 113), some (some 101, false), [(101, 47), (113, 59)]⟩, ⟨some 115, .move (.tmp 4), some (some 101, false), [(101, 47)]⟩, ⟨some 116, .move (.tmp 3), some (some 101, false), [(101, 47)]⟩, ⟨some 117, .binOp .rem 3 (.tmp 116) (.const (.int .i64 7)) 3, some (some 101, false), [(101, 47), (116, 62)]⟩, ⟨some 118, .buildSlice 31 2 #[(0, .tmp 115), (1, .tmp 117)], some (some 101, false), [(101, 47), (115, 61), (117, 63)]⟩, ⟨some 119, .call { callee := .value (.func 12), args := #[.tmp 114, .tmp 118], argTypes := #[25, 31] }, some (some 101, false), [(101, 47), (114, 60), (118, 64)]⟩, ⟨some 120, .binOp .neq 3 (.tmp 110) (.tmp 119) 3, some (some 101, false), [(101, 47), (110, 56), (119, 65)]⟩, ⟨some 121, .pick (.tmp 101) (.const (Value.bool true)) (.tmp 120), some (some 72, true), [(72, 18), (101, 47), (120, 66)]⟩, ⟨some 122, .pick (.tmp 72) (.tmp 121) (.const (Value.bool false)), some (some 68, false), [(68, 14), (72, 18), (121, 67)]⟩, ⟨some 123, .pick (.tmp 68) (.const (Value.bool true)) (.tmp 122), none, [(68, 14), (122, 68)]⟩] [some 54, some 55, some 56, some 57, some 58, some 59, some 60, some 61, some 62, some 63, some 64, some 65, some 66, some 67, some 68, some 69, some 70, some 71, some 72, some 73, some 74, some 75, some 76, some 77, some 78, some 79, some 80, some 81, some 82, some 83, some 84, some 85, some 86, some 87, some 88, some 89, some 90, some 91, some 92, some 93, some 94, some 95, some 96, some 97, some 98, some 99, some 100, some 101, some 102, some 103, some 104, some 105, some 106, some 107, some 108, some 109, some 110, some 111, some 112, some 113, some 114, some 115, some 116, some 117, some 118, some 119, some 120, some 121, some 122, some 123] (by kernel_rfl) (by kernel_rfl) (by kernel_rfl) (by kernel_rfl) (by kernel_rfl) ?hS ?hmono ?hsteps ?hfin
              case hS => exact hS
              case hmono =>
                refine MonoL.cons (fun x w1 w2 _ _ _ hx => hx) ?_
                refine MonoL.cons (fun x w1 w2 _ _ _ hx => hx) ?_
                refine MonoL.cons (fun x w1 w2 _ _ _ hx => hx) ?_
                refine MonoL.cons (fun x w1 w2 _ _ _ hx => hx) ?_
                refine MonoL.cons (fun x w1 w2 _ _ _ hx => hx) ?_
                refine MonoL.cons (fun x w1 w2 _ _ _ hx => hx) ?_
                refine MonoL.cons (fun x w1 w2 _ _ _ hx => hx) ?_
                refine MonoL.cons (fun x w1 w2 _ _ _ hx => hx) ?_
                refine MonoL.cons (fun x w1 w2 _ _ _ hx => hx) ?_
                refine MonoL.cons (fun x w1 w2 _ _ _ hx => hx) ?_
                refine MonoL.cons (fun x w1 w2 _ _ _ hx => hx) ?_
                refine MonoL.cons (fun x w1 w2 _ _ _ hx => hx) ?_
                refine MonoL.cons (fun x w1 w2 _ _ _ hx => hx) ?_
                refine MonoL.cons (fun x w1 w2 _ _ _ hx => hx) ?_
                refine MonoL.cons (fun x w1 w2 _ _ _ hx => hx) ?_
                refine MonoL.cons (fun x w1 w2 _ _ _ hx => hx) ?_
                refine MonoL.cons (fun x w1 w2 _ _ _ hx => hx) ?_
                refine MonoL.cons (fun x w1 w2 _ _ _ hx => hx) ?_
                refine MonoL.cons (fun x w1 w2 _ _ _ hx => hx) ?_
                refine MonoL.cons (fun x w1 w2 _ _ _ hx => hx) ?_
                refine MonoL.cons (fun x w1 w2 _ _ _ hx => hx) ?_
                refine MonoL.cons (fun x w1 w2 _ _ _ hx => hx) ?_
                refine MonoL.cons (fun x w1 w2 _ _ _ hx => hx) ?_
                refine MonoL.cons (fun x w1 w2 _ _ _ hx => hx) ?_
                refine MonoL.cons (fun x w1 w2 _ _ _ hx => hx) ?_
                refine MonoL.cons (fun x w1 w2 _ _ _ hx => hx) ?_
                refine MonoL.cons (fun x w1 w2 _ _ _ hx => hx) ?_
                refine MonoL.cons (fun x w1 w2 _ _ _ hx => hx) ?_
                refine MonoL.cons (fun x w1 w2 _ _ _ hx => hx) ?_
                refine MonoL.cons (fun x w1 w2 _ _ _ hx => hx) ?_
                refine MonoL.cons (fun x w1 w2 _ _ _ hx => hx) ?_
                refine MonoL.cons (fun x w1 w2 _ _ hR hx => ?_) ?_
                · intro hc; replace hx := hx hc; obtain ⟨A, c, rfl, h⟩ := hx; exact ⟨A, c, rfl, h.step hR⟩
                refine MonoL.cons (fun x w1 w2 _ _ _ hx => hx) ?_
                refine MonoL.cons (fun x w1 w2 _ _ _ hx => hx) ?_
                refine MonoL.cons (fun x w1 w2 _ _ _ hx => hx) ?_
                refine MonoL.cons (fun x w1 w2 _ _ _ hx => hx) ?_
                refine MonoL.cons (fun x w1 w2 _ _ _ hx => hx) ?_
                refine MonoL.cons (fun x w1 w2 _ _ _ hx => hx) ?_
                refine MonoL.cons (fun x w1 w2 _ _ _ hx => hx) ?_
                refine MonoL.cons (fun x w1 w2 _ _ _ hx => hx) ?_
                refine MonoL.cons (fun x w1 w2 _ _ _ hx => hx) ?_
                refine MonoL.cons (fun x w1 w2 _ _ _ hx => hx) ?_
                refine MonoL.cons (fun x w1 w2 _ _ _ hx => hx) ?_
                refine MonoL.cons (fun x w1 w2 _ _ _ hx => hx) ?_
                refine MonoL.cons (fun x w1 w2 _ _ hR hx => ?_) ?_
                · intro hc; replace hx := hx hc; obtain ⟨A, c, rfl, h⟩ := hx; exact ⟨A, c, rfl, h.step hR⟩
                refine MonoL.cons (fun x w1 w2 _ _ _ hx => hx) ?_
                refine MonoL.cons (fun x w1 w2 _ _ _ hx => hx) ?_
                refine MonoL.cons (fun x w1 w2 _ _ _ hx => hx) ?_
                refine MonoL.cons (fun x w1 w2 _ _ _ hx => hx) ?_
                refine MonoL.cons (fun x w1 w2 _ _ _ hx => hx) ?_
                refine MonoL.cons (fun x w1 w2 _ _ _ hx => hx) ?_
                refine MonoL.cons (fun x w1 w2 _ _ _ hx => hx) ?_
                refine MonoL.cons (fun x w1 w2 _ _ _ hx => hx) ?_
                refine MonoL.cons (fun x w1 w2 _ _ _ hx => hx) ?_
                refine MonoL.cons (fun x w1 w2 _ _ _ hx => hx) ?_
                refine MonoL.cons (fun x w1 w2 _ _ hR hx => ?_) ?_
                · intro hc; replace hx := hx hc; obtain ⟨g, h1, h2⟩ := hx; exact ⟨g, h1, (h2.below hR).more hR.size⟩
                refine MonoL.cons (fun x w1 w2 _ _ _ hx => hx) ?_
                refine MonoL.cons (fun x w1 w2 _ _ _ hx => hx) ?_
                refine MonoL.cons (fun x w1 w2 _ _ _ hx => hx) ?_
                refine MonoL.cons (fun x w1 w2 _ _ _ hx => hx) ?_
                refine MonoL.cons (fun x w1 w2 _ _ _ hx => hx) ?_
                refine MonoL.cons (fun x w1 w2 _ _ _ hx => hx) ?_
                refine MonoL.cons (fun x w1 w2 _ _ _ hx => hx) ?_
                refine MonoL.cons (fun x w1 w2 _ _ _ hx => hx) ?_
                refine MonoL.cons (fun x w1 w2 _ _ hR hx => ?_) ?_
                · intro hc; replace hx := hx hc; obtain ⟨g, h1, h2⟩ := hx; exact ⟨g, h1, (h2.below hR).more hR.size⟩
                refine MonoL.cons (fun x w1 w2 _ _ _ hx => hx) ?_
                refine MonoL.cons (fun x w1 w2 _ _ _ hx => hx) ?_
                refine MonoL.cons (fun x w1 w2 _ _ _ hx => hx) ?_
                refine MonoL.cons (fun x w1 w2 _ _ _ hx => hx) ?_
                refine MonoL.cons (fun x w1 w2 _ _ _ hx => hx) ?_
                exact MonoL.nil
              case hsteps =>
                refine StepsT.cons (fun (x : Value) (_ : World) => x = (.slice (some ⟨g, 0, none⟩) 85 cap : Value)) [] rfl rfl (fun oq hop _ wq hQS => ?_) ?_
                · exact StepFrom.move hop (v := (.slice (some ⟨g, 0, none⟩) 85 cap : Value)) (by kernel_rfl) (by kernel_rfl) hQS (Below.refl _ _) rfl
                refine StepsT.cons (fun (x : Value) (_ : World) => x = (.int .i64 (k : Int) : Value)) [] rfl rfl (fun oq hop _ wq hQS => ?_) ?_
                · exact StepFrom.move hop (v := (.int .i64 (k : Int) : Value)) (by kernel_rfl) (by kernel_rfl) hQS (Below.refl _ _) rfl
                refine StepsT.cons (fun (x : Value) (_ : World) => x = (.pointer (some ⟨g, k, none⟩) : Value)) [(54, (fun (x : Value) (_ : World) => x = (.slice (some ⟨g, 0, none⟩) 85 cap : Value))), (55, (fun (x : Value) (_ : World) => x = (.int .i64 (k : Int) : Value)))] rfl rfl (fun oq hop _ wq hQS => ?_) ?_
                · refine StepFrom.more_eq ((.slice (some ⟨g, 0, none⟩) 85 cap : Value)) ?_
                  refine StepFrom.more_eq ((.int .i64 (k : Int) : Value)) ?_
                  exact StepFrom.indexAddr hop (p := (.slice (some ⟨g, 0, none⟩) 85 cap : Value)) (q := (.int .i64 (k : Int) : Value)) (by kernel_rfl) (by kernel_rfl) (lev_addr k0 k1) (by kernel_rfl) hQS (Below.refl _ _) rfl
                refine StepsT.cons (fun (x : Value) (_ : World) => x = (.agg #[.slice Aa na ca] : Value)) [(56, (fun (x : Value) (_ : World) => x = (.pointer (some ⟨g, k, none⟩) : Value)))] rfl rfl (fun oq hop _ wq hQS => ?_) ?_
                · refine StepFrom.more_eq ((.pointer (some ⟨g, k, none⟩) : Value)) ?_
                  exact StepFrom.load hop (p := (.pointer (some ⟨g, k, none⟩) : Value)) (by kernel_rfl) (load_lev_at ((hQS.cell (p := ⟨g, k, none⟩) hgr).trans ck)) (by kernel_rfl) hQS (Below.refl _ _) rfl
                refine StepsT.cons (fun (x : Value) (_ : World) => x = (.slice (some ⟨g, 0, none⟩) 85 cap : Value)) [] rfl rfl (fun oq hop _ wq hQS => ?_) ?_
                · exact StepFrom.move hop (v := (.slice (some ⟨g, 0, none⟩) 85 cap : Value)) (by kernel_rfl) (by kernel_rfl) hQS (Below.refl _ _) rfl
                refine StepsT.cons (fun (x : Value) (_ : World) => x = (.int .i64 (j : Int) : Value)) [] rfl rfl (fun oq hop _ wq hQS => ?_) ?_
                · exact StepFrom.move hop (v := (.int .i64 (j : Int) : Value)) (by kernel_rfl) (by kernel_rfl) hQS (Below.refl _ _) rfl
                refine StepsT.cons (fun (x : Value) (_ : World) => x = (.pointer (some ⟨g, j, none⟩) : Value)) [(58, (fun (x : Value) (_ : World) => x = (.slice (some ⟨g, 0, none⟩) 85 cap : Value))), (59, (fun (x : Value) (_ : World) => x = (.int .i64 (j : Int) : Value)))] rfl rfl (fun oq hop _ wq hQS => ?_) ?_
                · refine StepFrom.more_eq ((.slice (some ⟨g, 0, none⟩) 85 cap : Value)) ?_
                  refine StepFrom.more_eq ((.int .i64 (j : Int) : Value)) ?_
                  exact StepFrom.indexAddr hop (p := (.slice (some ⟨g, 0, none⟩) 85 cap : Value)) (q := (.int .i64 (j : Int) : Value)) (by kernel_rfl) (by kernel_rfl) (lev_addr j0 j1) (by kernel_rfl) hQS (Below.refl _ _) rfl
                refine StepsT.cons (fun (x : Value) (_ : World) => x = (.agg #[.slice Ab nb cb] : Value)) [(60, (fun (x : Value) (_ : World) => x = (.pointer (some ⟨g, j, none⟩) : Value)))] rfl rfl (fun oq hop _ wq hQS => ?_) ?_
                · refine StepFrom.more_eq ((.pointer (some ⟨g, j, none⟩) : Value)) ?_
                  exact StepFrom.load hop (p := (.pointer (some ⟨g, j, none⟩) : Value)) (by kernel_rfl) (load_lev_at ((hQS.cell (p := ⟨g, j, none⟩) hgr).trans cj)) (by kernel_rfl) hQS (Below.refl _ _) rfl
                refine StepsT.cons (fun (x : Value) (_ : World) => x = (.int .i64 (k : Int) : Value)) [] rfl rfl (fun oq hop _ wq hQS => ?_) ?_
                · exact StepFrom.move hop (v := (.int .i64 (k : Int) : Value)) (by kernel_rfl) (by kernel_rfl) hQS (Below.refl _ _) rfl
                refine StepsT.cons (fun (x : Value) (_ : World) => x = (.int .i64 (j : Int) : Value)) [] rfl rfl (fun oq hop _ wq hQS => ?_) ?_
                · exact StepFrom.move hop (v := (.int .i64 (j : Int) : Value)) (by kernel_rfl) (by kernel_rfl) hQS (Below.refl _ _) rfl
                refine StepsT.cons (fun (x : Value) (_ : World) => x = (.int .i64 ((k : Int) + (j : Int)) : Value)) [(62, (fun (x : Value) (_ : World) => x = (.int .i64 (k : Int) : Value))), (63, (fun (x : Value) (_ : World) => x = (.int .i64 (j : Int) : Value)))] rfl rfl (fun oq hop _ wq hQS => ?_) ?_
                · refine StepFrom.more_eq ((.int .i64 (k : Int) : Value)) ?_
                  refine StepFrom.more_eq ((.int .i64 (j : Int) : Value)) ?_
                  exact StepFrom.bin hop (vx := (.int .i64 (k : Int) : Value)) (vy := (.int .i64 (j : Int) : Value)) (by kernel_rfl) (by kernel_rfl) (add_int _ _ _ _ _ wkj) (by kernel_rfl) hQS (Below.refl _ _) rfl
                refine StepsT.cons (fun (x : Value) (_ : World) => x = (.int .i64 r4 : Value)) [(64, (fun (x : Value) (_ : World) => x = (.int .i64 ((k : Int) + (j : Int)) : Value)))] rfl rfl (fun oq hop _ wq hQS => ?_) ?_
                · refine StepFrom.more_eq ((.int .i64 ((k : Int) + (j : Int)) : Value)) ?_
                  exact StepFrom.bin hop (vx := (.int .i64 ((k : Int) + (j : Int)) : Value)) (vy := (.int .i64 4 : Value)) (by kernel_rfl) (by kernel_rfl) (rem_int _ 4 (by decide) _ _ _) (by kernel_rfl) hQS (Below.refl _ _) (by rw [hr4])
                refine StepsT.cons (fun (x : Value) (_ : World) => x = (.bool true : Value)) [(57, (fun (x : Value) (_ : World) => x = (.agg #[.slice Aa na ca] : Value))), (61, (fun (x : Value) (_ : World) => x = (.agg #[.slice Ab nb cb] : Value))), (65, (fun (x : Value) (_ : World) => x = (.int .i64 r4 : Value)))] rfl rfl (fun oq hop _ wq hQS => ?_) ?_
                · refine StepFrom.more_eq ((.agg #[.slice Aa na ca] : Value)) ?_
                  refine StepFrom.more_eq ((.agg #[.slice Ab nb cb] : Value)) ?_
                  refine StepFrom.more_eq ((.int .i64 r4 : Value)) ?_
                  exact StepFrom.call hop (vs := [(.agg #[.slice Aa na ca] : Value), (.agg #[.slice Ab nb cb] : Value), (.int .i64 r4 : Value)]) (by kernel_rfl) (fun w => enter_one _ w) (by kernel_rfl) ((C66.out _ hQS).mono fun e w2 h => ⟨_, h.1, h.2.2, h.2.1, rfl⟩)
                refine StepsT.cons (fun (x : Value) (_ : World) => x = (.bool false : Value)) [(66, (fun (x : Value) (_ : World) => x = (.bool true : Value)))] rfl rfl (fun oq hop _ wq hQS => ?_) ?_
                · refine StepFrom.more_eq ((.bool true : Value)) ?_
                  exact StepFrom.not hop (b := true) (by kernel_rfl) (by kernel_rfl) hQS (Below.refl _ _) rfl
                refine StepsT.cons (fun (x : Value) (_ : World) => x = (.bool false : Value)) [(67, (fun (x : Value) (_ : World) => x = (.bool false : Value)))] rfl rfl (fun oq hop _ wq hQS => ?_) ?_
                · refine StepFrom.more_eq ((.bool false : Value)) ?_
                  exact StepFrom.move hop (v := (.bool false : Value)) (by kernel_rfl) (by kernel_rfl) hQS (Below.refl _ _) rfl
                refine StepsT.cons (fun (x : Value) (_ : World) => x = (.int .i64 (j : Int) : Value)) [(68, (fun (x : Value) (_ : World) => x = (.bool false : Value)))] rfl rfl (fun oq hop _ wq hQS => ?_) ?_
                · refine StepFrom.more_eq ((.bool false : Value)) ?_
                  exact StepFrom.move hop (v := (.int .i64 (j : Int) : Value)) (by kernel_rfl) (by kernel_rfl) hQS (Below.refl _ _) rfl
                refine StepsT.cons (fun (x : Value) (_ : World) => x = (.int .i64 r9 : Value)) [(68, (fun (x : Value) (_ : World) => x = (.bool false : Value))), (69, (fun (x : Value) (_ : World) => x = (.int .i64 (j : Int) : Value)))] rfl rfl (fun oq hop _ wq hQS => ?_) ?_
                · refine StepFrom.more_eq ((.bool false : Value)) ?_
                  refine StepFrom.more_eq ((.int .i64 (j : Int) : Value)) ?_
                  exact StepFrom.bin hop (vx := (.int .i64 (j : Int) : Value)) (vy := (.int .i64 9 : Value)) (by kernel_rfl) (by kernel_rfl) (rem_int _ 9 (by decide) _ _ _) (by kernel_rfl) hQS (Below.refl _ _) (by rw [hr9])
                refine StepsT.cons (fun (x : Value) (_ : World) => x = (.bool z9 : Value)) [(68, (fun (x : Value) (_ : World) => x = (.bool false : Value))), (70, (fun (x : Value) (_ : World) => x = (.int .i64 r9 : Value)))] rfl rfl (fun oq hop _ wq hQS => ?_) ?_
                · refine StepFrom.more_eq ((.bool false : Value)) ?_
                  refine StepFrom.more_eq ((.int .i64 r9 : Value)) ?_
                  exact StepFrom.bin hop (vx := (.int .i64 r9 : Value)) (vy := (.int .i64 0 : Value)) (by kernel_rfl) (by kernel_rfl) (eql_int _ _ _ _ _) (by kernel_rfl) hQS (Below.refl _ _) (by rw [hz9])
                refine StepsT.cons (fun (x : Value) (_ : World) => x = (.bool z9 : Value)) [(68, (fun (x : Value) (_ : World) => x = (.bool false : Value))), (71, (fun (x : Value) (_ : World) => x = (.bool z9 : Value)))] rfl rfl (fun oq hop _ wq hQS => ?_) ?_
                · refine StepFrom.more_eq ((.bool false : Value)) ?_
                  refine StepFrom.more_eq ((.bool z9 : Value)) ?_
                  exact StepFrom.move hop (v := (.bool z9 : Value)) (by kernel_rfl) (by kernel_rfl) hQS (Below.refl _ _) rfl
                refine StepsT.cons (fun (x : Value) (_ : World) => x = gv z9 (.slice (some ⟨g, 0, none⟩) 85 cap)) [(72, (fun (x : Value) (_ : World) => x = (.bool z9 : Value)))] rfl rfl (fun oq hop _ wq hQS => ?_) ?_
                · rcases z9 with _ | _
                  · refine StepFrom.more_eq ((.bool false : Value)) ?_
                    exact StepFrom.off (by kernel_rfl) hQS (Below.refl _ _) rfl
                  · refine StepFrom.more_eq ((.bool true : Value)) ?_
                    exact StepFrom.move hop (v := (.slice (some ⟨g, 0, none⟩) 85 cap : Value)) (by kernel_rfl) (by kernel_rfl) hQS (Below.refl _ _) rfl
                refine StepsT.cons (fun (x : Value) (_ : World) => x = gv z9 (.int .i64 (k : Int))) [(72, (fun (x : Value) (_ : World) => x = (.bool z9 : Value)))] rfl rfl (fun oq hop _ wq hQS => ?_) ?_
                · rcases z9 with _ | _
                  · refine StepFrom.more_eq ((.bool false : Value)) ?_
                    exact StepFrom.off (by kernel_rfl) hQS (Below.refl _ _) rfl
                  · refine StepFrom.more_eq ((.bool true : Value)) ?_
                    exact StepFrom.move hop (v := (.int .i64 (k : Int) : Value)) (by kernel_rfl) (by kernel_rfl) hQS (Below.refl _ _) rfl
                refine StepsT.cons (fun (x : Value) (_ : World) => x = gv z9 (.pointer (some ⟨g, k, none⟩))) [(72, (fun (x : Value) (_ : World) => x = (.bool z9 : Value))), (73, (fun (x : Value) (_ : World) => x = gv z9 (.slice (some ⟨g, 0, none⟩) 85 cap))), (74, (fun (x : Value) (_ : World) => x = gv z9 (.int .i64 (k : Int))))] rfl rfl (fun oq hop _ wq hQS => ?_) ?_
                · rcases z9 with _ | _
                  · refine StepFrom.more_eq ((.bool false : Value)) ?_
                    refine StepFrom.more_eq (undef) ?_
                    refine StepFrom.more_eq (undef) ?_
                    exact StepFrom.off (by kernel_rfl) hQS (Below.refl _ _) rfl
                  · refine StepFrom.more_eq ((.bool true : Value)) ?_
                    refine StepFrom.more_eq ((.slice (some ⟨g, 0, none⟩) 85 cap : Value)) ?_
                    refine StepFrom.more_eq ((.int .i64 (k : Int) : Value)) ?_
                    exact StepFrom.indexAddr hop (p := (.slice (some ⟨g, 0, none⟩) 85 cap : Value)) (q := (.int .i64 (k : Int) : Value)) (by kernel_rfl) (by kernel_rfl) (lev_addr k0 k1) (by kernel_rfl) hQS (Below.refl _ _) rfl
                refine StepsT.cons (fun (x : Value) (_ : World) => x = gv z9 (.agg #[.slice Aa na ca])) [(72, (fun (x : Value) (_ : World) => x = (.bool z9 : Value))), (75, (fun (x : Value) (_ : World) => x = gv z9 (.pointer (some ⟨g, k, none⟩))))] rfl rfl (fun oq hop _ wq hQS => ?_) ?_
                · rcases z9 with _ | _
                  · refine StepFrom.more_eq ((.bool false : Value)) ?_
                    refine StepFrom.more_eq (undef) ?_
                    exact StepFrom.off (by kernel_rfl) hQS (Below.refl _ _) rfl
                  · refine StepFrom.more_eq ((.bool true : Value)) ?_
                    refine StepFrom.more_eq ((.pointer (some ⟨g, k, none⟩) : Value)) ?_
                    exact StepFrom.load hop (p := (.pointer (some ⟨g, k, none⟩) : Value)) (by kernel_rfl) (load_lev_at ((hQS.cell (p := ⟨g, k, none⟩) hgr).trans ck)) (by kernel_rfl) hQS (Below.refl _ _) rfl
                refine StepsT.cons (fun (x : Value) (_ : World) => x = gv z9 (.slice (some ⟨g, 0, none⟩) 85 cap)) [(72, (fun (x : Value) (_ : World) => x = (.bool z9 : Value)))] rfl rfl (fun oq hop _ wq hQS => ?_) ?_
                · rcases z9 with _ | _
                  · refine StepFrom.more_eq ((.bool false : Value)) ?_
                    exact StepFrom.off (by kernel_rfl) hQS (Below.refl _ _) rfl
                  · refine StepFrom.more_eq ((.bool true : Value)) ?_
                    exact StepFrom.move hop (v := (.slice (some ⟨g, 0, none⟩) 85 cap : Value)) (by kernel_rfl) (by kernel_rfl) hQS (Below.refl _ _) rfl
                refine StepsT.cons (fun (x : Value) (_ : World) => x = gv z9 (.int .i64 (j : Int))) [(72, (fun (x : Value) (_ : World) => x = (.bool z9 : Value)))] rfl rfl (fun oq hop _ wq hQS => ?_) ?_
                · rcases z9 with _ | _
                  · refine StepFrom.more_eq ((.bool false : Value)) ?_
                    exact StepFrom.off (by kernel_rfl) hQS (Below.refl _ _) rfl
                  · refine StepFrom.more_eq ((.bool true : Value)) ?_
                    exact StepFrom.move hop (v := (.int .i64 (j : Int) : Value)) (by kernel_rfl) (by kernel_rfl) hQS (Below.refl _ _) rfl
                refine StepsT.cons (fun (x : Value) (_ : World) => x = gv z9 (.int .i64 (j : Int))) [(72, (fun (x : Value) (_ : World) => x = (.bool z9 : Value)))] rfl rfl (fun oq hop _ wq hQS => ?_) ?_
                · rcases z9 with _ | _
                  · refine StepFrom.more_eq ((.bool false : Value)) ?_
                    exact StepFrom.off (by kernel_rfl) hQS (Below.refl _ _) rfl
                  · refine StepFrom.more_eq ((.bool true : Value)) ?_
                    exact StepFrom.move hop (v := (.int .i64 (j : Int) : Value)) (by kernel_rfl) (by kernel_rfl) hQS (Below.refl _ _) rfl
                refine StepsT.cons (fun (x : Value) (_ : World) => x = gv z9 (.int .i64 ((j : Int) + 2))) [(72, (fun (x : Value) (_ : World) => x = (.bool z9 : Value))), (79, (fun (x : Value) (_ : World) => x = gv z9 (.int .i64 (j : Int))))] rfl rfl (fun oq hop _ wq hQS => ?_) ?_
                · rcases z9 with _ | _
                  · refine StepFrom.more_eq ((.bool false : Value)) ?_
                    refine StepFrom.more_eq (undef) ?_
                    exact StepFrom.off (by kernel_rfl) hQS (Below.refl _ _) rfl
                  · refine StepFrom.more_eq ((.bool true : Value)) ?_
                    refine StepFrom.more_eq ((.int .i64 (j : Int) : Value)) ?_
                    exact StepFrom.bin hop (vx := (.int .i64 (j : Int) : Value)) (vy := (.int .i64 2 : Value)) (by kernel_rfl) (by kernel_rfl) (add_int _ _ _ _ _ wj2) (by kernel_rfl) hQS (Below.refl _ _) rfl
                refine StepsT.cons (fun (x : Value) (_ : World) => x = gv z9 (.slice (some ⟨g, 0, none⟩) 85 cap)) [(72, (fun (x : Value) (_ : World) => x = (.bool z9 : Value)))] rfl rfl (fun oq hop _ wq hQS => ?_) ?_
                · rcases z9 with _ | _
                  · refine StepFrom.more_eq ((.bool false : Value)) ?_
                    exact StepFrom.off (by kernel_rfl) hQS (Below.refl _ _) rfl
                  · refine StepFrom.more_eq ((.bool true : Value)) ?_
                    exact StepFrom.move hop (v := (.slice (some ⟨g, 0, none⟩) 85 cap : Value)) (by kernel_rfl) (by kernel_rfl) hQS (Below.refl _ _) rfl
                refine StepsT.cons (fun (x : Value) (_ : World) => x = gv z9 (.int .i64 ((85 : Nat) : Int))) [(72, (fun (x : Value) (_ : World) => x = (.bool z9 : Value))), (81, (fun (x : Value) (_ : World) => x = gv z9 (.slice (some ⟨g, 0, none⟩) 85 cap)))] rfl rfl (fun oq hop _ wq hQS => ?_) ?_
                · rcases z9 with _ | _
                  · refine StepFrom.more_eq ((.bool false : Value)) ?_
                    refine StepFrom.more_eq (undef) ?_
                    exact StepFrom.off (by kernel_rfl) hQS (Below.refl _ _) rfl
                  · refine StepFrom.more_eq ((.bool true : Value)) ?_
                    refine StepFrom.more_eq ((.slice (some ⟨g, 0, none⟩) 85 cap : Value)) ?_
                    exact StepFrom.len hop (show _ = (.slice (some ⟨g, 0, none⟩) 85 cap : Value) by kernel_rfl) (by kernel_rfl) hQS (Below.refl _ _) rfl
                refine StepsT.cons (fun (x : Value) (_ : World) => x = gv z9 (.int .i64 (h2 : Int))) [(72, (fun (x : Value) (_ : World) => x = (.bool z9 : Value))), (80, (fun (x : Value) (_ : World) => x = gv z9 (.int .i64 ((j : Int) + 2)))), (82, (fun (x : Value) (_ : World) => x = gv z9 (.int .i64 ((85 : Nat) : Int))))] rfl rfl (fun oq hop _ wq hQS => ?_) ?_
                · rcases z9 with _ | _
                  · refine StepFrom.more_eq ((.bool false : Value)) ?_
                    refine StepFrom.more_eq (undef) ?_
                    refine StepFrom.more_eq (undef) ?_
                    exact StepFrom.off (by kernel_rfl) hQS (Below.refl _ _) rfl
                  · refine StepFrom.more_eq ((.bool true : Value)) ?_
                    refine StepFrom.more_eq ((.int .i64 ((j : Int) + 2) : Value)) ?_
                    refine StepFrom.more_eq ((.int .i64 ((85 : Nat) : Int) : Value)) ?_
                    exact StepFrom.min2 hop (by kernel_rfl) (by kernel_rfl) (by kernel_rfl) hQS (Below.refl _ _) (by rw [hh2]; rfl)
                refine StepsT.cons (fun (x : Value) (_ : World) => x = gv z9 (.slice (some ⟨g, j, none⟩) (h2 - j) (cap - j))) [(72, (fun (x : Value) (_ : World) => x = (.bool z9 : Value))), (77, (fun (x : Value) (_ : World) => x = gv z9 (.slice (some ⟨g, 0, none⟩) 85 cap))), (78, (fun (x : Value) (_ : World) => x = gv z9 (.int .i64 (j : Int)))), (83, (fun (x : Value) (_ : World) => x = gv z9 (.int .i64 (h2 : Int))))] rfl rfl (fun oq hop _ wq hQS => ?_) ?_
                · rcases z9 with _ | _
                  · refine StepFrom.more_eq ((.bool false : Value)) ?_
                    refine StepFrom.more_eq (undef) ?_
                    refine StepFrom.more_eq (undef) ?_
                    refine StepFrom.more_eq (undef) ?_
                    exact StepFrom.off (by kernel_rfl) hQS (Below.refl _ _) rfl
                  · refine StepFrom.more_eq ((.bool true : Value)) ?_
                    refine StepFrom.more_eq ((.slice (some ⟨g, 0, none⟩) 85 cap : Value)) ?_
                    refine StepFrom.more_eq ((.int .i64 (j : Int) : Value)) ?_
                    refine StepFrom.more_eq ((.int .i64 (h2 : Int) : Value)) ?_
                    exact StepFrom.sub hop (vx := (.slice (some ⟨g, 0, none⟩) 85 cap : Value)) (vl := (.int .i64 (j : Int) : Value)) (vh := (.int .i64 (h2 : Int) : Value)) (by kernel_rfl) (by kernel_rfl) (by kernel_rfl) (sub_levels b0 b1 b2) (by kernel_rfl) hQS (Below.refl _ _) rfl
                refine StepsT.cons (fun (x : Value) (w : World) => z9 = true → ∃ A c, x = .agg #[.slice A nq c] ∧ LAt w A nq c qp) [(72, (fun (x : Value) (_ : World) => x = (.bool z9 : Value))), (76, (fun (x : Value) (_ : World) => x = gv z9 (.agg #[.slice Aa na ca]))), (84, (fun (x : Value) (_ : World) => x = gv z9 (.slice (some ⟨g, j, none⟩) (h2 - j) (cap - j))))] rfl rfl (fun oq hop _ wq hQS => ?_) ?_
                · rcases z9 with _ | _
                  · refine StepFrom.more_eq ((.bool false : Value)) ?_
                    refine StepFrom.more_eq (undef) ?_
                    refine StepFrom.more_eq (undef) ?_
                    exact StepFrom.off (by kernel_rfl) hQS (Below.refl _ _) (fun h => by cases h)
                  · refine StepFrom.more_eq ((.bool true : Value)) ?_
                    refine StepFrom.more_eq ((.agg #[.slice Aa na ca] : Value)) ?_
                    refine StepFrom.more_eq ((.slice (some ⟨g, j, none⟩) (h2 - j) (cap - j) : Value)) ?_
                    exact StepFrom.call hop (vs := [(.agg #[.slice Aa na ca] : Value), (.slice (some ⟨g, j, none⟩) (h2 - j) (cap - j) : Value)]) (by kernel_rfl) (fun w => enter_put _ w) (by kernel_rfl) ((C85.out _ hQS).mono fun e w2 ⟨A, c, h1, h2, h3, h4⟩ => ⟨_, h1, h4, h3, fun _ => ⟨A, c, rfl, h2⟩⟩)
                refine StepsT.cons (fun (x : Value) (_ : World) => x = gv z9 (.slice (some ⟨g, 0, none⟩) 85 cap)) [(72, (fun (x : Value) (_ : World) => x = (.bool z9 : Value)))] rfl rfl (fun oq hop _ wq hQS => ?_) ?_
                · rcases z9 with _ | _
                  · refine StepFrom.more_eq ((.bool false : Value)) ?_
                    exact StepFrom.off (by kernel_rfl) hQS (Below.refl _ _) rfl
                  · refine StepFrom.more_eq ((.bool true : Value)) ?_
                    exact StepFrom.move hop (v := (.slice (some ⟨g, 0, none⟩) 85 cap : Value)) (by kernel_rfl) (by kernel_rfl) hQS (Below.refl _ _) rfl
                refine StepsT.cons (fun (x : Value) (_ : World) => x = gv z9 (.int .i64 (k : Int))) [(72, (fun (x : Value) (_ : World) => x = (.bool z9 : Value)))] rfl rfl (fun oq hop _ wq hQS => ?_) ?_
                · rcases z9 with _ | _
                  · refine StepFrom.more_eq ((.bool false : Value)) ?_
                    exact StepFrom.off (by kernel_rfl) hQS (Below.refl _ _) rfl
                  · refine StepFrom.more_eq ((.bool true : Value)) ?_
                    exact StepFrom.move hop (v := (.int .i64 (k : Int) : Value)) (by kernel_rfl) (by kernel_rfl) hQS (Below.refl _ _) rfl
                refine StepsT.cons (fun (x : Value) (_ : World) => x = gv z9 (.pointer (some ⟨g, k, none⟩))) [(72, (fun (x : Value) (_ : World) => x = (.bool z9 : Value))), (86, (fun (x : Value) (_ : World) => x = gv z9 (.slice (some ⟨g, 0, none⟩) 85 cap))), (87, (fun (x : Value) (_ : World) => x = gv z9 (.int .i64 (k : Int))))] rfl rfl (fun oq hop _ wq hQS => ?_) ?_
                · rcases z9 with _ | _
                  · refine StepFrom.more_eq ((.bool false : Value)) ?_
                    refine StepFrom.more_eq (undef) ?_
                    refine StepFrom.more_eq (undef) ?_
                    exact StepFrom.off (by kernel_rfl) hQS (Below.refl _ _) rfl
                  · refine StepFrom.more_eq ((.bool true : Value)) ?_
                    refine StepFrom.more_eq ((.slice (some ⟨g, 0, none⟩) 85 cap : Value)) ?_
                    refine StepFrom.more_eq ((.int .i64 (k : Int) : Value)) ?_
                    exact StepFrom.indexAddr hop (p := (.slice (some ⟨g, 0, none⟩) 85 cap : Value)) (q := (.int .i64 (k : Int) : Value)) (by kernel_rfl) (by kernel_rfl) (lev_addr k0 k1) (by kernel_rfl) hQS (Below.refl _ _) rfl
                refine StepsT.cons (fun (x : Value) (_ : World) => x = gv z9 (.agg #[.slice Aa na ca])) [(72, (fun (x : Value) (_ : World) => x = (.bool z9 : Value))), (88, (fun (x : Value) (_ : World) => x = gv z9 (.pointer (some ⟨g, k, none⟩))))] rfl rfl (fun oq hop _ wq hQS => ?_) ?_
                · rcases z9 with _ | _
                  · refine StepFrom.more_eq ((.bool false : Value)) ?_
                    refine StepFrom.more_eq (undef) ?_
                    exact StepFrom.off (by kernel_rfl) hQS (Below.refl _ _) rfl
                  · refine StepFrom.more_eq ((.bool true : Value)) ?_
                    refine StepFrom.more_eq ((.pointer (some ⟨g, k, none⟩) : Value)) ?_
                    exact StepFrom.load hop (p := (.pointer (some ⟨g, k, none⟩) : Value)) (by kernel_rfl) (load_lev_at ((hQS.cell (p := ⟨g, k, none⟩) hgr).trans ck)) (by kernel_rfl) hQS (Below.refl _ _) rfl
                refine StepsT.cons (fun (x : Value) (_ : World) => x = gv z9 (.slice (some ⟨g, 0, none⟩) 85 cap)) [(72, (fun (x : Value) (_ : World) => x = (.bool z9 : Value)))] rfl rfl (fun oq hop _ wq hQS => ?_) ?_
                · rcases z9 with _ | _
                  · refine StepFrom.more_eq ((.bool false : Value)) ?_
                    exact StepFrom.off (by kernel_rfl) hQS (Below.refl _ _) rfl
                  · refine StepFrom.more_eq ((.bool true : Value)) ?_
                    exact StepFrom.move hop (v := (.slice (some ⟨g, 0, none⟩) 85 cap : Value)) (by kernel_rfl) (by kernel_rfl) hQS (Below.refl _ _) rfl
                refine StepsT.cons (fun (x : Value) (_ : World) => x = gv z9 (.int .i64 (j : Int))) [(72, (fun (x : Value) (_ : World) => x = (.bool z9 : Value)))] rfl rfl (fun oq hop _ wq hQS => ?_) ?_
                · rcases z9 with _ | _
                  · refine StepFrom.more_eq ((.bool false : Value)) ?_
                    exact StepFrom.off (by kernel_rfl) hQS (Below.refl _ _) rfl
                  · refine StepFrom.more_eq ((.bool true : Value)) ?_
                    exact StepFrom.move hop (v := (.int .i64 (j : Int) : Value)) (by kernel_rfl) (by kernel_rfl) hQS (Below.refl _ _) rfl
                refine StepsT.cons (fun (x : Value) (_ : World) => x = gv z9 (.int .i64 (j : Int))) [(72, (fun (x : Value) (_ : World) => x = (.bool z9 : Value)))] rfl rfl (fun oq hop _ wq hQS => ?_) ?_
                · rcases z9 with _ | _
                  · refine StepFrom.more_eq ((.bool false : Value)) ?_
                    exact StepFrom.off (by kernel_rfl) hQS (Below.refl _ _) rfl
                  · refine StepFrom.more_eq ((.bool true : Value)) ?_
                    exact StepFrom.move hop (v := (.int .i64 (j : Int) : Value)) (by kernel_rfl) (by kernel_rfl) hQS (Below.refl _ _) rfl
                refine StepsT.cons (fun (x : Value) (_ : World) => x = gv z9 (.int .i64 ((j : Int) + 2))) [(72, (fun (x : Value) (_ : World) => x = (.bool z9 : Value))), (92, (fun (x : Value) (_ : World) => x = gv z9 (.int .i64 (j : Int))))] rfl rfl (fun oq hop _ wq hQS => ?_) ?_
                · rcases z9 with _ | _
                  · refine StepFrom.more_eq ((.bool false : Value)) ?_
                    refine StepFrom.more_eq (undef) ?_
                    exact StepFrom.off (by kernel_rfl) hQS (Below.refl _ _) rfl
                  · refine StepFrom.more_eq ((.bool true : Value)) ?_
                    refine StepFrom.more_eq ((.int .i64 (j : Int) : Value)) ?_
                    exact StepFrom.bin hop (vx := (.int .i64 (j : Int) : Value)) (vy := (.int .i64 2 : Value)) (by kernel_rfl) (by kernel_rfl) (add_int _ _ _ _ _ wj2) (by kernel_rfl) hQS (Below.refl _ _) rfl
                refine StepsT.cons (fun (x : Value) (_ : World) => x = gv z9 (.slice (some ⟨g, 0, none⟩) 85 cap)) [(72, (fun (x : Value) (_ : World) => x = (.bool z9 : Value)))] rfl rfl (fun oq hop _ wq hQS => ?_) ?_
                · rcases z9 with _ | _
                  · refine StepFrom.more_eq ((.bool false : Value)) ?_
                    exact StepFrom.off (by kernel_rfl) hQS (Below.refl _ _) rfl
                  · refine StepFrom.more_eq ((.bool true : Value)) ?_
                    exact StepFrom.move hop (v := (.slice (some ⟨g, 0, none⟩) 85 cap : Value)) (by kernel_rfl) (by kernel_rfl) hQS (Below.refl _ _) rfl
                refine StepsT.cons (fun (x : Value) (_ : World) => x = gv z9 (.int .i64 ((85 : Nat) : Int))) [(72, (fun (x : Value) (_ : World) => x = (.bool z9 : Value))), (94, (fun (x : Value) (_ : World) => x = gv z9 (.slice (some ⟨g, 0, none⟩) 85 cap)))] rfl rfl (fun oq hop _ wq hQS => ?_) ?_
                · rcases z9 with _ | _
                  · refine StepFrom.more_eq ((.bool false : Value)) ?_
                    refine StepFrom.more_eq (undef) ?_
                    exact StepFrom.off (by kernel_rfl) hQS (Below.refl _ _) rfl
                  · refine StepFrom.more_eq ((.bool true : Value)) ?_
                    refine StepFrom.more_eq ((.slice (some ⟨g, 0, none⟩) 85 cap : Value)) ?_
                    exact StepFrom.len hop (show _ = (.slice (some ⟨g, 0, none⟩) 85 cap : Value) by kernel_rfl) (by kernel_rfl) hQS (Below.refl _ _) rfl
                refine StepsT.cons (fun (x : Value) (_ : World) => x = gv z9 (.int .i64 (h2 : Int))) [(72, (fun (x : Value) (_ : World) => x = (.bool z9 : Value))), (93, (fun (x : Value) (_ : World) => x = gv z9 (.int .i64 ((j : Int) + 2)))), (95, (fun (x : Value) (_ : World) => x = gv z9 (.int .i64 ((85 : Nat) : Int))))] rfl rfl (fun oq hop _ wq hQS => ?_) ?_
                · rcases z9 with _ | _
                  · refine StepFrom.more_eq ((.bool false : Value)) ?_
                    refine StepFrom.more_eq (undef) ?_
                    refine StepFrom.more_eq (undef) ?_
                    exact StepFrom.off (by kernel_rfl) hQS (Below.refl _ _) rfl
                  · refine StepFrom.more_eq ((.bool true : Value)) ?_
                    refine StepFrom.more_eq ((.int .i64 ((j : Int) + 2) : Value)) ?_
                    refine StepFrom.more_eq ((.int .i64 ((85 : Nat) : Int) : Value)) ?_
                    exact StepFrom.min2 hop (by kernel_rfl) (by kernel_rfl) (by kernel_rfl) hQS (Below.refl _ _) (by rw [hh2]; rfl)
                refine StepsT.cons (fun (x : Value) (_ : World) => x = gv z9 (.slice (some ⟨g, j, none⟩) (h2 - j) (cap - j))) [(72, (fun (x : Value) (_ : World) => x = (.bool z9 : Value))), (90, (fun (x : Value) (_ : World) => x = gv z9 (.slice (some ⟨g, 0, none⟩) 85 cap))), (91, (fun (x : Value) (_ : World) => x = gv z9 (.int .i64 (j : Int)))), (96, (fun (x : Value) (_ : World) => x = gv z9 (.int .i64 (h2 : Int))))] rfl rfl (fun oq hop _ wq hQS => ?_) ?_
                · rcases z9 with _ | _
                  · refine StepFrom.more_eq ((.bool false : Value)) ?_
                    refine StepFrom.more_eq (undef) ?_
                    refine StepFrom.more_eq (undef) ?_
                    refine StepFrom.more_eq (undef) ?_
                    exact StepFrom.off (by kernel_rfl) hQS (Below.refl _ _) rfl
                  · refine StepFrom.more_eq ((.bool true : Value)) ?_
                    refine StepFrom.more_eq ((.slice (some ⟨g, 0, none⟩) 85 cap : Value)) ?_
                    refine StepFrom.more_eq ((.int .i64 (j : Int) : Value)) ?_
                    refine StepFrom.more_eq ((.int .i64 (h2 : Int) : Value)) ?_
                    exact StepFrom.sub hop (vx := (.slice (some ⟨g, 0, none⟩) 85 cap : Value)) (vl := (.int .i64 (j : Int) : Value)) (vh := (.int .i64 (h2 : Int) : Value)) (by kernel_rfl) (by kernel_rfl) (by kernel_rfl) (sub_levels b0 b1 b2) (by kernel_rfl) hQS (Below.refl _ _) rfl
                refine StepsT.cons (fun (x : Value) (w : World) => z9 = true → ∃ A c, x = .agg #[.slice A nq c] ∧ LAt w A nq c qp) [(72, (fun (x : Value) (_ : World) => x = (.bool z9 : Value))), (89, (fun (x : Value) (_ : World) => x = gv z9 (.agg #[.slice Aa na ca]))), (97, (fun (x : Value) (_ : World) => x = gv z9 (.slice (some ⟨g, j, none⟩) (h2 - j) (cap - j))))] rfl rfl (fun oq hop _ wq hQS => ?_) ?_
                · rcases z9 with _ | _
                  · refine StepFrom.more_eq ((.bool false : Value)) ?_
                    refine StepFrom.more_eq (undef) ?_
                    refine StepFrom.more_eq (undef) ?_
                    exact StepFrom.off (by kernel_rfl) hQS (Below.refl _ _) (fun h => by cases h)
                  · refine StepFrom.more_eq ((.bool true : Value)) ?_
                    refine StepFrom.more_eq ((.agg #[.slice Aa na ca] : Value)) ?_
                    refine StepFrom.more_eq ((.slice (some ⟨g, j, none⟩) (h2 - j) (cap - j) : Value)) ?_
                    exact StepFrom.call hop (vs := [(.agg #[.slice Aa na ca] : Value), (.slice (some ⟨g, j, none⟩) (h2 - j) (cap - j) : Value)]) (by kernel_rfl) (fun w => enter_rput _ w) (by kernel_rfl) ((C98.out _ hQS).mono fun e w2 ⟨A, c, h1, h2, h3, h4⟩ => ⟨_, h1, h4, h3, fun _ => ⟨A, c, rfl, h2⟩⟩)
                refine StepsT.cons (fun (x : Value) (_ : World) => x = gv z9 (.bool true)) [(72, (fun (x : Value) (_ : World) => x = (.bool z9 : Value))), (85, (fun (x : Value) (w : World) => z9 = true → ∃ A c, x = .agg #[.slice A nq c] ∧ LAt w A nq c qp)), (98, (fun (x : Value) (w : World) => z9 = true → ∃ A c, x = .agg #[.slice A nq c] ∧ LAt w A nq c qp))] rfl rfl (fun oq hop _ wq hQS => ?_) ?_
                · rcases z9 with _ | _
                  · refine StepFrom.more_eq ((.bool false : Value)) ?_
                    refine StepFrom.more fun x85 h85 => ?_
                    refine StepFrom.more fun x98 h98 => ?_
                    exact StepFrom.off (by kernel_rfl) hQS (Below.refl _ _) rfl
                  · refine StepFrom.more_eq ((.bool true : Value)) ?_
                    refine StepFrom.more fun x85 h85 => ?_
                    obtain ⟨A85, c85, rfl, hl85⟩ := h85 rfl
                    refine StepFrom.more fun x98 h98 => ?_
                    obtain ⟨A98, c98, rfl, hl98⟩ := h98 rfl
                    exact StepFrom.call hop (vs := [(.agg #[.slice A85 nq c85] : Value), (.agg #[.slice A98 nq c98] : Value)]) (by kernel_rfl) (fun w => enter_same _ w) (by kernel_rfl) ((C99.out _ _ _ _ _ hl85 hl98 hQS).mono fun e w2 h => ⟨_, h.1, h.2.2, h.2.1, rfl⟩)
                refine StepsT.cons (fun (x : Value) (_ : World) => x = gv z9 (.bool false)) [(72, (fun (x : Value) (_ : World) => x = (.bool z9 : Value))), (99, (fun (x : Value) (_ : World) => x = gv z9 (.bool true)))] rfl rfl (fun oq hop _ wq hQS => ?_) ?_
                · rcases z9 with _ | _
                  · refine StepFrom.more_eq ((.bool false : Value)) ?_
                    refine StepFrom.more_eq (undef) ?_
                    exact StepFrom.off (by kernel_rfl) hQS (Below.refl _ _) rfl
                  · refine StepFrom.more_eq ((.bool true : Value)) ?_
                    refine StepFrom.more_eq ((.bool true : Value)) ?_
                    exact StepFrom.not hop (b := true) (by kernel_rfl) (by kernel_rfl) hQS (Below.refl _ _) rfl
                refine StepsT.cons (fun (x : Value) (_ : World) => x = gv z9 (.bool false)) [(72, (fun (x : Value) (_ : World) => x = (.bool z9 : Value))), (100, (fun (x : Value) (_ : World) => x = gv z9 (.bool false)))] rfl rfl (fun oq hop _ wq hQS => ?_) ?_
                · rcases z9 with _ | _
                  · refine StepFrom.more_eq ((.bool false : Value)) ?_
                    refine StepFrom.more_eq (undef) ?_
                    exact StepFrom.off (by kernel_rfl) hQS (Below.refl _ _) rfl
                  · refine StepFrom.more_eq ((.bool true : Value)) ?_
                    refine StepFrom.more_eq ((.bool false : Value)) ?_
                    exact StepFrom.move hop (v := (.bool false : Value)) (by kernel_rfl) (by kernel_rfl) hQS (Below.refl _ _) rfl
                refine StepsT.cons (fun (x : Value) (_ : World) => x = gv z9 (.slice (some ⟨g, 0, none⟩) 85 cap)) [(101, (fun (x : Value) (_ : World) => x = gv z9 (.bool false)))] rfl rfl (fun oq hop _ wq hQS => ?_) ?_
                · rcases z9 with _ | _
                  · refine StepFrom.more_eq (undef) ?_
                    exact StepFrom.off (by kernel_rfl) hQS (Below.refl _ _) rfl
                  · refine StepFrom.more_eq ((.bool false : Value)) ?_
                    exact StepFrom.move hop (v := (.slice (some ⟨g, 0, none⟩) 85 cap : Value)) (by kernel_rfl) (by kernel_rfl) hQS (Below.refl _ _) rfl
                refine StepsT.cons (fun (x : Value) (_ : World) => x = gv z9 (.int .i64 (k : Int))) [(101, (fun (x : Value) (_ : World) => x = gv z9 (.bool false)))] rfl rfl (fun oq hop _ wq hQS => ?_) ?_
                · rcases z9 with _ | _
                  · refine StepFrom.more_eq (undef) ?_
                    exact StepFrom.off (by kernel_rfl) hQS (Below.refl _ _) rfl
                  · refine StepFrom.more_eq ((.bool false : Value)) ?_
                    exact StepFrom.move hop (v := (.int .i64 (k : Int) : Value)) (by kernel_rfl) (by kernel_rfl) hQS (Below.refl _ _) rfl
                refine StepsT.cons (fun (x : Value) (_ : World) => x = gv z9 (.pointer (some ⟨g, k, none⟩))) [(101, (fun (x : Value) (_ : World) => x = gv z9 (.bool false))), (102, (fun (x : Value) (_ : World) => x = gv z9 (.slice (some ⟨g, 0, none⟩) 85 cap))), (103, (fun (x : Value) (_ : World) => x = gv z9 (.int .i64 (k : Int))))] rfl rfl (fun oq hop _ wq hQS => ?_) ?_
                · rcases z9 with _ | _
                  · refine StepFrom.more_eq (undef) ?_
                    refine StepFrom.more_eq (undef) ?_
                    refine StepFrom.more_eq (undef) ?_
                    exact StepFrom.off (by kernel_rfl) hQS (Below.refl _ _) rfl
                  · refine StepFrom.more_eq ((.bool false : Value)) ?_
                    refine StepFrom.more_eq ((.slice (some ⟨g, 0, none⟩) 85 cap : Value)) ?_
                    refine StepFrom.more_eq ((.int .i64 (k : Int) : Value)) ?_
                    exact StepFrom.indexAddr hop (p := (.slice (some ⟨g, 0, none⟩) 85 cap : Value)) (q := (.int .i64 (k : Int) : Value)) (by kernel_rfl) (by kernel_rfl) (lev_addr k0 k1) (by kernel_rfl) hQS (Below.refl _ _) rfl
                refine StepsT.cons (fun (x : Value) (_ : World) => x = gv z9 (.agg #[.slice Aa na ca])) [(101, (fun (x : Value) (_ : World) => x = gv z9 (.bool false))), (104, (fun (x : Value) (_ : World) => x = gv z9 (.pointer (some ⟨g, k, none⟩))))] rfl rfl (fun oq hop _ wq hQS => ?_) ?_
                · rcases z9 with _ | _
                  · refine StepFrom.more_eq (undef) ?_
                    refine StepFrom.more_eq (undef) ?_
                    exact StepFrom.off (by kernel_rfl) hQS (Below.refl _ _) rfl
                  · refine StepFrom.more_eq ((.bool false : Value)) ?_
                    refine StepFrom.more_eq ((.pointer (some ⟨g, k, none⟩) : Value)) ?_
                    exact StepFrom.load hop (p := (.pointer (some ⟨g, k, none⟩) : Value)) (by kernel_rfl) (load_lev_at ((hQS.cell (p := ⟨g, k, none⟩) hgr).trans ck)) (by kernel_rfl) hQS (Below.refl _ _) rfl
                refine StepsT.cons (fun (x : Value) (_ : World) => x = gv z9 (.int .i64 (j : Int))) [(101, (fun (x : Value) (_ : World) => x = gv z9 (.bool false)))] rfl rfl (fun oq hop _ wq hQS => ?_) ?_
                · rcases z9 with _ | _
                  · refine StepFrom.more_eq (undef) ?_
                    exact StepFrom.off (by kernel_rfl) hQS (Below.refl _ _) rfl
                  · refine StepFrom.more_eq ((.bool false : Value)) ?_
                    exact StepFrom.move hop (v := (.int .i64 (j : Int) : Value)) (by kernel_rfl) (by kernel_rfl) hQS (Below.refl _ _) rfl
                refine StepsT.cons (fun (x : Value) (_ : World) => x = gv z9 (.int .i64 (k : Int))) [(101, (fun (x : Value) (_ : World) => x = gv z9 (.bool false)))] rfl rfl (fun oq hop _ wq hQS => ?_) ?_
                · rcases z9 with _ | _
                  · refine StepFrom.more_eq (undef) ?_
                    exact StepFrom.off (by kernel_rfl) hQS (Below.refl _ _) rfl
                  · refine StepFrom.more_eq ((.bool false : Value)) ?_
                    exact StepFrom.move hop (v := (.int .i64 (k : Int) : Value)) (by kernel_rfl) (by kernel_rfl) hQS (Below.refl _ _) rfl
                refine StepsT.cons (fun (x : Value) (_ : World) => x = gv z9 (.int .i64 r7)) [(101, (fun (x : Value) (_ : World) => x = gv z9 (.bool false))), (107, (fun (x : Value) (_ : World) => x = gv z9 (.int .i64 (k : Int))))] rfl rfl (fun oq hop _ wq hQS => ?_) ?_
                · rcases z9 with _ | _
                  · refine StepFrom.more_eq (undef) ?_
                    refine StepFrom.more_eq (undef) ?_
                    exact StepFrom.off (by kernel_rfl) hQS (Below.refl _ _) rfl
                  · refine StepFrom.more_eq ((.bool false : Value)) ?_
                    refine StepFrom.more_eq ((.int .i64 (k : Int) : Value)) ?_
                    exact StepFrom.bin hop (vx := (.int .i64 (k : Int) : Value)) (vy := (.int .i64 7 : Value)) (by kernel_rfl) (by kernel_rfl) (rem_int _ 7 (by decide) _ _ _) (by kernel_rfl) hQS (Below.refl _ _) (by rw [hr7]; rfl)
                refine StepsT.cons (fun (x : Value) (w : World) => z9 = true → ∃ g, x = .slice (some ⟨g, 0, none⟩) 2 2 ∧ Ints w w.heap.size (some ⟨g, 0, none⟩) [(j : Int), r7]) [(101, (fun (x : Value) (_ : World) => x = gv z9 (.bool false))), (106, (fun (x : Value) (_ : World) => x = gv z9 (.int .i64 (j : Int)))), (108, (fun (x : Value) (_ : World) => x = gv z9 (.int .i64 r7)))] rfl rfl (fun oq hop _ wq hQS => ?_) ?_
                · rcases z9 with _ | _
                  · refine StepFrom.more_eq (undef) ?_
                    refine StepFrom.more_eq (undef) ?_
                    refine StepFrom.more_eq (undef) ?_
                    exact StepFrom.off (by kernel_rfl) hQS (Below.refl _ _) (fun h => by cases h)
                  · refine StepFrom.more_eq ((.bool false : Value)) ?_
                    refine StepFrom.more_eq ((.int .i64 (j : Int) : Value)) ?_
                    refine StepFrom.more_eq ((.int .i64 r7 : Value)) ?_
                    exact StepFrom.slice hop (vs := [(0, .int .i64 (j : Int)), (1, .int .i64 r7)]) (by kernel_rfl) (slice_ints _ _) (by kernel_rfl) (hQS.alloc hQS.size _) ((Below.refl _ _).alloc (Nat.le_refl _) _) (fun _ => ⟨_, rfl, ints_two _ _ _ _⟩)
                refine StepsT.cons (fun (x : Value) (_ : World) => x = gv z9 (.int .i64 va)) [(101, (fun (x : Value) (_ : World) => x = gv z9 (.bool false))), (105, (fun (x : Value) (_ : World) => x = gv z9 (.agg #[.slice Aa na ca]))), (109, (fun (x : Value) (w : World) => z9 = true → ∃ g, x = .slice (some ⟨g, 0, none⟩) 2 2 ∧ Ints w w.heap.size (some ⟨g, 0, none⟩) [(j : Int), r7]))] rfl rfl (fun oq hop _ wq hQS => ?_) ?_
                · rcases z9 with _ | _
                  · refine StepFrom.more_eq (undef) ?_
                    refine StepFrom.more_eq (undef) ?_
                    refine StepFrom.more fun x109 h109 => ?_
                    exact StepFrom.off (by kernel_rfl) hQS (Below.refl _ _) rfl
                  · refine StepFrom.more_eq ((.bool false : Value)) ?_
                    refine StepFrom.more_eq ((.agg #[.slice Aa na ca] : Value)) ?_
                    refine StepFrom.more fun x109 h109 => ?_
                    obtain ⟨g109, rfl, hl109⟩ := h109 rfl
                    exact StepFrom.call hop (vs := [(.agg #[.slice Aa na ca] : Value), (.slice (some ⟨g109, 0, none⟩) 2 2 : Value)]) (by kernel_rfl) (fun w => enter_value _ w) (by kernel_rfl) ((C110.out _ _ hl109 hQS).mono fun e w2 h => ⟨_, h.1, h.2.2, h.2.1, rfl⟩)
                refine StepsT.cons (fun (x : Value) (_ : World) => x = gv z9 (.slice (some ⟨g, 0, none⟩) 85 cap)) [(101, (fun (x : Value) (_ : World) => x = gv z9 (.bool false)))] rfl rfl (fun oq hop _ wq hQS => ?_) ?_
                · rcases z9 with _ | _
                  · refine StepFrom.more_eq (undef) ?_
                    exact StepFrom.off (by kernel_rfl) hQS (Below.refl _ _) rfl
                  · refine StepFrom.more_eq ((.bool false : Value)) ?_
                    exact StepFrom.move hop (v := (.slice (some ⟨g, 0, none⟩) 85 cap : Value)) (by kernel_rfl) (by kernel_rfl) hQS (Below.refl _ _) rfl
                refine StepsT.cons (fun (x : Value) (_ : World) => x = gv z9 (.int .i64 (k : Int))) [(101, (fun (x : Value) (_ : World) => x = gv z9 (.bool false)))] rfl rfl (fun oq hop _ wq hQS => ?_) ?_
                · rcases z9 with _ | _
                  · refine StepFrom.more_eq (undef) ?_
                    exact StepFrom.off (by kernel_rfl) hQS (Below.refl _ _) rfl
                  · refine StepFrom.more_eq ((.bool false : Value)) ?_
                    exact StepFrom.move hop (v := (.int .i64 (k : Int) : Value)) (by kernel_rfl) (by kernel_rfl) hQS (Below.refl _ _) rfl
                refine StepsT.cons (fun (x : Value) (_ : World) => x = gv z9 (.pointer (some ⟨g, k, none⟩))) [(101, (fun (x : Value) (_ : World) => x = gv z9 (.bool false))), (111, (fun (x : Value) (_ : World) => x = gv z9 (.slice (some ⟨g, 0, none⟩) 85 cap))), (112, (fun (x : Value) (_ : World) => x = gv z9 (.int .i64 (k : Int))))] rfl rfl (fun oq hop _ wq hQS => ?_) ?_
                · rcases z9 with _ | _
                  · refine StepFrom.more_eq (undef) ?_
                    refine StepFrom.more_eq (undef) ?_
                    refine StepFrom.more_eq (undef) ?_
                    exact StepFrom.off (by kernel_rfl) hQS (Below.refl _ _) rfl
                  · refine StepFrom.more_eq ((.bool false : Value)) ?_
                    refine StepFrom.more_eq ((.slice (some ⟨g, 0, none⟩) 85 cap : Value)) ?_
                    refine StepFrom.more_eq ((.int .i64 (k : Int) : Value)) ?_
                    exact StepFrom.indexAddr hop (p := (.slice (some ⟨g, 0, none⟩) 85 cap : Value)) (q := (.int .i64 (k : Int) : Value)) (by kernel_rfl) (by kernel_rfl) (lev_addr k0 k1) (by kernel_rfl) hQS (Below.refl _ _) rfl
                refine StepsT.cons (fun (x : Value) (_ : World) => x = gv z9 (.agg #[.slice Aa na ca])) [(101, (fun (x : Value) (_ : World) => x = gv z9 (.bool false))), (113, (fun (x : Value) (_ : World) => x = gv z9 (.pointer (some ⟨g, k, none⟩))))] rfl rfl (fun oq hop _ wq hQS => ?_) ?_
                · rcases z9 with _ | _
                  · refine StepFrom.more_eq (undef) ?_
                    refine StepFrom.more_eq (undef) ?_
                    exact StepFrom.off (by kernel_rfl) hQS (Below.refl _ _) rfl
                  · refine StepFrom.more_eq ((.bool false : Value)) ?_
                    refine StepFrom.more_eq ((.pointer (some ⟨g, k, none⟩) : Value)) ?_
                    exact StepFrom.load hop (p := (.pointer (some ⟨g, k, none⟩) : Value)) (by kernel_rfl) (load_lev_at ((hQS.cell (p := ⟨g, k, none⟩) hgr).trans ck)) (by kernel_rfl) hQS (Below.refl _ _) rfl
                refine StepsT.cons (fun (x : Value) (_ : World) => x = gv z9 (.int .i64 (j : Int))) [(101, (fun (x : Value) (_ : World) => x = gv z9 (.bool false)))] rfl rfl (fun oq hop _ wq hQS => ?_) ?_
                · rcases z9 with _ | _
                  · refine StepFrom.more_eq (undef) ?_
                    exact StepFrom.off (by kernel_rfl) hQS (Below.refl _ _) rfl
                  · refine StepFrom.more_eq ((.bool false : Value)) ?_
                    exact StepFrom.move hop (v := (.int .i64 (j : Int) : Value)) (by kernel_rfl) (by kernel_rfl) hQS (Below.refl _ _) rfl
                refine StepsT.cons (fun (x : Value) (_ : World) => x = gv z9 (.int .i64 (k : Int))) [(101, (fun (x : Value) (_ : World) => x = gv z9 (.bool false)))] rfl rfl (fun oq hop _ wq hQS => ?_) ?_
                · rcases z9 with _ | _
                  · refine StepFrom.more_eq (undef) ?_
                    exact StepFrom.off (by kernel_rfl) hQS (Below.refl _ _) rfl
                  · refine StepFrom.more_eq ((.bool false : Value)) ?_
                    exact StepFrom.move hop (v := (.int .i64 (k : Int) : Value)) (by kernel_rfl) (by kernel_rfl) hQS (Below.refl _ _) rfl
                refine StepsT.cons (fun (x : Value) (_ : World) => x = gv z9 (.int .i64 r7)) [(101, (fun (x : Value) (_ : World) => x = gv z9 (.bool false))), (116, (fun (x : Value) (_ : World) => x = gv z9 (.int .i64 (k : Int))))] rfl rfl (fun oq hop _ wq hQS => ?_) ?_
                · rcases z9 with _ | _
                  · refine StepFrom.more_eq (undef) ?_
                    refine StepFrom.more_eq (undef) ?_
                    exact StepFrom.off (by kernel_rfl) hQS (Below.refl _ _) rfl
                  · refine StepFrom.more_eq ((.bool false : Value)) ?_
                    refine StepFrom.more_eq ((.int .i64 (k : Int) : Value)) ?_
                    exact StepFrom.bin hop (vx := (.int .i64 (k : Int) : Value)) (vy := (.int .i64 7 : Value)) (by kernel_rfl) (by kernel_rfl) (rem_int _ 7 (by decide) _ _ _) (by kernel_rfl) hQS (Below.refl _ _) (by rw [hr7]; rfl)
                refine StepsT.cons (fun (x : Value) (w : World) => z9 = true → ∃ g, x = .slice (some ⟨g, 0, none⟩) 2 2 ∧ Ints w w.heap.size (some ⟨g, 0, none⟩) [(j : Int), r7]) [(101, (fun (x : Value) (_ : World) => x = gv z9 (.bool false))), (115, (fun (x : Value) (_ : World) => x = gv z9 (.int .i64 (j : Int)))), (117, (fun (x : Value) (_ : World) => x = gv z9 (.int .i64 r7)))] rfl rfl (fun oq hop _ wq hQS => ?_) ?_
                · rcases z9 with _ | _
                  · refine StepFrom.more_eq (undef) ?_
                    refine StepFrom.more_eq (undef) ?_
                    refine StepFrom.more_eq (undef) ?_
                    exact StepFrom.off (by kernel_rfl) hQS (Below.refl _ _) (fun h => by cases h)
                  · refine StepFrom.more_eq ((.bool false : Value)) ?_
                    refine StepFrom.more_eq ((.int .i64 (j : Int) : Value)) ?_
                    refine StepFrom.more_eq ((.int .i64 r7 : Value)) ?_
                    exact StepFrom.slice hop (vs := [(0, .int .i64 (j : Int)), (1, .int .i64 r7)]) (by kernel_rfl) (slice_ints _ _) (by kernel_rfl) (hQS.alloc hQS.size _) ((Below.refl _ _).alloc (Nat.le_refl _) _) (fun _ => ⟨_, rfl, ints_two _ _ _ _⟩)
                refine StepsT.cons (fun (x : Value) (_ : World) => x = gv z9 (.int .i64 va)) [(101, (fun (x : Value) (_ : World) => x = gv z9 (.bool false))), (114, (fun (x : Value) (_ : World) => x = gv z9 (.agg #[.slice Aa na ca]))), (118, (fun (x : Value) (w : World) => z9 = true → ∃ g, x = .slice (some ⟨g, 0, none⟩) 2 2 ∧ Ints w w.heap.size (some ⟨g, 0, none⟩) [(j : Int), r7]))] rfl rfl (fun oq hop _ wq hQS => ?_) ?_
                · rcases z9 with _ | _
                  · refine StepFrom.more_eq (undef) ?_
                    refine StepFrom.more_eq (undef) ?_
                    refine StepFrom.more fun x118 h118 => ?_
                    exact StepFrom.off (by kernel_rfl) hQS (Below.refl _ _) rfl
                  · refine StepFrom.more_eq ((.bool false : Value)) ?_
                    refine StepFrom.more_eq ((.agg #[.slice Aa na ca] : Value)) ?_
                    refine StepFrom.more fun x118 h118 => ?_
                    obtain ⟨g118, rfl, hl118⟩ := h118 rfl
                    exact StepFrom.call hop (vs := [(.agg #[.slice Aa na ca] : Value), (.slice (some ⟨g118, 0, none⟩) 2 2 : Value)]) (by kernel_rfl) (fun w => enter_rvalue _ w) (by kernel_rfl) ((C119.out _ _ hl118 hQS).mono fun e w2 h => ⟨_, h.1, h.2.2, h.2.1, rfl⟩)
                refine StepsT.cons (fun (x : Value) (_ : World) => x = gv z9 (.bool false)) [(101, (fun (x : Value) (_ : World) => x = gv z9 (.bool false))), (110, (fun (x : Value) (_ : World) => x = gv z9 (.int .i64 va))), (119, (fun (x : Value) (_ : World) => x = gv z9 (.int .i64 va)))] rfl rfl (fun oq hop _ wq hQS => ?_) ?_
                · rcases z9 with _ | _
                  · refine StepFrom.more_eq (undef) ?_
                    refine StepFrom.more_eq (undef) ?_
                    refine StepFrom.more_eq (undef) ?_
                    exact StepFrom.off (by kernel_rfl) hQS (Below.refl _ _) rfl
                  · refine StepFrom.more_eq ((.bool false : Value)) ?_
                    refine StepFrom.more_eq ((.int .i64 va : Value)) ?_
                    refine StepFrom.more_eq ((.int .i64 va : Value)) ?_
                    exact StepFrom.bin hop (vx := (.int .i64 va : Value)) (vy := (.int .i64 va : Value)) (by kernel_rfl) (by kernel_rfl) (neq_int _ _ _ _ _) (by kernel_rfl) hQS (Below.refl _ _) (by simp; rfl)
                refine StepsT.cons (fun (x : Value) (_ : World) => x = gv z9 (.bool false)) [(72, (fun (x : Value) (_ : World) => x = (.bool z9 : Value))), (101, (fun (x : Value) (_ : World) => x = gv z9 (.bool false))), (120, (fun (x : Value) (_ : World) => x = gv z9 (.bool false)))] rfl rfl (fun oq hop _ wq hQS => ?_) ?_
                · rcases z9 with _ | _
                  · refine StepFrom.more_eq ((.bool false : Value)) ?_
                    refine StepFrom.more_eq (undef) ?_
                    refine StepFrom.more_eq (undef) ?_
                    exact StepFrom.off (by kernel_rfl) hQS (Below.refl _ _) rfl
                  · refine StepFrom.more_eq ((.bool true : Value)) ?_
                    refine StepFrom.more_eq ((.bool false : Value)) ?_
                    refine StepFrom.more_eq ((.bool false : Value)) ?_
                    exact StepFrom.pick hop (b := false) (vx := (Value.bool true : Value)) (vy := (.bool false : Value)) (by kernel_rfl) (by kernel_rfl) (by kernel_rfl) (by kernel_rfl) hQS (Below.refl _ _) rfl
                refine StepsT.cons (fun (x : Value) (_ : World) => x = (.bool false : Value)) [(68, (fun (x : Value) (_ : World) => x = (.bool false : Value))), (72, (fun (x : Value) (_ : World) => x = (.bool z9 : Value))), (121, (fun (x : Value) (_ : World) => x = gv z9 (.bool false)))] rfl rfl (fun oq hop _ wq hQS => ?_) ?_
                · refine StepFrom.more_eq ((.bool false : Value)) ?_
                  refine StepFrom.more_eq ((.bool z9 : Value)) ?_
                  refine StepFrom.more_eq (gv z9 (.bool false)) ?_
                  exact StepFrom.pick hop (b := z9) (vx := gv z9 (.bool false)) (vy := (Value.bool false : Value)) (by kernel_rfl) (by kernel_rfl) (by kernel_rfl) (by kernel_rfl) hQS (Below.refl _ _) (by cases z9 <;> rfl)
                refine StepsT.cons (fun (x : Value) (_ : World) => x = (.bool false : Value)) [(68, (fun (x : Value) (_ : World) => x = (.bool false : Value))), (122, (fun (x : Value) (_ : World) => x = (.bool false : Value)))] rfl rfl (fun oq hop _ wq hQS => ?_) ?_
                · refine StepFrom.more_eq ((.bool false : Value)) ?_
                  refine StepFrom.more_eq ((.bool false : Value)) ?_
                  exact StepFrom.pick hop (b := false) (vx := (Value.bool true : Value)) (vy := (.bool false : Value)) (by kernel_rfl) (by kernel_rfl) (by kernel_rfl) (by kernel_rfl) hQS (Below.refl _ _) rfl
                exact StepsT.nil
              case hfin =>
                intro wf hFS
                refine FinalFrom.more fun x54 h54 => ?_
                refine FinalFrom.more fun x55 h55 => ?_
                refine FinalFrom.more fun x56 h56 => ?_
                refine FinalFrom.more fun x57 h57 => ?_
                refine FinalFrom.more fun x58 h58 => ?_
                refine FinalFrom.more fun x59 h59 => ?_
                refine FinalFrom.more fun x60 h60 => ?_
                refine FinalFrom.more fun x61 h61 => ?_
                refine FinalFrom.more fun x62 h62 => ?_
                refine FinalFrom.more fun x63 h63 => ?_
                refine FinalFrom.more fun x64 h64 => ?_
                refine FinalFrom.more fun x65 h65 => ?_
                refine FinalFrom.more fun x66 h66 => ?_
                refine FinalFrom.more fun x67 h67 => ?_
                refine FinalFrom.more fun x68 h68 => ?_
                refine FinalFrom.more fun x69 h69 => ?_
                refine FinalFrom.more fun x70 h70 => ?_
                refine FinalFrom.more fun x71 h71 => ?_
                refine FinalFrom.more fun x72 h72 => ?_
                refine FinalFrom.more fun x73 h73 => ?_
                refine FinalFrom.more fun x74 h74 => ?_
                refine FinalFrom.more fun x75 h75 => ?_
                refine FinalFrom.more fun x76 h76 => ?_
                refine FinalFrom.more fun x77 h77 => ?_
                refine FinalFrom.more fun x78 h78 => ?_
                refine FinalFrom.more fun x79 h79 => ?_
                refine FinalFrom.more fun x80 h80 => ?_
                refine FinalFrom.more fun x81 h81 => ?_
                refine FinalFrom.more fun x82 h82 => ?_
                refine FinalFrom.more fun x83 h83 => ?_
                refine FinalFrom.more fun x84 h84 => ?_
                refine FinalFrom.more fun x85 h85 => ?_
                refine FinalFrom.more fun x86 h86 => ?_
                refine FinalFrom.more fun x87 h87 => ?_
                refine FinalFrom.more fun x88 h88 => ?_
                refine FinalFrom.more fun x89 h89 => ?_
                refine FinalFrom.more fun x90 h90 => ?_
                refine FinalFrom.more fun x91 h91 => ?_
                refine FinalFrom.more fun x92 h92 => ?_
                refine FinalFrom.more fun x93 h93 => ?_
                refine FinalFrom.more fun x94 h94 => ?_
                refine FinalFrom.more fun x95 h95 => ?_
                refine FinalFrom.more fun x96 h96 => ?_
                refine FinalFrom.more fun x97 h97 => ?_
                refine FinalFrom.more fun x98 h98 => ?_
                refine FinalFrom.more fun x99 h99 => ?_
                refine FinalFrom.more fun x100 h100 => ?_
                refine FinalFrom.more fun x101 h101 => ?_
                refine FinalFrom.more fun x102 h102 => ?_
                refine FinalFrom.more fun x103 h103 => ?_
                refine FinalFrom.more fun x104 h104 => ?_
                refine FinalFrom.more fun x105 h105 => ?_
                refine FinalFrom.more fun x106 h106 => ?_
                refine FinalFrom.more fun x107 h107 => ?_
                refine FinalFrom.more fun x108 h108 => ?_
                refine FinalFrom.more fun x109 h109 => ?_
                refine FinalFrom.more fun x110 h110 => ?_
                refine FinalFrom.more fun x111 h111 => ?_
                refine FinalFrom.more fun x112 h112 => ?_
                refine FinalFrom.more fun x113 h113 => ?_
                refine FinalFrom.more fun x114 h114 => ?_
                refine FinalFrom.more fun x115 h115 => ?_
                refine FinalFrom.more fun x116 h116 => ?_
                refine FinalFrom.more fun x117 h117 => ?_
                refine FinalFrom.more fun x118 h118 => ?_
                refine FinalFrom.more fun x119 h119 => ?_
                refine FinalFrom.more fun x120 h120 => ?_
                refine FinalFrom.more fun x121 h121 => ?_
                refine FinalFrom.more fun x122 h122 => ?_
                refine FinalFrom.more fun x123 h123 => ?_
                refine FinalFrom.done ?_
                obtain rfl : x123 = (.bool false : Value) := h123
                simp only [Act.put, List.setIfInBounds_toArray, List.set_cons_zero, List.set_cons_succ]
                have HF : Hid (Below w6.heap.size w6 wf) := HBQ.out.trans (hFS.mono (by omega))
                clear hS C66 C85 C98 C99 C110 C119 hFS
                go_wp2
                go_roundw
                case rel => exact ⟨j + 1, by omega, by go_num, HF.out⟩
                case measure => simp [intOf]; omega
            · obtain rfl : j = 85 := by omega
              have HF := Lib.hid hb
              clear hb
              go_wp2
              go_roundw
              case rel => exact ⟨k + 1, by omega, by go_num, HF.out⟩
              case measure => simp [intOf]; omega
        · have hk85 : 0 ≤ k := Nat.zero_le _
          have HBW : Hid (Below w.heap.size w wr) := HB7.out.trans (hb.mono s7)
          have hbw9 : w.heap.size ≤ wr.heap.size := by omega
          have HC := Lib.hid (lit_cells wr [-9223372036854775808, -1, 0, 1, 999, 1000, 1001, 1048575, 1048576, 1048577, 9223372036854775807] #[.int .i64 (-9223372036854775808), .int .i64 (-1), .int .i64 0, .int .i64 1, .int .i64 999, .int .i64 1000, .int .i64 1001, .int .i64 1048575, .int .i64 1048576, .int .i64 1048577, .int .i64 9223372036854775807] (by rfl) 3)
          have hs7 : wr.heap.size < (wr.alloc (.cells #[.int .i64 (-9223372036854775808), .int .i64 (-1), .int .i64 0, .int .i64 1, .int .i64 999, .int .i64 1000, .int .i64 1001, .int .i64 1048575, .int .i64 1048576, .int .i64 1048577, .int .i64 9223372036854775807] 3)).heap.size := by simp
          have HW7 : Hid (Below w.heap.size w (wr.alloc (.cells #[.int .i64 (-9223372036854775808), .int .i64 (-1), .int .i64 0, .int .i64 1, .int .i64 999, .int .i64 1000, .int .i64 1001, .int .i64 1048575, .int .i64 1048576, .int .i64 1048577, .int .i64 9223372036854775807] 3))) := HBW.out.trans (((Below.refl _ _).alloc (Nat.le_refl _) _ : Below wr.heap.size wr _).mono hbw9)
          clear hb HLV HL9 HB7 HL85 HBW
          go_wp2
          obtain ⟨w7, hw7⟩ : ∃ w7, wr.alloc (.cells #[.int .i64 (-9223372036854775808), .int .i64 (-1), .int .i64 0, .int .i64 1, .int .i64 999, .int .i64 1000, .int .i64 1001, .int .i64 1048575, .int .i64 1048576, .int .i64 1048577, .int .i64 9223372036854775807] 3) = w7 := ⟨_, rfl⟩
          rw [hw7] at HC hs7 HW7 ⊢
          obtain ⟨g5, hg5⟩ : ∃ g5, wr.heap.size = g5 := ⟨_, rfl⟩
          rw [hg5] at HC hs7 hbw9 ⊢
          clear hw7
          go_loopw [6] (fun i wr => ∃ k : Nat, k ≤ 11 ∧ i = .int .i64 (k : Int) ∧ Below w7.heap.size w7 wr) (fun i _ => 11 - (intOf i).toNat)
          case atStart => exact ⟨0, Nat.zero_le _, rfl, Below.refl _ _⟩
          case round =>
            obtain ⟨ia, hia, rfl, hb⟩ := hrel
            have hbz9 := hb.size
            by_cases hlt9 : ia < 11
            · have HBK := Lib.hid hb
              clear hb
              go_wp2
              go_loopw [7] (fun i wq => ∃ j : Nat, j ≤ 11 ∧ i = .int .i64 (j : Int) ∧ Below w7.heap.size w7 wq) (fun i _ => 11 - (intOf i).toNat)
              case atStart => exact ⟨0, Nat.zero_le _, rfl, HBK.out⟩
              case round =>
                obtain ⟨ib, hib, rfl, hb⟩ := hrel
                have hbz := hb.size
                by_cases hlt8 : ib < 11
                · have ha7 := (hb.cell (p := ⟨g5, ia, none⟩) (by show g5 < w7.heap.size; exact hs7)).trans (HC.out ia (by simpa using hlt9))
                  have hb7 := (hb.cell (p := ⟨g5, ib, none⟩) (by show g5 < w7.heap.size; exact hs7)).trans (HC.out ib (by simpa using hlt8))
                  obtain ⟨np, hnp⟩ : ∃ p, ([-9223372036854775808, -1, 0, 1, 999, 1000, 1001, 1048575, 1048576, 1048577, 9223372036854775807] : List Int).getD ia 0 = p := ⟨_, rfl⟩
                  obtain ⟨nq, hnq⟩ : ∃ p, ([-9223372036854775808, -1, 0, 1, 999, 1000, 1001, 1048575, 1048576, 1048577, 9223372036854775807] : List Int).getD ib 0 = p := ⟨_, rfl⟩
                  rw [hnp] at ha7
                  rw [hnq] at hb7
                  have HBQ := Lib.hid hb
                  have hg5r : g5 < wr.heap.size := by omega
                  have a0 : (0 : Int) ≤ (ia : Int) := by omega
                  have a1 : (ia : Int) < ((11 : Nat) : Int) := by omega
                  have b0 : (0 : Int) ≤ (ib : Int) := by omega
                  have b1 : (ib : Int) < ((11 : Nat) : Int) := by omega
                  clear hb hnp hnq
                  have COF : Hid (∀ gi n1 n2 n3 n4 w', Ints w' w'.heap.size (some ⟨gi, 0, none⟩) [n1, n2, n3, n4] → Below wr.heap.size wr w' → Calls Try.prog 6 #[.slice (some ⟨gi, 0, none⟩) 4 4] w' fun e w'' => ∃ v, e = .returned v ∧ NewLev wr.heap.size 2 [(n1, n2), (n3, n4)] v w'' ∧ Below w'.heap.size w' w'' ∧ Below wr.heap.size wr w'') := fun gi n1 n2 n3 n4 w' hi hx => by
                    refine (of_any (some ⟨gi, 0, none⟩) [n1, n2, n3, n4] 4 w' (by unfold Few; simp) hi).mono fun _ _ h => ?_
                    obtain ⟨v, rfl, hrow, hb1⟩ := h
                    obtain ⟨A, n, c, rfl⟩ := own_slice hrow
                    obtain ⟨rfl, _, _⟩ := own_lev hrow
                    exact ⟨_, rfl, ⟨A, c, rfl, rfl, own_base hrow hx.size⟩, hb1, hx.trans (hb1.mono hx.size)⟩
                  have hS : Below wr.heap.size wr wr.drew := (Below.refl _ _).drew
                  go_upto_region 22 with (fail)
                  go_cut [8, 9] from 137 to 156 (fun s t wy => ∃ gx gy Ax cx Bx dx, s = .pointer (some ⟨gx, 0, none⟩) ∧ t = .pointer (some ⟨gy, 0, none⟩) ∧ wy.cell? ⟨gx, 0, none⟩ = some (.slice Ax 2 cx) ∧ wy.cell? ⟨gy, 0, none⟩ = some (.slice Bx 2 dx) ∧ LAt wy Ax 2 cx [(1, np), (2, nq)] ∧ LAt wy Bx 2 dx [(np, 1), (nq, 2)] ∧ Below wr.heap.size wr wy)
                  case first =>
                    refine wp_region_tail 22 (fun w' => Below wr.heap.size wr w') (fun w1 w2 : World => Below w1.heap.size w1 w2) [(fun (x : Value) (_ : World) => x = (.slice (some ⟨g5, 0, none⟩) 11 11 : Value)), (fun (x : Value) (_ : World) => x = (.int .i64 (ia : Int) : Value)), (fun (x : Value) (_ : World) => x = (.pointer (some ⟨g5, ia, none⟩) : Value)), (fun (x : Value) (_ : World) => x = (.int .i64 np : Value)), (fun (x : Value) (_ : World) => x = (.slice (some ⟨g5, 0, none⟩) 11 11 : Value)), (fun (x : Value) (_ : World) => x = (.int .i64 (ib : Int) : Value)), (fun (x : Value) (_ : World) => x = (.pointer (some ⟨g5, ib, none⟩) : Value)), (fun (x : Value) (_ : World) => x = (.int .i64 nq : Value)), (fun (x : Value) (w : World) => ∃ g, x = .slice (some ⟨g, 0, none⟩) 4 4 ∧ Ints w w.heap.size (some ⟨g, 0, none⟩) [1, np, 2, nq]), (fun (x : Value) (w : World) => NewLev wr.heap.size 2 [(1, np), (2, nq)] x w), (fun (x : Value) (_ : World) => x = (.slice (some ⟨g5, 0, none⟩) 11 11 : Value)), (fun (x : Value) (_ : World) => x = (.int .i64 (ia : Int) : Value)), (fun (x : Value) (_ : World) => x = (.pointer (some ⟨g5, ia, none⟩) : Value)), (fun (x : Value) (_ : World) => x = (.int .i64 np : Value)), (fun (x : Value) (_ : World) => x = (.slice (some ⟨g5, 0, none⟩) 11 11 : Value)), (fun (x : Value) (_ : World) => x = (.int .i64 (ib : Int) : Value)), (fun (x : Value) (_ : World) => x = (.pointer (some ⟨g5, ib, none⟩) : Value)), (fun (x : Value) (_ : World) => x = (.int .i64 nq : Value)), (fun (x : Value) (w : World) => ∃ g, x = .slice (some ⟨g, 0, none⟩) 4 4 ∧ Ints w w.heap.size (some ⟨g, 0, none⟩) [np, 1, nq, 2]), (fun (x : Value) (w : World) => NewLev wr.heap.size 2 [(np, 1), (nq, 2)] x w), (fun (x : Value) (w : World) => NewBox wr.heap.size (.slice none 0 0) 25 x w), (fun (x : Value) (w : World) => NewBox wr.heap.size (.slice none 0 0) 25 x w)] [⟨some 137, .move (.tmp 5), none, []⟩, ⟨some 138, .move (.tmp 6), none, []⟩, ⟨some 139, .indexAddr 31 (.tmp 137) (.tmp 138), none, [(137, 0), (138, 1)]⟩, ⟨some 140, .load 3 (.tmp 139), none, [(139, 2)]⟩, ⟨some 141, .move (.tmp 5), none, []⟩, ⟨some 142, .move (.tmp 7), none, []⟩, ⟨some 143, .indexAddr 31 (.tmp 141) (.tmp 142), none, [(141, 4), (142, 5)]⟩, ⟨some 144, .load 3 (.tmp 143), none, [(143, 6)]⟩, ⟨some 145, .buildSlice 31 4 #[(0, .const (.int .i64 1)), (1, .tmp 140), (2, .const (.int .i64 2)), (3, .tmp 144)], none, [(140, 3), (144, 7)]⟩, ⟨some 146, .call { callee := .value (.func 6), args := #[.tmp 145], argTypes := #[31] }, none, [(145, 8)]⟩, ⟨some 147, .move (.tmp 5), none, []⟩, ⟨some 148, .move (.tmp 6), none, []⟩, ⟨some 149, .indexAddr 31 (.tmp 147) (.tmp 148), none, [(147, 10), (148, 11)]⟩, ⟨some 150, .load 3 (.tmp 149), none, [(149, 12)]⟩, ⟨some 151, .move (.tmp 5), none, []⟩, ⟨some 152, .move (.tmp 7), none, []⟩, ⟨some 153, .indexAddr 31 (.tmp 151) (.tmp 152), none, [(151, 14), (152, 15)]⟩, ⟨some 154, .load 3 (.tmp 153), none, [(153, 16)]⟩, ⟨some 155, .buildSlice 31 4 #[(0, .tmp 150), (1, .const (.int .i64 1)), (2, .tmp 154), (3, .const (.int .i64 2))], none, [(150, 13), (154, 17)]⟩, ⟨some 156, .call { callee := .value (.func 6), args := #[.tmp 155], argTypes := #[31] }, none, [(155, 18)]⟩, ⟨some 8, .alloc 25, none, []⟩, ⟨some 9, .alloc 25, none, []⟩] [some 137, some 138, some 139, some 140, some 141, some 142, some 143, some 144, some 145, some 146, some 147, some 148, some 149, some 150, some 151, some 152, some 153, some 154, some 155, some 156, some 8, some 9] [(20, 25, .cells #[.slice none 0 0] 25), (21, 25, .cells #[.slice none 0 0] 25)] [(8, 9)] (by kernel_rfl) (by kernel_rfl) (by kernel_rfl) (by kernel_rfl) (by kernel_rfl) (by kernel_rfl) (by kernel_rfl) (by kernel_rfl) ?hrun ?hold ?hS ?hmono ?hsteps ?hfin
                    case hrun => exact fun p hp w => by simp only [List.mem_cons, List.not_mem_nil, or_false] at hp; rcases hp with rfl | rfl <;> exact alloc_level w
                    case hold => exact fun p hp x w h => by simp only [List.mem_cons, List.not_mem_nil, or_false] at hp; rcases hp with rfl | rfl <;> exact NewBox.lt h
                    case hS => exact hS
                    case hmono =>
                      refine MonoL.cons (fun x w1 w2 _ _ _ hx => hx) ?_
                      refine MonoL.cons (fun x w1 w2 _ _ _ hx => hx) ?_
                      refine MonoL.cons (fun x w1 w2 _ _ _ hx => hx) ?_
                      refine MonoL.cons (fun x w1 w2 _ _ _ hx => hx) ?_
                      refine MonoL.cons (fun x w1 w2 _ _ _ hx => hx) ?_
                      refine MonoL.cons (fun x w1 w2 _ _ _ hx => hx) ?_
                      refine MonoL.cons (fun x w1 w2 _ _ _ hx => hx) ?_
                      refine MonoL.cons (fun x w1 w2 _ _ _ hx => hx) ?_
                      refine MonoL.cons (fun x w1 w2 _ _ hR hx => ?_) ?_
                      · obtain ⟨g, h1, h2⟩ := hx; exact ⟨g, h1, (h2.below hR).more hR.size⟩
                      refine MonoL.cons (fun x w1 w2 _ _ hR hx => ?_) ?_
                      · exact hx.mono hR
                      refine MonoL.cons (fun x w1 w2 _ _ _ hx => hx) ?_
                      refine MonoL.cons (fun x w1 w2 _ _ _ hx => hx) ?_
                      refine MonoL.cons (fun x w1 w2 _ _ _ hx => hx) ?_
                      refine MonoL.cons (fun x w1 w2 _ _ _ hx => hx) ?_
                      refine MonoL.cons (fun x w1 w2 _ _ _ hx => hx) ?_
                      refine MonoL.cons (fun x w1 w2 _ _ _ hx => hx) ?_
                      refine MonoL.cons (fun x w1 w2 _ _ _ hx => hx) ?_
                      refine MonoL.cons (fun x w1 w2 _ _ _ hx => hx) ?_
                      refine MonoL.cons (fun x w1 w2 _ _ hR hx => ?_) ?_
                      · obtain ⟨g, h1, h2⟩ := hx; exact ⟨g, h1, (h2.below hR).more hR.size⟩
                      refine MonoL.cons (fun x w1 w2 _ _ hR hx => ?_) ?_
                      · exact hx.mono hR
                      refine MonoL.cons (fun x w1 w2 _ _ hR hx => ?_) ?_
                      · exact hx.mono hR
                      refine MonoL.cons (fun x w1 w2 _ _ hR hx => ?_) ?_
                      · exact hx.mono hR
                      exact MonoL.nil
                    case hsteps =>
                      refine StepsT.cons (fun (x : Value) (_ : World) => x = (.slice (some ⟨g5, 0, none⟩) 11 11 : Value)) [] rfl rfl (fun oq hop _ wq hQS => ?_) ?_
                      · exact StepFrom.move hop (v := (.slice (some ⟨g5, 0, none⟩) 11 11 : Value)) (by kernel_rfl) (by kernel_rfl) hQS (Below.refl _ _) rfl
                      refine StepsT.cons (fun (x : Value) (_ : World) => x = (.int .i64 (ia : Int) : Value)) [] rfl rfl (fun oq hop _ wq hQS => ?_) ?_
                      · exact StepFrom.move hop (v := (.int .i64 (ia : Int) : Value)) (by kernel_rfl) (by kernel_rfl) hQS (Below.refl _ _) rfl
                      refine StepsT.cons (fun (x : Value) (_ : World) => x = (.pointer (some ⟨g5, ia, none⟩) : Value)) [(137, (fun (x : Value) (_ : World) => x = (.slice (some ⟨g5, 0, none⟩) 11 11 : Value))), (138, (fun (x : Value) (_ : World) => x = (.int .i64 (ia : Int) : Value)))] rfl rfl (fun oq hop _ wq hQS => ?_) ?_
                      · refine StepFrom.more_eq ((.slice (some ⟨g5, 0, none⟩) 11 11 : Value)) ?_
                        refine StepFrom.more_eq ((.int .i64 (ia : Int) : Value)) ?_
                        exact StepFrom.indexAddr hop (p := (.slice (some ⟨g5, 0, none⟩) 11 11 : Value)) (q := (.int .i64 (ia : Int) : Value)) (by kernel_rfl) (by kernel_rfl) (int_addr a0 a1) (by kernel_rfl) hQS (Below.refl _ _) rfl
                      refine StepsT.cons (fun (x : Value) (_ : World) => x = (.int .i64 np : Value)) [(139, (fun (x : Value) (_ : World) => x = (.pointer (some ⟨g5, ia, none⟩) : Value)))] rfl rfl (fun oq hop _ wq hQS => ?_) ?_
                      · refine StepFrom.more_eq ((.pointer (some ⟨g5, ia, none⟩) : Value)) ?_
                        exact StepFrom.load hop (p := (.pointer (some ⟨g5, ia, none⟩) : Value)) (by kernel_rfl) (load_int ((hQS.cell (p := ⟨g5, ia, none⟩) hg5r).trans ha7)) (by kernel_rfl) hQS (Below.refl _ _) rfl
                      refine StepsT.cons (fun (x : Value) (_ : World) => x = (.slice (some ⟨g5, 0, none⟩) 11 11 : Value)) [] rfl rfl (fun oq hop _ wq hQS => ?_) ?_
                      · exact StepFrom.move hop (v := (.slice (some ⟨g5, 0, none⟩) 11 11 : Value)) (by kernel_rfl) (by kernel_rfl) hQS (Below.refl _ _) rfl
                      refine StepsT.cons (fun (x : Value) (_ : World) => x = (.int .i64 (ib : Int) : Value)) [] rfl rfl (fun oq hop _ wq hQS => ?_) ?_
                      · exact StepFrom.move hop (v := (.int .i64 (ib : Int) : Value)) (by kernel_rfl) (by kernel_rfl) hQS (Below.refl _ _) rfl
                      refine StepsT.cons (fun (x : Value) (_ : World) => x = (.pointer (some ⟨g5, ib, none⟩) : Value)) [(141, (fun (x : Value) (_ : World) => x = (.slice (some ⟨g5, 0, none⟩) 11 11 : Value))), (142, (fun (x : Value) (_ : World) => x = (.int .i64 (ib : Int) : Value)))] rfl rfl (fun oq hop _ wq hQS => ?_) ?_
                      · refine StepFrom.more_eq ((.slice (some ⟨g5, 0, none⟩) 11 11 : Value)) ?_
                        refine StepFrom.more_eq ((.int .i64 (ib : Int) : Value)) ?_
                        exact StepFrom.indexAddr hop (p := (.slice (some ⟨g5, 0, none⟩) 11 11 : Value)) (q := (.int .i64 (ib : Int) : Value)) (by kernel_rfl) (by kernel_rfl) (int_addr b0 b1) (by kernel_rfl) hQS (Below.refl _ _) rfl
                      refine StepsT.cons (fun (x : Value) (_ : World) => x = (.int .i64 nq : Value)) [(143, (fun (x : Value) (_ : World) => x = (.pointer (some ⟨g5, ib, none⟩) : Value)))] rfl rfl (fun oq hop _ wq hQS => ?_) ?_
                      · refine StepFrom.more_eq ((.pointer (some ⟨g5, ib, none⟩) : Value)) ?_
                        exact StepFrom.load hop (p := (.pointer (some ⟨g5, ib, none⟩) : Value)) (by kernel_rfl) (load_int ((hQS.cell (p := ⟨g5, ib, none⟩) hg5r).trans hb7)) (by kernel_rfl) hQS (Below.refl _ _) rfl
                      refine StepsT.cons (fun (x : Value) (w : World) => ∃ g, x = .slice (some ⟨g, 0, none⟩) 4 4 ∧ Ints w w.heap.size (some ⟨g, 0, none⟩) [1, np, 2, nq]) [(140, (fun (x : Value) (_ : World) => x = (.int .i64 np : Value))), (144, (fun (x : Value) (_ : World) => x = (.int .i64 nq : Value)))] rfl rfl (fun oq hop _ wq hQS => ?_) ?_
                      · refine StepFrom.more_eq ((.int .i64 np : Value)) ?_
                        refine StepFrom.more_eq ((.int .i64 nq : Value)) ?_
                        exact StepFrom.slice hop (vs := [(0, .int .i64 1), (1, .int .i64 np), (2, .int .i64 2), (3, .int .i64 nq)]) (by kernel_rfl) (slice_ints4 _ _ _ _) (by kernel_rfl) (hQS.alloc hQS.size _) ((Below.refl _ _).alloc (Nat.le_refl _) _) ⟨_, rfl, ints_four _ _ _ _ _ _⟩
                      refine StepsT.cons (fun (x : Value) (w : World) => NewLev wr.heap.size 2 [(1, np), (2, nq)] x w) [(145, (fun (x : Value) (w : World) => ∃ g, x = .slice (some ⟨g, 0, none⟩) 4 4 ∧ Ints w w.heap.size (some ⟨g, 0, none⟩) [1, np, 2, nq]))] rfl rfl (fun oq hop _ wq hQS => ?_) ?_
                      · refine StepFrom.more fun x145 h145 => ?_
                        obtain ⟨g145, rfl, hl145⟩ := h145
                        exact StepFrom.call hop (vs := [(.slice (some ⟨g145, 0, none⟩) 4 4 : Value)]) (by kernel_rfl) (fun w => enter_of _ w) (by kernel_rfl) ((COF.out _ _ _ _ _ _ hl145 hQS).mono fun e w2 ⟨v, h1, h2, h3, h4⟩ => ⟨v, h1, h4, h3, h2⟩)
                      refine StepsT.cons (fun (x : Value) (_ : World) => x = (.slice (some ⟨g5, 0, none⟩) 11 11 : Value)) [] rfl rfl (fun oq hop _ wq hQS => ?_) ?_
                      · exact StepFrom.move hop (v := (.slice (some ⟨g5, 0, none⟩) 11 11 : Value)) (by kernel_rfl) (by kernel_rfl) hQS (Below.refl _ _) rfl
                      refine StepsT.cons (fun (x : Value) (_ : World) => x = (.int .i64 (ia : Int) : Value)) [] rfl rfl (fun oq hop _ wq hQS => ?_) ?_
                      · exact StepFrom.move hop (v := (.int .i64 (ia : Int) : Value)) (by kernel_rfl) (by kernel_rfl) hQS (Below.refl _ _) rfl
                      refine StepsT.cons (fun (x : Value) (_ : World) => x = (.pointer (some ⟨g5, ia, none⟩) : Value)) [(147, (fun (x : Value) (_ : World) => x = (.slice (some ⟨g5, 0, none⟩) 11 11 : Value))), (148, (fun (x : Value) (_ : World) => x = (.int .i64 (ia : Int) : Value)))] rfl rfl (fun oq hop _ wq hQS => ?_) ?_
                      · refine StepFrom.more_eq ((.slice (some ⟨g5, 0, none⟩) 11 11 : Value)) ?_
                        refine StepFrom.more_eq ((.int .i64 (ia : Int) : Value)) ?_
                        exact StepFrom.indexAddr hop (p := (.slice (some ⟨g5, 0, none⟩) 11 11 : Value)) (q := (.int .i64 (ia : Int) : Value)) (by kernel_rfl) (by kernel_rfl) (int_addr a0 a1) (by kernel_rfl) hQS (Below.refl _ _) rfl
                      refine StepsT.cons (fun (x : Value) (_ : World) => x = (.int .i64 np : Value)) [(149, (fun (x : Value) (_ : World) => x = (.pointer (some ⟨g5, ia, none⟩) : Value)))] rfl rfl (fun oq hop _ wq hQS => ?_) ?_
                      · refine StepFrom.more_eq ((.pointer (some ⟨g5, ia, none⟩) : Value)) ?_
                        exact StepFrom.load hop (p := (.pointer (some ⟨g5, ia, none⟩) : Value)) (by kernel_rfl) (load_int ((hQS.cell (p := ⟨g5, ia, none⟩) hg5r).trans ha7)) (by kernel_rfl) hQS (Below.refl _ _) rfl
                      refine StepsT.cons (fun (x : Value) (_ : World) => x = (.slice (some ⟨g5, 0, none⟩) 11 11 : Value)) [] rfl rfl (fun oq hop _ wq hQS => ?_) ?_
                      · exact StepFrom.move hop (v := (.slice (some ⟨g5, 0, none⟩) 11 11 : Value)) (by kernel_rfl) (by kernel_rfl) hQS (Below.refl _ _) rfl
                      refine StepsT.cons (fun (x : Value) (_ : World) => x = (.int .i64 (ib : Int) : Value)) [] rfl rfl (fun oq hop _ wq hQS => ?_) ?_
                      · exact StepFrom.move hop (v := (.int .i64 (ib : Int) : Value)) (by kernel_rfl) (by kernel_rfl) hQS (Below.refl _ _) rfl
                      refine StepsT.cons (fun (x : Value) (_ : World) => x = (.pointer (some ⟨g5, ib, none⟩) : Value)) [(151, (fun (x : Value) (_ : World) => x = (.slice (some ⟨g5, 0, none⟩) 11 11 : Value))), (152, (fun (x : Value) (_ : World) => x = (.int .i64 (ib : Int) : Value)))] rfl rfl (fun oq hop _ wq hQS => ?_) ?_
                      · refine StepFrom.more_eq ((.slice (some ⟨g5, 0, none⟩) 11 11 : Value)) ?_
                        refine StepFrom.more_eq ((.int .i64 (ib : Int) : Value)) ?_
                        exact StepFrom.indexAddr hop (p := (.slice (some ⟨g5, 0, none⟩) 11 11 : Value)) (q := (.int .i64 (ib : Int) : Value)) (by kernel_rfl) (by kernel_rfl) (int_addr b0 b1) (by kernel_rfl) hQS (Below.refl _ _) rfl
                      refine StepsT.cons (fun (x : Value) (_ : World) => x = (.int .i64 nq : Value)) [(153, (fun (x : Value) (_ : World) => x = (.pointer (some ⟨g5, ib, none⟩) : Value)))] rfl rfl (fun oq hop _ wq hQS => ?_) ?_
                      · refine StepFrom.more_eq ((.pointer (some ⟨g5, ib, none⟩) : Value)) ?_
                        exact StepFrom.load hop (p := (.pointer (some ⟨g5, ib, none⟩) : Value)) (by kernel_rfl) (load_int ((hQS.cell (p := ⟨g5, ib, none⟩) hg5r).trans hb7)) (by kernel_rfl) hQS (Below.refl _ _) rfl
                      refine StepsT.cons (fun (x : Value) (w : World) => ∃ g, x = .slice (some ⟨g, 0, none⟩) 4 4 ∧ Ints w w.heap.size (some ⟨g, 0, none⟩) [np, 1, nq, 2]) [(150, (fun (x : Value) (_ : World) => x = (.int .i64 np : Value))), (154, (fun (x : Value) (_ : World) => x = (.int .i64 nq : Value)))] rfl rfl (fun oq hop _ wq hQS => ?_) ?_
                      · refine StepFrom.more_eq ((.int .i64 np : Value)) ?_
                        refine StepFrom.more_eq ((.int .i64 nq : Value)) ?_
                        exact StepFrom.slice hop (vs := [(0, .int .i64 np), (1, .int .i64 1), (2, .int .i64 nq), (3, .int .i64 2)]) (by kernel_rfl) (slice_ints4 _ _ _ _) (by kernel_rfl) (hQS.alloc hQS.size _) ((Below.refl _ _).alloc (Nat.le_refl _) _) ⟨_, rfl, ints_four _ _ _ _ _ _⟩
                      refine StepsT.cons (fun (x : Value) (w : World) => NewLev wr.heap.size 2 [(np, 1), (nq, 2)] x w) [(155, (fun (x : Value) (w : World) => ∃ g, x = .slice (some ⟨g, 0, none⟩) 4 4 ∧ Ints w w.heap.size (some ⟨g, 0, none⟩) [np, 1, nq, 2]))] rfl rfl (fun oq hop _ wq hQS => ?_) ?_
                      · refine StepFrom.more fun x155 h155 => ?_
                        obtain ⟨g155, rfl, hl155⟩ := h155
                        exact StepFrom.call hop (vs := [(.slice (some ⟨g155, 0, none⟩) 4 4 : Value)]) (by kernel_rfl) (fun w => enter_of _ w) (by kernel_rfl) ((COF.out _ _ _ _ _ _ hl155 hQS).mono fun e w2 ⟨v, h1, h2, h3, h4⟩ => ⟨v, h1, h4, h3, h2⟩)
                      refine StepsT.cons (fun (x : Value) (w : World) => NewBox wr.heap.size (.slice none 0 0) 25 x w) [] rfl rfl (fun oq hop _ wq hQS => ?_) ?_
                      · exact StepFrom.alloc hop alloc_level (by kernel_rfl) (hQS.alloc hQS.size _) ((Below.refl _ _).alloc (Nat.le_refl _) _) (NewBox.made hQS.size)
                      refine StepsT.cons (fun (x : Value) (w : World) => NewBox wr.heap.size (.slice none 0 0) 25 x w) [] rfl rfl (fun oq hop _ wq hQS => ?_) ?_
                      · exact StepFrom.alloc hop alloc_level (by kernel_rfl) (hQS.alloc hQS.size _) ((Below.refl _ _).alloc (Nat.le_refl _) _) (NewBox.made hQS.size)
                      exact StepsT.nil
                    case hfin =>
                      intro wf hFS
                      refine FinalFrom.more fun x137 h137 => ?_
                      refine FinalFrom.more fun x138 h138 => ?_
                      refine FinalFrom.more fun x139 h139 => ?_
                      refine FinalFrom.more fun x140 h140 => ?_
                      refine FinalFrom.more fun x141 h141 => ?_
                      refine FinalFrom.more fun x142 h142 => ?_
                      refine FinalFrom.more fun x143 h143 => ?_
                      refine FinalFrom.more fun x144 h144 => ?_
                      refine FinalFrom.more fun x145 h145 => ?_
                      refine FinalFrom.more fun x146 h146 => ?_
                      refine FinalFrom.more fun x147 h147 => ?_
                      refine FinalFrom.more fun x148 h148 => ?_
                      refine FinalFrom.more fun x149 h149 => ?_
                      refine FinalFrom.more fun x150 h150 => ?_
                      refine FinalFrom.more fun x151 h151 => ?_
                      refine FinalFrom.more fun x152 h152 => ?_
                      refine FinalFrom.more fun x153 h153 => ?_
                      refine FinalFrom.more fun x154 h154 => ?_
                      refine FinalFrom.more fun x155 h155 => ?_
                      refine FinalFrom.more fun x156 h156 => ?_
                      refine FinalFrom.more fun x8 h8 => ?_
                      refine FinalFrom.more fun x9 h9 => ?_
                      refine FinalFrom.done ?_
                      obtain ⟨gx, rfl, hgx0, hgx⟩ := h8
                      obtain ⟨gy, rfl, hgy0, hgy⟩ := h9
                      obtain ⟨Ax, cx, rfl, hnx2, hrx⟩ := h146
                      obtain ⟨Bx, dx, rfl, hny2, hry⟩ := h156
                      intro hap
                      have hne : gx ≠ gy := fun e => by subst e; exact hap (8, 9) (by simp) (by kernel_rfl)
                      simp only [Act.put, List.setIfInBounds_toArray, List.set_cons_zero, List.set_cons_succ, List.drop_succ_cons, List.drop_zero]
                      clear hap hS COF h137 h138 h139 h140 h141 h142 h143 h144 h145 h147 h148 h149 h150 h151 h152 h153 h154 h155
                      have c13 := cell_of_one hgx
                      have z13 := free_of_one hgx
                      have c14 := cell_of_one hgy
                      have z14 := free_of_one hgy
                      have hgy2 : (wf.setCell ⟨gx, 0, none⟩ (.slice Ax 2 cx)).heap[gy]? = some (.cells #[.slice none 0 0] 25 (0, 0)) := (Below.heap_setCell wf _ _ gy (by show gy ≠ gx; exact Ne.symm hne)).trans hgy
                      have r1 := lvAt_row hnx2 (row_set (u := .slice Bx 2 dx) (row_set (u := .slice Ax 2 cx) hrx hgx (by decide)) hgy2 (by decide))
                      have r2 := lvAt_row hny2 (row_set (u := .slice Bx 2 dx) (row_set (u := .slice Ax 2 cx) hry hgx (by decide)) hgy2 (by decide))
                      have hf1 : ((wf.setCell ⟨gx, 0, none⟩ (.slice Ax 2 cx)).setCell ⟨gy, 0, none⟩ (.slice Bx 2 dx)).cell? ⟨gx, 0, none⟩ = some (.slice Ax 2 cx) := (World.cell?_setCell_other _ _ _ _ (fun e => hne (by injection e with e; exact e.symm))).trans (World.cell?_setCell_same _ _ _ c13)
                      have hf2 : ((wf.setCell ⟨gx, 0, none⟩ (.slice Ax 2 cx)).setCell ⟨gy, 0, none⟩ (.slice Bx 2 dx)).cell? ⟨gy, 0, none⟩ = some (.slice Bx 2 dx) := World.cell?_setCell_same _ _ _ (cell_of_one hgy2)
                      have hf3 : Below wr.heap.size wr ((wf.setCell ⟨gx, 0, none⟩ (.slice Ax 2 cx)).setCell ⟨gy, 0, none⟩ (.slice Bx 2 dx)) := (hFS.setCell hgx0 _).setCell hgy0 _
                      have HF := Lib.hid (And.intro hf1 (And.intro hf2 (And.intro (And.intro hnx2 r1) (And.intro (And.intro hny2 r2) hf3))))
                      clear hf1 hf2 hf3 r1 r2 hgy2 hrx hry hgx hgy hFS hnx2 hny2 hgx0 hgy0
                      go_wp2
                      go_meet
                      exact ⟨gx, gy, Ax, cx, Bx, dx, rfl, rfl, HF.out⟩
                  case rest =>
                    obtain ⟨gx, gy, Ax, cx, Bx, dx, rfl, rfl, hcx, hcy, hlx, hly, hbo⟩ := hcut
                    obtain ⟨wz, hwz⟩ : ∃ wz, wz = wc := ⟨_, rfl⟩
                    rw [← hwz] at hcx hcy hlx hly hbo ⊢
                    clear hwz
                    have sz := hbo.size
                    have HBZ : Hid (Below w7.heap.size w7 wz) := HBQ.out.trans (hbo.mono hbz)
                    have hg5z : g5 < wz.heap.size := by omega
                    have pa7 := (hbo.cell (p := ⟨g5, ia, none⟩) hg5r).trans ha7
                    have pb7 := (hbo.cell (p := ⟨g5, ib, none⟩) hg5r).trans hb7
                    have LX := Lib.hid hlx
                    have LY := Lib.hid hly
                    obtain ⟨la, hla⟩ : ∃ l : List (Int × Int), [(1, np), (2, nq)] = l := ⟨_, rfl⟩
                    obtain ⟨lb, hlb⟩ : ∃ l : List (Int × Int), [(np, 1), (nq, 2)] = l := ⟨_, rfl⟩
                    rw [hla] at LX
                    rw [hlb] at LY
                    have hna : la.length = 2 := by rw [← hla]; rfl
                    have hnb : lb.length = 2 := by rw [← hlb]; rfl
                    obtain ⟨va, hva⟩ : ∃ v, valF (nfA lb) (numS [np, nq]) = v := ⟨_, rfl⟩
                    have C163 : Hid (∀ n w', BoxL wz [(gx, .slice Ax 2 cx), (gy, .slice Bx 2 dx)] w' → Calls Try.prog 7 #[.agg #[.slice Ax 2 cx], .agg #[.slice Bx 2 dx], .int .i64 n] w' fun e w'' => e = .returned (.bool true) ∧ Below w'.heap.size w' w'' ∧ BoxL wz [(gx, .slice Ax 2 cx), (gy, .slice Bx 2 dx)] w'') := fun n w' hx => by
                      obtain ⟨_, a1, a2⟩ := LX.out.step hx.1
                      obtain ⟨_, b1, b2⟩ := LY.out.step hx.1
                      have h := one_any Ax Bx la lb cx dx n w' (by omega) (by omega) a1 a2 b1 b2
                      rw [hna, hnb] at h
                      exact h.mono fun _ _ h => ⟨h.1, h.2, hx.step h.2⟩
                    have C172 : Hid (∀ n w', BoxL wz [(gx, .slice Ax 2 cx), (gy, .slice Bx 2 dx)] w' → Calls Try.prog 7 #[.agg #[.slice Bx 2 dx], .agg #[.slice Ax 2 cx], .int .i64 n] w' fun e w'' => e = .returned (.bool true) ∧ Below w'.heap.size w' w'' ∧ BoxL wz [(gx, .slice Ax 2 cx), (gy, .slice Bx 2 dx)] w'') := fun n w' hx => by
                      obtain ⟨_, a1, a2⟩ := LX.out.step hx.1
                      obtain ⟨_, b1, b2⟩ := LY.out.step hx.1
                      have h := one_any Bx Ax lb la dx cx n w' (by omega) (by omega) b1 b2 a1 a2
                      rw [hna, hnb] at h
                      exact h.mono fun _ _ h => ⟨h.1, h.2, hx.step h.2⟩
                    have C186 : Hid (∀ gi w', Ints w' w'.heap.size (some ⟨gi, 0, none⟩) [np, nq] → BoxL wz [(gx, .slice Ax 2 cx), (gy, .slice Bx 2 dx)] w' → Calls Try.prog 11 #[.agg #[.slice Bx 2 dx], .slice (some ⟨gi, 0, none⟩) 2 2] w' fun e w'' => e = .returned (.int .i64 va) ∧ Below w'.heap.size w' w'' ∧ BoxL wz [(gx, .slice Ax 2 cx), (gy, .slice Bx 2 dx)] w'') := fun gi w' hi hx => by
                      obtain ⟨_, b1, b2⟩ := LY.out.step hx.1
                      have h := value_all Bx (some ⟨gi, 0, none⟩) lb [np, nq] dx 2 w' (by unfold Few; omega) (by unfold maxLen; simp) b1 hi b2
                      rw [hnb, hva] at h
                      exact h.mono fun _ _ h => ⟨h.1, h.2, hx.step h.2⟩
                    have C197 : Hid (∀ gi w', Ints w' w'.heap.size (some ⟨gi, 0, none⟩) [np, nq] → BoxL wz [(gx, .slice Ax 2 cx), (gy, .slice Bx 2 dx)] w' → Calls Try.prog 12 #[.agg #[.slice Bx 2 dx], .slice (some ⟨gi, 0, none⟩) 2 2] w' fun e w'' => e = .returned (.int .i64 va) ∧ Below w'.heap.size w' w'' ∧ BoxL wz [(gx, .slice Ax 2 cx), (gy, .slice Bx 2 dx)] w'') := fun gi w' hi hx => by
                      obtain ⟨_, b1, b2⟩ := LY.out.step hx.1
                      have h := rvalue_any Bx (some ⟨gi, 0, none⟩) lb [np, nq] dx 2 w' (by omega) (by unfold maxLen; simp) b1 hi b2
                      rw [hnb, hva] at h
                      exact h.mono fun _ _ h => ⟨h.1, h.2, hx.step h.2⟩
                    have hT : BoxL wz [(gx, .slice Ax 2 cx), (gy, .slice Bx 2 dx)] wz.drew := BoxL.drew (by simp only [List.mem_cons, List.not_mem_nil, or_false, forall_eq_or_imp, forall_eq]; exact ⟨hcx, hcy⟩)
                    clear hS COF HBQ ha7 hb7 hbo hcx hcy hlx hly hla hlb hna hnb hva
                    have hS := hT
                    clear hT
                    go_upto_region 23 with (fail)
                    refine wp_region_tab (fun w' => BoxL wz [(gx, .slice Ax 2 cx), (gy, .slice Bx 2 dx)] w') (fun w1 w2 : World => Below w1.heap.size w1 w2) [(fun (x : Value) (_ : World) => x = (.agg #[.slice Ax 2 cx] : Value)), (fun (x : Value) (_ : World) => x = (.agg #[.slice Bx 2 dx] : Value)), (fun (x : Value) (_ : World) => x = (.slice (some ⟨g5, 0, none⟩) 11 11 : Value)), (fun (x : Value) (_ : World) => x = (.int .i64 (ib : Int) : Value)), (fun (x : Value) (_ : World) => x = (.pointer (some ⟨g5, ib, none⟩) : Value)), (fun (x : Value) (_ : World) => x = (.int .i64 nq : Value)), (fun (x : Value) (_ : World) => x = (.bool true : Value)), (fun (x : Value) (_ : World) => x = (.bool false : Value)), (fun (x : Value) (_ : World) => x = (.bool false : Value)), (fun (x : Value) (_ : World) => x = (.agg #[.slice Bx 2 dx] : Value)), (fun (x : Value) (_ : World) => x = (.agg #[.slice Ax 2 cx] : Value)), (fun (x : Value) (_ : World) => x = (.slice (some ⟨g5, 0, none⟩) 11 11 : Value)), (fun (x : Value) (_ : World) => x = (.int .i64 (ia : Int) : Value)), (fun (x : Value) (_ : World) => x = (.pointer (some ⟨g5, ia, none⟩) : Value)), (fun (x : Value) (_ : World) => x = (.int .i64 np : Value)), (fun (x : Value) (_ : World) => x = (.bool true : Value)), (fun (x : Value) (_ : World) => x = (.bool false : Value)), (fun (x : Value) (_ : World) => x = (.bool false : Value)), (fun (x : Value) (_ : World) => x = (.bool false : Value)), (fun (x : Value) (_ : World) => x = (.agg #[.slice Bx 2 dx] : Value)), (fun (x : Value) (_ : World) => x = (.slice (some ⟨g5, 0, none⟩) 11 11 : Value)), (fun (x : Value) (_ : World) => x = (.int .i64 (ia : Int) : Value)), (fun (x : Value) (_ : World) => x = (.pointer (some ⟨g5, ia, none⟩) : Value)), (fun (x : Value) (_ : World) => x = (.int .i64 np : Value)), (fun (x : Value) (_ : World) => x = (.slice (some ⟨g5, 0, none⟩) 11 11 : Value)), (fun (x : Value) (_ : World) => x = (.int .i64 (ib : Int) : Value)), (fun (x : Value) (_ : World) => x = (.pointer (some ⟨g5, ib, none⟩) : Value)), (fun (x : Value) (_ : World) => x = (.int .i64 nq : Value)), (fun (x : Value) (w : World) => ∃ g, x = .slice (some ⟨g, 0, none⟩) 2 2 ∧ Ints w w.heap.size (some ⟨g, 0, none⟩) [np, nq]), (fun (x : Value) (_ : World) => x = (.int .i64 va : Value)), (fun (x : Value) (_ : World) => x = (.agg #[.slice Bx 2 dx] : Value)), (fun (x : Value) (_ : World) => x = (.slice (some ⟨g5, 0, none⟩) 11 11 : Value)), (fun (x : Value) (_ : World) => x = (.int .i64 (ia : Int) : Value)), (fun (x : Value) (_ : World) => x = (.pointer (some ⟨g5, ia, none⟩) : Value)), (fun (x : Value) (_ : World) => x = (.int .i64 np : Value)), (fun (x : Value) (_ : World) => x = (.slice (some ⟨g5, 0, none⟩) 11 11 : Value)), (fun (x : Value) (_ : World) => x = (.int .i64 (ib : Int) : Value)), (fun (x : Value) (_ : World) => x = (.pointer (some ⟨g5, ib, none⟩) : Value)), (fun (x : Value) (_ : World) => x = (.int .i64 nq : Value)), (fun (x : Value) (w : World) => ∃ g, x = .slice (some ⟨g, 0, none⟩) 2 2 ∧ Ints w w.heap.size (some ⟨g, 0, none⟩) [np, nq]), (fun (x : Value) (_ : World) => x = (.int .i64 va : Value)), (fun (x : Value) (_ : World) => x = (.bool false : Value)), (fun (x : Value) (_ : World) => x = (.bool false : Value))] [⟨some 157, .load 25 (.tmp 8), none, []⟩, ⟨some 158, .load 25 (.tmp 9), none, []⟩, ⟨some 159, .move (.tmp 5), none, []⟩, ⟨some 160, .move (.tmp 7), none, []⟩, ⟨some 161, .indexAddr 31 (.tmp 159) (.tmp 160), none, [(159, 2), (160, 3)]⟩, ⟨some 162, .load 3 (.tmp 161), none, [(161, 4)]⟩, ⟨some 163, .call { callee := .value (.func 7), args := #[.tmp 157, .tmp 158, .tmp 162], argTypes := #[25, 25, 3] }, none, [(157, 0), (158, 1), (162, 5)]⟩, ⟨some 164, .unOp .not 4 (.tmp 163), none, [(163, 6)]⟩, ⟨some 165, .move (.tmp 164), none, [(164, 7)]⟩, ⟨some 166, .load 25 (.tmp 9), some (some 165, false), [(165, 8)]⟩, ⟨some 167, .load 25 (.tmp 8), some (some 165, false), [(165, 8)]⟩, ⟨some 168, .move (.tmp 5), some (some 165, false), [(165, 8)]⟩, ⟨some 169, .move (.tmp 6), some (some 165, false), [(165, 8)]⟩, ⟨some 170, .indexAddr 31 (.tmp 168) (.tmp 169), some (some 165, false), [(165, 8), (168, 11), (169, 12)]⟩, ⟨some 171, .load 3 (.tmp 170), some (some 165, false), [(165, 8), (170, 13)]⟩, ⟨some 172, .call { callee := .value (.func 7), args := #[.tmp 166, .tmp 167, .tmp 171], argTypes := #[25, 25, 3] }, some (some 165, false), [(165, 8), (166, 9), (167, 10), (171, 14)]⟩, ⟨some 173, .unOp .not 4 (.tmp 172), some (some 165, false), [(165, 8), (172, 15)]⟩, ⟨some 174, .pick (.tmp 165) (.const (Value.bool true)) (.tmp 173), none, [(165, 8), (173, 16)]⟩, ⟨some 175, .move (.tmp 174), none, [(174, 17)]⟩, ⟨some 176, .load 25 (.tmp 9), some (some 175, false), [(175, 18)]⟩, ⟨some 177, .move (.tmp 5), some (some 175, false), [(175, 18)]⟩, ⟨some 178, .move (.tmp 6), some (some 175, false), [(175, 18)]⟩, ⟨some 179, .indexAddr 31 (.tmp 177) (.tmp 178), some (some 175, false), [(175, 18), (177, 20), (178, 21)]⟩, ⟨some 180, .load 3 (.tmp 179), some (some 175, false), [(175, 18), (179, 22)]⟩, ⟨some 181, .move (.tmp 5), some (some 175, false), [(175, 18)]⟩, ⟨some 182, .move (.tmp 7), some (some 175, false), [(175, 18)]⟩, ⟨some 183, .indexAddr 31 (.tmp 181) (.tmp 182), some (some 175, false), [(175, 18), (181, 24), (182, 25)]⟩, ⟨some 184, .load 3 (.tmp 183), some (some 175, false), [(175, 18), (183, 26)]⟩, ⟨some 185, .buildSlice 31 2 #[(0, .tmp 180), (1, .tmp 184)], some (some 175, false), [(175, 18), (180, 23), (184, 27)]⟩, ⟨some 186, .call { callee := .value (.func 11), args := #[.tmp 176, .tmp 185], argTypes := #[25, 31] }, some (some 175, false), [(175, 18), (176, 19), (185, 28)]⟩, ⟨some 187, .load 25 (.tmp 9), some (some 175, false), [(175, 18)]⟩, ⟨some 188, .move (.tmp 5), some (some 175, false), [(175, 18)]⟩, ⟨some 189, .move (.tmp 6), some (some 175, false), [(175, 18)]⟩, ⟨some 190, .indexAddr 31 (.tmp 188) (.tmp 189), some (some 175, false), [(175, 18), (188, 31), (189, 32)]⟩, ⟨some 191, .load 3 (.tmp 190), some (some 175, false), [(175, 18), (190, 33)]⟩, ⟨some 192, .move (.tmp 5), some (some 175, false), [(175, 18)]⟩, ⟨some 193, .move (.tmp 7), some (some 175, false), [(175, 18)]⟩, ⟨some 194, .indexAddr 31 (.tmp 192) (.tmp 193), some (some 175, false), [(175, 18), (192, 35), (193, 36)]⟩, ⟨some 195, .load 3 (.tmp 194), some (some 175, false), [(175, 18), (194, 37)]⟩, ⟨some 196, .buildSlice 31 2 #[(0, .tmp 191), (1, .tmp 195)], some (some 175, false), [(175, 18), (191, 34), (195, 38)]⟩, ⟨some 197, .call { callee := .value (.func 12), args := #[.tmp 187, .tmp 196], argTypes := #[25, 31] }, some (some 175, false), [(175, 18), (187, 30), (196, 39)]⟩, ⟨some 198, .binOp .neq 3 (.tmp 186) (.tmp 197) 3, some (some 175, false), [(175, 18), (186, 29), (197, 40)]⟩, ⟨some 199, .pick (.tmp 175) (.const (Value.bool true)) (.tmp 198), none, [(175, 18), (198, 41)]⟩] [some 157, some 158, some 159, some 160, some 161, some 162, some 163, some 164, some 165, some 166, some 167, some 168, some 169, some 170, some 171, some 172, some 173, some 174, some 175, some 176, some 177, some 178, some 179, some 180, some 181, some 182, some 183, some 184, some 185, some 186, some 187, some 188, some 189, some 190, some 191, some 192, some 193, some 194, some 195, some 196, some 197, some 198, some 199] (by kernel_rfl) (by kernel_rfl) (by kernel_rfl) (by kernel_rfl) (by kernel_rfl) ?hS ?hmono ?hsteps ?hfin
                    case hS => exact hS
                    case hmono =>
                      refine MonoL.cons (fun x w1 w2 _ _ _ hx => hx) ?_
                      refine MonoL.cons (fun x w1 w2 _ _ _ hx => hx) ?_
                      refine MonoL.cons (fun x w1 w2 _ _ _ hx => hx) ?_
                      refine MonoL.cons (fun x w1 w2 _ _ _ hx => hx) ?_
                      refine MonoL.cons (fun x w1 w2 _ _ _ hx => hx) ?_
                      refine MonoL.cons (fun x w1 w2 _ _ _ hx => hx) ?_
                      refine MonoL.cons (fun x w1 w2 _ _ _ hx => hx) ?_
                      refine MonoL.cons (fun x w1 w2 _ _ _ hx => hx) ?_
                      refine MonoL.cons (fun x w1 w2 _ _ _ hx => hx) ?_
                      refine MonoL.cons (fun x w1 w2 _ _ _ hx => hx) ?_
                      refine MonoL.cons (fun x w1 w2 _ _ _ hx => hx) ?_
                      refine MonoL.cons (fun x w1 w2 _ _ _ hx => hx) ?_
                      refine MonoL.cons (fun x w1 w2 _ _ _ hx => hx) ?_
                      refine MonoL.cons (fun x w1 w2 _ _ _ hx => hx) ?_
                      refine MonoL.cons (fun x w1 w2 _ _ _ hx => hx) ?_
                      refine MonoL.cons (fun x w1 w2 _ _ _ hx => hx) ?_
                      refine MonoL.cons (fun x w1 w2 _ _ _ hx => hx) ?_
                      refine MonoL.cons (fun x w1 w2 _ _ _ hx => hx) ?_
                      refine MonoL.cons (fun x w1 w2 _ _ _ hx => hx) ?_
                      refine MonoL.cons (fun x w1 w2 _ _ _ hx => hx) ?_
                      refine MonoL.cons (fun x w1 w2 _ _ _ hx => hx) ?_
                      refine MonoL.cons (fun x w1 w2 _ _ _ hx => hx) ?_
                      refine MonoL.cons (fun x w1 w2 _ _ _ hx => hx) ?_
                      refine MonoL.cons (fun x w1 w2 _ _ _ hx => hx) ?_
                      refine MonoL.cons (fun x w1 w2 _ _ _ hx => hx) ?_
                      refine MonoL.cons (fun x w1 w2 _ _ _ hx => hx) ?_
                      refine MonoL.cons (fun x w1 w2 _ _ _ hx => hx) ?_
                      refine MonoL.cons (fun x w1 w2 _ _ _ hx => hx) ?_
                      refine MonoL.cons (fun x w1 w2 _ _ hR hx => ?_) ?_
                      · obtain ⟨g, h1, h2⟩ := hx; exact ⟨g, h1, (h2.below hR).more hR.size⟩
                      refine MonoL.cons (fun x w1 w2 _ _ _ hx => hx) ?_
                      refine MonoL.cons (fun x w1 w2 _ _ _ hx => hx) ?_
                      refine MonoL.cons (fun x w1 w2 _ _ _ hx => hx) ?_
                      refine MonoL.cons (fun x w1 w2 _ _ _ hx => hx) ?_
                      refine MonoL.cons (fun x w1 w2 _ _ _ hx => hx) ?_
                      refine MonoL.cons (fun x w1 w2 _ _ _ hx => hx) ?_
                      refine MonoL.cons (fun x w1 w2 _ _ _ hx => hx) ?_
                      refine MonoL.cons (fun x w1 w2 _ _ _ hx => hx) ?_
                      refine MonoL.cons (fun x w1 w2 _ _ _ hx => hx) ?_
                      refine MonoL.cons (fun x w1 w2 _ _ _ hx => hx) ?_
                      refine MonoL.cons (fun x w1 w2 _ _ hR hx => ?_) ?_
                      · obtain ⟨g, h1, h2⟩ := hx; exact ⟨g, h1, (h2.below hR).more hR.size⟩
                      refine MonoL.cons (fun x w1 w2 _ _ _ hx => hx) ?_
                      refine MonoL.cons (fun x w1 w2 _ _ _ hx => hx) ?_
                      refine MonoL.cons (fun x w1 w2 _ _ _ hx => hx) ?_
                      exact MonoL.nil
                    case hsteps =>
                      refine StepsT.cons (fun (x : Value) (_ : World) => x = (.agg #[.slice Ax 2 cx] : Value)) [] rfl rfl (fun oq hop _ wq hQS => ?_) ?_
                      · skip
                        exact StepFrom.load hop (by kernel_rfl) (load_level (hQS.2 (gx, .slice Ax 2 cx) (by simp))) (by kernel_rfl) hQS (Below.refl _ _) rfl
                      refine StepsT.cons (fun (x : Value) (_ : World) => x = (.agg #[.slice Bx 2 dx] : Value)) [] rfl rfl (fun oq hop _ wq hQS => ?_) ?_
                      · skip
                        exact StepFrom.load hop (by kernel_rfl) (load_level (hQS.2 (gy, .slice Bx 2 dx) (by simp))) (by kernel_rfl) hQS (Below.refl _ _) rfl
                      refine StepsT.cons (fun (x : Value) (_ : World) => x = (.slice (some ⟨g5, 0, none⟩) 11 11 : Value)) [] rfl rfl (fun oq hop _ wq hQS => ?_) ?_
                      · exact StepFrom.move hop (v := (.slice (some ⟨g5, 0, none⟩) 11 11 : Value)) (by kernel_rfl) (by kernel_rfl) hQS (Below.refl _ _) rfl
                      refine StepsT.cons (fun (x : Value) (_ : World) => x = (.int .i64 (ib : Int) : Value)) [] rfl rfl (fun oq hop _ wq hQS => ?_) ?_
                      · exact StepFrom.move hop (v := (.int .i64 (ib : Int) : Value)) (by kernel_rfl) (by kernel_rfl) hQS (Below.refl _ _) rfl
                      refine StepsT.cons (fun (x : Value) (_ : World) => x = (.pointer (some ⟨g5, ib, none⟩) : Value)) [(159, (fun (x : Value) (_ : World) => x = (.slice (some ⟨g5, 0, none⟩) 11 11 : Value))), (160, (fun (x : Value) (_ : World) => x = (.int .i64 (ib : Int) : Value)))] rfl rfl (fun oq hop _ wq hQS => ?_) ?_
                      · refine StepFrom.more_eq ((.slice (some ⟨g5, 0, none⟩) 11 11 : Value)) ?_
                        refine StepFrom.more_eq ((.int .i64 (ib : Int) : Value)) ?_
                        exact StepFrom.indexAddr hop (p := (.slice (some ⟨g5, 0, none⟩) 11 11 : Value)) (q := (.int .i64 (ib : Int) : Value)) (by kernel_rfl) (by kernel_rfl) (int_addr b0 b1) (by kernel_rfl) hQS (Below.refl _ _) rfl
                      refine StepsT.cons (fun (x : Value) (_ : World) => x = (.int .i64 nq : Value)) [(161, (fun (x : Value) (_ : World) => x = (.pointer (some ⟨g5, ib, none⟩) : Value)))] rfl rfl (fun oq hop _ wq hQS => ?_) ?_
                      · refine StepFrom.more_eq ((.pointer (some ⟨g5, ib, none⟩) : Value)) ?_
                        exact StepFrom.load hop (p := (.pointer (some ⟨g5, ib, none⟩) : Value)) (by kernel_rfl) (load_int ((hQS.1.cell (p := ⟨g5, ib, none⟩) hg5z).trans pb7)) (by kernel_rfl) hQS (Below.refl _ _) rfl
                      refine StepsT.cons (fun (x : Value) (_ : World) => x = (.bool true : Value)) [(157, (fun (x : Value) (_ : World) => x = (.agg #[.slice Ax 2 cx] : Value))), (158, (fun (x : Value) (_ : World) => x = (.agg #[.slice Bx 2 dx] : Value))), (162, (fun (x : Value) (_ : World) => x = (.int .i64 nq : Value)))] rfl rfl (fun oq hop _ wq hQS => ?_) ?_
                      · refine StepFrom.more_eq ((.agg #[.slice Ax 2 cx] : Value)) ?_
                        refine StepFrom.more_eq ((.agg #[.slice Bx 2 dx] : Value)) ?_
                        refine StepFrom.more_eq ((.int .i64 nq : Value)) ?_
                        exact StepFrom.call hop (vs := [(.agg #[.slice Ax 2 cx] : Value), (.agg #[.slice Bx 2 dx] : Value), (.int .i64 nq : Value)]) (by kernel_rfl) (fun w => enter_one _ w) (by kernel_rfl) ((C163.out _ _ hQS).mono fun e w2 h => ⟨_, h.1, h.2.2, h.2.1, rfl⟩)
                      refine StepsT.cons (fun (x : Value) (_ : World) => x = (.bool false : Value)) [(163, (fun (x : Value) (_ : World) => x = (.bool true : Value)))] rfl rfl (fun oq hop _ wq hQS => ?_) ?_
                      · refine StepFrom.more_eq ((.bool true : Value)) ?_
                        exact StepFrom.not hop (b := true) (by kernel_rfl) (by kernel_rfl) hQS (Below.refl _ _) rfl
                      refine StepsT.cons (fun (x : Value) (_ : World) => x = (.bool false : Value)) [(164, (fun (x : Value) (_ : World) => x = (.bool false : Value)))] rfl rfl (fun oq hop _ wq hQS => ?_) ?_
                      · refine StepFrom.more_eq ((.bool false : Value)) ?_
                        exact StepFrom.move hop (v := (.bool false : Value)) (by kernel_rfl) (by kernel_rfl) hQS (Below.refl _ _) rfl
                      refine StepsT.cons (fun (x : Value) (_ : World) => x = (.agg #[.slice Bx 2 dx] : Value)) [(165, (fun (x : Value) (_ : World) => x = (.bool false : Value)))] rfl rfl (fun oq hop _ wq hQS => ?_) ?_
                      · refine StepFrom.more_eq ((.bool false : Value)) ?_
                        skip
                        exact StepFrom.load hop (by kernel_rfl) (load_level (hQS.2 (gy, .slice Bx 2 dx) (by simp))) (by kernel_rfl) hQS (Below.refl _ _) rfl
                      refine StepsT.cons (fun (x : Value) (_ : World) => x = (.agg #[.slice Ax 2 cx] : Value)) [(165, (fun (x : Value) (_ : World) => x = (.bool false : Value)))] rfl rfl (fun oq hop _ wq hQS => ?_) ?_
                      · refine StepFrom.more_eq ((.bool false : Value)) ?_
                        skip
                        exact StepFrom.load hop (by kernel_rfl) (load_level (hQS.2 (gx, .slice Ax 2 cx) (by simp))) (by kernel_rfl) hQS (Below.refl _ _) rfl
                      refine StepsT.cons (fun (x : Value) (_ : World) => x = (.slice (some ⟨g5, 0, none⟩) 11 11 : Value)) [(165, (fun (x : Value) (_ : World) => x = (.bool false : Value)))] rfl rfl (fun oq hop _ wq hQS => ?_) ?_
                      · refine StepFrom.more_eq ((.bool false : Value)) ?_
                        exact StepFrom.move hop (v := (.slice (some ⟨g5, 0, none⟩) 11 11 : Value)) (by kernel_rfl) (by kernel_rfl) hQS (Below.refl _ _) rfl
                      refine StepsT.cons (fun (x : Value) (_ : World) => x = (.int .i64 (ia : Int) : Value)) [(165, (fun (x : Value) (_ : World) => x = (.bool false : Value)))] rfl rfl (fun oq hop _ wq hQS => ?_) ?_
                      · refine StepFrom.more_eq ((.bool false : Value)) ?_
                        exact StepFrom.move hop (v := (.int .i64 (ia : Int) : Value)) (by kernel_rfl) (by kernel_rfl) hQS (Below.refl _ _) rfl
                      refine StepsT.cons (fun (x : Value) (_ : World) => x = (.pointer (some ⟨g5, ia, none⟩) : Value)) [(165, (fun (x : Value) (_ : World) => x = (.bool false : Value))), (168, (fun (x : Value) (_ : World) => x = (.slice (some ⟨g5, 0, none⟩) 11 11 : Value))), (169, (fun (x : Value) (_ : World) => x = (.int .i64 (ia : Int) : Value)))] rfl rfl (fun oq hop _ wq hQS => ?_) ?_
                      · refine StepFrom.more_eq ((.bool false : Value)) ?_
                        refine StepFrom.more_eq ((.slice (some ⟨g5, 0, none⟩) 11 11 : Value)) ?_
                        refine StepFrom.more_eq ((.int .i64 (ia : Int) : Value)) ?_
                        exact StepFrom.indexAddr hop (p := (.slice (some ⟨g5, 0, none⟩) 11 11 : Value)) (q := (.int .i64 (ia : Int) : Value)) (by kernel_rfl) (by kernel_rfl) (int_addr a0 a1) (by kernel_rfl) hQS (Below.refl _ _) rfl
                      refine StepsT.cons (fun (x : Value) (_ : World) => x = (.int .i64 np : Value)) [(165, (fun (x : Value) (_ : World) => x = (.bool false : Value))), (170, (fun (x : Value) (_ : World) => x = (.pointer (some ⟨g5, ia, none⟩) : Value)))] rfl rfl (fun oq hop _ wq hQS => ?_) ?_
                      · refine StepFrom.more_eq ((.bool false : Value)) ?_
                        refine StepFrom.more_eq ((.pointer (some ⟨g5, ia, none⟩) : Value)) ?_
                        exact StepFrom.load hop (p := (.pointer (some ⟨g5, ia, none⟩) : Value)) (by kernel_rfl) (load_int ((hQS.1.cell (p := ⟨g5, ia, none⟩) hg5z).trans pa7)) (by kernel_rfl) hQS (Below.refl _ _) rfl
                      refine StepsT.cons (fun (x : Value) (_ : World) => x = (.bool true : Value)) [(165, (fun (x : Value) (_ : World) => x = (.bool false : Value))), (166, (fun (x : Value) (_ : World) => x = (.agg #[.slice Bx 2 dx] : Value))), (167, (fun (x : Value) (_ : World) => x = (.agg #[.slice Ax 2 cx] : Value))), (171, (fun (x : Value) (_ : World) => x = (.int .i64 np : Value)))] rfl rfl (fun oq hop _ wq hQS => ?_) ?_
                      · refine StepFrom.more_eq ((.bool false : Value)) ?_
                        refine StepFrom.more_eq ((.agg #[.slice Bx 2 dx] : Value)) ?_
                        refine StepFrom.more_eq ((.agg #[.slice Ax 2 cx] : Value)) ?_
                        refine StepFrom.more_eq ((.int .i64 np : Value)) ?_
                        exact StepFrom.call hop (vs := [(.agg #[.slice Bx 2 dx] : Value), (.agg #[.slice Ax 2 cx] : Value), (.int .i64 np : Value)]) (by kernel_rfl) (fun w => enter_one _ w) (by kernel_rfl) ((C172.out _ _ hQS).mono fun e w2 h => ⟨_, h.1, h.2.2, h.2.1, rfl⟩)
                      refine StepsT.cons (fun (x : Value) (_ : World) => x = (.bool false : Value)) [(165, (fun (x : Value) (_ : World) => x = (.bool false : Value))), (172, (fun (x : Value) (_ : World) => x = (.bool true : Value)))] rfl rfl (fun oq hop _ wq hQS => ?_) ?_
                      · refine StepFrom.more_eq ((.bool false : Value)) ?_
                        refine StepFrom.more_eq ((.bool true : Value)) ?_
                        exact StepFrom.not hop (b := true) (by kernel_rfl) (by kernel_rfl) hQS (Below.refl _ _) rfl
                      refine StepsT.cons (fun (x : Value) (_ : World) => x = (.bool false : Value)) [(165, (fun (x : Value) (_ : World) => x = (.bool false : Value))), (173, (fun (x : Value) (_ : World) => x = (.bool false : Value)))] rfl rfl (fun oq hop _ wq hQS => ?_) ?_
                      · refine StepFrom.more_eq ((.bool false : Value)) ?_
                        refine StepFrom.more_eq ((.bool false : Value)) ?_
                        exact StepFrom.pick hop (b := false) (vx := (Value.bool true : Value)) (vy := (.bool false : Value)) (by kernel_rfl) (by kernel_rfl) (by kernel_rfl) (by kernel_rfl) hQS (Below.refl _ _) rfl
                      refine StepsT.cons (fun (x : Value) (_ : World) => x = (.bool false : Value)) [(174, (fun (x : Value) (_ : World) => x = (.bool false : Value)))] rfl rfl (fun oq hop _ wq hQS => ?_) ?_
                      · refine StepFrom.more_eq ((.bool false : Value)) ?_
                        exact StepFrom.move hop (v := (.bool false : Value)) (by kernel_rfl) (by kernel_rfl) hQS (Below.refl _ _) rfl
                      refine StepsT.cons (fun (x : Value) (_ : World) => x = (.agg #[.slice Bx 2 dx] : Value)) [(175, (fun (x : Value) (_ : World) => x = (.bool false : Value)))] rfl rfl (fun oq hop _ wq hQS => ?_) ?_
                      · refine StepFrom.more_eq ((.bool false : Value)) ?_
                        skip
                        exact StepFrom.load hop (by kernel_rfl) (load_level (hQS.2 (gy, .slice Bx 2 dx) (by simp))) (by kernel_rfl) hQS (Below.refl _ _) rfl
                      refine StepsT.cons (fun (x : Value) (_ : World) => x = (.slice (some ⟨g5, 0, none⟩) 11 11 : Value)) [(175, (fun (x : Value) (_ : World) => x = (.bool false : Value)))] rfl rfl (fun oq hop _ wq hQS => ?_) ?_
                      · refine StepFrom.more_eq ((.bool false : Value)) ?_
                        exact StepFrom.move hop (v := (.slice (some ⟨g5, 0, none⟩) 11 11 : Value)) (by kernel_rfl) (by kernel_rfl) hQS (Below.refl _ _) rfl
                      refine StepsT.cons (fun (x : Value) (_ : World) => x = (.int .i64 (ia : Int) : Value)) [(175, (fun (x : Value) (_ : World) => x = (.bool false : Value)))] rfl rfl (fun oq hop _ wq hQS => ?_) ?_
                      · refine StepFrom.more_eq ((.bool false : Value)) ?_
                        exact StepFrom.move hop (v := (.int .i64 (ia : Int) : Value)) (by kernel_rfl) (by kernel_rfl) hQS (Below.refl _ _) rfl
                      refine StepsT.cons (fun (x : Value) (_ : World) => x = (.pointer (some ⟨g5, ia, none⟩) : Value)) [(175, (fun (x : Value) (_ : World) => x = (.bool false : Value))), (177, (fun (x : Value) (_ : World) => x = (.slice (some ⟨g5, 0, none⟩) 11 11 : Value))), (178, (fun (x : Value) (_ : World) => x = (.int .i64 (ia : Int) : Value)))] rfl rfl (fun oq hop _ wq hQS => ?_) ?_
                      · refine StepFrom.more_eq ((.bool false : Value)) ?_
                        refine StepFrom.more_eq ((.slice (some ⟨g5, 0, none⟩) 11 11 : Value)) ?_
                        refine StepFrom.more_eq ((.int .i64 (ia : Int) : Value)) ?_
                        exact StepFrom.indexAddr hop (p := (.slice (some ⟨g5, 0, none⟩) 11 11 : Value)) (q := (.int .i64 (ia : Int) : Value)) (by kernel_rfl) (by kernel_rfl) (int_addr a0 a1) (by kernel_rfl) hQS (Below.refl _ _) rfl
                      refine StepsT.cons (fun (x : Value) (_ : World) => x = (.int .i64 np : Value)) [(175, (fun (x : Value) (_ : World) => x = (.bool false : Value))), (179, (fun (x : Value) (_ : World) => x = (.pointer (some ⟨g5, ia, none⟩) : Value)))] rfl rfl (fun oq hop _ wq hQS => ?_) ?_
                      · refine StepFrom.more_eq ((.bool false : Value)) ?_
                        refine StepFrom.more_eq ((.pointer (some ⟨g5, ia, none⟩) : Value)) ?_
                        exact StepFrom.load hop (p := (.pointer (some ⟨g5, ia, none⟩) : Value)) (by kernel_rfl) (load_int ((hQS.1.cell (p := ⟨g5, ia, none⟩) hg5z).trans pa7)) (by kernel_rfl) hQS (Below.refl _ _) rfl
                      refine StepsT.cons (fun (x : Value) (_ : World) => x = (.slice (some ⟨g5, 0, none⟩) 11 11 : Value)) [(175, (fun (x : Value) (_ : World) => x = (.bool false : Value)))] rfl rfl (fun oq hop _ wq hQS => ?_) ?_
                      · refine StepFrom.more_eq ((.bool false : Value)) ?_
                        exact StepFrom.move hop (v := (.slice (some ⟨g5, 0, none⟩) 11 11 : Value)) (by kernel_rfl) (by kernel_rfl) hQS (Below.refl _ _) rfl
                      refine StepsT.cons (fun (x : Value) (_ : World) => x = (.int .i64 (ib : Int) : Value)) [(175, (fun (x : Value) (_ : World) => x = (.bool false : Value)))] rfl rfl (fun oq hop _ wq hQS => ?_) ?_
                      · refine StepFrom.more_eq ((.bool false : Value)) ?_
                        exact StepFrom.move hop (v := (.int .i64 (ib : Int) : Value)) (by kernel_rfl) (by kernel_rfl) hQS (Below.refl _ _) rfl
                      refine StepsT.cons (fun (x : Value) (_ : World) => x = (.pointer (some ⟨g5, ib, none⟩) : Value)) [(175, (fun (x : Value) (_ : World) => x = (.bool false : Value))), (181, (fun (x : Value) (_ : World) => x = (.slice (some ⟨g5, 0, none⟩) 11 11 : Value))), (182, (fun (x : Value) (_ : World) => x = (.int .i64 (ib : Int) : Value)))] rfl rfl (fun oq hop _ wq hQS => ?_) ?_
                      · refine StepFrom.more_eq ((.bool false : Value)) ?_
                        refine StepFrom.more_eq ((.slice (some ⟨g5, 0, none⟩) 11 11 : Value)) ?_
                        refine StepFrom.more_eq ((.int .i64 (ib : Int) : Value)) ?_
                        exact StepFrom.indexAddr hop (p := (.slice (some ⟨g5, 0, none⟩) 11 11 : Value)) (q := (.int .i64 (ib : Int) : Value)) (by kernel_rfl) (by kernel_rfl) (int_addr b0 b1) (by kernel_rfl) hQS (Below.refl _ _) rfl
                      refine StepsT.cons (fun (x : Value) (_ : World) => x = (.int .i64 nq : Value)) [(175, (fun (x : Value) (_ : World) => x = (.bool false : Value))), (183, (fun (x : Value) (_ : World) => x = (.pointer (some ⟨g5, ib, none⟩) : Value)))] rfl rfl (fun oq hop _ wq hQS => ?_) ?_
                      · refine StepFrom.more_eq ((.bool false : Value)) ?_
                        refine StepFrom.more_eq ((.pointer (some ⟨g5, ib, none⟩) : Value)) ?_
                        exact StepFrom.load hop (p := (.pointer (some ⟨g5, ib, none⟩) : Value)) (by kernel_rfl) (load_int ((hQS.1.cell (p := ⟨g5, ib, none⟩) hg5z).trans pb7)) (by kernel_rfl) hQS (Below.refl _ _) rfl
                      refine StepsT.cons (fun (x : Value) (w : World) => ∃ g, x = .slice (some ⟨g, 0, none⟩) 2 2 ∧ Ints w w.heap.size (some ⟨g, 0, none⟩) [np, nq]) [(175, (fun (x : Value) (_ : World) => x = (.bool false : Value))), (180, (fun (x : Value) (_ : World) => x = (.int .i64 np : Value))), (184, (fun (x : Value) (_ : World) => x = (.int .i64 nq : Value)))] rfl rfl (fun oq hop _ wq hQS => ?_) ?_
                      · refine StepFrom.more_eq ((.bool false : Value)) ?_
                        refine StepFrom.more_eq ((.int .i64 np : Value)) ?_
                        refine StepFrom.more_eq ((.int .i64 nq : Value)) ?_
                        exact StepFrom.slice hop (vs := [(0, .int .i64 np), (1, .int .i64 nq)]) (by kernel_rfl) (slice_ints _ _) (by kernel_rfl) (hQS.step ((Below.refl _ _).alloc (Nat.le_refl _) _)) ((Below.refl _ _).alloc (Nat.le_refl _) _) ⟨_, rfl, ints_two _ _ _ _⟩
                      refine StepsT.cons (fun (x : Value) (_ : World) => x = (.int .i64 va : Value)) [(175, (fun (x : Value) (_ : World) => x = (.bool false : Value))), (176, (fun (x : Value) (_ : World) => x = (.agg #[.slice Bx 2 dx] : Value))), (185, (fun (x : Value) (w : World) => ∃ g, x = .slice (some ⟨g, 0, none⟩) 2 2 ∧ Ints w w.heap.size (some ⟨g, 0, none⟩) [np, nq]))] rfl rfl (fun oq hop _ wq hQS => ?_) ?_
                      · refine StepFrom.more_eq ((.bool false : Value)) ?_
                        refine StepFrom.more_eq ((.agg #[.slice Bx 2 dx] : Value)) ?_
                        refine StepFrom.more fun x185 h185 => ?_
                        obtain ⟨g185, rfl, hl185⟩ := h185
                        exact StepFrom.call hop (vs := [(.agg #[.slice Bx 2 dx] : Value), (.slice (some ⟨g185, 0, none⟩) 2 2 : Value)]) (by kernel_rfl) (fun w => enter_value _ w) (by kernel_rfl) ((C186.out _ _ hl185 hQS).mono fun e w2 h => ⟨_, h.1, h.2.2, h.2.1, rfl⟩)
                      refine StepsT.cons (fun (x : Value) (_ : World) => x = (.agg #[.slice Bx 2 dx] : Value)) [(175, (fun (x : Value) (_ : World) => x = (.bool false : Value)))] rfl rfl (fun oq hop _ wq hQS => ?_) ?_
                      · refine StepFrom.more_eq ((.bool false : Value)) ?_
                        skip
                        exact StepFrom.load hop (by kernel_rfl) (load_level (hQS.2 (gy, .slice Bx 2 dx) (by simp))) (by kernel_rfl) hQS (Below.refl _ _) rfl
                      refine StepsT.cons (fun (x : Value) (_ : World) => x = (.slice (some ⟨g5, 0, none⟩) 11 11 : Value)) [(175, (fun (x : Value) (_ : World) => x = (.bool false : Value)))] rfl rfl (fun oq hop _ wq hQS => ?_) ?_
                      · refine StepFrom.more_eq ((.bool false : Value)) ?_
                        exact StepFrom.move hop (v := (.slice (some ⟨g5, 0, none⟩) 11 11 : Value)) (by kernel_rfl) (by kernel_rfl) hQS (Below.refl _ _) rfl
                      refine StepsT.cons (fun (x : Value) (_ : World) => x = (.int .i64 (ia : Int) : Value)) [(175, (fun (x : Value) (_ : World) => x = (.bool false : Value)))] rfl rfl (fun oq hop _ wq hQS => ?_) ?_
                      · refine StepFrom.more_eq ((.bool false : Value)) ?_
                        exact StepFrom.move hop (v := (.int .i64 (ia : Int) : Value)) (by kernel_rfl) (by kernel_rfl) hQS (Below.refl _ _) rfl
                      refine StepsT.cons (fun (x : Value) (_ : World) => x = (.pointer (some ⟨g5, ia, none⟩) : Value)) [(175, (fun (x : Value) (_ : World) => x = (.bool false : Value))), (188, (fun (x : Value) (_ : World) => x = (.slice (some ⟨g5, 0, none⟩) 11 11 : Value))), (189, (fun (x : Value) (_ : World) => x = (.int .i64 (ia : Int) : Value)))] rfl rfl (fun oq hop _ wq hQS => ?_) ?_
                      · refine StepFrom.more_eq ((.bool false : Value)) ?_
                        refine StepFrom.more_eq ((.slice (some ⟨g5, 0, none⟩) 11 11 : Value)) ?_
                        refine StepFrom.more_eq ((.int .i64 (ia : Int) : Value)) ?_
                        exact StepFrom.indexAddr hop (p := (.slice (some ⟨g5, 0, none⟩) 11 11 : Value)) (q := (.int .i64 (ia : Int) : Value)) (by kernel_rfl) (by kernel_rfl) (int_addr a0 a1) (by kernel_rfl) hQS (Below.refl _ _) rfl
                      refine StepsT.cons (fun (x : Value) (_ : World) => x = (.int .i64 np : Value)) [(175, (fun (x : Value) (_ : World) => x = (.bool false : Value))), (190, (fun (x : Value) (_ : World) => x = (.pointer (some ⟨g5, ia, none⟩) : Value)))] rfl rfl (fun oq hop _ wq hQS => ?_) ?_
                      · refine StepFrom.more_eq ((.bool false : Value)) ?_
                        refine StepFrom.more_eq ((.pointer (some ⟨g5, ia, none⟩) : Value)) ?_
                        exact StepFrom.load hop (p := (.pointer (some ⟨g5, ia, none⟩) : Value)) (by kernel_rfl) (load_int ((hQS.1.cell (p := ⟨g5, ia, none⟩) hg5z).trans pa7)) (by kernel_rfl) hQS (Below.refl _ _) rfl
                      refine StepsT.cons (fun (x : Value) (_ : World) => x = (.slice (some ⟨g5, 0, none⟩) 11 11 : Value)) [(175, (fun (x : Value) (_ : World) => x = (.bool false : Value)))] rfl rfl (fun oq hop _ wq hQS => ?_) ?_
                      · refine StepFrom.more_eq ((.bool false : Value)) ?_
                        exact StepFrom.move hop (v := (.slice (some ⟨g5, 0, none⟩) 11 11 : Value)) (by kernel_rfl) (by kernel_rfl) hQS (Below.refl _ _) rfl
                      refine StepsT.cons (fun (x : Value) (_ : World) => x = (.int .i64 (ib : Int) : Value)) [(175, (fun (x : Value) (_ : World) => x = (.bool false : Value)))] rfl rfl (fun oq hop _ wq hQS => ?_) ?_
                      · refine StepFrom.more_eq ((.bool false : Value)) ?_
                        exact StepFrom.move hop (v := (.int .i64 (ib : Int) : Value)) (by kernel_rfl) (by kernel_rfl) hQS (Below.refl _ _) rfl
                      refine StepsT.cons (fun (x : Value) (_ : World) => x = (.pointer (some ⟨g5, ib, none⟩) : Value)) [(175, (fun (x : Value) (_ : World) => x = (.bool false : Value))), (192, (fun (x : Value) (_ : World) => x = (.slice (some ⟨g5, 0, none⟩) 11 11 : Value))), (193, (fun (x : Value) (_ : World) => x = (.int .i64 (ib : Int) : Value)))] rfl rfl (fun oq hop _ wq hQS => ?_) ?_
                      · refine StepFrom.more_eq ((.bool false : Value)) ?_
                        refine StepFrom.more_eq ((.slice (some ⟨g5, 0, none⟩) 11 11 : Value)) ?_
                        refine StepFrom.more_eq ((.int .i64 (ib : Int) : Value)) ?_
                        exact StepFrom.indexAddr hop (p := (.slice (some ⟨g5, 0, none⟩) 11 11 : Value)) (q := (.int .i64 (ib : Int) : Value)) (by kernel_rfl) (by kernel_rfl) (int_addr b0 b1) (by kernel_rfl) hQS (Below.refl _ _) rfl
                      refine StepsT.cons (fun (x : Value) (_ : World) => x = (.int .i64 nq : Value)) [(175, (fun (x : Value) (_ : World) => x = (.bool false : Value))), (194, (fun (x : Value) (_ : World) => x = (.pointer (some ⟨g5, ib, none⟩) : Value)))] rfl rfl (fun oq hop _ wq hQS => ?_) ?_
                      · refine StepFrom.more_eq ((.bool false : Value)) ?_
                        refine StepFrom.more_eq ((.pointer (some ⟨g5, ib, none⟩) : Value)) ?_
                        exact StepFrom.load hop (p := (.pointer (some ⟨g5, ib, none⟩) : Value)) (by kernel_rfl) (load_int ((hQS.1.cell (p := ⟨g5, ib, none⟩) hg5z).trans pb7)) (by kernel_rfl) hQS (Below.refl _ _) rfl
                      refine StepsT.cons (fun (x : Value) (w : World) => ∃ g, x = .slice (some ⟨g, 0, none⟩) 2 2 ∧ Ints w w.heap.size (some ⟨g, 0, none⟩) [np, nq]) [(175, (fun (x : Value) (_ : World) => x = (.bool false : Value))), (191, (fun (x : Value) (_ : World) => x = (.int .i64 np : Value))), (195, (fun (x : Value) (_ : World) => x = (.int .i64 nq : Value)))] rfl rfl (fun oq hop _ wq hQS => ?_) ?_
                      · refine StepFrom.more_eq ((.bool false : Value)) ?_
                        refine StepFrom.more_eq ((.int .i64 np : Value)) ?_
                        refine StepFrom.more_eq ((.int .i64 nq : Value)) ?_
                        exact StepFrom.slice hop (vs := [(0, .int .i64 np), (1, .int .i64 nq)]) (by kernel_rfl) (slice_ints _ _) (by kernel_rfl) (hQS.step ((Below.refl _ _).alloc (Nat.le_refl _) _)) ((Below.refl _ _).alloc (Nat.le_refl _) _) ⟨_, rfl, ints_two _ _ _ _⟩
                      refine StepsT.cons (fun (x : Value) (_ : World) => x = (.int .i64 va : Value)) [(175, (fun (x : Value) (_ : World) => x = (.bool false : Value))), (187, (fun (x : Value) (_ : World) => x = (.agg #[.slice Bx 2 dx] : Value))), (196, (fun (x : Value) (w : World) => ∃ g, x = .slice (some ⟨g, 0, none⟩) 2 2 ∧ Ints w w.heap.size (some ⟨g, 0, none⟩) [np, nq]))] rfl rfl (fun oq hop _ wq hQS => ?_) ?_
                      · refine StepFrom.more_eq ((.bool false : Value)) ?_
                        refine StepFrom.more_eq ((.agg #[.slice Bx 2 dx] : Value)) ?_
                        refine StepFrom.more fun x196 h196 => ?_
                        obtain ⟨g196, rfl, hl196⟩ := h196
                        exact StepFrom.call hop (vs := [(.agg #[.slice Bx 2 dx] : Value), (.slice (some ⟨g196, 0, none⟩) 2 2 : Value)]) (by kernel_rfl) (fun w => enter_rvalue _ w) (by kernel_rfl) ((C197.out _ _ hl196 hQS).mono fun e w2 h => ⟨_, h.1, h.2.2, h.2.1, rfl⟩)
                      refine StepsT.cons (fun (x : Value) (_ : World) => x = (.bool false : Value)) [(175, (fun (x : Value) (_ : World) => x = (.bool false : Value))), (186, (fun (x : Value) (_ : World) => x = (.int .i64 va : Value))), (197, (fun (x : Value) (_ : World) => x = (.int .i64 va : Value)))] rfl rfl (fun oq hop _ wq hQS => ?_) ?_
                      · refine StepFrom.more_eq ((.bool false : Value)) ?_
                        refine StepFrom.more_eq ((.int .i64 va : Value)) ?_
                        refine StepFrom.more_eq ((.int .i64 va : Value)) ?_
                        exact StepFrom.bin hop (vx := (.int .i64 va : Value)) (vy := (.int .i64 va : Value)) (by kernel_rfl) (by kernel_rfl) (neq_int _ _ _ _ _) (by kernel_rfl) hQS (Below.refl _ _) (by simp)
                      refine StepsT.cons (fun (x : Value) (_ : World) => x = (.bool false : Value)) [(175, (fun (x : Value) (_ : World) => x = (.bool false : Value))), (198, (fun (x : Value) (_ : World) => x = (.bool false : Value)))] rfl rfl (fun oq hop _ wq hQS => ?_) ?_
                      · refine StepFrom.more_eq ((.bool false : Value)) ?_
                        refine StepFrom.more_eq ((.bool false : Value)) ?_
                        exact StepFrom.pick hop (b := false) (vx := (Value.bool true : Value)) (vy := (.bool false : Value)) (by kernel_rfl) (by kernel_rfl) (by kernel_rfl) (by kernel_rfl) hQS (Below.refl _ _) rfl
                      exact StepsT.nil
                    case hfin =>
                      intro wf hFS
                      refine FinalFrom.more fun x157 h157 => ?_
                      refine FinalFrom.more fun x158 h158 => ?_
                      refine FinalFrom.more fun x159 h159 => ?_
                      refine FinalFrom.more fun x160 h160 => ?_
                      refine FinalFrom.more fun x161 h161 => ?_
                      refine FinalFrom.more fun x162 h162 => ?_
                      refine FinalFrom.more fun x163 h163 => ?_
                      refine FinalFrom.more fun x164 h164 => ?_
                      refine FinalFrom.more fun x165 h165 => ?_
                      refine FinalFrom.more fun x166 h166 => ?_
                      refine FinalFrom.more fun x167 h167 => ?_
                      refine FinalFrom.more fun x168 h168 => ?_
                      refine FinalFrom.more fun x169 h169 => ?_
                      refine FinalFrom.more fun x170 h170 => ?_
                      refine FinalFrom.more fun x171 h171 => ?_
                      refine FinalFrom.more fun x172 h172 => ?_
                      refine FinalFrom.more fun x173 h173 => ?_
                      refine FinalFrom.more fun x174 h174 => ?_
                      refine FinalFrom.more fun x175 h175 => ?_
                      refine FinalFrom.more fun x176 h176 => ?_
                      refine FinalFrom.more fun x177 h177 => ?_
                      refine FinalFrom.more fun x178 h178 => ?_
                      refine FinalFrom.more fun x179 h179 => ?_
                      refine FinalFrom.more fun x180 h180 => ?_
                      refine FinalFrom.more fun x181 h181 => ?_
                      refine FinalFrom.more fun x182 h182 => ?_
                      refine FinalFrom.more fun x183 h183 => ?_
                      refine FinalFrom.more fun x184 h184 => ?_
                      refine FinalFrom.more fun x185 h185 => ?_
                      refine FinalFrom.more fun x186 h186 => ?_
                      refine FinalFrom.more fun x187 h187 => ?_
                      refine FinalFrom.more fun x188 h188 => ?_
                      refine FinalFrom.more fun x189 h189 => ?_
                      refine FinalFrom.more fun x190 h190 => ?_
                      refine FinalFrom.more fun x191 h191 => ?_
                      refine FinalFrom.more fun x192 h192 => ?_
                      refine FinalFrom.more fun x193 h193 => ?_
                      refine FinalFrom.more fun x194 h194 => ?_
                      refine FinalFrom.more fun x195 h195 => ?_
                      refine FinalFrom.more fun x196 h196 => ?_
                      refine FinalFrom.more fun x197 h197 => ?_
                      refine FinalFrom.more fun x198 h198 => ?_
                      refine FinalFrom.more fun x199 h199 => ?_
                      refine FinalFrom.done ?_
                      obtain rfl : x199 = (.bool false : Value) := h199
                      simp only [Act.put, List.setIfInBounds_toArray, List.set_cons_zero, List.set_cons_succ]
                      have HF : Hid (Below w7.heap.size w7 wf) := HBZ.out.trans (hFS.1.mono (by omega))
                      clear hS C163 C172 C186 C197 hFS
                      go_wp2
                      go_roundw
                      case rel => exact ⟨ib + 1, by omega, by go_num, HF.out⟩
                      case measure => simp [intOf]; omega
                · obtain rfl : ib = 11 := by omega
                  have HF := Lib.hid hb
                  clear hb
                  go_wp2
                  go_roundw
                  case rel => exact ⟨ia + 1, by omega, by go_num, HF.out⟩
                  case measure => simp [intOf]; omega
            · have hia11 : 0 ≤ ia := Nat.zero_le _
              have HBK : Hid (Below w.heap.size w wr) := HW7.out.trans (hb.mono (by omega))
              clear hb HW7 HC
              have hwz : w.heap.size ≤ wr.heap.size := by omega
              have X0 := Lib.hid (heap_alloc_new wr (.cells #[.slice none 0 0] 25))
              have hz8 : wr.heap.size < (wr.alloc (.cells #[.slice none 0 0] 25)).heap.size := by simp
              have HB8 : Hid (Below w.heap.size w (wr.alloc (.cells #[.slice none 0 0] 25))) := HBK.out.trans (((Below.refl _ _).alloc (Nat.le_refl _) _ : Below wr.heap.size wr _).mono hwz)
              go_wp2
              obtain ⟨w8, hw8⟩ : ∃ w8, wr.alloc (.cells #[.slice none 0 0] 25) = w8 := ⟨_, rfl⟩
              rw [hw8] at X0 hz8 HB8 ⊢
              obtain ⟨gz, hgz⟩ : ∃ g, wr.heap.size = g := ⟨_, rfl⟩
              rw [hgz] at X0 hz8 hwz ⊢
              clear hw8 HBK
              go_loopw [11] (fun i wr => ∃ (n : Nat) (lv : Value) (ps : List (Int × Int)), n ≤ 12 ∧ ps.length = n ∧ i = .int .i64 (n : Int) ∧ LoopW w8 wr gz lv n ps) (fun i _ => 12 - (intOf i).toNat)
              case atStart => exact ⟨0, _, [], by omega, rfl, rfl, World.grownBy.refl _ _, X0.out, ⟨rfl, Or.inl ⟨rfl, rfl⟩⟩⟩
              case round =>
                obtain ⟨n, lv, ps, hn, hpl, rfl, hw⟩ := hrel
                have hwsz := hw.grown.size
                by_cases hlt7 : n < 12
                · obtain ⟨A, n0, c, rfl⟩ := own_slice hw.row
                  have hrow := hw.row
                  rw [← hpl] at hrow
                  obtain ⟨hn0, hlev, hcz⟩ := own_lev hrow
                  obtain rfl : n = n0 := (hn0.trans hpl).symm
                  have LA := Lib.hid (show LAt wr A n c ps from ⟨hpl.symm, hlev, hcz⟩)
                  have hcell := cell_of_one hw.cell
                  have HW := Lib.hid hw
                  have HPL := Lib.hid hpl
                  have COF : Hid (∀ gi w', Ints w' w'.heap.size (some ⟨gi, 0, none⟩) [1, 0] → BoxL wr [(gz, .slice A n c)] w' → Calls Try.prog 6 #[.slice (some ⟨gi, 0, none⟩) 2 2] w' fun e w'' => ∃ A2 c2, e = .returned (.agg #[.slice A2 1 c2]) ∧ LAt w'' A2 1 c2 [(1, 0)] ∧ Below w'.heap.size w' w'' ∧ BoxL wr [(gz, .slice A n c)] w'') := fun gi w' hi hx => by
                    refine (of_any (some ⟨gi, 0, none⟩) [1, 0] 2 w' (by unfold Few; simp) hi).mono fun _ _ h => ?_
                    obtain ⟨A2, c2, h1, h2, h3⟩ := h.lout
                    exact ⟨A2, c2, h1, h2, h3, hx.step h3⟩
                  have C208 : Hid (∀ (A2 : Option Addr) c2 w', LAt w' A2 1 c2 [(1, 0)] → BoxL wr [(gz, .slice A n c)] w' → Calls Try.prog 7 #[.agg #[.slice A n c], .agg #[.slice A2 1 c2], .int .i64 (n : Int)] w' fun e w'' => e = .returned (.bool true) ∧ Below w'.heap.size w' w'' ∧ BoxL wr [(gz, .slice A n c)] w'') := fun A2 c2 w' hl hx => by
                    obtain ⟨_, a1, a2⟩ := LA.out.step hx.1
                    obtain ⟨_, b1, b2⟩ := hl
                    have h := one_any A A2 ps [(1, 0)] c c2 (n : Int) w' (by rw [HPL.out]; omega) (by simp) a1 a2 b1 b2
                    rw [HPL.out] at h
                    exact h.mono fun _ _ h => ⟨h.1, h.2, hx.step h.2⟩
                  have C213 : Hid (∀ w', BoxL wr [(gz, .slice A n c)] w' → Calls Try.prog 7 #[.agg #[.slice A n c], .agg #[.slice A n c], .int .i64 20] w' fun e w'' => e = .returned (.bool true) ∧ Below w'.heap.size w' w'' ∧ BoxL wr [(gz, .slice A n c)] w'') := fun w' hx => by
                    obtain ⟨_, a1, a2⟩ := LA.out.step hx.1
                    have h := one_any A A ps ps c c 20 w' (by rw [HPL.out]; omega) (by rw [HPL.out]; omega) a1 a2 a1 a2
                    rw [HPL.out] at h
                    exact h.mono fun _ _ h => ⟨h.1, h.2, hx.step h.2⟩
                  have hS : BoxL wr [(gz, .slice A n c)] wr.drew := BoxL.drew (by simp only [List.mem_cons, List.not_mem_nil, or_false, forall_eq]; exact hcell)
                  clear hw hrow hlev hcz hcell hn0 hpl
                  go_upto_region 29 with (fail)
                  refine wp_region_tab (fun w' => BoxL wr [(gz, .slice A n c)] w') (fun w1 w2 : World => Below w1.heap.size w1 w2) [(fun (x : Value) (_ : World) => x = (.agg #[.slice A n c] : Value)), (fun (x : Value) (w : World) => ∃ g, x = .slice (some ⟨g, 0, none⟩) 2 2 ∧ Ints w w.heap.size (some ⟨g, 0, none⟩) [1, 0]), (fun (x : Value) (w : World) => ∃ A c, x = .agg #[.slice A 1 c] ∧ LAt w A 1 c [(1, 0)]), (fun (x : Value) (_ : World) => x = (.int .i64 (n : Int) : Value)), (fun (x : Value) (_ : World) => x = (.bool true : Value)), (fun (x : Value) (_ : World) => x = (.bool false : Value)), (fun (x : Value) (_ : World) => x = (.bool false : Value)), (fun (x : Value) (_ : World) => x = (.agg #[.slice A n c] : Value)), (fun (x : Value) (_ : World) => x = (.agg #[.slice A n c] : Value)), (fun (x : Value) (_ : World) => x = (.bool true : Value)), (fun (x : Value) (_ : World) => x = (.bool false : Value)), (fun (x : Value) (_ : World) => x = (.bool false : Value))] [⟨some 204, .load 25 (.tmp 10), none, []⟩, ⟨some 205, .buildSlice 31 2 #[(0, .const (.int .i64 1)), (1, .const (.int .i64 0))], none, []⟩, ⟨some 206, .call { callee := .value (.func 6), args := #[.tmp 205], argTypes := #[31] }, none, [(205, 1)]⟩, ⟨some 207, .move (.tmp 11), none, []⟩, ⟨some 208, .call { callee := .value (.func 7), args := #[.tmp 204, .tmp 206, .tmp 207], argTypes := #[25, 25, 3] }, none, [(204, 0), (206, 2), (207, 3)]⟩, ⟨some 209, .unOp .not 4 (.tmp 208), none, [(208, 4)]⟩, ⟨some 210, .move (.tmp 209), none, [(209, 5)]⟩, ⟨some 211, .load 25 (.tmp 10), some (some 210, false), [(210, 6)]⟩, ⟨some 212, .load 25 (.tmp 10), some (some 210, false), [(210, 6)]⟩, ⟨some 213, .call { callee := .value (.func 7), args := #[.tmp 211, .tmp 212, .const (.int .i64 20)], argTypes := #[25, 25, 3] }, some (some 210, false), [(210, 6), (211, 7), (212, 8)]⟩, ⟨some 214, .unOp .not 4 (.tmp 213), some (some 210, false), [(210, 6), (213, 9)]⟩, ⟨some 215, .pick (.tmp 210) (.const (Value.bool true)) (.tmp 214), none, [(210, 6), (214, 10)]⟩] [some 204, some 205, some 206, some 207, some 208, some 209, some 210, some 211, some 212, some 213, some 214, some 215] (by kernel_rfl) (by kernel_rfl) (by kernel_rfl) (by kernel_rfl) (by kernel_rfl) ?hS ?hmono ?hsteps ?hfin
                  case hS => exact hS
                  case hmono =>
                    refine MonoL.cons (fun x w1 w2 _ _ _ hx => hx) ?_
                    refine MonoL.cons (fun x w1 w2 _ _ hR hx => ?_) ?_
                    · obtain ⟨g, h1, h2⟩ := hx; exact ⟨g, h1, (h2.below hR).more hR.size⟩
                    refine MonoL.cons (fun x w1 w2 _ _ hR hx => ?_) ?_
                    · obtain ⟨A, c, rfl, h⟩ := hx; exact ⟨A, c, rfl, h.step hR⟩
                    refine MonoL.cons (fun x w1 w2 _ _ _ hx => hx) ?_
                    refine MonoL.cons (fun x w1 w2 _ _ _ hx => hx) ?_
                    refine MonoL.cons (fun x w1 w2 _ _ _ hx => hx) ?_
                    refine MonoL.cons (fun x w1 w2 _ _ _ hx => hx) ?_
                    refine MonoL.cons (fun x w1 w2 _ _ _ hx => hx) ?_
                    refine MonoL.cons (fun x w1 w2 _ _ _ hx => hx) ?_
                    refine MonoL.cons (fun x w1 w2 _ _ _ hx => hx) ?_
                    refine MonoL.cons (fun x w1 w2 _ _ _ hx => hx) ?_
                    refine MonoL.cons (fun x w1 w2 _ _ _ hx => hx) ?_
                    exact MonoL.nil
                  case hsteps =>
                    refine StepsT.cons (fun (x : Value) (_ : World) => x = (.agg #[.slice A n c] : Value)) [] rfl rfl (fun oq hop _ wq hQS => ?_) ?_
                    · skip
                      exact StepFrom.load hop (by kernel_rfl) (load_level (hQS.2 (gz, .slice A n c) (by simp))) (by kernel_rfl) hQS (Below.refl _ _) rfl
                    refine StepsT.cons (fun (x : Value) (w : World) => ∃ g, x = .slice (some ⟨g, 0, none⟩) 2 2 ∧ Ints w w.heap.size (some ⟨g, 0, none⟩) [1, 0]) [] rfl rfl (fun oq hop _ wq hQS => ?_) ?_
                    · exact StepFrom.slice hop (vs := [(0, .int .i64 1), (1, .int .i64 0)]) (by kernel_rfl) (slice_ints _ _) (by kernel_rfl) (hQS.step ((Below.refl _ _).alloc (Nat.le_refl _) _)) ((Below.refl _ _).alloc (Nat.le_refl _) _) ⟨_, rfl, ints_two _ _ _ _⟩
                    refine StepsT.cons (fun (x : Value) (w : World) => ∃ A c, x = .agg #[.slice A 1 c] ∧ LAt w A 1 c [(1, 0)]) [(205, (fun (x : Value) (w : World) => ∃ g, x = .slice (some ⟨g, 0, none⟩) 2 2 ∧ Ints w w.heap.size (some ⟨g, 0, none⟩) [1, 0]))] rfl rfl (fun oq hop _ wq hQS => ?_) ?_
                    · refine StepFrom.more fun x205 h205 => ?_
                      obtain ⟨g205, rfl, hl205⟩ := h205
                      exact StepFrom.call hop (vs := [(.slice (some ⟨g205, 0, none⟩) 2 2 : Value)]) (by kernel_rfl) (fun w => enter_of _ w) (by kernel_rfl) ((COF.out _ _ hl205 hQS).mono fun e w2 ⟨A, c, h1, h2, h3, h4⟩ => ⟨_, h1, h4, h3, A, c, rfl, h2⟩)
                    refine StepsT.cons (fun (x : Value) (_ : World) => x = (.int .i64 (n : Int) : Value)) [] rfl rfl (fun oq hop _ wq hQS => ?_) ?_
                    · exact StepFrom.move hop (v := (.int .i64 (n : Int) : Value)) (by kernel_rfl) (by kernel_rfl) hQS (Below.refl _ _) rfl
                    refine StepsT.cons (fun (x : Value) (_ : World) => x = (.bool true : Value)) [(204, (fun (x : Value) (_ : World) => x = (.agg #[.slice A n c] : Value))), (206, (fun (x : Value) (w : World) => ∃ A c, x = .agg #[.slice A 1 c] ∧ LAt w A 1 c [(1, 0)])), (207, (fun (x : Value) (_ : World) => x = (.int .i64 (n : Int) : Value)))] rfl rfl (fun oq hop _ wq hQS => ?_) ?_
                    · refine StepFrom.more_eq ((.agg #[.slice A n c] : Value)) ?_
                      refine StepFrom.more fun x206 h206 => ?_
                      obtain ⟨A206, c206, rfl, hl206⟩ := h206
                      refine StepFrom.more_eq ((.int .i64 (n : Int) : Value)) ?_
                      exact StepFrom.call hop (vs := [(.agg #[.slice A n c] : Value), (.agg #[.slice A206 1 c206] : Value), (.int .i64 (n : Int) : Value)]) (by kernel_rfl) (fun w => enter_one _ w) (by kernel_rfl) ((C208.out _ _ _ hl206 hQS).mono fun e w2 h => ⟨_, h.1, h.2.2, h.2.1, rfl⟩)
                    refine StepsT.cons (fun (x : Value) (_ : World) => x = (.bool false : Value)) [(208, (fun (x : Value) (_ : World) => x = (.bool true : Value)))] rfl rfl (fun oq hop _ wq hQS => ?_) ?_
                    · refine StepFrom.more_eq ((.bool true : Value)) ?_
                      exact StepFrom.not hop (b := true) (by kernel_rfl) (by kernel_rfl) hQS (Below.refl _ _) rfl
                    refine StepsT.cons (fun (x : Value) (_ : World) => x = (.bool false : Value)) [(209, (fun (x : Value) (_ : World) => x = (.bool false : Value)))] rfl rfl (fun oq hop _ wq hQS => ?_) ?_
                    · refine StepFrom.more_eq ((.bool false : Value)) ?_
                      exact StepFrom.move hop (v := (.bool false : Value)) (by kernel_rfl) (by kernel_rfl) hQS (Below.refl _ _) rfl
                    refine StepsT.cons (fun (x : Value) (_ : World) => x = (.agg #[.slice A n c] : Value)) [(210, (fun (x : Value) (_ : World) => x = (.bool false : Value)))] rfl rfl (fun oq hop _ wq hQS => ?_) ?_
                    · refine StepFrom.more_eq ((.bool false : Value)) ?_
                      skip
                      exact StepFrom.load hop (by kernel_rfl) (load_level (hQS.2 (gz, .slice A n c) (by simp))) (by kernel_rfl) hQS (Below.refl _ _) rfl
                    refine StepsT.cons (fun (x : Value) (_ : World) => x = (.agg #[.slice A n c] : Value)) [(210, (fun (x : Value) (_ : World) => x = (.bool false : Value)))] rfl rfl (fun oq hop _ wq hQS => ?_) ?_
                    · refine StepFrom.more_eq ((.bool false : Value)) ?_
                      skip
                      exact StepFrom.load hop (by kernel_rfl) (load_level (hQS.2 (gz, .slice A n c) (by simp))) (by kernel_rfl) hQS (Below.refl _ _) rfl
                    refine StepsT.cons (fun (x : Value) (_ : World) => x = (.bool true : Value)) [(210, (fun (x : Value) (_ : World) => x = (.bool false : Value))), (211, (fun (x : Value) (_ : World) => x = (.agg #[.slice A n c] : Value))), (212, (fun (x : Value) (_ : World) => x = (.agg #[.slice A n c] : Value)))] rfl rfl (fun oq hop _ wq hQS => ?_) ?_
                    · refine StepFrom.more_eq ((.bool false : Value)) ?_
                      refine StepFrom.more_eq ((.agg #[.slice A n c] : Value)) ?_
                      refine StepFrom.more_eq ((.agg #[.slice A n c] : Value)) ?_
                      exact StepFrom.call hop (vs := [(.agg #[.slice A n c] : Value), (.agg #[.slice A n c] : Value), (.int .i64 20 : Value)]) (by kernel_rfl) (fun w => enter_one _ w) (by kernel_rfl) ((C213.out _ hQS).mono fun e w2 h => ⟨_, h.1, h.2.2, h.2.1, rfl⟩)
                    refine StepsT.cons (fun (x : Value) (_ : World) => x = (.bool false : Value)) [(210, (fun (x : Value) (_ : World) => x = (.bool false : Value))), (213, (fun (x : Value) (_ : World) => x = (.bool true : Value)))] rfl rfl (fun oq hop _ wq hQS => ?_) ?_
                    · refine StepFrom.more_eq ((.bool false : Value)) ?_
                      refine StepFrom.more_eq ((.bool true : Value)) ?_
                      exact StepFrom.not hop (b := true) (by kernel_rfl) (by kernel_rfl) hQS (Below.refl _ _) rfl
                    refine StepsT.cons (fun (x : Value) (_ : World) => x = (.bool false : Value)) [(210, (fun (x : Value) (_ : World) => x = (.bool false : Value))), (214, (fun (x : Value) (_ : World) => x = (.bool false : Value)))] rfl rfl (fun oq hop _ wq hQS => ?_) ?_
                    · refine StepFrom.more_eq ((.bool false : Value)) ?_
                      refine StepFrom.more_eq ((.bool false : Value)) ?_
                      exact StepFrom.pick hop (b := false) (vx := (Value.bool true : Value)) (vy := (.bool false : Value)) (by kernel_rfl) (by kernel_rfl) (by kernel_rfl) (by kernel_rfl) hQS (Below.refl _ _) rfl
                    exact StepsT.nil
                  case hfin =>
                    intro wf hFS
                    refine FinalFrom.more fun x204 h204 => ?_
                    refine FinalFrom.more fun x205 h205 => ?_
                    refine FinalFrom.more fun x206 h206 => ?_
                    refine FinalFrom.more fun x207 h207 => ?_
                    refine FinalFrom.more fun x208 h208 => ?_
                    refine FinalFrom.more fun x209 h209 => ?_
                    refine FinalFrom.more fun x210 h210 => ?_
                    refine FinalFrom.more fun x211 h211 => ?_
                    refine FinalFrom.more fun x212 h212 => ?_
                    refine FinalFrom.more fun x213 h213 => ?_
                    refine FinalFrom.more fun x214 h214 => ?_
                    refine FinalFrom.more fun x215 h215 => ?_
                    refine FinalFrom.done ?_
                    obtain rfl : x215 = (.bool false : Value) := h215
                    simp only [Act.put, List.setIfInBounds_toArray, List.set_cons_zero, List.set_cons_succ]
                    have hw4 := HW.out.keep hz8 hFS.1
                    have hk4 := hFS.2 (gz, .slice A n c) (by simp)
                    have hs4 := hFS.1.size
                    have hb5 : Below wf.heap.size wf (wf.alloc (.cells #[.int .i64 (n : Int), .int .i64 (n : Int)] 33)) := (Below.refl _ _).alloc (Nat.le_refl _) _
                    have HR5 := Lib.hid (own_kept hw4.row hb5)
                    have HW4 := Lib.hid hw4
                    have HNW := Lib.hid (heap_alloc_new wf (.cells #[.int .i64 (n : Int), .int .i64 (n : Int)] 33))
                    have hg4 : gz < wf.heap.size := by omega
                    clear hS COF C208 C213 hFS hw4 HW hb5
                    go_wp2_with (at_builtin; refine wpList_append_own _ rfl _ _ 23 rfl w8.heap.size 33 i1 _ 2 16 Try.underlying23 ji jz0 jz1 jz2 rfl (by decide) _ n (cells ps) rfl HR5.out ⟨wf.heap.size, 0, none⟩ 1 1 [.int .i64 (n : Int), .int .i64 (n : Int)] rfl rfl (World.news_of_block (cs := #[.int .i64 (n : Int), .int .i64 (n : Int)]) (t := 33) (fr := (0, 0)) HNW.out) (by simp [Value.oneCell']) ?c1 ?c2 ?c3 ?_)
                    case c1 => unfold maxLen; omega
                    case c2 => omega
                    case c3 => first | omega | (simp; omega)
                    intro v w3 ho hg _
                    obtain ⟨gg, cap, rfl, _, _⟩ := ho.form (by omega)
                    obtain ⟨l1, l2, _⟩ := loop_app (news := [((n : Int), (n : Int))]) HW4.out hz8 ((Below.refl _ _).alloc (Nat.le_refl _) _) ho hg
                    have f8 := cell_of_one l1
                    have f9 := free_of_one l1
                    have HF := Lib.hid l2
                    clear l1 l2 ho hg HW4 HR5 HNW
                    go_wp2
                    go_roundw
                    case rel => exact ⟨n + 1, _, _, by omega, by rw [List.length_append, HPL.out]; rfl, by go_num, HF.out⟩
                    case measure => simp [intOf]; omega
                · obtain rfl : n = 12 := by omega
                  have hbb : Below w.heap.size w wr := by
                    refine ⟨hw.grown.os.trans HB8.out.os, hw.grown.tape.trans HB8.out.tape, hw.grown.output.trans HB8.out.output, by omega, fun i hi => (hw.grown.block i (by omega) (fun e => ?_)).trans (HB8.out.block i hi)⟩
                    injection e with e
                    omega
                  have HBB := Lib.hid hbb
                  clear hbb hw
                  go_wp2_with (fail)
                  refine (awake_any _).mono ?_
                  rintro e w9 ⟨rfl, hb9⟩
                  have HF : Hid (HasPost w true (.returned (.bool true)) w9) := ⟨rfl, HBB.out.trans (hb9.mono (by omega))⟩
                  clear hb9
                  go_wp2
                  go_ret
                  exact HF.out
end Go.Proofs.Ytldalfikpklfdaa
