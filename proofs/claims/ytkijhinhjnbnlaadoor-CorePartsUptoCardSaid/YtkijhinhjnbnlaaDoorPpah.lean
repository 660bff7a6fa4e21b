/- Laws. -/
import Derived.Test.YtkijhinhjnbnlaaDoorPpag
import Derived.StillTailTactics
namespace Go.Proofs.YtkijhinhjnbnlaaDoor
open Go.RowKit Go.Maps
set_option maxRecDepth 100000 in
set_option maxHeartbeats 1000000 in
theorem variable_any (outer n : Int) (d : Nat) (A : Option Addr) (nc cc m : Nat) (k num pos : Int) (A1 : Option Addr) (p1 c1 : Nat) (A2 : Option Addr) (p2 c2 : Nat) (w : World) (hd : d ≤ 1073741824) (hn : Rng num) : Calls Tryd.prog 36 #[WK outer (d : Int) n A nc cc m, .agg #[.int .i64 k, .int .i64 num, .int .i64 pos, .slice A1 p1 c1, .slice A2 p2 c2]] w (MustPost w 6 (decide (pos = 0) && decide (p1 = 0) && decide (p2 = 0) && (decide (0 ≤ num) && decide (num - d < outer)))) := by
  obtain ⟨r, hr⟩ : ∃ r, (decide (pos = 0) && decide (p1 = 0) && decide (p2 = 0) && (decide (0 ≤ num) && decide (num - d < outer))) = r := ⟨_, rfl⟩
  rw [hr]
  have HB := Lib.hid (two_below w (.cells #[.int .i64 outer, .int .i64 (d : Int), .int .i64 n, .slice A nc cc, .map (some m)] 55) (.cells #[.int .i64 k, .int .i64 num, .int .i64 pos, .slice A1 p1 c1, .slice A2 p2 c2] 27))
  unfold WK
  by_cases h0 : pos = 0
  · subst h0
    by_cases h1 : p1 = 0
    · subst h1
      by_cases h2 : p2 = 0
      · subst h2
        have HH := Lib.hid (has_any outer num d ((w.alloc (.cells #[.int .i64 outer, .int .i64 (d : Int), .int .i64 n, .slice A nc cc, .map (some m)] 55)).alloc (.cells #[.int .i64 k, .int .i64 num, .int .i64 0, .slice A1 0 c1, .slice A2 0 c2] 27)) hd hn)
        have hr2 : (decide (0 ≤ num) && decide (num - d < outer)) = r := by rw [← hr]; simp
        rw [hr2] at HH
        clear hr hr2 hd hn
        go_enter Tryd.func36, Tryd.ntmps36
        go_wp2_with (fail)
        refine HH.out.mono ?_
        rintro e w1 ⟨rfl, hb1⟩
        have HB1 := Lib.hid (HB.out.trans (hb1.mono HB.out.size))
        clear hb1 HH
        go_wp2_with (fail)
        refine (must_any r _).mono ?_
        rintro e w2 h
        cases r with
        | true =>
          obtain ⟨rfl, hb⟩ := h.1 rfl
          have HF := Lib.hid (HB1.out.trans (hb.mono HB1.out.size))
          clear h hb
          go_wp2
          go_end0
          exact MustPost.yes rfl HF.out
        | false =>
          obtain ⟨rfl, hb⟩ := h.2 rfl
          have HF := Lib.hid (HB1.out.trans (hb.mono HB1.out.size))
          clear h hb
          go_wp2
          exact ⟨rfl, MustPost.no ⟨rfl, HF.out⟩⟩
      · have e2 : ((p2 : Int) == 0) = false := by simpa using (by omega : ¬ (p2 : Int) = 0)
        clear hd hn
        have hr2 : r = false := by rw [← hr]; simp_all <;> omega
        subst hr2
        clear hr
        go_enter Tryd.func36, Tryd.ntmps36
        go_wp2_with (fail)
        refine (must_any false _).mono ?_
        rintro e w2 h
        obtain ⟨rfl, hb⟩ := h.2 rfl
        have HF := Lib.hid (HB.out.trans (hb.mono HB.out.size))
        clear h hb
        go_wp2
        exact ⟨rfl, MustPost.no ⟨rfl, HF.out⟩⟩
    · have e1 : ((p1 : Int) == 0) = false := by simpa using (by omega : ¬ (p1 : Int) = 0)
      clear hd hn
      have hr2 : r = false := by rw [← hr]; simp_all <;> omega
      subst hr2
      clear hr
      go_enter Tryd.func36, Tryd.ntmps36
      go_wp2_with (fail)
      refine (must_any false _).mono ?_
      rintro e w2 h
      obtain ⟨rfl, hb⟩ := h.2 rfl
      have HF := Lib.hid (HB.out.trans (hb.mono HB.out.size))
      clear h hb
      go_wp2
      exact ⟨rfl, MustPost.no ⟨rfl, HF.out⟩⟩
  · have e0 : (pos == 0) = false := by simpa using h0
    clear hd hn
    have hr2 : r = false := by rw [← hr]; simp_all <;> omega
    subst hr2
    clear hr
    go_enter Tryd.func36, Tryd.ntmps36
    go_wp2_with (fail)
    refine (must_any false _).mono ?_
    rintro e w2 h
    obtain ⟨rfl, hb⟩ := h.2 rfl
    have HF := Lib.hid (HB.out.trans (hb.mono HB.out.size))
    clear h hb
    go_wp2
    exact ⟨rfl, MustPost.no ⟨rfl, HF.out⟩⟩
/-- is a level right? -/
noncomputable def rlB (ps : List (Int × Int)) (n : Int) : Bool := by classical exact decide (RightS ps n)
theorem rlB_iff (ps : List (Int × Int)) (n : Int) : rlB ps n = true ↔ RightS ps n := by unfold rlB; simp
set_option maxRecDepth 100000 in
set_option maxHeartbeats 1000000 in
theorem sort_any (outer n : Int) (d : Nat) (A : Option Addr) (nc cc m : Nat) (k num pos : Int) (A1 : Option Addr) (p1 c1 : Nat) (A2 : Option Addr) (p2 c2 : Nat) (w : World) (lv : List (List (Int × Int))) (hnl : lv.length = p1) (hl : Levs w w.heap.size A1 lv) (h6 : ∀ l ∈ lv, l.length ≤ 1000000) : Calls Tryd.prog 37 #[WK outer (d : Int) n A nc cc m, .agg #[.int .i64 k, .int .i64 num, .int .i64 pos, .slice A1 p1 c1, .slice A2 p2 c2]] w (MustPost w 6 (decide (num = 0) && decide (pos = 0) && decide (p1 = 1) && decide (p2 = 0) && rlB (lv.getD 0 []) n)) := by
  obtain ⟨r, hr⟩ : ∃ r, (decide (num = 0) && decide (pos = 0) && decide (p1 = 1) && decide (p2 = 0) && rlB (lv.getD 0 []) n) = r := ⟨_, rfl⟩
  rw [hr]
  have HB := Lib.hid (two_below w (.cells #[.int .i64 outer, .int .i64 (d : Int), .int .i64 n, .slice A nc cc, .map (some m)] 55) (.cells #[.int .i64 k, .int .i64 num, .int .i64 pos, .slice A1 p1 c1, .slice A2 p2 c2] 27))
  have HN := Lib.hid hnl
  have HL := Lib.hid hl
  have H6 := Lib.hid h6
  clear hnl hl h6
  unfold WK
  by_cases h0 : num = 0
  · subst h0
    by_cases h1 : pos = 0
    · subst h1
      by_cases h2 : p1 = 1
      · subst h2
        by_cases h3 : p2 = 0
        · subst h3
          go_enter Tryd.func37, Tryd.ntmps37
          go_wp2_with (fail)
          refine (must_any true _).mono ?_
          rintro e w2 h
          obtain ⟨rfl, hb⟩ := h.1 rfl
          have HB2 := Lib.hid (HB.out.trans (hb.mono HB.out.size))
          obtain ⟨b, o, rfl, hbB, hc⟩ := HL.out (by have := HN.out; omega)
          have hlv := hc 0 (by have := HN.out; omega)
          obtain ⟨Ai, ci, q1, q2, _, q4⟩ := hlv
          obtain ⟨ps, hps⟩ : ∃ ps, lv.getD 0 [] = ps := ⟨_, rfl⟩
          rw [hps] at q1 q2 q4
          have hx := hb.block (w.heap.size) (by simp; omega)
          have hy := hb.block (w.heap.size + 1) (by simp)
          obtain ⟨z1, z2, _⟩ := two_allocs w (.cells #[.int .i64 outer, .int .i64 (d : Int), .int .i64 n, .slice A nc cc, .map (some m)] 55) (.cells #[.int .i64 k, .int .i64 0, .int .i64 0, .slice (some ⟨b, o, none⟩) 1 c1, .slice A2 0 c2] 27)
          have y2 := cell_of_row _ _ 2 _ _ (0, 0) (hx.trans z1)
          have y3 := cell_of_row _ _ 3 _ _ (0, 0) (hy.trans z2)
          have q1 := (HB2.out.cell (p := ⟨b, o, none⟩) hbB).trans q1
          have q2 := (q2.below HB2.out).more HB2.out.size
          have HR : Hid (∀ W, Below w2.heap.size w2 W → Calls Tryd.prog 11 #[.agg #[.slice Ai ps.length ci], .int .i64 n] W (HasPost W r)) := fun W hW => right_any Ai ps ci n W (by unfold maxLen; omega) ((q2.below hW).more hW.size) r (by rw [← hr, ← hps]; simp [rlB_iff])
          have hdr : Below w2.heap.size w2 w2.drew := (Below.refl _ _).drew
          have HDR := Lib.hid hdr
          clear h hb hx hy z1 z2 hc q2 q4 hr hps hdr
          go_wp2_with (fail)
          go_still_tail 6, (by kernel_rfl)
          change wpList _ _ _ _ _ w2.drew
          generalize w2.drew = w3 at HDR ⊢
          have HR3 := Lib.hid (HR.out w3 HDR.out)
          have HB3 := Lib.hid (HB2.out.trans (HDR.out.mono HB2.out.size))
          clear HR HDR y2 y3 q1
          go_wp2_with (fail)
          refine HR3.out.mono ?_
          rintro e w4 ⟨rfl, hb4⟩
          have HB4 := Lib.hid (HB3.out.trans (hb4.mono HB3.out.size))
          clear hb4 HR3
          go_wp2_with (fail)
          refine (must_any r _).mono ?_
          rintro e w5 h
          cases r with
          | true =>
            obtain ⟨rfl, hb⟩ := h.1 rfl
            have HF := Lib.hid (HB4.out.trans (hb.mono HB4.out.size))
            clear h hb
            go_wp2
            go_end0
            exact MustPost.yes rfl HF.out
          | false =>
            obtain ⟨rfl, hb⟩ := h.2 rfl
            have HF := Lib.hid (HB4.out.trans (hb.mono HB4.out.size))
            clear h hb
            go_wp2
            exact ⟨rfl, MustPost.no ⟨rfl, HF.out⟩⟩
        · have e3 : ((p2 : Int) == 0) = false := by simpa using (by omega : ¬ (p2 : Int) = 0)
          have hr2 : r = false := by rw [← hr]; simp_all <;> omega
          subst hr2
          clear hr
          go_enter Tryd.func37, Tryd.ntmps37
          go_wp2_with (fail)
          refine (must_any false _).mono ?_
          rintro e w2 h
          obtain ⟨rfl, hb⟩ := h.2 rfl
          have HF := Lib.hid (HB.out.trans (hb.mono HB.out.size))
          clear h hb
          go_wp2
          exact ⟨rfl, MustPost.no ⟨rfl, HF.out⟩⟩
      · have e2 : ((p1 : Int) == 1) = false := by simpa using (by omega : ¬ (p1 : Int) = 1)
        have hr2 : r = false := by rw [← hr]; simp_all <;> omega
        subst hr2
        clear hr
        go_enter Tryd.func37, Tryd.ntmps37
        go_wp2_with (fail)
        refine (must_any false _).mono ?_
        rintro e w2 h
        obtain ⟨rfl, hb⟩ := h.2 rfl
        have HF := Lib.hid (HB.out.trans (hb.mono HB.out.size))
        clear h hb
        go_wp2
        exact ⟨rfl, MustPost.no ⟨rfl, HF.out⟩⟩
    · have e1 : (pos == 0) = false := by simpa using h1
      have hr2 : r = false := by rw [← hr]; simp_all <;> omega
      subst hr2
      clear hr
      go_enter Tryd.func37, Tryd.ntmps37
      go_wp2_with (fail)
      refine (must_any false _).mono ?_
      rintro e w2 h
      obtain ⟨rfl, hb⟩ := h.2 rfl
      have HF := Lib.hid (HB.out.trans (hb.mono HB.out.size))
      clear h hb
      go_wp2
      exact ⟨rfl, MustPost.no ⟨rfl, HF.out⟩⟩
  · have e0 : (num == 0) = false := by simpa using h0
    have hr2 : r = false := by rw [← hr]; simp_all <;> omega
    subst hr2
    clear hr
    go_enter Tryd.func37, Tryd.ntmps37
    go_wp2_with (fail)
    refine (must_any false _).mono ?_
    rintro e w2 h
    obtain ⟨rfl, hb⟩ := h.2 rfl
    have HF := Lib.hid (HB.out.trans (hb.mono HB.out.size))
    clear h hb
    go_wp2
    exact ⟨rfl, MustPost.no ⟨rfl, HF.out⟩⟩
end Go.Proofs.YtkijhinhjnbnlaaDoor
