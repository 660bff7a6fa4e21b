/- LevelDecides answers true of all levels and numbers, whatever they are, of at most 2^62 parts each. -/
import Derived.Test.YtldalfikpklfdaaLvMath
import Derived.Deep.RegionHeld3
import Derived.Deep.OwnRows
import Derived.Deep.Cut
import Derived.Deep.CutRange
namespace Go.Proofs.Ytldalfikpklfdaa
open Go.RowKit Go.Maps

theorem infoI : (Try.prog.info? 3).map (fun i => (i.zero, i.size, i.bytes)) = some (some (.int .i64 0), 1, 8) := by kernel_rfl
theorem row_vec (w : World) (Z : Array Value) (hZ : Z = madeCells #[.int .i64 0] 200) (t : TypeId) (k : Nat) (hk : k < 200) :
    (w.alloc (.cells Z t)).cell? ⟨w.heap.size, k, none⟩ = some (.int .i64 0) ∧ (w.alloc (.cells Z t)).frozen? ⟨w.heap.size, k, none⟩ = false ∧
    Ints (w.alloc (.cells (Z.setIfInBounds k (.int .i64 524288)) t)) (w.heap.size + 1) (some ⟨w.heap.size, 0, none⟩) (vec k) := by
  have hs : Z.size = 200 * 1 := by rw [hZ, ← Array.length_toList, toList_madeCells_one, List.length_replicate]
  have ho := World.ownsRow_lit (base := w.heap.size) (e := t) (size := 1) w Z 200 (Nat.le_refl _) (by unfold maxLen; omega) hs
  have hl : Z.toList = List.replicate 200 (.int .i64 0) := by rw [hZ, toList_madeCells_one]
  rw [hl] at ho
  refine ⟨?_, ho.frozenAt k, fun hn => ⟨_, _, rfl, by omega, fun j hj => ?_⟩⟩
  · rw [ho.cellAt k (by omega), List.getElem?_replicate, if_pos hk]
  · rw [vec_length] at hj
    have h2 := World.ownsRow_lit (base := w.heap.size) (e := t) (size := 1) w (Z.setIfInBounds k (.int .i64 524288)) 200 (Nat.le_refl _) (by unfold maxLen; omega) (by rw [Array.size_setIfInBounds, hs])
    rw [Array.toList_setIfInBounds, hl] at h2
    rw [Nat.zero_add, h2.cellAt j (by omega), vec_get k j hk hj, List.getElem?_set]
    split
    · rw [List.length_replicate, if_pos hk]
    · rw [List.getElem?_replicate, if_pos hj]

def Box (w w' : World) (A B : Option Addr) (n m c d : Nat) (g h : Nat) : Prop := Below w.heap.size w w' ∧ w'.cell? ⟨g, 0, none⟩ = some (.slice A n c) ∧ w'.cell? ⟨h, 0, none⟩ = some (.slice B m d)
theorem below_drew {B : Nat} {a w : World} (h : Below B a w) : Below B a w.drew := ⟨h.os, h.tape, h.output, h.size, h.block⟩
theorem Box.start {w : World} {A B : Option Addr} {n m c d g h : Nat} (h1 : w.cell? ⟨g, 0, none⟩ = some (.slice A n c)) (h2 : w.cell? ⟨h, 0, none⟩ = some (.slice B m d)) : Box w w A B n m c d g h := ⟨Below.refl _ _, h1, h2⟩
theorem Box.step {w w' w2 : World} {A B : Option Addr} {n m c d g h : Nat} (hx : Box w w' A B n m c d g h) (hb : Below w'.heap.size w' w2) : Box w w2 A B n m c d g h :=
  ⟨hx.1.trans (hb.mono hx.1.size), (hb.cell (cell_lt hx.2.1)).trans hx.2.1, (hb.cell (cell_lt hx.2.2)).trans hx.2.2⟩
theorem value_box (w : World) (A B : Option Addr) (n m c d g h : Nat) (A1 : Option Addr) (ps : List (Int × Int)) (n1 c1 : Nat) (A2 : Option Addr) (ns : List Int) (n2 c2 : Nat) (hn1 : n1 = ps.length) (hn2 : n2 = ns.length) (hmp : Few ps.length) (hmn : ns.length ≤ maxLen)
    (hl : Lev w w.heap.size A1 ps) (hi : Ints w w.heap.size A2 ns) (hc : A1 = none → c1 = 0) (hok : ∀ p ∈ ps, okPart p) (x : Int) (hx : valS ps ns = x) :
    ∀ w', Box w w' A B n m c d g h → Calls Try.prog 11 #[.agg #[.slice A1 n1 c1], .slice A2 n2 c2] w' fun e w'' => e = .returned (.int .i64 x) ∧ Box w w'' A B n m c d g h := fun w' hb => by
  subst hn1 hn2 hx
  exact (value_is A1 A2 ps ns c1 c2 w' hmp hmn ((hl.below hb.1).more hb.1.size) ((hi.below hb.1).more hb.1.size) hc hok).mono fun _ _ h => ⟨h.1, hb.step h.2⟩

set_option maxRecDepth 100000 in
set_option maxHeartbeats 4000000 in
theorem decides_any (Aa Ab An : Option Addr) (pa pb : List (Int × Int)) (ns : List Int) (ca cb cn : Nat) (w : World) (hpa : pa.length ≤ 4611686018427387904) (hpb : pb.length ≤ 4611686018427387904) (hmn : ns.length ≤ maxLen)
    (ha : Lev w w.heap.size Aa pa) (hca : Aa = none → ca = 0) (hb : Lev w w.heap.size Ab pb) (hcb : Ab = none → cb = 0) (hn : Ints w w.heap.size An ns) :
    Calls Try.prog 4 #[.agg #[.slice Aa pa.length ca], .agg #[.slice Ab pb.length cb], .slice An ns.length cn] w (HasPost w true) := by
  have hfd := field_parts
  obtain ⟨x1, x2, x3⟩ := two_allocs w (.cells #[.slice Aa pa.length ca] 25) (.cells #[.slice Ab pb.length cb] 25)
  have hb0 : Below w.heap.size w ((w.alloc (.cells #[.slice Aa pa.length ca] 25)).alloc (.cells #[.slice Ab pb.length cb] 25)) := ((Below.refl _ _).alloc (Nat.le_refl _) _).alloc (by simp) _
  have HB0 := Lib.hid hb0
  have X1 := Lib.hid x1
  have X2 := Lib.hid x2
  have HA := Lib.hid ha
  have HB := Lib.hid hb
  have HN := Lib.hid hn
  have CA := Lib.hid hca
  have CB := Lib.hid hcb
  have PA := Lib.hid hpa
  have PB := Lib.hid hpb
  have MN := Lib.hid hmn
  clear ha hb hn hca hcb hpa hpb hmn x1 x2 x3 hb0
  go_enter Try.func4, Try.ntmps4
  go_wp2_with (fail)
  refine (awake_any _).mono ?_
  rintro e w1 ⟨rfl, hb1⟩
  have hz1 : w.heap.size + 2 ≤ w1.heap.size := by have := hb1.size; simp at this; omega
  have f1 := cell_of_one ((hb1.block w.heap.size (by simp; omega)).trans X1.out)
  have f2 := cell_of_one ((hb1.block (w.heap.size + 1) (by simp)).trans X2.out)
  have B1 : Hid (Below w.heap.size w w1) := HB0.out.trans (hb1.mono (by simp; omega))
  have LA : Hid (Lev w1 w1.heap.size Aa pa) := (HA.out.below B1.out).more B1.out.size
  have LB : Hid (Lev w1 w1.heap.size Ab pb) := (HB.out.below B1.out).more B1.out.size
  have LN : Hid (Ints w1 w1.heap.size An ns) := (HN.out.below B1.out).more B1.out.size
  have HG := Lib.hid (great_any (some ⟨w1.heap.size, 0, none⟩) [pa, pb] 2 (w1.alloc (.cells #[.slice Aa pa.length ca, .slice Ab pb.length cb] 25)) (by unfold maxLen; simp) (levs_two LA.out CA.out LB.out CB.out PA.out PB.out _))
  clear hb1 HB0 HA HB HN X1 X2
  go_wp2_with (fail)
  refine HG.out.mono ?_
  rintro e w2 ⟨r, rfl, hr, hb2⟩
  have hb2' : Below w1.heap.size w1 w2 := ((Below.refl w1.heap.size w1).alloc (Nat.le_refl _) _).trans (hb2.mono (by simp))
  have hz2 := hb2'.size
  have g1 := (hb2'.cell (by show w.heap.size < w1.heap.size; omega)).trans f1
  have g2 := (hb2'.cell (by show w.heap.size + 1 < w1.heap.size; omega)).trans f2
  have B2 : Hid (Below w.heap.size w w2) := B1.out.trans (hb2'.mono (by omega))
  have LA2 : Hid (Lev w2 w2.heap.size Aa pa) := (LA.out.below hb2').more hz2
  have LB2 : Hid (Lev w2 w2.heap.size Ab pb) := (LB.out.below hb2').more hz2
  have LN2 : Hid (Ints w2 w2.heap.size An ns) := (LN.out.below hb2').more hz2
  clear hb2 hb2' f1 f2 B1 LA LB LN HG
  rcases r with _ | _
  · have h6 := hr rfl
    have PA6 : Hid (Few pa.length) := by have := h6.2 pa (by simp); unfold Hid Few; omega
    have PB6 : Hid (Few pb.length) := by have := h6.2 pb (by simp); unfold Hid Few; omega
    clear hr
    by_cases sa : ∀ p ∈ pa, okSmall p
    · have HSA := Lib.hid (small_any Aa pa ca w2 (by have := PA.out; unfold maxLen; omega) LA2.out true (by simpa using sa))
      have SA := Lib.hid sa
      clear sa
      go_wp2_with (fail)
      refine HSA.out.mono ?_
      rintro e w3 ⟨rfl, hb3⟩
      have hz3 := hb3.size
      have k1 := (hb3.cell (by show w.heap.size < w2.heap.size; omega)).trans g1
      have k2 := (hb3.cell (by show w.heap.size + 1 < w2.heap.size; omega)).trans g2
      have B3 : Hid (Below w.heap.size w w3) := B2.out.trans (hb3.mono (by omega))
      have LA3 : Hid (Lev w3 w3.heap.size Aa pa) := (LA2.out.below hb3).more hz3
      have LB3 : Hid (Lev w3 w3.heap.size Ab pb) := (LB2.out.below hb3).more hz3
      have LN3 : Hid (Ints w3 w3.heap.size An ns) := (LN2.out.below hb3).more hz3
      clear hb3 g1 g2 B2 LA2 LB2 LN2 HSA
      by_cases sb : ∀ p ∈ pb, okSmall p
      · have HSB := Lib.hid (small_any Ab pb cb w3 (by have := PB.out; unfold maxLen; omega) LB3.out true (by simpa using sb))
        have SB := Lib.hid sb
        clear sb
        go_wp2_with (fail)
        refine HSB.out.mono ?_
        rintro e w4 ⟨rfl, hb4⟩
        have hz4 := hb4.size
        have m1 := (hb4.cell (by show w.heap.size < w3.heap.size; omega)).trans k1
        have m2 := (hb4.cell (by show w.heap.size + 1 < w3.heap.size; omega)).trans k2
        have B4 : Hid (Below w.heap.size w w4) := B3.out.trans (hb4.mono (by omega))
        have LA4 : Hid (Lev w4 w4.heap.size Aa pa) := (LA3.out.below hb4).more hz4
        have LB4 : Hid (Lev w4 w4.heap.size Ab pb) := (LB3.out.below hb4).more hz4
        have LN4 : Hid (Ints w4 w4.heap.size An ns) := (LN3.out.below hb4).more hz4
        clear hb4 k1 k2 B3 LA3 LB3 LN3 HSB
        by_cases t : (ns.length : Int) ≤ 60
        · have HOA : Hid (∀ p ∈ pa, okPart p) := fun p hp => (SA.out p hp).ok
          have HOB : Hid (∀ p ∈ pb, okPart p) := fun p hp => (SB.out p hp).ok
          by_cases L : LeqS pa pb
          · have HL := Lib.hid (leq_any Aa Ab pa pb ca cb w4 PA6.out PB6.out LA4.out LB4.out CA.out CB.out HOA.out HOB.out true (by simpa using L))
            obtain ⟨x, hx⟩ : ∃ x, valS pa ns = x := ⟨_, rfl⟩
            obtain ⟨y, hy⟩ : ∃ y, valS pb ns = y := ⟨_, rfl⟩
            have hxy : x ≤ y := by rw [← hx, ← hy]; exact leq_val (fun p hp => (SA.out p hp).1) (fun p hp => (SB.out p hp).1) L ns
            have HX := Lib.hid hx
            have HY := Lib.hid hy
            clear L hx hy h6
            go_wp2_with (fail)
            refine HL.out.mono ?_
            rintro e w5 ⟨rfl, hb5⟩
            have hz5 := hb5.size
            have n1 := (hb5.cell (by show w.heap.size < w4.heap.size; omega)).trans m1
            have n2 := (hb5.cell (by show w.heap.size + 1 < w4.heap.size; omega)).trans m2
            have B5 : Hid (Below w.heap.size w w5) := B4.out.trans (hb5.mono (by omega))
            have LA5 : Lev w5 w5.heap.size Aa pa := (LA4.out.below hb5).more hz5
            have LB5 : Lev w5 w5.heap.size Ab pb := (LB4.out.below hb5).more hz5
            have LN5 : Ints w5 w5.heap.size An ns := (LN4.out.below hb5).more hz5
            have VA := Lib.hid (value_box w5 Aa Ab pa.length pb.length ca cb w.heap.size (w.heap.size + 1) Aa pa pa.length ca An ns ns.length cn rfl rfl PA6.out MN.out LA5 LN5 CA.out HOA.out x HX.out)
            have VB := Lib.hid (value_box w5 Aa Ab pa.length pb.length ca cb w.heap.size (w.heap.size + 1) Ab pb pb.length cb An ns ns.length cn rfl rfl PB6.out MN.out LB5 LN5 CB.out HOB.out y HY.out)
            have hS : Below w5.heap.size w5 w5.drew ∧ w5.drew.cell? ⟨w.heap.size, 0, none⟩ = some (.slice Aa pa.length ca) ∧ w5.drew.cell? ⟨w.heap.size + 1, 0, none⟩ = some (.slice Ab pb.length cb) := ⟨below_drew (Below.refl _ _), n1, n2⟩
            clear hb5 m1 m2 B4 LA4 LB4 LN4 HL LA5 LB5 LN5
            go_upto_region 6 with (fail)
            go_region_held3 (fun w' => Below w5.heap.size w5 w' ∧ w'.cell? ⟨w.heap.size, 0, none⟩ = some (.slice Aa pa.length ca) ∧ w'.cell? ⟨w.heap.size + 1, 0, none⟩ = some (.slice Ab pb.length cb)) (first | assumption | go_keep)
              (first
                | (go_at_call_of 11 (Value.agg #[.slice Aa pa.length ca]); refine (VA.out _ (by assumption)).mono ?_; rintro e w' ⟨rfl, hw⟩)
                | (go_at_call_of 11 (Value.agg #[.slice Ab pb.length cb]); refine (VB.out _ (by assumption)).mono ?_; rintro e w' ⟨rfl, hw⟩))
            all_goals clear hS VA VB HX HY n1 n2
            all_goals go_wp2
            all_goals go_ret
            all_goals exact ⟨by simp, B5.out.trans (hw.1.mono (by omega))⟩
          · have HL := Lib.hid (leq_any Aa Ab pa pb ca cb w4 PA6.out PB6.out LA4.out LB4.out CA.out CB.out HOA.out HOB.out false (by simpa using L))
            have NL := Lib.hid L
            obtain ⟨x, hx⟩ : ∃ x, valS pa [] = x := ⟨_, rfl⟩
            obtain ⟨y, hy⟩ : ∃ y, valS pb [] = y := ⟨_, rfl⟩
            have HX := Lib.hid hx
            have HY := Lib.hid hy
            clear L hx hy h6
            go_wp2_with (fail)
            refine HL.out.mono ?_
            rintro e w5 ⟨rfl, hb5⟩
            have hz5 := hb5.size
            have n1 := (hb5.cell (by show w.heap.size < w4.heap.size; omega)).trans m1
            have n2 := (hb5.cell (by show w.heap.size + 1 < w4.heap.size; omega)).trans m2
            have B5 : Hid (Below w.heap.size w w5) := B4.out.trans (hb5.mono (by omega))
            have LA5 : Lev w5 w5.heap.size Aa pa := (LA4.out.below hb5).more hz5
            have LB5 : Lev w5 w5.heap.size Ab pb := (LB4.out.below hb5).more hz5
            have VA := Lib.hid (value_box w5 Aa Ab pa.length pb.length ca cb w.heap.size (w.heap.size + 1) Aa pa pa.length ca none [] 0 0 rfl rfl PA6.out (by unfold maxLen; simp) LA5 (fun h => by simp at h) CA.out HOA.out x HX.out)
            have VB := Lib.hid (value_box w5 Aa Ab pa.length pb.length ca cb w.heap.size (w.heap.size + 1) Ab pb pb.length cb none [] 0 0 rfl rfl PB6.out (by unfold maxLen; simp) LB5 (fun h => by simp at h) CB.out HOB.out y HY.out)
            have hS : Below w5.heap.size w5 w5.drew ∧ w5.drew.cell? ⟨w.heap.size, 0, none⟩ = some (.slice Aa pa.length ca) ∧ w5.drew.cell? ⟨w.heap.size + 1, 0, none⟩ = some (.slice Ab pb.length cb) := ⟨below_drew (Below.refl _ _), n1, n2⟩
            have LA6 := Lib.hid LA5
            have LB6 := Lib.hid LB5
            clear hb5 m1 m2 B4 LA4 LB4 LN4 HL LA5 LB5
            go_upto_region 7 with (fail)
            go_cut [44] from 40 to 44 (fun s wc => ∃ r : Bool, s = .bool r ∧ (r = true ↔ y < x) ∧ Box w5 wc Aa Ab pa.length pb.length ca cb w.heap.size (w.heap.size + 1))
            case first =>
              go_region_held3 (fun w' => Below w5.heap.size w5 w' ∧ w'.cell? ⟨w.heap.size, 0, none⟩ = some (.slice Aa pa.length ca) ∧ w'.cell? ⟨w.heap.size + 1, 0, none⟩ = some (.slice Ab pb.length cb)) (first | assumption | go_keep)
                (first
                  | (go_at_call_of 11 (Value.agg #[.slice Aa pa.length ca]); refine (VA.out _ (by assumption)).mono ?_; rintro e w' ⟨rfl, hw⟩)
                  | (go_at_call_of 11 (Value.agg #[.slice Ab pb.length cb]); refine (VB.out _ (by assumption)).mono ?_; rintro e w' ⟨rfl, hw⟩))
              all_goals clear hS VA VB HX HY n1 n2
              all_goals go_wp2
              all_goals go_meet
              all_goals exact ⟨_, rfl, by simp, hw⟩
            case rest =>
              obtain ⟨r, rfl, hr, hbx⟩ := hcut
              clear hS VA VB
              rcases r with _ | _
              rotate_left
              · have HF : Hid (HasPost w true (.returned (.bool true)) wc) := ⟨rfl, B5.out.trans (hbx.1.mono (by omega))⟩
                clear hbx
                go_wp2
                go_ret
                exact HF.out
              · have NV : Hid (¬ valS pb [] < valS pa []) := by rw [HX.out, HY.out]; intro d; exact absurd (hr.2 d) (by simp)
                have hmk : ∀ W : World, (Instr.makeSlice 31 (.int .i64 200) (.int .i64 200)).run Try.prog W = .ok (.slice (some ⟨W.heap.size, 0, none⟩) 200 200) (W.alloc (.cells (madeCells #[.int .i64 0] 200) 3)) := fun W =>
                  run_make_row' (P := Try.prog) 31 3 (.int .i64 0) 8 Try.underlying31 infoI rfl .i64 .i64 200 (by omega) (by omega) W
                obtain ⟨Z, hZ⟩ : ∃ Z, Z = madeCells #[.int .i64 0] 200 := ⟨_, rfl⟩
                rw [← hZ] at hmk
                have ZZ := Lib.hid hZ
                clear hZ hr HX HY n1 n2
                go_wp2
                go_loopw [7] (fun i wr => ∃ k : Nat, k ≤ 200 ∧ i = .int .i64 k ∧ Box w5 wr Aa Ab pa.length pb.length ca cb w.heap.size (w.heap.size + 1) ∧ ∀ j : Nat, j < k → valS pa (vec j) ≤ valS pb (vec j)) (fun i _ => 200 - (intOf i).toNat)
                case atStart => exact ⟨0, by omega, rfl, hbx, fun j hj => absurd hj (by omega)⟩
                case round =>
                  obtain ⟨k, hk, rfl, hbr, hs⟩ := hrel
                  by_cases hlt : k < 200
                  · have hzr := hbr.1.size
                    obtain ⟨r1, r2, r3⟩ := row_vec wr Z ZZ.out 3 k hlt
                    have hbV : Below wr.heap.size wr (wr.alloc (.cells (Z.setIfInBounds k (.int .i64 524288)) 3)) := (Below.refl _ _).alloc (Nat.le_refl _) _
                    have hbxV := hbr.step hbV
                    have hzV : (wr.alloc (.cells (Z.setIfInBounds k (.int .i64 524288)) 3)).heap.size = wr.heap.size + 1 := by simp
                    obtain ⟨x', hx'⟩ : ∃ x, valS pa (vec k) = x := ⟨_, rfl⟩
                    obtain ⟨y', hy'⟩ : ∃ y, valS pb (vec k) = y := ⟨_, rfl⟩
                    have VA := Lib.hid (value_box _ Aa Ab pa.length pb.length ca cb w.heap.size (w.heap.size + 1) Aa pa pa.length ca (some ⟨wr.heap.size, 0, none⟩) (vec k) 200 200 rfl (vec_length k).symm PA6.out (by rw [vec_length]; unfold maxLen; omega) ((LA6.out.below hbxV.1).more hbxV.1.size) (r3.more (by rw [hzV]; exact Nat.le_refl _)) CA.out HOA.out x' hx')
                    have VB := Lib.hid (value_box _ Aa Ab pa.length pb.length ca cb w.heap.size (w.heap.size + 1) Ab pb pb.length cb (some ⟨wr.heap.size, 0, none⟩) (vec k) 200 200 rfl (vec_length k).symm PB6.out (by rw [vec_length]; unfold maxLen; omega) ((LB6.out.below hbxV.1).more hbxV.1.size) (r3.more (by rw [hzV]; exact Nat.le_refl _)) CB.out HOB.out y' hy')
                    have v1 := hbxV.2.1
                    have v2 := hbxV.2.2
                    have BV : Hid (Below w5.heap.size w5 (wr.alloc (.cells (Z.setIfInBounds k (.int .i64 524288)) 3))) := hbxV.1
                    have ZV := Lib.hid hzV
                    have HS := Lib.hid hs
                    have HX' := Lib.hid hx'
                    have HY' := Lib.hid hy'
                    have ij0 : (0 : Int) ≤ (k : Int) := by omega
                    have ij1 : (k : Int) < 200 := by omega
                    clear r3 hbr hbxV hzV hs hx' hy' hbV
                    have hS : Below (wr.alloc (.cells (Z.setIfInBounds k (.int .i64 524288)) 3)).heap.size (wr.alloc (.cells (Z.setIfInBounds k (.int .i64 524288)) 3)) (wr.alloc (.cells (Z.setIfInBounds k (.int .i64 524288)) 3)).drew ∧ (wr.alloc (.cells (Z.setIfInBounds k (.int .i64 524288)) 3)).drew.cell? ⟨w.heap.size, 0, none⟩ = some (.slice Aa pa.length ca) ∧ (wr.alloc (.cells (Z.setIfInBounds k (.int .i64 524288)) 3)).drew.cell? ⟨w.heap.size + 1, 0, none⟩ = some (.slice Ab pb.length cb) := ⟨below_drew (Below.refl _ _), v1, v2⟩
                    have hww : w.heap.size + 1 < wr.heap.size := by omega
                    by_cases d : y' < x'
                    · go_upto_region 14 with (fail)
                      go_region_held3 (fun w' => Below (wr.alloc (.cells (Z.setIfInBounds k (.int .i64 524288)) 3)).heap.size (wr.alloc (.cells (Z.setIfInBounds k (.int .i64 524288)) 3)) w' ∧ w'.cell? ⟨w.heap.size, 0, none⟩ = some (.slice Aa pa.length ca) ∧ w'.cell? ⟨w.heap.size + 1, 0, none⟩ = some (.slice Ab pb.length cb)) (first | assumption | go_keep)
                        (first
                          | (go_at_call_of 11 (Value.agg #[.slice Aa pa.length ca]); refine (VA.out _ (by assumption)).mono ?_; rintro e w' ⟨rfl, hw⟩)
                          | (go_at_call_of 11 (Value.agg #[.slice Ab pb.length cb]); refine (VB.out _ (by assumption)).mono ?_; rintro e w' ⟨rfl, hw⟩))
                      all_goals clear hS VA VB v1 v2
                      all_goals go_wp2
                      all_goals go_ret
                      all_goals exact ⟨rfl, B5.out.trans ((BV.out.trans (hw.1.mono (by rw [ZV.out]; omega))).mono (by omega))⟩
                    · have HN : Hid (∀ j : Nat, j < k + 1 → valS pa (vec j) ≤ valS pb (vec j)) := fun j hj => by
                        rcases Nat.lt_succ_iff_lt_or_eq.1 hj with hj | rfl
                        · exact HS.out j hj
                        · rw [HX'.out, HY'.out]; omega
                      go_upto_region 14 with (fail)
                      go_region_held3 (fun w' => Below (wr.alloc (.cells (Z.setIfInBounds k (.int .i64 524288)) 3)).heap.size (wr.alloc (.cells (Z.setIfInBounds k (.int .i64 524288)) 3)) w' ∧ w'.cell? ⟨w.heap.size, 0, none⟩ = some (.slice Aa pa.length ca) ∧ w'.cell? ⟨w.heap.size + 1, 0, none⟩ = some (.slice Ab pb.length cb)) (first | assumption | go_keep)
                        (first
                          | (go_at_call_of 11 (Value.agg #[.slice Aa pa.length ca]); refine (VA.out _ (by assumption)).mono ?_; rintro e w' ⟨rfl, hw⟩)
                          | (go_at_call_of 11 (Value.agg #[.slice Ab pb.length cb]); refine (VB.out _ (by assumption)).mono ?_; rintro e w' ⟨rfl, hw⟩))
                      all_goals clear hS VA VB v1 v2
                      all_goals go_wp2
                      all_goals go_roundw
                      case rel => exact ⟨k + 1, by omega, by go_num, ⟨BV.out.trans (hw.1.mono (by rw [ZV.out]; omega)), hw.2.1, hw.2.2⟩, HN.out⟩
                      case measure => simp [intOf]; omega
                  · exfalso
                    obtain ⟨j, hj, hv⟩ := not_leq SA.out SB.out NL.out (by have := NV.out; omega)
                    have := hs j (by omega); omega
        · have t' : 60 < (ns.length : Int) := by omega
          have HF : Hid (HasPost w true (.returned (.bool true)) w4) := ⟨rfl, B4.out⟩
          clear B4 LA4 LB4 LN4 h6
          go_wp2
          go_ret
          exact HF.out
      · have HSB := Lib.hid (small_any Ab pb cb w3 (by have := PB.out; unfold maxLen; omega) LB3.out false (by simpa using sb))
        clear sb
        go_wp2_with (fail)
        refine HSB.out.mono ?_
        rintro e w4 ⟨rfl, hb4⟩
        have HF : Hid (HasPost w true (.returned (.bool true)) w4) := ⟨rfl, B3.out.trans (hb4.mono (by omega))⟩
        clear hb4 k1 k2 B3 LA3 LB3 LN3 h6
        go_wp2
        go_ret
        exact HF.out
    · have HSA := Lib.hid (small_any Aa pa ca w2 (by have := PA.out; unfold maxLen; omega) LA2.out false (by simpa using sa))
      clear sa
      go_wp2_with (fail)
      refine HSA.out.mono ?_
      rintro e w3 ⟨rfl, hb3⟩
      have HF : Hid (HasPost w true (.returned (.bool true)) w3) := ⟨rfl, B2.out.trans (hb3.mono (by omega))⟩
      clear hb3 g1 g2 B2 LA2 LB2 LN2 h6
      go_wp2
      go_ret
      exact HF.out
  · have HF : Hid (HasPost w true (.returned (.bool true)) w2) := ⟨rfl, B2.out⟩
    clear hr g1 g2 B2 LA2 LB2 LN2
    go_wp2
    go_ret
    exact HF.out

end Go.Proofs.Ytldalfikpklfdaa
