/- Laws. -/
import Derived.Test.YtfgnnbpbbnnnhaaDoorRrbc
namespace Go.Proofs.YtfgnnbpbbnnnhaaDoor
open Go.RowKit Go.Maps
set_option maxRecDepth 100000 in
set_option maxHeartbeats 32000000 in
theorem rows_of (dl : List Dc) (Ad : Option Addr) (nd cd : Nat) (d : Dc) (cs : Array Value) (w : World) (hK : KindsAll w) (hds : Dcs w w.heap.size Ad cd dl) (hnd : dl.length = nd) (hdc : DcAt w w.heap.size d cs) (hft : d.fits) (hal : d.all ≤ 1048576) (hn9 : 1 + nd ≤ 1048576) (hok : ∀ x ∈ d :: dl, x.ok9) (hsum : sumF Dc.cn (d :: dl) ≤ 1099511627776) :
    Calls Tryd.prog 4 #[.slice Ad nd cd, .agg cs] w (HasPost w true) := by
  have hw0 : 0 < w.heap.size := cell_lt (hK 0 (by decide)).1
  obtain ⟨w1, hw1⟩ : ∃ x, w.alloc (.cells cs 43) = x := ⟨_, rfl⟩
  have hb1 : Below w.heap.size w w1 := by rw [← hw1]; exact (Below.refl _ _).alloc (Nat.le_refl _) _
  have z1 : w1.heap[w.heap.size]? = some (.cells cs 43 (0, 0)) := by rw [← hw1]; exact heap_alloc_new w _
  have HAW := Lib.hid (awake11_any w1 (hK.below hb1 hw0))
  have HB1 := Lib.hid hb1
  have HK := Lib.hid hK
  have HDS := Lib.hid hds
  have HND := Lib.hid hnd
  have HDC := Lib.hid hdc
  have HFT := Lib.hid hft
  have HAL := Lib.hid hal
  have HOK := Lib.hid hok
  have HSUM := Lib.hid hsum
  have HN9 := Lib.hid hn9
  have Z1 := Lib.hid z1
  clear hK hds hnd hdc hft hal hok hsum hn9 hb1 z1
  go_enter Tryd.func4, Tryd.ntmps4
  go_wp2_with (fail)
  refine HAW.out.mono ?_
  rintro e w2 ⟨rfl, hb2⟩
  have hbw2 : Below w.heap.size w w2 := HB1.out.trans (hb2.mono HB1.out.size)
  have y1 := (hb2.block _ (heap_some_lt Z1.out)).trans Z1.out
  obtain ⟨Y, hY⟩ := dcs_list (HDS.out.below hbw2 hbw2.size)
  obtain ⟨w3, hw3⟩ : ∃ x, w2.alloc (.cells cs 43) = x := ⟨_, rfl⟩
  have hb3 : Below w2.heap.size w2 w3 := by rw [← hw3]; exact (Below.refl _ _).alloc (Nat.le_refl _) _
  have x3 : w3.heap[w2.heap.size]? = some (.cells cs 43 (0, 0)) := by rw [← hw3]; exact heap_alloc_new w2 _
  have hsl := slice_dc HDC.out w2
  rw [hw3] at hsl
  have hdc2 := HDC.out.below hbw2 hbw2.size
  obtain ⟨g4, k4, w4, r4, o4, _, q4⟩ := app_two (c := cd) 22 (own_dc x3 HDC.out.size (Nat.le_refl _)) (hY.below hb3 (Nat.le_refl _)) HND.out (by have := HN9.out; omega) hb3.size
  have hb24 : Below w2.heap.size w2 w4 := hb3.trans q4
  have hlen : (d :: dl).length = 1 + nd := by rw [List.length_cons, HND.out]; omega
  have hx4 : Below w.heap.size w w4 := hbw2.trans (hb24.mono hbw2.size)
  obtain ⟨gb, hgb⟩ : ∃ x, decide (1500 < sumF Dc.cn (d :: dl) + Tm.countL []) = x := ⟨_, rfl⟩
  have HGR : Hid (Calls Tryd.prog 8 #[.slice (some ⟨g4, 0, none⟩) (1 + nd) k4, .slice none 0 0] w4 (HasPost w4 gb)) := by
    have h := great11_any (d :: dl) (some ⟨g4, 0, none⟩) (1 + nd) k4 [] none 0 0 w4 hlen HN9.out HOK.out (dcs_own o4 hlen (at_cons hdc2 hY) hb24 hb24.size) rfl (by simp [Tm.countL]) (cnt_nil0 _ _) HSUM.out
    rw [hgb] at h
    exact h
  have HB4 := Lib.hid hx4
  have Y4 := Lib.hid ((hb24.block _ (heap_some_lt y1)).trans y1)
  have hin : (Tryd.prog.info? 43).map (·.size) = some cs.size := by rw [HDC.out.size]; exact infoDc
  have HIN := Lib.hid hin
  clear hb2 hbw2 hY hb3 x3 hdc2 o4 q4 hb24 hlen hx4 hgb HAW hw1 hin
  go_upto_region 3 with (fail)
  refine wp_region_lit ?_
  refine wpList_load_row rfl 43 (.tmp 3) rfl w.heap.size rfl 43 cs (0, 0) _ y1 Tryd.underlying43 rfl HIN.out ?_
  refine wpList_sliceR rfl 22 1 [(0, .tmp 12)] rfl rfl hsl ?_
  clear hsl y1
  go_wp2_with (first | (refine wpList_appR rfl (.tmp 13) (.tmp 14) 22 rfl rfl rfl r4 ?_) | fail)
  refine HGR.out.mono ?_
  rintro e w5 ⟨rfl, hb5⟩
  clear HGR r4 hw3
  have HB5 : Hid (Below w.heap.size w w5) := HB4.out.trans (hb5.mono HB4.out.size)
  have Y5 := Lib.hid ((hb5.block _ (heap_some_lt Y4.out)).trans Y4.out)
  clear hb5 HB4 Y4
  cases gb with
  | true =>
    go_wp2
    go_ret
    exact ⟨rfl, HB5.out⟩
  | false =>
  obtain ⟨rr, hrr⟩ : ∃ x, declSB dl d = x := ⟨_, rfl⟩
  have HRR := Lib.hid hrr
  have HDE : Hid (Calls Tryd.prog 14 #[.slice Ad nd cd, .agg cs] w5 (HasPost w5 rr)) := by
    have h := declS_any dl Ad nd cd d cs w5 (HK.out.below HB5.out hw0) (HDS.out.below HB5.out HB5.out.size) HND.out (HDC.out.below HB5.out HB5.out.size) HFT.out HAL.out
    rw [hrr] at h
    exact h
  have hld := load_dcbox Y5.out (Below.refl _ _) HDC.out.size
  clear hrr
  go_wp2_with (first | (refine wpList_load_g (by kernel_rfl) 43 (.tmp 3) rfl _ _ rfl hld ?_) | fail)
  refine HDE.out.mono ?_
  rintro e w6 ⟨rfl, hb6⟩
  clear HDE hld
  have HB6 : Hid (Below w.heap.size w w6) := HB5.out.trans (hb6.mono HB5.out.size)
  have Y6 := Lib.hid ((hb6.block _ (heap_some_lt Y5.out)).trans Y5.out)
  clear hb6 HB5 Y5
  cases rr with
  | false =>
    go_wp2
    go_ret
    exact ⟨rfl, HB6.out⟩
  | true =>
  have HSRC : Hid (DeclSrc dl d) := (declSB_iff ..).1 HRR.out
  clear HRR
  obtain ⟨i0, i1, i2, S0, n0, m0, S1, n1, m1, Ap, As, Am, Ac, cp, cz, cm, cc, ⟨q0, q1⟩, ⟨q2, q3, q4, q5, q6⟩, q12, q13, q14, q15, tty, tpa, tsn, tso, tme, tct⟩ := dc_parts HDC.out
  have HTY := Lib.hid tty
  have e0 := (cell_of_row _ _ 0 _ _ (0, 0) Y6.out).trans q0
  have e1 := (cell_of_row _ _ 1 _ _ (0, 0) Y6.out).trans q1
  have e2 := (cell_of_row _ _ 2 _ _ (0, 0) Y6.out).trans q2
  have e3 := (cell_of_row _ _ 3 _ _ (0, 0) Y6.out).trans q3
  have e4 := (cell_of_row _ _ 4 _ _ (0, 0) Y6.out).trans q4
  have e5 := (cell_of_row _ _ 5 _ _ (0, 0) Y6.out).trans q5
  have e6 := (cell_of_row _ _ 6 _ _ (0, 0) Y6.out).trans q6
  obtain ⟨l, hl⟩ : ∃ x, d.lev = x := ⟨_, rfl⟩
  have HLV := Lib.hid hl
  rw [hl] at e1 q1
  have hkd : d.kind = 1 ∨ d.kind = 2 ∨ d.kind = 3 := by
    by_cases h3 : d.kind = 3
    · exact .inr (.inr h3)
    · rcases (axiom_src HSRC.out h3).2 with h | h
      · exact .inl h
      · exact .inr (.inl h)
  clear hl
  rcases hkd with hkd | hkd | hkd
  · rw [hkd] at e0 q0
    have HKD := Lib.hid hkd
    clear hkd q1 q2 q3 q4 q5 q6 q12 q13 q14 q15 tty tpa tsn tso tme tct
    obtain ⟨w7, hw7⟩ : ∃ x, w6.alloc (.cells #[.int .i64 1, .int .i64 l, .int .i64 i0, .int .i64 i1, .int .i64 i2, .slice S0 n0 m0, .slice S1 n1 m1, .int .i64 0, .int .i64 0, .int .i64 0, .slice none 0 0, .slice none 0 0, .slice none 0 0, .slice none 0 0, .slice none 0 0, .slice none 0 0] 43) = x := ⟨_, rfl⟩
    have hb7 : Below w6.heap.size w6 w7 := by rw [← hw7]; exact (Below.refl _ _).alloc (Nat.le_refl _) _
    have x7 : w7.heap[w6.heap.size]? = some (.cells #[.int .i64 1, .int .i64 l, .int .i64 i0, .int .i64 i1, .int .i64 i2, .slice S0 n0 m0, .slice S1 n1 m1, .int .i64 0, .int .i64 0, .int .i64 0, .slice none 0 0, .slice none 0 0, .slice none 0 0, .slice none 0 0, .slice none 0 0, .slice none 0 0] 43 (0, 0)) := by rw [← hw7]; exact heap_alloc_new w6 _
    have hx7 : Below w.heap.size w w7 := HB6.out.trans (hb7.mono HB6.out.size)
    have HB7 := Lib.hid hx7
    have hz := heap_alloc_new w6 (.cells zeroDc 43)
    have hda : Hid ((w6.alloc (.cells zeroDc 43)).setRow w6.heap.size #[.int .i64 1, .int .i64 l, .int .i64 i0, .int .i64 i1, .int .i64 i2, .slice S0 n0 m0, .slice S1 n1 m1, .int .i64 0, .int .i64 0, .int .i64 0, .slice none 0 0, .slice none 0 0, .slice none 0 0, .slice none 0 0, .slice none 0 0, .slice none 0 0] = w7) := by rw [← hw7]; exact World.setRow_alloc_new _ _ _ _
    have hall : (#[.int .i64 1, .int .i64 l, .int .i64 i0, .int .i64 i1, .int .i64 i2, .slice S0 n0 m0, .slice S1 n1 m1, .int .i64 0, .int .i64 0, .int .i64 0, .slice none 0 0, .slice none 0 0, .slice none 0 0, .slice none 0 0, .slice none 0 0, .slice none 0 0] : Array Value).all (·.oneCell') = true := by simp [Value.oneCell']
    have HALL := Lib.hid hall
    have Y7 := Lib.hid ((hb7.block _ (heap_some_lt Y6.out)).trans Y6.out)
    have HX7 := Lib.hid x7
    have HD7 : Hid (Calls Tryd.prog 14 #[.slice Ad nd cd, .agg #[.int .i64 1, .int .i64 l, .int .i64 i0, .int .i64 i1, .int .i64 i2, .slice S0 n0 m0, .slice S1 n1 m1, .int .i64 0, .int .i64 0, .int .i64 0, .slice none 0 0, .slice none 0 0, .slice none 0 0, .slice none 0 0, .slice none 0 0, .slice none 0 0]] w7 (HasPost w7 true)) := by
      have h := declS_any dl Ad nd cd (asAxiom d) (axV d.lev i0 i1 i2 S0 n0 m0 S1 n1 m1) w7 (HK.out.below hx7 hw0) (HDS.out.below hx7 hx7.size) HND.out (ax_at (HTY.out.below hx7 hx7.size)) (axiom_fits HFT.out) (axiom_all HAL.out)
      rw [(declSB_iff ..).2 (axiom_src HSRC.out (by rw [HKD.out]; decide)).1, HLV.out] at h
      exact h
    unfold zeroDc at hz hda
    clear hb7 x7 hx7 hall
    go_wp2_with (first | (refine wpList_store_row rfl 43 (.tmp 5) (.tmp 30) rfl w6.heap.size #[.int .i64 1, .int .i64 l, .int .i64 i0, .int .i64 i1, .int .i64 i2, .slice S0 n0 m0, .slice S1 n1 m1, .int .i64 0, .int .i64 0, .int .i64 0, .slice none 0 0, .slice none 0 0, .slice none 0 0, .slice none 0 0, .slice none 0 0, .slice none 0 0] rfl rfl 43 zeroDc hz infoDc rfl HALL.out ?_; rw [hda.out]) | (refine wpList_load_row rfl 43 (.tmp 5) rfl w6.heap.size rfl 43 _ (0, 0) _ HX7.out Tryd.underlying43 rfl infoDc ?_) | fail)
    refine HD7.out.mono ?_
    rintro e w8 ⟨rfl, hb8⟩
    have c8 := (hb8.block _ (heap_some_lt Y7.out)).trans Y7.out
    have e8 := (cell_of_row _ _ 0 _ _ (0, 0) c8).trans q0
    have HB8 : Hid (Below w.heap.size w w8) := HB7.out.trans (hb8.mono HB7.out.size)
    clear HD7 hb8 c8 hz hda hw7 e0 e1 e2 e3 e4 e5 e6 q0
    go_wp2
    go_ret
    exact ⟨rfl, HB8.out⟩
  · rw [hkd] at e0 q0
    have HKD := Lib.hid hkd
    clear hkd q1 q2 q3 q4 q5 q6 q12 q13 q14 q15 tty tpa tsn tso tme tct
    obtain ⟨w7, hw7⟩ : ∃ x, w6.alloc (.cells #[.int .i64 1, .int .i64 l, .int .i64 i0, .int .i64 i1, .int .i64 i2, .slice S0 n0 m0, .slice S1 n1 m1, .int .i64 0, .int .i64 0, .int .i64 0, .slice none 0 0, .slice none 0 0, .slice none 0 0, .slice none 0 0, .slice none 0 0, .slice none 0 0] 43) = x := ⟨_, rfl⟩
    have hb7 : Below w6.heap.size w6 w7 := by rw [← hw7]; exact (Below.refl _ _).alloc (Nat.le_refl _) _
    have x7 : w7.heap[w6.heap.size]? = some (.cells #[.int .i64 1, .int .i64 l, .int .i64 i0, .int .i64 i1, .int .i64 i2, .slice S0 n0 m0, .slice S1 n1 m1, .int .i64 0, .int .i64 0, .int .i64 0, .slice none 0 0, .slice none 0 0, .slice none 0 0, .slice none 0 0, .slice none 0 0, .slice none 0 0] 43 (0, 0)) := by rw [← hw7]; exact heap_alloc_new w6 _
    have hx7 : Below w.heap.size w w7 := HB6.out.trans (hb7.mono HB6.out.size)
    have HB7 := Lib.hid hx7
    have hz := heap_alloc_new w6 (.cells zeroDc 43)
    have hda : Hid ((w6.alloc (.cells zeroDc 43)).setRow w6.heap.size #[.int .i64 1, .int .i64 l, .int .i64 i0, .int .i64 i1, .int .i64 i2, .slice S0 n0 m0, .slice S1 n1 m1, .int .i64 0, .int .i64 0, .int .i64 0, .slice none 0 0, .slice none 0 0, .slice none 0 0, .slice none 0 0, .slice none 0 0, .slice none 0 0] = w7) := by rw [← hw7]; exact World.setRow_alloc_new _ _ _ _
    have hall : (#[.int .i64 1, .int .i64 l, .int .i64 i0, .int .i64 i1, .int .i64 i2, .slice S0 n0 m0, .slice S1 n1 m1, .int .i64 0, .int .i64 0, .int .i64 0, .slice none 0 0, .slice none 0 0, .slice none 0 0, .slice none 0 0, .slice none 0 0, .slice none 0 0] : Array Value).all (·.oneCell') = true := by simp [Value.oneCell']
    have HALL := Lib.hid hall
    have Y7 := Lib.hid ((hb7.block _ (heap_some_lt Y6.out)).trans Y6.out)
    have HX7 := Lib.hid x7
    have HD7 : Hid (Calls Tryd.prog 14 #[.slice Ad nd cd, .agg #[.int .i64 1, .int .i64 l, .int .i64 i0, .int .i64 i1, .int .i64 i2, .slice S0 n0 m0, .slice S1 n1 m1, .int .i64 0, .int .i64 0, .int .i64 0, .slice none 0 0, .slice none 0 0, .slice none 0 0, .slice none 0 0, .slice none 0 0, .slice none 0 0]] w7 (HasPost w7 true)) := by
      have h := declS_any dl Ad nd cd (asAxiom d) (axV d.lev i0 i1 i2 S0 n0 m0 S1 n1 m1) w7 (HK.out.below hx7 hw0) (HDS.out.below hx7 hx7.size) HND.out (ax_at (HTY.out.below hx7 hx7.size)) (axiom_fits HFT.out) (axiom_all HAL.out)
      rw [(declSB_iff ..).2 (axiom_src HSRC.out (by rw [HKD.out]; decide)).1, HLV.out] at h
      exact h
    unfold zeroDc at hz hda
    clear hb7 x7 hx7 hall
    go_wp2_with (first | (refine wpList_store_row rfl 43 (.tmp 5) (.tmp 30) rfl w6.heap.size #[.int .i64 1, .int .i64 l, .int .i64 i0, .int .i64 i1, .int .i64 i2, .slice S0 n0 m0, .slice S1 n1 m1, .int .i64 0, .int .i64 0, .int .i64 0, .slice none 0 0, .slice none 0 0, .slice none 0 0, .slice none 0 0, .slice none 0 0, .slice none 0 0] rfl rfl 43 zeroDc hz infoDc rfl HALL.out ?_; rw [hda.out]) | (refine wpList_load_row rfl 43 (.tmp 5) rfl w6.heap.size rfl 43 _ (0, 0) _ HX7.out Tryd.underlying43 rfl infoDc ?_) | fail)
    refine HD7.out.mono ?_
    rintro e w8 ⟨rfl, hb8⟩
    have c8 := (hb8.block _ (heap_some_lt Y7.out)).trans Y7.out
    have e8 := (cell_of_row _ _ 0 _ _ (0, 0) c8).trans q0
    have HB8 : Hid (Below w.heap.size w w8) := HB7.out.trans (hb8.mono HB7.out.size)
    clear HD7 hb8 c8 hz hda hw7 e0 e1 e2 e3 e4 e5 e6 q0
    go_wp2
    go_ret
    exact ⟨rfl, HB8.out⟩
  · rw [hkd] at e0 q0
    have HKD := Lib.hid hkd
    clear hkd
    clear e1 e2 e3 e4 e5 e6 q2 q3 q4 q5 q6
    have hbs : BlockSrc d.lev dl d := by
      have h := HSRC.out.2.2
      rw [if_neg (by rw [HKD.out]; decide), if_neg (by rw [HKD.out]; decide), if_pos HKD.out] at h
      exact h.2.2
    have HBS := Lib.hid hbs
    obtain ⟨pn, hpn⟩ : ∃ x, d.pars.length = x := ⟨_, rfl⟩
    obtain ⟨sn, hsn⟩ : ∃ x, d.sort.length = x := ⟨_, rfl⟩
    obtain ⟨M, hM⟩ : ∃ x, d.mems.length = x := ⟨_, rfl⟩
    obtain ⟨C, hC⟩ : ∃ x, d.ctors.length = x := ⟨_, rfl⟩
    have hm8 : M ≤ 8 := by rw [← hM]; exact hbs.2.2.1
    have hc16 : C ≤ 16 := by rw [← hC]; exact hbs.2.2.2.1
    rw [hpn] at q12
    rw [hsn] at q13
    rw [hM] at q14
    rw [hC] at q15
    have Q1 := Lib.hid q1
    have Q12 := Lib.hid q12
    have Q13 := Lib.hid q13
    have Q14 := Lib.hid q14
    have Q15 := Lib.hid q15
    have HPN := Lib.hid hpn
    have HSN := Lib.hid hsn
    have HMN := Lib.hid hM
    have HCN9 := Lib.hid hC
    have TPA := Lib.hid tpa
    have TSN := Lib.hid tsn
    have TSO := Lib.hid tso
    have TME := Lib.hid tme
    have TCT := Lib.hid tct
    clear q0 q1 q12 q13 q14 q15 hbs hpn hsn hM hC tty tpa tsn tso tme tct
    go_wp2_with (fail)
    clear e0
    go_loopw [6] (fun i wr => ∃ q : Nat, q ≤ M ∧ i = .int .i64 (q : Int) ∧ Below w6.heap.size w6 wr) (fun i _ => M - (intOf i).toNat)
    case atStart => exact ⟨0, Nat.zero_le _, rfl, Below.refl _ _⟩
    case round =>
      obtain ⟨q, hq, rfl, hb⟩ := hrel
      have HBR := Lib.hid hb
      have yr := (hb.block _ (heap_some_lt Y6.out)).trans Y6.out
      have YR := Lib.hid yr
      have HWR : Hid (Below w.heap.size w wr) := HB6.out.trans (hb.mono HB6.out.size)
      by_cases hlt : q < M
      · have e14 := (cell_of_row _ _ 14 _ _ (0, 0) yr).trans Q14.out
        obtain ⟨m, hm⟩ : ∃ m, d.mems[q]? = some m := ⟨_, List.getElem?_eq_getElem (by rw [HMN.out]; exact hlt)⟩
        obtain ⟨bm, om, eA, hbm, hcm⟩ := TME.out.2 (by rw [HMN.out]; omega)
        subst eA
        obtain ⟨Ai, ci, k1, k2⟩ := hcm q m hm
        have hmem := List.mem_of_getElem? hm
        have HMEM := Lib.hid hmem
        obtain ⟨mn, hmn⟩ : ∃ x, m.length = x := ⟨_, rfl⟩
        rw [hmn] at k1
        have HLT : Hid (w.heap.size < wr.heap.size) := heap_some_lt yr
        have E12 := Lib.hid ((cell_of_row _ _ 12 _ _ (0, 0) yr).trans Q12.out)
        have E13 := Lib.hid ((cell_of_row _ _ 13 _ _ (0, 0) yr).trans Q13.out)
        have E14 := Lib.hid e14
        have HLM : Hid (bm < wr.heap.size) := Nat.lt_of_lt_of_le hbm HWR.out.size
        have HCM := Lib.hid ((HWR.out.cell (p := ⟨bm, om + q, none⟩) hbm).trans k1)
        have HI0 : Hid ((0 : Int) ≤ (q : Int)) := Int.natCast_nonneg q
        have HI1 : Hid ((q : Int) < (M : Int)) := Int.ofNat_lt.2 hlt
        obtain ⟨sT, hsT⟩ : ∃ x, Tm.mk 2 0 0 [d.sort] [] = x := ⟨_, rfl⟩
        obtain ⟨t2, ht2⟩ : ∃ x, aboveT 4 sT m = x := ⟨_, rfl⟩
        obtain ⟨tm, htm⟩ : ∃ x, memT d m = x := ⟨_, rfl⟩
        have hs9 : d.sort.length ≤ 9 := HBS.out.1.1
        have C61 : Hid (∀ W, Below wr.heap.size wr W → Calls Tryd.prog 16 #[.agg #[.slice As sn cz]] W (fun e w' => ∃ v, e = .returned v ∧ TmAt w' w'.heap.size sT v ∧ Below W.heap.size W w')) := fun W hW => by
          have hx := HWR.out.trans (hW.mono HWR.out.size)
          rw [← hsT]
          exact (sort_any As d.sort sn cz HSN.out W (by unfold Few; have := HSN.out; omega) ((TSO.out.below hx).more hx.size) TSN.out).mono fun e w9 h9 => by obtain ⟨v, j1, j2, j3⟩ := h9; exact ⟨v, j1, j2.tm, j3⟩
        have C62 : Hid (∀ W x, Below wr.heap.size wr W → TmAt W W.heap.size sT x → Calls Tryd.prog 15 #[.slice Ai mn ci, x] W (fun e w' => ∃ v, e = .returned v ∧ TmAt w' w'.heap.size t2 v ∧ Below W.heap.size W w')) := fun W x hW hX => by
          have hx := HWR.out.trans (hW.mono HWR.out.size)
          have hsm := mems_small HFT.out HAL.out hmem
          rw [← ht2]
          exact (pis_any m mn hmn (by rw [← hmn]; exact hsm.1) Ai ci sT x W (HK.out.below hx hw0).binds (k2.below hx hx.size) hX (by rw [← hsT]; exact sort_fit hs9) (by rw [← hsT, Tm.size_mk]; simp [Tm.sizeL]) hsm.2).mono fun e w9 h9 => by obtain ⟨v, j1, j2, j3⟩ := h9; exact ⟨v, j1, j2.tm, j3⟩
        have C63 : Hid (∀ W x, Below wr.heap.size wr W → TmAt W W.heap.size t2 x → Calls Tryd.prog 15 #[.slice Ap pn cp, x] W (FreshPost W tm)) := fun W x hW hX => by
          have hx := HWR.out.trans (hW.mono HWR.out.size)
          have hsm := pars_small HFT.out HAL.out
          have hz := mem_size HAL.out hmem
          have hf := mem_fit HFT.out hs9 hmem
          have h := pis_any d.pars pn HPN.out (by rw [← HPN.out]; exact hsm.1) Ap cp t2 x W (HK.out.below hx hw0).binds (TPA.out.below hx hx.size) hX (by rw [← ht2, ← hsT]; exact hf.1) (by rw [← ht2, ← hsT]; omega) hsm.2
          rw [← ht2, ← hsT, show aboveT 4 (aboveT 4 (.mk 2 0 0 [d.sort] []) m) d.pars = memT d m from rfl, htm] at h
          exact h
        have HTM := Lib.hid htm
        have hS : Below wr.heap.size wr wr.drew := (Below.refl _ _).drew
        clear hb yr hm hbm hcm k1 k2 hmem hmn hsT ht2 htm hs9
        go_upto_region 11 with (fail)
        refine wp_region_tailPW 14 (fun w' => Below wr.heap.size wr w') (fun w1 w2 : World => Below w1.heap.size w1 w2) [(fun (x : Value) (_ : World) => x = (.pointer (some ⟨w.heap.size, 12, none⟩) : Value)), (fun (x : Value) (_ : World) => x = (.slice Ap pn cp : Value)), (fun (x : Value) (_ : World) => x = (.pointer (some ⟨w.heap.size, 14, none⟩) : Value)), (fun (x : Value) (_ : World) => x = (.slice (some ⟨bm, om, none⟩) M cm : Value)), (fun (x : Value) (_ : World) => x = (.int .i64 (q : Int) : Value)), (fun (x : Value) (_ : World) => x = (.pointer (some ⟨bm, om + q, none⟩) : Value)), (fun (x : Value) (_ : World) => x = (.pointer (some ⟨bm, om + q, none⟩) : Value)), (fun (x : Value) (_ : World) => x = (.slice Ai mn ci : Value)), (fun (x : Value) (_ : World) => x = (.pointer (some ⟨w.heap.size, 13, none⟩) : Value)), (fun (x : Value) (_ : World) => x = (.agg #[.slice As sn cz] : Value)), (fun (x : Value) (w : World) => TmAt w w.heap.size sT x), (fun (x : Value) (w : World) => TmAt w w.heap.size t2 x), (fun (x : Value) (w : World) => TmAt w w.heap.size tm x), (fun (x : Value) (w : World) => BoxV wr.heap.size x w)] [(12, NewF tm), (13, NewB)] [⟨12, 13, AwayT tm⟩] [⟨some 51, .fieldAddr 43 (.tmp 3) 4, none, []⟩, ⟨some 52, .load 25 (.tmp 51), none, [(51, 0)]⟩, ⟨some 53, .fieldAddr 43 (.tmp 3) 6, none, []⟩, ⟨some 54, .load 40 (.tmp 53), none, [(53, 2)]⟩, ⟨some 55, .move (.tmp 6), none, []⟩, ⟨some 56, .indexAddr 40 (.tmp 54) (.tmp 55), none, [(54, 3), (55, 4)]⟩, ⟨some 57, .fieldAddr 47 (.tmp 56) 0, none, [(56, 5)]⟩, ⟨some 58, .load 25 (.tmp 57), none, [(57, 6)]⟩, ⟨some 59, .fieldAddr 43 (.tmp 3) 5, none, []⟩, ⟨some 60, .load 39 (.tmp 59), none, [(59, 8)]⟩, ⟨some 61, .call { callee := .value (.func 16), args := #[.tmp 60], argTypes := #[39] }, none, [(60, 9)]⟩, ⟨some 62, .call { callee := .value (.func 15), args := #[.tmp 58, .tmp 61], argTypes := #[25, 27] }, none, [(58, 7), (61, 10)]⟩, ⟨some 63, .call { callee := .value (.func 15), args := #[.tmp 52, .tmp 62], argTypes := #[25, 27] }, none, [(52, 1), (62, 11)]⟩, ⟨some 7, .alloc 27, none, []⟩] [some 51, some 52, some 53, some 54, some 55, some 56, some 57, some 58, some 59, some 60, some 61, some 62, some 63, some 7] (by kernel_rfl) (by kernel_rfl) (by kernel_rfl) (by kernel_rfl) (by kernel_rfl) (by kernel_rfl) ?hb11 ?hS11 ?hmono11 ?hpr11 ?hsteps11 ?hfin11
        case hb11 => intro q9 hq9; simp only [List.mem_cons, List.not_mem_nil, or_false] at hq9; subst hq9; exact ⟨by simp, by simp⟩
        case hS11 => exact hS
        case hmono11 =>
          refine MonoL.cons (fun x w1 w2 _ _ _ hx => hx) ?_
          refine MonoL.cons (fun x w1 w2 _ _ _ hx => hx) ?_
          refine MonoL.cons (fun x w1 w2 _ _ _ hx => hx) ?_
          refine MonoL.cons (fun x w1 w2 _ _ _ hx => hx) ?_
          refine MonoL.cons (fun x w1 w2 _ _ _ hx => hx) ?_
          refine MonoL.cons (fun x w1 w2 _ _ _ hx => hx) ?_
          refine MonoL.cons (fun x w1 w2 _ _ _ hx => hx) ?_
          refine MonoL.cons (fun x w1 w2 _ _ _ hx => hx) ?_
          refine MonoL.cons (fun x w1 w2 _ _ _ hx => hx) ?_
          refine MonoL.cons (fun x w1 w2 _ _ _ hx => hx) ?_
          refine MonoL.cons (fun x w1 w2 _ _ hR hx => ?_) ?_
          · exact hx.below hR hR.size
          refine MonoL.cons (fun x w1 w2 _ _ hR hx => ?_) ?_
          · exact hx.below hR hR.size
          refine MonoL.cons (fun x w1 w2 _ _ hR hx => ?_) ?_
          · exact hx.below hR hR.size
          refine MonoL.cons (fun x w1 w2 _ _ hR hx => ?_) ?_
          · exact hx.mono hR
          exact MonoL.nil
        case hpr11 =>
          exact awayF_ok (B := wr.heap.size) (by decide) rfl rfl rfl rfl
        case hsteps11 =>
          refine StepsPW.cons (fun (x : Value) (_ : World) => x = (.pointer (some ⟨w.heap.size, 12, none⟩) : Value)) [] rfl rfl rfl (fun oq hop _ wq hQS => ?_) ?_
          · exact StepFrom.fieldAddr hop (p := (.pointer (some ⟨w.heap.size, 0, none⟩) : Value)) (by kernel_rfl) (dc_f4R) (by kernel_rfl) hQS (Below.refl _ _) rfl
          refine StepsPW.cons (fun (x : Value) (_ : World) => x = (.slice Ap pn cp : Value)) [(51, (fun (x : Value) (_ : World) => x = (.pointer (some ⟨w.heap.size, 12, none⟩) : Value)))] rfl rfl rfl (fun oq hop _ wq hQS => ?_) ?_
          · refine StepFrom.more_eq ((.pointer (some ⟨w.heap.size, 12, none⟩) : Value)) ?_
            exact StepFrom.load hop (p := (.pointer (some ⟨w.heap.size, 12, none⟩) : Value)) (by kernel_rfl) (load_tsR ((hQS.cell (p := ⟨w.heap.size, 12, none⟩) HLT.out).trans E12.out)) (by kernel_rfl) hQS (Below.refl _ _) rfl
          refine StepsPW.cons (fun (x : Value) (_ : World) => x = (.pointer (some ⟨w.heap.size, 14, none⟩) : Value)) [] rfl rfl rfl (fun oq hop _ wq hQS => ?_) ?_
          · exact StepFrom.fieldAddr hop (p := (.pointer (some ⟨w.heap.size, 0, none⟩) : Value)) (by kernel_rfl) (dc_f6) (by kernel_rfl) hQS (Below.refl _ _) rfl
          refine StepsPW.cons (fun (x : Value) (_ : World) => x = (.slice (some ⟨bm, om, none⟩) M cm : Value)) [(53, (fun (x : Value) (_ : World) => x = (.pointer (some ⟨w.heap.size, 14, none⟩) : Value)))] rfl rfl rfl (fun oq hop _ wq hQS => ?_) ?_
          · refine StepFrom.more_eq ((.pointer (some ⟨w.heap.size, 14, none⟩) : Value)) ?_
            exact StepFrom.load hop (p := (.pointer (some ⟨w.heap.size, 14, none⟩) : Value)) (by kernel_rfl) (load_memsS ((hQS.cell (p := ⟨w.heap.size, 14, none⟩) HLT.out).trans E14.out)) (by kernel_rfl) hQS (Below.refl _ _) rfl
          refine StepsPW.cons (fun (x : Value) (_ : World) => x = (.int .i64 (q : Int) : Value)) [] rfl rfl rfl (fun oq hop _ wq hQS => ?_) ?_
          · exact StepFrom.move hop (v := (.int .i64 (q : Int) : Value)) (by kernel_rfl) (by kernel_rfl) hQS (Below.refl _ _) rfl
          refine StepsPW.cons (fun (x : Value) (_ : World) => x = (.pointer (some ⟨bm, om + q, none⟩) : Value)) [(54, (fun (x : Value) (_ : World) => x = (.slice (some ⟨bm, om, none⟩) M cm : Value))), (55, (fun (x : Value) (_ : World) => x = (.int .i64 (q : Int) : Value)))] rfl rfl rfl (fun oq hop _ wq hQS => ?_) ?_
          · refine StepFrom.more_eq ((.slice (some ⟨bm, om, none⟩) M cm : Value)) ?_
            refine StepFrom.more_eq ((.int .i64 (q : Int) : Value)) ?_
            exact StepFrom.indexAddr hop (p := (.slice (some ⟨bm, om, none⟩) M cm : Value)) (q := (.int .i64 (q : Int) : Value)) (by kernel_rfl) (by kernel_rfl) (mem_addrR HI0.out HI1.out) (by kernel_rfl) hQS (Below.refl _ _) rfl
          refine StepsPW.cons (fun (x : Value) (_ : World) => x = (.pointer (some ⟨bm, om + q, none⟩) : Value)) [(56, (fun (x : Value) (_ : World) => x = (.pointer (some ⟨bm, om + q, none⟩) : Value)))] rfl rfl rfl (fun oq hop _ wq hQS => ?_) ?_
          · refine StepFrom.more_eq ((.pointer (some ⟨bm, om + q, none⟩) : Value)) ?_
            exact StepFrom.fieldAddr hop (p := (.pointer (some ⟨bm, om + q, none⟩) : Value)) (by kernel_rfl) (mem_f0R) (by kernel_rfl) hQS (Below.refl _ _) rfl
          refine StepsPW.cons (fun (x : Value) (_ : World) => x = (.slice Ai mn ci : Value)) [(57, (fun (x : Value) (_ : World) => x = (.pointer (some ⟨bm, om + q, none⟩) : Value)))] rfl rfl rfl (fun oq hop _ wq hQS => ?_) ?_
          · refine StepFrom.more_eq ((.pointer (some ⟨bm, om + q, none⟩) : Value)) ?_
            exact StepFrom.load hop (p := (.pointer (some ⟨bm, om + q, none⟩) : Value)) (by kernel_rfl) (load_tsR ((hQS.cell (p := ⟨bm, om + q, none⟩) HLM.out).trans HCM.out)) (by kernel_rfl) hQS (Below.refl _ _) rfl
          refine StepsPW.cons (fun (x : Value) (_ : World) => x = (.pointer (some ⟨w.heap.size, 13, none⟩) : Value)) [] rfl rfl rfl (fun oq hop _ wq hQS => ?_) ?_
          · exact StepFrom.fieldAddr hop (p := (.pointer (some ⟨w.heap.size, 0, none⟩) : Value)) (by kernel_rfl) (dc_f5) (by kernel_rfl) hQS (Below.refl _ _) rfl
          refine StepsPW.cons (fun (x : Value) (_ : World) => x = (.agg #[.slice As sn cz] : Value)) [(59, (fun (x : Value) (_ : World) => x = (.pointer (some ⟨w.heap.size, 13, none⟩) : Value)))] rfl rfl rfl (fun oq hop _ wq hQS => ?_) ?_
          · refine StepFrom.more_eq ((.pointer (some ⟨w.heap.size, 13, none⟩) : Value)) ?_
            exact StepFrom.load hop (p := (.pointer (some ⟨w.heap.size, 13, none⟩) : Value)) (by kernel_rfl) (load_lvl ((hQS.cell (p := ⟨w.heap.size, 13, none⟩) HLT.out).trans E13.out)) (by kernel_rfl) hQS (Below.refl _ _) rfl
          refine StepsPW.cons (fun (x : Value) (w : World) => TmAt w w.heap.size sT x) [(60, (fun (x : Value) (_ : World) => x = (.agg #[.slice As sn cz] : Value)))] rfl rfl rfl (fun oq hop _ wq hQS => ?_) ?_
          · refine StepFrom.more_eq ((.agg #[.slice As sn cz] : Value)) ?_
            exact StepFrom.call hop (vs := [(.agg #[.slice As sn cz] : Value)]) (by kernel_rfl) (fun w => enter_tsort _ w) (by kernel_rfl) ((C61.out wq hQS).mono fun e w9 h9 => by obtain ⟨v, j1, j2, j3⟩ := h9; exact ⟨_, j1, hQS.trans (j3.mono hQS.size), j3, j2⟩)
          refine StepsPW.cons (fun (x : Value) (w : World) => TmAt w w.heap.size t2 x) [(58, (fun (x : Value) (_ : World) => x = (.slice Ai mn ci : Value))), (61, (fun (x : Value) (w : World) => TmAt w w.heap.size sT x))] rfl rfl rfl (fun oq hop _ wq hQS => ?_) ?_
          · refine StepFrom.more_eq ((.slice Ai mn ci : Value)) ?_
            refine StepFrom.more fun x61 h61 => ?_
            obtain h61 := h61
            exact StepFrom.call hop (vs := [(.slice Ai mn ci : Value), (x61 : Value)]) (by kernel_rfl) (fun w => enter_tpis _ w) (by kernel_rfl) ((C62.out wq x61 hQS h61).mono fun e w9 h9 => by obtain ⟨v, j1, j2, j3⟩ := h9; exact ⟨_, j1, hQS.trans (j3.mono hQS.size), j3, j2⟩)
          refine StepsPW.new (fun (x : Value) (w : World) => TmAt w w.heap.size tm x) (NewF tm) [(52, (fun (x : Value) (_ : World) => x = (.slice Ap pn cp : Value))), (62, (fun (x : Value) (w : World) => TmAt w w.heap.size t2 x))] rfl rfl rfl (fun oq hop _ wq hQS => ?_) ?_
          · refine StepFrom.more_eq ((.slice Ap pn cp : Value)) ?_
            refine StepFrom.more fun x62 h62 => ?_
            obtain h62 := h62
            refine StepFrom.call hop (vs := [(.slice Ap pn cp : Value), (x62 : Value)]) (by kernel_rfl) (fun w => enter_tpis _ w) (by kernel_rfl) ((C63.out wq x62 hQS h62).mono fun e w9 h9 => ?_)
            obtain ⟨v, j1, j2, j3⟩ := h9
            exact ⟨_, j1, hQS.trans (j3.mono hQS.size), j3, j2.tm, j2⟩
          refine StepsPW.new (fun (x : Value) (w : World) => BoxV wr.heap.size x w) NewB [] rfl rfl rfl (fun oq hop _ wq hQS => ?_) ?_
          · exact StepFrom.alloc hop alloc_term (by kernel_rfl) (hQS.alloc hQS.size _) ((Below.refl _ _).alloc (Nat.le_refl _) _) ⟨⟨_, rfl, hQS.size, heap_alloc_new wq _⟩, _, rfl, Nat.le_refl _⟩
          exact StepsPW.nil
        case hfin11 =>
          intro wf hFS
          refine FinalFrom.more fun x51 h51 => ?_
          refine FinalFrom.more fun x52 h52 => ?_
          refine FinalFrom.more fun x53 h53 => ?_
          refine FinalFrom.more fun x54 h54 => ?_
          refine FinalFrom.more fun x55 h55 => ?_
          refine FinalFrom.more fun x56 h56 => ?_
          refine FinalFrom.more fun x57 h57 => ?_
          refine FinalFrom.more fun x58 h58 => ?_
          refine FinalFrom.more fun x59 h59 => ?_
          refine FinalFrom.more fun x60 h60 => ?_
          refine FinalFrom.more fun x61 h61 => ?_
          refine FinalFrom.more fun x62 h62 => ?_
          refine FinalFrom.more fun x63 h63 => ?_
          refine FinalFrom.more fun x7 h7 => ?_
          refine FinalFrom.done ?_
          intro hpr
          have p1 : AwayT tm wf x63 x7 := hpr ⟨12, 13, AwayT tm⟩ (by simp) 63 7 x63 x7 (by kernel_rfl) (by kernel_rfl) (by kernel_rfl) (by kernel_rfl)
          obtain ⟨gx, rfl, hgx0, hgx⟩ := h7
          obtain ⟨g1, eg1, a1'⟩ := p1
          obtain rfl : gx = g1 := by injection eg1 with e; injection e with e; injection e
          obtain ⟨y0, y1, y2, Y1, z1, h1, Y2, z2, h2, rfl⟩ := tm_cells a1'
          obtain ⟨wz, hwz⟩ : ∃ y, wf.setRow gx #[.int .i64 y0, .int .i64 y1, .int .i64 y2, .slice Y1 z1 h1, .slice Y2 z2 h2] = y := ⟨_, rfl⟩
          have hws : wz.heap.size = wf.heap.size := by rw [← hwz]; simp [World.setRow]
          have hzo : ∀ b, b ≠ gx → wz.heap[b]? = wf.heap[b]? := fun b hb => by rw [← hwz]; exact setRow_other _ _ _ _ hb
          have hzx : wz.heap[gx]? = some (.cells #[.int .i64 y0, .int .i64 y1, .int .i64 y2, .slice Y1 z1 h1, .slice Y2 z2 h2] 27 (0, 0)) := by rw [← hwz]; exact setRow_heap _ _ _ _ _ _ hgx
          have hbz : Below wr.heap.size wr wz := by rw [← hwz]; exact below_setRow hFS hgx0 _
          have htz := away_put hgx hzo hws a1'
          have HGX := Lib.hid hzx
          have HTZ := Lib.hid htz
          have HBZ9 := Lib.hid hbz
          have hxz : Below w.heap.size w wz := HWR.out.trans (hbz.mono HWR.out.size)
          have HXZ := Lib.hid hxz
          have yz := (hbz.block _ (heap_some_lt YR.out)).trans YR.out
          have YZ := Lib.hid yz
          simp only [Act.put, List.setIfInBounds_toArray, List.set_cons_zero, List.set_cons_succ, List.drop_succ_cons, List.drop_zero]
          refine wpList_store_row rfl 27 (.tmp 7) (.tmp 63) rfl gx #[.int .i64 y0, .int .i64 y1, .int .i64 y2, .slice Y1 z1 h1, .slice Y2 z2 h2] rfl rfl 27 zeroTm hgx infoT5 rfl (by simp [Value.oneCell']) ?_
          rw [hwz]
          clear hpr eg1 a1' hws hzo hzx hbz htz hgx hgx0 hwz hFS hS h63
          obtain ⟨r1, hr1⟩ : ∃ x, rightSB l 0 0 dl tm = x := ⟨_, rfl⟩
          have HR1 : Hid (Calls Tryd.prog 9 #[.slice Ad nd cd, .int .i64 l, .int .i64 0, .int .i64 0, .agg #[.int .i64 y0, .int .i64 y1, .int .i64 y2, .slice Y1 z1 h1, .slice Y2 z2 h2]] wz (HasPost wz r1)) := by
            have hs9 : d.sort.length ≤ 9 := HBS.out.1.1
            have h := rightS_any l 0 0 dl Ad nd cd tm _ wz (HK.out.below hxz hw0) (HDS.out.below hxz hxz.size) HND.out (by rw [← HTM.out]; exact (mem_fit HFT.out hs9 HMEM.out).2) (by rw [← HTM.out]; have := (mem_size HAL.out HMEM.out).2; omega) HTZ.out
            rw [hr1] at h
            exact h
          have HRR1 := Lib.hid hr1
          have e1 := (cell_of_row _ _ 1 _ _ (0, 0) yz).trans Q1.out
          have g0 := cell_of_row _ _ 0 _ _ (0, 0) HGX.out
          have g1 := cell_of_row _ _ 1 _ _ (0, 0) HGX.out
          have g2 := cell_of_row _ _ 2 _ _ (0, 0) HGX.out
          have g3 := cell_of_row _ _ 3 _ _ (0, 0) HGX.out
          have g4 := cell_of_row _ _ 4 _ _ (0, 0) HGX.out
          clear hr1 hxz yz e14
          go_wp2_with (fail)
          refine HR1.out.mono ?_
          rintro e w8 ⟨rfl, hb8⟩
          have hx8 : Below w.heap.size w w8 := HXZ.out.trans (hb8.mono HXZ.out.size)
          have HB8 : Hid (Below w6.heap.size w6 w8) := HBR.out.trans ((HBZ9.out.trans (hb8.mono HBZ9.out.size)).mono HBR.out.size)
          have HG8 := Lib.hid ((hb8.block _ (heap_some_lt HGX.out)).trans HGX.out)
          clear g0 g1 g2 g3 g4 e1 HR1
          cases r1 with
          | true =>
            clear hb8 hx8
            go_wp2_with (fail)
            go_roundw
            case rel => exact ⟨q + 1, by omega, by go_num, HB8.out⟩
            case measure => simp [intOf]; omega
          | false =>
            have hrf : tm.right = false := by
              have h := mem_right HBS.out HMEM.out
              rw [HLV.out, HTM.out, HRR1.out] at h
              rcases h with h | h
              · cases h
              · exact h
            have HR2 : Hid (Calls Tryd.prog 11 #[.agg #[.int .i64 y0, .int .i64 y1, .int .i64 y2, .slice Y1 z1 h1, .slice Y2 z2 h2]] w8 (HasPost w8 false)) := by
              have hs9 : d.sort.length ≤ 9 := HBS.out.1.1
              have h := rightOf_any tm (by rw [← HTM.out]; exact (mem_fit HFT.out hs9 HMEM.out).2) _ w8 (HK.out.below hx8 hw0) (HTZ.out.below hb8 hb8.size)
              rw [hrf] at h
              exact h
            have g0 := cell_of_row _ _ 0 _ _ (0, 0) HG8.out
            have g1 := cell_of_row _ _ 1 _ _ (0, 0) HG8.out
            have g2 := cell_of_row _ _ 2 _ _ (0, 0) HG8.out
            have g3 := cell_of_row _ _ 3 _ _ (0, 0) HG8.out
            have g4 := cell_of_row _ _ 4 _ _ (0, 0) HG8.out
            clear hb8 hx8 hrf
            go_wp2_with (fail)
            refine HR2.out.mono ?_
            rintro e w9 ⟨rfl, hb9⟩
            have HB9 : Hid (Below w6.heap.size w6 w9) := HB8.out.trans (hb9.mono HB8.out.size)
            clear hb9 g0 g1 g2 g3 g4 HR2
            go_wp2_with (fail)
            go_roundw
            case rel => exact ⟨q + 1, by omega, by go_num, HB9.out⟩
            case measure => simp [intOf]; omega
      · obtain rfl : M = q := by omega
        have e14 := (cell_of_row _ _ 14 _ _ (0, 0) yr).trans Q14.out
        clear hb yr
        go_wp2_with (fail)
        clear e14
        go_loopw [8] (fun i wr => ∃ q : Nat, q ≤ C ∧ i = .int .i64 (q : Int) ∧ Below w6.heap.size w6 wr) (fun i _ => C - (intOf i).toNat)
        case atStart => exact ⟨0, Nat.zero_le _, rfl, HBR.out⟩
        case round =>
          clear HBR YR HWR
          obtain ⟨q, hq, rfl, hb⟩ := hrel
          have HBR := Lib.hid hb
          have yr := (hb.block _ (heap_some_lt Y6.out)).trans Y6.out
          have YR := Lib.hid yr
          have HWR : Hid (Below w.heap.size w wr) := HB6.out.trans (hb.mono HB6.out.size)
          have e15 := (cell_of_row _ _ 15 _ _ (0, 0) yr).trans Q15.out
          by_cases hlt : q < C
          · obtain ⟨c, hc⟩ : ∃ c, d.ctors[q]? = some c := ⟨_, List.getElem?_eq_getElem (by rw [HCN9.out]; exact hlt)⟩
            obtain ⟨bc, oc, eA, hbc, hcc⟩ := TCT.out.2 (by rw [HCN9.out]; omega)
            subst eA
            obtain ⟨v9, k1, k5, k2⟩ := hcc q c hc
            have hmem := List.mem_of_getElem? hc
            have HMEM := Lib.hid hmem
            obtain ⟨u0, u1, u2, U1, v1, x1, U2, v2, x2, rfl⟩ := tm_cells k2
            obtain ⟨f0, f1, f2, f3, f4⟩ := k5.agg
            obtain ⟨cn, hcn⟩ : ∃ x, c.1 = x := ⟨_, rfl⟩
            have HCN8 := Lib.hid hcn
            rw [hcn] at k1
            have HLT : Hid (w.heap.size < wr.heap.size) := heap_some_lt yr
            have E12 := Lib.hid ((cell_of_row _ _ 12 _ _ (0, 0) yr).trans Q12.out)
            have E15 := Lib.hid e15
            have HBC : Hid (bc < w.heap.size) := hbc
            have HK1 := Lib.hid k1
            have HFV : Hid (∀ W, Below wr.heap.size wr W → W.cell? ⟨bc, oc + q * 6 + 1, none⟩ = some (.int .i64 u0) ∧ W.cell? ⟨bc, oc + q * 6 + 1 + 1, none⟩ = some (.int .i64 u1) ∧ W.cell? ⟨bc, oc + q * 6 + 1 + 2, none⟩ = some (.int .i64 u2) ∧ W.cell? ⟨bc, oc + q * 6 + 1 + 3, none⟩ = some (.slice U1 v1 x1) ∧ W.cell? ⟨bc, oc + q * 6 + 1 + 4, none⟩ = some (.slice U2 v2 x2)) := fun W hW => by
              have hx := HWR.out.trans (hW.mono HWR.out.size)
              exact ⟨(hx.cell (p := ⟨bc, _, none⟩) hbc).trans f0, (hx.cell (p := ⟨bc, _, none⟩) hbc).trans f1, (hx.cell (p := ⟨bc, _, none⟩) hbc).trans f2, (hx.cell (p := ⟨bc, _, none⟩) hbc).trans f3, (hx.cell (p := ⟨bc, _, none⟩) hbc).trans f4⟩
            have HI0 : Hid ((0 : Int) ≤ (q : Int)) := Int.natCast_nonneg q
            have HI1 : Hid ((q : Int) < (C : Int)) := Int.ofNat_lt.2 hlt
            obtain ⟨tm, htm⟩ : ∃ x, ctorT d c.2 = x := ⟨_, rfl⟩
            have hfc : c.2.fit := HFT.out.2.2.2.2 c hmem
            have C89 : Hid (∀ W, Below wr.heap.size wr W → Calls Tryd.prog 15 #[.slice Ap pn cp, .agg #[.int .i64 u0, .int .i64 u1, .int .i64 u2, .slice U1 v1 x1, .slice U2 v2 x2]] W (FreshPost W tm)) := fun W hW => by
              have hx := HWR.out.trans (hW.mono HWR.out.size)
              have hsm := pars_small HFT.out HAL.out
              have hz := (ctor_parts HAL.out hmem).1
              have hz2 := Tm.size_le_count c.2
              rw [← htm]
              exact pis_any d.pars pn HPN.out (by rw [← HPN.out]; exact hsm.1) Ap cp c.2 _ W (HK.out.below hx hw0).binds (TPA.out.below hx hx.size) (k2.below hx hx.size) hfc (by omega) hsm.2
            have HTM := Lib.hid htm
            have HFC := Lib.hid hfc
            have hS : Below wr.heap.size wr wr.drew := (Below.refl _ _).drew
            clear hb yr hc hbc hcc k1 k5 k2 hmem f0 f1 f2 f3 f4 hcn htm hfc
            go_upto_region 17 with (fail)
            refine wp_region_tailPW 10 (fun w' => Below wr.heap.size wr w') (fun w1 w2 : World => Below w1.heap.size w1 w2) [(fun (x : Value) (_ : World) => x = (.pointer (some ⟨w.heap.size, 12, none⟩) : Value)), (fun (x : Value) (_ : World) => x = (.slice Ap pn cp : Value)), (fun (x : Value) (_ : World) => x = (.pointer (some ⟨w.heap.size, 15, none⟩) : Value)), (fun (x : Value) (_ : World) => x = (.slice (some ⟨bc, oc, none⟩) C cc : Value)), (fun (x : Value) (_ : World) => x = (.int .i64 (q : Int) : Value)), (fun (x : Value) (_ : World) => x = (.pointer (some ⟨bc, oc + q * 6, none⟩) : Value)), (fun (x : Value) (_ : World) => x = (.pointer (some ⟨bc, oc + q * 6 + 1, none⟩) : Value)), (fun (x : Value) (_ : World) => x = (.agg #[.int .i64 u0, .int .i64 u1, .int .i64 u2, .slice U1 v1 x1, .slice U2 v2 x2] : Value)), (fun (x : Value) (w : World) => TmAt w w.heap.size tm x), (fun (x : Value) (w : World) => BoxV wr.heap.size x w)] [(8, NewF tm), (9, NewB)] [⟨8, 9, AwayT tm⟩] [⟨some 81, .fieldAddr 43 (.tmp 3) 4, none, []⟩, ⟨some 82, .load 25 (.tmp 81), none, [(81, 0)]⟩, ⟨some 83, .fieldAddr 43 (.tmp 3) 7, none, []⟩, ⟨some 84, .load 41 (.tmp 83), none, [(83, 2)]⟩, ⟨some 85, .move (.tmp 8), none, []⟩, ⟨some 86, .indexAddr 41 (.tmp 84) (.tmp 85), none, [(84, 3), (85, 4)]⟩, ⟨some 87, .fieldAddr 50 (.tmp 86) 1, none, [(86, 5)]⟩, ⟨some 88, .load 27 (.tmp 87), none, [(87, 6)]⟩, ⟨some 89, .call { callee := .value (.func 15), args := #[.tmp 82, .tmp 88], argTypes := #[25, 27] }, none, [(82, 1), (88, 7)]⟩, ⟨some 9, .alloc 27, none, []⟩] [some 81, some 82, some 83, some 84, some 85, some 86, some 87, some 88, some 89, some 9] (by kernel_rfl) (by kernel_rfl) (by kernel_rfl) (by kernel_rfl) (by kernel_rfl) (by kernel_rfl) ?hb17 ?hS17 ?hmono17 ?hpr17 ?hsteps17 ?hfin17
            case hb17 => intro q9 hq9; simp only [List.mem_cons, List.not_mem_nil, or_false] at hq9; subst hq9; exact ⟨by simp, by simp⟩
            case hS17 => exact hS
            case hmono17 =>
              refine MonoL.cons (fun x w1 w2 _ _ _ hx => hx) ?_
              refine MonoL.cons (fun x w1 w2 _ _ _ hx => hx) ?_
              refine MonoL.cons (fun x w1 w2 _ _ _ hx => hx) ?_
              refine MonoL.cons (fun x w1 w2 _ _ _ hx => hx) ?_
              refine MonoL.cons (fun x w1 w2 _ _ _ hx => hx) ?_
              refine MonoL.cons (fun x w1 w2 _ _ _ hx => hx) ?_
              refine MonoL.cons (fun x w1 w2 _ _ _ hx => hx) ?_
              refine MonoL.cons (fun x w1 w2 _ _ _ hx => hx) ?_
              refine MonoL.cons (fun x w1 w2 _ _ hR hx => ?_) ?_
              · exact hx.below hR hR.size
              refine MonoL.cons (fun x w1 w2 _ _ hR hx => ?_) ?_
              · exact hx.mono hR
              exact MonoL.nil
            case hpr17 =>
              exact awayF_ok (B := wr.heap.size) (by decide) rfl rfl rfl rfl
            case hsteps17 =>
              refine StepsPW.cons (fun (x : Value) (_ : World) => x = (.pointer (some ⟨w.heap.size, 12, none⟩) : Value)) [] rfl rfl rfl (fun oq hop _ wq hQS => ?_) ?_
              · exact StepFrom.fieldAddr hop (p := (.pointer (some ⟨w.heap.size, 0, none⟩) : Value)) (by kernel_rfl) (dc_f4R) (by kernel_rfl) hQS (Below.refl _ _) rfl
              refine StepsPW.cons (fun (x : Value) (_ : World) => x = (.slice Ap pn cp : Value)) [(81, (fun (x : Value) (_ : World) => x = (.pointer (some ⟨w.heap.size, 12, none⟩) : Value)))] rfl rfl rfl (fun oq hop _ wq hQS => ?_) ?_
              · refine StepFrom.more_eq ((.pointer (some ⟨w.heap.size, 12, none⟩) : Value)) ?_
                exact StepFrom.load hop (p := (.pointer (some ⟨w.heap.size, 12, none⟩) : Value)) (by kernel_rfl) (load_tsR ((hQS.cell (p := ⟨w.heap.size, 12, none⟩) HLT.out).trans E12.out)) (by kernel_rfl) hQS (Below.refl _ _) rfl
              refine StepsPW.cons (fun (x : Value) (_ : World) => x = (.pointer (some ⟨w.heap.size, 15, none⟩) : Value)) [] rfl rfl rfl (fun oq hop _ wq hQS => ?_) ?_
              · exact StepFrom.fieldAddr hop (p := (.pointer (some ⟨w.heap.size, 0, none⟩) : Value)) (by kernel_rfl) (dc_f7) (by kernel_rfl) hQS (Below.refl _ _) rfl
              refine StepsPW.cons (fun (x : Value) (_ : World) => x = (.slice (some ⟨bc, oc, none⟩) C cc : Value)) [(83, (fun (x : Value) (_ : World) => x = (.pointer (some ⟨w.heap.size, 15, none⟩) : Value)))] rfl rfl rfl (fun oq hop _ wq hQS => ?_) ?_
              · refine StepFrom.more_eq ((.pointer (some ⟨w.heap.size, 15, none⟩) : Value)) ?_
                exact StepFrom.load hop (p := (.pointer (some ⟨w.heap.size, 15, none⟩) : Value)) (by kernel_rfl) (load_ctorsS ((hQS.cell (p := ⟨w.heap.size, 15, none⟩) HLT.out).trans E15.out)) (by kernel_rfl) hQS (Below.refl _ _) rfl
              refine StepsPW.cons (fun (x : Value) (_ : World) => x = (.int .i64 (q : Int) : Value)) [] rfl rfl rfl (fun oq hop _ wq hQS => ?_) ?_
              · exact StepFrom.move hop (v := (.int .i64 (q : Int) : Value)) (by kernel_rfl) (by kernel_rfl) hQS (Below.refl _ _) rfl
              refine StepsPW.cons (fun (x : Value) (_ : World) => x = (.pointer (some ⟨bc, oc + q * 6, none⟩) : Value)) [(84, (fun (x : Value) (_ : World) => x = (.slice (some ⟨bc, oc, none⟩) C cc : Value))), (85, (fun (x : Value) (_ : World) => x = (.int .i64 (q : Int) : Value)))] rfl rfl rfl (fun oq hop _ wq hQS => ?_) ?_
              · refine StepFrom.more_eq ((.slice (some ⟨bc, oc, none⟩) C cc : Value)) ?_
                refine StepFrom.more_eq ((.int .i64 (q : Int) : Value)) ?_
                exact StepFrom.indexAddr hop (p := (.slice (some ⟨bc, oc, none⟩) C cc : Value)) (q := (.int .i64 (q : Int) : Value)) (by kernel_rfl) (by kernel_rfl) (ctor_addrR HI0.out HI1.out) (by kernel_rfl) hQS (Below.refl _ _) rfl
              refine StepsPW.cons (fun (x : Value) (_ : World) => x = (.pointer (some ⟨bc, oc + q * 6 + 1, none⟩) : Value)) [(86, (fun (x : Value) (_ : World) => x = (.pointer (some ⟨bc, oc + q * 6, none⟩) : Value)))] rfl rfl rfl (fun oq hop _ wq hQS => ?_) ?_
              · refine StepFrom.more_eq ((.pointer (some ⟨bc, oc + q * 6, none⟩) : Value)) ?_
                exact StepFrom.fieldAddr hop (p := (.pointer (some ⟨bc, oc + q * 6, none⟩) : Value)) (by kernel_rfl) (ctor_f1R) (by kernel_rfl) hQS (Below.refl _ _) rfl
              refine StepsPW.cons (fun (x : Value) (_ : World) => x = (.agg #[.int .i64 u0, .int .i64 u1, .int .i64 u2, .slice U1 v1 x1, .slice U2 v2 x2] : Value)) [(87, (fun (x : Value) (_ : World) => x = (.pointer (some ⟨bc, oc + q * 6 + 1, none⟩) : Value)))] rfl rfl rfl (fun oq hop _ wq hQS => ?_) ?_
              · refine StepFrom.more_eq ((.pointer (some ⟨bc, oc + q * 6 + 1, none⟩) : Value)) ?_
                exact StepFrom.load hop (p := (.pointer (some ⟨bc, oc + q * 6 + 1, none⟩) : Value)) (by kernel_rfl) (load_fiveR (HFV.out wq hQS)) (by kernel_rfl) hQS (Below.refl _ _) rfl
              refine StepsPW.new (fun (x : Value) (w : World) => TmAt w w.heap.size tm x) (NewF tm) [(82, (fun (x : Value) (_ : World) => x = (.slice Ap pn cp : Value))), (88, (fun (x : Value) (_ : World) => x = (.agg #[.int .i64 u0, .int .i64 u1, .int .i64 u2, .slice U1 v1 x1, .slice U2 v2 x2] : Value)))] rfl rfl rfl (fun oq hop _ wq hQS => ?_) ?_
              · refine StepFrom.more_eq ((.slice Ap pn cp : Value)) ?_
                refine StepFrom.more_eq ((.agg #[.int .i64 u0, .int .i64 u1, .int .i64 u2, .slice U1 v1 x1, .slice U2 v2 x2] : Value)) ?_
                refine StepFrom.call hop (vs := [(.slice Ap pn cp : Value), (.agg #[.int .i64 u0, .int .i64 u1, .int .i64 u2, .slice U1 v1 x1, .slice U2 v2 x2] : Value)]) (by kernel_rfl) (fun w => enter_tpis _ w) (by kernel_rfl) ((C89.out wq hQS).mono fun e w9 h9 => ?_)
                obtain ⟨v, j1, j2, j3⟩ := h9
                exact ⟨_, j1, hQS.trans (j3.mono hQS.size), j3, j2.tm, j2⟩
              refine StepsPW.new (fun (x : Value) (w : World) => BoxV wr.heap.size x w) NewB [] rfl rfl rfl (fun oq hop _ wq hQS => ?_) ?_
              · exact StepFrom.alloc hop alloc_term (by kernel_rfl) (hQS.alloc hQS.size _) ((Below.refl _ _).alloc (Nat.le_refl _) _) ⟨⟨_, rfl, hQS.size, heap_alloc_new wq _⟩, _, rfl, Nat.le_refl _⟩
              exact StepsPW.nil
            case hfin17 =>
              intro wf hFS
              refine FinalFrom.more fun x81 h81 => ?_
              refine FinalFrom.more fun x82 h82 => ?_
              refine FinalFrom.more fun x83 h83 => ?_
              refine FinalFrom.more fun x84 h84 => ?_
              refine FinalFrom.more fun x85 h85 => ?_
              refine FinalFrom.more fun x86 h86 => ?_
              refine FinalFrom.more fun x87 h87 => ?_
              refine FinalFrom.more fun x88 h88 => ?_
              refine FinalFrom.more fun x89 h89 => ?_
              refine FinalFrom.more fun x9 h9 => ?_
              refine FinalFrom.done ?_
              intro hpr
              have p1 : AwayT tm wf x89 x9 := hpr ⟨8, 9, AwayT tm⟩ (by simp) 89 9 x89 x9 (by kernel_rfl) (by kernel_rfl) (by kernel_rfl) (by kernel_rfl)
              obtain ⟨gx, rfl, hgx0, hgx⟩ := h9
              obtain ⟨g1, eg1, a1'⟩ := p1
              obtain rfl : gx = g1 := by injection eg1 with e; injection e with e; injection e
              obtain ⟨y0, y1, y2, Y1, z1, h1, Y2, z2, h2, rfl⟩ := tm_cells a1'
              obtain ⟨wz, hwz⟩ : ∃ y, wf.setRow gx #[.int .i64 y0, .int .i64 y1, .int .i64 y2, .slice Y1 z1 h1, .slice Y2 z2 h2] = y := ⟨_, rfl⟩
              have hws : wz.heap.size = wf.heap.size := by rw [← hwz]; simp [World.setRow]
              have hzo : ∀ b, b ≠ gx → wz.heap[b]? = wf.heap[b]? := fun b hb => by rw [← hwz]; exact setRow_other _ _ _ _ hb
              have hzx : wz.heap[gx]? = some (.cells #[.int .i64 y0, .int .i64 y1, .int .i64 y2, .slice Y1 z1 h1, .slice Y2 z2 h2] 27 (0, 0)) := by rw [← hwz]; exact setRow_heap _ _ _ _ _ _ hgx
              have hbz : Below wr.heap.size wr wz := by rw [← hwz]; exact below_setRow hFS hgx0 _
              have htz := away_put hgx hzo hws a1'
              have HGX := Lib.hid hzx
              have HTZ := Lib.hid htz
              have HBZ9 := Lib.hid hbz
              have hxz : Below w.heap.size w wz := HWR.out.trans (hbz.mono HWR.out.size)
              have HXZ := Lib.hid hxz
              have yz := (hbz.block _ (heap_some_lt YR.out)).trans YR.out
              have YZ := Lib.hid yz
              simp only [Act.put, List.setIfInBounds_toArray, List.set_cons_zero, List.set_cons_succ, List.drop_succ_cons, List.drop_zero]
              refine wpList_store_row rfl 27 (.tmp 9) (.tmp 89) rfl gx #[.int .i64 y0, .int .i64 y1, .int .i64 y2, .slice Y1 z1 h1, .slice Y2 z2 h2] rfl rfl 27 zeroTm hgx infoT5 rfl (by simp [Value.oneCell']) ?_
              rw [hwz]
              clear hpr eg1 a1' hws hzo hzx hbz htz hgx hgx0 hwz hFS hS h89
              obtain ⟨r1, hr1⟩ : ∃ x, rightSB l 0 (M : Int) dl tm = x := ⟨_, rfl⟩
              obtain ⟨r2, hr2⟩ : ∃ x, tm.right = x := ⟨_, rfl⟩
              obtain ⟨bo1, hbo⟩ : ∃ x, (!r1 && r2) = x := ⟨_, rfl⟩
              obtain ⟨ge, hge⟩ : ∃ x, decide ((M : Int) ≤ cn) = x := ⟨_, rfl⟩
              obtain ⟨bz, hbz2⟩ : ∃ x, (bo1 || ge) = x := ⟨_, rfl⟩
              have hft9 : tm.fit := by rw [← HTM.out]; exact aboveT_fit HFC.out d.pars HFT.out.2.2.1
              have HR1 : Hid (∀ W, Below wz.heap.size wz W → Calls Tryd.prog 9 #[.slice Ad nd cd, .int .i64 l, .int .i64 0, .int .i64 (M : Int), .agg #[.int .i64 y0, .int .i64 y1, .int .i64 y2, .slice Y1 z1 h1, .slice Y2 z2 h2]] W (HasPost W r1)) := fun W hW => by
                have hx := HXZ.out.trans (hW.mono HXZ.out.size)
                have h := rightS_any l 0 (M : Int) dl Ad nd cd tm _ W (HK.out.below hx hw0) (HDS.out.below hx hx.size) HND.out hft9 (by rw [← HTM.out]; have := ctor_size HAL.out HMEM.out; omega) (HTZ.out.below hW hW.size)
                rw [hr1] at h
                exact h
              have HR2 : Hid (∀ W, Below wz.heap.size wz W → Calls Tryd.prog 11 #[.agg #[.int .i64 y0, .int .i64 y1, .int .i64 y2, .slice Y1 z1 h1, .slice Y2 z2 h2]] W (HasPost W r2)) := fun W hW => by
                have hx := HXZ.out.trans (hW.mono HXZ.out.size)
                have h := rightOf_any tm hft9 _ W (HK.out.below hx hw0) (HTZ.out.below hW hW.size)
                rw [hr2] at h
                exact h
              have HNO : Hid (bz = false) := by
                have h1 := ctor_right HBS.out HMEM.out
                have h2 := (ctor_src HBS.out HMEM.out).2
                rw [HLV.out, HTM.out, HMN.out, hr1, hr2] at h1
                rw [HCN8.out, HMN.out] at h2
                have h3 : ge = false := by rw [← hge]; exact decide_eq_false (by omega)
                show bz = false
                rw [← hbz2, h3, ← hbo]
                rcases h1 with h1 | h1 <;> rw [h1] <;> simp
              have HBO := Lib.hid hbo
              have HGE := Lib.hid hge
              have HBZ := Lib.hid hbz2
              have HLZ : Hid (w.heap.size < wz.heap.size) := heap_some_lt yz
              have F1 := Lib.hid ((cell_of_row _ _ 1 _ _ (0, 0) yz).trans Q1.out)
              have F14 := Lib.hid ((cell_of_row _ _ 14 _ _ (0, 0) yz).trans Q14.out)
              have F15 := Lib.hid ((cell_of_row _ _ 15 _ _ (0, 0) yz).trans Q15.out)
              have HLC : Hid (bc < wz.heap.size) := Nat.lt_of_lt_of_le HBC.out HXZ.out.size
              have HCN := Lib.hid ((HXZ.out.cell (p := ⟨bc, oc + q * 6, none⟩) HBC.out).trans HK1.out)
              have hS : Below wz.heap.size wz wz.drew := (Below.refl _ _).drew
              clear hr1 hr2 hbo hge hbz2 hft9 hxz yz e15
              go_upto_region 18 with (fail)
              refine wp_region_tab (fun w' => Below wz.heap.size wz w') (fun w1 w2 : World => Below w1.heap.size w1 w2) [(fun (x : Value) (_ : World) => x = (.slice Ad nd cd : Value)), (fun (x : Value) (_ : World) => x = (.pointer (some ⟨w.heap.size, 1, none⟩) : Value)), (fun (x : Value) (_ : World) => x = (.int .i64 l : Value)), (fun (x : Value) (_ : World) => x = (.pointer (some ⟨w.heap.size, 14, none⟩) : Value)), (fun (x : Value) (_ : World) => x = (.slice Am M cm : Value)), (fun (x : Value) (_ : World) => x = (.int .i64 (M : Int) : Value)), (fun (x : Value) (_ : World) => x = (.agg #[.int .i64 y0, .int .i64 y1, .int .i64 y2, .slice Y1 z1 h1, .slice Y2 z2 h2] : Value)), (fun (x : Value) (_ : World) => x = (.bool r1 : Value)), (fun (x : Value) (_ : World) => x = (.bool (!r1) : Value)), (fun (x : Value) (_ : World) => x = (.bool (!r1) : Value)), (fun (x : Value) (_ : World) => x = gv (!r1) (.agg #[.int .i64 y0, .int .i64 y1, .int .i64 y2, .slice Y1 z1 h1, .slice Y2 z2 h2])), (fun (x : Value) (_ : World) => x = gv (!r1) (.bool r2)), (fun (x : Value) (_ : World) => x = (.bool bo1 : Value)), (fun (x : Value) (_ : World) => x = (.bool bo1 : Value)), (fun (x : Value) (_ : World) => x = gv (!bo1) (.pointer (some ⟨w.heap.size, 15, none⟩))), (fun (x : Value) (_ : World) => x = gv (!bo1) (.slice (some ⟨bc, oc, none⟩) C cc)), (fun (x : Value) (_ : World) => x = gv (!bo1) (.int .i64 (q : Int))), (fun (x : Value) (_ : World) => x = gv (!bo1) (.pointer (some ⟨bc, oc + q * 6, none⟩))), (fun (x : Value) (_ : World) => x = gv (!bo1) (.pointer (some ⟨bc, oc + q * 6, none⟩))), (fun (x : Value) (_ : World) => x = gv (!bo1) (.int .i64 cn)), (fun (x : Value) (_ : World) => x = gv (!bo1) (.pointer (some ⟨w.heap.size, 14, none⟩))), (fun (x : Value) (_ : World) => x = gv (!bo1) (.slice Am M cm)), (fun (x : Value) (_ : World) => x = gv (!bo1) (.int .i64 (M : Int))), (fun (x : Value) (_ : World) => x = gv (!bo1) (.bool ge)), (fun (x : Value) (_ : World) => x = (.bool bz : Value))] [⟨some 90, .move (.tmp 0), none, []⟩, ⟨some 91, .fieldAddr 43 (.tmp 3) 1, none, []⟩, ⟨some 92, .load 3 (.tmp 91), none, [(91, 1)]⟩, ⟨some 93, .fieldAddr 43 (.tmp 3) 6, none, []⟩, ⟨some 94, .load 40 (.tmp 93), none, [(93, 3)]⟩, ⟨some 95, .call { callee := .builtin .len, args := #[.tmp 94], argTypes := #[40] }, none, [(94, 4)]⟩, ⟨some 96, .load 27 (.tmp 9), none, []⟩, ⟨some 97, .call { callee := .value (.func 9), args := #[.tmp 90, .tmp 92, .const (.int .i64 0), .tmp 95, .tmp 96], argTypes := #[22, 3, 3, 3, 27] }, none, [(90, 0), (92, 2), (95, 5), (96, 6)]⟩, ⟨some 98, .unOp .not 4 (.tmp 97), none, [(97, 7)]⟩, ⟨some 99, .move (.tmp 98), none, [(98, 8)]⟩, ⟨some 100, .load 27 (.tmp 9), some (some 99, true), [(99, 9)]⟩, ⟨some 101, .call { callee := .value (.func 11), args := #[.tmp 100], argTypes := #[27] }, some (some 99, true), [(99, 9), (100, 10)]⟩, ⟨some 102, .pick (.tmp 99) (.tmp 101) (.const (Value.bool false)), none, [(99, 9), (101, 11)]⟩, ⟨some 103, .move (.tmp 102), none, [(102, 12)]⟩, ⟨some 104, .fieldAddr 43 (.tmp 3) 7, some (some 103, false), [(103, 13)]⟩, ⟨some 105, .load 41 (.tmp 104), some (some 103, false), [(103, 13), (104, 14)]⟩, ⟨some 106, .move (.tmp 8), some (some 103, false), [(103, 13)]⟩, ⟨some 107, .indexAddr 41 (.tmp 105) (.tmp 106), some (some 103, false), [(103, 13), (105, 15), (106, 16)]⟩, ⟨some 108, .fieldAddr 50 (.tmp 107) 0, some (some 103, false), [(103, 13), (107, 17)]⟩, ⟨some 109, .load 3 (.tmp 108), some (some 103, false), [(103, 13), (108, 18)]⟩, ⟨some 110, .fieldAddr 43 (.tmp 3) 6, some (some 103, false), [(103, 13)]⟩, ⟨some 111, .load 40 (.tmp 110), some (some 103, false), [(103, 13), (110, 20)]⟩, ⟨some 112, .call { callee := .builtin .len, args := #[.tmp 111], argTypes := #[40] }, some (some 103, false), [(103, 13), (111, 21)]⟩, ⟨some 113, .binOp .geq 3 (.tmp 109) (.tmp 112) 3, some (some 103, false), [(103, 13), (109, 19), (112, 22)]⟩, ⟨some 114, .pick (.tmp 103) (.const (Value.bool true)) (.tmp 113), none, [(103, 13), (113, 23)]⟩] [some 90, some 91, some 92, some 93, some 94, some 95, some 96, some 97, some 98, some 99, some 100, some 101, some 102, some 103, some 104, some 105, some 106, some 107, some 108, some 109, some 110, some 111, some 112, some 113, some 114] (by kernel_rfl) (by kernel_rfl) (by kernel_rfl) (by kernel_rfl) (by kernel_rfl) ?hS18 ?hmono18 ?hsteps18 ?hfin18
              case hS18 => exact hS
              case hmono18 =>
                refine MonoL.cons (fun x w1 w2 _ _ _ hx => hx) ?_
                refine MonoL.cons (fun x w1 w2 _ _ _ hx => hx) ?_
                refine MonoL.cons (fun x w1 w2 _ _ _ hx => hx) ?_
                refine MonoL.cons (fun x w1 w2 _ _ _ hx => hx) ?_
                refine MonoL.cons (fun x w1 w2 _ _ _ hx => hx) ?_
                refine MonoL.cons (fun x w1 w2 _ _ _ hx => hx) ?_
                refine MonoL.cons (fun x w1 w2 _ _ _ hx => hx) ?_
                refine MonoL.cons (fun x w1 w2 _ _ _ hx => hx) ?_
                refine MonoL.cons (fun x w1 w2 _ _ _ hx => hx) ?_
                refine MonoL.cons (fun x w1 w2 _ _ _ hx => hx) ?_
                refine MonoL.cons (fun x w1 w2 _ _ _ hx => hx) ?_
                refine MonoL.cons (fun x w1 w2 _ _ _ hx => hx) ?_
                refine MonoL.cons (fun x w1 w2 _ _ _ hx => hx) ?_
                refine MonoL.cons (fun x w1 w2 _ _ _ hx => hx) ?_
                refine MonoL.cons (fun x w1 w2 _ _ _ hx => hx) ?_
                refine MonoL.cons (fun x w1 w2 _ _ _ hx => hx) ?_
                refine MonoL.cons (fun x w1 w2 _ _ _ hx => hx) ?_
                refine MonoL.cons (fun x w1 w2 _ _ _ hx => hx) ?_
                refine MonoL.cons (fun x w1 w2 _ _ _ hx => hx) ?_
                refine MonoL.cons (fun x w1 w2 _ _ _ hx => hx) ?_
                refine MonoL.cons (fun x w1 w2 _ _ _ hx => hx) ?_
                refine MonoL.cons (fun x w1 w2 _ _ _ hx => hx) ?_
                refine MonoL.cons (fun x w1 w2 _ _ _ hx => hx) ?_
                refine MonoL.cons (fun x w1 w2 _ _ _ hx => hx) ?_
                refine MonoL.cons (fun x w1 w2 _ _ _ hx => hx) ?_
                exact MonoL.nil
              case hsteps18 =>
                refine StepsT.cons (fun (x : Value) (_ : World) => x = (.slice Ad nd cd : Value)) [] rfl rfl (fun oq hop _ wq hQS => ?_) ?_
                · exact StepFrom.move hop (v := (.slice Ad nd cd : Value)) (by kernel_rfl) (by kernel_rfl) hQS (Below.refl _ _) rfl
                refine StepsT.cons (fun (x : Value) (_ : World) => x = (.pointer (some ⟨w.heap.size, 1, none⟩) : Value)) [] rfl rfl (fun oq hop _ wq hQS => ?_) ?_
                · exact StepFrom.fieldAddr hop (p := (.pointer (some ⟨w.heap.size, 0, none⟩) : Value)) (by kernel_rfl) (dc_f1) (by kernel_rfl) hQS (Below.refl _ _) rfl
                refine StepsT.cons (fun (x : Value) (_ : World) => x = (.int .i64 l : Value)) [(91, (fun (x : Value) (_ : World) => x = (.pointer (some ⟨w.heap.size, 1, none⟩) : Value)))] rfl rfl (fun oq hop _ wq hQS => ?_) ?_
                · refine StepFrom.more_eq ((.pointer (some ⟨w.heap.size, 1, none⟩) : Value)) ?_
                  exact StepFrom.load hop (p := (.pointer (some ⟨w.heap.size, 1, none⟩) : Value)) (by kernel_rfl) (load_intR ((hQS.cell (p := ⟨w.heap.size, 1, none⟩) HLZ.out).trans F1.out)) (by kernel_rfl) hQS (Below.refl _ _) rfl
                refine StepsT.cons (fun (x : Value) (_ : World) => x = (.pointer (some ⟨w.heap.size, 14, none⟩) : Value)) [] rfl rfl (fun oq hop _ wq hQS => ?_) ?_
                · exact StepFrom.fieldAddr hop (p := (.pointer (some ⟨w.heap.size, 0, none⟩) : Value)) (by kernel_rfl) (dc_f6) (by kernel_rfl) hQS (Below.refl _ _) rfl
                refine StepsT.cons (fun (x : Value) (_ : World) => x = (.slice Am M cm : Value)) [(93, (fun (x : Value) (_ : World) => x = (.pointer (some ⟨w.heap.size, 14, none⟩) : Value)))] rfl rfl (fun oq hop _ wq hQS => ?_) ?_
                · refine StepFrom.more_eq ((.pointer (some ⟨w.heap.size, 14, none⟩) : Value)) ?_
                  exact StepFrom.load hop (p := (.pointer (some ⟨w.heap.size, 14, none⟩) : Value)) (by kernel_rfl) (load_memsS ((hQS.cell (p := ⟨w.heap.size, 14, none⟩) HLZ.out).trans F14.out)) (by kernel_rfl) hQS (Below.refl _ _) rfl
                refine StepsT.cons (fun (x : Value) (_ : World) => x = (.int .i64 (M : Int) : Value)) [(94, (fun (x : Value) (_ : World) => x = (.slice Am M cm : Value)))] rfl rfl (fun oq hop _ wq hQS => ?_) ?_
                · refine StepFrom.more_eq ((.slice Am M cm : Value)) ?_
                  exact StepFrom.lenM hop (show _ = (.slice Am M cm : Value) by kernel_rfl) (by kernel_rfl) hQS (Below.refl _ _) rfl
                refine StepsT.cons (fun (x : Value) (_ : World) => x = (.agg #[.int .i64 y0, .int .i64 y1, .int .i64 y2, .slice Y1 z1 h1, .slice Y2 z2 h2] : Value)) [] rfl rfl (fun oq hop _ wq hQS => ?_) ?_
                · exact StepFrom.load hop (p := (.pointer (some ⟨gx, 0, none⟩) : Value)) (by kernel_rfl) (load_box9s HGX.out hQS) (by kernel_rfl) hQS (Below.refl _ _) rfl
                refine StepsT.cons (fun (x : Value) (_ : World) => x = (.bool r1 : Value)) [(90, (fun (x : Value) (_ : World) => x = (.slice Ad nd cd : Value))), (92, (fun (x : Value) (_ : World) => x = (.int .i64 l : Value))), (95, (fun (x : Value) (_ : World) => x = (.int .i64 (M : Int) : Value))), (96, (fun (x : Value) (_ : World) => x = (.agg #[.int .i64 y0, .int .i64 y1, .int .i64 y2, .slice Y1 z1 h1, .slice Y2 z2 h2] : Value)))] rfl rfl (fun oq hop _ wq hQS => ?_) ?_
                · refine StepFrom.more_eq ((.slice Ad nd cd : Value)) ?_
                  refine StepFrom.more_eq ((.int .i64 l : Value)) ?_
                  refine StepFrom.more_eq ((.int .i64 (M : Int) : Value)) ?_
                  refine StepFrom.more_eq ((.agg #[.int .i64 y0, .int .i64 y1, .int .i64 y2, .slice Y1 z1 h1, .slice Y2 z2 h2] : Value)) ?_
                  exact StepFrom.call hop (vs := [(.slice Ad nd cd : Value), (.int .i64 l : Value), (.int .i64 0 : Value), (.int .i64 (M : Int) : Value), (.agg #[.int .i64 y0, .int .i64 y1, .int .i64 y2, .slice Y1 z1 h1, .slice Y2 z2 h2] : Value)]) (by kernel_rfl) (fun w => enter_srightX _ w) (by kernel_rfl) ((HR1.out wq hQS).mono fun e w9 h9 => by obtain ⟨j1, j2⟩ := h9; exact ⟨_, j1, hQS.trans (j2.mono hQS.size), j2, rfl⟩)
                refine StepsT.cons (fun (x : Value) (_ : World) => x = (.bool (!r1) : Value)) [(97, (fun (x : Value) (_ : World) => x = (.bool r1 : Value)))] rfl rfl (fun oq hop _ wq hQS => ?_) ?_
                · refine StepFrom.more_eq ((.bool r1 : Value)) ?_
                  exact StepFrom.not hop (b := r1) (by kernel_rfl) (by kernel_rfl) hQS (Below.refl _ _) rfl
                refine StepsT.cons (fun (x : Value) (_ : World) => x = (.bool (!r1) : Value)) [(98, (fun (x : Value) (_ : World) => x = (.bool (!r1) : Value)))] rfl rfl (fun oq hop _ wq hQS => ?_) ?_
                · refine StepFrom.more_eq ((.bool (!r1) : Value)) ?_
                  exact StepFrom.move hop (v := (.bool (!r1) : Value)) (by kernel_rfl) (by kernel_rfl) hQS (Below.refl _ _) rfl
                refine StepsT.cons (fun (x : Value) (_ : World) => x = gv (!r1) (.agg #[.int .i64 y0, .int .i64 y1, .int .i64 y2, .slice Y1 z1 h1, .slice Y2 z2 h2])) [(99, (fun (x : Value) (_ : World) => x = (.bool (!r1) : Value)))] rfl rfl (fun oq hop _ wq hQS => ?_) ?_
                · rcases r1 with _ | _
                  · refine StepFrom.more_eq ((.bool (!false) : Value)) ?_
                    exact StepFrom.load hop (p := (.pointer (some ⟨gx, 0, none⟩) : Value)) (by kernel_rfl) (load_box9s HGX.out hQS) (by kernel_rfl) hQS (Below.refl _ _) rfl
                  · refine StepFrom.more_eq ((.bool (!true) : Value)) ?_
                    exact StepFrom.off (by kernel_rfl) hQS (Below.refl _ _) rfl
                refine StepsT.cons (fun (x : Value) (_ : World) => x = gv (!r1) (.bool r2)) [(99, (fun (x : Value) (_ : World) => x = (.bool (!r1) : Value))), (100, (fun (x : Value) (_ : World) => x = gv (!r1) (.agg #[.int .i64 y0, .int .i64 y1, .int .i64 y2, .slice Y1 z1 h1, .slice Y2 z2 h2])))] rfl rfl (fun oq hop _ wq hQS => ?_) ?_
                · rcases r1 with _ | _
                  · refine StepFrom.more_eq ((.bool (!false) : Value)) ?_
                    refine StepFrom.more_eq ((.agg #[.int .i64 y0, .int .i64 y1, .int .i64 y2, .slice Y1 z1 h1, .slice Y2 z2 h2] : Value)) ?_
                    exact StepFrom.call hop (vs := [(.agg #[.int .i64 y0, .int .i64 y1, .int .i64 y2, .slice Y1 z1 h1, .slice Y2 z2 h2] : Value)]) (by kernel_rfl) (fun w => enter_tright _ w) (by kernel_rfl) ((HR2.out wq hQS).mono fun e w9 h9 => by obtain ⟨j1, j2⟩ := h9; exact ⟨_, j1, hQS.trans (j2.mono hQS.size), j2, rfl⟩)
                  · refine StepFrom.more_eq ((.bool (!true) : Value)) ?_
                    refine StepFrom.more_eq (undef) ?_
                    exact StepFrom.off (by kernel_rfl) hQS (Below.refl _ _) rfl
                refine StepsT.cons (fun (x : Value) (_ : World) => x = (.bool bo1 : Value)) [(99, (fun (x : Value) (_ : World) => x = (.bool (!r1) : Value))), (101, (fun (x : Value) (_ : World) => x = gv (!r1) (.bool r2)))] rfl rfl (fun oq hop _ wq hQS => ?_) ?_
                · refine StepFrom.more_eq ((.bool (!r1) : Value)) ?_
                  refine StepFrom.more_eq (gv (!r1) (.bool r2)) ?_
                  exact StepFrom.pick hop (b := (!r1)) (vx := gv (!r1) (.bool r2)) (vy := (Value.bool false : Value)) (by kernel_rfl) (by kernel_rfl) (by kernel_rfl) (by kernel_rfl) hQS (Below.refl _ _) (by rw [← HBO.out]; cases r1 <;> cases r2 <;> rfl)
                refine StepsT.cons (fun (x : Value) (_ : World) => x = (.bool bo1 : Value)) [(102, (fun (x : Value) (_ : World) => x = (.bool bo1 : Value)))] rfl rfl (fun oq hop _ wq hQS => ?_) ?_
                · refine StepFrom.more_eq ((.bool bo1 : Value)) ?_
                  exact StepFrom.move hop (v := (.bool bo1 : Value)) (by kernel_rfl) (by kernel_rfl) hQS (Below.refl _ _) rfl
                refine StepsT.cons (fun (x : Value) (_ : World) => x = gv (!bo1) (.pointer (some ⟨w.heap.size, 15, none⟩))) [(103, (fun (x : Value) (_ : World) => x = (.bool bo1 : Value)))] rfl rfl (fun oq hop _ wq hQS => ?_) ?_
                · rcases bo1 with _ | _
                  · refine StepFrom.more_eq ((.bool false : Value)) ?_
                    exact StepFrom.fieldAddr hop (p := (.pointer (some ⟨w.heap.size, 0, none⟩) : Value)) (by kernel_rfl) (dc_f7) (by kernel_rfl) hQS (Below.refl _ _) rfl
                  · refine StepFrom.more_eq ((.bool true : Value)) ?_
                    exact StepFrom.off (by kernel_rfl) hQS (Below.refl _ _) rfl
                refine StepsT.cons (fun (x : Value) (_ : World) => x = gv (!bo1) (.slice (some ⟨bc, oc, none⟩) C cc)) [(103, (fun (x : Value) (_ : World) => x = (.bool bo1 : Value))), (104, (fun (x : Value) (_ : World) => x = gv (!bo1) (.pointer (some ⟨w.heap.size, 15, none⟩))))] rfl rfl (fun oq hop _ wq hQS => ?_) ?_
                · rcases bo1 with _ | _
                  · refine StepFrom.more_eq ((.bool false : Value)) ?_
                    refine StepFrom.more_eq ((.pointer (some ⟨w.heap.size, 15, none⟩) : Value)) ?_
                    exact StepFrom.load hop (p := (.pointer (some ⟨w.heap.size, 15, none⟩) : Value)) (by kernel_rfl) (load_ctorsS ((hQS.cell (p := ⟨w.heap.size, 15, none⟩) HLZ.out).trans F15.out)) (by kernel_rfl) hQS (Below.refl _ _) rfl
                  · refine StepFrom.more_eq ((.bool true : Value)) ?_
                    refine StepFrom.more_eq (undef) ?_
                    exact StepFrom.off (by kernel_rfl) hQS (Below.refl _ _) rfl
                refine StepsT.cons (fun (x : Value) (_ : World) => x = gv (!bo1) (.int .i64 (q : Int))) [(103, (fun (x : Value) (_ : World) => x = (.bool bo1 : Value)))] rfl rfl (fun oq hop _ wq hQS => ?_) ?_
                · rcases bo1 with _ | _
                  · refine StepFrom.more_eq ((.bool false : Value)) ?_
                    exact StepFrom.move hop (v := (.int .i64 (q : Int) : Value)) (by kernel_rfl) (by kernel_rfl) hQS (Below.refl _ _) rfl
                  · refine StepFrom.more_eq ((.bool true : Value)) ?_
                    exact StepFrom.off (by kernel_rfl) hQS (Below.refl _ _) rfl
                refine StepsT.cons (fun (x : Value) (_ : World) => x = gv (!bo1) (.pointer (some ⟨bc, oc + q * 6, none⟩))) [(103, (fun (x : Value) (_ : World) => x = (.bool bo1 : Value))), (105, (fun (x : Value) (_ : World) => x = gv (!bo1) (.slice (some ⟨bc, oc, none⟩) C cc))), (106, (fun (x : Value) (_ : World) => x = gv (!bo1) (.int .i64 (q : Int))))] rfl rfl (fun oq hop _ wq hQS => ?_) ?_
                · rcases bo1 with _ | _
                  · refine StepFrom.more_eq ((.bool false : Value)) ?_
                    refine StepFrom.more_eq ((.slice (some ⟨bc, oc, none⟩) C cc : Value)) ?_
                    refine StepFrom.more_eq ((.int .i64 (q : Int) : Value)) ?_
                    exact StepFrom.indexAddr hop (p := (.slice (some ⟨bc, oc, none⟩) C cc : Value)) (q := (.int .i64 (q : Int) : Value)) (by kernel_rfl) (by kernel_rfl) (ctor_addrR HI0.out HI1.out) (by kernel_rfl) hQS (Below.refl _ _) rfl
                  · refine StepFrom.more_eq ((.bool true : Value)) ?_
                    refine StepFrom.more_eq (undef) ?_
                    refine StepFrom.more_eq (undef) ?_
                    exact StepFrom.off (by kernel_rfl) hQS (Below.refl _ _) rfl
                refine StepsT.cons (fun (x : Value) (_ : World) => x = gv (!bo1) (.pointer (some ⟨bc, oc + q * 6, none⟩))) [(103, (fun (x : Value) (_ : World) => x = (.bool bo1 : Value))), (107, (fun (x : Value) (_ : World) => x = gv (!bo1) (.pointer (some ⟨bc, oc + q * 6, none⟩))))] rfl rfl (fun oq hop _ wq hQS => ?_) ?_
                · rcases bo1 with _ | _
                  · refine StepFrom.more_eq ((.bool false : Value)) ?_
                    refine StepFrom.more_eq ((.pointer (some ⟨bc, oc + q * 6, none⟩) : Value)) ?_
                    exact StepFrom.fieldAddr hop (p := (.pointer (some ⟨bc, oc + q * 6, none⟩) : Value)) (by kernel_rfl) (ctor_f0R) (by kernel_rfl) hQS (Below.refl _ _) rfl
                  · refine StepFrom.more_eq ((.bool true : Value)) ?_
                    refine StepFrom.more_eq (undef) ?_
                    exact StepFrom.off (by kernel_rfl) hQS (Below.refl _ _) rfl
                refine StepsT.cons (fun (x : Value) (_ : World) => x = gv (!bo1) (.int .i64 cn)) [(103, (fun (x : Value) (_ : World) => x = (.bool bo1 : Value))), (108, (fun (x : Value) (_ : World) => x = gv (!bo1) (.pointer (some ⟨bc, oc + q * 6, none⟩))))] rfl rfl (fun oq hop _ wq hQS => ?_) ?_
                · rcases bo1 with _ | _
                  · refine StepFrom.more_eq ((.bool false : Value)) ?_
                    refine StepFrom.more_eq ((.pointer (some ⟨bc, oc + q * 6, none⟩) : Value)) ?_
                    exact StepFrom.load hop (p := (.pointer (some ⟨bc, oc + q * 6, none⟩) : Value)) (by kernel_rfl) (load_intR ((hQS.cell (p := ⟨bc, oc + q * 6, none⟩) HLC.out).trans HCN.out)) (by kernel_rfl) hQS (Below.refl _ _) rfl
                  · refine StepFrom.more_eq ((.bool true : Value)) ?_
                    refine StepFrom.more_eq (undef) ?_
                    exact StepFrom.off (by kernel_rfl) hQS (Below.refl _ _) rfl
                refine StepsT.cons (fun (x : Value) (_ : World) => x = gv (!bo1) (.pointer (some ⟨w.heap.size, 14, none⟩))) [(103, (fun (x : Value) (_ : World) => x = (.bool bo1 : Value)))] rfl rfl (fun oq hop _ wq hQS => ?_) ?_
                · rcases bo1 with _ | _
                  · refine StepFrom.more_eq ((.bool false : Value)) ?_
                    exact StepFrom.fieldAddr hop (p := (.pointer (some ⟨w.heap.size, 0, none⟩) : Value)) (by kernel_rfl) (dc_f6) (by kernel_rfl) hQS (Below.refl _ _) rfl
                  · refine StepFrom.more_eq ((.bool true : Value)) ?_
                    exact StepFrom.off (by kernel_rfl) hQS (Below.refl _ _) rfl
                refine StepsT.cons (fun (x : Value) (_ : World) => x = gv (!bo1) (.slice Am M cm)) [(103, (fun (x : Value) (_ : World) => x = (.bool bo1 : Value))), (110, (fun (x : Value) (_ : World) => x = gv (!bo1) (.pointer (some ⟨w.heap.size, 14, none⟩))))] rfl rfl (fun oq hop _ wq hQS => ?_) ?_
                · rcases bo1 with _ | _
                  · refine StepFrom.more_eq ((.bool false : Value)) ?_
                    refine StepFrom.more_eq ((.pointer (some ⟨w.heap.size, 14, none⟩) : Value)) ?_
                    exact StepFrom.load hop (p := (.pointer (some ⟨w.heap.size, 14, none⟩) : Value)) (by kernel_rfl) (load_memsS ((hQS.cell (p := ⟨w.heap.size, 14, none⟩) HLZ.out).trans F14.out)) (by kernel_rfl) hQS (Below.refl _ _) rfl
                  · refine StepFrom.more_eq ((.bool true : Value)) ?_
                    refine StepFrom.more_eq (undef) ?_
                    exact StepFrom.off (by kernel_rfl) hQS (Below.refl _ _) rfl
                refine StepsT.cons (fun (x : Value) (_ : World) => x = gv (!bo1) (.int .i64 (M : Int))) [(103, (fun (x : Value) (_ : World) => x = (.bool bo1 : Value))), (111, (fun (x : Value) (_ : World) => x = gv (!bo1) (.slice Am M cm)))] rfl rfl (fun oq hop _ wq hQS => ?_) ?_
                · rcases bo1 with _ | _
                  · refine StepFrom.more_eq ((.bool false : Value)) ?_
                    refine StepFrom.more_eq ((.slice Am M cm : Value)) ?_
                    exact StepFrom.lenM hop (show _ = (.slice Am M cm : Value) by kernel_rfl) (by kernel_rfl) hQS (Below.refl _ _) rfl
                  · refine StepFrom.more_eq ((.bool true : Value)) ?_
                    refine StepFrom.more_eq (undef) ?_
                    exact StepFrom.off (by kernel_rfl) hQS (Below.refl _ _) rfl
                refine StepsT.cons (fun (x : Value) (_ : World) => x = gv (!bo1) (.bool ge)) [(103, (fun (x : Value) (_ : World) => x = (.bool bo1 : Value))), (109, (fun (x : Value) (_ : World) => x = gv (!bo1) (.int .i64 cn))), (112, (fun (x : Value) (_ : World) => x = gv (!bo1) (.int .i64 (M : Int))))] rfl rfl (fun oq hop _ wq hQS => ?_) ?_
                · rcases bo1 with _ | _
                  · refine StepFrom.more_eq ((.bool false : Value)) ?_
                    refine StepFrom.more_eq ((.int .i64 cn : Value)) ?_
                    refine StepFrom.more_eq ((.int .i64 (M : Int) : Value)) ?_
                    exact StepFrom.bin hop (vx := (.int .i64 cn : Value)) (vy := (.int .i64 (M : Int) : Value)) (by kernel_rfl) (by kernel_rfl) (geq_toR _ _ _ HGE.out) (by kernel_rfl) hQS (Below.refl _ _) rfl
                  · refine StepFrom.more_eq ((.bool true : Value)) ?_
                    refine StepFrom.more_eq (undef) ?_
                    refine StepFrom.more_eq (undef) ?_
                    exact StepFrom.off (by kernel_rfl) hQS (Below.refl _ _) rfl
                refine StepsT.cons (fun (x : Value) (_ : World) => x = (.bool bz : Value)) [(103, (fun (x : Value) (_ : World) => x = (.bool bo1 : Value))), (113, (fun (x : Value) (_ : World) => x = gv (!bo1) (.bool ge)))] rfl rfl (fun oq hop _ wq hQS => ?_) ?_
                · refine StepFrom.more_eq ((.bool bo1 : Value)) ?_
                  refine StepFrom.more_eq (gv (!bo1) (.bool ge)) ?_
                  exact StepFrom.pick hop (b := bo1) (vx := (Value.bool true : Value)) (vy := gv (!bo1) (.bool ge)) (by kernel_rfl) (by kernel_rfl) (by kernel_rfl) (by kernel_rfl) hQS (Below.refl _ _) (by rw [← HBZ.out]; cases bo1 <;> cases ge <;> rfl)
                exact StepsT.nil
              case hfin18 =>
                intro wf hFS
                refine FinalFrom.more fun x90 h90 => ?_
                refine FinalFrom.more fun x91 h91 => ?_
                refine FinalFrom.more fun x92 h92 => ?_
                refine FinalFrom.more fun x93 h93 => ?_
                refine FinalFrom.more fun x94 h94 => ?_
                refine FinalFrom.more fun x95 h95 => ?_
                refine FinalFrom.more fun x96 h96 => ?_
                refine FinalFrom.more fun x97 h97 => ?_
                refine FinalFrom.more fun x98 h98 => ?_
                refine FinalFrom.more fun x99 h99 => ?_
                refine FinalFrom.more fun x100 h100 => ?_
                refine FinalFrom.more fun x101 h101 => ?_
                refine FinalFrom.more fun x102 h102 => ?_
                refine FinalFrom.more fun x103 h103 => ?_
                refine FinalFrom.more fun x104 h104 => ?_
                refine FinalFrom.more fun x105 h105 => ?_
                refine FinalFrom.more fun x106 h106 => ?_
                refine FinalFrom.more fun x107 h107 => ?_
                refine FinalFrom.more fun x108 h108 => ?_
                refine FinalFrom.more fun x109 h109 => ?_
                refine FinalFrom.more fun x110 h110 => ?_
                refine FinalFrom.more fun x111 h111 => ?_
                refine FinalFrom.more fun x112 h112 => ?_
                refine FinalFrom.more fun x113 h113 => ?_
                refine FinalFrom.more fun x114 h114 => ?_
                refine FinalFrom.done ?_
                obtain rfl : x114 = (.bool bz : Value) := h114
                simp only [Act.put, List.setIfInBounds_toArray, List.set_cons_zero, List.set_cons_succ]
                have HBF : Hid (Below w6.heap.size w6 wf) := HBR.out.trans ((HBZ9.out.trans (hFS.mono HBZ9.out.size)).mono HBR.out.size)
                have hno := HNO.out
                subst hno
                clear hS hFS
                go_wp2_with (fail)
                go_roundw
                case rel => exact ⟨q + 1, by omega, by go_num, HBF.out⟩
                case measure => simp [intOf]; omega
          · obtain rfl : C = q := by omega
            have HF : Hid (Below w.heap.size w wr) := HWR.out
            clear hb yr
            go_wp2
            go_ret
            exact ⟨rfl, HF.out⟩
end Go.Proofs.YtfgnnbpbbnnnhaaDoor
