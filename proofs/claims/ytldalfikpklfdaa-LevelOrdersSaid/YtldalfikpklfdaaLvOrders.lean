/- LevelOrders answers true of all levels and rows of levels. -/
import Derived.Test.YtldalfikpklfdaaLvVals
import Derived.Deep.RegionHeld3
import Derived.Test.YtldalfikpklfdaaLvRuns
import Derived.Test.YtldalfikpklfdaaLvFacts
import Derived.Deep.OwnRows
import Derived.Deep.Cut
import Derived.Deep.CutRange
namespace Go.Proofs.Ytldalfikpklfdaa
open Go.RowKit Go.Maps

theorem infoL : (Try.prog.info? 25).map (fun i => (i.zero, i.size, i.bytes)) = some (some (.agg #[.slice none 0 0]), 1, 24) := by kernel_rfl

/-- A row of levels in memory, its cells' values. -/
def LevRow (w : World) (ls : List (List (Int × Int))) (vs : List Value) : Prop :=
  vs.length = ls.length ∧ ∀ i, i < ls.length → ∃ Ai ci, vs[i]? = some (.slice Ai (ls.getD i []).length ci) ∧ Lev w w.heap.size Ai (ls.getD i []) ∧ (Ai = none → ci = 0) ∧ (ls.getD i []).length ≤ 4611686018427387904
theorem LevRow.below {w w' : World} {ls : List (List (Int × Int))} {vs : List Value} (h : LevRow w ls vs) (hb : Below w.heap.size w w') : LevRow w' ls vs :=
  ⟨h.1, fun i hi => by
    obtain ⟨Ai, ci, h1, h2, h3⟩ := h.2 i hi
    exact ⟨Ai, ci, h1, (h2.below hb).more hb.size, h3⟩⟩
theorem levs_row {w : World} {A : Option Addr} {ls : List (List (Int × Int))} (h : Levs w w.heap.size A ls) : ∃ vs, LevRow w ls vs ∧ (0 < ls.length → ∃ b o, A = some ⟨b, o, none⟩ ∧ b < w.heap.size ∧ ∀ j u, vs[j]? = some u → w.cell? ⟨b, o + j, none⟩ = some u) := by
  rcases Nat.eq_zero_or_pos ls.length with h0 | h0
  · exact ⟨[], ⟨by simp [h0], fun i hi => by omega⟩, fun h => by omega⟩
  · obtain ⟨b, o, e, hb, hc⟩ := h h0
    have each : ∀ i, i < ls.length → ∃ v, w.cell? ⟨b, o + i, none⟩ = some v ∧ ∃ Ai ci, v = .slice Ai (ls.getD i []).length ci ∧ Lev w w.heap.size Ai (ls.getD i []) ∧ (Ai = none → ci = 0) ∧ (ls.getD i []).length ≤ 4611686018427387904 := fun i hi => by
      obtain ⟨Ai, ci, h1, h2⟩ := hc i hi
      exact ⟨_, h1, Ai, ci, rfl, h2⟩
    obtain ⟨q, hq⟩ := Deep.choose_lt each
    refine ⟨(List.range ls.length).map q, ⟨by simp, fun i hi => ?_⟩, fun _ => ⟨b, o, e, hb, fun j u hu => ?_⟩⟩
    · obtain ⟨_, Ai, ci, h1, h2⟩ := hq i hi
      exact ⟨Ai, ci, by simp [hi, h1], h2⟩
    · have hj : j < ls.length := by
        have := (List.getElem?_eq_some_iff.1 hu).1
        simpa using this
      have e2 : ((List.range ls.length).map q)[j]? = some (q j) := by simp [hj]
      rw [e2] at hu
      injection hu with hu
      rw [← hu]
      exact (hq j hj).1
theorem row_levs {w : World} {B g n cap : Nat} {t : TypeId} {ls : List (List (Int × Int))} {vs : List Value} (h : w.ownsRow B t 1 (.slice (some ⟨g, 0, none⟩) n cap) n vs) (hr : LevRow w ls vs) (hg : g < w.heap.size) : Levs w w.heap.size (some ⟨g, 0, none⟩) ls := fun _ =>
  ⟨g, 0, rfl, hg, fun i hi => by
    obtain ⟨Ai, ci, h1, h2⟩ := hr.2 i hi
    refine ⟨Ai, ci, ?_, h2⟩
    rw [Nat.zero_add, h.cellAt i ?_]
    · exact h1
    · have h3 := h.1
      have h4 := hr.1
      omega⟩
theorem row_app {w : World} {ls ms : List (List (Int × Int))} {vs us : List Value} (h : LevRow w ls vs) (k : LevRow w ms us) : LevRow w (ls ++ ms) (vs ++ us) := by
  refine ⟨by rw [List.length_append, List.length_append, h.1, k.1], fun i hi => ?_⟩
  rw [List.length_append] at hi
  by_cases hl : i < ls.length
  · obtain ⟨Ai, ci, h1, h2⟩ := h.2 i hl
    have e : (ls ++ ms).getD i [] = ls.getD i [] := by rw [List.getD_eq_getElem?_getD, List.getElem?_append_left hl, ← List.getD_eq_getElem?_getD]
    rw [e]
    exact ⟨Ai, ci, by rw [List.getElem?_append_left (by rw [h.1]; exact hl)]; exact h1, h2⟩
  · obtain ⟨Ai, ci, h1, h2⟩ := k.2 (i - ls.length) (by omega)
    have e : (ls ++ ms).getD i [] = ms.getD (i - ls.length) [] := by rw [List.getD_eq_getElem?_getD, List.getElem?_append_right (by omega), ← List.getD_eq_getElem?_getD]
    rw [e]
    exact ⟨Ai, ci, by rw [List.getElem?_append_right (by rw [h.1]; omega), h.1]; exact h1, h2⟩
theorem row_one {w : World} {A : Option Addr} {ps : List (Int × Int)} {c : Nat} (h : Lev w w.heap.size A ps) (hc : A = none → c = 0) (hn : ps.length ≤ 4611686018427387904) : LevRow w [ps] [.slice A ps.length c] :=
  ⟨rfl, fun i hi => by
    obtain rfl : i = 0 := by simpa using hi
    exact ⟨A, c, rfl, h, hc, hn⟩⟩

/-- what a level in memory is -/
def LvAt (w : World) (A : Option Addr) (n c : Nat) (ps : List (Int × Int)) : Prop := n = ps.length ∧ Lev w w.heap.size A ps ∧ (A = none → c = 0)
theorem LvAt.step {w w' : World} {A : Option Addr} {n c : Nat} {ps : List (Int × Int)} (h : LvAt w A n c ps) (hb : Below w.heap.size w w') : LvAt w' A n c ps := ⟨h.1, (h.2.1.below hb).more hb.size, h.2.2⟩

def Box3 (W : World) (g : Nat) (va vb vc : Value) (w' : World) : Prop := Below W.heap.size W w' ∧ w'.cell? ⟨g, 0, none⟩ = some va ∧ w'.cell? ⟨g + 1, 0, none⟩ = some vb ∧ w'.cell? ⟨g + 2, 0, none⟩ = some vc
theorem below_drew3 {B : Nat} {a w : World} (h : Below B a w) : Below B a w.drew := ⟨h.os, h.tape, h.output, h.size, h.block⟩
theorem Box3.step {W : World} {g : Nat} {va vb vc : Value} {w' w2 : World} (hx : Box3 W g va vb vc w') (hb : Below w'.heap.size w' w2) : Box3 W g va vb vc w2 :=
  ⟨hx.1.trans (hb.mono hx.1.size), (hb.cell (cell_lt hx.2.1)).trans hx.2.1, (hb.cell (cell_lt hx.2.2.1)).trans hx.2.2.1, (hb.cell (cell_lt hx.2.2.2)).trans hx.2.2.2⟩
theorem bool_of (P : Prop) : ∃ r : Bool, r = true ↔ P := by
  by_cases h : P
  · exact ⟨true, by simpa using h⟩
  · exact ⟨false, by simpa using h⟩
theorem leq_at (A : Option Addr) (n c : Nat) (ps : List (Int × Int)) (A' : Option Addr) (n' c' : Nat) (qs : List (Int × Int)) (w : World) (h : LvAt w A n c ps) (h' : LvAt w A' n' c' qs) (hf : Few ps.length ∧ Few qs.length) (hok : (∀ p ∈ ps, okPart p) ∧ ∀ p ∈ qs, okPart p) (r : Bool) (hr : r = true ↔ LeqS ps qs) :
    Calls Try.prog 16 #[.agg #[.slice A n c], .agg #[.slice A' n' c']] w (HasPost w r) := by
  obtain ⟨rfl, h1, h2⟩ := h
  obtain ⟨rfl, h3, h4⟩ := h'
  exact leq_any A A' ps qs c c' w hf.1 hf.2 h1 h3 h2 h4 hok.1 hok.2 r hr
theorem lsame_at (A : Option Addr) (n c : Nat) (ps : List (Int × Int)) (A' : Option Addr) (n' c' : Nat) (qs : List (Int × Int)) (w : World) (h : LvAt w A n c ps) (h' : LvAt w A' n' c' qs) (hf : Few ps.length ∧ Few qs.length) (hok : (∀ p ∈ ps, okPart p) ∧ ∀ p ∈ qs, okPart p) (r : Bool) (hr : r = true ↔ SameS ps qs) :
    Calls Try.prog 17 #[.agg #[.slice A n c], .agg #[.slice A' n' c']] w (HasPost w r) := by
  obtain ⟨rfl, h1, h2⟩ := h
  obtain ⟨rfl, h3, h4⟩ := h'
  exact lsame_any A A' ps qs c c' w hf.1 hf.2 h1 h3 h2 h4 hok.1 hok.2 r hr
theorem same_at (A : Option Addr) (n c : Nat) (ps : List (Int × Int)) (A' : Option Addr) (n' c' : Nat) (qs : List (Int × Int)) (w : World) (h : LvAt w A n c ps) (h' : LvAt w A' n' c' qs) (hf : Few ps.length ∧ Few qs.length) (r : Bool) (hr : r = true ↔ ps = qs) :
    Calls Try.prog 8 #[.agg #[.slice A n c], .agg #[.slice A' n' c']] w (HasPost w r) := by
  obtain ⟨rfl, h1, h2⟩ := h
  obtain ⟨rfl, h3, h4⟩ := h'
  exact same_any A A' ps qs c c' w (by have := hf.1; unfold Few at this; unfold maxLen; omega) (by have := hf.2; unfold Few at this; unfold maxLen; omega) h1 h3 r hr
def LvOut (w : World) (ps : List (Int × Int)) (e : Ending) (w' : World) : Prop := ∃ A c, e = .returned (.agg #[.slice A ps.length c]) ∧ LvAt w' A ps.length c ps ∧ Below w.heap.size w w'
theorem LvlPost.out {w : World} {ps : List (Int × Int)} {e : Ending} {w' : World} (h : LvlPost w ps e w') : LvOut w ps e w' := by
  obtain ⟨v, rfl, hrow, hb⟩ := h
  obtain ⟨A, n, c, rfl⟩ := own_slice hrow
  obtain ⟨rfl, hl, hc⟩ := own_lev hrow
  exact ⟨A, c, rfl, ⟨rfl, hl, hc⟩, hb⟩
theorem nfA_nf {ps : List (Int × Int)} (h : ∀ p ∈ ps, okPart p) : nfA ps = nf ps := if_pos h
theorem norm_at (A : Option Addr) (n c : Nat) (ps : List (Int × Int)) (w : World) (h : LvAt w A n c ps) (hf : Few ps.length) (hok : ∀ p ∈ ps, okPart p) :
    Calls Try.prog 18 #[.agg #[.slice A n c]] w (LvOut w (nf ps)) := by
  obtain ⟨rfl, h1, h2⟩ := h
  have := norm_any A ps c w hf h1 h2
  rw [nfA_nf hok] at this
  exact this.mono fun _ _ h => h.out

set_option maxRecDepth 100000 in
set_option maxHeartbeats 8000000 in
theorem orders_any (Aa Ab Ac Ay : Option Addr) (pa pb pc : List (Int × Int)) (bys : List (List (Int × Int))) (ca cb cc cy : Nat) (w : World) (hpa : pa.length ≤ 4611686018427387904) (hpb : pb.length ≤ 4611686018427387904) (hpc : pc.length ≤ 4611686018427387904) (hby : bys.length ≤ 5864062014634)
    (ha : Lev w w.heap.size Aa pa) (hca : Aa = none → ca = 0) (hb : Lev w w.heap.size Ab pb) (hcb : Ab = none → cb = 0) (hc : Lev w w.heap.size Ac pc) (hcc : Ac = none → cc = 0) (hy : Levs w w.heap.size Ay bys) (hcy : Ay = none → cy = 0) :
    Calls Try.prog 5 #[.agg #[.slice Aa pa.length ca], .agg #[.slice Ab pb.length cb], .agg #[.slice Ac pc.length cc], .slice Ay bys.length cy] w (HasPost w true) := by
  have hfd := field_parts
  obtain ⟨i0, hi, hz0, hz1, hz2⟩ := info_parts infoL
  have hb0 : Below w.heap.size w (((w.alloc (.cells #[.slice Aa pa.length ca] 25)).alloc (.cells #[.slice Ab pb.length cb] 25)).alloc (.cells #[.slice Ac pc.length cc] 25)) := (((Below.refl _ _).alloc (Nat.le_refl _) _).alloc (by simp <;> omega) _).alloc (by simp <;> omega) _
  have hx1 : (((w.alloc (.cells #[.slice Aa pa.length ca] 25)).alloc (.cells #[.slice Ab pb.length cb] 25)).alloc (.cells #[.slice Ac pc.length cc] 25)).heap[w.heap.size]? = some (.cells #[.slice Aa pa.length ca] 25 (0, 0)) := (Below.heap_alloc _ _ _ (by simp <;> omega)).trans (two_allocs w _ _).1
  have hx2 : (((w.alloc (.cells #[.slice Aa pa.length ca] 25)).alloc (.cells #[.slice Ab pb.length cb] 25)).alloc (.cells #[.slice Ac pc.length cc] 25)).heap[w.heap.size + 1]? = some (.cells #[.slice Ab pb.length cb] 25 (0, 0)) := (Below.heap_alloc _ _ _ (by simp <;> omega)).trans (two_allocs w _ _).2.1
  have hx3 : (((w.alloc (.cells #[.slice Aa pa.length ca] 25)).alloc (.cells #[.slice Ab pb.length cb] 25)).alloc (.cells #[.slice Ac pc.length cc] 25)).heap[w.heap.size + 2]? = some (.cells #[.slice Ac pc.length cc] 25 (0, 0)) := (two_allocs (w.alloc (.cells #[.slice Aa pa.length ca] 25)) (.cells #[.slice Ab pb.length cb] 25) (.cells #[.slice Ac pc.length cc] 25)).2.1 |> fun h => by simpa using h
  have HB0 := Lib.hid hb0
  have X1 := Lib.hid hx1
  have X2 := Lib.hid hx2
  have X3 := Lib.hid hx3
  have HA := Lib.hid ha
  have HB := Lib.hid hb
  have HC := Lib.hid hc
  have HY := Lib.hid hy
  have CA := Lib.hid hca
  have CB := Lib.hid hcb
  have CC := Lib.hid hcc
  have CY := Lib.hid hcy
  have PA := Lib.hid hpa
  have PB := Lib.hid hpb
  have PC := Lib.hid hpc
  have PY := Lib.hid hby
  clear ha hb hc hy hca hcb hcc hcy hpa hpb hpc hby hx1 hx2 hx3 hb0
  go_enter Try.func5, Try.ntmps5
  go_wp2_with (fail)
  refine (awake_any _).mono ?_
  rintro e w1 ⟨rfl, hb1⟩
  have s1 : w.heap.size + 3 ≤ w1.heap.size := by have := hb1.size; simp at this; omega
  have f1 := cell_of_one ((hb1.block w.heap.size (by simp <;> omega)).trans X1.out)
  have f2 := cell_of_one ((hb1.block (w.heap.size + 1) (by simp <;> omega)).trans X2.out)
  have f3 := cell_of_one ((hb1.block (w.heap.size + 2) (by simp <;> omega)).trans X3.out)
  have B1 : Hid (Below w.heap.size w w1) := HB0.out.trans (hb1.mono (by simp <;> omega))
  have LA : Hid (Lev w1 w1.heap.size Aa pa) := (HA.out.below B1.out).more B1.out.size
  have LB : Hid (Lev w1 w1.heap.size Ab pb) := (HB.out.below B1.out).more B1.out.size
  have LC : Hid (Lev w1 w1.heap.size Ac pc) := (HC.out.below B1.out).more B1.out.size
  have LY : Hid (Levs w1 w1.heap.size Ay bys) := (HY.out.below B1.out).more B1.out.size
  clear hb1 HB0 HA HB HC HY X1 X2 X3
  obtain ⟨us, hus, hsrc⟩ := levs_row LY.out
  have hro : (w1.alloc (.cells #[.slice Aa pa.length ca, .slice Ab pb.length cb, .slice Ac pc.length cc] 25)).ownsRow w1.heap.size 25 1 (.slice (some ⟨w1.heap.size, 0, none⟩) 3 3) 3 [.slice Aa pa.length ca, .slice Ab pb.length cb, .slice Ac pc.length cc] :=
    World.ownsRow_lit (base := w1.heap.size) (e := 25) (size := 1) w1 #[.slice Aa pa.length ca, .slice Ab pb.length cb, .slice Ac pc.length cc] 3 (Nat.le_refl _) (by unfold maxLen; omega) rfl
  have hlr : LevRow w1 ([pa] ++ ([pb] ++ ([pc] ++ bys))) ([.slice Aa pa.length ca] ++ ([.slice Ab pb.length cb] ++ ([.slice Ac pc.length cc] ++ us))) := row_app (row_one LA.out CA.out PA.out) (row_app (row_one LB.out CB.out PB.out) (row_app (row_one LC.out CC.out PC.out) hus))
  have HUL : Hid (us.length = bys.length) := hus.1
  have HRO := Lib.hid hro
  have HLR := Lib.hid hlr
  have HSRC := Lib.hid hsrc
  have ones : Hid (∀ u ∈ us, u.oneCell' = true) := fun u hu => by
    obtain ⟨j, hj, rfl⟩ := List.getElem_of_mem hu
    obtain ⟨Ai, ci, h1, _⟩ := hus.2 j (by rw [← hus.1]; exact hj)
    rw [List.getElem?_eq_getElem hj] at h1
    injection h1 with h1
    rw [h1]
    rfl
  have HG : Hid (∀ A n c w2, w2.ownsRow w1.heap.size 25 1 (.slice A n c) (3 + bys.length) ([.slice Aa pa.length ca, .slice Ab pb.length cb, .slice Ac pc.length cc] ++ us) → Below w1.heap.size w1 w2 → n = 3 + bys.length → Calls Try.prog 14 #[.slice A n c] w2 (GreatPost w2 ([pa] ++ ([pb] ++ ([pc] ++ bys))))) := by
    intro A n c w2 ho hb2 hn
    subst hn
    have hL : ([pa] ++ ([pb] ++ ([pc] ++ bys)) : List (List (Int × Int))).length = 3 + bys.length := by simp; omega
    obtain ⟨g, hg⟩ : ∃ g, A = some ⟨g, 0, none⟩ := by
      rcases ho.2 with ⟨_, h0⟩ | ⟨g, cap, cur, h1, _⟩
      · omega
      · injection h1 with h1
        exact ⟨g, h1⟩
    subst hg
    have := great_any (some ⟨g, 0, none⟩) ([pa] ++ ([pb] ++ ([pc] ++ bys))) c w2 (by rw [hL]; have := PY.out; unfold maxLen; omega) (row_levs ho (HLR.out.below hb2) ((ho.lt g rfl).2))
    rw [hL] at this
    exact this
  clear hus hsrc hro hlr
  have HAP : Hid (∀ v w2, w2.ownsRow w1.heap.size 25 1 v (3 + bys.length) ([.slice Aa pa.length ca, .slice Ab pb.length cb, .slice Ac pc.length cc] ++ us) → Below w1.heap.size w1 w2 → ∃ A c, v = .slice A (3 + bys.length) c ∧ Calls Try.prog 14 #[.slice A (3 + bys.length) c] w2 (GreatPost w2 ([pa] ++ ([pb] ++ ([pc] ++ bys))))) := by
    intro v w2 ho hb2
    obtain ⟨A, n, c, rfl⟩ := own_slice ho
    have hn : n = 3 + bys.length := by
      rcases ho.2 with ⟨_, h0⟩ | ⟨g, cap, cur, h1, _⟩
      · omega
      · injection h1
    subst hn
    exact ⟨A, c, rfl, HG.out A _ c w2 ho hb2 rfl⟩
  have Y0 := HSRC
  go_upto_region 3 with (fail)
  go_cut [38] from 17 to 38 (fun s wc => ∃ r : Bool, s = .bool r ∧ (r = false → (∀ l ∈ [pa] ++ ([pb] ++ ([pc] ++ bys)), l.length ≤ 60) ∧ (∀ p ∈ pa, okSmall p) ∧ (∀ p ∈ pb, okSmall p) ∧ (∀ p ∈ pc, okSmall p)) ∧ Below w1.heap.size w1 wc)
  case first =>
    rcases Ay with _ | ay
    · have H0 : Hid (bys.length = 0) := by
        rcases Nat.eq_zero_or_pos bys.length with h0 | h0
        · exact h0
        · obtain ⟨b, o, e, _⟩ := HSRC.out h0
          cases e
      have H1 : Hid (cy = 0) := CY.out rfl
      have H2 : us = [] := List.eq_nil_of_length_eq_zero (HUL.out.trans H0.out)
      have hb2 : Below w1.heap.size w1 (w1.alloc (.cells #[.slice Aa pa.length ca, .slice Ab pb.length cb, .slice Ac pc.length cc] 25)) := (Below.refl w1.heap.size w1).alloc (Nat.le_refl _) _
      obtain ⟨A2, c2, hv, hcall⟩ := HAP.out (.slice (some ⟨w1.heap.size, 0, none⟩) 3 3) _ (by rw [H0.out, H2]; exact HRO.out) hb2
      have hv2 : A2 = some ⟨w1.heap.size, 0, none⟩ ∧ c2 = 3 := by
        injection hv with hv1 hv2 hv3
        exact ⟨hv1.symm, hv3.symm⟩
      obtain ⟨rfl, rfl⟩ := hv2
      rw [H0.out] at hcall
      have HRO2 := HRO
      have HCALL := Lib.hid hcall
      have HB2 := Lib.hid hb2
      clear HG HSRC HLR Y0 HUL PY ones LY hcall hb2 hv H2
      go_wp2_with (at_builtin; refine wpList_append_own_none rfl _ _ 22 rfl w1.heap.size 25 i0 1 Try.underlying22 hi _ 3 [.slice Aa pa.length ca, .slice Ab pb.length cb, .slice Ac pc.length cc] rfl HRO2.out (by show Value.slice none bys.length cy = Value.slice none 0 0; rw [H0.out, H1.out]) ?_)
      obtain ⟨w2, hw2⟩ : ∃ w2, w2 = w1.alloc (.cells #[.slice Aa pa.length ca, .slice Ab pb.length cb, .slice Ac pc.length cc] 25) := ⟨_, rfl⟩
      have hcall := HCALL.out
      have hb2 := HB2.out
      clear HCALL HB2 HRO2
      rw [← hw2] at hb2 hcall HRO ⊢
      clear hw2
      have HCL := Lib.hid hcall
      have s2 := hb2.size
      have g1 := (hb2.cell (by show w.heap.size < w1.heap.size; omega)).trans f1
      have g2 := (hb2.cell (by show w.heap.size + 1 < w1.heap.size; omega)).trans f2
      have g3 := (hb2.cell (by show w.heap.size + 2 < w1.heap.size; omega)).trans f3
      have B2 := Lib.hid hb2
      have LA2 : Hid (Lev w2 w2.heap.size Aa pa) := (LA.out.below hb2).more s2
      have LB2 : Hid (Lev w2 w2.heap.size Ab pb) := (LB.out.below hb2).more s2
      have LC2 : Hid (Lev w2 w2.heap.size Ac pc) := (LC.out.below hb2).more s2
      clear hb2 hcall HAP HRO f1 f2 f3 LA LB LC
      go_wp2_with (fail)
      refine HCL.out.mono ?_
      rintro e w3 ⟨r, rfl, hr, hb3⟩
      have s3 := hb3.size
      have h1 := (hb3.cell (by show w.heap.size < w2.heap.size; omega)).trans g1
      have h2 := (hb3.cell (by show w.heap.size + 1 < w2.heap.size; omega)).trans g2
      have h3 := (hb3.cell (by show w.heap.size + 2 < w2.heap.size; omega)).trans g3
      have B3 : Hid (Below w1.heap.size w1 w3) := B2.out.trans (hb3.mono (by omega))
      have LA3 : Hid (Lev w3 w3.heap.size Aa pa) := (LA2.out.below hb3).more s3
      have LB3 : Hid (Lev w3 w3.heap.size Ab pb) := (LB2.out.below hb3).more s3
      have LC3 : Hid (Lev w3 w3.heap.size Ac pc) := (LC2.out.below hb3).more s3
      clear hb3 g1 g2 g3 B2 LA2 LB2 LC2 HCL
      rcases r with _ | _
      · have H6 : Hid (∀ l ∈ [pa] ++ ([pb] ++ ([pc] ++ bys)), l.length ≤ 60) := (hr rfl).2
        clear hr
        by_cases sa : ∀ p ∈ pa, okSmall p
        · have HSA := Lib.hid (small_any Aa pa ca w3 (by have := PA.out; unfold maxLen; omega) LA3.out true (by simpa using sa))
          have SA := Lib.hid sa
          clear sa
          go_wp2_with (fail)
          refine HSA.out.mono ?_
          rintro e w4 ⟨rfl, hb4⟩
          have s4 := hb4.size
          have j1 := (hb4.cell (by show w.heap.size < w3.heap.size; omega)).trans h1
          have j2 := (hb4.cell (by show w.heap.size + 1 < w3.heap.size; omega)).trans h2
          have j3 := (hb4.cell (by show w.heap.size + 2 < w3.heap.size; omega)).trans h3
          have B4 : Hid (Below w1.heap.size w1 w4) := B3.out.trans (hb4.mono (by omega))
          have LB4 : Hid (Lev w4 w4.heap.size Ab pb) := (LB3.out.below hb4).more s4
          have LC4 : Hid (Lev w4 w4.heap.size Ac pc) := (LC3.out.below hb4).more s4
          clear hb4 h1 h2 h3 B3 LA3 LB3 LC3 HSA
          by_cases sb : ∀ p ∈ pb, okSmall p
          · have HSB := Lib.hid (small_any Ab pb cb w4 (by have := PB.out; unfold maxLen; omega) LB4.out true (by simpa using sb))
            have SB := Lib.hid sb
            clear sb
            go_wp2_with (fail)
            refine HSB.out.mono ?_
            rintro e w5 ⟨rfl, hb5⟩
            have s5 := hb5.size
            have l3 := (hb5.cell (by show w.heap.size + 2 < w4.heap.size; omega)).trans j3
            have B5 : Hid (Below w1.heap.size w1 w5) := B4.out.trans (hb5.mono (by omega))
            have LC5 : Hid (Lev w5 w5.heap.size Ac pc) := (LC4.out.below hb5).more s5
            clear hb5 j1 j2 j3 B4 LB4 LC4 HSB
            by_cases sc : ∀ p ∈ pc, okSmall p
            · have HSC := Lib.hid (small_any Ac pc cc w5 (by have := PC.out; unfold maxLen; omega) LC5.out true (by simpa using sc))
              have SC := Lib.hid sc
              clear sc
              go_wp2_with (fail)
              refine HSC.out.mono ?_
              rintro e w6 ⟨rfl, hb6⟩
              have HF : Hid (Below w1.heap.size w1 w6) := B5.out.trans (hb6.mono (by omega))
              clear hb6 l3 B5 LC5 HSC
              go_wp2
              go_meet
              exact ⟨false, rfl, fun _ => ⟨H6.out, SA.out, SB.out, SC.out⟩, HF.out⟩
            · have HSC := Lib.hid (small_any Ac pc cc w5 (by have := PC.out; unfold maxLen; omega) LC5.out false (by simpa using sc))
              clear sc
              go_wp2_with (fail)
              refine HSC.out.mono ?_
              rintro e w6 ⟨rfl, hb6⟩
              have HF : Hid (Below w1.heap.size w1 w6) := B5.out.trans (hb6.mono (by omega))
              clear hb6 l3 B5 LC5 HSC
              go_wp2
              go_meet
              exact ⟨true, rfl, (fun h => by cases h), HF.out⟩
          · have HSB := Lib.hid (small_any Ab pb cb w4 (by have := PB.out; unfold maxLen; omega) LB4.out false (by simpa using sb))
            clear sb
            go_wp2_with (fail)
            refine HSB.out.mono ?_
            rintro e w5 ⟨rfl, hb5⟩
            have HF : Hid (Below w1.heap.size w1 w5) := B4.out.trans (hb5.mono (by omega))
            clear hb5 j1 j2 j3 B4 LB4 LC4 HSB
            go_wp2
            go_meet
            exact ⟨true, rfl, (fun h => by cases h), HF.out⟩
        · have HSA := Lib.hid (small_any Aa pa ca w3 (by have := PA.out; unfold maxLen; omega) LA3.out false (by simpa using sa))
          clear sa
          go_wp2_with (fail)
          refine HSA.out.mono ?_
          rintro e w4 ⟨rfl, hb4⟩
          have HF : Hid (Below w1.heap.size w1 w4) := B3.out.trans (hb4.mono (by omega))
          clear hb4 h1 h2 h3 B3 LA3 LB3 LC3 HSA
          go_wp2
          go_meet
          exact ⟨true, rfl, (fun h => by cases h), HF.out⟩
      · have HF := B3
        clear hr h1 h2 h3 B3 LA3 LB3 LC3
        go_wp2
        go_meet
        exact ⟨true, rfl, (fun h => by cases h), HF.out⟩
    · have HSS : Hid (∀ j u, us[j]? = some u → (w1.alloc (.cells #[.slice Aa pa.length ca, .slice Ab pb.length cb, .slice Ac pc.length cc] 25)).cell? (ay.add j) = some u) := fun j u hu => by
        have hj : j < bys.length := by rw [← HUL.out]; exact (List.getElem?_eq_some_iff.1 hu).1
        obtain ⟨b, o, e, hbl, hh⟩ := HSRC.out (by omega)
        injection e with e
        subst e
        have h1 := hh j u hu
        rw [show ((⟨b, o, none⟩ : Addr).add j) = ⟨b, o + j, none⟩ from by unfold Addr.add; split <;> simp_all]
        exact (((Below.refl w1.heap.size w1).alloc (Nat.le_refl _) _).cell hbl).trans h1
      have HM : Hid (3 + bys.length ≤ 5864062014637) := by have := PY.out; unfold Hid; omega
      clear HG HSRC HLR Y0
      go_wp2_with (at_builtin; refine wpList_append_own _ rfl _ _ 22 rfl w1.heap.size 25 i0 (.agg #[.slice none 0 0]) 1 24 Try.underlying22 hi hz0 hz1 hz2 rfl (by decide) _ 3 [.slice Aa pa.length ca, .slice Ab pb.length cb, .slice Ac pc.length cc] rfl HRO.out ay bys.length cy us rfl (by rw [HUL.out, Nat.mul_one]) HSS.out ones.out ?c1 ?c2 ?c3 ?_)
      case c1 => have := HM.out; unfold maxLen; omega
      case c2 => have := HM.out; omega
      case c3 => simp
      intro v w2 ho hg _
      have hb2 : Below w1.heap.size w1 w2 := ((Below.refl w1.heap.size w1).alloc (Nat.le_refl _) _).grown hg (by simp) (fun k e => by cases e; exact Nat.le_refl _)
      obtain ⟨A2, c2, rfl, hcall⟩ := HAP.out v w2 ho hb2
      clear ho hg HSS ones LY
      have HCL := Lib.hid hcall
      have s2 := hb2.size
      have g1 := (hb2.cell (by show w.heap.size < w1.heap.size; omega)).trans f1
      have g2 := (hb2.cell (by show w.heap.size + 1 < w1.heap.size; omega)).trans f2
      have g3 := (hb2.cell (by show w.heap.size + 2 < w1.heap.size; omega)).trans f3
      have B2 := Lib.hid hb2
      have LA2 : Hid (Lev w2 w2.heap.size Aa pa) := (LA.out.below hb2).more s2
      have LB2 : Hid (Lev w2 w2.heap.size Ab pb) := (LB.out.below hb2).more s2
      have LC2 : Hid (Lev w2 w2.heap.size Ac pc) := (LC.out.below hb2).more s2
      clear hb2 hcall HAP HRO f1 f2 f3 LA LB LC
      go_wp2_with (fail)
      refine HCL.out.mono ?_
      rintro e w3 ⟨r, rfl, hr, hb3⟩
      have s3 := hb3.size
      have h1 := (hb3.cell (by show w.heap.size < w2.heap.size; omega)).trans g1
      have h2 := (hb3.cell (by show w.heap.size + 1 < w2.heap.size; omega)).trans g2
      have h3 := (hb3.cell (by show w.heap.size + 2 < w2.heap.size; omega)).trans g3
      have B3 : Hid (Below w1.heap.size w1 w3) := B2.out.trans (hb3.mono (by omega))
      have LA3 : Hid (Lev w3 w3.heap.size Aa pa) := (LA2.out.below hb3).more s3
      have LB3 : Hid (Lev w3 w3.heap.size Ab pb) := (LB2.out.below hb3).more s3
      have LC3 : Hid (Lev w3 w3.heap.size Ac pc) := (LC2.out.below hb3).more s3
      clear hb3 g1 g2 g3 B2 LA2 LB2 LC2 HCL
      rcases r with _ | _
      · have H6 : Hid (∀ l ∈ [pa] ++ ([pb] ++ ([pc] ++ bys)), l.length ≤ 60) := (hr rfl).2
        clear hr
        by_cases sa : ∀ p ∈ pa, okSmall p
        · have HSA := Lib.hid (small_any Aa pa ca w3 (by have := PA.out; unfold maxLen; omega) LA3.out true (by simpa using sa))
          have SA := Lib.hid sa
          clear sa
          go_wp2_with (fail)
          refine HSA.out.mono ?_
          rintro e w4 ⟨rfl, hb4⟩
          have s4 := hb4.size
          have j1 := (hb4.cell (by show w.heap.size < w3.heap.size; omega)).trans h1
          have j2 := (hb4.cell (by show w.heap.size + 1 < w3.heap.size; omega)).trans h2
          have j3 := (hb4.cell (by show w.heap.size + 2 < w3.heap.size; omega)).trans h3
          have B4 : Hid (Below w1.heap.size w1 w4) := B3.out.trans (hb4.mono (by omega))
          have LB4 : Hid (Lev w4 w4.heap.size Ab pb) := (LB3.out.below hb4).more s4
          have LC4 : Hid (Lev w4 w4.heap.size Ac pc) := (LC3.out.below hb4).more s4
          clear hb4 h1 h2 h3 B3 LA3 LB3 LC3 HSA
          by_cases sb : ∀ p ∈ pb, okSmall p
          · have HSB := Lib.hid (small_any Ab pb cb w4 (by have := PB.out; unfold maxLen; omega) LB4.out true (by simpa using sb))
            have SB := Lib.hid sb
            clear sb
            go_wp2_with (fail)
            refine HSB.out.mono ?_
            rintro e w5 ⟨rfl, hb5⟩
            have s5 := hb5.size
            have l3 := (hb5.cell (by show w.heap.size + 2 < w4.heap.size; omega)).trans j3
            have B5 : Hid (Below w1.heap.size w1 w5) := B4.out.trans (hb5.mono (by omega))
            have LC5 : Hid (Lev w5 w5.heap.size Ac pc) := (LC4.out.below hb5).more s5
            clear hb5 j1 j2 j3 B4 LB4 LC4 HSB
            by_cases sc : ∀ p ∈ pc, okSmall p
            · have HSC := Lib.hid (small_any Ac pc cc w5 (by have := PC.out; unfold maxLen; omega) LC5.out true (by simpa using sc))
              have SC := Lib.hid sc
              clear sc
              go_wp2_with (fail)
              refine HSC.out.mono ?_
              rintro e w6 ⟨rfl, hb6⟩
              have HF : Hid (Below w1.heap.size w1 w6) := B5.out.trans (hb6.mono (by omega))
              clear hb6 l3 B5 LC5 HSC
              go_wp2
              go_meet
              exact ⟨false, rfl, fun _ => ⟨H6.out, SA.out, SB.out, SC.out⟩, HF.out⟩
            · have HSC := Lib.hid (small_any Ac pc cc w5 (by have := PC.out; unfold maxLen; omega) LC5.out false (by simpa using sc))
              clear sc
              go_wp2_with (fail)
              refine HSC.out.mono ?_
              rintro e w6 ⟨rfl, hb6⟩
              have HF : Hid (Below w1.heap.size w1 w6) := B5.out.trans (hb6.mono (by omega))
              clear hb6 l3 B5 LC5 HSC
              go_wp2
              go_meet
              exact ⟨true, rfl, (fun h => by cases h), HF.out⟩
          · have HSB := Lib.hid (small_any Ab pb cb w4 (by have := PB.out; unfold maxLen; omega) LB4.out false (by simpa using sb))
            clear sb
            go_wp2_with (fail)
            refine HSB.out.mono ?_
            rintro e w5 ⟨rfl, hb5⟩
            have HF : Hid (Below w1.heap.size w1 w5) := B4.out.trans (hb5.mono (by omega))
            clear hb5 j1 j2 j3 B4 LB4 LC4 HSB
            go_wp2
            go_meet
            exact ⟨true, rfl, (fun h => by cases h), HF.out⟩
        · have HSA := Lib.hid (small_any Aa pa ca w3 (by have := PA.out; unfold maxLen; omega) LA3.out false (by simpa using sa))
          clear sa
          go_wp2_with (fail)
          refine HSA.out.mono ?_
          rintro e w4 ⟨rfl, hb4⟩
          have HF : Hid (Below w1.heap.size w1 w4) := B3.out.trans (hb4.mono (by omega))
          clear hb4 h1 h2 h3 B3 LA3 LB3 LC3 HSA
          go_wp2
          go_meet
          exact ⟨true, rfl, (fun h => by cases h), HF.out⟩
      · have HF := B3
        clear hr h1 h2 h3 B3 LA3 LB3 LC3
        go_wp2
        go_meet
        exact ⟨true, rfl, (fun h => by cases h), HF.out⟩
  case rest =>
    obtain ⟨r, rfl, hr, hb2⟩ := hcut
    clear HAP HRO HG HLR HSRC Y0 ones HUL
    have s2 := hb2.size
    have g1 := (hb2.cell (by show w.heap.size < w1.heap.size; omega)).trans f1
    have g2 := (hb2.cell (by show w.heap.size + 1 < w1.heap.size; omega)).trans f2
    have g3 := (hb2.cell (by show w.heap.size + 2 < w1.heap.size; omega)).trans f3
    have B2 : Hid (Below w.heap.size w wc) := B1.out.trans (hb2.mono (by omega))
    have LA2 : Hid (Lev wc wc.heap.size Aa pa) := (LA.out.below hb2).more s2
    have LB2 : Hid (Lev wc wc.heap.size Ab pb) := (LB.out.below hb2).more s2
    have LC2 : Hid (Lev wc wc.heap.size Ac pc) := (LC.out.below hb2).more s2
    have LY2 : Hid (Levs wc wc.heap.size Ay bys) := (LY.out.below hb2).more s2
    clear hb2 f1 f2 f3 B1 LA LB LC LY
    rcases r with _ | _
    rotate_left
    · have HF : Hid (HasPost w true (.returned (.bool true)) wc) := ⟨rfl, B2.out⟩
      clear hr g1 g2 g3 B2 LA2 LB2 LC2 LY2
      go_wp2
      go_ret
      exact HF.out
    · obtain ⟨h6, sa, sb, sc⟩ := hr rfl
      have H6 := Lib.hid h6
      have SA := Lib.hid sa
      have SB := Lib.hid sb
      have SC := Lib.hid sc
      have hby : bys.length ≤ 5864062014634 := PY.out
      clear hr h6 sa sb sc
      go_wp2
      go_loopw [9] (fun i wr => ∃ k : Nat, k ≤ bys.length ∧ i = .int .i64 k ∧ Below wc.heap.size wc wr ∧ ∀ j, j < k → ∀ p ∈ bys.getD j [], okSmall p) (fun i _ => bys.length - (intOf i).toNat)
      case atStart => exact ⟨0, Nat.zero_le _, rfl, Below.refl _ _, fun j hj => absurd hj (by omega)⟩
      case round =>
        obtain ⟨k, hk, rfl, hb, hs⟩ := hrel
        have hbz := hb.size
        by_cases hlt : k < bys.length
        · obtain ⟨b, o, rfl, hbB, hcell⟩ := LY2.out (by omega)
          obtain ⟨Ai, ci, q0, q1, q2, q3⟩ := hcell k hlt
          have c0 := (hb.cell hbB).trans q0
          have ij0 : (0 : Int) ≤ (k : Int) := by omega
          have ij1 : (k : Int) < (bys.length : Int) := by omega
          have hbw : b < wr.heap.size := by omega
          by_cases sk : ∀ p ∈ bys.getD k [], okSmall p
          · have HSK := Lib.hid (small_any Ai (bys.getD k []) ci wr (by unfold maxLen; omega) ((q1.below hb).more hbz) true (by simpa using sk))
            have HN : Hid (∀ j, j < k + 1 → ∀ p ∈ bys.getD j [], okSmall p) := fun j hj => by
              rcases Nat.lt_succ_iff_lt_or_eq.1 hj with hj | rfl
              · exact hs j hj
              · exact sk
            have HBB := Lib.hid hb
            obtain ⟨l0, hl0⟩ : ∃ l0, l0 = (bys.getD k []).length := ⟨_, rfl⟩
            rw [← hl0] at HSK c0
            clear hs sk q0 q1 q2 q3 hcell hb hl0
            go_wp2_with (fail)
            refine HSK.out.mono ?_
            rintro e w3 ⟨rfl, hb3⟩
            have HF : Hid (Below wc.heap.size wc w3) := HBB.out.trans (hb3.mono hbz)
            clear hb3
            go_wp2
            go_roundw
            case rel => exact ⟨k + 1, by omega, by go_num, HF.out, HN.out⟩
            case measure => simp [intOf]; omega
          · have HSK := Lib.hid (small_any Ai (bys.getD k []) ci wr (by unfold maxLen; omega) ((q1.below hb).more hbz) false (by simpa using sk))
            have HBB := Lib.hid hb
            obtain ⟨l0, hl0⟩ : ∃ l0, l0 = (bys.getD k []).length := ⟨_, rfl⟩
            rw [← hl0] at HSK c0
            clear hs sk q0 q1 q2 q3 hcell hb hl0
            go_wp2_with (fail)
            refine HSK.out.mono ?_
            rintro e w3 ⟨rfl, hb3⟩
            have HF : Hid (HasPost w true (.returned (.bool true)) w3) := ⟨rfl, B2.out.trans ((HBB.out.trans (hb3.mono hbz)).mono (by omega))⟩
            clear hb3
            go_wp2
            go_ret
            exact HF.out
        · obtain rfl : k = bys.length := by omega
          have SY : Hid (∀ l ∈ bys, ∀ p ∈ l, okSmall p) := fun l hl => by
            obtain ⟨j, hj, rfl⟩ := List.getElem_of_mem hl
            have := hs j hj
            rwa [List.getD_eq_getElem?_getD, List.getElem?_eq_getElem hj] at this
          have e1 := (hb.cell (by show w.heap.size < wc.heap.size; omega)).trans g1
          have e2 := (hb.cell (by show w.heap.size + 1 < wc.heap.size; omega)).trans g2
          have e3 := (hb.cell (by show w.heap.size + 2 < wc.heap.size; omega)).trans g3
          have B5 : Hid (Below w.heap.size w wr) := B2.out.trans (hb.mono (by omega))
          have LA5 : Hid (LvAt wr Aa pa.length ca pa) := ⟨rfl, (LA2.out.below hb).more hbz, CA.out⟩
          have LB5 : Hid (LvAt wr Ab pb.length cb pb) := ⟨rfl, (LB2.out.below hb).more hbz, CB.out⟩
          have LC5 : Hid (LvAt wr Ac pc.length cc pc) := ⟨rfl, (LC2.out.below hb).more hbz, CC.out⟩
          have LY5 : Hid (Levs wr wr.heap.size Ay bys) := (LY2.out.below hb).more hbz
          clear hs hb g1 g2 g3 B2 LA2 LB2 LC2 LY2 hlt hk
          have FA : Hid (Few pa.length) := by have := H6.out pa (by simp); unfold Hid Few; omega
          have FB : Hid (Few pb.length) := by have := H6.out pb (by simp); unfold Hid Few; omega
          have FC : Hid (Few pc.length) := by have := H6.out pc (by simp); unfold Hid Few; omega
          have OA : Hid (∀ p ∈ pa, okPart p) := fun p hp => (SA.out p hp).ok
          have OB : Hid (∀ p ∈ pb, okPart p) := fun p hp => (SB.out p hp).ok
          have OC : Hid (∀ p ∈ pc, okPart p) := fun p hp => (SC.out p hp).ok
          have NA : Hid (Nn pa) := nn_ok OA.out
          have NB : Hid (Nn pb) := nn_ok OB.out
          have NC : Hid (Nn pc) := nn_ok OC.out
          obtain ⟨ab, hab⟩ := bool_of (LeqS pa pb)
          obtain ⟨ba, hba⟩ := bool_of (LeqS pb pa)
          have AB := Lib.hid hab
          have BA := Lib.hid hba
          clear hab hba
          have CAB : Hid (∀ w', Box3 wr w.heap.size (.slice Aa pa.length ca) (.slice Ab pb.length cb) (.slice Ac pc.length cc) w' → Calls Try.prog 16 #[.agg #[.slice Aa pa.length ca], .agg #[.slice Ab pb.length cb]] w' fun e w'' => e = .returned (.bool ab) ∧ Below w'.heap.size w' w'' ∧ Box3 wr w.heap.size (.slice Aa pa.length ca) (.slice Ab pb.length cb) (.slice Ac pc.length cc) w'') := fun w' hx => (leq_at Aa _ ca pa Ab _ cb pb w' (LA5.out.step hx.1) (LB5.out.step hx.1) ⟨FA.out, FB.out⟩ ⟨OA.out, OB.out⟩ ab (AB.out)).mono fun _ _ h => ⟨h.1, h.2, hx.step h.2⟩
          have CBA : Hid (∀ w', Box3 wr w.heap.size (.slice Aa pa.length ca) (.slice Ab pb.length cb) (.slice Ac pc.length cc) w' → Calls Try.prog 16 #[.agg #[.slice Ab pb.length cb], .agg #[.slice Aa pa.length ca]] w' fun e w'' => e = .returned (.bool ba) ∧ Below w'.heap.size w' w'' ∧ Box3 wr w.heap.size (.slice Aa pa.length ca) (.slice Ab pb.length cb) (.slice Ac pc.length cc) w'') := fun w' hx => (leq_at Ab _ cb pb Aa _ ca pa w' (LB5.out.step hx.1) (LA5.out.step hx.1) ⟨FB.out, FA.out⟩ ⟨OB.out, OA.out⟩ ba (BA.out)).mono fun _ _ h => ⟨h.1, h.2, hx.step h.2⟩
          have hS : Below wr.heap.size wr wr.drew ∧ wr.drew.cell? ⟨w.heap.size, 0, none⟩ = some (.slice Aa pa.length ca) ∧ wr.drew.cell? ⟨w.heap.size + 1, 0, none⟩ = some (.slice Ab pb.length cb) ∧ wr.drew.cell? ⟨w.heap.size + 2, 0, none⟩ = some (.slice Ac pc.length cc) := ⟨below_drew3 (Below.refl _ _), e1, e2, e3⟩
          go_upto_region 10 with (fail)
          go_cut [10, 11] from 51 to 56 (fun s t wx => s = .bool ab ∧ t = .bool ba ∧ Box3 wr w.heap.size (.slice Aa pa.length ca) (.slice Ab pb.length cb) (.slice Ac pc.length cc) wx)
          case first =>
            clear e1 e2 e3
            go_region_held3 (fun w' => Below wr.heap.size wr w' ∧ w'.cell? ⟨w.heap.size, 0, none⟩ = some (.slice Aa pa.length ca) ∧ w'.cell? ⟨w.heap.size + 1, 0, none⟩ = some (.slice Ab pb.length cb) ∧ w'.cell? ⟨w.heap.size + 2, 0, none⟩ = some (.slice Ac pc.length cc)) (first | assumption | go_keep)
              (first
                | (go_at_call 16; (with_reducible refine (CAB.out _ ?hB).mono ?_); (case hB => assumption); rintro e w' ⟨rfl, hb, hw⟩)
                | (go_at_call 16; (with_reducible refine (CBA.out _ ?hB).mono ?_); (case hB => assumption); rintro e w' ⟨rfl, hb, hw⟩))
            all_goals clear hS CAB CBA
            all_goals go_wp2
            all_goals go_meet
            all_goals exact ⟨rfl, rfl, hw⟩
          case rest =>
            obtain ⟨rfl, rfl, hbx⟩ := hcut
            clear hS CAB CBA e1 e2 e3
            obtain ⟨wx, hwx⟩ : ∃ wx, wx = wc := ⟨_, rfl⟩
            rw [← hwx] at hbx ⊢
            clear hwx
            have sx := hbx.1.size
            have B6 : Hid (Below w.heap.size w wx) := B5.out.trans (hbx.1.mono (by omega))
            have LA6 : Hid (LvAt wx Aa pa.length ca pa) := LA5.out.step hbx.1
            have LB6 : Hid (LvAt wx Ab pb.length cb pb) := LB5.out.step hbx.1
            have LC6 : Hid (LvAt wx Ac pc.length cc pc) := LC5.out.step hbx.1
            have LY6 : Hid (Levs wx wx.heap.size Ay bys) := (LY5.out.below hbx.1).more sx
            have e1 := hbx.2.1
            have e2 := hbx.2.2.1
            have e3 := hbx.2.2.2
            obtain ⟨bc, hbc⟩ := bool_of (LeqS pb pc)
            have BC := Lib.hid hbc
            obtain ⟨qa, hqa⟩ : ∃ qa, nf pa = qa := ⟨_, rfl⟩
            obtain ⟨qb, hqb⟩ : ∃ qb, nf pb = qb := ⟨_, rfl⟩
            obtain ⟨na, hna⟩ : ∃ na, qa.length = na := ⟨_, rfl⟩
            obtain ⟨nb, hnb⟩ : ∃ nb, qb.length = nb := ⟨_, rfl⟩
            have EA : nf pa = qa ∧ qa.length = na := ⟨hqa, hna⟩
            have EB : nf pb = qb ∧ qb.length = nb := ⟨hqb, hnb⟩
            have HEA := Lib.hid EA
            have HEB := Lib.hid EB
            have FQA : Hid (Few qa.length) := by have h1 := nf_len (NA.out.fst); have h2 := FA.out; rw [hqa] at h1; unfold Few at h2; unfold Hid Few; omega
            have FQB : Hid (Few qb.length) := by have h1 := nf_len (NB.out.fst); have h2 := FB.out; rw [hqb] at h1; unfold Few at h2; unfold Hid Few; omega
            have OQA : Hid (∀ p ∈ qa, okPart p) := fun p hp => OA.out p (nf_mem NA.out.fst (by rw [hqa]; exact hp))
            have NQA : Hid (nf qa = qa) := by rw [← hqa]; exact nf_nf NA.out
            obtain ⟨sab, hsab⟩ : ∃ s, (ab && ba) = s := ⟨_, rfl⟩
            have SAB : Hid (sab = true ↔ SameS pa pb) := by unfold Hid; rw [same_both NA.out NB.out, ← hsab, Bool.and_eq_true, AB.out, BA.out]
            have KAB : Hid (sab = true ↔ qa = qb) := by unfold Hid; rw [← hqa, ← hqb, ← same_nf NA.out NB.out]; exact SAB.out
            have CAA : Hid (∀ w', Box3 wx w.heap.size (.slice Aa pa.length ca) (.slice Ab pb.length cb) (.slice Ac pc.length cc) w' → Calls Try.prog 16 #[.agg #[.slice Aa pa.length ca], .agg #[.slice Aa pa.length ca]] w' fun e w'' => e = .returned (.bool true) ∧ Below w'.heap.size w' w'' ∧ Box3 wx w.heap.size (.slice Aa pa.length ca) (.slice Ab pb.length cb) (.slice Ac pc.length cc) w'') := fun w' hx => (leq_at Aa _ ca pa Aa _ ca pa w' (LA6.out.step hx.1) (LA6.out.step hx.1) ⟨FA.out, FA.out⟩ ⟨OA.out, OA.out⟩ true (⟨fun _ => (leq_vals NA.out NA.out).2 fun _ _ => Int.le_refl _, fun _ => rfl⟩)).mono fun _ _ h => ⟨h.1, h.2, hx.step h.2⟩
            have CBC : Hid (∀ w', Box3 wx w.heap.size (.slice Aa pa.length ca) (.slice Ab pb.length cb) (.slice Ac pc.length cc) w' → Calls Try.prog 16 #[.agg #[.slice Ab pb.length cb], .agg #[.slice Ac pc.length cc]] w' fun e w'' => e = .returned (.bool bc) ∧ Below w'.heap.size w' w'' ∧ Box3 wx w.heap.size (.slice Aa pa.length ca) (.slice Ab pb.length cb) (.slice Ac pc.length cc) w'') := fun w' hx => (leq_at Ab _ cb pb Ac _ cc pc w' (LB6.out.step hx.1) (LC6.out.step hx.1) ⟨FB.out, FC.out⟩ ⟨OB.out, OC.out⟩ bc (BC.out)).mono fun _ _ h => ⟨h.1, h.2, hx.step h.2⟩
            have CAC : ab = true → bc = true → Hid (∀ w', Box3 wx w.heap.size (.slice Aa pa.length ca) (.slice Ab pb.length cb) (.slice Ac pc.length cc) w' → Calls Try.prog 16 #[.agg #[.slice Aa pa.length ca], .agg #[.slice Ac pc.length cc]] w' fun e w'' => e = .returned (.bool true) ∧ Below w'.heap.size w' w'' ∧ Box3 wx w.heap.size (.slice Aa pa.length ca) (.slice Ab pb.length cb) (.slice Ac pc.length cc) w'') := fun h1 h2 w' hx => (leq_at Aa _ ca pa Ac _ cc pc w' (LA6.out.step hx.1) (LC6.out.step hx.1) ⟨FA.out, FC.out⟩ ⟨OA.out, OC.out⟩ true ⟨fun _ => (leq_vals NA.out NC.out).2 fun f hf => Int.le_trans ((leq_vals NA.out NB.out).1 (AB.out.1 h1) f hf) ((leq_vals NB.out NC.out).1 (BC.out.1 h2) f hf), fun _ => rfl⟩).mono fun _ _ h => ⟨h.1, h.2, hx.step h.2⟩
            have CSS : Hid (∀ w', Box3 wx w.heap.size (.slice Aa pa.length ca) (.slice Ab pb.length cb) (.slice Ac pc.length cc) w' → Calls Try.prog 17 #[.agg #[.slice Aa pa.length ca], .agg #[.slice Ab pb.length cb]] w' fun e w'' => e = .returned (.bool sab) ∧ Below w'.heap.size w' w'' ∧ Box3 wx w.heap.size (.slice Aa pa.length ca) (.slice Ab pb.length cb) (.slice Ac pc.length cc) w'') := fun w' hx => (lsame_at Aa _ ca pa Ab _ cb pb w' (LA6.out.step hx.1) (LB6.out.step hx.1) ⟨FA.out, FB.out⟩ ⟨OA.out, OB.out⟩ sab (SAB.out)).mono fun _ _ h => ⟨h.1, h.2, hx.step h.2⟩
            have CNA : Hid (∀ w', Box3 wx w.heap.size (.slice Aa pa.length ca) (.slice Ab pb.length cb) (.slice Ac pc.length cc) w' → Calls Try.prog 18 #[.agg #[.slice Aa pa.length ca]] w' fun e w'' => ∃ A c, e = .returned (.agg #[.slice A na c]) ∧ LvAt w'' A na c qa ∧ Below w'.heap.size w' w'' ∧ Box3 wx w.heap.size (.slice Aa pa.length ca) (.slice Ab pb.length cb) (.slice Ac pc.length cc) w'') := fun w' hx => (norm_at Aa _ ca pa w' (LA6.out.step hx.1) FA.out OA.out).mono fun _ _ ⟨A, c, h1, h2, h3⟩ => ⟨A, c, by rw [← HEA.out.2, ← HEA.out.1]; exact h1, by rw [← HEA.out.2, ← HEA.out.1]; exact h2, h3, hx.step h3⟩
            have CNB : Hid (∀ w', Box3 wx w.heap.size (.slice Aa pa.length ca) (.slice Ab pb.length cb) (.slice Ac pc.length cc) w' → Calls Try.prog 18 #[.agg #[.slice Ab pb.length cb]] w' fun e w'' => ∃ A c, e = .returned (.agg #[.slice A nb c]) ∧ LvAt w'' A nb c qb ∧ Below w'.heap.size w' w'' ∧ Box3 wx w.heap.size (.slice Aa pa.length ca) (.slice Ab pb.length cb) (.slice Ac pc.length cc) w'') := fun w' hx => (norm_at Ab _ cb pb w' (LB6.out.step hx.1) FB.out OB.out).mono fun _ _ ⟨A, c, h1, h2, h3⟩ => ⟨A, c, by rw [← HEB.out.2, ← HEB.out.1]; exact h1, by rw [← HEB.out.2, ← HEB.out.1]; exact h2, h3, hx.step h3⟩
            have CNN : Hid (∀ A0 c0 w', LvAt w' A0 na c0 qa → Box3 wx w.heap.size (.slice Aa pa.length ca) (.slice Ab pb.length cb) (.slice Ac pc.length cc) w' → Calls Try.prog 18 #[.agg #[.slice A0 na c0]] w' fun e w'' => ∃ A c, e = .returned (.agg #[.slice A na c]) ∧ LvAt w'' A na c qa ∧ Below w'.heap.size w' w'' ∧ Box3 wx w.heap.size (.slice Aa pa.length ca) (.slice Ab pb.length cb) (.slice Ac pc.length cc) w'') := fun A0 c0 w' h hx => (norm_at A0 _ c0 qa w' h FQA.out OQA.out).mono fun _ _ ⟨A, c, h1, h2, h3⟩ => by
              rw [NQA.out] at h1 h2
              obtain ⟨hn, _⟩ := id h
              rw [← hn] at h1 h2
              exact ⟨A, c, h1, h2, h3, hx.step h3⟩
            have CKS : Hid (∀ A c A' c' w', LvAt w' A na c qa → LvAt w' A' nb c' qb → Box3 wx w.heap.size (.slice Aa pa.length ca) (.slice Ab pb.length cb) (.slice Ac pc.length cc) w' → Calls Try.prog 8 #[.agg #[.slice A na c], .agg #[.slice A' nb c']] w' fun e w'' => e = .returned (.bool sab) ∧ Below w'.heap.size w' w'' ∧ Box3 wx w.heap.size (.slice Aa pa.length ca) (.slice Ab pb.length cb) (.slice Ac pc.length cc) w'') := fun A c A' c' w' h1 h2 hx => (same_at A _ c qa A' _ c' qb w' h1 h2 ⟨FQA.out, FQB.out⟩ sab (KAB.out)).mono fun _ _ h => ⟨h.1, h.2, hx.step h.2⟩
            have CKN : Hid (∀ A c A' c' w', LvAt w' A na c qa → LvAt w' A' na c' qa → Box3 wx w.heap.size (.slice Aa pa.length ca) (.slice Ab pb.length cb) (.slice Ac pc.length cc) w' → Calls Try.prog 8 #[.agg #[.slice A na c], .agg #[.slice A' na c']] w' fun e w'' => e = .returned (.bool true) ∧ Below w'.heap.size w' w'' ∧ Box3 wx w.heap.size (.slice Aa pa.length ca) (.slice Ab pb.length cb) (.slice Ac pc.length cc) w'') := fun A c A' c' w' h1 h2 hx => (same_at A _ c qa A' _ c' qa w' h1 h2 ⟨FQA.out, FQA.out⟩ true (⟨fun _ => rfl, fun _ => rfl⟩)).mono fun _ _ h => ⟨h.1, h.2, hx.step h.2⟩
            have hS : Below wx.heap.size wx wx.drew ∧ wx.drew.cell? ⟨w.heap.size, 0, none⟩ = some (.slice Aa pa.length ca) ∧ wx.drew.cell? ⟨w.heap.size + 1, 0, none⟩ = some (.slice Ab pb.length cb) ∧ wx.drew.cell? ⟨w.heap.size + 2, 0, none⟩ = some (.slice Ac pc.length cc) := ⟨below_drew3 (Below.refl _ _), e1, e2, e3⟩
            have U6 : Hid (∀ w', Box3 wx w.heap.size (.slice Aa pa.length ca) (.slice Ab pb.length cb) (.slice Ac pc.length cc) w' → Below w.heap.size w w') := fun w' hx => B6.out.trans (hx.1.mono (by omega))
            clear hbx e1 e2 e3 hbc hqa hqb hna hnb EA EB LA5 LB5 LC5 LY5
            go_upto_region 11 with (fail)
            go_cut [104] from 57 to 104 (fun s wy => s = .bool false ∧ Box3 wx w.heap.size (.slice Aa pa.length ca) (.slice Ab pb.length cb) (.slice Ac pc.length cc) wy)
            case first =>
              obtain ⟨abbc, habbc⟩ : ∃ s, (ab && bc) = s := ⟨_, rfl⟩
              refine wp_region_tab (fun w' => Box3 wx w.heap.size (.slice Aa pa.length ca) (.slice Ab pb.length cb) (.slice Ac pc.length cc) w') (fun w1 w2 : World => Below w1.heap.size w1 w2) [(fun (x : Value) (_ : World) => x = (.agg #[.slice Aa pa.length ca] : Value)), (fun (x : Value) (_ : World) => x = (.agg #[.slice Aa pa.length ca] : Value)), (fun (x : Value) (_ : World) => x = (.bool true : Value)), (fun (x : Value) (_ : World) => x = (.bool false : Value)), (fun (x : Value) (_ : World) => x = (.bool false : Value)), (fun (x : Value) (_ : World) => x = (.bool ab : Value)), (fun (x : Value) (_ : World) => x = (.bool ab : Value)), (fun (x : Value) (_ : World) => x = gv ab (.agg #[.slice Ab pb.length cb])), (fun (x : Value) (_ : World) => x = gv ab (.agg #[.slice Ac pc.length cc])), (fun (x : Value) (_ : World) => x = gv ab (.bool bc)), (fun (x : Value) (_ : World) => x = (.bool abbc : Value)), (fun (x : Value) (_ : World) => x = (.bool abbc : Value)), (fun (x : Value) (_ : World) => x = gv abbc (.agg #[.slice Aa pa.length ca])), (fun (x : Value) (_ : World) => x = gv abbc (.agg #[.slice Ac pc.length cc])), (fun (x : Value) (_ : World) => x = gv abbc (.bool true)), (fun (x : Value) (_ : World) => x = gv abbc (.bool false)), (fun (x : Value) (_ : World) => x = (.bool false : Value)), (fun (x : Value) (_ : World) => x = (.bool false : Value)), (fun (x : Value) (_ : World) => x = (.bool false : Value)), (fun (x : Value) (_ : World) => x = (.bool ab : Value)), (fun (x : Value) (_ : World) => x = (.bool ab : Value)), (fun (x : Value) (_ : World) => x = gv ab (.bool ba)), (fun (x : Value) (_ : World) => x = (.bool sab : Value)), (fun (x : Value) (_ : World) => x = (.agg #[.slice Aa pa.length ca] : Value)), (fun (x : Value) (_ : World) => x = (.agg #[.slice Ab pb.length cb] : Value)), (fun (x : Value) (_ : World) => x = (.bool sab : Value)), (fun (x : Value) (_ : World) => x = (.bool false : Value)), (fun (x : Value) (_ : World) => x = (.bool false : Value)), (fun (x : Value) (_ : World) => x = (.bool false : Value)), (fun (x : Value) (_ : World) => x = (.agg #[.slice Aa pa.length ca] : Value)), (fun (x : Value) (_ : World) => x = (.agg #[.slice Ab pb.length cb] : Value)), (fun (x : Value) (_ : World) => x = (.bool sab : Value)), (fun (x : Value) (_ : World) => x = (.agg #[.slice Aa pa.length ca] : Value)), (fun (x : Value) (w : World) => ∃ A c, x = .agg #[.slice A na c] ∧ LvAt w A na c qa), (fun (x : Value) (_ : World) => x = (.agg #[.slice Ab pb.length cb] : Value)), (fun (x : Value) (w : World) => ∃ A c, x = .agg #[.slice A nb c] ∧ LvAt w A nb c qb), (fun (x : Value) (_ : World) => x = (.bool sab : Value)), (fun (x : Value) (_ : World) => x = (.bool false : Value)), (fun (x : Value) (_ : World) => x = (.bool false : Value)), (fun (x : Value) (_ : World) => x = (.bool false : Value)), (fun (x : Value) (_ : World) => x = (.agg #[.slice Aa pa.length ca] : Value)), (fun (x : Value) (w : World) => ∃ A c, x = .agg #[.slice A na c] ∧ LvAt w A na c qa), (fun (x : Value) (w : World) => ∃ A c, x = .agg #[.slice A na c] ∧ LvAt w A na c qa), (fun (x : Value) (_ : World) => x = (.agg #[.slice Aa pa.length ca] : Value)), (fun (x : Value) (w : World) => ∃ A c, x = .agg #[.slice A na c] ∧ LvAt w A na c qa), (fun (x : Value) (_ : World) => x = (.bool true : Value)), (fun (x : Value) (_ : World) => x = (.bool false : Value)), (fun (x : Value) (_ : World) => x = (.bool false : Value))] [⟨some 57, .load 25 (.tmp 4), none, []⟩, ⟨some 58, .load 25 (.tmp 4), none, []⟩, ⟨some 59, .call { callee := .value (.func 16), args := #[.tmp 57, .tmp 58], argTypes := #[25, 25] }, none, [(57, 0), (58, 1)]⟩, ⟨some 60, .unOp .not 4 (.tmp 59), none, [(59, 2)]⟩, ⟨some 61, .move (.tmp 60), none, [(60, 3)]⟩, ⟨some 62, .move (.tmp 10), some (some 61, false), [(61, 4)]⟩, ⟨some 63, .move (.tmp 62), some (some 61, false), [(61, 4), (62, 5)]⟩, ⟨some 64, .load 25 (.tmp 5), some (some 63, true), [(63, 6)]⟩, ⟨some 65, .load 25 (.tmp 6), some (some 63, true), [(63, 6)]⟩, ⟨some 66, .call { callee := .value (.func 16), args := #[.tmp 64, .tmp 65], argTypes := #[25, 25] }, some (some 63, true), [(63, 6), (64, 7), (65, 8)]⟩, ⟨some 67, .pick (.tmp 63) (.tmp 66) (.const (Value.bool false)), some (some 61, false), [(61, 4), (63, 6), (66, 9)]⟩, ⟨some 68, .move (.tmp 67), some (some 61, false), [(61, 4), (67, 10)]⟩, ⟨some 69, .load 25 (.tmp 4), some (some 68, true), [(68, 11)]⟩, ⟨some 70, .load 25 (.tmp 6), some (some 68, true), [(68, 11)]⟩, ⟨some 71, .call { callee := .value (.func 16), args := #[.tmp 69, .tmp 70], argTypes := #[25, 25] }, some (some 68, true), [(68, 11), (69, 12), (70, 13)]⟩, ⟨some 72, .unOp .not 4 (.tmp 71), some (some 68, true), [(68, 11), (71, 14)]⟩, ⟨some 73, .pick (.tmp 68) (.tmp 72) (.const (Value.bool false)), some (some 61, false), [(61, 4), (68, 11), (72, 15)]⟩, ⟨some 74, .pick (.tmp 61) (.const (Value.bool true)) (.tmp 73), none, [(61, 4), (73, 16)]⟩, ⟨some 75, .move (.tmp 74), none, [(74, 17)]⟩, ⟨some 76, .move (.tmp 10), some (some 75, false), [(75, 18)]⟩, ⟨some 77, .move (.tmp 76), some (some 75, false), [(75, 18), (76, 19)]⟩, ⟨some 78, .move (.tmp 11), some (some 77, true), [(77, 20)]⟩, ⟨some 79, .pick (.tmp 77) (.tmp 78) (.const (Value.bool false)), some (some 75, false), [(75, 18), (77, 20), (78, 21)]⟩, ⟨some 80, .load 25 (.tmp 4), some (some 75, false), [(75, 18)]⟩, ⟨some 81, .load 25 (.tmp 5), some (some 75, false), [(75, 18)]⟩, ⟨some 82, .call { callee := .value (.func 17), args := #[.tmp 80, .tmp 81], argTypes := #[25, 25] }, some (some 75, false), [(75, 18), (80, 23), (81, 24)]⟩, ⟨some 83, .binOp .neq 4 (.tmp 79) (.tmp 82) 4, some (some 75, false), [(75, 18), (79, 22), (82, 25)]⟩, ⟨some 84, .pick (.tmp 75) (.const (Value.bool true)) (.tmp 83), none, [(75, 18), (83, 26)]⟩, ⟨some 85, .move (.tmp 84), none, [(84, 27)]⟩, ⟨some 86, .load 25 (.tmp 4), some (some 85, false), [(85, 28)]⟩, ⟨some 87, .load 25 (.tmp 5), some (some 85, false), [(85, 28)]⟩, ⟨some 88, .call { callee := .value (.func 17), args := #[.tmp 86, .tmp 87], argTypes := #[25, 25] }, some (some 85, false), [(85, 28), (86, 29), (87, 30)]⟩, ⟨some 89, .load 25 (.tmp 4), some (some 85, false), [(85, 28)]⟩, ⟨some 90, .call { callee := .value (.func 18), args := #[.tmp 89], argTypes := #[25] }, some (some 85, false), [(85, 28), (89, 32)]⟩, ⟨some 91, .load 25 (.tmp 5), some (some 85, false), [(85, 28)]⟩, ⟨some 92, .call { callee := .value (.func 18), args := #[.tmp 91], argTypes := #[25] }, some (some 85, false), [(85, 28), (91, 34)]⟩, ⟨some 93, .call { callee := .value (.func 8), args := #[.tmp 90, .tmp 92], argTypes := #[25, 25] }, some (some 85, false), [(85, 28), (90, 33), (92, 35)]⟩, ⟨some 94, .binOp .neq 4 (.tmp 88) (.tmp 93) 4, some (some 85, false), [(85, 28), (88, 31), (93, 36)]⟩, ⟨some 95, .pick (.tmp 85) (.const (Value.bool true)) (.tmp 94), none, [(85, 28), (94, 37)]⟩, ⟨some 96, .move (.tmp 95), none, [(95, 38)]⟩, ⟨some 97, .load 25 (.tmp 4), some (some 96, false), [(96, 39)]⟩, ⟨some 98, .call { callee := .value (.func 18), args := #[.tmp 97], argTypes := #[25] }, some (some 96, false), [(96, 39), (97, 40)]⟩, ⟨some 99, .call { callee := .value (.func 18), args := #[.tmp 98], argTypes := #[25] }, some (some 96, false), [(96, 39), (98, 41)]⟩, ⟨some 100, .load 25 (.tmp 4), some (some 96, false), [(96, 39)]⟩, ⟨some 101, .call { callee := .value (.func 18), args := #[.tmp 100], argTypes := #[25] }, some (some 96, false), [(96, 39), (100, 43)]⟩, ⟨some 102, .call { callee := .value (.func 8), args := #[.tmp 99, .tmp 101], argTypes := #[25, 25] }, some (some 96, false), [(96, 39), (99, 42), (101, 44)]⟩, ⟨some 103, .unOp .not 4 (.tmp 102), some (some 96, false), [(96, 39), (102, 45)]⟩, ⟨some 104, .pick (.tmp 96) (.const (Value.bool true)) (.tmp 103), none, [(96, 39), (103, 46)]⟩] [some 57, some 58, some 59, some 60, some 61, some 62, some 63, some 64, some 65, some 66, some 67, some 68, some 69, some 70, some 71, some 72, some 73, some 74, some 75, some 76, some 77, some 78, some 79, some 80, some 81, some 82, some 83, some 84, some 85, some 86, some 87, some 88, some 89, some 90, some 91, some 92, some 93, some 94, some 95, some 96, some 97, some 98, some 99, some 100, some 101, some 102, some 103, some 104] (by kernel_rfl) (by kernel_rfl) (by kernel_rfl) (by kernel_rfl) (by kernel_rfl) ?hS ?hmono ?hsteps ?hfin
              case hS => exact hS
              case hmono =>
                refine MonoL.cons (fun x w1 w2 _ _ _ hx => hx) ?_
                refine MonoL.cons (fun x w1 w2 _ _ _ hx => hx) ?_
                refine MonoL.cons (fun x w1 w2 _ _ _ hx => hx) ?_
                refine MonoL.cons (fun x w1 w2 _ _ _ hx => hx) ?_
                refine MonoL.cons (fun x w1 w2 _ _ _ hx => hx) ?_
                refine MonoL.cons (fun x w1 w2 _ _ _ hx => hx) ?_
                refine MonoL.cons (fun x w1 w2 _ _ _ hx => hx) ?_
                refine MonoL.cons (fun x w1 w2 _ _ _ hx => hx) ?_
                refine MonoL.cons (fun x w1 w2 _ _ _ hx => hx) ?_
                refine MonoL.cons (fun x w1 w2 _ _ _ hx => hx) ?_
                refine MonoL.cons (fun x w1 w2 _ _ _ hx => hx) ?_
                refine MonoL.cons (fun x w1 w2 _ _ _ hx => hx) ?_
                refine MonoL.cons (fun x w1 w2 _ _ _ hx => hx) ?_
                refine MonoL.cons (fun x w1 w2 _ _ _ hx => hx) ?_
                refine MonoL.cons (fun x w1 w2 _ _ _ hx => hx) ?_
                refine MonoL.cons (fun x w1 w2 _ _ _ hx => hx) ?_
                refine MonoL.cons (fun x w1 w2 _ _ _ hx => hx) ?_
                refine MonoL.cons (fun x w1 w2 _ _ _ hx => hx) ?_
                refine MonoL.cons (fun x w1 w2 _ _ _ hx => hx) ?_
                refine MonoL.cons (fun x w1 w2 _ _ _ hx => hx) ?_
                refine MonoL.cons (fun x w1 w2 _ _ _ hx => hx) ?_
                refine MonoL.cons (fun x w1 w2 _ _ _ hx => hx) ?_
                refine MonoL.cons (fun x w1 w2 _ _ _ hx => hx) ?_
                refine MonoL.cons (fun x w1 w2 _ _ _ hx => hx) ?_
                refine MonoL.cons (fun x w1 w2 _ _ _ hx => hx) ?_
                refine MonoL.cons (fun x w1 w2 _ _ _ hx => hx) ?_
                refine MonoL.cons (fun x w1 w2 _ _ _ hx => hx) ?_
                refine MonoL.cons (fun x w1 w2 _ _ _ hx => hx) ?_
                refine MonoL.cons (fun x w1 w2 _ _ _ hx => hx) ?_
                refine MonoL.cons (fun x w1 w2 _ _ _ hx => hx) ?_
                refine MonoL.cons (fun x w1 w2 _ _ _ hx => hx) ?_
                refine MonoL.cons (fun x w1 w2 _ _ _ hx => hx) ?_
                refine MonoL.cons (fun x w1 w2 _ _ _ hx => hx) ?_
                refine MonoL.cons (fun x w1 w2 _ _ hR hx => ?_) ?_
                · obtain ⟨A, c, rfl, h⟩ := hx; exact ⟨A, c, rfl, h.step hR⟩
                refine MonoL.cons (fun x w1 w2 _ _ _ hx => hx) ?_
                refine MonoL.cons (fun x w1 w2 _ _ hR hx => ?_) ?_
                · obtain ⟨A, c, rfl, h⟩ := hx; exact ⟨A, c, rfl, h.step hR⟩
                refine MonoL.cons (fun x w1 w2 _ _ _ hx => hx) ?_
                refine MonoL.cons (fun x w1 w2 _ _ _ hx => hx) ?_
                refine MonoL.cons (fun x w1 w2 _ _ _ hx => hx) ?_
                refine MonoL.cons (fun x w1 w2 _ _ _ hx => hx) ?_
                refine MonoL.cons (fun x w1 w2 _ _ _ hx => hx) ?_
                refine MonoL.cons (fun x w1 w2 _ _ hR hx => ?_) ?_
                · obtain ⟨A, c, rfl, h⟩ := hx; exact ⟨A, c, rfl, h.step hR⟩
                refine MonoL.cons (fun x w1 w2 _ _ hR hx => ?_) ?_
                · obtain ⟨A, c, rfl, h⟩ := hx; exact ⟨A, c, rfl, h.step hR⟩
                refine MonoL.cons (fun x w1 w2 _ _ _ hx => hx) ?_
                refine MonoL.cons (fun x w1 w2 _ _ hR hx => ?_) ?_
                · obtain ⟨A, c, rfl, h⟩ := hx; exact ⟨A, c, rfl, h.step hR⟩
                refine MonoL.cons (fun x w1 w2 _ _ _ hx => hx) ?_
                refine MonoL.cons (fun x w1 w2 _ _ _ hx => hx) ?_
                refine MonoL.cons (fun x w1 w2 _ _ _ hx => hx) ?_
                exact MonoL.nil
              case hsteps =>
                refine StepsT.cons (fun (x : Value) (_ : World) => x = (.agg #[.slice Aa pa.length ca] : Value)) [] rfl rfl (fun o hop _ wq hQS => ?_) ?_
                · obtain ⟨hq0, e1, e2, e3⟩ := id hQS
                  exact StepFrom.load hop (by kernel_rfl) (load_level e1) (by kernel_rfl) hQS (Below.refl _ _) rfl
                refine StepsT.cons (fun (x : Value) (_ : World) => x = (.agg #[.slice Aa pa.length ca] : Value)) [] rfl rfl (fun o hop _ wq hQS => ?_) ?_
                · obtain ⟨hq0, e1, e2, e3⟩ := id hQS
                  exact StepFrom.load hop (by kernel_rfl) (load_level e1) (by kernel_rfl) hQS (Below.refl _ _) rfl
                refine StepsT.cons (fun (x : Value) (_ : World) => x = (.bool true : Value)) [(57, (fun (x : Value) (_ : World) => x = (.agg #[.slice Aa pa.length ca] : Value))), (58, (fun (x : Value) (_ : World) => x = (.agg #[.slice Aa pa.length ca] : Value)))] rfl rfl (fun o hop _ wq hQS => ?_) ?_
                · refine StepFrom.more_eq ((.agg #[.slice Aa pa.length ca] : Value)) ?_
                  refine StepFrom.more_eq ((.agg #[.slice Aa pa.length ca] : Value)) ?_
                  exact StepFrom.call hop (vs := [(.agg #[.slice Aa pa.length ca] : Value), (.agg #[.slice Aa pa.length ca] : Value)]) (by kernel_rfl) (fun w => enter_leq _ w) (by kernel_rfl) ((CAA.out _ hQS).mono fun e w2 h => ⟨_, h.1, h.2.2, h.2.1, rfl⟩)
                refine StepsT.cons (fun (x : Value) (_ : World) => x = (.bool false : Value)) [(59, (fun (x : Value) (_ : World) => x = (.bool true : Value)))] rfl rfl (fun o hop _ wq hQS => ?_) ?_
                · refine StepFrom.more_eq ((.bool true : Value)) ?_
                  exact StepFrom.not hop (b := true) (by kernel_rfl) (by kernel_rfl) hQS (Below.refl _ _) rfl
                refine StepsT.cons (fun (x : Value) (_ : World) => x = (.bool false : Value)) [(60, (fun (x : Value) (_ : World) => x = (.bool false : Value)))] rfl rfl (fun o hop _ wq hQS => ?_) ?_
                · refine StepFrom.more_eq ((.bool false : Value)) ?_
                  exact StepFrom.move hop (v := (.bool false : Value)) (by kernel_rfl) (by kernel_rfl) hQS (Below.refl _ _) rfl
                refine StepsT.cons (fun (x : Value) (_ : World) => x = (.bool ab : Value)) [(61, (fun (x : Value) (_ : World) => x = (.bool false : Value)))] rfl rfl (fun o hop _ wq hQS => ?_) ?_
                · refine StepFrom.more_eq ((.bool false : Value)) ?_
                  exact StepFrom.move hop (v := (.bool ab : Value)) (by kernel_rfl) (by kernel_rfl) hQS (Below.refl _ _) rfl
                refine StepsT.cons (fun (x : Value) (_ : World) => x = (.bool ab : Value)) [(61, (fun (x : Value) (_ : World) => x = (.bool false : Value))), (62, (fun (x : Value) (_ : World) => x = (.bool ab : Value)))] rfl rfl (fun o hop _ wq hQS => ?_) ?_
                · refine StepFrom.more_eq ((.bool false : Value)) ?_
                  refine StepFrom.more_eq ((.bool ab : Value)) ?_
                  exact StepFrom.move hop (v := (.bool ab : Value)) (by kernel_rfl) (by kernel_rfl) hQS (Below.refl _ _) rfl
                refine StepsT.cons (fun (x : Value) (_ : World) => x = gv ab (.agg #[.slice Ab pb.length cb])) [(63, (fun (x : Value) (_ : World) => x = (.bool ab : Value)))] rfl rfl (fun o hop _ wq hQS => ?_) ?_
                · rcases ab with _ | _
                  · refine StepFrom.more_eq ((.bool false : Value)) ?_
                    exact StepFrom.off (by kernel_rfl) hQS (Below.refl _ _) rfl
                  · refine StepFrom.more_eq ((.bool true : Value)) ?_
                    obtain ⟨hq0, e1, e2, e3⟩ := id hQS
                    exact StepFrom.load hop (by kernel_rfl) (load_level e2) (by kernel_rfl) hQS (Below.refl _ _) rfl
                refine StepsT.cons (fun (x : Value) (_ : World) => x = gv ab (.agg #[.slice Ac pc.length cc])) [(63, (fun (x : Value) (_ : World) => x = (.bool ab : Value)))] rfl rfl (fun o hop _ wq hQS => ?_) ?_
                · rcases ab with _ | _
                  · refine StepFrom.more_eq ((.bool false : Value)) ?_
                    exact StepFrom.off (by kernel_rfl) hQS (Below.refl _ _) rfl
                  · refine StepFrom.more_eq ((.bool true : Value)) ?_
                    obtain ⟨hq0, e1, e2, e3⟩ := id hQS
                    exact StepFrom.load hop (by kernel_rfl) (load_level e3) (by kernel_rfl) hQS (Below.refl _ _) rfl
                refine StepsT.cons (fun (x : Value) (_ : World) => x = gv ab (.bool bc)) [(63, (fun (x : Value) (_ : World) => x = (.bool ab : Value))), (64, (fun (x : Value) (_ : World) => x = gv ab (.agg #[.slice Ab pb.length cb]))), (65, (fun (x : Value) (_ : World) => x = gv ab (.agg #[.slice Ac pc.length cc])))] rfl rfl (fun o hop _ wq hQS => ?_) ?_
                · rcases ab with _ | _
                  · refine StepFrom.more_eq ((.bool false : Value)) ?_
                    refine StepFrom.more_eq (undef) ?_
                    refine StepFrom.more_eq (undef) ?_
                    exact StepFrom.off (by kernel_rfl) hQS (Below.refl _ _) rfl
                  · refine StepFrom.more_eq ((.bool true : Value)) ?_
                    refine StepFrom.more_eq ((.agg #[.slice Ab pb.length cb] : Value)) ?_
                    refine StepFrom.more_eq ((.agg #[.slice Ac pc.length cc] : Value)) ?_
                    exact StepFrom.call hop (vs := [(.agg #[.slice Ab pb.length cb] : Value), (.agg #[.slice Ac pc.length cc] : Value)]) (by kernel_rfl) (fun w => enter_leq _ w) (by kernel_rfl) ((CBC.out _ hQS).mono fun e w2 h => ⟨_, h.1, h.2.2, h.2.1, rfl⟩)
                refine StepsT.cons (fun (x : Value) (_ : World) => x = (.bool abbc : Value)) [(61, (fun (x : Value) (_ : World) => x = (.bool false : Value))), (63, (fun (x : Value) (_ : World) => x = (.bool ab : Value))), (66, (fun (x : Value) (_ : World) => x = gv ab (.bool bc)))] rfl rfl (fun o hop _ wq hQS => ?_) ?_
                · refine StepFrom.more_eq ((.bool false : Value)) ?_
                  refine StepFrom.more_eq ((.bool ab : Value)) ?_
                  refine StepFrom.more_eq (gv ab (.bool bc)) ?_
                  exact StepFrom.pick hop (b := ab) (vx := gv ab (.bool bc)) (vy := (Value.bool false : Value)) (by kernel_rfl) (by kernel_rfl) (by kernel_rfl) (by kernel_rfl) hQS (Below.refl _ _) (by rw [← habbc]; cases ab <;> rfl)
                refine StepsT.cons (fun (x : Value) (_ : World) => x = (.bool abbc : Value)) [(61, (fun (x : Value) (_ : World) => x = (.bool false : Value))), (67, (fun (x : Value) (_ : World) => x = (.bool abbc : Value)))] rfl rfl (fun o hop _ wq hQS => ?_) ?_
                · refine StepFrom.more_eq ((.bool false : Value)) ?_
                  refine StepFrom.more_eq ((.bool abbc : Value)) ?_
                  exact StepFrom.move hop (v := (.bool abbc : Value)) (by kernel_rfl) (by kernel_rfl) hQS (Below.refl _ _) rfl
                refine StepsT.cons (fun (x : Value) (_ : World) => x = gv abbc (.agg #[.slice Aa pa.length ca])) [(68, (fun (x : Value) (_ : World) => x = (.bool abbc : Value)))] rfl rfl (fun o hop _ wq hQS => ?_) ?_
                · rcases abbc with _ | _
                  · refine StepFrom.more_eq ((.bool false : Value)) ?_
                    exact StepFrom.off (by kernel_rfl) hQS (Below.refl _ _) rfl
                  · refine StepFrom.more_eq ((.bool true : Value)) ?_
                    obtain ⟨hq0, e1, e2, e3⟩ := id hQS
                    exact StepFrom.load hop (by kernel_rfl) (load_level e1) (by kernel_rfl) hQS (Below.refl _ _) rfl
                refine StepsT.cons (fun (x : Value) (_ : World) => x = gv abbc (.agg #[.slice Ac pc.length cc])) [(68, (fun (x : Value) (_ : World) => x = (.bool abbc : Value)))] rfl rfl (fun o hop _ wq hQS => ?_) ?_
                · rcases abbc with _ | _
                  · refine StepFrom.more_eq ((.bool false : Value)) ?_
                    exact StepFrom.off (by kernel_rfl) hQS (Below.refl _ _) rfl
                  · refine StepFrom.more_eq ((.bool true : Value)) ?_
                    obtain ⟨hq0, e1, e2, e3⟩ := id hQS
                    exact StepFrom.load hop (by kernel_rfl) (load_level e3) (by kernel_rfl) hQS (Below.refl _ _) rfl
                refine StepsT.cons (fun (x : Value) (_ : World) => x = gv abbc (.bool true)) [(68, (fun (x : Value) (_ : World) => x = (.bool abbc : Value))), (69, (fun (x : Value) (_ : World) => x = gv abbc (.agg #[.slice Aa pa.length ca]))), (70, (fun (x : Value) (_ : World) => x = gv abbc (.agg #[.slice Ac pc.length cc])))] rfl rfl (fun o hop _ wq hQS => ?_) ?_
                · rcases abbc with _ | _
                  · refine StepFrom.more_eq ((.bool false : Value)) ?_
                    refine StepFrom.more_eq (undef) ?_
                    refine StepFrom.more_eq (undef) ?_
                    exact StepFrom.off (by kernel_rfl) hQS (Below.refl _ _) rfl
                  · refine StepFrom.more_eq ((.bool true : Value)) ?_
                    refine StepFrom.more_eq ((.agg #[.slice Aa pa.length ca] : Value)) ?_
                    refine StepFrom.more_eq ((.agg #[.slice Ac pc.length cc] : Value)) ?_
                    exact StepFrom.call hop (vs := [(.agg #[.slice Aa pa.length ca] : Value), (.agg #[.slice Ac pc.length cc] : Value)]) (by kernel_rfl) (fun w => enter_leq _ w) (by kernel_rfl) (((CAC (Bool.and_eq_true_iff.1 habbc).1 (Bool.and_eq_true_iff.1 habbc).2).out _ hQS).mono fun e w2 h => ⟨_, h.1, h.2.2, h.2.1, rfl⟩)
                refine StepsT.cons (fun (x : Value) (_ : World) => x = gv abbc (.bool false)) [(68, (fun (x : Value) (_ : World) => x = (.bool abbc : Value))), (71, (fun (x : Value) (_ : World) => x = gv abbc (.bool true)))] rfl rfl (fun o hop _ wq hQS => ?_) ?_
                · rcases abbc with _ | _
                  · refine StepFrom.more_eq ((.bool false : Value)) ?_
                    refine StepFrom.more_eq (undef) ?_
                    exact StepFrom.off (by kernel_rfl) hQS (Below.refl _ _) rfl
                  · refine StepFrom.more_eq ((.bool true : Value)) ?_
                    refine StepFrom.more_eq ((.bool true : Value)) ?_
                    exact StepFrom.not hop (b := true) (by kernel_rfl) (by kernel_rfl) hQS (Below.refl _ _) rfl
                refine StepsT.cons (fun (x : Value) (_ : World) => x = (.bool false : Value)) [(61, (fun (x : Value) (_ : World) => x = (.bool false : Value))), (68, (fun (x : Value) (_ : World) => x = (.bool abbc : Value))), (72, (fun (x : Value) (_ : World) => x = gv abbc (.bool false)))] rfl rfl (fun o hop _ wq hQS => ?_) ?_
                · refine StepFrom.more_eq ((.bool false : Value)) ?_
                  refine StepFrom.more_eq ((.bool abbc : Value)) ?_
                  refine StepFrom.more_eq (gv abbc (.bool false)) ?_
                  exact StepFrom.pick hop (b := abbc) (vx := gv abbc (.bool false)) (vy := (Value.bool false : Value)) (by kernel_rfl) (by kernel_rfl) (by kernel_rfl) (by kernel_rfl) hQS (Below.refl _ _) (by cases abbc <;> rfl)
                refine StepsT.cons (fun (x : Value) (_ : World) => x = (.bool false : Value)) [(61, (fun (x : Value) (_ : World) => x = (.bool false : Value))), (73, (fun (x : Value) (_ : World) => x = (.bool false : Value)))] rfl rfl (fun o hop _ wq hQS => ?_) ?_
                · refine StepFrom.more_eq ((.bool false : Value)) ?_
                  refine StepFrom.more_eq ((.bool false : Value)) ?_
                  exact StepFrom.pick hop (b := false) (vx := (Value.bool true : Value)) (vy := (.bool false : Value)) (by kernel_rfl) (by kernel_rfl) (by kernel_rfl) (by kernel_rfl) hQS (Below.refl _ _) rfl
                refine StepsT.cons (fun (x : Value) (_ : World) => x = (.bool false : Value)) [(74, (fun (x : Value) (_ : World) => x = (.bool false : Value)))] rfl rfl (fun o hop _ wq hQS => ?_) ?_
                · refine StepFrom.more_eq ((.bool false : Value)) ?_
                  exact StepFrom.move hop (v := (.bool false : Value)) (by kernel_rfl) (by kernel_rfl) hQS (Below.refl _ _) rfl
                refine StepsT.cons (fun (x : Value) (_ : World) => x = (.bool ab : Value)) [(75, (fun (x : Value) (_ : World) => x = (.bool false : Value)))] rfl rfl (fun o hop _ wq hQS => ?_) ?_
                · refine StepFrom.more_eq ((.bool false : Value)) ?_
                  exact StepFrom.move hop (v := (.bool ab : Value)) (by kernel_rfl) (by kernel_rfl) hQS (Below.refl _ _) rfl
                refine StepsT.cons (fun (x : Value) (_ : World) => x = (.bool ab : Value)) [(75, (fun (x : Value) (_ : World) => x = (.bool false : Value))), (76, (fun (x : Value) (_ : World) => x = (.bool ab : Value)))] rfl rfl (fun o hop _ wq hQS => ?_) ?_
                · refine StepFrom.more_eq ((.bool false : Value)) ?_
                  refine StepFrom.more_eq ((.bool ab : Value)) ?_
                  exact StepFrom.move hop (v := (.bool ab : Value)) (by kernel_rfl) (by kernel_rfl) hQS (Below.refl _ _) rfl
                refine StepsT.cons (fun (x : Value) (_ : World) => x = gv ab (.bool ba)) [(77, (fun (x : Value) (_ : World) => x = (.bool ab : Value)))] rfl rfl (fun o hop _ wq hQS => ?_) ?_
                · rcases ab with _ | _
                  · refine StepFrom.more_eq ((.bool false : Value)) ?_
                    exact StepFrom.off (by kernel_rfl) hQS (Below.refl _ _) rfl
                  · refine StepFrom.more_eq ((.bool true : Value)) ?_
                    exact StepFrom.move hop (v := (.bool ba : Value)) (by kernel_rfl) (by kernel_rfl) hQS (Below.refl _ _) rfl
                refine StepsT.cons (fun (x : Value) (_ : World) => x = (.bool sab : Value)) [(75, (fun (x : Value) (_ : World) => x = (.bool false : Value))), (77, (fun (x : Value) (_ : World) => x = (.bool ab : Value))), (78, (fun (x : Value) (_ : World) => x = gv ab (.bool ba)))] rfl rfl (fun o hop _ wq hQS => ?_) ?_
                · refine StepFrom.more_eq ((.bool false : Value)) ?_
                  refine StepFrom.more_eq ((.bool ab : Value)) ?_
                  refine StepFrom.more_eq (gv ab (.bool ba)) ?_
                  exact StepFrom.pick hop (b := ab) (vx := gv ab (.bool ba)) (vy := (Value.bool false : Value)) (by kernel_rfl) (by kernel_rfl) (by kernel_rfl) (by kernel_rfl) hQS (Below.refl _ _) (by rw [← hsab]; cases ab <;> rfl)
                refine StepsT.cons (fun (x : Value) (_ : World) => x = (.agg #[.slice Aa pa.length ca] : Value)) [(75, (fun (x : Value) (_ : World) => x = (.bool false : Value)))] rfl rfl (fun o hop _ wq hQS => ?_) ?_
                · refine StepFrom.more_eq ((.bool false : Value)) ?_
                  obtain ⟨hq0, e1, e2, e3⟩ := id hQS
                  exact StepFrom.load hop (by kernel_rfl) (load_level e1) (by kernel_rfl) hQS (Below.refl _ _) rfl
                refine StepsT.cons (fun (x : Value) (_ : World) => x = (.agg #[.slice Ab pb.length cb] : Value)) [(75, (fun (x : Value) (_ : World) => x = (.bool false : Value)))] rfl rfl (fun o hop _ wq hQS => ?_) ?_
                · refine StepFrom.more_eq ((.bool false : Value)) ?_
                  obtain ⟨hq0, e1, e2, e3⟩ := id hQS
                  exact StepFrom.load hop (by kernel_rfl) (load_level e2) (by kernel_rfl) hQS (Below.refl _ _) rfl
                refine StepsT.cons (fun (x : Value) (_ : World) => x = (.bool sab : Value)) [(75, (fun (x : Value) (_ : World) => x = (.bool false : Value))), (80, (fun (x : Value) (_ : World) => x = (.agg #[.slice Aa pa.length ca] : Value))), (81, (fun (x : Value) (_ : World) => x = (.agg #[.slice Ab pb.length cb] : Value)))] rfl rfl (fun o hop _ wq hQS => ?_) ?_
                · refine StepFrom.more_eq ((.bool false : Value)) ?_
                  refine StepFrom.more_eq ((.agg #[.slice Aa pa.length ca] : Value)) ?_
                  refine StepFrom.more_eq ((.agg #[.slice Ab pb.length cb] : Value)) ?_
                  exact StepFrom.call hop (vs := [(.agg #[.slice Aa pa.length ca] : Value), (.agg #[.slice Ab pb.length cb] : Value)]) (by kernel_rfl) (fun w => enter_lsame _ w) (by kernel_rfl) ((CSS.out _ hQS).mono fun e w2 h => ⟨_, h.1, h.2.2, h.2.1, rfl⟩)
                refine StepsT.cons (fun (x : Value) (_ : World) => x = (.bool false : Value)) [(75, (fun (x : Value) (_ : World) => x = (.bool false : Value))), (79, (fun (x : Value) (_ : World) => x = (.bool sab : Value))), (82, (fun (x : Value) (_ : World) => x = (.bool sab : Value)))] rfl rfl (fun o hop _ wq hQS => ?_) ?_
                · refine StepFrom.more_eq ((.bool false : Value)) ?_
                  refine StepFrom.more_eq ((.bool sab : Value)) ?_
                  refine StepFrom.more_eq ((.bool sab : Value)) ?_
                  exact StepFrom.bin hop (vx := (.bool sab : Value)) (vy := (.bool sab : Value)) (by kernel_rfl) (by kernel_rfl) (neq_bool _ _ _ _ _) (by kernel_rfl) hQS (Below.refl _ _) (by cases sab <;> rfl)
                refine StepsT.cons (fun (x : Value) (_ : World) => x = (.bool false : Value)) [(75, (fun (x : Value) (_ : World) => x = (.bool false : Value))), (83, (fun (x : Value) (_ : World) => x = (.bool false : Value)))] rfl rfl (fun o hop _ wq hQS => ?_) ?_
                · refine StepFrom.more_eq ((.bool false : Value)) ?_
                  refine StepFrom.more_eq ((.bool false : Value)) ?_
                  exact StepFrom.pick hop (b := false) (vx := (Value.bool true : Value)) (vy := (.bool false : Value)) (by kernel_rfl) (by kernel_rfl) (by kernel_rfl) (by kernel_rfl) hQS (Below.refl _ _) rfl
                refine StepsT.cons (fun (x : Value) (_ : World) => x = (.bool false : Value)) [(84, (fun (x : Value) (_ : World) => x = (.bool false : Value)))] rfl rfl (fun o hop _ wq hQS => ?_) ?_
                · refine StepFrom.more_eq ((.bool false : Value)) ?_
                  exact StepFrom.move hop (v := (.bool false : Value)) (by kernel_rfl) (by kernel_rfl) hQS (Below.refl _ _) rfl
                refine StepsT.cons (fun (x : Value) (_ : World) => x = (.agg #[.slice Aa pa.length ca] : Value)) [(85, (fun (x : Value) (_ : World) => x = (.bool false : Value)))] rfl rfl (fun o hop _ wq hQS => ?_) ?_
                · refine StepFrom.more_eq ((.bool false : Value)) ?_
                  obtain ⟨hq0, e1, e2, e3⟩ := id hQS
                  exact StepFrom.load hop (by kernel_rfl) (load_level e1) (by kernel_rfl) hQS (Below.refl _ _) rfl
                refine StepsT.cons (fun (x : Value) (_ : World) => x = (.agg #[.slice Ab pb.length cb] : Value)) [(85, (fun (x : Value) (_ : World) => x = (.bool false : Value)))] rfl rfl (fun o hop _ wq hQS => ?_) ?_
                · refine StepFrom.more_eq ((.bool false : Value)) ?_
                  obtain ⟨hq0, e1, e2, e3⟩ := id hQS
                  exact StepFrom.load hop (by kernel_rfl) (load_level e2) (by kernel_rfl) hQS (Below.refl _ _) rfl
                refine StepsT.cons (fun (x : Value) (_ : World) => x = (.bool sab : Value)) [(85, (fun (x : Value) (_ : World) => x = (.bool false : Value))), (86, (fun (x : Value) (_ : World) => x = (.agg #[.slice Aa pa.length ca] : Value))), (87, (fun (x : Value) (_ : World) => x = (.agg #[.slice Ab pb.length cb] : Value)))] rfl rfl (fun o hop _ wq hQS => ?_) ?_
                · refine StepFrom.more_eq ((.bool false : Value)) ?_
                  refine StepFrom.more_eq ((.agg #[.slice Aa pa.length ca] : Value)) ?_
                  refine StepFrom.more_eq ((.agg #[.slice Ab pb.length cb] : Value)) ?_
                  exact StepFrom.call hop (vs := [(.agg #[.slice Aa pa.length ca] : Value), (.agg #[.slice Ab pb.length cb] : Value)]) (by kernel_rfl) (fun w => enter_lsame _ w) (by kernel_rfl) ((CSS.out _ hQS).mono fun e w2 h => ⟨_, h.1, h.2.2, h.2.1, rfl⟩)
                refine StepsT.cons (fun (x : Value) (_ : World) => x = (.agg #[.slice Aa pa.length ca] : Value)) [(85, (fun (x : Value) (_ : World) => x = (.bool false : Value)))] rfl rfl (fun o hop _ wq hQS => ?_) ?_
                · refine StepFrom.more_eq ((.bool false : Value)) ?_
                  obtain ⟨hq0, e1, e2, e3⟩ := id hQS
                  exact StepFrom.load hop (by kernel_rfl) (load_level e1) (by kernel_rfl) hQS (Below.refl _ _) rfl
                refine StepsT.cons (fun (x : Value) (w : World) => ∃ A c, x = .agg #[.slice A na c] ∧ LvAt w A na c qa) [(85, (fun (x : Value) (_ : World) => x = (.bool false : Value))), (89, (fun (x : Value) (_ : World) => x = (.agg #[.slice Aa pa.length ca] : Value)))] rfl rfl (fun o hop _ wq hQS => ?_) ?_
                · refine StepFrom.more_eq ((.bool false : Value)) ?_
                  refine StepFrom.more_eq ((.agg #[.slice Aa pa.length ca] : Value)) ?_
                  exact StepFrom.call hop (vs := [(.agg #[.slice Aa pa.length ca] : Value)]) (by kernel_rfl) (fun w => enter_norm _ w) (by kernel_rfl) ((CNA.out _ hQS).mono fun e w2 ⟨A, c, h1, h2, h3, h4⟩ => ⟨_, h1, h4, h3, A, c, rfl, h2⟩)
                refine StepsT.cons (fun (x : Value) (_ : World) => x = (.agg #[.slice Ab pb.length cb] : Value)) [(85, (fun (x : Value) (_ : World) => x = (.bool false : Value)))] rfl rfl (fun o hop _ wq hQS => ?_) ?_
                · refine StepFrom.more_eq ((.bool false : Value)) ?_
                  obtain ⟨hq0, e1, e2, e3⟩ := id hQS
                  exact StepFrom.load hop (by kernel_rfl) (load_level e2) (by kernel_rfl) hQS (Below.refl _ _) rfl
                refine StepsT.cons (fun (x : Value) (w : World) => ∃ A c, x = .agg #[.slice A nb c] ∧ LvAt w A nb c qb) [(85, (fun (x : Value) (_ : World) => x = (.bool false : Value))), (91, (fun (x : Value) (_ : World) => x = (.agg #[.slice Ab pb.length cb] : Value)))] rfl rfl (fun o hop _ wq hQS => ?_) ?_
                · refine StepFrom.more_eq ((.bool false : Value)) ?_
                  refine StepFrom.more_eq ((.agg #[.slice Ab pb.length cb] : Value)) ?_
                  exact StepFrom.call hop (vs := [(.agg #[.slice Ab pb.length cb] : Value)]) (by kernel_rfl) (fun w => enter_norm _ w) (by kernel_rfl) ((CNB.out _ hQS).mono fun e w2 ⟨A, c, h1, h2, h3, h4⟩ => ⟨_, h1, h4, h3, A, c, rfl, h2⟩)
                refine StepsT.cons (fun (x : Value) (_ : World) => x = (.bool sab : Value)) [(85, (fun (x : Value) (_ : World) => x = (.bool false : Value))), (90, (fun (x : Value) (w : World) => ∃ A c, x = .agg #[.slice A na c] ∧ LvAt w A na c qa)), (92, (fun (x : Value) (w : World) => ∃ A c, x = .agg #[.slice A nb c] ∧ LvAt w A nb c qb))] rfl rfl (fun o hop _ wq hQS => ?_) ?_
                · refine StepFrom.more_eq ((.bool false : Value)) ?_
                  refine StepFrom.more fun x90 h90 => ?_
                  obtain ⟨A90, c90, rfl, hl90⟩ := h90
                  refine StepFrom.more fun x92 h92 => ?_
                  obtain ⟨A92, c92, rfl, hl92⟩ := h92
                  exact StepFrom.call hop (vs := [(.agg #[.slice A90 na c90] : Value), (.agg #[.slice A92 nb c92] : Value)]) (by kernel_rfl) (fun w => enter_same _ w) (by kernel_rfl) ((CKS.out _ _ _ _ _ hl90 hl92 hQS).mono fun e w2 h => ⟨_, h.1, h.2.2, h.2.1, rfl⟩)
                refine StepsT.cons (fun (x : Value) (_ : World) => x = (.bool false : Value)) [(85, (fun (x : Value) (_ : World) => x = (.bool false : Value))), (88, (fun (x : Value) (_ : World) => x = (.bool sab : Value))), (93, (fun (x : Value) (_ : World) => x = (.bool sab : Value)))] rfl rfl (fun o hop _ wq hQS => ?_) ?_
                · refine StepFrom.more_eq ((.bool false : Value)) ?_
                  refine StepFrom.more_eq ((.bool sab : Value)) ?_
                  refine StepFrom.more_eq ((.bool sab : Value)) ?_
                  exact StepFrom.bin hop (vx := (.bool sab : Value)) (vy := (.bool sab : Value)) (by kernel_rfl) (by kernel_rfl) (neq_bool _ _ _ _ _) (by kernel_rfl) hQS (Below.refl _ _) (by cases sab <;> rfl)
                refine StepsT.cons (fun (x : Value) (_ : World) => x = (.bool false : Value)) [(85, (fun (x : Value) (_ : World) => x = (.bool false : Value))), (94, (fun (x : Value) (_ : World) => x = (.bool false : Value)))] rfl rfl (fun o hop _ wq hQS => ?_) ?_
                · refine StepFrom.more_eq ((.bool false : Value)) ?_
                  refine StepFrom.more_eq ((.bool false : Value)) ?_
                  exact StepFrom.pick hop (b := false) (vx := (Value.bool true : Value)) (vy := (.bool false : Value)) (by kernel_rfl) (by kernel_rfl) (by kernel_rfl) (by kernel_rfl) hQS (Below.refl _ _) rfl
                refine StepsT.cons (fun (x : Value) (_ : World) => x = (.bool false : Value)) [(95, (fun (x : Value) (_ : World) => x = (.bool false : Value)))] rfl rfl (fun o hop _ wq hQS => ?_) ?_
                · refine StepFrom.more_eq ((.bool false : Value)) ?_
                  exact StepFrom.move hop (v := (.bool false : Value)) (by kernel_rfl) (by kernel_rfl) hQS (Below.refl _ _) rfl
                refine StepsT.cons (fun (x : Value) (_ : World) => x = (.agg #[.slice Aa pa.length ca] : Value)) [(96, (fun (x : Value) (_ : World) => x = (.bool false : Value)))] rfl rfl (fun o hop _ wq hQS => ?_) ?_
                · refine StepFrom.more_eq ((.bool false : Value)) ?_
                  obtain ⟨hq0, e1, e2, e3⟩ := id hQS
                  exact StepFrom.load hop (by kernel_rfl) (load_level e1) (by kernel_rfl) hQS (Below.refl _ _) rfl
                refine StepsT.cons (fun (x : Value) (w : World) => ∃ A c, x = .agg #[.slice A na c] ∧ LvAt w A na c qa) [(96, (fun (x : Value) (_ : World) => x = (.bool false : Value))), (97, (fun (x : Value) (_ : World) => x = (.agg #[.slice Aa pa.length ca] : Value)))] rfl rfl (fun o hop _ wq hQS => ?_) ?_
                · refine StepFrom.more_eq ((.bool false : Value)) ?_
                  refine StepFrom.more_eq ((.agg #[.slice Aa pa.length ca] : Value)) ?_
                  exact StepFrom.call hop (vs := [(.agg #[.slice Aa pa.length ca] : Value)]) (by kernel_rfl) (fun w => enter_norm _ w) (by kernel_rfl) ((CNA.out _ hQS).mono fun e w2 ⟨A, c, h1, h2, h3, h4⟩ => ⟨_, h1, h4, h3, A, c, rfl, h2⟩)
                refine StepsT.cons (fun (x : Value) (w : World) => ∃ A c, x = .agg #[.slice A na c] ∧ LvAt w A na c qa) [(96, (fun (x : Value) (_ : World) => x = (.bool false : Value))), (98, (fun (x : Value) (w : World) => ∃ A c, x = .agg #[.slice A na c] ∧ LvAt w A na c qa))] rfl rfl (fun o hop _ wq hQS => ?_) ?_
                · refine StepFrom.more_eq ((.bool false : Value)) ?_
                  refine StepFrom.more fun x98 h98 => ?_
                  obtain ⟨A98, c98, rfl, hl98⟩ := h98
                  exact StepFrom.call hop (vs := [(.agg #[.slice A98 na c98] : Value)]) (by kernel_rfl) (fun w => enter_norm _ w) (by kernel_rfl) ((CNN.out _ _ _ hl98 hQS).mono fun e w2 ⟨A, c, h1, h2, h3, h4⟩ => ⟨_, h1, h4, h3, A, c, rfl, h2⟩)
                refine StepsT.cons (fun (x : Value) (_ : World) => x = (.agg #[.slice Aa pa.length ca] : Value)) [(96, (fun (x : Value) (_ : World) => x = (.bool false : Value)))] rfl rfl (fun o hop _ wq hQS => ?_) ?_
                · refine StepFrom.more_eq ((.bool false : Value)) ?_
                  obtain ⟨hq0, e1, e2, e3⟩ := id hQS
                  exact StepFrom.load hop (by kernel_rfl) (load_level e1) (by kernel_rfl) hQS (Below.refl _ _) rfl
                refine StepsT.cons (fun (x : Value) (w : World) => ∃ A c, x = .agg #[.slice A na c] ∧ LvAt w A na c qa) [(96, (fun (x : Value) (_ : World) => x = (.bool false : Value))), (100, (fun (x : Value) (_ : World) => x = (.agg #[.slice Aa pa.length ca] : Value)))] rfl rfl (fun o hop _ wq hQS => ?_) ?_
                · refine StepFrom.more_eq ((.bool false : Value)) ?_
                  refine StepFrom.more_eq ((.agg #[.slice Aa pa.length ca] : Value)) ?_
                  exact StepFrom.call hop (vs := [(.agg #[.slice Aa pa.length ca] : Value)]) (by kernel_rfl) (fun w => enter_norm _ w) (by kernel_rfl) ((CNA.out _ hQS).mono fun e w2 ⟨A, c, h1, h2, h3, h4⟩ => ⟨_, h1, h4, h3, A, c, rfl, h2⟩)
                refine StepsT.cons (fun (x : Value) (_ : World) => x = (.bool true : Value)) [(96, (fun (x : Value) (_ : World) => x = (.bool false : Value))), (99, (fun (x : Value) (w : World) => ∃ A c, x = .agg #[.slice A na c] ∧ LvAt w A na c qa)), (101, (fun (x : Value) (w : World) => ∃ A c, x = .agg #[.slice A na c] ∧ LvAt w A na c qa))] rfl rfl (fun o hop _ wq hQS => ?_) ?_
                · refine StepFrom.more_eq ((.bool false : Value)) ?_
                  refine StepFrom.more fun x99 h99 => ?_
                  obtain ⟨A99, c99, rfl, hl99⟩ := h99
                  refine StepFrom.more fun x101 h101 => ?_
                  obtain ⟨A101, c101, rfl, hl101⟩ := h101
                  exact StepFrom.call hop (vs := [(.agg #[.slice A99 na c99] : Value), (.agg #[.slice A101 na c101] : Value)]) (by kernel_rfl) (fun w => enter_same _ w) (by kernel_rfl) ((CKN.out _ _ _ _ _ hl99 hl101 hQS).mono fun e w2 h => ⟨_, h.1, h.2.2, h.2.1, rfl⟩)
                refine StepsT.cons (fun (x : Value) (_ : World) => x = (.bool false : Value)) [(96, (fun (x : Value) (_ : World) => x = (.bool false : Value))), (102, (fun (x : Value) (_ : World) => x = (.bool true : Value)))] rfl rfl (fun o hop _ wq hQS => ?_) ?_
                · refine StepFrom.more_eq ((.bool false : Value)) ?_
                  refine StepFrom.more_eq ((.bool true : Value)) ?_
                  exact StepFrom.not hop (b := true) (by kernel_rfl) (by kernel_rfl) hQS (Below.refl _ _) rfl
                refine StepsT.cons (fun (x : Value) (_ : World) => x = (.bool false : Value)) [(96, (fun (x : Value) (_ : World) => x = (.bool false : Value))), (103, (fun (x : Value) (_ : World) => x = (.bool false : Value)))] rfl rfl (fun o hop _ wq hQS => ?_) ?_
                · refine StepFrom.more_eq ((.bool false : Value)) ?_
                  refine StepFrom.more_eq ((.bool false : Value)) ?_
                  exact StepFrom.pick hop (b := false) (vx := (Value.bool true : Value)) (vy := (.bool false : Value)) (by kernel_rfl) (by kernel_rfl) (by kernel_rfl) (by kernel_rfl) hQS (Below.refl _ _) rfl
                exact StepsT.nil
              case hfin =>
                intro wf hFS
                refine FinalFrom.more fun x57 h57 => ?_
                refine FinalFrom.more fun x58 h58 => ?_
                refine FinalFrom.more fun x59 h59 => ?_
                refine FinalFrom.more fun x60 h60 => ?_
                refine FinalFrom.more fun x61 h61 => ?_
                refine FinalFrom.more fun x62 h62 => ?_
                refine FinalFrom.more fun x63 h63 => ?_
                refine FinalFrom.more fun x64 h64 => ?_
                refine FinalFrom.more fun x65 h65 => ?_
                refine FinalFrom.more fun x66 h66 => ?_
                refine FinalFrom.more fun x67 h67 => ?_
                refine FinalFrom.more fun x68 h68 => ?_
                refine FinalFrom.more fun x69 h69 => ?_
                refine FinalFrom.more fun x70 h70 => ?_
                refine FinalFrom.more fun x71 h71 => ?_
                refine FinalFrom.more fun x72 h72 => ?_
                refine FinalFrom.more fun x73 h73 => ?_
                refine FinalFrom.more fun x74 h74 => ?_
                refine FinalFrom.more fun x75 h75 => ?_
                refine FinalFrom.more fun x76 h76 => ?_
                refine FinalFrom.more fun x77 h77 => ?_
                refine FinalFrom.more fun x78 h78 => ?_
                refine FinalFrom.more fun x79 h79 => ?_
                refine FinalFrom.more fun x80 h80 => ?_
                refine FinalFrom.more fun x81 h81 => ?_
                refine FinalFrom.more fun x82 h82 => ?_
                refine FinalFrom.more fun x83 h83 => ?_
                refine FinalFrom.more fun x84 h84 => ?_
                refine FinalFrom.more fun x85 h85 => ?_
                refine FinalFrom.more fun x86 h86 => ?_
                refine FinalFrom.more fun x87 h87 => ?_
                refine FinalFrom.more fun x88 h88 => ?_
                refine FinalFrom.more fun x89 h89 => ?_
                refine FinalFrom.more fun x90 h90 => ?_
                refine FinalFrom.more fun x91 h91 => ?_
                refine FinalFrom.more fun x92 h92 => ?_
                refine FinalFrom.more fun x93 h93 => ?_
                refine FinalFrom.more fun x94 h94 => ?_
                refine FinalFrom.more fun x95 h95 => ?_
                refine FinalFrom.more fun x96 h96 => ?_
                refine FinalFrom.more fun x97 h97 => ?_
                refine FinalFrom.more fun x98 h98 => ?_
                refine FinalFrom.more fun x99 h99 => ?_
                refine FinalFrom.more fun x100 h100 => ?_
                refine FinalFrom.more fun x101 h101 => ?_
                refine FinalFrom.more fun x102 h102 => ?_
                refine FinalFrom.more fun x103 h103 => ?_
                refine FinalFrom.more fun x104 h104 => ?_
                refine FinalFrom.done ?_
                obtain rfl : x104 = (.bool false : Value) := h104
                simp only [Act.put, List.setIfInBounds_toArray, List.set_cons_zero, List.set_cons_succ]
                clear hS CAA CBC CAC CSS CNA CNB CNN CKS CKN
                have hw := Lib.hid hFS
                clear hFS
                go_wp2
                go_meet
                exact ⟨rfl, hw.out⟩
            case rest =>
              obtain ⟨rfl, hbv⟩ := hcut
              obtain ⟨wv, hwv⟩ : ∃ wv, wv = wc := ⟨_, rfl⟩
              rw [← hwv] at hbv ⊢
              clear hwv
              have sv := hbv.1.size
              have B7 : Hid (Below w.heap.size w wv) := B6.out.trans (hbv.1.mono (by omega))
              have LA7 : Hid (LvAt wv Aa pa.length ca pa) := LA6.out.step hbv.1
              have LB7 : Hid (LvAt wv Ab pb.length cb pb) := LB6.out.step hbv.1
              have LC7 : Hid (LvAt wv Ac pc.length cc pc) := LC6.out.step hbv.1
              have LY7 : Hid (Levs wv wv.heap.size Ay bys) := (LY6.out.below hbv.1).more sv
              have e1 := hbv.2.1
              have e2 := hbv.2.2.1
              have e3 := hbv.2.2.2
              clear hbv hS CAA CBC CAC CSS CNA CNB CNN CKS CKN U6 B6 LA6 LB6 LC6 LY6 SAB KAB HEA HEB FQA FQB OQA NQA hsab
              have hro : (wv.alloc (.cells #[.slice Aa pa.length ca, .slice Ab pb.length cb] 25)).ownsRow wv.heap.size 25 1 (.slice (some ⟨wv.heap.size, 0, none⟩) 2 2) 2 [.slice Aa pa.length ca, .slice Ab pb.length cb] :=
                World.ownsRow_lit (base := wv.heap.size) (e := 25) (size := 1) wv #[.slice Aa pa.length ca, .slice Ab pb.length cb] 2 (Nat.le_refl _) (by unfold maxLen; omega) rfl
              have hb8 : Below wv.heap.size wv (wv.alloc (.cells #[.slice Aa pa.length ca, .slice Ab pb.length cb] 25)) := (Below.refl wv.heap.size wv).alloc (Nat.le_refl _) _
              have hlv : Levs (wv.alloc (.cells #[.slice Aa pa.length ca, .slice Ab pb.length cb] 25)) (wv.alloc (.cells #[.slice Aa pa.length ca, .slice Ab pb.length cb] 25)).heap.size (some ⟨wv.heap.size, 0, none⟩) [pa, pb] :=
                row_levs hro ((row_app (row_one LA7.out.2.1 CA.out PA.out) (row_one LB7.out.2.1 CB.out PB.out)).below hb8) (by simp)
              have hmx : Calls Try.prog 19 #[.slice (some ⟨wv.heap.size, 0, none⟩) 2 2] (wv.alloc (.cells #[.slice Aa pa.length ca, .slice Ab pb.length cb] 25)) (LvOut (wv.alloc (.cells #[.slice Aa pa.length ca, .slice Ab pb.length cb] 25)) (nf (flat [pa, pb]))) :=
                (max_any (some ⟨wv.heap.size, 0, none⟩) [pa, pb] 2 _ (by unfold maxLen; simp) (by rw [flat_two, List.length_append]; have := H6.out pa (by simp); have := H6.out pb (by simp); unfold Few; omega) hlv (fun p hp => by
                  rw [flat_two] at hp
                  rcases List.mem_append.1 hp with h | h
                  · exact OA.out p h
                  · exact OB.out p h)).mono fun _ _ h => h.out
              obtain ⟨pm, hpm⟩ : ∃ pm, nf (flat [pa, pb]) = pm := ⟨_, rfl⟩
              have M1 : Hid (LeqS pa pm) := by rw [← hpm]; exact leq_two_l NA.out NB.out
              have M2 : Hid (LeqS pb pm) := by rw [← hpm]; exact leq_two_r NA.out NB.out
              have M3 : Hid (LeqS pa pc → LeqS pb pc → LeqS pm pc) := by rw [← hpm]; exact leq_two_le NA.out NB.out NC.out
              have M4 : Hid (∀ p ∈ pm, okSmall p) := fun p hp => by
                rw [← hpm] at hp
                rcases two_mem NA.out NB.out hp with h | h
                · exact SA.out p h
                · exact SB.out p h
              have M5 : Hid (pm.length ≤ 120) := by
                have h1 := two_len NA.out NB.out
                have := H6.out pa (by simp)
                have := H6.out pb (by simp)
                rw [hpm] at h1
                unfold Hid
                omega
              have M6 : Hid (SameS (nfA (putS (nfA pm) bys)) (nf (flat [nfA (putS (nfA pa) bys), nfA (putS (nfA pb) bys)]))) := by rw [← hpm]; exact put_two SA.out SB.out SY.out
              have M7 : Hid (∀ ns, valS pm ns = max (valS pa ns) (valS pb ns)) := by rw [← hpm]; exact valS_two NA.out NB.out
              rw [hpm] at hmx
              have HMX := Lib.hid hmx
              have B8 := Lib.hid hb8
              clear hmx hpm hlv hro hb8
              go_wp2_with (fail)
              refine HMX.out.mono ?_
              rintro e w8 ⟨Am, cm, rfl, hlm, hb9⟩
              obtain ⟨nm, hnm⟩ : ∃ nm, pm.length = nm := ⟨_, rfl⟩
              rw [hnm] at hlm ⊢
              have LM8 := Lib.hid hlm
              have B9 : Hid (Below wv.heap.size wv w8) := B8.out.trans (hb9.mono (by simp))
              have s8 : wv.heap.size + 1 ≤ w8.heap.size := by have := hb9.size; simpa using this
              clear hlm hb9 HMX B8
              go_upto_region 14 with (fail)
              have hb10 : Below w8.heap.size w8 (w8.alloc (.cells #[.slice Am nm cm] 25)) := (Below.refl w8.heap.size w8).alloc (Nat.le_refl _) _
              have em : (w8.alloc (.cells #[.slice Am nm cm] 25)).cell? ⟨w8.heap.size, 0, none⟩ = some (.slice Am nm cm) := cell_of_one (heap_alloc_new w8 (.cells #[.slice Am nm cm] 25))
              obtain ⟨w9, hw9⟩ : ∃ w9, w8.alloc (.cells #[.slice Am nm cm] 25) = w9 := ⟨_, rfl⟩
              rw [hw9] at hb10 em ⊢
              have s9 := hb10.size
              have gm0 : w8.heap.size < w9.heap.size := cell_lt em
              clear hw9
              have hb11 : Below wv.heap.size wv w9 := B9.out.trans (hb10.mono (by omega))
              have B10 : Hid (Below w.heap.size w w9) := B7.out.trans (hb11.mono (by omega))
              have LA9 : Hid (LvAt w9 Aa pa.length ca pa) := LA7.out.step hb11
              have LB9 : Hid (LvAt w9 Ab pb.length cb pb) := LB7.out.step hb11
              have LC9 : Hid (LvAt w9 Ac pc.length cc pc) := LC7.out.step hb11
              have LM9 : Hid (LvAt w9 Am nm cm pm) := LM8.out.step hb10
              have LY9 : Hid (Levs w9 w9.heap.size Ay bys) := (LY7.out.below hb11).more (by omega)
              have f1 := (hb11.cell (by show w.heap.size < wv.heap.size; omega)).trans e1
              have f2 := (hb11.cell (by show w.heap.size + 1 < wv.heap.size; omega)).trans e2
              have f3 := (hb11.cell (by show w.heap.size + 2 < wv.heap.size; omega)).trans e3
              clear hb10 hb11 e1 e2 e3 B7 B9 LA7 LB7 LC7 LM8 LY7
              obtain ⟨gm, hgm⟩ : ∃ gm, gm = w8.heap.size := ⟨_, rfl⟩
              rw [← hgm] at em gm0 ⊢
              have gm1 : w.heap.size + 3 ≤ gm := by omega
              clear hgm s8 s9
              have FM : Hid (Few pm.length) := by have := M5.out; unfold Hid Few; omega
              have OM : Hid (∀ p ∈ pm, okPart p) := fun p hp => (M4.out p hp).ok
              have NM : Hid (Nn pm) := nn_ok OM.out
              obtain ⟨ps, hps⟩ : ∃ ps, succS pa = ps := ⟨_, rfl⟩
              obtain ⟨ns, hns⟩ : ∃ ns, ps.length = ns := ⟨_, rfl⟩
              have HSU := succ_ok fun p hp => (SA.out p hp).up
              rw [hps] at HSU
              have FS : Hid (Few ps.length) := by have h1 := HSU.2; have := H6.out pa (by simp); unfold Hid Few; omega
              have OS : Hid (∀ p ∈ ps, okPart p) := HSU.1
              have S1 : Hid (LeqS pa ps) := by rw [← hps]; exact leq_succ NA.out
              have S2 : Hid (¬ LeqS ps pa) := by rw [← hps]; exact not_succ_leq NA.out
              clear HSU
              obtain ⟨ac, hac⟩ := bool_of (LeqS pa pc)
              have AC := Lib.hid hac
              obtain ⟨acbc, hacbc⟩ : ∃ s, (ac && bc) = s := ⟨_, rfl⟩
              clear hac
              have DAM : Hid (∀ w', BoxL w9 [(w.heap.size, .slice Aa pa.length ca), (w.heap.size + 1, .slice Ab pb.length cb), (w.heap.size + 2, .slice Ac pc.length cc), (gm, .slice Am nm cm)] w' → Calls Try.prog 16 #[.agg #[.slice Aa pa.length ca], .agg #[.slice Am nm cm]] w' fun e w'' => e = .returned (.bool true) ∧ Below w'.heap.size w' w'' ∧ BoxL w9 [(w.heap.size, .slice Aa pa.length ca), (w.heap.size + 1, .slice Ab pb.length cb), (w.heap.size + 2, .slice Ac pc.length cc), (gm, .slice Am nm cm)] w'') := fun w' hx => (leq_at Aa _ ca pa Am _ cm pm w' (LA9.out.step hx.1) (LM9.out.step hx.1) ⟨FA.out, FM.out⟩ ⟨OA.out, OM.out⟩ true ⟨fun _ => M1.out, fun _ => rfl⟩).mono fun _ _ h => ⟨h.1, h.2, hx.step h.2⟩
              have DBM : Hid (∀ w', BoxL w9 [(w.heap.size, .slice Aa pa.length ca), (w.heap.size + 1, .slice Ab pb.length cb), (w.heap.size + 2, .slice Ac pc.length cc), (gm, .slice Am nm cm)] w' → Calls Try.prog 16 #[.agg #[.slice Ab pb.length cb], .agg #[.slice Am nm cm]] w' fun e w'' => e = .returned (.bool true) ∧ Below w'.heap.size w' w'' ∧ BoxL w9 [(w.heap.size, .slice Aa pa.length ca), (w.heap.size + 1, .slice Ab pb.length cb), (w.heap.size + 2, .slice Ac pc.length cc), (gm, .slice Am nm cm)] w'') := fun w' hx => (leq_at Ab _ cb pb Am _ cm pm w' (LB9.out.step hx.1) (LM9.out.step hx.1) ⟨FB.out, FM.out⟩ ⟨OB.out, OM.out⟩ true ⟨fun _ => M2.out, fun _ => rfl⟩).mono fun _ _ h => ⟨h.1, h.2, hx.step h.2⟩
              have DAC : Hid (∀ w', BoxL w9 [(w.heap.size, .slice Aa pa.length ca), (w.heap.size + 1, .slice Ab pb.length cb), (w.heap.size + 2, .slice Ac pc.length cc), (gm, .slice Am nm cm)] w' → Calls Try.prog 16 #[.agg #[.slice Aa pa.length ca], .agg #[.slice Ac pc.length cc]] w' fun e w'' => e = .returned (.bool ac) ∧ Below w'.heap.size w' w'' ∧ BoxL w9 [(w.heap.size, .slice Aa pa.length ca), (w.heap.size + 1, .slice Ab pb.length cb), (w.heap.size + 2, .slice Ac pc.length cc), (gm, .slice Am nm cm)] w'') := fun w' hx => (leq_at Aa _ ca pa Ac _ cc pc w' (LA9.out.step hx.1) (LC9.out.step hx.1) ⟨FA.out, FC.out⟩ ⟨OA.out, OC.out⟩ ac AC.out).mono fun _ _ h => ⟨h.1, h.2, hx.step h.2⟩
              have DBC : Hid (∀ w', BoxL w9 [(w.heap.size, .slice Aa pa.length ca), (w.heap.size + 1, .slice Ab pb.length cb), (w.heap.size + 2, .slice Ac pc.length cc), (gm, .slice Am nm cm)] w' → Calls Try.prog 16 #[.agg #[.slice Ab pb.length cb], .agg #[.slice Ac pc.length cc]] w' fun e w'' => e = .returned (.bool bc) ∧ Below w'.heap.size w' w'' ∧ BoxL w9 [(w.heap.size, .slice Aa pa.length ca), (w.heap.size + 1, .slice Ab pb.length cb), (w.heap.size + 2, .slice Ac pc.length cc), (gm, .slice Am nm cm)] w'') := fun w' hx => (leq_at Ab _ cb pb Ac _ cc pc w' (LB9.out.step hx.1) (LC9.out.step hx.1) ⟨FB.out, FC.out⟩ ⟨OB.out, OC.out⟩ bc BC.out).mono fun _ _ h => ⟨h.1, h.2, hx.step h.2⟩
              have DMC : acbc = true → Hid (∀ w', BoxL w9 [(w.heap.size, .slice Aa pa.length ca), (w.heap.size + 1, .slice Ab pb.length cb), (w.heap.size + 2, .slice Ac pc.length cc), (gm, .slice Am nm cm)] w' → Calls Try.prog 16 #[.agg #[.slice Am nm cm], .agg #[.slice Ac pc.length cc]] w' fun e w'' => e = .returned (.bool true) ∧ Below w'.heap.size w' w'' ∧ BoxL w9 [(w.heap.size, .slice Aa pa.length ca), (w.heap.size + 1, .slice Ab pb.length cb), (w.heap.size + 2, .slice Ac pc.length cc), (gm, .slice Am nm cm)] w'') := fun hq w' hx => (leq_at Am _ cm pm Ac _ cc pc w' (LM9.out.step hx.1) (LC9.out.step hx.1) ⟨FM.out, FC.out⟩ ⟨OM.out, OC.out⟩ true ⟨fun _ => M3.out (AC.out.1 (Bool.and_eq_true_iff.1 (hacbc.trans hq)).1) (BC.out.1 (Bool.and_eq_true_iff.1 (hacbc.trans hq)).2), fun _ => rfl⟩).mono fun _ _ h => ⟨h.1, h.2, hx.step h.2⟩
              have DSU : Hid (∀ w', BoxL w9 [(w.heap.size, .slice Aa pa.length ca), (w.heap.size + 1, .slice Ab pb.length cb), (w.heap.size + 2, .slice Ac pc.length cc), (gm, .slice Am nm cm)] w' → Calls Try.prog 20 #[.agg #[.slice Aa pa.length ca]] w' fun e w'' => ∃ A c, e = .returned (.agg #[.slice A ns c]) ∧ LvAt w'' A ns c ps ∧ Below w'.heap.size w' w'' ∧ BoxL w9 [(w.heap.size, .slice Aa pa.length ca), (w.heap.size + 1, .slice Ab pb.length cb), (w.heap.size + 2, .slice Ac pc.length cc), (gm, .slice Am nm cm)] w'') := fun w' hx => by
                obtain ⟨_, h1, h2⟩ := LA9.out.step hx.1
                refine (succ_any Aa pa ca w' FA.out h1 h2 fun p hp => (SA.out p hp).up).mono fun _ _ h => ?_
                obtain ⟨A, c, h3, h4, h5⟩ := h.out
                rw [hps, hns] at h3 h4
                exact ⟨A, c, h3, h4, h5, hx.step h5⟩
              have DAS : Hid (∀ A c w', LvAt w' A ns c ps → BoxL w9 [(w.heap.size, .slice Aa pa.length ca), (w.heap.size + 1, .slice Ab pb.length cb), (w.heap.size + 2, .slice Ac pc.length cc), (gm, .slice Am nm cm)] w' → Calls Try.prog 16 #[.agg #[.slice Aa pa.length ca], .agg #[.slice A ns c]] w' fun e w'' => e = .returned (.bool true) ∧ Below w'.heap.size w' w'' ∧ BoxL w9 [(w.heap.size, .slice Aa pa.length ca), (w.heap.size + 1, .slice Ab pb.length cb), (w.heap.size + 2, .slice Ac pc.length cc), (gm, .slice Am nm cm)] w'') := fun A c w' h hx => (leq_at Aa _ ca pa A _ c ps w' (LA9.out.step hx.1) h ⟨FA.out, FS.out⟩ ⟨OA.out, OS.out⟩ true ⟨fun _ => S1.out, fun _ => rfl⟩).mono fun _ _ h => ⟨h.1, h.2, hx.step h.2⟩
              have DSA : Hid (∀ A c w', LvAt w' A ns c ps → BoxL w9 [(w.heap.size, .slice Aa pa.length ca), (w.heap.size + 1, .slice Ab pb.length cb), (w.heap.size + 2, .slice Ac pc.length cc), (gm, .slice Am nm cm)] w' → Calls Try.prog 16 #[.agg #[.slice A ns c], .agg #[.slice Aa pa.length ca]] w' fun e w'' => e = .returned (.bool false) ∧ Below w'.heap.size w' w'' ∧ BoxL w9 [(w.heap.size, .slice Aa pa.length ca), (w.heap.size + 1, .slice Ab pb.length cb), (w.heap.size + 2, .slice Ac pc.length cc), (gm, .slice Am nm cm)] w'') := fun A c w' h hx => (leq_at A _ c ps Aa _ ca pa w' h (LA9.out.step hx.1) ⟨FS.out, FA.out⟩ ⟨OS.out, OA.out⟩ false ⟨fun h => (by cases h), fun h => absurd h S2.out⟩).mono fun _ _ h => ⟨h.1, h.2, hx.step h.2⟩
              have hS : BoxL w9 [(w.heap.size, .slice Aa pa.length ca), (w.heap.size + 1, .slice Ab pb.length cb), (w.heap.size + 2, .slice Ac pc.length cc), (gm, .slice Am nm cm)] w9.drew := BoxL.drew (by simp only [List.mem_cons, List.not_mem_nil, or_false, forall_eq_or_imp, forall_eq]; exact ⟨f1, f2, f3, em⟩)
              go_cut [147] from 109 to 147 (fun s wy => s = .bool false ∧ BoxL w9 [(w.heap.size, .slice Aa pa.length ca), (w.heap.size + 1, .slice Ab pb.length cb), (w.heap.size + 2, .slice Ac pc.length cc), (gm, .slice Am nm cm)] wy)
              case first =>
                refine wp_region_tab (fun w' => BoxL w9 [(w.heap.size, .slice Aa pa.length ca), (w.heap.size + 1, .slice Ab pb.length cb), (w.heap.size + 2, .slice Ac pc.length cc), (gm, .slice Am nm cm)] w') (fun w1 w2 : World => Below w1.heap.size w1 w2) [(fun (x : Value) (_ : World) => x = (.agg #[.slice Aa pa.length ca] : Value)), (fun (x : Value) (_ : World) => x = (.agg #[.slice Am nm cm] : Value)), (fun (x : Value) (_ : World) => x = (.bool true : Value)), (fun (x : Value) (_ : World) => x = (.bool false : Value)), (fun (x : Value) (_ : World) => x = (.bool false : Value)), (fun (x : Value) (_ : World) => x = (.agg #[.slice Ab pb.length cb] : Value)), (fun (x : Value) (_ : World) => x = (.agg #[.slice Am nm cm] : Value)), (fun (x : Value) (_ : World) => x = (.bool true : Value)), (fun (x : Value) (_ : World) => x = (.bool false : Value)), (fun (x : Value) (_ : World) => x = (.bool false : Value)), (fun (x : Value) (_ : World) => x = (.bool false : Value)), (fun (x : Value) (_ : World) => x = (.agg #[.slice Aa pa.length ca] : Value)), (fun (x : Value) (_ : World) => x = (.agg #[.slice Ac pc.length cc] : Value)), (fun (x : Value) (_ : World) => x = (.bool ac : Value)), (fun (x : Value) (_ : World) => x = (.bool ac : Value)), (fun (x : Value) (_ : World) => x = gv ac (.agg #[.slice Ab pb.length cb])), (fun (x : Value) (_ : World) => x = gv ac (.agg #[.slice Ac pc.length cc])), (fun (x : Value) (_ : World) => x = gv ac (.bool bc)), (fun (x : Value) (_ : World) => x = (.bool acbc : Value)), (fun (x : Value) (_ : World) => x = (.bool acbc : Value)), (fun (x : Value) (_ : World) => x = gv acbc (.agg #[.slice Am nm cm])), (fun (x : Value) (_ : World) => x = gv acbc (.agg #[.slice Ac pc.length cc])), (fun (x : Value) (_ : World) => x = gv acbc (.bool true)), (fun (x : Value) (_ : World) => x = gv acbc (.bool false)), (fun (x : Value) (_ : World) => x = (.bool false : Value)), (fun (x : Value) (_ : World) => x = (.bool false : Value)), (fun (x : Value) (_ : World) => x = (.bool false : Value)), (fun (x : Value) (_ : World) => x = (.agg #[.slice Aa pa.length ca] : Value)), (fun (x : Value) (_ : World) => x = (.agg #[.slice Aa pa.length ca] : Value)), (fun (x : Value) (w : World) => ∃ A c, x = .agg #[.slice A ns c] ∧ LvAt w A ns c ps), (fun (x : Value) (_ : World) => x = (.bool true : Value)), (fun (x : Value) (_ : World) => x = (.bool false : Value)), (fun (x : Value) (_ : World) => x = (.bool false : Value)), (fun (x : Value) (_ : World) => x = (.bool false : Value)), (fun (x : Value) (_ : World) => x = (.agg #[.slice Aa pa.length ca] : Value)), (fun (x : Value) (w : World) => ∃ A c, x = .agg #[.slice A ns c] ∧ LvAt w A ns c ps), (fun (x : Value) (_ : World) => x = (.agg #[.slice Aa pa.length ca] : Value)), (fun (x : Value) (_ : World) => x = (.bool false : Value)), (fun (x : Value) (_ : World) => x = (.bool false : Value))] [⟨some 109, .load 25 (.tmp 4), none, []⟩, ⟨some 110, .load 25 (.tmp 12), none, []⟩, ⟨some 111, .call { callee := .value (.func 16), args := #[.tmp 109, .tmp 110], argTypes := #[25, 25] }, none, [(109, 0), (110, 1)]⟩, ⟨some 112, .unOp .not 4 (.tmp 111), none, [(111, 2)]⟩, ⟨some 113, .move (.tmp 112), none, [(112, 3)]⟩, ⟨some 114, .load 25 (.tmp 5), some (some 113, false), [(113, 4)]⟩, ⟨some 115, .load 25 (.tmp 12), some (some 113, false), [(113, 4)]⟩, ⟨some 116, .call { callee := .value (.func 16), args := #[.tmp 114, .tmp 115], argTypes := #[25, 25] }, some (some 113, false), [(113, 4), (114, 5), (115, 6)]⟩, ⟨some 117, .unOp .not 4 (.tmp 116), some (some 113, false), [(113, 4), (116, 7)]⟩, ⟨some 118, .pick (.tmp 113) (.const (Value.bool true)) (.tmp 117), none, [(113, 4), (117, 8)]⟩, ⟨some 119, .move (.tmp 118), none, [(118, 9)]⟩, ⟨some 120, .load 25 (.tmp 4), some (some 119, false), [(119, 10)]⟩, ⟨some 121, .load 25 (.tmp 6), some (some 119, false), [(119, 10)]⟩, ⟨some 122, .call { callee := .value (.func 16), args := #[.tmp 120, .tmp 121], argTypes := #[25, 25] }, some (some 119, false), [(119, 10), (120, 11), (121, 12)]⟩, ⟨some 123, .move (.tmp 122), some (some 119, false), [(119, 10), (122, 13)]⟩, ⟨some 124, .load 25 (.tmp 5), some (some 123, true), [(123, 14)]⟩, ⟨some 125, .load 25 (.tmp 6), some (some 123, true), [(123, 14)]⟩, ⟨some 126, .call { callee := .value (.func 16), args := #[.tmp 124, .tmp 125], argTypes := #[25, 25] }, some (some 123, true), [(123, 14), (124, 15), (125, 16)]⟩, ⟨some 127, .pick (.tmp 123) (.tmp 126) (.const (Value.bool false)), some (some 119, false), [(119, 10), (123, 14), (126, 17)]⟩, ⟨some 128, .move (.tmp 127), some (some 119, false), [(119, 10), (127, 18)]⟩, ⟨some 129, .load 25 (.tmp 12), some (some 128, true), [(128, 19)]⟩, ⟨some 130, .load 25 (.tmp 6), some (some 128, true), [(128, 19)]⟩, ⟨some 131, .call { callee := .value (.func 16), args := #[.tmp 129, .tmp 130], argTypes := #[25, 25] }, some (some 128, true), [(128, 19), (129, 20), (130, 21)]⟩, ⟨some 132, .unOp .not 4 (.tmp 131), some (some 128, true), [(128, 19), (131, 22)]⟩, ⟨some 133, .pick (.tmp 128) (.tmp 132) (.const (Value.bool false)), some (some 119, false), [(119, 10), (128, 19), (132, 23)]⟩, ⟨some 134, .pick (.tmp 119) (.const (Value.bool true)) (.tmp 133), none, [(119, 10), (133, 24)]⟩, ⟨some 135, .move (.tmp 134), none, [(134, 25)]⟩, ⟨some 136, .load 25 (.tmp 4), some (some 135, false), [(135, 26)]⟩, ⟨some 137, .load 25 (.tmp 4), some (some 135, false), [(135, 26)]⟩, ⟨some 138, .call { callee := .value (.func 20), args := #[.tmp 137], argTypes := #[25] }, some (some 135, false), [(135, 26), (137, 28)]⟩, ⟨some 139, .call { callee := .value (.func 16), args := #[.tmp 136, .tmp 138], argTypes := #[25, 25] }, some (some 135, false), [(135, 26), (136, 27), (138, 29)]⟩, ⟨some 140, .unOp .not 4 (.tmp 139), some (some 135, false), [(135, 26), (139, 30)]⟩, ⟨some 141, .pick (.tmp 135) (.const (Value.bool true)) (.tmp 140), none, [(135, 26), (140, 31)]⟩, ⟨some 142, .move (.tmp 141), none, [(141, 32)]⟩, ⟨some 143, .load 25 (.tmp 4), some (some 142, false), [(142, 33)]⟩, ⟨some 144, .call { callee := .value (.func 20), args := #[.tmp 143], argTypes := #[25] }, some (some 142, false), [(142, 33), (143, 34)]⟩, ⟨some 145, .load 25 (.tmp 4), some (some 142, false), [(142, 33)]⟩, ⟨some 146, .call { callee := .value (.func 16), args := #[.tmp 144, .tmp 145], argTypes := #[25, 25] }, some (some 142, false), [(142, 33), (144, 35), (145, 36)]⟩, ⟨some 147, .pick (.tmp 142) (.const (Value.bool true)) (.tmp 146), none, [(142, 33), (146, 37)]⟩] [some 109, some 110, some 111, some 112, some 113, some 114, some 115, some 116, some 117, some 118, some 119, some 120, some 121, some 122, some 123, some 124, some 125, some 126, some 127, some 128, some 129, some 130, some 131, some 132, some 133, some 134, some 135, some 136, some 137, some 138, some 139, some 140, some 141, some 142, some 143, some 144, some 145, some 146, some 147] (by kernel_rfl) (by kernel_rfl) (by kernel_rfl) (by kernel_rfl) (by kernel_rfl) ?hS ?hmono ?hsteps ?hfin
                case hS => exact hS
                case hmono =>
                  refine MonoL.cons (fun x w1 w2 _ _ _ hx => hx) ?_
                  refine MonoL.cons (fun x w1 w2 _ _ _ hx => hx) ?_
                  refine MonoL.cons (fun x w1 w2 _ _ _ hx => hx) ?_
                  refine MonoL.cons (fun x w1 w2 _ _ _ hx => hx) ?_
                  refine MonoL.cons (fun x w1 w2 _ _ _ hx => hx) ?_
                  refine MonoL.cons (fun x w1 w2 _ _ _ hx => hx) ?_
                  refine MonoL.cons (fun x w1 w2 _ _ _ hx => hx) ?_
                  refine MonoL.cons (fun x w1 w2 _ _ _ hx => hx) ?_
                  refine MonoL.cons (fun x w1 w2 _ _ _ hx => hx) ?_
                  refine MonoL.cons (fun x w1 w2 _ _ _ hx => hx) ?_
                  refine MonoL.cons (fun x w1 w2 _ _ _ hx => hx) ?_
                  refine MonoL.cons (fun x w1 w2 _ _ _ hx => hx) ?_
                  refine MonoL.cons (fun x w1 w2 _ _ _ hx => hx) ?_
                  refine MonoL.cons (fun x w1 w2 _ _ _ hx => hx) ?_
                  refine MonoL.cons (fun x w1 w2 _ _ _ hx => hx) ?_
                  refine MonoL.cons (fun x w1 w2 _ _ _ hx => hx) ?_
                  refine MonoL.cons (fun x w1 w2 _ _ _ hx => hx) ?_
                  refine MonoL.cons (fun x w1 w2 _ _ _ hx => hx) ?_
                  refine MonoL.cons (fun x w1 w2 _ _ _ hx => hx) ?_
                  refine MonoL.cons (fun x w1 w2 _ _ _ hx => hx) ?_
                  refine MonoL.cons (fun x w1 w2 _ _ _ hx => hx) ?_
                  refine MonoL.cons (fun x w1 w2 _ _ _ hx => hx) ?_
                  refine MonoL.cons (fun x w1 w2 _ _ _ hx => hx) ?_
                  refine MonoL.cons (fun x w1 w2 _ _ _ hx => hx) ?_
                  refine MonoL.cons (fun x w1 w2 _ _ _ hx => hx) ?_
                  refine MonoL.cons (fun x w1 w2 _ _ _ hx => hx) ?_
                  refine MonoL.cons (fun x w1 w2 _ _ _ hx => hx) ?_
                  refine MonoL.cons (fun x w1 w2 _ _ _ hx => hx) ?_
                  refine MonoL.cons (fun x w1 w2 _ _ _ hx => hx) ?_
                  refine MonoL.cons (fun x w1 w2 _ _ hR hx => ?_) ?_
                  · obtain ⟨A, c, rfl, h⟩ := hx; exact ⟨A, c, rfl, h.step hR⟩
                  refine MonoL.cons (fun x w1 w2 _ _ _ hx => hx) ?_
                  refine MonoL.cons (fun x w1 w2 _ _ _ hx => hx) ?_
                  refine MonoL.cons (fun x w1 w2 _ _ _ hx => hx) ?_
                  refine MonoL.cons (fun x w1 w2 _ _ _ hx => hx) ?_
                  refine MonoL.cons (fun x w1 w2 _ _ _ hx => hx) ?_
                  refine MonoL.cons (fun x w1 w2 _ _ hR hx => ?_) ?_
                  · obtain ⟨A, c, rfl, h⟩ := hx; exact ⟨A, c, rfl, h.step hR⟩
                  refine MonoL.cons (fun x w1 w2 _ _ _ hx => hx) ?_
                  refine MonoL.cons (fun x w1 w2 _ _ _ hx => hx) ?_
                  refine MonoL.cons (fun x w1 w2 _ _ _ hx => hx) ?_
                  exact MonoL.nil
                case hsteps =>
                  refine StepsT.cons (fun (x : Value) (_ : World) => x = (.agg #[.slice Aa pa.length ca] : Value)) [] rfl rfl (fun o hop _ wq hQS => ?_) ?_
                  · skip
                    exact StepFrom.load hop (by kernel_rfl) (load_level (hQS.2 (w.heap.size, .slice Aa pa.length ca) (by simp))) (by kernel_rfl) hQS (Below.refl _ _) rfl
                  refine StepsT.cons (fun (x : Value) (_ : World) => x = (.agg #[.slice Am nm cm] : Value)) [] rfl rfl (fun o hop _ wq hQS => ?_) ?_
                  · skip
                    exact StepFrom.load hop (by kernel_rfl) (load_level (hQS.2 (gm, .slice Am nm cm) (by simp))) (by kernel_rfl) hQS (Below.refl _ _) rfl
                  refine StepsT.cons (fun (x : Value) (_ : World) => x = (.bool true : Value)) [(109, (fun (x : Value) (_ : World) => x = (.agg #[.slice Aa pa.length ca] : Value))), (110, (fun (x : Value) (_ : World) => x = (.agg #[.slice Am nm cm] : Value)))] rfl rfl (fun o hop _ wq hQS => ?_) ?_
                  · refine StepFrom.more_eq ((.agg #[.slice Aa pa.length ca] : Value)) ?_
                    refine StepFrom.more_eq ((.agg #[.slice Am nm cm] : Value)) ?_
                    exact StepFrom.call hop (vs := [(.agg #[.slice Aa pa.length ca] : Value), (.agg #[.slice Am nm cm] : Value)]) (by kernel_rfl) (fun w => enter_leq _ w) (by kernel_rfl) ((DAM.out _ hQS).mono fun e w2 h => ⟨_, h.1, h.2.2, h.2.1, rfl⟩)
                  refine StepsT.cons (fun (x : Value) (_ : World) => x = (.bool false : Value)) [(111, (fun (x : Value) (_ : World) => x = (.bool true : Value)))] rfl rfl (fun o hop _ wq hQS => ?_) ?_
                  · refine StepFrom.more_eq ((.bool true : Value)) ?_
                    exact StepFrom.not hop (b := true) (by kernel_rfl) (by kernel_rfl) hQS (Below.refl _ _) rfl
                  refine StepsT.cons (fun (x : Value) (_ : World) => x = (.bool false : Value)) [(112, (fun (x : Value) (_ : World) => x = (.bool false : Value)))] rfl rfl (fun o hop _ wq hQS => ?_) ?_
                  · refine StepFrom.more_eq ((.bool false : Value)) ?_
                    exact StepFrom.move hop (v := (.bool false : Value)) (by kernel_rfl) (by kernel_rfl) hQS (Below.refl _ _) rfl
                  refine StepsT.cons (fun (x : Value) (_ : World) => x = (.agg #[.slice Ab pb.length cb] : Value)) [(113, (fun (x : Value) (_ : World) => x = (.bool false : Value)))] rfl rfl (fun o hop _ wq hQS => ?_) ?_
                  · refine StepFrom.more_eq ((.bool false : Value)) ?_
                    skip
                    exact StepFrom.load hop (by kernel_rfl) (load_level (hQS.2 (w.heap.size + 1, .slice Ab pb.length cb) (by simp))) (by kernel_rfl) hQS (Below.refl _ _) rfl
                  refine StepsT.cons (fun (x : Value) (_ : World) => x = (.agg #[.slice Am nm cm] : Value)) [(113, (fun (x : Value) (_ : World) => x = (.bool false : Value)))] rfl rfl (fun o hop _ wq hQS => ?_) ?_
                  · refine StepFrom.more_eq ((.bool false : Value)) ?_
                    skip
                    exact StepFrom.load hop (by kernel_rfl) (load_level (hQS.2 (gm, .slice Am nm cm) (by simp))) (by kernel_rfl) hQS (Below.refl _ _) rfl
                  refine StepsT.cons (fun (x : Value) (_ : World) => x = (.bool true : Value)) [(113, (fun (x : Value) (_ : World) => x = (.bool false : Value))), (114, (fun (x : Value) (_ : World) => x = (.agg #[.slice Ab pb.length cb] : Value))), (115, (fun (x : Value) (_ : World) => x = (.agg #[.slice Am nm cm] : Value)))] rfl rfl (fun o hop _ wq hQS => ?_) ?_
                  · refine StepFrom.more_eq ((.bool false : Value)) ?_
                    refine StepFrom.more_eq ((.agg #[.slice Ab pb.length cb] : Value)) ?_
                    refine StepFrom.more_eq ((.agg #[.slice Am nm cm] : Value)) ?_
                    exact StepFrom.call hop (vs := [(.agg #[.slice Ab pb.length cb] : Value), (.agg #[.slice Am nm cm] : Value)]) (by kernel_rfl) (fun w => enter_leq _ w) (by kernel_rfl) ((DBM.out _ hQS).mono fun e w2 h => ⟨_, h.1, h.2.2, h.2.1, rfl⟩)
                  refine StepsT.cons (fun (x : Value) (_ : World) => x = (.bool false : Value)) [(113, (fun (x : Value) (_ : World) => x = (.bool false : Value))), (116, (fun (x : Value) (_ : World) => x = (.bool true : Value)))] rfl rfl (fun o hop _ wq hQS => ?_) ?_
                  · refine StepFrom.more_eq ((.bool false : Value)) ?_
                    refine StepFrom.more_eq ((.bool true : Value)) ?_
                    exact StepFrom.not hop (b := true) (by kernel_rfl) (by kernel_rfl) hQS (Below.refl _ _) rfl
                  refine StepsT.cons (fun (x : Value) (_ : World) => x = (.bool false : Value)) [(113, (fun (x : Value) (_ : World) => x = (.bool false : Value))), (117, (fun (x : Value) (_ : World) => x = (.bool false : Value)))] rfl rfl (fun o hop _ wq hQS => ?_) ?_
                  · refine StepFrom.more_eq ((.bool false : Value)) ?_
                    refine StepFrom.more_eq ((.bool false : Value)) ?_
                    exact StepFrom.pick hop (b := false) (vx := (Value.bool true : Value)) (vy := (.bool false : Value)) (by kernel_rfl) (by kernel_rfl) (by kernel_rfl) (by kernel_rfl) hQS (Below.refl _ _) rfl
                  refine StepsT.cons (fun (x : Value) (_ : World) => x = (.bool false : Value)) [(118, (fun (x : Value) (_ : World) => x = (.bool false : Value)))] rfl rfl (fun o hop _ wq hQS => ?_) ?_
                  · refine StepFrom.more_eq ((.bool false : Value)) ?_
                    exact StepFrom.move hop (v := (.bool false : Value)) (by kernel_rfl) (by kernel_rfl) hQS (Below.refl _ _) rfl
                  refine StepsT.cons (fun (x : Value) (_ : World) => x = (.agg #[.slice Aa pa.length ca] : Value)) [(119, (fun (x : Value) (_ : World) => x = (.bool false : Value)))] rfl rfl (fun o hop _ wq hQS => ?_) ?_
                  · refine StepFrom.more_eq ((.bool false : Value)) ?_
                    skip
                    exact StepFrom.load hop (by kernel_rfl) (load_level (hQS.2 (w.heap.size, .slice Aa pa.length ca) (by simp))) (by kernel_rfl) hQS (Below.refl _ _) rfl
                  refine StepsT.cons (fun (x : Value) (_ : World) => x = (.agg #[.slice Ac pc.length cc] : Value)) [(119, (fun (x : Value) (_ : World) => x = (.bool false : Value)))] rfl rfl (fun o hop _ wq hQS => ?_) ?_
                  · refine StepFrom.more_eq ((.bool false : Value)) ?_
                    skip
                    exact StepFrom.load hop (by kernel_rfl) (load_level (hQS.2 (w.heap.size + 2, .slice Ac pc.length cc) (by simp))) (by kernel_rfl) hQS (Below.refl _ _) rfl
                  refine StepsT.cons (fun (x : Value) (_ : World) => x = (.bool ac : Value)) [(119, (fun (x : Value) (_ : World) => x = (.bool false : Value))), (120, (fun (x : Value) (_ : World) => x = (.agg #[.slice Aa pa.length ca] : Value))), (121, (fun (x : Value) (_ : World) => x = (.agg #[.slice Ac pc.length cc] : Value)))] rfl rfl (fun o hop _ wq hQS => ?_) ?_
                  · refine StepFrom.more_eq ((.bool false : Value)) ?_
                    refine StepFrom.more_eq ((.agg #[.slice Aa pa.length ca] : Value)) ?_
                    refine StepFrom.more_eq ((.agg #[.slice Ac pc.length cc] : Value)) ?_
                    exact StepFrom.call hop (vs := [(.agg #[.slice Aa pa.length ca] : Value), (.agg #[.slice Ac pc.length cc] : Value)]) (by kernel_rfl) (fun w => enter_leq _ w) (by kernel_rfl) ((DAC.out _ hQS).mono fun e w2 h => ⟨_, h.1, h.2.2, h.2.1, rfl⟩)
                  refine StepsT.cons (fun (x : Value) (_ : World) => x = (.bool ac : Value)) [(119, (fun (x : Value) (_ : World) => x = (.bool false : Value))), (122, (fun (x : Value) (_ : World) => x = (.bool ac : Value)))] rfl rfl (fun o hop _ wq hQS => ?_) ?_
                  · refine StepFrom.more_eq ((.bool false : Value)) ?_
                    refine StepFrom.more_eq ((.bool ac : Value)) ?_
                    exact StepFrom.move hop (v := (.bool ac : Value)) (by kernel_rfl) (by kernel_rfl) hQS (Below.refl _ _) rfl
                  refine StepsT.cons (fun (x : Value) (_ : World) => x = gv ac (.agg #[.slice Ab pb.length cb])) [(123, (fun (x : Value) (_ : World) => x = (.bool ac : Value)))] rfl rfl (fun o hop _ wq hQS => ?_) ?_
                  · rcases ac with _ | _
                    · refine StepFrom.more_eq ((.bool false : Value)) ?_
                      exact StepFrom.off (by kernel_rfl) hQS (Below.refl _ _) rfl
                    · refine StepFrom.more_eq ((.bool true : Value)) ?_
                      skip
                      exact StepFrom.load hop (by kernel_rfl) (load_level (hQS.2 (w.heap.size + 1, .slice Ab pb.length cb) (by simp))) (by kernel_rfl) hQS (Below.refl _ _) rfl
                  refine StepsT.cons (fun (x : Value) (_ : World) => x = gv ac (.agg #[.slice Ac pc.length cc])) [(123, (fun (x : Value) (_ : World) => x = (.bool ac : Value)))] rfl rfl (fun o hop _ wq hQS => ?_) ?_
                  · rcases ac with _ | _
                    · refine StepFrom.more_eq ((.bool false : Value)) ?_
                      exact StepFrom.off (by kernel_rfl) hQS (Below.refl _ _) rfl
                    · refine StepFrom.more_eq ((.bool true : Value)) ?_
                      skip
                      exact StepFrom.load hop (by kernel_rfl) (load_level (hQS.2 (w.heap.size + 2, .slice Ac pc.length cc) (by simp))) (by kernel_rfl) hQS (Below.refl _ _) rfl
                  refine StepsT.cons (fun (x : Value) (_ : World) => x = gv ac (.bool bc)) [(123, (fun (x : Value) (_ : World) => x = (.bool ac : Value))), (124, (fun (x : Value) (_ : World) => x = gv ac (.agg #[.slice Ab pb.length cb]))), (125, (fun (x : Value) (_ : World) => x = gv ac (.agg #[.slice Ac pc.length cc])))] rfl rfl (fun o hop _ wq hQS => ?_) ?_
                  · rcases ac with _ | _
                    · refine StepFrom.more_eq ((.bool false : Value)) ?_
                      refine StepFrom.more_eq (undef) ?_
                      refine StepFrom.more_eq (undef) ?_
                      exact StepFrom.off (by kernel_rfl) hQS (Below.refl _ _) rfl
                    · refine StepFrom.more_eq ((.bool true : Value)) ?_
                      refine StepFrom.more_eq ((.agg #[.slice Ab pb.length cb] : Value)) ?_
                      refine StepFrom.more_eq ((.agg #[.slice Ac pc.length cc] : Value)) ?_
                      exact StepFrom.call hop (vs := [(.agg #[.slice Ab pb.length cb] : Value), (.agg #[.slice Ac pc.length cc] : Value)]) (by kernel_rfl) (fun w => enter_leq _ w) (by kernel_rfl) ((DBC.out _ hQS).mono fun e w2 h => ⟨_, h.1, h.2.2, h.2.1, rfl⟩)
                  refine StepsT.cons (fun (x : Value) (_ : World) => x = (.bool acbc : Value)) [(119, (fun (x : Value) (_ : World) => x = (.bool false : Value))), (123, (fun (x : Value) (_ : World) => x = (.bool ac : Value))), (126, (fun (x : Value) (_ : World) => x = gv ac (.bool bc)))] rfl rfl (fun o hop _ wq hQS => ?_) ?_
                  · refine StepFrom.more_eq ((.bool false : Value)) ?_
                    refine StepFrom.more_eq ((.bool ac : Value)) ?_
                    refine StepFrom.more_eq (gv ac (.bool bc)) ?_
                    exact StepFrom.pick hop (b := ac) (vx := gv ac (.bool bc)) (vy := (Value.bool false : Value)) (by kernel_rfl) (by kernel_rfl) (by kernel_rfl) (by kernel_rfl) hQS (Below.refl _ _) (by rw [← hacbc]; cases ac <;> rfl)
                  refine StepsT.cons (fun (x : Value) (_ : World) => x = (.bool acbc : Value)) [(119, (fun (x : Value) (_ : World) => x = (.bool false : Value))), (127, (fun (x : Value) (_ : World) => x = (.bool acbc : Value)))] rfl rfl (fun o hop _ wq hQS => ?_) ?_
                  · refine StepFrom.more_eq ((.bool false : Value)) ?_
                    refine StepFrom.more_eq ((.bool acbc : Value)) ?_
                    exact StepFrom.move hop (v := (.bool acbc : Value)) (by kernel_rfl) (by kernel_rfl) hQS (Below.refl _ _) rfl
                  refine StepsT.cons (fun (x : Value) (_ : World) => x = gv acbc (.agg #[.slice Am nm cm])) [(128, (fun (x : Value) (_ : World) => x = (.bool acbc : Value)))] rfl rfl (fun o hop _ wq hQS => ?_) ?_
                  · rcases acbc with _ | _
                    · refine StepFrom.more_eq ((.bool false : Value)) ?_
                      exact StepFrom.off (by kernel_rfl) hQS (Below.refl _ _) rfl
                    · refine StepFrom.more_eq ((.bool true : Value)) ?_
                      skip
                      exact StepFrom.load hop (by kernel_rfl) (load_level (hQS.2 (gm, .slice Am nm cm) (by simp))) (by kernel_rfl) hQS (Below.refl _ _) rfl
                  refine StepsT.cons (fun (x : Value) (_ : World) => x = gv acbc (.agg #[.slice Ac pc.length cc])) [(128, (fun (x : Value) (_ : World) => x = (.bool acbc : Value)))] rfl rfl (fun o hop _ wq hQS => ?_) ?_
                  · rcases acbc with _ | _
                    · refine StepFrom.more_eq ((.bool false : Value)) ?_
                      exact StepFrom.off (by kernel_rfl) hQS (Below.refl _ _) rfl
                    · refine StepFrom.more_eq ((.bool true : Value)) ?_
                      skip
                      exact StepFrom.load hop (by kernel_rfl) (load_level (hQS.2 (w.heap.size + 2, .slice Ac pc.length cc) (by simp))) (by kernel_rfl) hQS (Below.refl _ _) rfl
                  refine StepsT.cons (fun (x : Value) (_ : World) => x = gv acbc (.bool true)) [(128, (fun (x : Value) (_ : World) => x = (.bool acbc : Value))), (129, (fun (x : Value) (_ : World) => x = gv acbc (.agg #[.slice Am nm cm]))), (130, (fun (x : Value) (_ : World) => x = gv acbc (.agg #[.slice Ac pc.length cc])))] rfl rfl (fun o hop _ wq hQS => ?_) ?_
                  · rcases acbc with _ | _
                    · refine StepFrom.more_eq ((.bool false : Value)) ?_
                      refine StepFrom.more_eq (undef) ?_
                      refine StepFrom.more_eq (undef) ?_
                      exact StepFrom.off (by kernel_rfl) hQS (Below.refl _ _) rfl
                    · refine StepFrom.more_eq ((.bool true : Value)) ?_
                      refine StepFrom.more_eq ((.agg #[.slice Am nm cm] : Value)) ?_
                      refine StepFrom.more_eq ((.agg #[.slice Ac pc.length cc] : Value)) ?_
                      exact StepFrom.call hop (vs := [(.agg #[.slice Am nm cm] : Value), (.agg #[.slice Ac pc.length cc] : Value)]) (by kernel_rfl) (fun w => enter_leq _ w) (by kernel_rfl) (((DMC rfl).out _ hQS).mono fun e w2 h => ⟨_, h.1, h.2.2, h.2.1, rfl⟩)
                  refine StepsT.cons (fun (x : Value) (_ : World) => x = gv acbc (.bool false)) [(128, (fun (x : Value) (_ : World) => x = (.bool acbc : Value))), (131, (fun (x : Value) (_ : World) => x = gv acbc (.bool true)))] rfl rfl (fun o hop _ wq hQS => ?_) ?_
                  · rcases acbc with _ | _
                    · refine StepFrom.more_eq ((.bool false : Value)) ?_
                      refine StepFrom.more_eq (undef) ?_
                      exact StepFrom.off (by kernel_rfl) hQS (Below.refl _ _) rfl
                    · refine StepFrom.more_eq ((.bool true : Value)) ?_
                      refine StepFrom.more_eq ((.bool true : Value)) ?_
                      exact StepFrom.not hop (b := true) (by kernel_rfl) (by kernel_rfl) hQS (Below.refl _ _) rfl
                  refine StepsT.cons (fun (x : Value) (_ : World) => x = (.bool false : Value)) [(119, (fun (x : Value) (_ : World) => x = (.bool false : Value))), (128, (fun (x : Value) (_ : World) => x = (.bool acbc : Value))), (132, (fun (x : Value) (_ : World) => x = gv acbc (.bool false)))] rfl rfl (fun o hop _ wq hQS => ?_) ?_
                  · refine StepFrom.more_eq ((.bool false : Value)) ?_
                    refine StepFrom.more_eq ((.bool acbc : Value)) ?_
                    refine StepFrom.more_eq (gv acbc (.bool false)) ?_
                    exact StepFrom.pick hop (b := acbc) (vx := gv acbc (.bool false)) (vy := (Value.bool false : Value)) (by kernel_rfl) (by kernel_rfl) (by kernel_rfl) (by kernel_rfl) hQS (Below.refl _ _) (by cases acbc <;> rfl)
                  refine StepsT.cons (fun (x : Value) (_ : World) => x = (.bool false : Value)) [(119, (fun (x : Value) (_ : World) => x = (.bool false : Value))), (133, (fun (x : Value) (_ : World) => x = (.bool false : Value)))] rfl rfl (fun o hop _ wq hQS => ?_) ?_
                  · refine StepFrom.more_eq ((.bool false : Value)) ?_
                    refine StepFrom.more_eq ((.bool false : Value)) ?_
                    exact StepFrom.pick hop (b := false) (vx := (Value.bool true : Value)) (vy := (.bool false : Value)) (by kernel_rfl) (by kernel_rfl) (by kernel_rfl) (by kernel_rfl) hQS (Below.refl _ _) rfl
                  refine StepsT.cons (fun (x : Value) (_ : World) => x = (.bool false : Value)) [(134, (fun (x : Value) (_ : World) => x = (.bool false : Value)))] rfl rfl (fun o hop _ wq hQS => ?_) ?_
                  · refine StepFrom.more_eq ((.bool false : Value)) ?_
                    exact StepFrom.move hop (v := (.bool false : Value)) (by kernel_rfl) (by kernel_rfl) hQS (Below.refl _ _) rfl
                  refine StepsT.cons (fun (x : Value) (_ : World) => x = (.agg #[.slice Aa pa.length ca] : Value)) [(135, (fun (x : Value) (_ : World) => x = (.bool false : Value)))] rfl rfl (fun o hop _ wq hQS => ?_) ?_
                  · refine StepFrom.more_eq ((.bool false : Value)) ?_
                    skip
                    exact StepFrom.load hop (by kernel_rfl) (load_level (hQS.2 (w.heap.size, .slice Aa pa.length ca) (by simp))) (by kernel_rfl) hQS (Below.refl _ _) rfl
                  refine StepsT.cons (fun (x : Value) (_ : World) => x = (.agg #[.slice Aa pa.length ca] : Value)) [(135, (fun (x : Value) (_ : World) => x = (.bool false : Value)))] rfl rfl (fun o hop _ wq hQS => ?_) ?_
                  · refine StepFrom.more_eq ((.bool false : Value)) ?_
                    skip
                    exact StepFrom.load hop (by kernel_rfl) (load_level (hQS.2 (w.heap.size, .slice Aa pa.length ca) (by simp))) (by kernel_rfl) hQS (Below.refl _ _) rfl
                  refine StepsT.cons (fun (x : Value) (w : World) => ∃ A c, x = .agg #[.slice A ns c] ∧ LvAt w A ns c ps) [(135, (fun (x : Value) (_ : World) => x = (.bool false : Value))), (137, (fun (x : Value) (_ : World) => x = (.agg #[.slice Aa pa.length ca] : Value)))] rfl rfl (fun o hop _ wq hQS => ?_) ?_
                  · refine StepFrom.more_eq ((.bool false : Value)) ?_
                    refine StepFrom.more_eq ((.agg #[.slice Aa pa.length ca] : Value)) ?_
                    exact StepFrom.call hop (vs := [(.agg #[.slice Aa pa.length ca] : Value)]) (by kernel_rfl) (fun w => enter_succ _ w) (by kernel_rfl) ((DSU.out _ hQS).mono fun e w2 ⟨A, c, h1, h2, h3, h4⟩ => ⟨_, h1, h4, h3, A, c, rfl, h2⟩)
                  refine StepsT.cons (fun (x : Value) (_ : World) => x = (.bool true : Value)) [(135, (fun (x : Value) (_ : World) => x = (.bool false : Value))), (136, (fun (x : Value) (_ : World) => x = (.agg #[.slice Aa pa.length ca] : Value))), (138, (fun (x : Value) (w : World) => ∃ A c, x = .agg #[.slice A ns c] ∧ LvAt w A ns c ps))] rfl rfl (fun o hop _ wq hQS => ?_) ?_
                  · refine StepFrom.more_eq ((.bool false : Value)) ?_
                    refine StepFrom.more_eq ((.agg #[.slice Aa pa.length ca] : Value)) ?_
                    refine StepFrom.more fun x138 h138 => ?_
                    obtain ⟨A138, c138, rfl, hl138⟩ := h138
                    exact StepFrom.call hop (vs := [(.agg #[.slice Aa pa.length ca] : Value), (.agg #[.slice A138 ns c138] : Value)]) (by kernel_rfl) (fun w => enter_leq _ w) (by kernel_rfl) ((DAS.out _ _ _ hl138 hQS).mono fun e w2 h => ⟨_, h.1, h.2.2, h.2.1, rfl⟩)
                  refine StepsT.cons (fun (x : Value) (_ : World) => x = (.bool false : Value)) [(135, (fun (x : Value) (_ : World) => x = (.bool false : Value))), (139, (fun (x : Value) (_ : World) => x = (.bool true : Value)))] rfl rfl (fun o hop _ wq hQS => ?_) ?_
                  · refine StepFrom.more_eq ((.bool false : Value)) ?_
                    refine StepFrom.more_eq ((.bool true : Value)) ?_
                    exact StepFrom.not hop (b := true) (by kernel_rfl) (by kernel_rfl) hQS (Below.refl _ _) rfl
                  refine StepsT.cons (fun (x : Value) (_ : World) => x = (.bool false : Value)) [(135, (fun (x : Value) (_ : World) => x = (.bool false : Value))), (140, (fun (x : Value) (_ : World) => x = (.bool false : Value)))] rfl rfl (fun o hop _ wq hQS => ?_) ?_
                  · refine StepFrom.more_eq ((.bool false : Value)) ?_
                    refine StepFrom.more_eq ((.bool false : Value)) ?_
                    exact StepFrom.pick hop (b := false) (vx := (Value.bool true : Value)) (vy := (.bool false : Value)) (by kernel_rfl) (by kernel_rfl) (by kernel_rfl) (by kernel_rfl) hQS (Below.refl _ _) rfl
                  refine StepsT.cons (fun (x : Value) (_ : World) => x = (.bool false : Value)) [(141, (fun (x : Value) (_ : World) => x = (.bool false : Value)))] rfl rfl (fun o hop _ wq hQS => ?_) ?_
                  · refine StepFrom.more_eq ((.bool false : Value)) ?_
                    exact StepFrom.move hop (v := (.bool false : Value)) (by kernel_rfl) (by kernel_rfl) hQS (Below.refl _ _) rfl
                  refine StepsT.cons (fun (x : Value) (_ : World) => x = (.agg #[.slice Aa pa.length ca] : Value)) [(142, (fun (x : Value) (_ : World) => x = (.bool false : Value)))] rfl rfl (fun o hop _ wq hQS => ?_) ?_
                  · refine StepFrom.more_eq ((.bool false : Value)) ?_
                    skip
                    exact StepFrom.load hop (by kernel_rfl) (load_level (hQS.2 (w.heap.size, .slice Aa pa.length ca) (by simp))) (by kernel_rfl) hQS (Below.refl _ _) rfl
                  refine StepsT.cons (fun (x : Value) (w : World) => ∃ A c, x = .agg #[.slice A ns c] ∧ LvAt w A ns c ps) [(142, (fun (x : Value) (_ : World) => x = (.bool false : Value))), (143, (fun (x : Value) (_ : World) => x = (.agg #[.slice Aa pa.length ca] : Value)))] rfl rfl (fun o hop _ wq hQS => ?_) ?_
                  · refine StepFrom.more_eq ((.bool false : Value)) ?_
                    refine StepFrom.more_eq ((.agg #[.slice Aa pa.length ca] : Value)) ?_
                    exact StepFrom.call hop (vs := [(.agg #[.slice Aa pa.length ca] : Value)]) (by kernel_rfl) (fun w => enter_succ _ w) (by kernel_rfl) ((DSU.out _ hQS).mono fun e w2 ⟨A, c, h1, h2, h3, h4⟩ => ⟨_, h1, h4, h3, A, c, rfl, h2⟩)
                  refine StepsT.cons (fun (x : Value) (_ : World) => x = (.agg #[.slice Aa pa.length ca] : Value)) [(142, (fun (x : Value) (_ : World) => x = (.bool false : Value)))] rfl rfl (fun o hop _ wq hQS => ?_) ?_
                  · refine StepFrom.more_eq ((.bool false : Value)) ?_
                    skip
                    exact StepFrom.load hop (by kernel_rfl) (load_level (hQS.2 (w.heap.size, .slice Aa pa.length ca) (by simp))) (by kernel_rfl) hQS (Below.refl _ _) rfl
                  refine StepsT.cons (fun (x : Value) (_ : World) => x = (.bool false : Value)) [(142, (fun (x : Value) (_ : World) => x = (.bool false : Value))), (144, (fun (x : Value) (w : World) => ∃ A c, x = .agg #[.slice A ns c] ∧ LvAt w A ns c ps)), (145, (fun (x : Value) (_ : World) => x = (.agg #[.slice Aa pa.length ca] : Value)))] rfl rfl (fun o hop _ wq hQS => ?_) ?_
                  · refine StepFrom.more_eq ((.bool false : Value)) ?_
                    refine StepFrom.more fun x144 h144 => ?_
                    obtain ⟨A144, c144, rfl, hl144⟩ := h144
                    refine StepFrom.more_eq ((.agg #[.slice Aa pa.length ca] : Value)) ?_
                    exact StepFrom.call hop (vs := [(.agg #[.slice A144 ns c144] : Value), (.agg #[.slice Aa pa.length ca] : Value)]) (by kernel_rfl) (fun w => enter_leq _ w) (by kernel_rfl) ((DSA.out _ _ _ hl144 hQS).mono fun e w2 h => ⟨_, h.1, h.2.2, h.2.1, rfl⟩)
                  refine StepsT.cons (fun (x : Value) (_ : World) => x = (.bool false : Value)) [(142, (fun (x : Value) (_ : World) => x = (.bool false : Value))), (146, (fun (x : Value) (_ : World) => x = (.bool false : Value)))] rfl rfl (fun o hop _ wq hQS => ?_) ?_
                  · refine StepFrom.more_eq ((.bool false : Value)) ?_
                    refine StepFrom.more_eq ((.bool false : Value)) ?_
                    exact StepFrom.pick hop (b := false) (vx := (Value.bool true : Value)) (vy := (.bool false : Value)) (by kernel_rfl) (by kernel_rfl) (by kernel_rfl) (by kernel_rfl) hQS (Below.refl _ _) rfl
                  exact StepsT.nil
                case hfin =>
                  intro wf hFS
                  refine FinalFrom.more fun x109 h109 => ?_
                  refine FinalFrom.more fun x110 h110 => ?_
                  refine FinalFrom.more fun x111 h111 => ?_
                  refine FinalFrom.more fun x112 h112 => ?_
                  refine FinalFrom.more fun x113 h113 => ?_
                  refine FinalFrom.more fun x114 h114 => ?_
                  refine FinalFrom.more fun x115 h115 => ?_
                  refine FinalFrom.more fun x116 h116 => ?_
                  refine FinalFrom.more fun x117 h117 => ?_
                  refine FinalFrom.more fun x118 h118 => ?_
                  refine FinalFrom.more fun x119 h119 => ?_
                  refine FinalFrom.more fun x120 h120 => ?_
                  refine FinalFrom.more fun x121 h121 => ?_
                  refine FinalFrom.more fun x122 h122 => ?_
                  refine FinalFrom.more fun x123 h123 => ?_
                  refine FinalFrom.more fun x124 h124 => ?_
                  refine FinalFrom.more fun x125 h125 => ?_
                  refine FinalFrom.more fun x126 h126 => ?_
                  refine FinalFrom.more fun x127 h127 => ?_
                  refine FinalFrom.more fun x128 h128 => ?_
                  refine FinalFrom.more fun x129 h129 => ?_
                  refine FinalFrom.more fun x130 h130 => ?_
                  refine FinalFrom.more fun x131 h131 => ?_
                  refine FinalFrom.more fun x132 h132 => ?_
                  refine FinalFrom.more fun x133 h133 => ?_
                  refine FinalFrom.more fun x134 h134 => ?_
                  refine FinalFrom.more fun x135 h135 => ?_
                  refine FinalFrom.more fun x136 h136 => ?_
                  refine FinalFrom.more fun x137 h137 => ?_
                  refine FinalFrom.more fun x138 h138 => ?_
                  refine FinalFrom.more fun x139 h139 => ?_
                  refine FinalFrom.more fun x140 h140 => ?_
                  refine FinalFrom.more fun x141 h141 => ?_
                  refine FinalFrom.more fun x142 h142 => ?_
                  refine FinalFrom.more fun x143 h143 => ?_
                  refine FinalFrom.more fun x144 h144 => ?_
                  refine FinalFrom.more fun x145 h145 => ?_
                  refine FinalFrom.more fun x146 h146 => ?_
                  refine FinalFrom.more fun x147 h147 => ?_
                  refine FinalFrom.done ?_
                  obtain rfl : x147 = (.bool false : Value) := h147
                  simp only [Act.put, List.setIfInBounds_toArray, List.set_cons_zero, List.set_cons_succ]
                  clear hS DAM DBM DAC DBC DMC DSU DAS DSA
                  have hw := Lib.hid hFS
                  clear hFS
                  go_wp2
                  go_meet
                  exact ⟨rfl, hw.out⟩
              case rest =>
                obtain ⟨rfl, hbw⟩ := hcut
                obtain ⟨wz, hwz⟩ : ∃ wz, wz = wc := ⟨_, rfl⟩
                rw [← hwz] at hbw ⊢
                clear hwz
                have sz := hbw.1.size
                have B11 : Hid (Below w.heap.size w wz) := B10.out.trans (hbw.1.mono (by omega))
                have LA11 : Hid (LvAt wz Aa pa.length ca pa) := LA9.out.step hbw.1
                have LB11 : Hid (LvAt wz Ab pb.length cb pb) := LB9.out.step hbw.1
                have LM11 : Hid (LvAt wz Am nm cm pm) := LM9.out.step hbw.1
                have LY11 : Hid (Levs wz wz.heap.size Ay bys) := (LY9.out.below hbw.1).more sz
                have e1 := hbw.2 (w.heap.size, .slice Aa pa.length ca) (by simp)
                have e2 := hbw.2 (w.heap.size + 1, .slice Ab pb.length cb) (by simp)
                have em2 := hbw.2 (gm, .slice Am nm cm) (by simp)
                have gmz : gm < wz.heap.size := cell_lt em2
                simp only at e1 e2 em2
                clear hbw hS DAM DBM DAC DBC DMC DSU DAS DSA B10 LA9 LB9 LC9 LM9 LY9 f1 f2 f3 em gm0 FS OS S1 S2 hps hns AC hacbc M1 M2 M3 BA
                have H9 : Hid (∀ b ∈ bys, b.length ≤ 900) := fun b hb => by have := H6.out b (by simp [hb]); omega
                obtain ⟨px, hpx⟩ : ∃ px, nfA (putS (nfA pa) bys) = px := ⟨_, rfl⟩
                obtain ⟨py, hpy⟩ : ∃ py, nfA (putS (nfA pb) bys) = py := ⟨_, rfl⟩
                obtain ⟨nx, hnx⟩ : ∃ nx, px.length = nx := ⟨_, rfl⟩
                obtain ⟨ny, hny⟩ : ∃ ny, py.length = ny := ⟨_, rfl⟩
                have OX : Hid (∀ p ∈ px, okPart p) := by rw [← hpx]; exact nfA_ok _
                have OY : Hid (∀ p ∈ py, okPart p) := by rw [← hpy]; exact nfA_ok _
                have FX : Hid (px.length ≤ 54000) := by have h1 := put_len (ps := pa) H9.out; have := H6.out pa (by simp); rw [hpx] at h1; unfold Hid; omega
                have FY : Hid (py.length ≤ 54000) := by have h1 := put_len (ps := pb) H9.out; have := H6.out pb (by simp); rw [hpy] at h1; unfold Hid; omega
                have MX : Hid (ab = true → LeqS px py) := fun h => by rw [← hpx, ← hpy]; exact leq_put SA.out SB.out SY.out (AB.out.1 h)
                have MP : Hid (SameS (nfA (putS (nfA pm) bys)) (nf (flat [px, py]))) := by rw [← hpx, ← hpy]; exact M6.out
                have CPA : Hid (∀ w', BoxL wz [(w.heap.size, .slice Aa pa.length ca), (w.heap.size + 1, .slice Ab pb.length cb)] w' → Calls Try.prog 9 #[.agg #[.slice Aa pa.length ca], .slice Ay bys.length cy] w' fun e w'' => ∃ v, e = .returned v ∧ NewLev wz.heap.size nx px v w'' ∧ Below w'.heap.size w' w'' ∧ BoxL wz [(w.heap.size, .slice Aa pa.length ca), (w.heap.size + 1, .slice Ab pb.length cb)] w'') := fun w' hx => by
                  have h1 := LA11.out.step hx.1
                  refine (put_any Aa Ay pa bys ca cy w' (by have := H6.out pa (by simp); omega) h1.2.1 h1.2.2 (by unfold maxLen; omega) H9.out ((LY11.out.below hx.1).more hx.1.size)).mono fun _ _ h => ?_
                  rw [hpx] at h
                  obtain ⟨v, h3, h4, h5⟩ := h
                  obtain ⟨A, n, c, rfl⟩ := own_slice h4
                  obtain ⟨hn, _, _⟩ := own_lev h4
                  subst hn
                  rw [hnx] at h3 h4
                  exact ⟨_, h3, ⟨A, c, rfl, hnx.symm, own_base h4 hx.1.size⟩, h5, hx.step h5⟩
                have CPB : Hid (∀ w', BoxL wz [(w.heap.size, .slice Aa pa.length ca), (w.heap.size + 1, .slice Ab pb.length cb)] w' → Calls Try.prog 9 #[.agg #[.slice Ab pb.length cb], .slice Ay bys.length cy] w' fun e w'' => ∃ v, e = .returned v ∧ NewLev wz.heap.size ny py v w'' ∧ Below w'.heap.size w' w'' ∧ BoxL wz [(w.heap.size, .slice Aa pa.length ca), (w.heap.size + 1, .slice Ab pb.length cb)] w'') := fun w' hx => by
                  have h1 := LB11.out.step hx.1
                  refine (put_any Ab Ay pb bys cb cy w' (by have := H6.out pb (by simp); omega) h1.2.1 h1.2.2 (by unfold maxLen; omega) H9.out ((LY11.out.below hx.1).more hx.1.size)).mono fun _ _ h => ?_
                  rw [hpy] at h
                  obtain ⟨v, h3, h4, h5⟩ := h
                  obtain ⟨A, n, c, rfl⟩ := own_slice h4
                  obtain ⟨hn, _, _⟩ := own_lev h4
                  subst hn
                  rw [hny] at h3 h4
                  exact ⟨_, h3, ⟨A, c, rfl, hny.symm, own_base h4 hx.1.size⟩, h5, hx.step h5⟩
                have hS : BoxL wz [(w.heap.size, .slice Aa pa.length ca), (w.heap.size + 1, .slice Ab pb.length cb)] wz.drew := BoxL.drew (by simp only [List.mem_cons, List.not_mem_nil, or_false, forall_eq_or_imp, forall_eq]; exact ⟨e1, e2⟩)
                have gz1 : w.heap.size + 3 ≤ wz.heap.size := by omega
                go_upto_region 16 with (fail)
                go_cut [13, 14] from 148 to 153 (fun s t wy => ∃ gx gy Ax cx Bx dx, s = .pointer (some ⟨gx, 0, none⟩) ∧ t = .pointer (some ⟨gy, 0, none⟩) ∧ wy.cell? ⟨gx, 0, none⟩ = some (.slice Ax nx cx) ∧ wy.cell? ⟨gy, 0, none⟩ = some (.slice Bx ny dx) ∧ LvAt wy Ax nx cx px ∧ LvAt wy Bx ny dx py ∧ Below wz.heap.size wz wy)
                case first =>
                  clear e1 e2 em2
                  refine wp_region_tail 8 (fun w' => BoxL wz [(w.heap.size, .slice Aa pa.length ca), (w.heap.size + 1, .slice Ab pb.length cb)] w') (fun w1 w2 : World => Below w1.heap.size w1 w2) [(fun (x : Value) (_ : World) => x = (.agg #[.slice Aa pa.length ca] : Value)), (fun (x : Value) (_ : World) => x = (.slice Ay bys.length cy : Value)), (fun (x : Value) (w : World) => NewLev wz.heap.size nx px x w), (fun (x : Value) (_ : World) => x = (.agg #[.slice Ab pb.length cb] : Value)), (fun (x : Value) (_ : World) => x = (.slice Ay bys.length cy : Value)), (fun (x : Value) (w : World) => NewLev wz.heap.size ny py x w), (fun (x : Value) (w : World) => NewBox wz.heap.size (.slice none 0 0) 25 x w), (fun (x : Value) (w : World) => NewBox wz.heap.size (.slice none 0 0) 25 x w)] [⟨some 148, .load 25 (.tmp 4), none, []⟩, ⟨some 149, .move (.tmp 3), none, []⟩, ⟨some 150, .call { callee := .value (.func 9), args := #[.tmp 148, .tmp 149], argTypes := #[25, 22] }, none, [(148, 0), (149, 1)]⟩, ⟨some 151, .load 25 (.tmp 5), none, []⟩, ⟨some 152, .move (.tmp 3), none, []⟩, ⟨some 153, .call { callee := .value (.func 9), args := #[.tmp 151, .tmp 152], argTypes := #[25, 22] }, none, [(151, 3), (152, 4)]⟩, ⟨some 13, .alloc 25, none, []⟩, ⟨some 14, .alloc 25, none, []⟩] [some 148, some 149, some 150, some 151, some 152, some 153, some 13, some 14] [(6, 25, .cells #[.slice none 0 0] 25), (7, 25, .cells #[.slice none 0 0] 25)] [(13, 14)] (by kernel_rfl) (by kernel_rfl) (by kernel_rfl) (by kernel_rfl) (by kernel_rfl) (by kernel_rfl) (by kernel_rfl) (by kernel_rfl) ?hrun ?hold ?hS ?hmono ?hsteps ?hfin
                  case hrun => exact fun p hp w => by simp only [List.mem_cons, List.not_mem_nil, or_false] at hp; rcases hp with rfl | rfl <;> exact alloc_level w
                  case hold => exact fun p hp x w h => by simp only [List.mem_cons, List.not_mem_nil, or_false] at hp; rcases hp with rfl | rfl <;> exact NewBox.lt h
                  case hS => exact hS
                  case hmono =>
                    refine MonoL.cons (fun x w1 w2 _ _ _ hx => hx) ?_
                    refine MonoL.cons (fun x w1 w2 _ _ _ hx => hx) ?_
                    refine MonoL.cons (fun x w1 w2 _ _ hR hx => ?_) ?_
                    · exact hx.mono hR
                    refine MonoL.cons (fun x w1 w2 _ _ _ hx => hx) ?_
                    refine MonoL.cons (fun x w1 w2 _ _ _ hx => hx) ?_
                    refine MonoL.cons (fun x w1 w2 _ _ hR hx => ?_) ?_
                    · exact hx.mono hR
                    refine MonoL.cons (fun x w1 w2 _ _ hR hx => ?_) ?_
                    · exact hx.mono hR
                    refine MonoL.cons (fun x w1 w2 _ _ hR hx => ?_) ?_
                    · exact hx.mono hR
                    exact MonoL.nil
                  case hsteps =>
                    refine StepsT.cons (fun (x : Value) (_ : World) => x = (.agg #[.slice Aa pa.length ca] : Value)) [] rfl rfl (fun o hop _ wq hQS => ?_) ?_
                    · skip
                      exact StepFrom.load hop (by kernel_rfl) (load_level (hQS.2 (w.heap.size, .slice Aa pa.length ca) (by simp))) (by kernel_rfl) hQS (Below.refl _ _) rfl
                    refine StepsT.cons (fun (x : Value) (_ : World) => x = (.slice Ay bys.length cy : Value)) [] rfl rfl (fun o hop _ wq hQS => ?_) ?_
                    · exact StepFrom.move hop (v := (.slice Ay bys.length cy : Value)) (by kernel_rfl) (by kernel_rfl) hQS (Below.refl _ _) rfl
                    refine StepsT.cons (fun (x : Value) (w : World) => NewLev wz.heap.size nx px x w) [(148, (fun (x : Value) (_ : World) => x = (.agg #[.slice Aa pa.length ca] : Value))), (149, (fun (x : Value) (_ : World) => x = (.slice Ay bys.length cy : Value)))] rfl rfl (fun o hop _ wq hQS => ?_) ?_
                    · refine StepFrom.more_eq ((.agg #[.slice Aa pa.length ca] : Value)) ?_
                      refine StepFrom.more_eq ((.slice Ay bys.length cy : Value)) ?_
                      exact StepFrom.call hop (vs := [(.agg #[.slice Aa pa.length ca] : Value), (.slice Ay bys.length cy : Value)]) (by kernel_rfl) (fun w => enter_put _ w) (by kernel_rfl) ((CPA.out _ hQS).mono fun e w2 ⟨v, h1, h2, h3, h4⟩ => ⟨v, h1, h4, h3, h2⟩)
                    refine StepsT.cons (fun (x : Value) (_ : World) => x = (.agg #[.slice Ab pb.length cb] : Value)) [] rfl rfl (fun o hop _ wq hQS => ?_) ?_
                    · skip
                      exact StepFrom.load hop (by kernel_rfl) (load_level (hQS.2 (w.heap.size + 1, .slice Ab pb.length cb) (by simp))) (by kernel_rfl) hQS (Below.refl _ _) rfl
                    refine StepsT.cons (fun (x : Value) (_ : World) => x = (.slice Ay bys.length cy : Value)) [] rfl rfl (fun o hop _ wq hQS => ?_) ?_
                    · exact StepFrom.move hop (v := (.slice Ay bys.length cy : Value)) (by kernel_rfl) (by kernel_rfl) hQS (Below.refl _ _) rfl
                    refine StepsT.cons (fun (x : Value) (w : World) => NewLev wz.heap.size ny py x w) [(151, (fun (x : Value) (_ : World) => x = (.agg #[.slice Ab pb.length cb] : Value))), (152, (fun (x : Value) (_ : World) => x = (.slice Ay bys.length cy : Value)))] rfl rfl (fun o hop _ wq hQS => ?_) ?_
                    · refine StepFrom.more_eq ((.agg #[.slice Ab pb.length cb] : Value)) ?_
                      refine StepFrom.more_eq ((.slice Ay bys.length cy : Value)) ?_
                      exact StepFrom.call hop (vs := [(.agg #[.slice Ab pb.length cb] : Value), (.slice Ay bys.length cy : Value)]) (by kernel_rfl) (fun w => enter_put _ w) (by kernel_rfl) ((CPB.out _ hQS).mono fun e w2 ⟨v, h1, h2, h3, h4⟩ => ⟨v, h1, h4, h3, h2⟩)
                    refine StepsT.cons (fun (x : Value) (w : World) => NewBox wz.heap.size (.slice none 0 0) 25 x w) [] rfl rfl (fun o hop _ wq hQS => ?_) ?_
                    · exact StepFrom.alloc hop alloc_level (by kernel_rfl) (hQS.step ((Below.refl _ _).alloc (Nat.le_refl _) _)) ((Below.refl _ _).alloc (Nat.le_refl _) _) (NewBox.made hQS.1.size)
                    refine StepsT.cons (fun (x : Value) (w : World) => NewBox wz.heap.size (.slice none 0 0) 25 x w) [] rfl rfl (fun o hop _ wq hQS => ?_) ?_
                    · exact StepFrom.alloc hop alloc_level (by kernel_rfl) (hQS.step ((Below.refl _ _).alloc (Nat.le_refl _) _)) ((Below.refl _ _).alloc (Nat.le_refl _) _) (NewBox.made hQS.1.size)
                    exact StepsT.nil
                  case hfin =>
                    intro wf hFS
                    refine FinalFrom.more fun x148 h148 => ?_
                    refine FinalFrom.more fun x149 h149 => ?_
                    refine FinalFrom.more fun x150 h150 => ?_
                    refine FinalFrom.more fun x151 h151 => ?_
                    refine FinalFrom.more fun x152 h152 => ?_
                    refine FinalFrom.more fun x153 h153 => ?_
                    refine FinalFrom.more fun x13 h13 => ?_
                    refine FinalFrom.more fun x14 h14 => ?_
                    refine FinalFrom.done ?_
                    obtain ⟨gx, rfl, hgx0, hgx⟩ := h13
                    obtain ⟨gy, rfl, hgy0, hgy⟩ := h14
                    obtain ⟨Ax, cx, rfl, hnx2, hrx⟩ := h150
                    obtain ⟨Bx, dx, rfl, hny2, hry⟩ := h153
                    intro hap
                    have hne : gx ≠ gy := fun e => by subst e; exact hap (13, 14) (by simp) (by kernel_rfl)
                    simp only [Act.put, List.setIfInBounds_toArray, List.set_cons_zero, List.set_cons_succ, List.drop_succ_cons, List.drop_zero]
                    clear hap hS CPA CPB h148 h149 h151 h152
                    have c13 := cell_of_one hgx
                    have z13 := free_of_one hgx
                    have c14 := cell_of_one hgy
                    have z14 := free_of_one hgy
                    have hgy2 : (wf.setCell ⟨gx, 0, none⟩ (.slice Ax nx cx)).heap[gy]? = some (.cells #[.slice none 0 0] 25 (0, 0)) := (Below.heap_setCell wf _ _ gy (by show gy ≠ gx; exact Ne.symm hne)).trans hgy
                    have hsz : wf.heap.size ≤ ((wf.setCell ⟨gx, 0, none⟩ (.slice Ax nx cx)).setCell ⟨gy, 0, none⟩ (.slice Bx ny dx)).heap.size := (((Below.refl 0 wf).setCell (Nat.zero_le _) _).setCell (Nat.zero_le _) _).size
                    have r1 := lvAt_row hnx2 (row_set (u := .slice Bx ny dx) (row_set (u := .slice Ax nx cx) hrx hgx (by decide)) hgy2 (by decide))
                    have r2 := lvAt_row hny2 (row_set (u := .slice Bx ny dx) (row_set (u := .slice Ax nx cx) hry hgx (by decide)) hgy2 (by decide))
                    have hf1 : ((wf.setCell ⟨gx, 0, none⟩ (.slice Ax nx cx)).setCell ⟨gy, 0, none⟩ (.slice Bx ny dx)).cell? ⟨gx, 0, none⟩ = some (.slice Ax nx cx) := (World.cell?_setCell_other _ _ _ _ (fun e => hne (by injection e with e; exact e.symm))).trans (World.cell?_setCell_same _ _ _ c13)
                    have hf2 : ((wf.setCell ⟨gx, 0, none⟩ (.slice Ax nx cx)).setCell ⟨gy, 0, none⟩ (.slice Bx ny dx)).cell? ⟨gy, 0, none⟩ = some (.slice Bx ny dx) := World.cell?_setCell_same _ _ _ (cell_of_one hgy2)
                    have hf3 : Below wz.heap.size wz ((wf.setCell ⟨gx, 0, none⟩ (.slice Ax nx cx)).setCell ⟨gy, 0, none⟩ (.slice Bx ny dx)) := (hFS.1.setCell hgx0 _).setCell hgy0 _
                    have HF := Lib.hid (And.intro hf1 (And.intro hf2 (And.intro (And.intro hnx2 r1) (And.intro (And.intro hny2 r2) hf3))))
                    clear hf1 hf2 hf3 r1 r2 hsz hgy2 hrx hry hgx hgy hFS hnx2 hny2 hgx0 hgy0
                    go_wp2
                    go_meet
                    exact ⟨gx, gy, Ax, cx, Bx, dx, rfl, rfl, HF.out⟩
                case rest =>
                  obtain ⟨gx, gy, Ax, cx, Bx, dx, rfl, rfl, hcx, hcy, hlx, hly, hbo⟩ := hcut
                  obtain ⟨wu, hwu⟩ : ∃ wu, wu = wc := ⟨_, rfl⟩
                  rw [← hwu] at hcx hcy hlx hly hbo ⊢
                  clear hwu hS CPA CPB
                  have su := hbo.size
                  have gx0 : gx < wu.heap.size := cell_lt hcx
                  have gy0 : gy < wu.heap.size := cell_lt hcy
                  have B12 : Hid (Below w.heap.size w wu) := B11.out.trans (hbo.mono (by omega))
                  have LA12 : Hid (LvAt wu Aa pa.length ca pa) := LA11.out.step hbo
                  have LB12 : Hid (LvAt wu Ab pb.length cb pb) := LB11.out.step hbo
                  have LM12 : Hid (LvAt wu Am nm cm pm) := LM11.out.step hbo
                  have LX12 : Hid (LvAt wu Ax nx cx px) := hlx
                  have LZ12 : Hid (LvAt wu Bx ny dx py) := hly
                  have LY12 : Hid (Levs wu wu.heap.size Ay bys) := (LY11.out.below hbo).more su
                  have f1 := (hbo.cell (by show w.heap.size < wz.heap.size; omega)).trans e1
                  have f2 := (hbo.cell (by show w.heap.size + 1 < wz.heap.size; omega)).trans e2
                  have f3 := (hbo.cell gmz).trans em2
                  clear hlx hly hbo e1 e2 em2 B11 LA11 LB11 LM11 LY11
                  have FX2 : Hid (Few px.length) := by have := FX.out; unfold Hid Few; omega
                  have FY2 : Hid (Few py.length) := by have := FY.out; unfold Hid Few; omega
                  obtain ⟨pq, hpq⟩ : ∃ pq, nfA (putS (nfA pm) bys) = pq := ⟨_, rfl⟩
                  obtain ⟨nq, hnq⟩ : ∃ nq, pq.length = nq := ⟨_, rfl⟩
                  obtain ⟨pr, hpr⟩ : ∃ pr, nf (flat [px, py]) = pr := ⟨_, rfl⟩
                  obtain ⟨nr, hnr⟩ : ∃ nr, pr.length = nr := ⟨_, rfl⟩
                  have OQ : Hid (∀ p ∈ pq, okPart p) := by rw [← hpq]; exact nfA_ok _
                  have FQ : Hid (Few pq.length) := by have h1 := put_len (ps := pm) H9.out; have := M5.out; rw [hpq] at h1; unfold Hid Few; omega
                  have OR : Hid (∀ p ∈ pr, okPart p) := fun p hp => by
                    rw [← hpr] at hp
                    rcases two_mem (nn_ok OX.out) (nn_ok OY.out) hp with h | h
                    · exact OX.out p h
                    · exact OY.out p h
                  have FR : Hid (Few pr.length) := by
                    have h1 := two_len (nn_ok OX.out) (nn_ok OY.out)
                    have := FX.out
                    have := FY.out
                    rw [hpr] at h1
                    unfold Hid Few
                    omega
                  have MQ : Hid (SameS pq pr) := by rw [← hpq, ← hpr]; exact MP.out
                  obtain ⟨va, hva⟩ : ∃ v, valS pa [3, 5] = v := ⟨_, rfl⟩
                  obtain ⟨vb, hvb⟩ : ∃ v, valS pb [3, 5] = v := ⟨_, rfl⟩
                  obtain ⟨vm, hvm⟩ : ∃ v, valS pm [3, 5] = v := ⟨_, rfl⟩
                  have HV : vm = max va vb := by rw [← hva, ← hvb, ← hvm]; exact M7.out [3, 5]
                  obtain ⟨nab, hnab⟩ : ∃ s, (!ab) = s := ⟨_, rfl⟩
                  have K1 : nab = false → Hid (∀ w', BoxL wu [(w.heap.size, .slice Aa pa.length ca), (w.heap.size + 1, .slice Ab pb.length cb), (gm, .slice Am nm cm), (gx, .slice Ax nx cx), (gy, .slice Bx ny dx)] w' → Calls Try.prog 16 #[.agg #[.slice Ax nx cx], .agg #[.slice Bx ny dx]] w' fun e w'' => e = .returned (.bool true) ∧ Below w'.heap.size w' w'' ∧ BoxL wu [(w.heap.size, .slice Aa pa.length ca), (w.heap.size + 1, .slice Ab pb.length cb), (gm, .slice Am nm cm), (gx, .slice Ax nx cx), (gy, .slice Bx ny dx)] w'') := fun hq w' hx => (leq_at Ax _ cx px Bx _ dx py w' (LX12.out.step hx.1) (LZ12.out.step hx.1) ⟨FX2.out, FY2.out⟩ ⟨OX.out, OY.out⟩ true ⟨fun _ => MX.out (by rw [hq] at hnab; simpa using hnab), fun _ => rfl⟩).mono fun _ _ h => ⟨h.1, h.2, hx.step h.2⟩
                  have K2 : Hid (∀ w', BoxL wu [(w.heap.size, .slice Aa pa.length ca), (w.heap.size + 1, .slice Ab pb.length cb), (gm, .slice Am nm cm), (gx, .slice Ax nx cx), (gy, .slice Bx ny dx)] w' → Calls Try.prog 9 #[.agg #[.slice Am nm cm], .slice Ay bys.length cy] w' fun e w'' => ∃ A c, e = .returned (.agg #[.slice A nq c]) ∧ LvAt w'' A nq c pq ∧ Below w'.heap.size w' w'' ∧ BoxL wu [(w.heap.size, .slice Aa pa.length ca), (w.heap.size + 1, .slice Ab pb.length cb), (gm, .slice Am nm cm), (gx, .slice Ax nx cx), (gy, .slice Bx ny dx)] w'') := fun w' hx => by
                    obtain ⟨h0, h1, h2⟩ := LM12.out.step hx.1
                    have h := put_any Am Ay pm bys cm cy w' (by have := M5.out; omega) h1 h2 (by unfold maxLen; omega) H9.out ((LY12.out.below hx.1).more hx.1.size)
                    rw [← h0] at h
                    refine h.mono fun _ _ h => ?_
                    rw [hpq] at h
                    obtain ⟨A, c, h3, h4, h5⟩ := h.out
                    rw [hnq] at h3 h4
                    exact ⟨A, c, h3, h4, h5, hx.step h5⟩
                  have K3 : Hid (∀ g w', Levs w' w'.heap.size (some ⟨g, 0, none⟩) [px, py] → BoxL wu [(w.heap.size, .slice Aa pa.length ca), (w.heap.size + 1, .slice Ab pb.length cb), (gm, .slice Am nm cm), (gx, .slice Ax nx cx), (gy, .slice Bx ny dx)] w' → Calls Try.prog 19 #[.slice (some ⟨g, 0, none⟩) 2 2] w' fun e w'' => ∃ A c, e = .returned (.agg #[.slice A nr c]) ∧ LvAt w'' A nr c pr ∧ Below w'.heap.size w' w'' ∧ BoxL wu [(w.heap.size, .slice Aa pa.length ca), (w.heap.size + 1, .slice Ab pb.length cb), (gm, .slice Am nm cm), (gx, .slice Ax nx cx), (gy, .slice Bx ny dx)] w'') := fun g w' hl hx => by
                    refine (max_any (some ⟨g, 0, none⟩) [px, py] 2 w' (by unfold maxLen; simp) (by rw [flat_two, List.length_append]; have := FX.out; have := FY.out; unfold Few; omega) hl (fun p hp => by
                      rw [flat_two] at hp
                      rcases List.mem_append.1 hp with h | h
                      · exact OX.out p h
                      · exact OY.out p h)).mono fun _ _ h => ?_
                    rw [hpr] at h
                    obtain ⟨A, c, h3, h4, h5⟩ := h.out
                    rw [hnr] at h3 h4
                    exact ⟨A, c, h3, h4, h5, hx.step h5⟩
                  have K4 : Hid (∀ A c A' c' w', LvAt w' A nq c pq → LvAt w' A' nr c' pr → BoxL wu [(w.heap.size, .slice Aa pa.length ca), (w.heap.size + 1, .slice Ab pb.length cb), (gm, .slice Am nm cm), (gx, .slice Ax nx cx), (gy, .slice Bx ny dx)] w' → Calls Try.prog 17 #[.agg #[.slice A nq c], .agg #[.slice A' nr c']] w' fun e w'' => e = .returned (.bool true) ∧ Below w'.heap.size w' w'' ∧ BoxL wu [(w.heap.size, .slice Aa pa.length ca), (w.heap.size + 1, .slice Ab pb.length cb), (gm, .slice Am nm cm), (gx, .slice Ax nx cx), (gy, .slice Bx ny dx)] w'') := fun A c A' c' w' h1 h2 hx => (lsame_at A _ c pq A' _ c' pr w' h1 h2 ⟨FQ.out, FR.out⟩ ⟨OQ.out, OR.out⟩ true ⟨fun _ => MQ.out, fun _ => rfl⟩).mono fun _ _ h => ⟨h.1, h.2, hx.step h.2⟩
                  have KM : Hid (∀ g w', Ints w' w'.heap.size (some ⟨g, 0, none⟩) [3, 5] → BoxL wu [(w.heap.size, .slice Aa pa.length ca), (w.heap.size + 1, .slice Ab pb.length cb), (gm, .slice Am nm cm), (gx, .slice Ax nx cx), (gy, .slice Bx ny dx)] w' → Calls Try.prog 11 #[.agg #[.slice Am nm cm], .slice (some ⟨g, 0, none⟩) 2 2] w' fun e w'' => e = .returned (.int .i64 vm) ∧ Below w'.heap.size w' w'' ∧ BoxL wu [(w.heap.size, .slice Aa pa.length ca), (w.heap.size + 1, .slice Ab pb.length cb), (gm, .slice Am nm cm), (gx, .slice Ax nx cx), (gy, .slice Bx ny dx)] w'') := fun g w' hi hx => by
                    obtain ⟨h0, h1, h2⟩ := LM12.out.step hx.1
                    have h := value_is Am (some ⟨g, 0, none⟩) pm [3, 5] cm 2 w' FM.out (by unfold maxLen; simp) h1 hi h2 OM.out
                    rw [← h0] at h
                    exact h.mono fun _ _ h => ⟨by rw [← hvm]; exact h.1, h.2, hx.step h.2⟩
                  have KA : Hid (∀ g w', Ints w' w'.heap.size (some ⟨g, 0, none⟩) [3, 5] → BoxL wu [(w.heap.size, .slice Aa pa.length ca), (w.heap.size + 1, .slice Ab pb.length cb), (gm, .slice Am nm cm), (gx, .slice Ax nx cx), (gy, .slice Bx ny dx)] w' → Calls Try.prog 11 #[.agg #[.slice Aa pa.length ca], .slice (some ⟨g, 0, none⟩) 2 2] w' fun e w'' => e = .returned (.int .i64 va) ∧ Below w'.heap.size w' w'' ∧ BoxL wu [(w.heap.size, .slice Aa pa.length ca), (w.heap.size + 1, .slice Ab pb.length cb), (gm, .slice Am nm cm), (gx, .slice Ax nx cx), (gy, .slice Bx ny dx)] w'') := fun g w' hi hx => by
                    obtain ⟨h0, h1, h2⟩ := LA12.out.step hx.1
                    have h := value_is Aa (some ⟨g, 0, none⟩) pa [3, 5] ca 2 w' FA.out (by unfold maxLen; simp) h1 hi h2 OA.out
                    rw [← h0] at h
                    exact h.mono fun _ _ h => ⟨by rw [← hva]; exact h.1, h.2, hx.step h.2⟩
                  have KB : Hid (∀ g w', Ints w' w'.heap.size (some ⟨g, 0, none⟩) [3, 5] → BoxL wu [(w.heap.size, .slice Aa pa.length ca), (w.heap.size + 1, .slice Ab pb.length cb), (gm, .slice Am nm cm), (gx, .slice Ax nx cx), (gy, .slice Bx ny dx)] w' → Calls Try.prog 11 #[.agg #[.slice Ab pb.length cb], .slice (some ⟨g, 0, none⟩) 2 2] w' fun e w'' => e = .returned (.int .i64 vb) ∧ Below w'.heap.size w' w'' ∧ BoxL wu [(w.heap.size, .slice Aa pa.length ca), (w.heap.size + 1, .slice Ab pb.length cb), (gm, .slice Am nm cm), (gx, .slice Ax nx cx), (gy, .slice Bx ny dx)] w'') := fun g w' hi hx => by
                    obtain ⟨h0, h1, h2⟩ := LB12.out.step hx.1
                    have h := value_is Ab (some ⟨g, 0, none⟩) pb [3, 5] cb 2 w' FB.out (by unfold maxLen; simp) h1 hi h2 OB.out
                    rw [← h0] at h
                    exact h.mono fun _ _ h => ⟨by rw [← hvb]; exact h.1, h.2, hx.step h.2⟩
                  have hS : BoxL wu [(w.heap.size, .slice Aa pa.length ca), (w.heap.size + 1, .slice Ab pb.length cb), (gm, .slice Am nm cm), (gx, .slice Ax nx cx), (gy, .slice Bx ny dx)] wu.drew := BoxL.drew (by simp only [List.mem_cons, List.not_mem_nil, or_false, forall_eq_or_imp, forall_eq]; exact ⟨f1, f2, f3, hcx, hcy⟩)
                  clear f1 f2 f3 hcx hcy hva hvb hvm hpq hpr hnq hnr
                  go_upto_region 17 with (fail)
                  refine wp_region_tab (fun w' => BoxL wu [(w.heap.size, .slice Aa pa.length ca), (w.heap.size + 1, .slice Ab pb.length cb), (gm, .slice Am nm cm), (gx, .slice Ax nx cx), (gy, .slice Bx ny dx)] w') (fun w1 w2 : World => Below w1.heap.size w1 w2) [(fun (x : Value) (_ : World) => x = (.bool ab : Value)), (fun (x : Value) (_ : World) => x = (.bool nab : Value)), (fun (x : Value) (_ : World) => x = (.bool nab : Value)), (fun (x : Value) (_ : World) => x = gv (!nab) (.agg #[.slice Ax nx cx])), (fun (x : Value) (_ : World) => x = gv (!nab) (.agg #[.slice Bx ny dx])), (fun (x : Value) (_ : World) => x = gv (!nab) (.bool true)), (fun (x : Value) (_ : World) => x = (.bool true : Value)), (fun (x : Value) (_ : World) => x = (.bool true : Value)), (fun (x : Value) (_ : World) => x = (.agg #[.slice Am nm cm] : Value)), (fun (x : Value) (_ : World) => x = (.slice Ay bys.length cy : Value)), (fun (x : Value) (w : World) => ∃ A c, x = .agg #[.slice A nq c] ∧ LvAt w A nq c pq), (fun (x : Value) (_ : World) => x = (.agg #[.slice Ax nx cx] : Value)), (fun (x : Value) (_ : World) => x = (.agg #[.slice Bx ny dx] : Value)), (fun (x : Value) (w : World) => ∃ g, x = .slice (some ⟨g, 0, none⟩) 2 2 ∧ Levs w w.heap.size (some ⟨g, 0, none⟩) [px, py]), (fun (x : Value) (w : World) => ∃ A c, x = .agg #[.slice A nr c] ∧ LvAt w A nr c pr), (fun (x : Value) (_ : World) => x = (.bool true : Value)), (fun (x : Value) (_ : World) => x = (.bool true : Value)), (fun (x : Value) (_ : World) => x = (.bool true : Value)), (fun (x : Value) (_ : World) => x = (.agg #[.slice Am nm cm] : Value)), (fun (x : Value) (w : World) => ∃ g, x = .slice (some ⟨g, 0, none⟩) 2 2 ∧ Ints w w.heap.size (some ⟨g, 0, none⟩) [3, 5]), (fun (x : Value) (_ : World) => x = (.int .i64 vm : Value)), (fun (x : Value) (_ : World) => x = (.agg #[.slice Aa pa.length ca] : Value)), (fun (x : Value) (w : World) => ∃ g, x = .slice (some ⟨g, 0, none⟩) 2 2 ∧ Ints w w.heap.size (some ⟨g, 0, none⟩) [3, 5]), (fun (x : Value) (_ : World) => x = (.int .i64 va : Value)), (fun (x : Value) (_ : World) => x = (.agg #[.slice Ab pb.length cb] : Value)), (fun (x : Value) (w : World) => ∃ g, x = .slice (some ⟨g, 0, none⟩) 2 2 ∧ Ints w w.heap.size (some ⟨g, 0, none⟩) [3, 5]), (fun (x : Value) (_ : World) => x = (.int .i64 vb : Value)), (fun (x : Value) (_ : World) => x = (.int .i64 (max va vb) : Value)), (fun (x : Value) (_ : World) => x = (.bool true : Value)), (fun (x : Value) (_ : World) => x = (.bool true : Value)), (fun (x : Value) (_ : World) => x = (.bool true : Value))] [⟨some 154, .move (.tmp 10), none, []⟩, ⟨some 155, .unOp .not 4 (.tmp 154), none, [(154, 0)]⟩, ⟨some 156, .move (.tmp 155), none, [(155, 1)]⟩, ⟨some 157, .load 25 (.tmp 13), some (some 156, false), [(156, 2)]⟩, ⟨some 158, .load 25 (.tmp 14), some (some 156, false), [(156, 2)]⟩, ⟨some 159, .call { callee := .value (.func 16), args := #[.tmp 157, .tmp 158], argTypes := #[25, 25] }, some (some 156, false), [(156, 2), (157, 3), (158, 4)]⟩, ⟨some 160, .pick (.tmp 156) (.const (Value.bool true)) (.tmp 159), none, [(156, 2), (159, 5)]⟩, ⟨some 161, .move (.tmp 160), none, [(160, 6)]⟩, ⟨some 162, .load 25 (.tmp 12), some (some 161, true), [(161, 7)]⟩, ⟨some 163, .move (.tmp 3), some (some 161, true), [(161, 7)]⟩, ⟨some 164, .call { callee := .value (.func 9), args := #[.tmp 162, .tmp 163], argTypes := #[25, 22] }, some (some 161, true), [(161, 7), (162, 8), (163, 9)]⟩, ⟨some 165, .load 25 (.tmp 13), some (some 161, true), [(161, 7)]⟩, ⟨some 166, .load 25 (.tmp 14), some (some 161, true), [(161, 7)]⟩, ⟨some 167, .buildSlice 22 2 #[(0, .tmp 165), (1, .tmp 166)], some (some 161, true), [(161, 7), (165, 11), (166, 12)]⟩, ⟨some 168, .call { callee := .value (.func 19), args := #[.tmp 167], argTypes := #[22] }, some (some 161, true), [(161, 7), (167, 13)]⟩, ⟨some 169, .call { callee := .value (.func 17), args := #[.tmp 164, .tmp 168], argTypes := #[25, 25] }, some (some 161, true), [(161, 7), (164, 10), (168, 14)]⟩, ⟨some 170, .pick (.tmp 161) (.tmp 169) (.const (Value.bool false)), none, [(161, 7), (169, 15)]⟩, ⟨some 171, .move (.tmp 170), none, [(170, 16)]⟩, ⟨some 172, .load 25 (.tmp 12), some (some 171, true), [(171, 17)]⟩, ⟨some 173, .buildSlice 31 2 #[(0, .const (.int .i64 3)), (1, .const (.int .i64 5))], some (some 171, true), [(171, 17)]⟩, ⟨some 174, .call { callee := .value (.func 11), args := #[.tmp 172, .tmp 173], argTypes := #[25, 31] }, some (some 171, true), [(171, 17), (172, 18), (173, 19)]⟩, ⟨some 175, .load 25 (.tmp 4), some (some 171, true), [(171, 17)]⟩, ⟨some 176, .buildSlice 31 2 #[(0, .const (.int .i64 3)), (1, .const (.int .i64 5))], some (some 171, true), [(171, 17)]⟩, ⟨some 177, .call { callee := .value (.func 11), args := #[.tmp 175, .tmp 176], argTypes := #[25, 31] }, some (some 171, true), [(171, 17), (175, 21), (176, 22)]⟩, ⟨some 178, .load 25 (.tmp 5), some (some 171, true), [(171, 17)]⟩, ⟨some 179, .buildSlice 31 2 #[(0, .const (.int .i64 3)), (1, .const (.int .i64 5))], some (some 171, true), [(171, 17)]⟩, ⟨some 180, .call { callee := .value (.func 11), args := #[.tmp 178, .tmp 179], argTypes := #[25, 31] }, some (some 171, true), [(171, 17), (178, 24), (179, 25)]⟩, ⟨some 181, .call { callee := .builtin .max, args := #[.tmp 177, .tmp 180], argTypes := #[3, 3] }, some (some 171, true), [(171, 17), (177, 23), (180, 26)]⟩, ⟨some 182, .binOp .eql 3 (.tmp 174) (.tmp 181) 3, some (some 171, true), [(171, 17), (174, 20), (181, 27)]⟩, ⟨some 183, .pick (.tmp 171) (.tmp 182) (.const (Value.bool false)), none, [(171, 17), (182, 28)]⟩, ⟨some 8, .assign (.tmp 183), none, [(183, 29)]⟩] [some 154, some 155, some 156, some 157, some 158, some 159, some 160, some 161, some 162, some 163, some 164, some 165, some 166, some 167, some 168, some 169, some 170, some 171, some 172, some 173, some 174, some 175, some 176, some 177, some 178, some 179, some 180, some 181, some 182, some 183, some 8] (by kernel_rfl) (by kernel_rfl) (by kernel_rfl) (by kernel_rfl) (by kernel_rfl) ?hS ?hmono ?hsteps ?hfin
                  case hS => exact hS
                  case hmono =>
                    refine MonoL.cons (fun x w1 w2 _ _ _ hx => hx) ?_
                    refine MonoL.cons (fun x w1 w2 _ _ _ hx => hx) ?_
                    refine MonoL.cons (fun x w1 w2 _ _ _ hx => hx) ?_
                    refine MonoL.cons (fun x w1 w2 _ _ _ hx => hx) ?_
                    refine MonoL.cons (fun x w1 w2 _ _ _ hx => hx) ?_
                    refine MonoL.cons (fun x w1 w2 _ _ _ hx => hx) ?_
                    refine MonoL.cons (fun x w1 w2 _ _ _ hx => hx) ?_
                    refine MonoL.cons (fun x w1 w2 _ _ _ hx => hx) ?_
                    refine MonoL.cons (fun x w1 w2 _ _ _ hx => hx) ?_
                    refine MonoL.cons (fun x w1 w2 _ _ _ hx => hx) ?_
                    refine MonoL.cons (fun x w1 w2 _ _ hR hx => ?_) ?_
                    · obtain ⟨A, c, rfl, h⟩ := hx; exact ⟨A, c, rfl, h.step hR⟩
                    refine MonoL.cons (fun x w1 w2 _ _ _ hx => hx) ?_
                    refine MonoL.cons (fun x w1 w2 _ _ _ hx => hx) ?_
                    refine MonoL.cons (fun x w1 w2 _ _ hR hx => ?_) ?_
                    · obtain ⟨g, h1, h2⟩ := hx; exact ⟨g, h1, (h2.below hR).more hR.size⟩
                    refine MonoL.cons (fun x w1 w2 _ _ hR hx => ?_) ?_
                    · obtain ⟨A, c, rfl, h⟩ := hx; exact ⟨A, c, rfl, h.step hR⟩
                    refine MonoL.cons (fun x w1 w2 _ _ _ hx => hx) ?_
                    refine MonoL.cons (fun x w1 w2 _ _ _ hx => hx) ?_
                    refine MonoL.cons (fun x w1 w2 _ _ _ hx => hx) ?_
                    refine MonoL.cons (fun x w1 w2 _ _ _ hx => hx) ?_
                    refine MonoL.cons (fun x w1 w2 _ _ hR hx => ?_) ?_
                    · obtain ⟨g, h1, h2⟩ := hx; exact ⟨g, h1, (h2.below hR).more hR.size⟩
                    refine MonoL.cons (fun x w1 w2 _ _ _ hx => hx) ?_
                    refine MonoL.cons (fun x w1 w2 _ _ _ hx => hx) ?_
                    refine MonoL.cons (fun x w1 w2 _ _ hR hx => ?_) ?_
                    · obtain ⟨g, h1, h2⟩ := hx; exact ⟨g, h1, (h2.below hR).more hR.size⟩
                    refine MonoL.cons (fun x w1 w2 _ _ _ hx => hx) ?_
                    refine MonoL.cons (fun x w1 w2 _ _ _ hx => hx) ?_
                    refine MonoL.cons (fun x w1 w2 _ _ hR hx => ?_) ?_
                    · obtain ⟨g, h1, h2⟩ := hx; exact ⟨g, h1, (h2.below hR).more hR.size⟩
                    refine MonoL.cons (fun x w1 w2 _ _ _ hx => hx) ?_
                    refine MonoL.cons (fun x w1 w2 _ _ _ hx => hx) ?_
                    refine MonoL.cons (fun x w1 w2 _ _ _ hx => hx) ?_
                    refine MonoL.cons (fun x w1 w2 _ _ _ hx => hx) ?_
                    refine MonoL.cons (fun x w1 w2 _ _ _ hx => hx) ?_
                    exact MonoL.nil
                  case hsteps =>
                    refine StepsT.cons (fun (x : Value) (_ : World) => x = (.bool ab : Value)) [] rfl rfl (fun o hop _ wq hQS => ?_) ?_
                    · exact StepFrom.move hop (v := (.bool ab : Value)) (by kernel_rfl) (by kernel_rfl) hQS (Below.refl _ _) rfl
                    refine StepsT.cons (fun (x : Value) (_ : World) => x = (.bool nab : Value)) [(154, (fun (x : Value) (_ : World) => x = (.bool ab : Value)))] rfl rfl (fun o hop _ wq hQS => ?_) ?_
                    · refine StepFrom.more_eq ((.bool ab : Value)) ?_
                      exact StepFrom.not hop (b := ab) (by kernel_rfl) (by kernel_rfl) hQS (Below.refl _ _) (by rw [← hnab])
                    refine StepsT.cons (fun (x : Value) (_ : World) => x = (.bool nab : Value)) [(155, (fun (x : Value) (_ : World) => x = (.bool nab : Value)))] rfl rfl (fun o hop _ wq hQS => ?_) ?_
                    · refine StepFrom.more_eq ((.bool nab : Value)) ?_
                      exact StepFrom.move hop (v := (.bool nab : Value)) (by kernel_rfl) (by kernel_rfl) hQS (Below.refl _ _) rfl
                    refine StepsT.cons (fun (x : Value) (_ : World) => x = gv (!nab) (.agg #[.slice Ax nx cx])) [(156, (fun (x : Value) (_ : World) => x = (.bool nab : Value)))] rfl rfl (fun o hop _ wq hQS => ?_) ?_
                    · rcases nab with _ | _
                      · refine StepFrom.more_eq ((.bool false : Value)) ?_
                        skip
                        exact StepFrom.load hop (by kernel_rfl) (load_level (hQS.2 (gx, .slice Ax nx cx) (by simp))) (by kernel_rfl) hQS (Below.refl _ _) rfl
                      · refine StepFrom.more_eq ((.bool true : Value)) ?_
                        exact StepFrom.off (by kernel_rfl) hQS (Below.refl _ _) rfl
                    refine StepsT.cons (fun (x : Value) (_ : World) => x = gv (!nab) (.agg #[.slice Bx ny dx])) [(156, (fun (x : Value) (_ : World) => x = (.bool nab : Value)))] rfl rfl (fun o hop _ wq hQS => ?_) ?_
                    · rcases nab with _ | _
                      · refine StepFrom.more_eq ((.bool false : Value)) ?_
                        skip
                        exact StepFrom.load hop (by kernel_rfl) (load_level (hQS.2 (gy, .slice Bx ny dx) (by simp))) (by kernel_rfl) hQS (Below.refl _ _) rfl
                      · refine StepFrom.more_eq ((.bool true : Value)) ?_
                        exact StepFrom.off (by kernel_rfl) hQS (Below.refl _ _) rfl
                    refine StepsT.cons (fun (x : Value) (_ : World) => x = gv (!nab) (.bool true)) [(156, (fun (x : Value) (_ : World) => x = (.bool nab : Value))), (157, (fun (x : Value) (_ : World) => x = gv (!nab) (.agg #[.slice Ax nx cx]))), (158, (fun (x : Value) (_ : World) => x = gv (!nab) (.agg #[.slice Bx ny dx])))] rfl rfl (fun o hop _ wq hQS => ?_) ?_
                    · rcases nab with _ | _
                      · refine StepFrom.more_eq ((.bool false : Value)) ?_
                        refine StepFrom.more_eq ((.agg #[.slice Ax nx cx] : Value)) ?_
                        refine StepFrom.more_eq ((.agg #[.slice Bx ny dx] : Value)) ?_
                        exact StepFrom.call hop (vs := [(.agg #[.slice Ax nx cx] : Value), (.agg #[.slice Bx ny dx] : Value)]) (by kernel_rfl) (fun w => enter_leq _ w) (by kernel_rfl) (((K1 rfl).out _ hQS).mono fun e w2 h => ⟨_, h.1, h.2.2, h.2.1, rfl⟩)
                      · refine StepFrom.more_eq ((.bool true : Value)) ?_
                        refine StepFrom.more_eq (undef) ?_
                        refine StepFrom.more_eq (undef) ?_
                        exact StepFrom.off (by kernel_rfl) hQS (Below.refl _ _) rfl
                    refine StepsT.cons (fun (x : Value) (_ : World) => x = (.bool true : Value)) [(156, (fun (x : Value) (_ : World) => x = (.bool nab : Value))), (159, (fun (x : Value) (_ : World) => x = gv (!nab) (.bool true)))] rfl rfl (fun o hop _ wq hQS => ?_) ?_
                    · refine StepFrom.more_eq ((.bool nab : Value)) ?_
                      refine StepFrom.more_eq (gv (!nab) (.bool true)) ?_
                      exact StepFrom.pick hop (b := nab) (vx := (Value.bool true : Value)) (vy := gv (!nab) (.bool true)) (by kernel_rfl) (by kernel_rfl) (by kernel_rfl) (by kernel_rfl) hQS (Below.refl _ _) (by cases nab <;> rfl)
                    refine StepsT.cons (fun (x : Value) (_ : World) => x = (.bool true : Value)) [(160, (fun (x : Value) (_ : World) => x = (.bool true : Value)))] rfl rfl (fun o hop _ wq hQS => ?_) ?_
                    · refine StepFrom.more_eq ((.bool true : Value)) ?_
                      exact StepFrom.move hop (v := (.bool true : Value)) (by kernel_rfl) (by kernel_rfl) hQS (Below.refl _ _) rfl
                    refine StepsT.cons (fun (x : Value) (_ : World) => x = (.agg #[.slice Am nm cm] : Value)) [(161, (fun (x : Value) (_ : World) => x = (.bool true : Value)))] rfl rfl (fun o hop _ wq hQS => ?_) ?_
                    · refine StepFrom.more_eq ((.bool true : Value)) ?_
                      skip
                      exact StepFrom.load hop (by kernel_rfl) (load_level (hQS.2 (gm, .slice Am nm cm) (by simp))) (by kernel_rfl) hQS (Below.refl _ _) rfl
                    refine StepsT.cons (fun (x : Value) (_ : World) => x = (.slice Ay bys.length cy : Value)) [(161, (fun (x : Value) (_ : World) => x = (.bool true : Value)))] rfl rfl (fun o hop _ wq hQS => ?_) ?_
                    · refine StepFrom.more_eq ((.bool true : Value)) ?_
                      exact StepFrom.move hop (v := (.slice Ay bys.length cy : Value)) (by kernel_rfl) (by kernel_rfl) hQS (Below.refl _ _) rfl
                    refine StepsT.cons (fun (x : Value) (w : World) => ∃ A c, x = .agg #[.slice A nq c] ∧ LvAt w A nq c pq) [(161, (fun (x : Value) (_ : World) => x = (.bool true : Value))), (162, (fun (x : Value) (_ : World) => x = (.agg #[.slice Am nm cm] : Value))), (163, (fun (x : Value) (_ : World) => x = (.slice Ay bys.length cy : Value)))] rfl rfl (fun o hop _ wq hQS => ?_) ?_
                    · refine StepFrom.more_eq ((.bool true : Value)) ?_
                      refine StepFrom.more_eq ((.agg #[.slice Am nm cm] : Value)) ?_
                      refine StepFrom.more_eq ((.slice Ay bys.length cy : Value)) ?_
                      exact StepFrom.call hop (vs := [(.agg #[.slice Am nm cm] : Value), (.slice Ay bys.length cy : Value)]) (by kernel_rfl) (fun w => enter_put _ w) (by kernel_rfl) ((K2.out _ hQS).mono fun e w2 ⟨A, c, h1, h2, h3, h4⟩ => ⟨_, h1, h4, h3, A, c, rfl, h2⟩)
                    refine StepsT.cons (fun (x : Value) (_ : World) => x = (.agg #[.slice Ax nx cx] : Value)) [(161, (fun (x : Value) (_ : World) => x = (.bool true : Value)))] rfl rfl (fun o hop _ wq hQS => ?_) ?_
                    · refine StepFrom.more_eq ((.bool true : Value)) ?_
                      skip
                      exact StepFrom.load hop (by kernel_rfl) (load_level (hQS.2 (gx, .slice Ax nx cx) (by simp))) (by kernel_rfl) hQS (Below.refl _ _) rfl
                    refine StepsT.cons (fun (x : Value) (_ : World) => x = (.agg #[.slice Bx ny dx] : Value)) [(161, (fun (x : Value) (_ : World) => x = (.bool true : Value)))] rfl rfl (fun o hop _ wq hQS => ?_) ?_
                    · refine StepFrom.more_eq ((.bool true : Value)) ?_
                      skip
                      exact StepFrom.load hop (by kernel_rfl) (load_level (hQS.2 (gy, .slice Bx ny dx) (by simp))) (by kernel_rfl) hQS (Below.refl _ _) rfl
                    refine StepsT.cons (fun (x : Value) (w : World) => ∃ g, x = .slice (some ⟨g, 0, none⟩) 2 2 ∧ Levs w w.heap.size (some ⟨g, 0, none⟩) [px, py]) [(161, (fun (x : Value) (_ : World) => x = (.bool true : Value))), (165, (fun (x : Value) (_ : World) => x = (.agg #[.slice Ax nx cx] : Value))), (166, (fun (x : Value) (_ : World) => x = (.agg #[.slice Bx ny dx] : Value)))] rfl rfl (fun o hop _ wq hQS => ?_) ?_
                    · refine StepFrom.more_eq ((.bool true : Value)) ?_
                      refine StepFrom.more_eq ((.agg #[.slice Ax nx cx] : Value)) ?_
                      refine StepFrom.more_eq ((.agg #[.slice Bx ny dx] : Value)) ?_
                      have hb1 := (Below.refl wq.heap.size wq).alloc (Nat.le_refl _) (.cells #[.slice Ax nx cx, .slice Bx ny dx] 25)
                      obtain ⟨q0, q1, q2⟩ := LX12.out.step hQS.1
                      obtain ⟨q3, q4, q5⟩ := LZ12.out.step hQS.1
                      have hro : (wq.alloc (.cells #[.slice Ax nx cx, .slice Bx ny dx] 25)).ownsRow wq.heap.size 25 1 (.slice (some ⟨wq.heap.size, 0, none⟩) 2 2) 2 [.slice Ax nx cx, .slice Bx ny dx] := World.ownsRow_lit (base := wq.heap.size) (e := 25) (size := 1) wq #[.slice Ax nx cx, .slice Bx ny dx] 2 (Nat.le_refl _) (by unfold maxLen; omega) rfl
                      have hlr : LevRow wq ([px] ++ [py]) ([.slice Ax nx cx] ++ [.slice Bx ny dx]) := by rw [q0, q3]; exact row_app (row_one q1 q2 (by have := FX.out; omega)) (row_one q4 q5 (by have := FY.out; omega))
                      exact StepFrom.slice hop (vs := [(0, .agg #[.slice Ax nx cx]), (1, .agg #[.slice Bx ny dx])]) (by kernel_rfl) (slice_levels Ax Bx nx ny cx dx) (by kernel_rfl) (hQS.step hb1) hb1 ⟨_, rfl, row_levs hro (hlr.below hb1) (by simp)⟩
                    refine StepsT.cons (fun (x : Value) (w : World) => ∃ A c, x = .agg #[.slice A nr c] ∧ LvAt w A nr c pr) [(161, (fun (x : Value) (_ : World) => x = (.bool true : Value))), (167, (fun (x : Value) (w : World) => ∃ g, x = .slice (some ⟨g, 0, none⟩) 2 2 ∧ Levs w w.heap.size (some ⟨g, 0, none⟩) [px, py]))] rfl rfl (fun o hop _ wq hQS => ?_) ?_
                    · refine StepFrom.more_eq ((.bool true : Value)) ?_
                      refine StepFrom.more fun x167 h167 => ?_
                      obtain ⟨g167, rfl, hl167⟩ := h167
                      exact StepFrom.call hop (vs := [(.slice (some ⟨g167, 0, none⟩) 2 2 : Value)]) (by kernel_rfl) (fun w => enter_max _ w) (by kernel_rfl) ((K3.out _ _ hl167 hQS).mono fun e w2 ⟨A, c, h1, h2, h3, h4⟩ => ⟨_, h1, h4, h3, A, c, rfl, h2⟩)
                    refine StepsT.cons (fun (x : Value) (_ : World) => x = (.bool true : Value)) [(161, (fun (x : Value) (_ : World) => x = (.bool true : Value))), (164, (fun (x : Value) (w : World) => ∃ A c, x = .agg #[.slice A nq c] ∧ LvAt w A nq c pq)), (168, (fun (x : Value) (w : World) => ∃ A c, x = .agg #[.slice A nr c] ∧ LvAt w A nr c pr))] rfl rfl (fun o hop _ wq hQS => ?_) ?_
                    · refine StepFrom.more_eq ((.bool true : Value)) ?_
                      refine StepFrom.more fun x164 h164 => ?_
                      obtain ⟨A164, c164, rfl, hl164⟩ := h164
                      refine StepFrom.more fun x168 h168 => ?_
                      obtain ⟨A168, c168, rfl, hl168⟩ := h168
                      exact StepFrom.call hop (vs := [(.agg #[.slice A164 nq c164] : Value), (.agg #[.slice A168 nr c168] : Value)]) (by kernel_rfl) (fun w => enter_lsame _ w) (by kernel_rfl) ((K4.out _ _ _ _ _ hl164 hl168 hQS).mono fun e w2 h => ⟨_, h.1, h.2.2, h.2.1, rfl⟩)
                    refine StepsT.cons (fun (x : Value) (_ : World) => x = (.bool true : Value)) [(161, (fun (x : Value) (_ : World) => x = (.bool true : Value))), (169, (fun (x : Value) (_ : World) => x = (.bool true : Value)))] rfl rfl (fun o hop _ wq hQS => ?_) ?_
                    · refine StepFrom.more_eq ((.bool true : Value)) ?_
                      refine StepFrom.more_eq ((.bool true : Value)) ?_
                      exact StepFrom.pick hop (b := true) (vx := (.bool true : Value)) (vy := (Value.bool false : Value)) (by kernel_rfl) (by kernel_rfl) (by kernel_rfl) (by kernel_rfl) hQS (Below.refl _ _) rfl
                    refine StepsT.cons (fun (x : Value) (_ : World) => x = (.bool true : Value)) [(170, (fun (x : Value) (_ : World) => x = (.bool true : Value)))] rfl rfl (fun o hop _ wq hQS => ?_) ?_
                    · refine StepFrom.more_eq ((.bool true : Value)) ?_
                      exact StepFrom.move hop (v := (.bool true : Value)) (by kernel_rfl) (by kernel_rfl) hQS (Below.refl _ _) rfl
                    refine StepsT.cons (fun (x : Value) (_ : World) => x = (.agg #[.slice Am nm cm] : Value)) [(171, (fun (x : Value) (_ : World) => x = (.bool true : Value)))] rfl rfl (fun o hop _ wq hQS => ?_) ?_
                    · refine StepFrom.more_eq ((.bool true : Value)) ?_
                      skip
                      exact StepFrom.load hop (by kernel_rfl) (load_level (hQS.2 (gm, .slice Am nm cm) (by simp))) (by kernel_rfl) hQS (Below.refl _ _) rfl
                    refine StepsT.cons (fun (x : Value) (w : World) => ∃ g, x = .slice (some ⟨g, 0, none⟩) 2 2 ∧ Ints w w.heap.size (some ⟨g, 0, none⟩) [3, 5]) [(171, (fun (x : Value) (_ : World) => x = (.bool true : Value)))] rfl rfl (fun o hop _ wq hQS => ?_) ?_
                    · refine StepFrom.more_eq ((.bool true : Value)) ?_
                      exact StepFrom.slice hop (vs := [(0, .int .i64 3), (1, .int .i64 5)]) (by kernel_rfl) (slice_ints 3 5) (by kernel_rfl) (hQS.step ((Below.refl _ _).alloc (Nat.le_refl _) _)) ((Below.refl _ _).alloc (Nat.le_refl _) _) ⟨_, rfl, ints_two _ _ _ _⟩
                    refine StepsT.cons (fun (x : Value) (_ : World) => x = (.int .i64 vm : Value)) [(171, (fun (x : Value) (_ : World) => x = (.bool true : Value))), (172, (fun (x : Value) (_ : World) => x = (.agg #[.slice Am nm cm] : Value))), (173, (fun (x : Value) (w : World) => ∃ g, x = .slice (some ⟨g, 0, none⟩) 2 2 ∧ Ints w w.heap.size (some ⟨g, 0, none⟩) [3, 5]))] rfl rfl (fun o hop _ wq hQS => ?_) ?_
                    · refine StepFrom.more_eq ((.bool true : Value)) ?_
                      refine StepFrom.more_eq ((.agg #[.slice Am nm cm] : Value)) ?_
                      refine StepFrom.more fun x173 h173 => ?_
                      obtain ⟨g173, rfl, hl173⟩ := h173
                      exact StepFrom.call hop (vs := [(.agg #[.slice Am nm cm] : Value), (.slice (some ⟨g173, 0, none⟩) 2 2 : Value)]) (by kernel_rfl) (fun w => enter_value _ w) (by kernel_rfl) ((KM.out _ _ hl173 hQS).mono fun e w2 h => ⟨_, h.1, h.2.2, h.2.1, rfl⟩)
                    refine StepsT.cons (fun (x : Value) (_ : World) => x = (.agg #[.slice Aa pa.length ca] : Value)) [(171, (fun (x : Value) (_ : World) => x = (.bool true : Value)))] rfl rfl (fun o hop _ wq hQS => ?_) ?_
                    · refine StepFrom.more_eq ((.bool true : Value)) ?_
                      skip
                      exact StepFrom.load hop (by kernel_rfl) (load_level (hQS.2 (w.heap.size, .slice Aa pa.length ca) (by simp))) (by kernel_rfl) hQS (Below.refl _ _) rfl
                    refine StepsT.cons (fun (x : Value) (w : World) => ∃ g, x = .slice (some ⟨g, 0, none⟩) 2 2 ∧ Ints w w.heap.size (some ⟨g, 0, none⟩) [3, 5]) [(171, (fun (x : Value) (_ : World) => x = (.bool true : Value)))] rfl rfl (fun o hop _ wq hQS => ?_) ?_
                    · refine StepFrom.more_eq ((.bool true : Value)) ?_
                      exact StepFrom.slice hop (vs := [(0, .int .i64 3), (1, .int .i64 5)]) (by kernel_rfl) (slice_ints 3 5) (by kernel_rfl) (hQS.step ((Below.refl _ _).alloc (Nat.le_refl _) _)) ((Below.refl _ _).alloc (Nat.le_refl _) _) ⟨_, rfl, ints_two _ _ _ _⟩
                    refine StepsT.cons (fun (x : Value) (_ : World) => x = (.int .i64 va : Value)) [(171, (fun (x : Value) (_ : World) => x = (.bool true : Value))), (175, (fun (x : Value) (_ : World) => x = (.agg #[.slice Aa pa.length ca] : Value))), (176, (fun (x : Value) (w : World) => ∃ g, x = .slice (some ⟨g, 0, none⟩) 2 2 ∧ Ints w w.heap.size (some ⟨g, 0, none⟩) [3, 5]))] rfl rfl (fun o hop _ wq hQS => ?_) ?_
                    · refine StepFrom.more_eq ((.bool true : Value)) ?_
                      refine StepFrom.more_eq ((.agg #[.slice Aa pa.length ca] : Value)) ?_
                      refine StepFrom.more fun x176 h176 => ?_
                      obtain ⟨g176, rfl, hl176⟩ := h176
                      exact StepFrom.call hop (vs := [(.agg #[.slice Aa pa.length ca] : Value), (.slice (some ⟨g176, 0, none⟩) 2 2 : Value)]) (by kernel_rfl) (fun w => enter_value _ w) (by kernel_rfl) ((KA.out _ _ hl176 hQS).mono fun e w2 h => ⟨_, h.1, h.2.2, h.2.1, rfl⟩)
                    refine StepsT.cons (fun (x : Value) (_ : World) => x = (.agg #[.slice Ab pb.length cb] : Value)) [(171, (fun (x : Value) (_ : World) => x = (.bool true : Value)))] rfl rfl (fun o hop _ wq hQS => ?_) ?_
                    · refine StepFrom.more_eq ((.bool true : Value)) ?_
                      skip
                      exact StepFrom.load hop (by kernel_rfl) (load_level (hQS.2 (w.heap.size + 1, .slice Ab pb.length cb) (by simp))) (by kernel_rfl) hQS (Below.refl _ _) rfl
                    refine StepsT.cons (fun (x : Value) (w : World) => ∃ g, x = .slice (some ⟨g, 0, none⟩) 2 2 ∧ Ints w w.heap.size (some ⟨g, 0, none⟩) [3, 5]) [(171, (fun (x : Value) (_ : World) => x = (.bool true : Value)))] rfl rfl (fun o hop _ wq hQS => ?_) ?_
                    · refine StepFrom.more_eq ((.bool true : Value)) ?_
                      exact StepFrom.slice hop (vs := [(0, .int .i64 3), (1, .int .i64 5)]) (by kernel_rfl) (slice_ints 3 5) (by kernel_rfl) (hQS.step ((Below.refl _ _).alloc (Nat.le_refl _) _)) ((Below.refl _ _).alloc (Nat.le_refl _) _) ⟨_, rfl, ints_two _ _ _ _⟩
                    refine StepsT.cons (fun (x : Value) (_ : World) => x = (.int .i64 vb : Value)) [(171, (fun (x : Value) (_ : World) => x = (.bool true : Value))), (178, (fun (x : Value) (_ : World) => x = (.agg #[.slice Ab pb.length cb] : Value))), (179, (fun (x : Value) (w : World) => ∃ g, x = .slice (some ⟨g, 0, none⟩) 2 2 ∧ Ints w w.heap.size (some ⟨g, 0, none⟩) [3, 5]))] rfl rfl (fun o hop _ wq hQS => ?_) ?_
                    · refine StepFrom.more_eq ((.bool true : Value)) ?_
                      refine StepFrom.more_eq ((.agg #[.slice Ab pb.length cb] : Value)) ?_
                      refine StepFrom.more fun x179 h179 => ?_
                      obtain ⟨g179, rfl, hl179⟩ := h179
                      exact StepFrom.call hop (vs := [(.agg #[.slice Ab pb.length cb] : Value), (.slice (some ⟨g179, 0, none⟩) 2 2 : Value)]) (by kernel_rfl) (fun w => enter_value _ w) (by kernel_rfl) ((KB.out _ _ hl179 hQS).mono fun e w2 h => ⟨_, h.1, h.2.2, h.2.1, rfl⟩)
                    refine StepsT.cons (fun (x : Value) (_ : World) => x = (.int .i64 (max va vb) : Value)) [(171, (fun (x : Value) (_ : World) => x = (.bool true : Value))), (177, (fun (x : Value) (_ : World) => x = (.int .i64 va : Value))), (180, (fun (x : Value) (_ : World) => x = (.int .i64 vb : Value)))] rfl rfl (fun o hop _ wq hQS => ?_) ?_
                    · refine StepFrom.more_eq ((.bool true : Value)) ?_
                      refine StepFrom.more_eq ((.int .i64 va : Value)) ?_
                      refine StepFrom.more_eq ((.int .i64 vb : Value)) ?_
                      exact StepFrom.max2 hop (by kernel_rfl) (by kernel_rfl) (by kernel_rfl) hQS (Below.refl _ _) rfl
                    refine StepsT.cons (fun (x : Value) (_ : World) => x = (.bool true : Value)) [(171, (fun (x : Value) (_ : World) => x = (.bool true : Value))), (174, (fun (x : Value) (_ : World) => x = (.int .i64 vm : Value))), (181, (fun (x : Value) (_ : World) => x = (.int .i64 (max va vb) : Value)))] rfl rfl (fun o hop _ wq hQS => ?_) ?_
                    · refine StepFrom.more_eq ((.bool true : Value)) ?_
                      refine StepFrom.more_eq ((.int .i64 vm : Value)) ?_
                      refine StepFrom.more_eq ((.int .i64 (max va vb) : Value)) ?_
                      exact StepFrom.bin hop (vx := (.int .i64 vm : Value)) (vy := (.int .i64 (max va vb) : Value)) (by kernel_rfl) (by kernel_rfl) (eql_int _ _ _ _ _) (by kernel_rfl) hQS (Below.refl _ _) (by simp [HV])
                    refine StepsT.cons (fun (x : Value) (_ : World) => x = (.bool true : Value)) [(171, (fun (x : Value) (_ : World) => x = (.bool true : Value))), (182, (fun (x : Value) (_ : World) => x = (.bool true : Value)))] rfl rfl (fun o hop _ wq hQS => ?_) ?_
                    · refine StepFrom.more_eq ((.bool true : Value)) ?_
                      refine StepFrom.more_eq ((.bool true : Value)) ?_
                      exact StepFrom.pick hop (b := true) (vx := (.bool true : Value)) (vy := (Value.bool false : Value)) (by kernel_rfl) (by kernel_rfl) (by kernel_rfl) (by kernel_rfl) hQS (Below.refl _ _) rfl
                    refine StepsT.cons (fun (x : Value) (_ : World) => x = (.bool true : Value)) [(183, (fun (x : Value) (_ : World) => x = (.bool true : Value)))] rfl rfl (fun o hop _ wq hQS => ?_) ?_
                    · refine StepFrom.more_eq ((.bool true : Value)) ?_
                      exact StepFrom.assign hop (v := (.bool true : Value)) (by kernel_rfl) (by kernel_rfl) hQS (Below.refl _ _) rfl
                    exact StepsT.nil
                  case hfin =>
                    intro wf hFS
                    refine FinalFrom.more fun x154 h154 => ?_
                    refine FinalFrom.more fun x155 h155 => ?_
                    refine FinalFrom.more fun x156 h156 => ?_
                    refine FinalFrom.more fun x157 h157 => ?_
                    refine FinalFrom.more fun x158 h158 => ?_
                    refine FinalFrom.more fun x159 h159 => ?_
                    refine FinalFrom.more fun x160 h160 => ?_
                    refine FinalFrom.more fun x161 h161 => ?_
                    refine FinalFrom.more fun x162 h162 => ?_
                    refine FinalFrom.more fun x163 h163 => ?_
                    refine FinalFrom.more fun x164 h164 => ?_
                    refine FinalFrom.more fun x165 h165 => ?_
                    refine FinalFrom.more fun x166 h166 => ?_
                    refine FinalFrom.more fun x167 h167 => ?_
                    refine FinalFrom.more fun x168 h168 => ?_
                    refine FinalFrom.more fun x169 h169 => ?_
                    refine FinalFrom.more fun x170 h170 => ?_
                    refine FinalFrom.more fun x171 h171 => ?_
                    refine FinalFrom.more fun x172 h172 => ?_
                    refine FinalFrom.more fun x173 h173 => ?_
                    refine FinalFrom.more fun x174 h174 => ?_
                    refine FinalFrom.more fun x175 h175 => ?_
                    refine FinalFrom.more fun x176 h176 => ?_
                    refine FinalFrom.more fun x177 h177 => ?_
                    refine FinalFrom.more fun x178 h178 => ?_
                    refine FinalFrom.more fun x179 h179 => ?_
                    refine FinalFrom.more fun x180 h180 => ?_
                    refine FinalFrom.more fun x181 h181 => ?_
                    refine FinalFrom.more fun x182 h182 => ?_
                    refine FinalFrom.more fun x183 h183 => ?_
                    refine FinalFrom.more fun x8 h8 => ?_
                    refine FinalFrom.done ?_
                    obtain rfl : x8 = (.bool true : Value) := h8
                    simp only [Act.put, List.setIfInBounds_toArray, List.set_cons_zero, List.set_cons_succ]
                    have HF : Hid (HasPost w true (.returned (.bool true)) wf) := ⟨rfl, B12.out.trans (hFS.1.mono (by omega))⟩
                    clear hS K1 K2 K3 K4 KM KA KB hFS
                    go_wp2
                    go_ret
                    exact HF.out

end Go.Proofs.Ytldalfikpklfdaa
