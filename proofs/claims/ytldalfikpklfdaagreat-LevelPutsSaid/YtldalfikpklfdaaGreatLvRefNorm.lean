/- What the reference's Norm answers: of ANY parts, their normal form, or none. -/
import Derived.Test.YtldalfikpklfdaaGreatLvRefPut
import Derived.Test.YtldalfikpklfdaaGreatLvAll2
import Derived.BigQuiet
namespace Go.Proofs.YtldalfikpklfdaaGreat
open Go.RowKit Go.Maps

/-- a level in memory -/
def LAt (w : World) (A : Option Addr) (n c : Nat) (ps : List (Int × Int)) : Prop := n = ps.length ∧ Lev w w.heap.size A ps ∧ (A = none → c = 0)
theorem LAt.step {w w' : World} {A : Option Addr} {n c : Nat} {ps : List (Int × Int)} (h : LAt w A n c ps) (hb : Below w.heap.size w w') : LAt w' A n c ps := ⟨h.1, (h.2.1.below hb).more hb.size, h.2.2⟩
def LOut (w : World) (ps : List (Int × Int)) (e : Ending) (w' : World) : Prop := ∃ A c, e = .returned (.agg #[.slice A ps.length c]) ∧ LAt w' A ps.length c ps ∧ Below w.heap.size w w'
/-- the same, and its parts lie in memory that was made -/
def LOutN (w : World) (ps : List (Int × Int)) (e : Ending) (w' : World) : Prop := ∃ A c, e = .returned (.agg #[.slice A ps.length c]) ∧ LAt w' A ps.length c ps ∧ Below w.heap.size w w' ∧ ∀ a, A = some a → w.heap.size ≤ a.block
theorem LvlPost.lout {w : World} {ps : List (Int × Int)} {e : Ending} {w' : World} (h : LvlPost w ps e w') : LOut w ps e w' := by
  obtain ⟨v, rfl, hrow, hb⟩ := h
  obtain ⟨A, n, c, rfl⟩ := own_slice hrow
  obtain ⟨rfl, hl, hc⟩ := own_lev hrow
  exact ⟨A, c, rfl, ⟨rfl, hl, hc⟩, hb⟩

theorem insP_len : ∀ (l : List (Int × Int)) (p : Int × Int), (insP l p).length ≤ l.length + 1
  | [], p => by simp [insP]
  | q :: l, p => by
    have := insP_len l p
    unfold insP
    split
    · simp; omega
    · split <;> simp
theorem base_len (ps : List (Int × Int)) : (baseL ps).length ≤ ps.length := by
  induction ps using snoc_ind with
  | h0 => simp [baseL]
  | h1 l x ih =>
    rw [baseL_snoc, List.length_append]
    have := insP_len (baseL l) x
    simp
    omega
theorem base_take {ps : List (Int × Int)} {k : Nat} (hk : k < ps.length) : baseL (ps.take (k + 1)) = insP (baseL (ps.take k)) (ps.getD k (0, 0)) := by
  rw [List.take_succ_eq_append_getElem hk, baseL_snoc, List.getD_eq_getElem?_getD, List.getElem?_eq_getElem hk]
  rfl
/-- does the part of 0 stay? -/
def KeepSo (y : Int) (l : List (Int × Int)) (k : Nat) : Prop := 0 < y ∧ ∀ j, j < k → (l.getD j (0, 0)).2 < y
theorem KeepSo.all {y : Int} {l : List (Int × Int)} : KeepSo y l l.length ↔ 0 < y ∧ ∀ q ∈ l, q.2 < y :=
  ⟨fun h => ⟨h.1, fun q hq => by
    obtain ⟨j, hj, rfl⟩ := List.getElem_of_mem hq
    have := h.2 j hj
    rwa [List.getD_eq_getElem?_getD, List.getElem?_eq_getElem hj] at this⟩, fun h => ⟨h.1, fun j hj => by
    rw [List.getD_eq_getElem?_getD, List.getElem?_eq_getElem hj]
    exact h.2 _ (List.getElem_mem hj)⟩⟩
theorem own_cap {w : World} {B : Nat} {e : TypeId} {s n : Nat} {A : Option Addr} {m c : Nat} {xs : List Value} (h : w.ownsRow B e s (.slice A m c) n xs) : n ≤ c ∧ c ≤ maxLen := by
  rcases h.2 with ⟨h1, h2⟩ | ⟨g, cap, cur, h1, _, _, h3, h4, _⟩
  · injection h1 with _ _ h1
    subst h1 h2
    exact ⟨Nat.le_refl _, by unfold maxLen; omega⟩
  · injection h1 with _ _ h1
    subst h1
    exact ⟨h3, h4⟩

theorem lev_set {w : World} {B : Nat} {g o b : Nat} {u : Value} {ps : List (Int × Int)} (h : Lev w B (some ⟨g, o, none⟩) ps) (hne : g ≠ b) : Lev (w.setCell ⟨b, 0, none⟩ u) B (some ⟨g, o, none⟩) ps := by
  intro hn
  obtain ⟨b', o', h1, h2, h3⟩ := h hn
  injection h1 with h1
  injection h1 with h1 h4
  subst h1 h4
  refine ⟨_, _, rfl, h2, fun i hi => ?_⟩
  obtain ⟨q0, q1⟩ := h3 i hi
  exact ⟨(World.cell?_setCell_other _ _ _ _ (fun e => hne (by injection e with e; exact e.symm))).trans q0, (World.cell?_setCell_other _ _ _ _ (fun e => hne (by injection e with e; exact e.symm))).trans q1⟩

theorem lev_tail {w : World} {B : Nat} {g : Nat} {p : Int × Int} {l : List (Int × Int)} (h : Lev w B (some ⟨g, 0, none⟩) (p :: l)) : Lev w B (some ⟨g, 2, none⟩) l := fun _ => by
  obtain ⟨b, o, h1, h2, h3⟩ := h (by simp)
  injection h1 with h1
  injection h1 with h1 h4
  subst h1 h4
  refine ⟨_, _, rfl, h2, fun i hi => ?_⟩
  have := h3 (i + 1) (by simp; omega)
  rw [List.getD_cons_succ] at this
  rw [show 2 + i * 2 = 0 + (i + 1) * 2 by omega]
  exact this
theorem set_size (w : World) (p : Addr) (u : Value) : w.heap.size ≤ (w.setCell p u).heap.size := ((Below.refl 0 w).setCell (Nat.zero_le _) u).size

set_option maxRecDepth 100000 in
set_option maxHeartbeats 4000000 in
theorem rnorm_new (A : Option Addr) (ps : List (Int × Int)) (c : Nat) (w : World) (hm : ps.length ≤ 900000) (h : Lev w w.heap.size A ps) (hc : A = none → c = 0) :
    Calls Tryz.prog 32 #[.agg #[.slice A ps.length c]] w (LOutN w (nfA ps)) := by
  have hfd := field_parts
  obtain ⟨x1, x2, x3⟩ := two_allocs w (.cells #[.slice A ps.length c] 24) (.cells #[.slice none 0 0] 24)
  have hb0 : Below w.heap.size w ((w.alloc (.cells #[.slice A ps.length c] 24)).alloc (.cells #[.slice none 0 0] 24)) := ((Below.refl _ _).alloc (Nat.le_refl _) _).alloc (by simp) _
  obtain ⟨r, hr⟩ : ∃ r : Bool, r = true ↔ ¬ ∀ p ∈ ps, okPart p := by
    by_cases hh : ∀ p ∈ ps, okPart p
    · exact ⟨false, by simpa using hh⟩
    · exact ⟨true, by simpa using hh⟩
  have HN := Lib.hid (none_any A ps c ((w.alloc (.cells #[.slice A ps.length c] 24)).alloc (.cells #[.slice none 0 0] 24)) (by unfold maxLen; omega) ((h.below hb0).more (by simp; omega)) r hr)
  have X1 := Lib.hid x1
  have X2 := Lib.hid x2
  have HB0 := Lib.hid hb0
  have HL := Lib.hid h
  have HR := Lib.hid hr
  clear x1 x2 x3 hb0 h hr
  go_enter Tryz.func32, Tryz.ntmps32
  go_wp2_with (fail)
  refine HN.out.mono ?_
  rintro e w1 ⟨rfl, hb1⟩
  have hz1 : w.heap.size + 2 ≤ w1.heap.size := by have := hb1.size; simp at this; omega
  have Y1 : Hid (w1.heap[w.heap.size]? = some (.cells #[.slice A ps.length c] 24 (0, 0))) := (hb1.block _ (by simp; omega)).trans X1.out
  have Y2 : Hid (w1.heap[w.heap.size + 1]? = some (.cells #[.slice none 0 0] 24 (0, 0))) := (hb1.block _ (by simp)).trans X2.out
  have B1 : Hid (Below w.heap.size w w1) := HB0.out.trans (hb1.mono (by simp; omega))
  clear hb1 X1 X2 HB0 HN
  rcases r with _ | _
  rotate_left
  · have f5 := cell_of_one Y2.out
    have f6 := free_of_one Y2.out
    have hnf : nfA ps = [] := if_neg (HR.out.1 rfl)
    have hs : (w1.setCell ⟨w.heap.size + 1, 0, none⟩ (.slice none 0 0)).cell? ⟨w.heap.size + 1, 0, none⟩ = some (.slice none 0 0) := World.cell?_setCell_same _ _ _ f5
    have HF : Hid (LOutN w (nfA ps) (.returned (.agg #[.slice none 0 0])) (w1.setCell ⟨w.heap.size + 1, 0, none⟩ (.slice none 0 0))) := by
      rw [hnf]
      exact ⟨none, 0, rfl, ⟨rfl, fun h => by simp at h, fun _ => rfl⟩, B1.out.setCell (by show w.heap.size ≤ w.heap.size + 1; omega) _, fun a e => by cases e⟩
    clear hnf
    go_wp2
    exact bodyPost_ret (v := .agg #[.slice none 0 0]) (by simp [results, Tryz.results32, go_sem, hs]) rfl HF.out
  · have hok : ∀ p ∈ ps, okPart p := Classical.byContradiction fun hh => by have := HR.out.2 hh; cases this
    have HOK := Lib.hid hok
    have HNF : Hid (nfA ps = nf ps) := if_pos hok
    clear hok
    go_wp2
    go_loopw [3, 4] (fun lv i wr => ∃ k : Nat, k ≤ ps.length ∧ i = .int .i64 k ∧ Below w1.heap.size w1 wr ∧ wr.ownsRow w1.heap.size 47 2 lv (baseL (ps.take k)).length (cells (baseL (ps.take k)))) (fun _ i _ => ps.length - (intOf i).toNat)
    case atStart => exact ⟨0, Nat.zero_le _, rfl, Below.refl _ _, ⟨rfl, Or.inl ⟨rfl, rfl⟩⟩⟩
    case round =>
      obtain ⟨k, hk, rfl, hb, hrow⟩ := hrel
      have hbz := hb.size
      have e1 := (hb.block w.heap.size (by omega)).trans Y1.out
      have c9 := cell_of_one e1
      by_cases hlt : k < ps.length
      · obtain ⟨b, o, rfl, hbB, hcell⟩ := HL.out (by omega)
        have c0 := (hb.cell (by show b < w1.heap.size; omega)).trans ((B1.out.cell hbB).trans (hcell k hlt).1)
        have c1 := (hb.cell (by show b < w1.heap.size; omega)).trans ((B1.out.cell hbB).trans (hcell k hlt).2)
        obtain ⟨x, hx⟩ : ∃ x, x = (ps.getD k (0, 0)).1 := ⟨_, rfl⟩
        obtain ⟨y, hy⟩ : ∃ y, y = (ps.getD k (0, 0)).2 := ⟨_, rfl⟩
        have hxy : ps.getD k (0, 0) = (x, y) := by rw [hx, hy]
        have HT := Lib.hid (base_take hlt)
        have hbl := base_len (ps.take k)
        rw [List.length_take] at hbl
        rw [hxy] at HT
        rw [← hx] at c0
        rw [← hy] at c1
        obtain ⟨acc, hacc⟩ : ∃ acc, acc = baseL (ps.take k) := ⟨_, rfl⟩
        rw [← hacc] at hrow HT hbl
        obtain ⟨A1, n1, m1, rfl⟩ := own_slice hrow
        obtain ⟨rfl, hl1, hc1⟩ := own_lev hrow
        obtain ⟨hcap1, hcap2⟩ := own_cap hrow
        have HP := Lib.hid (rput_any A1 acc m1 x y wr (by unfold Few; omega) hl1 hc1 hcap1 hcap2)
        have HB := Lib.hid hb
        have ij0 : (0 : Int) ≤ (k : Int) := by omega
        have ij1 : (k : Int) < (ps.length : Int) := by omega
        have hbw : b < wr.heap.size := by omega
        clear hb hrow hl1 hc1 hcap1 hcap2 hcell hx hy hxy hacc e1
        go_wp2_with (fail)
        refine HP.out.mono ?_
        rintro e w2 ⟨v, rfl, hrow2, hb2⟩
        have HX : Hid (Below w1.heap.size w1 w2 ∧ w2.ownsRow w1.heap.size 47 2 v (baseL (ps.take (k + 1))).length (cells (baseL (ps.take (k + 1))))) := by
          rw [HT.out]
          exact ⟨HB.out.trans (hb2.mono hbz), own_base hrow2 hbz⟩
        clear hrow2 hb2
        go_wp2
        go_roundw
        case rel => exact ⟨k + 1, by omega, by go_num, HX.out.1, HX.out.2⟩
        case measure => simp [intOf]; omega
      · obtain rfl : k = ps.length := by omega
        rw [List.take_length] at hrow
        have hnfb : nf ps = stripL (baseL ps) := rfl
        have hbl := base_len ps
        obtain ⟨bs, hbs⟩ : ∃ bs, bs = baseL ps := ⟨_, rfl⟩
        rw [← hbs] at hrow hnfb hbl
        have HNF2 : Hid (nfA ps = stripL bs) := by rw [HNF.out, hnfb]; exact rfl
        have Y3 : Hid (wr.heap[w.heap.size + 1]? = some (.cells #[.slice none 0 0] 24 (0, 0))) := (hb.block _ (by omega)).trans Y2.out
        have BR : Hid (Below w.heap.size w wr) := B1.out.trans (hb.mono (by omega))
        have hwr : w.heap.size + 2 ≤ wr.heap.size := by omega
        clear hb hbs hnfb e1 HOK HNF HR HL Y1 Y2 B1
        rcases bs with _ | ⟨⟨x, y⟩, l⟩
        · -- no parts
          obtain ⟨A1, n1, m1, rfl⟩ := own_slice hrow
          have hrow2 : wr.ownsRow w1.heap.size 47 2 (.slice A1 n1 m1) ([] : List (Int × Int)).length (cells []) := hrow
          obtain ⟨hn1, hl1, hc1⟩ := own_lev hrow2
          simp at hn1
          subst hn1
          have f5 := cell_of_one Y3.out
          have f6 := free_of_one Y3.out
          have hs : (wr.setCell ⟨w.heap.size + 1, 0, none⟩ (.slice A1 0 m1)).cell? ⟨w.heap.size + 1, 0, none⟩ = some (.slice A1 0 m1) := World.cell?_setCell_same _ _ _ f5
          have HF : Hid (LOutN w (nfA ps) (.returned (.agg #[.slice A1 0 m1])) (wr.setCell ⟨w.heap.size + 1, 0, none⟩ (.slice A1 0 m1))) := by
            rw [HNF2.out]
            exact ⟨A1, m1, rfl, ⟨rfl, fun h => by simp [stripL] at h, hc1⟩, BR.out.setCell (by show w.heap.size ≤ w.heap.size + 1; omega) _, fun a e => by
              subst e
              have := (hrow.lt a.block rfl).1
              omega⟩
          clear hrow hrow2 hl1 hc1
          go_wp2
          exact bodyPost_ret (v := .agg #[.slice A1 0 m1]) (by simp [results, Tryz.results32, go_sem, hs]) rfl HF.out
        · have hnn : ((x, y) :: l).length = l.length + 1 := rfl
          rw [hnn] at hrow
          obtain ⟨n, hn⟩ : ∃ n, n = l.length + 1 := ⟨_, rfl⟩
          rw [← hn] at hrow
          obtain ⟨g, cap, hv, hg0, hgn0⟩ : ∃ g cap, u3 = .slice (some ⟨g, 0, none⟩) n cap ∧ g < wr.heap.size ∧ w.heap.size ≤ g := by
            rcases hrow.2 with ⟨_, h0⟩ | ⟨g, cap, cur, h1, h2, h3, _⟩
            · omega
            · exact ⟨g, cap, h1, (Array.getElem?_eq_some_iff.1 h3).1, by omega⟩
          subst hv
          have q0 : wr.cell? ⟨g, 0, none⟩ = some (.int .i64 x) := (hrow.cellAt 0 (by omega)).trans rfl
          have q1 : wr.cell? ⟨g, 1, none⟩ = some (.int .i64 y) := (hrow.cellAt 1 (by omega)).trans rfl
          have HQ : Hid (∀ j, j < l.length → wr.cell? ⟨g, (j + 1) * 2, none⟩ = some (.int .i64 (l.getD j (0, 0)).1) ∧ wr.cell? ⟨g, (j + 1) * 2 + 1, none⟩ = some (.int .i64 (l.getD j (0, 0)).2)) := fun j hj => by
            obtain ⟨d0, d1⟩ := cells_at ((x, y) :: l) (j + 1) (by simp; omega)
            have e : ((x, y) :: l).getD (j + 1) (0, 0) = l.getD j (0, 0) := by simp
            rw [e] at d0 d1
            exact ⟨(hrow.cellAt ((j + 1) * 2) (by omega)).trans d0, (hrow.cellAt ((j + 1) * 2 + 1) (by omega)).trans d1⟩
          have hlv : Lev wr wr.heap.size (some ⟨g, 0, none⟩) ((x, y) :: l) := by
            have h2 : wr.ownsRow w1.heap.size 47 2 (.slice (some ⟨g, 0, none⟩) n cap) ((x, y) :: l).length (cells ((x, y) :: l)) := by rw [hnn, ← hn]; exact hrow
            exact (own_lev h2).2.1
          have hcap := own_cap hrow
          have HLV := Lib.hid hlv
          have hn1 : n ≤ 900000 := by simp at hbl; omega
          obtain ⟨hcap1, hcap2⟩ := hcap
          have HNL : Hid (n = l.length + 1) := hn
          have hnp : 0 < n := by omega
          clear hrow hlv hbl hn hnn
          by_cases hx0 : x = 0
          rotate_left
          · have f5 := cell_of_one Y3.out
            have f6 := free_of_one Y3.out
            have hs : (wr.setCell ⟨w.heap.size + 1, 0, none⟩ (.slice (some ⟨g, 0, none⟩) n cap)).cell? ⟨w.heap.size + 1, 0, none⟩ = some (.slice (some ⟨g, 0, none⟩) n cap) := World.cell?_setCell_same _ _ _ f5
            have hgn : g ≠ w.heap.size + 1 := fun e => by rw [e] at q0 q1; rw [f5] at q0; cases q0
            have HF : Hid (LOutN w (nfA ps) (.returned (.agg #[.slice (some ⟨g, 0, none⟩) n cap])) (wr.setCell ⟨w.heap.size + 1, 0, none⟩ (.slice (some ⟨g, 0, none⟩) n cap))) := by
              rw [HNF2.out]
              have hst : stripL ((x, y) :: l) = (x, y) :: l := if_neg (fun hh => hx0 hh.1)
              rw [hst]
              refine ⟨some ⟨g, 0, none⟩, cap, by rw [show ((x, y) :: l).length = n from HNL.out.symm], ⟨rfl, (lev_set HLV.out hgn).more (set_size _ _ _), fun e => by cases e⟩, BR.out.setCell (by show w.heap.size ≤ w.heap.size + 1; omega) _, fun a e => by cases e; exact hgn0⟩
            have hxd : (x == 0) = false := by simpa using hx0
            have hlt0 : (0 : Int) < (n : Int) := by omega
            clear HQ HLV
            go_wp2
            exact bodyPost_ret (v := .agg #[.slice (some ⟨g, 0, none⟩) n cap]) (by simp [results, Tryz.results32, go_sem, hs]) rfl HF.out
          · subst hx0
            have hlt0 : (0 : Int) < (n : Int) := by omega
            go_wp2
            go_loopw [5, 6] (fun kp i wq => ∃ (k : Nat) (kb : Bool), 1 ≤ k ∧ k ≤ n ∧ i = .int .i64 k ∧ kp = .bool kb ∧ (kb = true ↔ KeepSo y l (k - 1)) ∧ Below wr.heap.size wr wq) (fun _ i _ => n - (intOf i).toNat)
            case atStart => exact ⟨1, decide (0 < y), Nat.le_refl _, by omega, rfl, rfl, by simp [KeepSo], Below.refl _ _⟩
            case round =>
              obtain ⟨k, kb, hk1, hk, rfl, rfl, hkb, hb⟩ := hrel
              have hbz := hb.size
              have d1 := (hb.cell hg0).trans q1
              by_cases hlt : k < n
              · obtain ⟨j, rfl⟩ : ∃ j, k = j + 1 := ⟨k - 1, by omega⟩
                have hj : j < l.length := by have := HNL.out; omega
                have d2 := (hb.cell hg0).trans (HQ.out j hj).2
                obtain ⟨z, hz⟩ : ∃ z, z = (l.getD j (0, 0)).2 := ⟨_, rfl⟩
                rw [← hz] at d2
                simp only [Nat.add_sub_cancel] at hkb
                have HKB := Lib.hid hkb
                have HB := Lib.hid hb
                have ij0 : (0 : Int) ≤ ((j : Int) + 1) := by omega
                have ij1 : ((j : Int) + 1) < (n : Int) := by omega
                have hgw : g < wr.heap.size := by omega
                have HZ := Lib.hid hz
                clear hkb hb hz
                rcases kb with _ | _
                · have HNX : Hid (false = true ↔ KeepSo y l (j + 1)) := ⟨fun h => (by cases h), fun h => by
                    have := HKB.out.2 ⟨h.1, fun i hi => h.2 i (by omega)⟩
                    cases this⟩
                  go_wp2_with (fail)
                  go_quiet (fail)
                  go_wp2
                  go_roundw
                  case rel => exact ⟨j + 1 + 1, false, by omega, by omega, by go_num, rfl, HNX.out, below_drewN HB.out _⟩
                  case measure => simp [intOf]; omega
                · have HNX : Hid (decide (z < y) = true ↔ KeepSo y l (j + 1)) := by
                    have h0 := HKB.out.1 rfl
                    refine ⟨fun hzy => ⟨h0.1, fun i hi => ?_⟩, fun h => ?_⟩
                    · rcases Nat.lt_succ_iff_lt_or_eq.1 hi with hi | rfl
                      · exact h0.2 i hi
                      · rw [← HZ.out]; simpa using hzy
                    · have := h.2 j (by omega)
                      rw [← HZ.out] at this
                      simpa using this
                  go_wp2_with (fail)
                  go_quiet (fail)
                  go_wp2
                  go_roundw
                  case rel => exact ⟨j + 1 + 1, decide (z < y), by omega, by omega, by go_num, rfl, HNX.out, below_drewN HB.out _⟩
                  case measure => simp [intOf]; omega
              · obtain rfl : k = n := by omega
                have f5 := cell_of_one ((hb.block (w.heap.size + 1) (by omega)).trans Y3.out)
                have f6 := free_of_one ((hb.block (w.heap.size + 1) (by omega)).trans Y3.out)
                have hgn : g ≠ w.heap.size + 1 := fun e => by
                  have h5 := cell_of_one Y3.out
                  rw [e] at q0
                  rw [h5] at q0
                  cases q0
                have BX : Hid (Below w.heap.size w wr) := BR.out.trans (hb.mono (by omega))
                have LX : Hid (Lev wr wr.heap.size (some ⟨g, 0, none⟩) ((0, y) :: l)) := (HLV.out.below hb).more hbz
                have HK : Hid (kb = true ↔ 0 < y ∧ ∀ q ∈ l, q.2 < y) := by
                  have e : k - 1 = l.length := by have := HNL.out; omega
                  rw [e] at hkb
                  exact hkb.trans KeepSo.all
                clear hkb hb HQ HLV BR d1 q0 q1
                rcases kb with _ | _
                · have hst : stripL ((0, y) :: l) = l := if_pos ⟨rfl, fun hh => by have := HK.out.2 hh; cases this⟩
                  have hle1 : (1 : Int) ≤ (k : Int) := by omega
                  have hle2 : (k : Int) ≤ (cap : Int) := by omega
                  have hkl : Hid (k - 1 = l.length) := by have := HNL.out; unfold Hid; omega
                  by_cases hc1 : 1 < cap
                  · have hci : (1 : Int) < (cap : Int) := by omega
                    have hs : (wr.setCell ⟨w.heap.size + 1, 0, none⟩ (.slice (some ⟨g, 2, none⟩) (k - 1) (cap - 1))).cell? ⟨w.heap.size + 1, 0, none⟩ = some (.slice (some ⟨g, 2, none⟩) (k - 1) (cap - 1)) := World.cell?_setCell_same _ _ _ f5
                    have HF : Hid (LOutN w (nfA ps) (.returned (.agg #[.slice (some ⟨g, 2, none⟩) (k - 1) (cap - 1)])) (wr.setCell ⟨w.heap.size + 1, 0, none⟩ (.slice (some ⟨g, 2, none⟩) (k - 1) (cap - 1)))) := by
                      rw [HNF2.out, hst]
                      refine ⟨some ⟨g, 2, none⟩, cap - 1, by rw [hkl.out], ⟨rfl, (lev_set (lev_tail LX.out) hgn).more (set_size _ _ _), fun e => by cases e⟩, BX.out.setCell (by show w.heap.size ≤ w.heap.size + 1; omega) _, fun a e => by cases e; exact hgn0⟩
                    clear hst LX
                    go_wp2
                    exact bodyPost_ret (v := .agg #[.slice (some ⟨g, 2, none⟩) (k - 1) (cap - 1)]) (by simp [results, Tryz.results32, go_sem, hs]) rfl HF.out
                  · obtain rfl : cap = 1 := by omega
                    obtain rfl : k = 1 := by omega
                    have hl0 : l = [] := List.eq_nil_of_length_eq_zero (by have := hkl.out; omega)
                    have hs : (wr.setCell ⟨w.heap.size + 1, 0, none⟩ (.slice (some ⟨g, 0, none⟩) 0 0)).cell? ⟨w.heap.size + 1, 0, none⟩ = some (.slice (some ⟨g, 0, none⟩) 0 0) := World.cell?_setCell_same _ _ _ f5
                    have HF : Hid (LOutN w (nfA ps) (.returned (.agg #[.slice (some ⟨g, 0, none⟩) 0 0])) (wr.setCell ⟨w.heap.size + 1, 0, none⟩ (.slice (some ⟨g, 0, none⟩) 0 0))) := by
                      rw [HNF2.out, hst, hl0]
                      exact ⟨some ⟨g, 0, none⟩, 0, rfl, ⟨rfl, fun h => by simp at h, fun _ => rfl⟩, BX.out.setCell (by show w.heap.size ≤ w.heap.size + 1; omega) _, fun a e => by cases e; exact hgn0⟩
                    clear hst LX
                    go_wp2
                    exact bodyPost_ret (v := .agg #[.slice (some ⟨g, 0, none⟩) 0 0]) (by simp [results, Tryz.results32, go_sem, hs]) rfl HF.out
                · have hst : stripL ((0, y) :: l) = (0, y) :: l := if_neg (fun hh => hh.2 (HK.out.1 rfl))
                  have hs : (wr.setCell ⟨w.heap.size + 1, 0, none⟩ (.slice (some ⟨g, 0, none⟩) k cap)).cell? ⟨w.heap.size + 1, 0, none⟩ = some (.slice (some ⟨g, 0, none⟩) k cap) := World.cell?_setCell_same _ _ _ f5
                  have HF : Hid (LOutN w (nfA ps) (.returned (.agg #[.slice (some ⟨g, 0, none⟩) k cap])) (wr.setCell ⟨w.heap.size + 1, 0, none⟩ (.slice (some ⟨g, 0, none⟩) k cap))) := by
                    rw [HNF2.out, hst]
                    refine ⟨some ⟨g, 0, none⟩, cap, by rw [show ((0, y) :: l : List (Int × Int)).length = k from HNL.out.symm], ⟨rfl, (lev_set LX.out hgn).more (set_size _ _ _), fun e => by cases e⟩, BX.out.setCell (by show w.heap.size ≤ w.heap.size + 1; omega) _, fun a e => by cases e; exact hgn0⟩
                  clear hst LX
                  go_wp2
                  exact bodyPost_ret (v := .agg #[.slice (some ⟨g, 0, none⟩) k cap]) (by simp [results, Tryz.results32, go_sem, hs]) rfl HF.out
theorem rnorm_any (A : Option Addr) (ps : List (Int × Int)) (c : Nat) (w : World) (hm : ps.length ≤ 900000) (h : Lev w w.heap.size A ps) (hc : A = none → c = 0) :
    Calls Tryz.prog 32 #[.agg #[.slice A ps.length c]] w (LOut w (nfA ps)) :=
  (rnorm_new A ps c w hm h hc).mono fun _ _ ⟨A, c, h1, h2, h3, _⟩ => ⟨A, c, h1, h2, h3⟩
end Go.Proofs.YtldalfikpklfdaaGreat
