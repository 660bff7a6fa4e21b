/- What level.Succ answers of parts that may stand in a normal form, with numbers below 2^20: the normal form of the parts' normal form, each number by 1 greater, or of 1 if there are none. -/
import Derived.Test.YtldalfikpklfdaaGreatLvMax
namespace Go.Proofs.YtldalfikpklfdaaGreat
open Go.RowKit Go.Maps

def up1 (p : Int × Int) : Int × Int := (p.1, p.2 + 1)
def bump (k : Nat) (qs : List (Int × Int)) : List (Int × Int) := (qs.take k).map up1 ++ qs.drop k
theorem bump_length (k : Nat) (qs : List (Int × Int)) : (bump k qs).length = qs.length := by
  unfold bump
  simp
  omega
theorem bump_get {k : Nat} {qs : List (Int × Int)} (hk : k < qs.length) : (bump k qs).getD k (0, 0) = qs.getD k (0, 0) := by
  unfold bump
  rw [List.getD_eq_getElem?_getD, List.getElem?_append_right (by simp; omega)]
  simp [List.getD_eq_getElem?_getD, Nat.min_eq_left (Nat.le_of_lt hk)]
theorem bump_set {k : Nat} {qs : List (Int × Int)} (hk : k < qs.length) : (cells (bump k qs)).set (k * 2 + 1) (.int .i64 ((qs.getD k (0, 0)).2 + 1)) = cells (bump (k + 1) qs) := by
  have hd : qs.drop k = qs[k] :: qs.drop (k + 1) := List.drop_eq_getElem_cons hk
  have hg : qs.getD k (0, 0) = qs[k] := by rw [List.getD_eq_getElem?_getD, List.getElem?_eq_getElem hk]; rfl
  unfold bump
  rw [hd, hg, List.take_succ_eq_append_getElem hk, List.map_append, cells_append, cells_append, cells_append]
  have hl : (cells ((qs.take k).map up1)).length = k * 2 := by rw [cells_length]; simp; omega
  rw [List.set_append_right _ _ (by omega), hl]
  rw [show k * 2 + 1 - k * 2 = 1 from by omega, List.append_assoc]
  rfl
theorem bump_all (qs : List (Int × Int)) : bump qs.length qs = qs.map up1 := by simp [bump]

def succS (ps : List (Int × Int)) : List (Int × Int) := if nf ps = [] then nf [(0, 1)] else nf ((nf ps).map up1)
def okUp (p : Int × Int) : Prop := okPart p ∧ p.2 < 1048576
theorem okUp.up {p : Int × Int} (h : okUp p) : okPart (up1 p) := by
  obtain ⟨⟨h1, h2, h3, h4⟩, h5⟩ := h
  unfold okPart up1
  simp only
  omega
theorem nf_mem {ps : List (Int × Int)} (h0 : ∀ p ∈ ps, 0 ≤ p.1) {p : Int × Int} (h : p ∈ nf ps) : p ∈ ps := mapOf_mem ps p.1 p.2 (((nf_level h0).2 p).1 h).1
theorem nf_len {ps : List (Int × Int)} (h0 : ∀ p ∈ ps, 0 ≤ p.1) : (nf ps).length ≤ ps.length := level_len (nf_level h0)

set_option maxRecDepth 100000 in
set_option maxHeartbeats 2000000 in
theorem succ_any (A : Option Addr) (ps : List (Int × Int)) (c : Nat) (w : World) (hm : Few ps.length) (h : Lev w w.heap.size A ps) (hc : A = none → c = 0) (hok : ∀ p ∈ ps, okUp p) :
    Calls Tryz.prog 9 #[.agg #[.slice A ps.length c]] w (LvlPost w (succS ps)) := by
  have hfd := field_parts
  have h0 : ∀ p ∈ ps, 0 ≤ p.1 := fun p hp => (hok p hp).1.1
  obtain ⟨x1, x2, x3⟩ := two_allocs w (.cells #[.slice A ps.length c] 24) (.cells #[.slice none 0 0] 24)
  have hb0 : Below w.heap.size w ((w.alloc (.cells #[.slice A ps.length c] 24)).alloc (.cells #[.slice none 0 0] 24)) := ((Below.refl _ _).alloc (Nat.le_refl _) _).alloc (by simp) _
  have HG := Lib.hid (gather_nf A ps c ((w.alloc (.cells #[.slice A ps.length c] 24)).alloc (.cells #[.slice none 0 0] 24)) hm ((h.below hb0).more (by simp; omega)) hc (fun p hp => (hok p hp).1))
  have X2 := Lib.hid x2
  have HB0 := Lib.hid hb0
  have HLN : Hid ((nf ps).length ≤ 1000000) := by have := nf_len h0; unfold Few at hm; unfold Hid; omega
  have HO : Hid (∀ p ∈ nf ps, okUp p) := fun p hp => hok p (nf_mem h0 hp)
  obtain ⟨qs, hqs⟩ : ∃ qs, qs = nf ps := ⟨_, rfl⟩
  have HS : Hid (succS ps = if qs = [] then nf [(0, 1)] else nf (qs.map up1)) := by rw [hqs]; rfl
  rw [← hqs] at HG HLN HO
  clear x1 x2 x3 hb0 h hc hok h0 hqs
  go_enter Tryz.func9, Tryz.ntmps9
  go_wp2_with (fail)
  refine HG.out.mono ?_
  rintro e w1 ⟨v1, rfl, hrow1, hb1⟩
  have hz1 : w.heap.size + 2 ≤ w1.heap.size := by have := hb1.size; simp at this; omega
  have X3 : Hid (w1.heap[w.heap.size + 1]? = some (.cells #[.slice none 0 0] 24 (0, 0))) := (hb1.block _ (by simp)).trans X2.out
  have HB1 : Hid (Below w.heap.size w w1) := HB0.out.trans (hb1.mono (by simp; omega))
  have hrow : w1.ownsRow (w.heap.size + 2) 47 2 v1 qs.length (cells qs) := own_base hrow1 (by simp)
  clear hrow1 hb1
  rcases Nat.eq_zero_or_pos qs.length with hq0 | hq0
  · obtain rfl := List.eq_nil_of_length_eq_zero hq0
    obtain ⟨A1, n1, m1, rfl⟩ := own_slice hrow
    obtain ⟨rfl, _, _⟩ := own_lev hrow
    have HN := Lib.hid (num_any 1 w1 (by omega))
    have HS2 : Hid (succS ps = nf [(0, 1)]) := by rw [HS.out, if_pos rfl]; exact rfl
    clear hq0 hrow
    go_wp2_with (fail)
    refine HN.out.mono ?_
    rintro e w2 ⟨v, rfl, hrow2, hb2⟩
    obtain ⟨A2, n2, m2, rfl⟩ := own_slice hrow2
    have hr := (hb2.block (w.heap.size + 1) (by omega)).trans X3.out
    have f5 := cell_of_one hr
    have f6 := free_of_one hr
    have HFIN : Hid (LvlPost w (succS ps) (.returned (.agg #[.slice A2 n2 m2])) (w2.setCell ⟨w.heap.size + 1, 0, none⟩ (.slice A2 n2 m2))) := by
      rw [HS2.out]
      exact ⟨_, rfl, own_base (ownsRow_setCell_below hrow2 (by show w.heap.size + 1 < w1.heap.size; omega) _) (by omega), (HB1.out.trans (hb2.mono (by omega))).setCell (by show w.heap.size ≤ w.heap.size + 1; omega) _⟩
    clear hr hrow2 hb2
    go_wp2
    exact bodyPost_ret (v := .agg #[.slice A2 n2 m2]) (by simp [results, Tryz.results9, go_sem, f5]) rfl HFIN.out
  · obtain ⟨g, cap, hv⟩ : ∃ g cap, v1 = .slice (some ⟨g, 0, none⟩) qs.length cap := by
      rcases hrow.2 with ⟨_, h0⟩ | ⟨g, cap, cur, h1, _⟩
      · omega
      · exact ⟨g, cap, h1⟩
    subst hv
    have HROW : Hid (w1.ownsRow (w.heap.size + 2) 47 2 (.slice (some ⟨g, 0, none⟩) qs.length cap) qs.length (cells (bump 0 qs))) := by unfold Hid; simpa [bump] using hrow
    have hgl : g < w1.heap.size ∧ w.heap.size + 2 ≤ g := by
      have := hrow.lt g rfl
      omega
    obtain ⟨hg1, hg2⟩ := hgl
    have hln := HLN.out
    have HS2 : Hid (succS ps = nf (qs.map up1)) := by rw [HS.out, if_neg (fun e => by rw [e] at hq0; simp at hq0)]; exact rfl
    have ne0 : ((qs.length : Int) == 0) = false := by simp; intro e; rw [e] at hq0; simp at hq0
    clear hrow
    go_wp2
    go_loopw [15] (fun i wr => ∃ k : Nat, k ≤ qs.length ∧ i = .int .i64 k ∧ Below (w.heap.size + 2) w1 wr ∧ wr.ownsRow (w.heap.size + 2) 47 2 (.slice (some ⟨g, 0, none⟩) qs.length cap) qs.length (cells (bump k qs))) (fun i _ => qs.length - (intOf i).toNat)
    case atStart => exact ⟨0, Nat.zero_le _, rfl, Below.refl _ _, HROW.out⟩
    case round =>
      obtain ⟨k, hk, rfl, hb, hrow⟩ := hrel
      have hbz := hb.size
      by_cases hlt : k < qs.length
      · obtain ⟨_, d1⟩ := cells_at (bump k qs) k (by rw [bump_length]; exact hlt)
        rw [bump_get hlt] at d1
        have c1 := (hrow.cellAt (k * 2 + 1) (by omega)).trans d1
        have fr := hrow.frozenAt (k * 2 + 1)
        have hok := (HO.out (qs.getD k (0, 0)) (by rw [List.getD_eq_getElem?_getD, List.getElem?_eq_getElem hlt]; exact List.getElem_mem hlt))
        obtain ⟨ho1, ho2⟩ := hrow.stored (k * 2 + 1) (.int .i64 ((qs.getD k (0, 0)).2 + 1))
        rw [bump_set hlt] at ho1
        obtain ⟨y, hy⟩ : ∃ y, y = (qs.getD k (0, 0)).2 := ⟨_, rfl⟩
        rw [← hy] at c1 ho1 ho2
        have hy0 : 0 ≤ y ∧ y < 1048576 := by rw [hy]; exact ⟨hok.1.2.1, hok.2⟩
        obtain ⟨y0, y1⟩ := hy0
        have HN : Hid (Below (w.heap.size + 2) w1 (wr.setCell ⟨g, k * 2 + 1, none⟩ (.int .i64 (y + 1))) ∧ (wr.setCell ⟨g, k * 2 + 1, none⟩ (.int .i64 (y + 1))).ownsRow (w.heap.size + 2) 47 2 (.slice (some ⟨g, 0, none⟩) qs.length cap) qs.length (cells (bump (k + 1) qs))) := ⟨hb.setCell hg2 _, ho1⟩
        have ws : IntKind.i64.wrap (y + 1) = y + 1 := IntWalk.i64_in _ (by omega)
        have ij0 : (0 : Int) ≤ (k : Int) := by omega
        have ij1 : (k : Int) < (qs.length : Int) := by omega
        have hgw : g < wr.heap.size := by omega
        clear hrow ho1 ho2 hok hy hb d1
        go_wp2
        go_roundw
        case rel => exact ⟨k + 1, by omega, by go_num, HN.out.1, HN.out.2⟩
        case measure => simp [intOf]; omega
      · obtain rfl : k = qs.length := by omega
        rw [bump_all] at hrow
        have hlm : (qs.map up1).length = qs.length := by simp
        rw [← hlm] at hrow
        obtain ⟨us, hus⟩ : ∃ us, us = qs.map up1 := ⟨_, rfl⟩
        rw [← hus] at hrow hlm
        have hlm2 : Hid (us.length = qs.length) := hlm
        have HOU : Hid (∀ p ∈ us, okPart p) := fun p hp => by
          rw [hus, List.mem_map] at hp
          obtain ⟨q, hq, rfl⟩ := hp
          exact (HO.out q hq).up
        have HS3 : Hid (succS ps = nf us) := by rw [HS2.out, hus]; exact rfl
        obtain ⟨_, hl1, hc1⟩ := own_lev hrow
        have HG2 := Lib.hid (gather_nf (some ⟨g, 0, none⟩) us cap wr (by unfold Few; omega) hl1 hc1 HOU.out)
        have X4 : Hid (wr.heap[w.heap.size + 1]? = some (.cells #[.slice none 0 0] 24 (0, 0))) := (hb.block _ (by omega)).trans X3.out
        have HBB : Hid (Below w.heap.size w wr) := HB1.out.trans (hb.mono (by omega))
        rw [hlm] at HG2
        clear hrow hl1 hc1 hb hus hlm
        go_wp2_with (fail)
        refine HG2.out.mono ?_
        rintro e w2 ⟨v, rfl, hrow2, hb2⟩
        obtain ⟨A2, n2, m2, rfl⟩ := own_slice hrow2
        have hr := (hb2.block (w.heap.size + 1) (by omega)).trans X4.out
        have f5 := cell_of_one hr
        have f6 := free_of_one hr
        have HFIN : Hid (LvlPost w (succS ps) (.returned (.agg #[.slice A2 n2 m2])) (w2.setCell ⟨w.heap.size + 1, 0, none⟩ (.slice A2 n2 m2))) := by
          rw [HS3.out]
          exact ⟨_, rfl, own_base (ownsRow_setCell_below hrow2 (by show w.heap.size + 1 < wr.heap.size; omega) _) (by omega), (HBB.out.trans (hb2.mono (by omega))).setCell (by show w.heap.size ≤ w.heap.size + 1; omega) _⟩
        clear hr hrow2 hb2
        go_wp2
        exact bodyPost_ret (v := .agg #[.slice A2 n2 m2]) (by simp [results, Tryz.results9, go_sem, f5]) rfl HFIN.out

end Go.Proofs.YtldalfikpklfdaaGreat
