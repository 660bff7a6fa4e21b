/- The contracts of level.Same, Value, Succ for ANY parts. -/
import Derived.Test.YtldalfikpklfdaaGreatLvAll
namespace Go.Proofs.YtldalfikpklfdaaGreat
open Go.RowKit Go.Maps

/-- level.Same of any parts. -/
def SameA (pa pb : List (Int × Int)) : Prop := pa = pb ∨ (LeqL (nfA pa) (nfA pb) ∧ LeqL (nfA pb) (nfA pa))
set_option maxRecDepth 100000 in
set_option maxHeartbeats 2000000 in
theorem lsame_all (A A' : Option Addr) (pa pb : List (Int × Int)) (c c' : Nat) (w : World) (hma : Few pa.length) (hmb : Few pb.length) (ha : Lev w w.heap.size A pa) (hb : Lev w w.heap.size A' pb) (hca : A = none → c = 0) (hcb : A' = none → c' = 0) (r : Bool) (hr : r = true ↔ SameA pa pb) :
    Calls Tryz.prog 27 #[.agg #[.slice A pa.length c], .agg #[.slice A' pb.length c']] w (HasPost w r) := by
  obtain ⟨x1, x2, x3⟩ := two_allocs w (.cells #[.slice A pa.length c] 24) (.cells #[.slice A' pb.length c'] 24)
  have hb0 : Below w.heap.size w ((w.alloc (.cells #[.slice A pa.length c] 24)).alloc (.cells #[.slice A' pb.length c'] 24)) := ((Below.refl _ _).alloc (Nat.le_refl _) _).alloc (by simp) _
  have hla : pa.length ≤ maxLen := by unfold Few at hma; unfold maxLen; omega
  have hlb : pb.length ≤ maxLen := by unfold Few at hmb; unfold maxLen; omega
  have H12 := Lib.hid (fun W (hW : Below w.heap.size w W) (r : Bool) (hr : r = true ↔ LeqL (nfA pa) (nfA pb)) => leq_all A A' pa pb c c' W hma hmb ((ha.below hW).more hW.size) ((hb.below hW).more hW.size) hca hcb r hr)
  have H21 := Lib.hid (fun W (hW : Below w.heap.size w W) (r : Bool) (hr : r = true ↔ LeqL (nfA pb) (nfA pa)) => leq_all A' A pb pa c' c W hmb hma ((hb.below hW).more hW.size) ((ha.below hW).more hW.size) hcb hca r hr)
  have HR := Lib.hid hr
  have HB := Lib.hid hb0
  have X1 := Lib.hid x1
  have X2 := Lib.hid x2
  by_cases t : pa = pb
  · have HE := Lib.hid (equal_any A A' pa pb c c' _ hla hlb ((ha.below hb0).more hb0.size) ((hb.below hb0).more hb0.size) true (by simpa using t))
    have hrt : r = true := hr.2 (Or.inl t)
    subst hrt
    clear hma hmb ha hb hca hcb hr hla hlb hb0 x1 x2 x3 t
    go_enter Tryz.func27, Tryz.ntmps27
    go_wp2_with (fail)
    refine HE.out.mono ?_
    rintro e w1 ⟨rfl, hb1⟩
    have HF : Hid (HasPost w true (.returned (.bool true)) w1) := ⟨rfl, HB.out.trans (hb1.mono HB.out.size)⟩
    clear hb1
    go_wp2
    go_ret
    exact HF.out
  · have HE := Lib.hid (equal_any A A' pa pb c c' _ hla hlb ((ha.below hb0).more hb0.size) ((hb.below hb0).more hb0.size) false (by simpa using t))
    have HT := Lib.hid t
    clear hma hmb ha hb hca hcb hr hla hlb hb0 x1 x2 x3 t
    by_cases t1 : LeqL (nfA pa) (nfA pb)
    · by_cases t2 : LeqL (nfA pb) (nfA pa)
      · have HRT : Hid (r = true) := HR.out.2 (Or.inr ⟨t1, t2⟩)
        have T1 := Lib.hid t1
        have T2 := Lib.hid t2
        clear t1 t2
        go_enter Tryz.func27, Tryz.ntmps27
        go_wp2_with (fail)
        refine HE.out.mono ?_
        rintro e w1 ⟨rfl, hb1⟩
        have e1 : Below w.heap.size w w1 := HB.out.trans (hb1.mono HB.out.size)
        have e2 := (hb1.block w.heap.size (by simp; omega)).trans X1.out
        have e3 := (hb1.block (w.heap.size + 1) (by simp)).trans X2.out
        have f1 := cell_of_one e2
        have f2 := cell_of_one e3
        have hz1 : w.heap.size + 2 ≤ w1.heap.size := by have := hb1.size; simp at this; omega
        have HL1 := Lib.hid (H12.out w1 e1 true (by simpa using T1.out))
        have E1 := Lib.hid e1
        have E2 := Lib.hid e2
        have E3 := Lib.hid e3
        clear hb1 e1 e2 e3
        go_wp2_with (fail)
        refine HL1.out.mono ?_
        rintro e w2 ⟨rfl, hb2⟩
        have e1 : Below w.heap.size w w2 := E1.out.trans (hb2.mono (by omega))
        have g1 := cell_of_one ((hb2.block w.heap.size (by omega)).trans E2.out)
        have g2 := cell_of_one ((hb2.block (w.heap.size + 1) (by omega)).trans E3.out)
        have HL2 := Lib.hid (H21.out w2 e1 true (by simpa using T2.out))
        have E4 := Lib.hid e1
        clear hb2 e1 f1 f2
        go_wp2_with (fail)
        refine HL2.out.mono ?_
        rintro e w3 ⟨rfl, hb3⟩
        have HF : Hid (HasPost w r (.returned (.bool true)) w3) := ⟨by rw [HRT.out], E4.out.trans (hb3.mono E4.out.size)⟩
        clear hb3
        go_wp2
        go_ret
        exact HF.out
      · have HRT : Hid (r = false) := by
          rcases r with _ | _
          · rfl
          · rcases HR.out.1 rfl with e | e
            · exact absurd e HT.out
            · exact absurd e.2 t2
        have T1 := Lib.hid t1
        have T2 := Lib.hid t2
        clear t1 t2
        go_enter Tryz.func27, Tryz.ntmps27
        go_wp2_with (fail)
        refine HE.out.mono ?_
        rintro e w1 ⟨rfl, hb1⟩
        have e1 : Below w.heap.size w w1 := HB.out.trans (hb1.mono HB.out.size)
        have e2 := (hb1.block w.heap.size (by simp; omega)).trans X1.out
        have e3 := (hb1.block (w.heap.size + 1) (by simp)).trans X2.out
        have f1 := cell_of_one e2
        have f2 := cell_of_one e3
        have hz1 : w.heap.size + 2 ≤ w1.heap.size := by have := hb1.size; simp at this; omega
        have HL1 := Lib.hid (H12.out w1 e1 true (by simpa using T1.out))
        have E1 := Lib.hid e1
        have E2 := Lib.hid e2
        have E3 := Lib.hid e3
        clear hb1 e1 e2 e3
        go_wp2_with (fail)
        refine HL1.out.mono ?_
        rintro e w2 ⟨rfl, hb2⟩
        have e1 : Below w.heap.size w w2 := E1.out.trans (hb2.mono (by omega))
        have g1 := cell_of_one ((hb2.block w.heap.size (by omega)).trans E2.out)
        have g2 := cell_of_one ((hb2.block (w.heap.size + 1) (by omega)).trans E3.out)
        have HL2 := Lib.hid (H21.out w2 e1 false (by simpa using T2.out))
        have E4 := Lib.hid e1
        clear hb2 e1 f1 f2
        go_wp2_with (fail)
        refine HL2.out.mono ?_
        rintro e w3 ⟨rfl, hb3⟩
        have HF : Hid (HasPost w r (.returned (.bool false)) w3) := ⟨by rw [HRT.out], E4.out.trans (hb3.mono E4.out.size)⟩
        clear hb3
        go_wp2
        go_ret
        exact HF.out
    · have HRT : Hid (r = false) := by
        rcases r with _ | _
        · rfl
        · rcases HR.out.1 rfl with e | e
          · exact absurd e HT.out
          · exact absurd e.1 t1
      have T1 := Lib.hid t1
      clear t1
      go_enter Tryz.func27, Tryz.ntmps27
      go_wp2_with (fail)
      refine HE.out.mono ?_
      rintro e w1 ⟨rfl, hb1⟩
      have e1 : Below w.heap.size w w1 := HB.out.trans (hb1.mono HB.out.size)
      have e2 := (hb1.block w.heap.size (by simp; omega)).trans X1.out
      have e3 := (hb1.block (w.heap.size + 1) (by simp)).trans X2.out
      have f1 := cell_of_one e2
      have f2 := cell_of_one e3
      have HL1 := Lib.hid (H12.out w1 e1 false (by simpa using T1.out))
      have E1 := Lib.hid e1
      clear hb1 e1 e2 e3
      go_wp2_with (fail)
      refine HL1.out.mono ?_
      rintro e w2 ⟨rfl, hb2⟩
      have HF : Hid (HasPost w r (.returned (.bool false)) w2) := ⟨by rw [HRT.out], E1.out.trans (hb2.mono E1.out.size)⟩
      clear hb2
      go_wp2
      go_ret
      exact HF.out

theorem valSo_eq {qs : List (Int × Int)} {ns : List Int} {u : Int} (h : ValSo qs ns u) : u = valF qs (numS ns) := by
  obtain ⟨h0, _, h2, h3⟩ := h
  apply Int.le_antisymm
  · rcases h3 with rfl | ⟨p, hp, rfl⟩
    · exact valF_nn _ _
    · exact le_valF (f := numS ns) hp
  · exact valF_le h0 h2
set_option maxRecDepth 100000 in
set_option maxHeartbeats 2000000 in
theorem value_all (A A' : Option Addr) (ps : List (Int × Int)) (ns : List Int) (c c' : Nat) (w : World) (hmp : Few ps.length) (hmn : ns.length ≤ maxLen) (ha : Lev w w.heap.size A ps) (hn : Ints w w.heap.size A' ns) (hca : A = none → c = 0) :
    Calls Tryz.prog 19 #[.agg #[.slice A ps.length c], .slice A' ns.length c'] w (NumPost w (valF (nfA ps) (numS ns))) := by
  have hfd := field_parts
  have hb0 : Below w.heap.size w (w.alloc (.cells #[.slice A ps.length c] 24)) := (Below.refl _ _).alloc (Nat.le_refl _) _
  have HG1 := Lib.hid (gather_any A ps c (w.alloc (.cells #[.slice A ps.length c] 24)) hmp ((ha.below hb0).more (by simp)) hca)
  have HB0 := Lib.hid hb0
  have HN := Lib.hid hn
  have HMN := Lib.hid hmn
  have HMP := Lib.hid hmp
  have hn1 := nfA_len ps
  have hk1 := nfA_ok ps
  obtain ⟨q1, hq1⟩ : ∃ q1, nfA ps = q1 := ⟨_, rfl⟩
  rw [hq1] at hn1 hk1 HG1 ⊢
  have HN1 := Lib.hid hn1
  have HK1 := Lib.hid hk1
  clear hb0 ha hca hmp hn hmn hn1 hk1 hq1
  go_enter Tryz.func19, Tryz.ntmps19
  go_wp2_with (fail)
  refine HG1.out.mono ?_
  rintro e w1 ⟨v1, rfl, hrow1, hb1⟩
  obtain ⟨A1, n1, m1, rfl⟩ := own_slice hrow1
  obtain ⟨rfl, hl1, hc1⟩ := own_lev hrow1
  have E2 : Hid (Below w.heap.size w w1) := HB0.out.trans (hb1.mono (by simp))
  have hz1 : w.heap.size + 1 ≤ w1.heap.size := by have := hb1.size; simp at this; omega
  have HL1 := Lib.hid hl1
  have hln1 : q1.length ≤ 9223372036854775807 := by have := HN1.out; have := HMP.out; unfold Few at this; omega
  clear hl1 hc1 hrow1 hb1
  go_wp2
  go_loopw [5, 13] (fun x i wr => ∃ (k : Nat) (u : Int), k ≤ q1.length ∧ i = .int .i64 k ∧ x = .int .i64 u ∧ Below w1.heap.size w1 wr ∧ ValSo (q1.take k) ns u) (fun _ i _ => q1.length - (intOf i).toNat)
  case atStart => exact ⟨0, 0, Nat.zero_le _, rfl, rfl, Below.refl _ _, ⟨by omega, by omega, fun p hp => by simp at hp, Or.inl rfl⟩⟩
  case round =>
    obtain ⟨k, u, hk, rfl, rfl, hb, hs⟩ := hrel
    have hbz := hb.size
    by_cases hlt : k < q1.length
    · obtain ⟨b, o, rfl, hbB, hcell⟩ := HL1.out (by omega)
      have c0 := (hb.cell hbB).trans (hcell k hlt).1
      have c1 := (hb.cell hbB).trans (hcell k hlt).2
      have hin : q1.getD k (0, 0) ∈ q1 := by rw [List.getD_eq_getElem?_getD, List.getElem?_eq_getElem hlt]; exact List.getElem_mem hlt
      have hok := HK1.out _ hin
      obtain ⟨x, hx⟩ : ∃ x, x = (q1.getD k (0, 0)).1 := ⟨_, rfl⟩
      obtain ⟨y, hy⟩ : ∃ y, y = (q1.getD k (0, 0)).2 := ⟨_, rfl⟩
      unfold okPart at hok
      rw [← hx, ← hy] at hok
      rw [← hx] at c0
      rw [← hy] at c1
      have hq : q1[k] = (x, y) := by rw [hx, hy, List.getD_eq_getElem?_getD, List.getElem?_eq_getElem hlt]; rfl
      obtain ⟨k0, k1, k2, k3⟩ := hok
      have hbw : b < wr.heap.size := by omega
      have hu0 := hs.1
      have hu1 := hs.2.1
      have hnb := numS_bd ns x
      obtain ⟨z, hz⟩ : ∃ z, z = numS ns x := ⟨_, rfl⟩
      have HNUM : Hid (∀ W, Below w1.heap.size w1 W → Calls Tryz.prog 44 #[.slice A' ns.length c', .int .i64 x] W fun e w' => e = .returned (.int .i64 z) ∧ W = w') := fun W hW => by
        rw [hz]; exact number_any A' ns c' x W w.heap.size (HN.out.below (E2.out.trans (hW.mono E2.out.size))) HMN.out ⟨k0, k2⟩
      rw [← hz] at hnb
      have HST : Hid (ValSo (q1.take (k + 1)) ns (max u (z + y))) := by
        rw [Hid, List.take_succ_eq_append_getElem hlt, hq, hz]
        exact hs.step (p := (x, y)) ⟨k1, k3⟩
      have HBB := Lib.hid hb
      obtain ⟨z0, z1⟩ := hnb
      have ws : IntKind.i64.wrap (z + y) = z + y := IntWalk.i64_in _ (by omega)
      have zy : 0 ≤ z + y := by omega
      clear hs hq hx hy hz hcell hin hb
      go_wp2
      go_quiet ((go_at_call 44; exact quiet_of_eq (HNUM.out _ (below_drewN (HBB.out.alloc hbz _) _))))
      go_wp2
      go_roundw
      case rel => exact ⟨k + 1, _, by omega, by go_num, rfl, below_drewN (HBB.out.alloc hbz _) _, HST.out⟩
      case measure => simp [intOf]; omega
    · obtain rfl : k = q1.length := by omega
      have HF : Hid (NumPost w (valF q1 (numS ns)) (.returned (.int .i64 u)) wr) := ⟨by rw [← valSo_eq (by simpa using hs)], E2.out.trans (hb.mono E2.out.size)⟩
      clear hs hb
      go_wp2
      go_ret
      exact HF.out

/-- What Succ makes of any parts. -/
def succA (ps : List (Int × Int)) : List (Int × Int) := if nfA ps = [] then nfA [(0, 1)] else nfA ((nfA ps).map up1)
set_option maxRecDepth 100000 in
set_option maxHeartbeats 2000000 in
theorem succ_all (A : Option Addr) (ps : List (Int × Int)) (c : Nat) (w : World) (hm : Few ps.length) (h : Lev w w.heap.size A ps) (hc : A = none → c = 0) :
    Calls Tryz.prog 9 #[.agg #[.slice A ps.length c]] w (LvlPost w (succA ps)) := by
  have hfd := field_parts
  obtain ⟨x1, x2, x3⟩ := two_allocs w (.cells #[.slice A ps.length c] 24) (.cells #[.slice none 0 0] 24)
  have hb0 : Below w.heap.size w ((w.alloc (.cells #[.slice A ps.length c] 24)).alloc (.cells #[.slice none 0 0] 24)) := ((Below.refl _ _).alloc (Nat.le_refl _) _).alloc (by simp) _
  have HG := Lib.hid (gather_any A ps c ((w.alloc (.cells #[.slice A ps.length c] 24)).alloc (.cells #[.slice none 0 0] 24)) hm ((h.below hb0).more (by simp; omega)) hc)
  have X2 := Lib.hid x2
  have HB0 := Lib.hid hb0
  have HLN : Hid ((nfA ps).length ≤ 1000000) := by have := nfA_len ps; unfold Few at hm; unfold Hid; omega
  have HO : Hid (∀ p ∈ nfA ps, okPart p) := nfA_ok ps
  obtain ⟨qs, hqs⟩ : ∃ qs, qs = nfA ps := ⟨_, rfl⟩
  have HS : Hid (succA ps = if qs = [] then nfA [(0, 1)] else nfA (qs.map up1)) := by rw [hqs]; rfl
  rw [← hqs] at HG HLN HO
  clear x1 x2 x3 hb0 h hc hqs
  go_enter Tryz.func9, Tryz.ntmps9
  go_wp2_with (fail)
  refine HG.out.mono ?_
  rintro e w1 ⟨v1, rfl, hrow1, hb1⟩
  have hz1 : w.heap.size + 2 ≤ w1.heap.size := by have := hb1.size; simp at this; omega
  have X3 : Hid (w1.heap[w.heap.size + 1]? = some (.cells #[.slice none 0 0] 24 (0, 0))) := (hb1.block _ (by simp)).trans X2.out
  have HB1 : Hid (Below w.heap.size w w1) := HB0.out.trans (hb1.mono (by simp; omega))
  have hrow : w1.ownsRow (w.heap.size + 2) 47 2 v1 qs.length (cells qs) := own_base hrow1 (by simp)
  clear hrow1 hb1
  rcases Nat.eq_zero_or_pos qs.length with hq0 | hq0
  · obtain rfl := List.eq_nil_of_length_eq_zero hq0
    obtain ⟨A1, n1, m1, rfl⟩ := own_slice hrow
    obtain ⟨rfl, _, _⟩ := own_lev hrow
    have HN := Lib.hid (num_all 1 w1)
    have HS2 : Hid (succA ps = nfA [(0, 1)]) := by rw [HS.out, if_pos rfl]; exact rfl
    clear hq0 hrow
    go_wp2_with (fail)
    refine HN.out.mono ?_
    rintro e w2 ⟨v, rfl, hrow2, hb2⟩
    obtain ⟨A2, n2, m2, rfl⟩ := own_slice hrow2
    have hr := (hb2.block (w.heap.size + 1) (by omega)).trans X3.out
    have f5 := cell_of_one hr
    have f6 := free_of_one hr
    have HFIN : Hid (LvlPost w (succA ps) (.returned (.agg #[.slice A2 n2 m2])) (w2.setCell ⟨w.heap.size + 1, 0, none⟩ (.slice A2 n2 m2))) := by
      rw [HS2.out]
      exact ⟨_, rfl, own_base (ownsRow_setCell_below hrow2 (by show w.heap.size + 1 < w1.heap.size; omega) _) (by omega), (HB1.out.trans (hb2.mono (by omega))).setCell (by show w.heap.size ≤ w.heap.size + 1; omega) _⟩
    clear hr hrow2 hb2
    go_wp2
    exact bodyPost_ret (v := .agg #[.slice A2 n2 m2]) (by simp [results, Tryz.results9, go_sem, f5]) rfl HFIN.out
  · obtain ⟨g, cap, hv⟩ : ∃ g cap, v1 = .slice (some ⟨g, 0, none⟩) qs.length cap := by
      rcases hrow.2 with ⟨_, h0⟩ | ⟨g, cap, cur, h1, _⟩
      · omega
      · exact ⟨g, cap, h1⟩
    subst hv
    have HROW : Hid (w1.ownsRow (w.heap.size + 2) 47 2 (.slice (some ⟨g, 0, none⟩) qs.length cap) qs.length (cells (bump 0 qs))) := by unfold Hid; simpa [bump] using hrow
    have hgl : g < w1.heap.size ∧ w.heap.size + 2 ≤ g := by
      have := hrow.lt g rfl
      omega
    obtain ⟨hg1, hg2⟩ := hgl
    have hln := HLN.out
    have HS2 : Hid (succA ps = nfA (qs.map up1)) := by rw [HS.out, if_neg (fun e => by rw [e] at hq0; simp at hq0)]; exact rfl
    have ne0 : ((qs.length : Int) == 0) = false := by simp; intro e; rw [e] at hq0; simp at hq0
    clear hrow
    go_wp2
    go_loopw [15] (fun i wr => ∃ k : Nat, k ≤ qs.length ∧ i = .int .i64 k ∧ Below (w.heap.size + 2) w1 wr ∧ wr.ownsRow (w.heap.size + 2) 47 2 (.slice (some ⟨g, 0, none⟩) qs.length cap) qs.length (cells (bump k qs))) (fun i _ => qs.length - (intOf i).toNat)
    case atStart => exact ⟨0, Nat.zero_le _, rfl, Below.refl _ _, HROW.out⟩
    case round =>
      obtain ⟨k, hk, rfl, hb, hrow⟩ := hrel
      have hbz := hb.size
      by_cases hlt : k < qs.length
      · obtain ⟨_, d1⟩ := cells_at (bump k qs) k (by rw [bump_length]; exact hlt)
        rw [bump_get hlt] at d1
        have c1 := (hrow.cellAt (k * 2 + 1) (by omega)).trans d1
        have fr := hrow.frozenAt (k * 2 + 1)
        have hok := (HO.out (qs.getD k (0, 0)) (by rw [List.getD_eq_getElem?_getD, List.getElem?_eq_getElem hlt]; exact List.getElem_mem hlt))
        obtain ⟨ho1, ho2⟩ := hrow.stored (k * 2 + 1) (.int .i64 ((qs.getD k (0, 0)).2 + 1))
        rw [bump_set hlt] at ho1
        obtain ⟨y, hy⟩ : ∃ y, y = (qs.getD k (0, 0)).2 := ⟨_, rfl⟩
        rw [← hy] at c1 ho1 ho2
        have hy0 : 0 ≤ y ∧ y ≤ 1048576 := by rw [hy]; exact ⟨hok.2.1, hok.2.2.2⟩
        obtain ⟨y0, y1⟩ := hy0
        have HN : Hid (Below (w.heap.size + 2) w1 (wr.setCell ⟨g, k * 2 + 1, none⟩ (.int .i64 (y + 1))) ∧ (wr.setCell ⟨g, k * 2 + 1, none⟩ (.int .i64 (y + 1))).ownsRow (w.heap.size + 2) 47 2 (.slice (some ⟨g, 0, none⟩) qs.length cap) qs.length (cells (bump (k + 1) qs))) := ⟨hb.setCell hg2 _, ho1⟩
        have ws : IntKind.i64.wrap (y + 1) = y + 1 := IntWalk.i64_in _ (by omega)
        have ij0 : (0 : Int) ≤ (k : Int) := by omega
        have ij1 : (k : Int) < (qs.length : Int) := by omega
        have hgw : g < wr.heap.size := by omega
        clear hrow ho1 ho2 hok hy hb d1
        go_wp2
        go_roundw
        case rel => exact ⟨k + 1, by omega, by go_num, HN.out.1, HN.out.2⟩
        case measure => simp [intOf]; omega
      · obtain rfl : k = qs.length := by omega
        rw [bump_all] at hrow
        have hlm : (qs.map up1).length = qs.length := by simp
        rw [← hlm] at hrow
        obtain ⟨us, hus⟩ : ∃ us, us = qs.map up1 := ⟨_, rfl⟩
        rw [← hus] at hrow hlm
        have hlm2 : Hid (us.length = qs.length) := hlm
        have HS3 : Hid (succA ps = nfA us) := by rw [HS2.out, hus]; exact rfl
        obtain ⟨_, hl1, hc1⟩ := own_lev hrow
        have HG2 := Lib.hid (gather_any (some ⟨g, 0, none⟩) us cap wr (by unfold Few; omega) hl1 hc1)
        have X4 : Hid (wr.heap[w.heap.size + 1]? = some (.cells #[.slice none 0 0] 24 (0, 0))) := (hb.block _ (by omega)).trans X3.out
        have HBB : Hid (Below w.heap.size w wr) := HB1.out.trans (hb.mono (by omega))
        rw [hlm] at HG2
        clear hrow hl1 hc1 hb hus hlm
        go_wp2_with (fail)
        refine HG2.out.mono ?_
        rintro e w2 ⟨v, rfl, hrow2, hb2⟩
        obtain ⟨A2, n2, m2, rfl⟩ := own_slice hrow2
        have hr := (hb2.block (w.heap.size + 1) (by omega)).trans X4.out
        have f5 := cell_of_one hr
        have f6 := free_of_one hr
        have HFIN : Hid (LvlPost w (succA ps) (.returned (.agg #[.slice A2 n2 m2])) (w2.setCell ⟨w.heap.size + 1, 0, none⟩ (.slice A2 n2 m2))) := by
          rw [HS3.out]
          exact ⟨_, rfl, own_base (ownsRow_setCell_below hrow2 (by show w.heap.size + 1 < wr.heap.size; omega) _) (by omega), (HBB.out.trans (hb2.mono (by omega))).setCell (by show w.heap.size ≤ w.heap.size + 1; omega) _⟩
        clear hr hrow2 hb2
        go_wp2
        exact bodyPost_ret (v := .agg #[.slice A2 n2 m2]) (by simp [results, Tryz.results9, go_sem, f5]) rfl HFIN.out

end Go.Proofs.YtldalfikpklfdaaGreat
