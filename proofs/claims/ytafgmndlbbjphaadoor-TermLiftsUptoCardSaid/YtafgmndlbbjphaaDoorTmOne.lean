/- What level.Leq, level.Same answer of whatever levels, and term.Same of terms: whether they are one but for their levels, and these have one normal form. -/
import Derived.Test.YtafgmndlbbjphaaDoorTmKinds
import Derived.Test.YtafgmndlbbjphaaDoorLvVals
namespace Go.Proofs.YtafgmndlbbjphaaDoor
open Go.RowKit Go.Maps

theorem nn_nfA (ps : List (Int × Int)) : Nn (nfA ps) := nn_ok (nfA_ok ps)
theorem nf_nfA (ps : List (Int × Int)) : nf (nfA ps) = nfA ps := by
  unfold nfA
  by_cases h : ∀ p ∈ ps, okPart p
  · rw [if_pos h, nf_nf (nn_ok h)]
  · rw [if_neg h]; rfl
theorem nfA_level (ps : List (Int × Int)) : IsLevel (mapOf (nfA ps)) (nfA ps) := by
  have := nf_level (nn_nfA ps).fst
  rwa [nf_nfA] at this
set_option maxRecDepth 100000 in
set_option maxHeartbeats 2000000 in
theorem leqA_any (A A' : Option Addr) (pa pb : List (Int × Int)) (c c' : Nat) (w : World) (hma : Few pa.length) (hmb : Few pb.length) (ha : Lev w w.heap.size A pa) (hb : Lev w w.heap.size A' pb) (hca : A = none → c = 0) (hcb : A' = none → c' = 0)
    (r : Bool) (hr : r = true ↔ LeqS (nfA pa) (nfA pb)) :
    Calls Tryd.prog 40 #[.agg #[.slice A pa.length c], .agg #[.slice A' pb.length c']] w (HasPost w r) := by
  have hmf : ∀ (fn : Go.Fn) (first cap : Array Value) (w : World), (Instr.makeFunc fn first cap).run Tryd.prog w = .ok (.func fn first cap) w := fun _ _ _ _ => rfl
  have hfd := field_parts
  obtain ⟨x1, x2, x3⟩ := two_allocs w (.cells #[.slice A pa.length c] 56) (.cells #[.slice A' pb.length c'] 56)
  have hb0 : Below w.heap.size w ((w.alloc (.cells #[.slice A pa.length c] 56)).alloc (.cells #[.slice A' pb.length c'] 56)) := ((Below.refl _ _).alloc (Nat.le_refl _) _).alloc (by simp) _
  have HG1 := Lib.hid (gather_any A' pb c' ((w.alloc (.cells #[.slice A pa.length c] 56)).alloc (.cells #[.slice A' pb.length c'] 56)) hmb ((hb.below hb0).more (by simp; omega)) hcb)
  have HG2 := Lib.hid (fun W (hW : Below w.heap.size w W) => gather_any A pa c W hma ((ha.below hW).more hW.size) hca)
  have X1 := Lib.hid x1
  have HB0 := Lib.hid hb0
  have HR := Lib.hid hr
  have HMA := Lib.hid hma
  have HMB := Lib.hid hmb
  clear x1 x2 x3 hb0 ha hb hca hcb hr hma hmb
  go_enter Tryd.func40, Tryd.ntmps40
  go_wp2_with (fail)
  refine HG1.out.mono ?_
  rintro e w1 ⟨v1, rfl, hrow1, hb1⟩
  have hq1 := nfA_level pb
  have hlq1 := nfA_len pb
  obtain ⟨q1, hqe1⟩ : ∃ q, nfA pb = q := ⟨_, rfl⟩
  rw [hqe1] at hrow1 hq1 hlq1 HR
  have HLQ1 := Lib.hid hlq1
  clear hqe1 hlq1
  obtain ⟨A1, n1, m1, rfl⟩ := own_slice hrow1
  obtain ⟨rfl, hl1, hc1⟩ := own_lev hrow1
  have e1 : w1.heap[w.heap.size]? = some (.cells #[.slice A pa.length c] 56 (0, 0)) := (hb1.block _ (by simp; omega)).trans X1.out
  have e2 : Below w.heap.size w w1 := HB0.out.trans (hb1.mono (by simp; omega))
  have hz1 : w.heap.size + 2 ≤ w1.heap.size := by have := hb1.size; simp at this; omega
  have HGG := Lib.hid (HG2.out w1 e2)
  have E2 := Lib.hid e2
  have HL1 := Lib.hid hl1
  have HQ1 := Lib.hid hq1
  have f1 := cell_of_one e1
  clear e1 e2 hl1 hc1 hq1 hrow1 hb1
  go_wp2_with (fail)
  refine HGG.out.mono ?_
  rintro e w2 ⟨v2, rfl, hrow2, hb2⟩
  have hq2 := nfA_level pa
  have hlq2 := nfA_len pa
  obtain ⟨q2, hqe2⟩ : ∃ q, nfA pa = q := ⟨_, rfl⟩
  rw [hqe2] at hrow2 hq2 hlq2 HR
  clear hqe2
  obtain ⟨A2, n2, m2, rfl⟩ := own_slice hrow2
  obtain ⟨rfl, hl2, hc2⟩ := own_lev hrow2
  have hz2 := hb2.size
  have E3 : Hid (Below w.heap.size w w2) := E2.out.trans (hb2.mono (by omega))
  have HL2 := Lib.hid hl2
  have HL1' : Hid (Lev w2 w1.heap.size A1 q1) := HL1.out.below hb2
  have HQ2 := Lib.hid hq2
  have hln1 : q1.length ≤ maxLen := by have := HLQ1.out; have := HMB.out; unfold Few at this; unfold maxLen; omega
  have hln2 : q2.length ≤ 9223372036854775807 := by have := hlq2; have := HMA.out; unfold Few at this; omega
  have HLN1 := Lib.hid hln1
  clear hl2 hc2 hq2 hrow2 hb2 f1 hln1 hlq2
  go_wp2
  go_loopw [18] (fun i wr => ∃ k : Nat, k ≤ q2.length ∧ i = .int .i64 k ∧ Below w2.heap.size w2 wr ∧ ∀ p ∈ q2.take k, ∃ q ∈ q1, Cov p q) (fun i _ => q2.length - (intOf i).toNat)
  case atStart => exact ⟨0, Nat.zero_le _, rfl, Below.refl _ _, fun q hq => by simp at hq⟩
  case round =>
    obtain ⟨k, hk, rfl, hb, hs⟩ := hrel
    have hbz := hb.size
    by_cases hlt : k < q2.length
    · obtain ⟨b, o, rfl, hbB, hcell⟩ := HL2.out (by omega)
      have c0 := (hb.cell hbB).trans (hcell k hlt).1
      have c1 := (hb.cell hbB).trans (hcell k hlt).2
      obtain ⟨x, hx⟩ : ∃ x, x = (q2.getD k (0, 0)).1 := ⟨_, rfl⟩
      obtain ⟨y, hy⟩ : ∃ y, y = (q2.getD k (0, 0)).2 := ⟨_, rfl⟩
      rw [← hx] at c0
      rw [← hy] at c1
      have hq : q2[k] = (x, y) := by rw [hx, hy, List.getD_eq_getElem?_getD, List.getElem?_eq_getElem hlt]; rfl
      have hbw : b < wr.heap.size := by omega
      have HS := Lib.hid hs
      have HQK := Lib.hid hq
      have HBB := Lib.hid hb
      have hnew := two_new wr (.int .i64 x) (.int .i64 y) 71
      have n0 : (wr.alloc (.cells #[.int .i64 x, .int .i64 y] 71)).cell? ⟨wr.heap.size, 0, none⟩ = some (.int .i64 x) := hnew 0 _ rfl
      have n1' : (wr.alloc (.cells #[.int .i64 x, .int .i64 y] 71)).cell? ⟨wr.heap.size, 1, none⟩ = some (.int .i64 y) := hnew 1 _ rfl
      have hlv : Lev (wr.alloc (.cells #[.int .i64 x, .int .i64 y] 71)) (wr.alloc (.cells #[.int .i64 x, .int .i64 y] 71)).heap.size A1 q1 := (HL1'.out.below ((hb.mono hz2).alloc (by omega) _)).more (by simp; omega)
      by_cases t : ∃ q ∈ q1, Cov (x, y) q
      · have HC := Lib.hid (contains_any wr.heap.size x y A1 q1 m1 _ HLN1.out hlv n0 n1' true (by simpa using t))
        have HT := Lib.hid t
        clear hs hq hx hy hcell hnew n0 n1' hlv t hb
        go_wp2_with (fail)
        refine HC.out.mono ?_
        rintro e w3 ⟨rfl, hb3⟩
        have HF : Hid (Below w2.heap.size w2 w3 ∧ ∀ p ∈ q2.take (k + 1), ∃ q ∈ q1, Cov p q) := ⟨(HBB.out.alloc hbz _).trans (hb3.mono (by simp; omega)), fun p hp => by
          rw [List.take_succ_eq_append_getElem hlt, List.mem_append] at hp
          rcases hp with hp | hp
          · exact HS.out p hp
          · simp at hp; rw [hp, HQK.out]; exact HT.out⟩
        clear hb3
        go_wp2
        go_roundw
        case rel => exact ⟨k + 1, by omega, by go_num, HF.out.1, HF.out.2⟩
        case measure => simp [intOf]; omega
      · have HC := Lib.hid (contains_any wr.heap.size x y A1 q1 m1 _ HLN1.out hlv n0 n1' false (by simpa using t))
        have HT := Lib.hid t
        clear hs hq hx hy hcell hnew n0 n1' hlv t hb
        go_wp2_with (fail)
        refine HC.out.mono ?_
        rintro e w3 ⟨rfl, hb3⟩
        have HF : Hid (HasPost w r (.returned (.bool false)) w3) := ⟨by
          have : r = false := by
            rcases r with _ | _
            · rfl
            · refine absurd (HR.out.1 rfl (x, y) ?_) (fun ⟨q, hq, hc⟩ => HT.out ⟨q, (HQ1.out.2 q).2 hq, hc⟩)
              exact (HQ2.out.2 (x, y)).1 (by rw [← HQK.out]; exact List.getElem_mem hlt)
          rw [this], E3.out.trans (((HBB.out.alloc hbz _).trans (hb3.mono (by simp; omega))).mono E3.out.size)⟩
        clear hb3
        go_wp2
        go_ret
        exact HF.out
    · obtain rfl : k = q2.length := by omega
      have HF : Hid (HasPost w r (.returned (.bool true)) wr) := ⟨by
        have : r = true := HR.out.2 (fun p hp => by
          obtain ⟨q, hq, hc⟩ := hs p (by simpa using (HQ2.out.2 p).2 hp)
          exact ⟨q, (HQ1.out.2 q).1 hq, hc⟩)
        rw [this], E3.out.trans (hb.mono E3.out.size)⟩
      clear hs hb
      go_wp2
      go_ret
      exact HF.out
set_option maxRecDepth 100000 in
set_option maxHeartbeats 2000000 in
theorem lsameB_any (A A' : Option Addr) (pa pb : List (Int × Int)) (c c' : Nat) (w : World) (hma : Few pa.length) (hmb : Few pb.length) (ha : Lev w w.heap.size A pa) (hb : Lev w w.heap.size A' pb) (hca : A = none → c = 0) (hcb : A' = none → c' = 0)
    (r : Bool) (hr : r = true ↔ pa = pb ∨ (LeqS (nfA pa) (nfA pb) ∧ LeqS (nfA pb) (nfA pa))) :
    Calls Tryd.prog 28 #[.agg #[.slice A pa.length c], .agg #[.slice A' pb.length c']] w (HasPost w r) := by
  obtain ⟨x1, x2, x3⟩ := two_allocs w (.cells #[.slice A pa.length c] 56) (.cells #[.slice A' pb.length c'] 56)
  have hb0 : Below w.heap.size w ((w.alloc (.cells #[.slice A pa.length c] 56)).alloc (.cells #[.slice A' pb.length c'] 56)) := ((Below.refl _ _).alloc (Nat.le_refl _) _).alloc (by simp) _
  have hla : pa.length ≤ maxLen := by unfold Few at hma; unfold maxLen; omega
  have hlb : pb.length ≤ maxLen := by unfold Few at hmb; unfold maxLen; omega
  have H12 := Lib.hid (fun W (hW : Below w.heap.size w W) (r : Bool) (hr : r = true ↔ LeqS (nfA pa) (nfA pb)) => leqA_any A A' pa pb c c' W hma hmb ((ha.below hW).more hW.size) ((hb.below hW).more hW.size) hca hcb r hr)
  have H21 := Lib.hid (fun W (hW : Below w.heap.size w W) (r : Bool) (hr : r = true ↔ LeqS (nfA pb) (nfA pa)) => leqA_any A' A pb pa c' c W hmb hma ((hb.below hW).more hW.size) ((ha.below hW).more hW.size) hcb hca r hr)
  have HR := Lib.hid hr
  have HB := Lib.hid hb0
  have X1 := Lib.hid x1
  have X2 := Lib.hid x2
  by_cases t : pa = pb
  · have HE := Lib.hid (equal_any A A' pa pb c c' _ hla hlb ((ha.below hb0).more hb0.size) ((hb.below hb0).more hb0.size) true (by simpa using t))
    have hrt : r = true := hr.2 (Or.inl t)
    subst hrt
    clear hma hmb ha hb hca hcb hr hla hlb hb0 x1 x2 x3 t
    go_enter Tryd.func28, Tryd.ntmps28
    go_wp2_with (fail)
    refine HE.out.mono ?_
    rintro e w1 ⟨rfl, hb1⟩
    have HF : Hid (HasPost w true (.returned (.bool true)) w1) := ⟨rfl, HB.out.trans (hb1.mono HB.out.size)⟩
    clear hb1
    go_wp2
    go_ret
    exact HF.out
  · have HE := Lib.hid (equal_any A A' pa pb c c' _ hla hlb ((ha.below hb0).more hb0.size) ((hb.below hb0).more hb0.size) false (by simpa using t))
    have HT := Lib.hid t
    clear hma hmb ha hb hca hcb hr hla hlb hb0 x1 x2 x3 t
    by_cases t1 : LeqS (nfA pa) (nfA pb)
    · by_cases t2 : LeqS (nfA pb) (nfA pa)
      · have HRT : Hid (r = true) := HR.out.2 (Or.inr ⟨t1, t2⟩)
        have T1 := Lib.hid t1
        have T2 := Lib.hid t2
        clear t1 t2
        go_enter Tryd.func28, Tryd.ntmps28
        go_wp2_with (fail)
        refine HE.out.mono ?_
        rintro e w1 ⟨rfl, hb1⟩
        have e1 : Below w.heap.size w w1 := HB.out.trans (hb1.mono HB.out.size)
        have e2 := (hb1.block w.heap.size (by simp; omega)).trans X1.out
        have e3 := (hb1.block (w.heap.size + 1) (by simp)).trans X2.out
        have f1 := cell_of_one e2
        have f2 := cell_of_one e3
        have hz1 : w.heap.size + 2 ≤ w1.heap.size := by have := hb1.size; simp at this; omega
        have HL1 := Lib.hid (H12.out w1 e1 true (by simpa using T1.out))
        have E1 := Lib.hid e1
        have E2 := Lib.hid e2
        have E3 := Lib.hid e3
        clear hb1 e1 e2 e3
        go_wp2_with (fail)
        refine HL1.out.mono ?_
        rintro e w2 ⟨rfl, hb2⟩
        have e1 : Below w.heap.size w w2 := E1.out.trans (hb2.mono (by omega))
        have g1 := cell_of_one ((hb2.block w.heap.size (by omega)).trans E2.out)
        have g2 := cell_of_one ((hb2.block (w.heap.size + 1) (by omega)).trans E3.out)
        have HL2 := Lib.hid (H21.out w2 e1 true (by simpa using T2.out))
        have E4 := Lib.hid e1
        clear hb2 e1 f1 f2
        go_wp2_with (fail)
        refine HL2.out.mono ?_
        rintro e w3 ⟨rfl, hb3⟩
        have HF : Hid (HasPost w r (.returned (.bool true)) w3) := ⟨by rw [HRT.out], E4.out.trans (hb3.mono E4.out.size)⟩
        clear hb3
        go_wp2
        go_ret
        exact HF.out
      · have HRT : Hid (r = false) := by
          rcases r with _ | _
          · rfl
          · rcases HR.out.1 rfl with e | e
            · exact absurd e HT.out
            · exact absurd e.2 t2
        have T1 := Lib.hid t1
        have T2 := Lib.hid t2
        clear t1 t2
        go_enter Tryd.func28, Tryd.ntmps28
        go_wp2_with (fail)
        refine HE.out.mono ?_
        rintro e w1 ⟨rfl, hb1⟩
        have e1 : Below w.heap.size w w1 := HB.out.trans (hb1.mono HB.out.size)
        have e2 := (hb1.block w.heap.size (by simp; omega)).trans X1.out
        have e3 := (hb1.block (w.heap.size + 1) (by simp)).trans X2.out
        have f1 := cell_of_one e2
        have f2 := cell_of_one e3
        have hz1 : w.heap.size + 2 ≤ w1.heap.size := by have := hb1.size; simp at this; omega
        have HL1 := Lib.hid (H12.out w1 e1 true (by simpa using T1.out))
        have E1 := Lib.hid e1
        have E2 := Lib.hid e2
        have E3 := Lib.hid e3
        clear hb1 e1 e2 e3
        go_wp2_with (fail)
        refine HL1.out.mono ?_
        rintro e w2 ⟨rfl, hb2⟩
        have e1 : Below w.heap.size w w2 := E1.out.trans (hb2.mono (by omega))
        have g1 := cell_of_one ((hb2.block w.heap.size (by omega)).trans E2.out)
        have g2 := cell_of_one ((hb2.block (w.heap.size + 1) (by omega)).trans E3.out)
        have HL2 := Lib.hid (H21.out w2 e1 false (by simpa using T2.out))
        have E4 := Lib.hid e1
        clear hb2 e1 f1 f2
        go_wp2_with (fail)
        refine HL2.out.mono ?_
        rintro e w3 ⟨rfl, hb3⟩
        have HF : Hid (HasPost w r (.returned (.bool false)) w3) := ⟨by rw [HRT.out], E4.out.trans (hb3.mono E4.out.size)⟩
        clear hb3
        go_wp2
        go_ret
        exact HF.out
    · have HRT : Hid (r = false) := by
        rcases r with _ | _
        · rfl
        · rcases HR.out.1 rfl with e | e
          · exact absurd e HT.out
          · exact absurd e.1 t1
      have T1 := Lib.hid t1
      clear t1
      go_enter Tryd.func28, Tryd.ntmps28
      go_wp2_with (fail)
      refine HE.out.mono ?_
      rintro e w1 ⟨rfl, hb1⟩
      have e1 : Below w.heap.size w w1 := HB.out.trans (hb1.mono HB.out.size)
      have e2 := (hb1.block w.heap.size (by simp; omega)).trans X1.out
      have e3 := (hb1.block (w.heap.size + 1) (by simp)).trans X2.out
      have f1 := cell_of_one e2
      have f2 := cell_of_one e3
      have HL1 := Lib.hid (H12.out w1 e1 false (by simpa using T1.out))
      have E1 := Lib.hid e1
      clear hb1 e1 e2 e3
      go_wp2_with (fail)
      refine HL1.out.mono ?_
      rintro e w2 ⟨rfl, hb2⟩
      have HF : Hid (HasPost w r (.returned (.bool false)) w2) := ⟨by rw [HRT.out], E1.out.trans (hb2.mono E1.out.size)⟩
      clear hb2
      go_wp2
      go_ret
      exact HF.out
/-- level.Same: have the levels one normal form? -/
theorem lsameA_any (A A' : Option Addr) (pa pb : List (Int × Int)) (c c' : Nat) (w : World) (hma : Few pa.length) (hmb : Few pb.length) (ha : Lev w w.heap.size A pa) (hb : Lev w w.heap.size A' pb) (hca : A = none → c = 0) (hcb : A' = none → c' = 0)
    (r : Bool) (hr : r = true ↔ nfA pa = nfA pb) :
    Calls Tryd.prog 28 #[.agg #[.slice A pa.length c], .agg #[.slice A' pb.length c']] w (HasPost w r) := by
  refine lsameB_any A A' pa pb c c' w hma hmb ha hb hca hcb r (hr.trans ⟨fun h => ?_, fun h => ?_⟩)
  · have e : nf (nfA pa) = nf (nfA pb) := by rw [h]
    exact Or.inr ⟨leq_nf (nn_nfA _) (nn_nfA _) e, leq_nf (nn_nfA _) (nn_nfA _) e.symm⟩
  · rcases h with rfl | ⟨h1, h2⟩
    · rfl
    · have := nf_one (nn_nfA _) (nn_nfA _) h1 h2
      rwa [nf_nfA, nf_nfA] at this

mutual
/-- a term with its levels' normal forms -/
def Tm.norm : Tm → Tm
  | .mk k n a lv kids => .mk k n a (lv.map nfA) (Tm.normL kids)
def Tm.normL : List Tm → List Tm
  | [] => []
  | t :: ts => t.norm :: Tm.normL ts
end
theorem Tm.norm_mk (k n a : Int) (lv : List (List (Int × Int))) (kids : List Tm) : (Tm.mk k n a lv kids).norm = .mk k n a (lv.map nfA) (Tm.normL kids) := by rw [Tm.norm]
theorem Tm.normL_map : ∀ ts : List Tm, Tm.normL ts = ts.map Tm.norm
  | [] => by simp [Tm.normL]
  | t :: ts => by rw [Tm.normL, Tm.normL_map ts, List.map_cons]
mutual
/-- a term no list of which is too long -/
def Tm.wide : Tm → Prop
  | .mk _ _ _ lv kids => WideL lv ∧ kids.length ≤ 1048576 ∧ Tm.wideL kids
def Tm.wideL : List Tm → Prop
  | [] => True
  | t :: ts => t.wide ∧ Tm.wideL ts
end
theorem Tm.wide_mk (k n a : Int) (lv : List (List (Int × Int))) (kids : List Tm) : (Tm.mk k n a lv kids).wide ↔ WideL lv ∧ kids.length ≤ 1048576 ∧ Tm.wideL kids := by rw [Tm.wide]
theorem Tm.wideL_iff : ∀ ts : List Tm, Tm.wideL ts ↔ ∀ t ∈ ts, t.wide
  | [] => by simp [Tm.wideL]
  | t :: ts => by
    have := Tm.wideL_iff ts
    simp [Tm.wideL, this]
theorem Tm.fit_wide : ∀ t : Tm, t.fit → t.wide := by
  intro t
  induction t using Tm.ind with
  | h k n a lv kids ih =>
    intro h
    rw [Tm.fit_mk] at h
    exact (Tm.wide_mk ..).2 ⟨h.2.1.wide, h.2.2.1, (Tm.wideL_iff _).2 fun t ht => ih t ht ((Tm.fitL_iff _).1 h.2.2.2 t ht)⟩

/-- two rows are one under a map, entry by entry -/
theorem map_one {α β : Type} {f : α → β} {l m : List α} (hl : l.length = m.length) : l.map f = m.map f ↔ ∀ (j : Nat) (x y : α), l[j]? = some x → m[j]? = some y → f x = f y := by
  constructor
  · intro h j x y hx hy
    have := congrArg (·[j]?) h
    simpa [hx, hy] using this
  · intro h
    refine List.ext_getElem? fun j => ?_
    rw [List.getElem?_map, List.getElem?_map]
    by_cases hj : j < l.length
    · rw [List.getElem?_eq_getElem hj, List.getElem?_eq_getElem (by omega)]
      simp [h j l[j] m[j] (List.getElem?_eq_getElem hj) (List.getElem?_eq_getElem (by omega))]
    · rw [List.getElem?_eq_none (by omega), List.getElem?_eq_none (by omega)]
theorem map_len {α β : Type} {f : α → β} {l m : List α} (h : l.map f = m.map f) : l.length = m.length := by
  have := congrArg List.length h
  simpa using this

set_option maxRecDepth 100000 in
theorem enter_lsameA (vs : Array Value) (w : World) : (callFunc 28 vs).run Tryd.prog w = .ok (.enter 28 vs) w := by go_simp
set_option maxRecDepth 100000 in
theorem enter_sameOne (vs : Array Value) (w : World) : (callFunc 14 vs).run Tryd.prog w = .ok (.enter 14 vs) w := by go_simp
/-- what term.Same answers of a term and any other -/
def OneTm (t : Tm) : Prop := t.wide → ∀ (u : Tm) (va vb : Value) (w : World) (r : Bool), u.wide → TmAt w w.heap.size t va → TmAt w w.heap.size u vb → (r = true ↔ t.norm = u.norm) → Calls Tryd.prog 14 #[va, vb] w (HasPost w r)
set_option maxRecDepth 100000 in
set_option maxHeartbeats 8000000 in
theorem one_of (k1 n1 a1 k2 n2 a2 : Int) (lv1 lv2 : List (List (Int × Int))) (kids1 kids2 : List Tm) (ih : ∀ t ∈ kids1, OneTm t) (A1 A2 A3 A4 : Option Addr) (c1 c2 c3 c4 p1 p2 p3 p4 : Nat) (w : World) (r : Bool)
    (hp1 : lv1.length = p1) (hp2 : kids1.length = p2) (hp3 : lv2.length = p3) (hp4 : kids2.length = p4) (hc : (Tm.mk k1 n1 a1 lv1 kids1).wide) (hc' : (Tm.mk k2 n2 a2 lv2 kids2).wide)
    (h1 : Levs w w.heap.size A1 lv1) (h2 : Tms w w.heap.size A2 c2 kids1) (h3 : Levs w w.heap.size A3 lv2) (h4 : Tms w w.heap.size A4 c4 kids2) (hr : r = true ↔ (Tm.mk k1 n1 a1 lv1 kids1).norm = (Tm.mk k2 n2 a2 lv2 kids2).norm) :
    Calls Tryd.prog 14 #[.agg #[.int .i64 k1, .int .i64 n1, .int .i64 a1, .slice A1 p1 c1, .slice A2 p2 c2], .agg #[.int .i64 k2, .int .i64 n2, .int .i64 a2, .slice A3 p3 c3, .slice A4 p4 c4]] w (HasPost w r) := by
  rw [Tm.wide_mk] at hc hc'
  rw [Tm.norm_mk, Tm.norm_mk, Tm.mk.injEq, Tm.normL_map, Tm.normL_map] at hr
  obtain ⟨w1, hw1⟩ : ∃ x, (w.alloc (.cells #[.int .i64 k1, .int .i64 n1, .int .i64 a1, .slice A1 p1 c1, .slice A2 p2 c2] 26)).alloc (.cells #[.int .i64 k2, .int .i64 n2, .int .i64 a2, .slice A3 p3 c3, .slice A4 p4 c4] 26) = x := ⟨_, rfl⟩
  have hb1 : Below w.heap.size w w1 := by rw [← hw1]; exact ((Below.refl _ _).alloc (Nat.le_refl _) _).alloc (by simp) _
  have hs1 : w1.heap.size = w.heap.size + 2 := by rw [← hw1]; simp
  obtain ⟨x1, x2, _⟩ := two_allocs w (.cells #[.int .i64 k1, .int .i64 n1, .int .i64 a1, .slice A1 p1 c1, .slice A2 p2 c2] 26) (.cells #[.int .i64 k2, .int .i64 n2, .int .i64 a2, .slice A3 p3 c3, .slice A4 p4 c4] 26)
  rw [hw1] at x1 x2
  have f0 := cell_of_row _ _ 0 _ _ (0, 0) x1
  have f1 := cell_of_row _ _ 1 _ _ (0, 0) x1
  have f2 := cell_of_row _ _ 2 _ _ (0, 0) x1
  have f3 := cell_of_row _ _ 3 _ _ (0, 0) x1
  have f4 := cell_of_row _ _ 4 _ _ (0, 0) x1
  have g0 := cell_of_row _ _ 0 _ _ (0, 0) x2
  have g1 := cell_of_row _ _ 1 _ _ (0, 0) x2
  have g2 := cell_of_row _ _ 2 _ _ (0, 0) x2
  have g3 := cell_of_row _ _ 3 _ _ (0, 0) x2
  have g4 := cell_of_row _ _ 4 _ _ (0, 0) x2
  have HB1 := Lib.hid hb1
  have HR := Lib.hid hr
  have H1 := Lib.hid h1
  have H2 := Lib.hid h2
  have H3 := Lib.hid h3
  have H4 := Lib.hid h4
  have IH := Lib.hid ih
  have HP1 := Lib.hid hp1
  have HP2 := Lib.hid hp2
  have HP3 := Lib.hid hp3
  have HP4 := Lib.hid hp4
  have HC := Lib.hid hc
  have HC' := Lib.hid hc'
  have HX : Hid (w.heap.size < w1.heap.size ∧ w.heap.size + 1 < w1.heap.size) := ⟨by omega, by omega⟩
  have hp16 : p1 ≤ 1048576 := by rw [← hp1]; exact hc.1.1
  have hp26 : p2 ≤ 1048576 := by rw [← hp2]; exact hc.2.1
  clear hb1 hs1 x1 x2 hr h1 h2 h3 h4 ih hp1 hp2 hp3 hp4 hc hc'
  by_cases e1 : k1 = k2
  · subst e1
    have s1 : (k1 != k1) = false := by simp
    by_cases e2 : n1 = n2
    · subst e2
      have s2 : (n1 != n1) = false := by simp
      by_cases e3 : a1 = a2
      · subst e3
        have s3 : (a1 != a1) = false := by simp
        by_cases e4 : p2 = p4
        · subst e4
          have s4 : ((p2 : Int) != (p2 : Int)) = false := by simp
          by_cases e5 : p1 = p3
          · subst e5
            have s5 : ((p1 : Int) != (p1 : Int)) = false := by simp
            go_enter Tryd.func14, Tryd.ntmps14
            go_wp2
            go_loopw [47] (fun i wr => ∃ j : Nat, j ≤ p1 ∧ i = .int .i64 (j : Int) ∧ Below w1.heap.size w1 wr ∧ ∀ (i : Nat) (x y : List (Int × Int)), i < j → lv1[i]? = some x → lv2[i]? = some y → nfA x = nfA y) (fun i _ => p1 - (intOf i).toNat)
            case atStart => exact ⟨0, Nat.zero_le _, rfl, Below.refl _ _, fun i _ _ hj => absurd hj (by omega)⟩
            case round =>
              obtain ⟨k, hk, rfl, hb, hso⟩ := hrel
              have hbz := hb.size
              have m3 := (hb.cell (p := ⟨w.heap.size, 3, none⟩) HX.out.1).trans f3
              have l3 := (hb.cell (p := ⟨w.heap.size + 1, 3, none⟩) HX.out.2).trans g3
              have m4 := (hb.cell (p := ⟨w.heap.size, 4, none⟩) HX.out.1).trans f4
              have l4 := (hb.cell (p := ⟨w.heap.size + 1, 4, none⟩) HX.out.2).trans g4
              by_cases hlt : k < p1
              · obtain ⟨b, o, e, hbB, hcell⟩ := H1.out (by rw [HP1.out]; omega)
                obtain ⟨b', o', e', hbB', hcell'⟩ := H3.out (by rw [HP3.out]; omega)
                subst e e'
                obtain ⟨Ai, ci, q0, q1, q2, _⟩ := hcell k (by rw [HP1.out]; exact hlt)
                obtain ⟨Bi, di, r0, r1, r2, _⟩ := hcell' k (by rw [HP3.out]; exact hlt)
                obtain ⟨l, hl⟩ : ∃ l, lv1.getD k [] = l := ⟨_, rfl⟩
                obtain ⟨m, hm⟩ : ∃ l, lv2.getD k [] = l := ⟨_, rfl⟩
                have el : lv1[k]? = some l := by rw [← hl, List.getD_eq_getElem?_getD, List.getElem?_eq_getElem (by rw [HP1.out]; exact hlt)]; rfl
                have em : lv2[k]? = some m := by rw [← hm, List.getD_eq_getElem?_getD, List.getElem?_eq_getElem (by rw [HP3.out]; exact hlt)]; rfl
                rw [hl] at q0 q1
                rw [hm] at r0 r1
                have u1 := HC.out.1.2 l (List.mem_of_getElem? el)
                have u2 := HC'.out.1.2 m (List.mem_of_getElem? em)
                obtain ⟨rk, hrk⟩ := bool_is (nfA l = nfA m)
                have hb0 : Below w.heap.size w wr := HB1.out.trans (hb.mono HB1.out.size)
                have d0 := (hb0.cell (p := ⟨b, o + k, none⟩) hbB).trans q0
                have d1 := (hb0.cell (p := ⟨b', o' + k, none⟩) hbB').trans r0
                have HCL : Hid (∀ w', Below wr.heap.size wr w' → Calls Tryd.prog 28 #[.agg #[.slice Ai l.length ci], .agg #[.slice Bi m.length di]] w' (HasPost w' rk)) := fun w' hx => by
                  have hx2 : Below w.heap.size w w' := hb0.trans (hx.mono hb0.size)
                  exact lsameA_any Ai Bi l m ci di w' u1 u2 ((q1.below hx2).more hx2.size) ((r1.below hx2).more hx2.size) q2 r2 rk hrk
                obtain ⟨nl, hnl⟩ : ∃ j, l.length = j := ⟨_, rfl⟩
                obtain ⟨nm, hnm⟩ : ∃ j, m.length = j := ⟨_, rfl⟩
                rw [hnl] at d0 HCL
                rw [hnm] at d1 HCL
                have HB := Lib.hid hb
                have HSO := Lib.hid hso
                have HRK := Lib.hid hrk
                have EL := Lib.hid el
                have EM := Lib.hid em
                have ij0 : (0 : Int) ≤ (k : Int) := by omega
                have ij1 : (k : Int) < (p1 : Int) := by omega
                have z0 := hb0.size
                have hbr : b < wr.heap.size := by omega
                have hbr' : b' < wr.heap.size := by omega
                have y0 : w.heap.size < wr.heap.size := by have := HX.out; omega
                have y1 : w.heap.size + 1 < wr.heap.size := by have := HX.out; omega
                clear hb hb0 hso hrk el em q0 q1 q2 r0 r1 r2 hcell hcell' hl hm hnl hnm u1 u2 z0
                go_upto_region 6 with (fail)
                have hS : Below wr.heap.size wr wr.drew := (Below.refl _ _).drew
                refine wp_region_tab (fun w' => Below wr.heap.size wr w') (fun w1 w2 : World => Below w1.heap.size w1 w2) [(fun (x : Value) (_ : World) => x = (.pointer (some ⟨w.heap.size, 3, none⟩) : Value)), (fun (x : Value) (_ : World) => x = (.slice (some ⟨b, o, none⟩) p1 c1 : Value)), (fun (x : Value) (_ : World) => x = (.int .i64 (k : Int) : Value)), (fun (x : Value) (_ : World) => x = (.pointer (some ⟨b, o + k, none⟩) : Value)), (fun (x : Value) (_ : World) => x = (.agg #[.slice Ai nl ci] : Value)), (fun (x : Value) (_ : World) => x = (.pointer (some ⟨w.heap.size + 1, 3, none⟩) : Value)), (fun (x : Value) (_ : World) => x = ((.slice (some ⟨b', o', none⟩) p1 c3) : Value)), (fun (x : Value) (_ : World) => x = (.int .i64 (k : Int) : Value)), (fun (x : Value) (_ : World) => x = (.pointer (some ⟨b', o' + k, none⟩) : Value)), (fun (x : Value) (_ : World) => x = (.agg #[.slice Bi nm di] : Value)), (fun (x : Value) (_ : World) => x = (.bool rk : Value)), (fun (x : Value) (_ : World) => x = (.bool (!rk) : Value))] [⟨some 50, .fieldAddr 26 (.tmp 2) 3, none, []⟩, ⟨some 51, .load 23 (.tmp 50), none, [(50, 0)]⟩, ⟨some 52, .move (.tmp 5), none, []⟩, ⟨some 53, .indexAddr 23 (.tmp 51) (.tmp 52), none, [(51, 1), (52, 2)]⟩, ⟨some 54, .load 56 (.tmp 53), none, [(53, 3)]⟩, ⟨some 55, .fieldAddr 26 (.tmp 3) 3, none, []⟩, ⟨some 56, .load 23 (.tmp 55), none, [(55, 5)]⟩, ⟨some 57, .move (.tmp 5), none, []⟩, ⟨some 58, .indexAddr 23 (.tmp 56) (.tmp 57), none, [(56, 6), (57, 7)]⟩, ⟨some 59, .load 56 (.tmp 58), none, [(58, 8)]⟩, ⟨some 60, .call { callee := .value (.func 28), args := #[.tmp 54, .tmp 59], argTypes := #[56, 56] }, none, [(54, 4), (59, 9)]⟩, ⟨some 61, .unOp .not 4 (.tmp 60), none, [(60, 10)]⟩] [some 50, some 51, some 52, some 53, some 54, some 55, some 56, some 57, some 58, some 59, some 60, some 61] (by kernel_rfl) (by kernel_rfl) (by kernel_rfl) (by kernel_rfl) (by kernel_rfl) ?hS ?hmono ?hsteps ?hfin
                case hS => exact hS
                case hmono =>
                  refine MonoL.cons (fun x w1 w2 _ _ _ hx => hx) ?_
                  refine MonoL.cons (fun x w1 w2 _ _ _ hx => hx) ?_
                  refine MonoL.cons (fun x w1 w2 _ _ _ hx => hx) ?_
                  refine MonoL.cons (fun x w1 w2 _ _ _ hx => hx) ?_
                  refine MonoL.cons (fun x w1 w2 _ _ _ hx => hx) ?_
                  refine MonoL.cons (fun x w1 w2 _ _ _ hx => hx) ?_
                  refine MonoL.cons (fun x w1 w2 _ _ _ hx => hx) ?_
                  refine MonoL.cons (fun x w1 w2 _ _ _ hx => hx) ?_
                  refine MonoL.cons (fun x w1 w2 _ _ _ hx => hx) ?_
                  refine MonoL.cons (fun x w1 w2 _ _ _ hx => hx) ?_
                  refine MonoL.cons (fun x w1 w2 _ _ _ hx => hx) ?_
                  refine MonoL.cons (fun x w1 w2 _ _ _ hx => hx) ?_
                  exact MonoL.nil
                case hsteps =>
                  refine StepsT.cons (fun (x : Value) (_ : World) => x = (.pointer (some ⟨w.heap.size, 3, none⟩) : Value)) [] rfl rfl (fun oq hop _ wq hQS => ?_) ?_
                  · exact StepFrom.fieldAddr hop (p := (.pointer (some ⟨w.heap.size, 0, none⟩) : Value)) (by kernel_rfl) (term_field 3 (by decide)) (by kernel_rfl) hQS (Below.refl _ _) rfl
                  refine StepsT.cons (fun (x : Value) (_ : World) => x = (.slice (some ⟨b, o, none⟩) p1 c1 : Value)) [(50, (fun (x : Value) (_ : World) => x = (.pointer (some ⟨w.heap.size, 3, none⟩) : Value)))] rfl rfl (fun oq hop _ wq hQS => ?_) ?_
                  · refine StepFrom.more_eq ((.pointer (some ⟨w.heap.size, 3, none⟩) : Value)) ?_
                    exact StepFrom.load hop (p := (.pointer (some ⟨w.heap.size, 3, none⟩) : Value)) (by kernel_rfl) (load_levels ((hQS.cell (p := ⟨w.heap.size, 3, none⟩) y0).trans m3)) (by kernel_rfl) hQS (Below.refl _ _) rfl
                  refine StepsT.cons (fun (x : Value) (_ : World) => x = (.int .i64 (k : Int) : Value)) [] rfl rfl (fun oq hop _ wq hQS => ?_) ?_
                  · exact StepFrom.move hop (v := (.int .i64 (k : Int) : Value)) (by kernel_rfl) (by kernel_rfl) hQS (Below.refl _ _) rfl
                  refine StepsT.cons (fun (x : Value) (_ : World) => x = (.pointer (some ⟨b, o + k, none⟩) : Value)) [(51, (fun (x : Value) (_ : World) => x = (.slice (some ⟨b, o, none⟩) p1 c1 : Value))), (52, (fun (x : Value) (_ : World) => x = (.int .i64 (k : Int) : Value)))] rfl rfl (fun oq hop _ wq hQS => ?_) ?_
                  · refine StepFrom.more_eq ((.slice (some ⟨b, o, none⟩) p1 c1 : Value)) ?_
                    refine StepFrom.more_eq ((.int .i64 (k : Int) : Value)) ?_
                    exact StepFrom.indexAddr hop (p := (.slice (some ⟨b, o, none⟩) p1 c1 : Value)) (q := (.int .i64 (k : Int) : Value)) (by kernel_rfl) (by kernel_rfl) (lev_addr_o ij0 ij1) (by kernel_rfl) hQS (Below.refl _ _) rfl
                  refine StepsT.cons (fun (x : Value) (_ : World) => x = (.agg #[.slice Ai nl ci] : Value)) [(53, (fun (x : Value) (_ : World) => x = (.pointer (some ⟨b, o + k, none⟩) : Value)))] rfl rfl (fun oq hop _ wq hQS => ?_) ?_
                  · refine StepFrom.more_eq ((.pointer (some ⟨b, o + k, none⟩) : Value)) ?_
                    exact StepFrom.load hop (p := (.pointer (some ⟨b, o + k, none⟩) : Value)) (by kernel_rfl) (load_lev_at ((hQS.cell (p := ⟨b, o + k, none⟩) hbr).trans d0)) (by kernel_rfl) hQS (Below.refl _ _) rfl
                  refine StepsT.cons (fun (x : Value) (_ : World) => x = (.pointer (some ⟨w.heap.size + 1, 3, none⟩) : Value)) [] rfl rfl (fun oq hop _ wq hQS => ?_) ?_
                  · exact StepFrom.fieldAddr hop (p := (.pointer (some ⟨w.heap.size + 1, 0, none⟩) : Value)) (by kernel_rfl) (term_field 3 (by decide)) (by kernel_rfl) hQS (Below.refl _ _) rfl
                  refine StepsT.cons (fun (x : Value) (_ : World) => x = ((.slice (some ⟨b', o', none⟩) p1 c3) : Value)) [(55, (fun (x : Value) (_ : World) => x = (.pointer (some ⟨w.heap.size + 1, 3, none⟩) : Value)))] rfl rfl (fun oq hop _ wq hQS => ?_) ?_
                  · refine StepFrom.more_eq ((.pointer (some ⟨w.heap.size + 1, 3, none⟩) : Value)) ?_
                    exact StepFrom.load hop (p := (.pointer (some ⟨w.heap.size + 1, 3, none⟩) : Value)) (by kernel_rfl) (load_levels ((hQS.cell (p := ⟨w.heap.size + 1, 3, none⟩) y1).trans l3)) (by kernel_rfl) hQS (Below.refl _ _) rfl
                  refine StepsT.cons (fun (x : Value) (_ : World) => x = (.int .i64 (k : Int) : Value)) [] rfl rfl (fun oq hop _ wq hQS => ?_) ?_
                  · exact StepFrom.move hop (v := (.int .i64 (k : Int) : Value)) (by kernel_rfl) (by kernel_rfl) hQS (Below.refl _ _) rfl
                  refine StepsT.cons (fun (x : Value) (_ : World) => x = (.pointer (some ⟨b', o' + k, none⟩) : Value)) [(56, (fun (x : Value) (_ : World) => x = ((.slice (some ⟨b', o', none⟩) p1 c3) : Value))), (57, (fun (x : Value) (_ : World) => x = (.int .i64 (k : Int) : Value)))] rfl rfl (fun oq hop _ wq hQS => ?_) ?_
                  · refine StepFrom.more_eq (((.slice (some ⟨b', o', none⟩) p1 c3) : Value)) ?_
                    refine StepFrom.more_eq ((.int .i64 (k : Int) : Value)) ?_
                    exact StepFrom.indexAddr hop (p := ((.slice (some ⟨b', o', none⟩) p1 c3) : Value)) (q := (.int .i64 (k : Int) : Value)) (by kernel_rfl) (by kernel_rfl) (lev_addr_o ij0 ij1) (by kernel_rfl) hQS (Below.refl _ _) rfl
                  refine StepsT.cons (fun (x : Value) (_ : World) => x = (.agg #[.slice Bi nm di] : Value)) [(58, (fun (x : Value) (_ : World) => x = (.pointer (some ⟨b', o' + k, none⟩) : Value)))] rfl rfl (fun oq hop _ wq hQS => ?_) ?_
                  · refine StepFrom.more_eq ((.pointer (some ⟨b', o' + k, none⟩) : Value)) ?_
                    exact StepFrom.load hop (p := (.pointer (some ⟨b', o' + k, none⟩) : Value)) (by kernel_rfl) (load_lev_at ((hQS.cell (p := ⟨b', o' + k, none⟩) hbr').trans d1)) (by kernel_rfl) hQS (Below.refl _ _) rfl
                  refine StepsT.cons (fun (x : Value) (_ : World) => x = (.bool rk : Value)) [(54, (fun (x : Value) (_ : World) => x = (.agg #[.slice Ai nl ci] : Value))), (59, (fun (x : Value) (_ : World) => x = (.agg #[.slice Bi nm di] : Value)))] rfl rfl (fun oq hop _ wq hQS => ?_) ?_
                  · refine StepFrom.more_eq ((.agg #[.slice Ai nl ci] : Value)) ?_
                    refine StepFrom.more_eq ((.agg #[.slice Bi nm di] : Value)) ?_
                    exact StepFrom.call hop (vs := [(.agg #[.slice Ai nl ci] : Value), (.agg #[.slice Bi nm di] : Value)]) (by kernel_rfl) (fun w => enter_lsameA _ w) (by kernel_rfl) ((HCL.out wq hQS).mono fun e w9 h9 => by obtain ⟨q1, q2⟩ := h9; exact ⟨_, q1, hQS.trans (q2.mono hQS.size), q2, rfl⟩)
                  refine StepsT.cons (fun (x : Value) (_ : World) => x = (.bool (!rk) : Value)) [(60, (fun (x : Value) (_ : World) => x = (.bool rk : Value)))] rfl rfl (fun oq hop _ wq hQS => ?_) ?_
                  · refine StepFrom.more_eq ((.bool rk : Value)) ?_
                    exact StepFrom.not hop (b := rk) (by kernel_rfl) (by kernel_rfl) hQS (Below.refl _ _) rfl
                  exact StepsT.nil
                case hfin =>
                  intro wf hFS
                  refine FinalFrom.more fun x50 h50 => ?_
                  refine FinalFrom.more fun x51 h51 => ?_
                  refine FinalFrom.more fun x52 h52 => ?_
                  refine FinalFrom.more fun x53 h53 => ?_
                  refine FinalFrom.more fun x54 h54 => ?_
                  refine FinalFrom.more fun x55 h55 => ?_
                  refine FinalFrom.more fun x56 h56 => ?_
                  refine FinalFrom.more fun x57 h57 => ?_
                  refine FinalFrom.more fun x58 h58 => ?_
                  refine FinalFrom.more fun x59 h59 => ?_
                  refine FinalFrom.more fun x60 h60 => ?_
                  refine FinalFrom.more fun x61 h61 => ?_
                  refine FinalFrom.done ?_
                  obtain rfl : x61 = (.bool (!rk) : Value) := h61
                  have HB2 : Hid (Below w1.heap.size w1 wf) := HB.out.trans (hFS.mono hbz)
                  have HB3 : Hid (Below w.heap.size w wf) := HB1.out.trans (HB2.out.mono HB1.out.size)
                  clear hS hFS d0 d1 m3 l3 m4 l4
                  simp only [Act.put, List.setIfInBounds_toArray, List.set_cons_zero, List.set_cons_succ]
                  cases rk with
                  | true =>
                    have HSO2 : Hid (∀ (i : Nat) (x y : List (Int × Int)), i < k + 1 → lv1[i]? = some x → lv2[i]? = some y → nfA x = nfA y) := fun i x y hj ex ey => by
                      rcases Nat.lt_succ_iff_lt_or_eq.1 hj with hj | rfl
                      · exact HSO.out i x y hj ex ey
                      · have h1 := EL.out
                        have h2 := EM.out
                        rw [ex] at h1
                        rw [ey] at h2
                        injection h1 with h1
                        injection h2 with h2
                        rw [h1, h2]
                        exact HRK.out.1 rfl
                    go_wp2
                    go_roundw
                    case rel => exact ⟨k + 1, by omega, by go_num, HB2.out, HSO2.out⟩
                    case measure => simp [intOf]; omega
                  | false =>
                    have HF : Hid (r = false) := by
                      cases r with
                      | false => rfl
                      | true =>
                        have e := (map_one (by rw [HP1.out, HP3.out])).1 (HR.out.1 rfl).2.2.2.1 k _ _ EL.out EM.out
                        have := HRK.out.2 e
                        cases this
                    go_wp2
                    go_ret
                    exact ⟨by rw [HF.out]; rfl, HB3.out⟩
              · have HRL : Hid (lv1.map nfA = lv2.map nfA) := (map_one (by rw [HP1.out, HP3.out])).2 fun j x y hx hy => hso j x y (by
                  have := (List.getElem?_eq_some_iff.1 hx).1
                  rw [HP1.out] at this
                  omega) hx hy
                have HB := Lib.hid hb
                clear hb hso m3 l3 f3 g3
                obtain ⟨w2, hw2⟩ : ∃ x, wr = x := ⟨_, rfl⟩
                subst hw2
                go_wp2
                go_loopw [66] (fun i wr => ∃ j : Nat, j ≤ p2 ∧ i = .int .i64 (j : Int) ∧ Below w1.heap.size w1 wr ∧ ∀ (i : Nat) (x y : Tm), i < j → kids1[i]? = some x → kids2[i]? = some y → Tm.norm x = Tm.norm y) (fun i _ => p2 - (intOf i).toNat)
                case atStart => exact ⟨0, Nat.zero_le _, rfl, HB.out, fun i _ _ hj => absurd hj (by omega)⟩
                case round =>
                  clear hk hlt m4 l4 hbz HB
                  obtain ⟨k, hk, rfl, hb, hso⟩ := hrel
                  have hbz := hb.size
                  have m4 := (hb.cell (p := ⟨w.heap.size, 4, none⟩) HX.out.1).trans f4
                  have l4 := (hb.cell (p := ⟨w.heap.size + 1, 4, none⟩) HX.out.2).trans g4
                  have hb0 : Below w.heap.size w wr := HB1.out.trans (hb.mono HB1.out.size)
                  by_cases hlt : k < p2
                  · obtain ⟨t, el⟩ : ∃ t, kids1[k]? = some t := ⟨kids1[k]'(by rw [HP2.out]; exact hlt), List.getElem?_eq_getElem _⟩
                    obtain ⟨u, em⟩ : ∃ t, kids2[k]? = some t := ⟨kids2[k]'(by rw [HP4.out]; exact hlt), List.getElem?_eq_getElem _⟩
                    obtain ⟨b, o, i1, i2, i3, D3, q3, d3, D4, q4, d4, e, hbB, hvt, v0, v1, v2, v3, v4⟩ := H2.out.at hb0 el
                    obtain ⟨b', o', j1, j2, j3, E3, q5, e3, E4, q6, e4, e', hbB', hvu, u0, u1, u2, u3, u4⟩ := H4.out.at hb0 em
                    subst e e'
                    have wt := (Tm.wideL_iff _).1 HC.out.2.2 t (List.mem_of_getElem? el)
                    have wu := (Tm.wideL_iff _).1 HC'.out.2.2 u (List.mem_of_getElem? em)
                    obtain ⟨rk, hrk⟩ := bool_is (t.norm = u.norm)
                    have HCK : Hid (∀ w', Below wr.heap.size wr w' → Calls Tryd.prog 14 #[.agg #[.int .i64 i1, .int .i64 i2, .int .i64 i3, .slice D3 q3 d3, .slice D4 q4 d4], .agg #[.int .i64 j1, .int .i64 j2, .int .i64 j3, .slice E3 q5 e3, .slice E4 q6 e4]] w' (HasPost w' rk)) := fun w' hx => by
                      have hx2 : Below w.heap.size w w' := hb0.trans (hx.mono hb0.size)
                      exact IH.out _ (List.mem_of_getElem? el) wt _ _ _ w' rk wu (hvt.below hx2 hx2.size) (hvu.below hx2 hx2.size) hrk
                    have HB := Lib.hid hb
                    have HSO := Lib.hid hso
                    have HRK := Lib.hid hrk
                    have EL := Lib.hid el
                    have EM := Lib.hid em
                    have ij0 : (0 : Int) ≤ (k : Int) := by omega
                    have ij1 : (k : Int) < (p2 : Int) := by omega
                    have z0 := hb0.size
                    have hbr : b < wr.heap.size := by omega
                    have hbr' : b' < wr.heap.size := by omega
                    have y0 : w.heap.size < wr.heap.size := by have := HX.out; omega
                    have y1 : w.heap.size + 1 < wr.heap.size := by have := HX.out; omega
                    clear hb hb0 hso hrk el em hvt hvu wt wu z0
                    go_upto_region 12 with (fail)
                    have hS : Below wr.heap.size wr wr.drew := (Below.refl _ _).drew
                    refine wp_region_tab (fun w' => Below wr.heap.size wr w') (fun w1 w2 : World => Below w1.heap.size w1 w2) [(fun (x : Value) (_ : World) => x = (.pointer (some ⟨w.heap.size, 4, none⟩) : Value)), (fun (x : Value) (_ : World) => x = (.slice (some ⟨b, o, none⟩) p2 c2 : Value)), (fun (x : Value) (_ : World) => x = (.int .i64 (k : Int) : Value)), (fun (x : Value) (_ : World) => x = (.pointer (some ⟨b, o + k * 5, none⟩) : Value)), (fun (x : Value) (_ : World) => x = (.agg #[.int .i64 i1, .int .i64 i2, .int .i64 i3, .slice D3 q3 d3, .slice D4 q4 d4] : Value)), (fun (x : Value) (_ : World) => x = (.pointer (some ⟨w.heap.size + 1, 4, none⟩) : Value)), (fun (x : Value) (_ : World) => x = ((.slice (some ⟨b', o', none⟩) p2 c4) : Value)), (fun (x : Value) (_ : World) => x = (.int .i64 (k : Int) : Value)), (fun (x : Value) (_ : World) => x = (.pointer (some ⟨b', o' + k * 5, none⟩) : Value)), (fun (x : Value) (_ : World) => x = (.agg #[.int .i64 j1, .int .i64 j2, .int .i64 j3, .slice E3 q5 e3, .slice E4 q6 e4] : Value)), (fun (x : Value) (_ : World) => x = (.bool rk : Value)), (fun (x : Value) (_ : World) => x = (.bool (!rk) : Value))] [⟨some 69, .fieldAddr 26 (.tmp 2) 4, none, []⟩, ⟨some 70, .load 24 (.tmp 69), none, [(69, 0)]⟩, ⟨some 71, .move (.tmp 6), none, []⟩, ⟨some 72, .indexAddr 24 (.tmp 70) (.tmp 71), none, [(70, 1), (71, 2)]⟩, ⟨some 73, .load 26 (.tmp 72), none, [(72, 3)]⟩, ⟨some 74, .fieldAddr 26 (.tmp 3) 4, none, []⟩, ⟨some 75, .load 24 (.tmp 74), none, [(74, 5)]⟩, ⟨some 76, .move (.tmp 6), none, []⟩, ⟨some 77, .indexAddr 24 (.tmp 75) (.tmp 76), none, [(75, 6), (76, 7)]⟩, ⟨some 78, .load 26 (.tmp 77), none, [(77, 8)]⟩, ⟨some 79, .call { callee := .value (.func 14), args := #[.tmp 73, .tmp 78], argTypes := #[26, 26] }, none, [(73, 4), (78, 9)]⟩, ⟨some 80, .unOp .not 4 (.tmp 79), none, [(79, 10)]⟩] [some 69, some 70, some 71, some 72, some 73, some 74, some 75, some 76, some 77, some 78, some 79, some 80] (by kernel_rfl) (by kernel_rfl) (by kernel_rfl) (by kernel_rfl) (by kernel_rfl) ?hS ?hmono ?hsteps ?hfin
                    case hS => exact hS
                    case hmono =>
                      refine MonoL.cons (fun x w1 w2 _ _ _ hx => hx) ?_
                      refine MonoL.cons (fun x w1 w2 _ _ _ hx => hx) ?_
                      refine MonoL.cons (fun x w1 w2 _ _ _ hx => hx) ?_
                      refine MonoL.cons (fun x w1 w2 _ _ _ hx => hx) ?_
                      refine MonoL.cons (fun x w1 w2 _ _ _ hx => hx) ?_
                      refine MonoL.cons (fun x w1 w2 _ _ _ hx => hx) ?_
                      refine MonoL.cons (fun x w1 w2 _ _ _ hx => hx) ?_
                      refine MonoL.cons (fun x w1 w2 _ _ _ hx => hx) ?_
                      refine MonoL.cons (fun x w1 w2 _ _ _ hx => hx) ?_
                      refine MonoL.cons (fun x w1 w2 _ _ _ hx => hx) ?_
                      refine MonoL.cons (fun x w1 w2 _ _ _ hx => hx) ?_
                      refine MonoL.cons (fun x w1 w2 _ _ _ hx => hx) ?_
                      exact MonoL.nil
                    case hsteps =>
                      refine StepsT.cons (fun (x : Value) (_ : World) => x = (.pointer (some ⟨w.heap.size, 4, none⟩) : Value)) [] rfl rfl (fun oq hop _ wq hQS => ?_) ?_
                      · exact StepFrom.fieldAddr hop (p := (.pointer (some ⟨w.heap.size, 0, none⟩) : Value)) (by kernel_rfl) (term_field 4 (by decide)) (by kernel_rfl) hQS (Below.refl _ _) rfl
                      refine StepsT.cons (fun (x : Value) (_ : World) => x = (.slice (some ⟨b, o, none⟩) p2 c2 : Value)) [(69, (fun (x : Value) (_ : World) => x = (.pointer (some ⟨w.heap.size, 4, none⟩) : Value)))] rfl rfl (fun oq hop _ wq hQS => ?_) ?_
                      · refine StepFrom.more_eq ((.pointer (some ⟨w.heap.size, 4, none⟩) : Value)) ?_
                        exact StepFrom.load hop (p := (.pointer (some ⟨w.heap.size, 4, none⟩) : Value)) (by kernel_rfl) (load_terms ((hQS.cell (p := ⟨w.heap.size, 4, none⟩) y0).trans m4)) (by kernel_rfl) hQS (Below.refl _ _) rfl
                      refine StepsT.cons (fun (x : Value) (_ : World) => x = (.int .i64 (k : Int) : Value)) [] rfl rfl (fun oq hop _ wq hQS => ?_) ?_
                      · exact StepFrom.move hop (v := (.int .i64 (k : Int) : Value)) (by kernel_rfl) (by kernel_rfl) hQS (Below.refl _ _) rfl
                      refine StepsT.cons (fun (x : Value) (_ : World) => x = (.pointer (some ⟨b, o + k * 5, none⟩) : Value)) [(70, (fun (x : Value) (_ : World) => x = (.slice (some ⟨b, o, none⟩) p2 c2 : Value))), (71, (fun (x : Value) (_ : World) => x = (.int .i64 (k : Int) : Value)))] rfl rfl (fun oq hop _ wq hQS => ?_) ?_
                      · refine StepFrom.more_eq ((.slice (some ⟨b, o, none⟩) p2 c2 : Value)) ?_
                        refine StepFrom.more_eq ((.int .i64 (k : Int) : Value)) ?_
                        exact StepFrom.indexAddr hop (p := (.slice (some ⟨b, o, none⟩) p2 c2 : Value)) (q := (.int .i64 (k : Int) : Value)) (by kernel_rfl) (by kernel_rfl) (term_addr ij0 ij1) (by kernel_rfl) hQS (Below.refl _ _) rfl
                      refine StepsT.cons (fun (x : Value) (_ : World) => x = (.agg #[.int .i64 i1, .int .i64 i2, .int .i64 i3, .slice D3 q3 d3, .slice D4 q4 d4] : Value)) [(72, (fun (x : Value) (_ : World) => x = (.pointer (some ⟨b, o + k * 5, none⟩) : Value)))] rfl rfl (fun oq hop _ wq hQS => ?_) ?_
                      · refine StepFrom.more_eq ((.pointer (some ⟨b, o + k * 5, none⟩) : Value)) ?_
                        exact StepFrom.load hop (p := (.pointer (some ⟨b, o + k * 5, none⟩) : Value)) (by kernel_rfl) (load_term ((hQS.cell (p := ⟨b, o + k * 5, none⟩) hbr).trans v0) ((hQS.cell (p := ⟨b, o + k * 5 + 1, none⟩) hbr).trans v1) ((hQS.cell (p := ⟨b, o + k * 5 + 2, none⟩) hbr).trans v2) ((hQS.cell (p := ⟨b, o + k * 5 + 3, none⟩) hbr).trans v3) ((hQS.cell (p := ⟨b, o + k * 5 + 4, none⟩) hbr).trans v4)) (by kernel_rfl) hQS (Below.refl _ _) rfl
                      refine StepsT.cons (fun (x : Value) (_ : World) => x = (.pointer (some ⟨w.heap.size + 1, 4, none⟩) : Value)) [] rfl rfl (fun oq hop _ wq hQS => ?_) ?_
                      · exact StepFrom.fieldAddr hop (p := (.pointer (some ⟨w.heap.size + 1, 0, none⟩) : Value)) (by kernel_rfl) (term_field 4 (by decide)) (by kernel_rfl) hQS (Below.refl _ _) rfl
                      refine StepsT.cons (fun (x : Value) (_ : World) => x = ((.slice (some ⟨b', o', none⟩) p2 c4) : Value)) [(74, (fun (x : Value) (_ : World) => x = (.pointer (some ⟨w.heap.size + 1, 4, none⟩) : Value)))] rfl rfl (fun oq hop _ wq hQS => ?_) ?_
                      · refine StepFrom.more_eq ((.pointer (some ⟨w.heap.size + 1, 4, none⟩) : Value)) ?_
                        exact StepFrom.load hop (p := (.pointer (some ⟨w.heap.size + 1, 4, none⟩) : Value)) (by kernel_rfl) (load_terms ((hQS.cell (p := ⟨w.heap.size + 1, 4, none⟩) y1).trans l4)) (by kernel_rfl) hQS (Below.refl _ _) rfl
                      refine StepsT.cons (fun (x : Value) (_ : World) => x = (.int .i64 (k : Int) : Value)) [] rfl rfl (fun oq hop _ wq hQS => ?_) ?_
                      · exact StepFrom.move hop (v := (.int .i64 (k : Int) : Value)) (by kernel_rfl) (by kernel_rfl) hQS (Below.refl _ _) rfl
                      refine StepsT.cons (fun (x : Value) (_ : World) => x = (.pointer (some ⟨b', o' + k * 5, none⟩) : Value)) [(75, (fun (x : Value) (_ : World) => x = ((.slice (some ⟨b', o', none⟩) p2 c4) : Value))), (76, (fun (x : Value) (_ : World) => x = (.int .i64 (k : Int) : Value)))] rfl rfl (fun oq hop _ wq hQS => ?_) ?_
                      · refine StepFrom.more_eq (((.slice (some ⟨b', o', none⟩) p2 c4) : Value)) ?_
                        refine StepFrom.more_eq ((.int .i64 (k : Int) : Value)) ?_
                        exact StepFrom.indexAddr hop (p := ((.slice (some ⟨b', o', none⟩) p2 c4) : Value)) (q := (.int .i64 (k : Int) : Value)) (by kernel_rfl) (by kernel_rfl) (term_addr ij0 ij1) (by kernel_rfl) hQS (Below.refl _ _) rfl
                      refine StepsT.cons (fun (x : Value) (_ : World) => x = (.agg #[.int .i64 j1, .int .i64 j2, .int .i64 j3, .slice E3 q5 e3, .slice E4 q6 e4] : Value)) [(77, (fun (x : Value) (_ : World) => x = (.pointer (some ⟨b', o' + k * 5, none⟩) : Value)))] rfl rfl (fun oq hop _ wq hQS => ?_) ?_
                      · refine StepFrom.more_eq ((.pointer (some ⟨b', o' + k * 5, none⟩) : Value)) ?_
                        exact StepFrom.load hop (p := (.pointer (some ⟨b', o' + k * 5, none⟩) : Value)) (by kernel_rfl) (load_term ((hQS.cell (p := ⟨b', o' + k * 5, none⟩) hbr').trans u0) ((hQS.cell (p := ⟨b', o' + k * 5 + 1, none⟩) hbr').trans u1) ((hQS.cell (p := ⟨b', o' + k * 5 + 2, none⟩) hbr').trans u2) ((hQS.cell (p := ⟨b', o' + k * 5 + 3, none⟩) hbr').trans u3) ((hQS.cell (p := ⟨b', o' + k * 5 + 4, none⟩) hbr').trans u4)) (by kernel_rfl) hQS (Below.refl _ _) rfl
                      refine StepsT.cons (fun (x : Value) (_ : World) => x = (.bool rk : Value)) [(73, (fun (x : Value) (_ : World) => x = (.agg #[.int .i64 i1, .int .i64 i2, .int .i64 i3, .slice D3 q3 d3, .slice D4 q4 d4] : Value))), (78, (fun (x : Value) (_ : World) => x = (.agg #[.int .i64 j1, .int .i64 j2, .int .i64 j3, .slice E3 q5 e3, .slice E4 q6 e4] : Value)))] rfl rfl (fun oq hop _ wq hQS => ?_) ?_
                      · refine StepFrom.more_eq ((.agg #[.int .i64 i1, .int .i64 i2, .int .i64 i3, .slice D3 q3 d3, .slice D4 q4 d4] : Value)) ?_
                        refine StepFrom.more_eq ((.agg #[.int .i64 j1, .int .i64 j2, .int .i64 j3, .slice E3 q5 e3, .slice E4 q6 e4] : Value)) ?_
                        exact StepFrom.call hop (vs := [(.agg #[.int .i64 i1, .int .i64 i2, .int .i64 i3, .slice D3 q3 d3, .slice D4 q4 d4] : Value), (.agg #[.int .i64 j1, .int .i64 j2, .int .i64 j3, .slice E3 q5 e3, .slice E4 q6 e4] : Value)]) (by kernel_rfl) (fun w => enter_sameOne _ w) (by kernel_rfl) ((HCK.out wq hQS).mono fun e w9 h9 => by obtain ⟨q1, q2⟩ := h9; exact ⟨_, q1, hQS.trans (q2.mono hQS.size), q2, rfl⟩)
                      refine StepsT.cons (fun (x : Value) (_ : World) => x = (.bool (!rk) : Value)) [(79, (fun (x : Value) (_ : World) => x = (.bool rk : Value)))] rfl rfl (fun oq hop _ wq hQS => ?_) ?_
                      · refine StepFrom.more_eq ((.bool rk : Value)) ?_
                        exact StepFrom.not hop (b := rk) (by kernel_rfl) (by kernel_rfl) hQS (Below.refl _ _) rfl
                      exact StepsT.nil
                    case hfin =>
                      intro wf hFS
                      refine FinalFrom.more fun x69 h69 => ?_
                      refine FinalFrom.more fun x70 h70 => ?_
                      refine FinalFrom.more fun x71 h71 => ?_
                      refine FinalFrom.more fun x72 h72 => ?_
                      refine FinalFrom.more fun x73 h73 => ?_
                      refine FinalFrom.more fun x74 h74 => ?_
                      refine FinalFrom.more fun x75 h75 => ?_
                      refine FinalFrom.more fun x76 h76 => ?_
                      refine FinalFrom.more fun x77 h77 => ?_
                      refine FinalFrom.more fun x78 h78 => ?_
                      refine FinalFrom.more fun x79 h79 => ?_
                      refine FinalFrom.more fun x80 h80 => ?_
                      refine FinalFrom.done ?_
                      obtain rfl : x80 = (.bool (!rk) : Value) := h80
                      have HB2 : Hid (Below w1.heap.size w1 wf) := HB.out.trans (hFS.mono hbz)
                      have HB3 : Hid (Below w.heap.size w wf) := HB1.out.trans (HB2.out.mono HB1.out.size)
                      clear hS hFS m4 l4 v0 v1 v2 v3 v4 u0 u1 u2 u3 u4
                      simp only [Act.put, List.setIfInBounds_toArray, List.set_cons_zero, List.set_cons_succ]
                      cases rk with
                      | true =>
                        have HSO2 : Hid (∀ (i : Nat) (x y : Tm), i < k + 1 → kids1[i]? = some x → kids2[i]? = some y → Tm.norm x = Tm.norm y) := fun i x y hj ex ey => by
                          rcases Nat.lt_succ_iff_lt_or_eq.1 hj with hj | rfl
                          · exact HSO.out i x y hj ex ey
                          · have h1 := EL.out
                            have h2 := EM.out
                            rw [ex] at h1
                            rw [ey] at h2
                            injection h1 with h1
                            injection h2 with h2
                            rw [h1, h2]
                            exact HRK.out.1 rfl
                        go_wp2
                        go_roundw
                        case rel => exact ⟨k + 1, by omega, by go_num, HB2.out, HSO2.out⟩
                        case measure => simp [intOf]; omega
                      | false =>
                        have HF : Hid (r = false) := by
                          cases r with
                          | false => rfl
                          | true =>
                            have e := (map_one (by rw [HP2.out, HP4.out])).1 (HR.out.1 rfl).2.2.2.2 k _ _ EL.out EM.out
                            have := HRK.out.2 e
                            cases this
                        go_wp2
                        go_ret
                        exact ⟨by rw [HF.out]; rfl, HB3.out⟩
                  · have HF : Hid (r = true) := HR.out.2 ⟨trivial, trivial, trivial, HRL.out, (map_one (by rw [HP2.out, HP4.out])).2 fun j x y hx hy => hso j x y (by
                      have := (List.getElem?_eq_some_iff.1 hx).1
                      rw [HP2.out] at this
                      omega) hx hy⟩
                    have HB3 : Hid (Below w.heap.size w wr) := hb0
                    clear hb hb0 hso m4 l4
                    go_wp2
                    go_ret
                    exact ⟨by rw [HF.out]; rfl, HB3.out⟩
          · have s5 : ((p1 : Int) != (p3 : Int)) = true := by simp; omega
            have HF : Hid (r = false) := by
              cases r with
              | false => rfl
              | true => exact absurd rfl (fun h => e5 (by rw [← HP1.out, ← HP3.out]; exact map_len (HR.out.1 h).2.2.2.1))
            go_enter Tryd.func14, Tryd.ntmps14
            go_wp2
            go_ret
            exact ⟨by rw [HF.out]; rfl, HB1.out⟩
        · have s4 : ((p2 : Int) != (p4 : Int)) = true := by simp; omega
          have HF : Hid (r = false) := by
            cases r with
            | false => rfl
            | true => exact absurd rfl (fun h => e4 (by rw [← HP2.out, ← HP4.out]; exact map_len (HR.out.1 h).2.2.2.2))
          go_enter Tryd.func14, Tryd.ntmps14
          go_wp2
          go_ret
          exact ⟨by rw [HF.out]; rfl, HB1.out⟩
      · have s3 : (a1 != a2) = true := by simp; omega
        have HF : Hid (r = false) := by
          cases r with
          | false => rfl
          | true => exact absurd rfl (fun h => e3 (HR.out.1 h).2.2.1)
        go_enter Tryd.func14, Tryd.ntmps14
        go_wp2
        go_ret
        exact ⟨by rw [HF.out]; rfl, HB1.out⟩
    · have s2 : (n1 != n2) = true := by simp; omega
      have HF : Hid (r = false) := by
        cases r with
        | false => rfl
        | true => exact absurd rfl (fun h => e2 (HR.out.1 h).2.1)
      go_enter Tryd.func14, Tryd.ntmps14
      go_wp2
      go_ret
      exact ⟨by rw [HF.out]; rfl, HB1.out⟩
  · have s1 : (k1 != k2) = true := by simp; omega
    have HF : Hid (r = false) := by
      cases r with
      | false => rfl
      | true => exact absurd rfl (fun h => e1 (HR.out.1 h).1)
    go_enter Tryd.func14, Tryd.ntmps14
    go_wp2
    go_ret
    exact ⟨by rw [HF.out]; rfl, HB1.out⟩
/-- term.Same: are two terms one, but for their levels' writing? -/
theorem one_any : ∀ t : Tm, OneTm t := by
  intro t
  induction t using Tm.ind with
  | h k n a lv kids ih =>
    intro hc u va vb w r hc' ha hb hr
    obtain ⟨k2, n2, a2, lv2, kids2⟩ := u
    obtain ⟨A1, c1, A2, c2, rfl, _, h1, h2⟩ := ha.open
    obtain ⟨A3, c3, A4, c4, rfl, _, h3, h4⟩ := hb.open
    exact one_of k n a k2 n2 a2 lv lv2 kids kids2 ih A1 A2 A3 A4 c1 c2 c3 c4 _ _ _ _ w r rfl rfl rfl rfl hc hc' h1 h2 h3 h4 hr
end Go.Proofs.YtafgmndlbbjphaaDoor
