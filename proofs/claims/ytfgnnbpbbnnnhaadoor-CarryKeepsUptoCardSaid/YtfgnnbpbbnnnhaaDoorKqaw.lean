/- Laws. -/
import Derived.Test.YtfgnnbpbbnnnhaaDoorKqaq
import Derived.Test.YtfgnnbpbbnnnhaaDoorKqau
import Derived.Test.YtfgnnbpbbnnnhaaDoorKqav
namespace Go.Proofs.YtfgnnbpbbnnnhaaDoor
open Go.RowKit Go.Maps
mutual
/-- how often an outer variable occurs in a term below so many binders -/
def Tm.uses (N : Int) (d : Nat) : Tm → Nat
  | .mk k n _ _ kids => (if k = 1 ∧ (d : Int) ≤ n ∧ n - d = N then 1 else 0) + Tm.usesL N d k 0 kids
def Tm.usesL (N : Int) (d : Nat) (k : Int) (i : Nat) : List Tm → Nat
  | [] => 0
  | t :: ts => t.uses N (d + under k i) + Tm.usesL N d k (i + 1) ts
end
theorem Tm.uses_mk (N : Int) (d : Nat) (k n a : Int) (lv : List (List (Int × Int))) (kids : List Tm) : (Tm.mk k n a lv kids).uses N d = (if k = 1 ∧ (d : Int) ≤ n ∧ n - d = N then 1 else 0) + Tm.usesL N d k 0 kids := by rw [Tm.uses]
theorem Tm.usesL_take (N : Int) (d : Nat) (k : Int) : ∀ (ts : List Tm) (i j : Nat) (t : Tm), ts[j]? = some t → Tm.usesL N d k i (ts.take (j + 1)) = Tm.usesL N d k i (ts.take j) + t.uses N (d + under k (i + j))
  | [], i, j, t, h => by simp at h
  | s :: ts, i, 0, t, h => by
    injection h with h
    subst h
    simp [Tm.usesL]
  | s :: ts, i, j + 1, t, h => by
    have := Tm.usesL_take N d k ts (i + 1) j t (by simpa using h)
    simp only [List.take_succ_cons, Tm.usesL, this]
    rw [show i + 1 + j = i + (j + 1) by omega]
    omega
mutual
theorem Tm.uses_le (N : Int) : ∀ (t : Tm) (d : Nat), t.uses N d ≤ t.size
  | .mk k n a lv kids, d => by
    have := Tm.usesL_le N kids d k 0
    rw [Tm.uses_mk, Tm.size_mk]
    split <;> omega
theorem Tm.usesL_le (N : Int) : ∀ (ts : List Tm) (d : Nat) (k : Int) (i : Nat), Tm.usesL N d k i ts ≤ Tm.sizeL ts
  | [], d, k, i => by simp [Tm.usesL, Tm.sizeL]
  | t :: ts, d, k, i => by
    have h1 := Tm.uses_le N t (d + under k i)
    have h2 := Tm.usesL_le N ts d k (i + 1)
    simp only [Tm.usesL, Tm.sizeL]
    omega
end
theorem sizeL_take_le : ∀ (ts : List Tm) (i : Nat), Tm.sizeL (ts.take i) ≤ Tm.sizeL ts
  | [], i => by simp [Tm.sizeL]
  | t :: ts, 0 => by simp [Tm.sizeL]
  | t :: ts, i + 1 => by
    have := sizeL_take_le ts i
    simp only [List.take_succ_cons, Tm.sizeL]
    omega
/-- the count in its box -/
def Cnt (w : World) (g c : Nat) : Prop := w.heap[g]? = some (.cells #[.int .i64 (c : Int)] 3 (0, 0))
set_option maxRecDepth 100000 in
set_option maxHeartbeats 1000000 in
theorem uses1_any (x N : Int) (pn pu c : Nat) (w : World) (h1 : w.cell? ⟨pn, 0, none⟩ = some (.int .i64 N)) (h2 : Cnt w pu c) (hc : c ≤ 1099511627776) :
    Calls Tryd.prog 55 #[.int .i64 x, .pointer (some ⟨pn, 0, none⟩), .pointer (some ⟨pu, 0, none⟩)] w (fun e w' => e = .returned (.bool true) ∧ Cnt w' pu (c + if x = N then 1 else 0) ∧ OutIn pu (pu + 1) w w') := by
  have a0 := cell_of_one h2
  have u0 := thawed h2 0
  by_cases hx : x = N
  · subst hx
    have HF : Hid (Cnt (w.setCell ⟨pu, 0, none⟩ (.int .i64 ((c : Int) + 1))) pu (c + if x = x then 1 else 0)) := by
      rw [if_pos rfl]
      exact one_setCell h2
    have HO : Hid (OutIn pu (pu + 1) w (w.setCell ⟨pu, 0, none⟩ (.int .i64 ((c : Int) + 1)))) := (OutIn.refl _ _ _).setCell _ (Or.inl ⟨Nat.le_refl _, Nat.lt_succ_self _⟩)
    clear h2
    go_enter Tryd.func55, Tryd.ntmps55
    go_wp2
    go_ret
    exact ⟨rfl, HF.out, HO.out⟩
  · have HF : Hid (Cnt w pu c) := h2
    have hb : (x == N) = false := by simpa using hx
    clear h2
    go_enter Tryd.func55, Tryd.ntmps55
    go_wp2
    go_ret
    exact ⟨rfl, HF.out, OutIn.refl _ _ _⟩
/-- what look does with a term where Uses counts -/
def UsesTm (W : World) (B D : Nat) (N : Int) (pn pu : Nat) (t : Tm) : Prop := t.fit → ∀ (d c : Nat) (v : Value) (w : World), d + t.size ≤ D → Below B W w → B ≤ w.heap.size → B ≤ pu → pn < w.heap.size → pn ≠ pu → w.cell? ⟨pn, 0, none⟩ = some (.int .i64 N) → Cnt w pu c → c + t.size ≤ 1099511627776 → TmAt W B t v →
  Calls Tryd.prog 52 #[.agg #[.int .i64 (d : Int)], v, .func (.func 55) #[] #[.pointer (some ⟨pn, 0, none⟩), .pointer (some ⟨pu, 0, none⟩)]] w (fun e w' => e = .returned (.bool true) ∧ Cnt w' pu (c + t.uses N d) ∧ OutIn pu (pu + 1) w w')
set_option maxRecDepth 100000 in
set_option maxHeartbeats 4000000 in
theorem uses_of (W : World) (B D : Nat) (N : Int) (pn pu : Nat) (hD : D ≤ 1073741824) (hB : 0 < B) (hK : KindsAt W)
    (k n a : Int) (lv : List (List (Int × Int))) (kids : List Tm) (ih : ∀ t ∈ kids, UsesTm W B D N pn pu t) : UsesTm W B D N pn pu (.mk k n a lv kids) := by
  intro hf d c v w hd hb hBw hBu hpn hne hN hC hc9 hT
  obtain ⟨Al, cl, Ak, ck, rfl, _, _, hv⟩ := hT.open
  obtain ⟨p1, hp1⟩ : ∃ p, lv.length = p := ⟨_, rfl⟩
  obtain ⟨p2, hp2⟩ : ∃ p, kids.length = p := ⟨_, rfl⟩
  rw [hp1, hp2] at hT ⊢
  obtain ⟨w1, hw1⟩ : ∃ x, (w.alloc (.cells #[.int .i64 (d : Int)] 72)).alloc (.cells #[.int .i64 k, .int .i64 n, .int .i64 a, .slice Al p1 cl, .slice Ak p2 ck] 27) = x := ⟨_, rfl⟩
  have hb1 : Below w.heap.size w w1 := by rw [← hw1]; exact ((Below.refl _ _).alloc (Nat.le_refl _) _).alloc (by simp) _
  have hs1 : w1.heap.size = w.heap.size + 2 := by rw [← hw1]; simp
  obtain ⟨x0, x1, _⟩ := two_allocs w (.cells #[.int .i64 (d : Int)] 72) (.cells #[.int .i64 k, .int .i64 n, .int .i64 a, .slice Al p1 cl, .slice Ak p2 ck] 27)
  rw [hw1] at x0 x1
  rw [Tm.fit_mk] at hf
  rw [Tm.size_mk] at hd hc9
  have HM : Hid (Calls Tryd.prog 36 #[.agg #[.int .i64 (d : Int)], .int .i64 n] w1 (fun e w9 => e = .returned (meansS d n) ∧ Below w1.heap.size w1 w9)) := means_any d n w1 hf.1
  have y0 := cell_of_one x0
  have y1 := cell_of_row _ _ 0 _ _ (0, 0) x1
  have y2 := cell_of_row _ _ 1 _ _ (0, 0) x1
  have y3 := cell_of_row _ _ 4 _ _ (0, 0) x1
  have hpu := heap_some_lt hC
  have HB1 := Lib.hid hb1
  have HS1 := Lib.hid hs1
  have X0 := Lib.hid x0
  have X1 := Lib.hid x1
  have HBW := Lib.hid hb
  have HL := Lib.hid hv
  have HN2 := Lib.hid hp2
  have IH := Lib.hid ih
  have HK := Lib.hid hK
  have HNN := Lib.hid hN
  have HCC := Lib.hid hC
  have HKF : Hid (∀ t ∈ kids, t.fit) := (Tm.fitL_iff kids).1 hf.2.2.2
  have hl6 : p2 ≤ 1048576 := by rw [← hp2]; exact hf.2.2.1
  have HSZ : Hid (∀ t ∈ kids, ∀ u, u ≤ 1 → d + u + t.size ≤ D) := fun t ht u hu => by
    have := Tm.sizeL_mem ht
    omega
  have hd6 : d ≤ 1073741824 := by omega
  obtain ⟨U, hU⟩ : ∃ U, (Tm.mk k n a lv kids).uses N d = U := ⟨_, rfl⟩
  obtain ⟨h9, hh9⟩ : ∃ h, (if k = 1 ∧ (d : Int) ≤ n ∧ n - d = N then 1 else 0) = h := ⟨_, rfl⟩
  have HU : Hid (h9 + Tm.usesL N d k 0 kids = U) := by
    show _ = _
    rw [← hU, Tm.uses_mk, hh9]
  have HH9 := Lib.hid hh9
  have hh91 : h9 ≤ 1 := by rw [← hh9]; split <;> omega
  rw [hU]
  clear x0 x1 hb1 hs1 hb hv hp1 hp2 ih hK hf hd hU hh9 hN hC hT
  go_enter Tryd.func52, Tryd.ntmps52
  go_wp2_with (fail)
  refine HM.out.mono ?_
  rintro e w2 ⟨rfl, hb2⟩
  have hs1 := HS1.out
  have z0 := (hb2.cell (p := ⟨w.heap.size, 0, none⟩) (show w.heap.size < w1.heap.size by omega)).trans y0
  have z1 := (hb2.cell (p := ⟨w.heap.size + 1, 0, none⟩) (show w.heap.size + 1 < w1.heap.size by omega)).trans y1
  have hs2 := hb2.size
  have HB2 : Hid (Below w.heap.size w w2) := HB1.out.trans (hb2.mono (by omega))
  have Y0 := Lib.hid ((hb2.block _ (heap_some_lt X0.out)).trans X0.out)
  have Y1 := Lib.hid ((hb2.block _ (heap_some_lt X1.out)).trans X1.out)
  have HCC2 : Hid (Cnt w2 pu c) := (HB2.out.block _ hpu).trans HCC.out
  have HNN2 : Hid (w2.cell? ⟨pn, 0, none⟩ = some (.int .i64 N)) := (HB2.out.cell (p := ⟨pn, 0, none⟩) hpn).trans HNN.out
  clear hb2 y0 y1 y2 y3 HM hs1 HB1 X0 X1 HCC
  obtain ⟨rr, hrr⟩ : ∃ r : Bool, decide (n < (d : Int)) = r := ⟨_, rfl⟩
  obtain ⟨q, hq⟩ : ∃ q : Int, (if n < (d : Int) then 0 else n - (d : Int)) = q := ⟨_, rfl⟩
  have hmean : meansS d n = .tuple #[.int .i64 q, .bool (!rr)] := by
    rw [← hrr, ← hq]
    unfold meansS
    by_cases h : n < (d : Int) <;> simp [h]
  rw [hmean]
  have HRR := Lib.hid hrr
  have HQQ := Lib.hid hq
  clear hrr hq hmean
  go_upto_region 2 with (fail)
  go_cut [29] from 18 to 29 (fun r wc => r = .bool false ∧ Cnt wc pu (c + h9) ∧ OutIn pu (pu + 1) w2 wc)
  case first =>
    cases rr with
    | true =>
      have hz9 : h9 = 0 := by
        have h1 := HH9.out
        have h2 := of_decide_eq_true HRR.out
        rw [if_neg (by omega)] at h1
        exact h1.symm
      subst hz9
      go_wp2_with (fail)
      go_meet
      case rel => exact ⟨rfl, HCC2.out, OutIn.refl _ _ _⟩
    | false =>
      have hge := of_decide_eq_false HRR.out
      have hq := HQQ.out
      rw [if_neg hge] at hq
      obtain ⟨k1, hk1⟩ : ∃ b : Bool, (k == 1) = b := ⟨_, rfl⟩
      have HK1 := Lib.hid hk1
      cases k1 with
      | false =>
        have hz9 : h9 = 0 := by
          have h1 := HH9.out
          have h2 : ¬ k = 1 := by simpa using HK1.out
          rw [if_neg (by omega)] at h1
          exact h1.symm
        subst hz9
        go_wp2_with (fail)
        go_meet
        case rel => exact ⟨rfl, HCC2.out, OutIn.refl _ _ _⟩
      | true =>
        have hz9 : (if q = N then 1 else 0) = h9 := by
          have h1 := HH9.out
          have h2 : k = 1 := by simpa using HK1.out
          rw [← h1]
          by_cases e : q = N
          · rw [if_pos e, if_pos (by omega)]
          · rw [if_neg e, if_neg (by omega)]
        have HT := Lib.hid (uses1_any q N pn pu c w2 HNN2.out HCC2.out (by omega))
        rw [hz9] at HT
        clear hz9 hq hge
        go_wp2_with (fail)
        refine HT.out.mono ?_
        rintro e w3 ⟨rfl, hc3, ho3⟩
        have HC3 := Lib.hid hc3
        have HO3 := Lib.hid ho3
        clear hc3 ho3
        go_wp2_with (fail)
        go_meet
        case rel => exact ⟨rfl, HC3.out, HO3.out⟩
  case rest =>
    obtain ⟨rfl, hc3, ho3⟩ := hcut
    have hs1 := HS1.out
    have hzc := ho3.size
    have v0 := (ho3.block _ (show w.heap.size < w2.heap.size by omega) (Or.inr (by omega))).trans Y0.out
    have v1 := (ho3.block _ (show w.heap.size + 1 < w2.heap.size by omega) (Or.inr (by omega))).trans Y1.out
    have a4 := cell_of_row _ _ 4 _ _ (0, 0) v1
    have V0 := Lib.hid v0
    have V1 := Lib.hid v1
    have HC3 := Lib.hid hc3
    have HO3 := Lib.hid ho3
    have HWC : Hid (OutIn pu (pu + 1) w wc) := (OutIn.of_below HB2.out (Nat.le_refl _)).trans ho3
    have hpnc : wc.cell? ⟨pn, 0, none⟩ = some (.int .i64 N) := (World.cell?_of_block (ho3.block pn (by omega) (by omega))).trans HNN2.out
    have HPN := Lib.hid hpnc
    have HHE := Lib.hid hh91
    clear hc3 ho3 v0 v1 Y0 Y1 z0 z1 HRR HQQ HH9 hh91 hpnc HNN HNN2 HCC2 HB2
    go_wp2_with (fail)
    clear a4
    go_loopw [33] (fun i wr => ∃ j : Nat, j ≤ p2 ∧ i = .int .i64 (j : Int) ∧ Cnt wr pu (c + h9 + Tm.usesL N d k 0 (kids.take j)) ∧ OutIn pu (pu + 1) wc wr) (fun i _ => p2 - (intOf i).toNat)
    case atStart => exact ⟨0, Nat.zero_le _, rfl, by simpa [Tm.usesL] using HC3.out, OutIn.refl _ _ _⟩
    case round =>
      obtain ⟨j, hj, rfl, hcn, hout⟩ := hrel
      have hzr := hout.size
      have HWR : Hid (OutIn pu (pu + 1) w wr) := HWC.out.trans hout
      have HBWr : Hid (Below B W wr) := HBW.out.trans (HWR.out.below hBu hBw)
      have HCN := Lib.hid hcn
      have HOUT := Lib.hid hout
      by_cases hlt : j < p2
      · obtain ⟨t, ht⟩ : ∃ t, kids[j]? = some t := ⟨_, List.getElem?_eq_getElem (by rw [HN2.out]; exact hlt)⟩
        obtain ⟨b, o, k2, n2, a2, A3, p3, c3, A4, p4, c4, e, hbB, hvt, f0, f1, f2, f3, f4⟩ := HL.out.at HBWr.out ht
        subst e
        obtain ⟨wk, hwk⟩ : ∃ x, wr.alloc (.cells #[.int .i64 k2, .int .i64 n2, .int .i64 a2, .slice A3 p3 c3, .slice A4 p4 c4] 27) = x := ⟨_, rfl⟩
        have hbk : Below wr.heap.size wr wk := by rw [← hwk]; exact (Below.refl _ _).alloc (Nat.le_refl _) _
        have hsk : wk.heap.size = wr.heap.size + 1 := by rw [← hwk]; simp
        have xk : wk.heap[wr.heap.size]? = some (.cells #[.int .i64 k2, .int .i64 n2, .int .i64 a2, .slice A3 p3 c3, .slice A4 p4 c4] 27 (0, 0)) := by rw [← hwk]; exact heap_alloc_new wr _
        have q0 := ((hbk.block _ (by omega)).trans (hout.block _ (show w.heap.size < wc.heap.size by omega) (Or.inr (by omega)))).trans V0.out
        have q1 := ((hbk.block _ (by omega)).trans (hout.block _ (show w.heap.size + 1 < wc.heap.size by omega) (Or.inr (by omega)))).trans V1.out
        have hck : Cnt wk pu (c + h9 + Tm.usesL N d k 0 (kids.take j)) := (hbk.block _ (by omega)).trans hcn
        have hpk : wk.cell? ⟨pn, 0, none⟩ = some (.int .i64 N) := (hbk.cell (p := ⟨pn, 0, none⟩) (show pn < wr.heap.size by omega)).trans ((World.cell?_of_block (hout.block pn (by omega) (by omega))).trans HPN.out)
        obtain ⟨du, hdu⟩ : ∃ x, d + under k j = x := ⟨_, rfl⟩
        obtain ⟨cj, hcj⟩ : ∃ x, c + h9 + Tm.usesL N d k 0 (kids.take j) = x := ⟨_, rfl⟩
        have htk := Tm.usesL_take N d k kids 0 j t ht
        rw [Nat.zero_add, hdu] at htk
        have hm := List.mem_of_getElem? ht
        have hcb : cj + t.size ≤ 1099511627776 := by
          have h1 := Tm.usesL_le N (kids.take j) d k 0
          have h2 := Tm.sizeL_take kids j t ht
          have h3 := sizeL_take_le kids (j + 1)
          have h4 := HHE.out
          omega
        rw [hcj] at hck
        have QK0 := Lib.hid q0
        have QK1 := Lib.hid q1
        have QK2 := Lib.hid xk
        have HBK : Hid (Below B W wk) := HBWr.out.trans (hbk.mono (by omega))
        have HCK := Lib.hid hck
        have HPK := Lib.hid hpk
        have HSK := Lib.hid hsk
        have hBk : B ≤ wk.heap.size := by omega
        have HOK9 : Hid (OutIn pu (pu + 1) wc wk) := hout.trans (OutIn.of_below hbk (Nat.le_refl _))
        have HCB : Hid (∀ w', OutIn pu (pu + 1) wk w' → Calls Tryd.prog 82 #[.agg #[.int .i64 (d : Int)], .int .i64 k, .int .i64 (j : Int)] w' (fun e w9 => e = .returned (.agg #[.int .i64 (du : Int)]) ∧ Below w'.heap.size w' w9)) := fun w' hx => by
          rw [← hdu]
          exact below_any d k j w' hd6 (by omega) (HK.out.below (HBK.out.trans (hx.below hBu hBk)) hB)
        have HCL : Hid (∀ w', OutIn pu (pu + 1) wk w' → Cnt w' pu cj → Calls Tryd.prog 52 #[.agg #[.int .i64 (du : Int)], .agg #[.int .i64 k2, .int .i64 n2, .int .i64 a2, .slice A3 p3 c3, .slice A4 p4 c4], .func (.func 55) #[] #[.pointer (some ⟨pn, 0, none⟩), .pointer (some ⟨pu, 0, none⟩)]] w' (fun e w9 => e = .returned (.bool true) ∧ Cnt w9 pu (cj + t.uses N du) ∧ OutIn pu (pu + 1) w' w9)) := fun w' hx hc => by
          have hz := hx.size
          refine IH.out t hm (HKF.out t hm) du cj _ w' ?_ (HBK.out.trans (hx.below hBu hBk)) (by omega) hBu (by omega) hne ?_ hc hcb hvt
          · rw [← hdu]; exact HSZ.out t hm _ (under_le k j)
          · exact (World.cell?_of_block (hx.block pn (by omega) (by omega))).trans HPK.out
        have HSR : Hid (∀ w', OutIn pu (pu + 1) wk w' → w'.cell? ⟨w.heap.size, 0, none⟩ = some (.int .i64 (d : Int)) ∧ w'.cell? ⟨w.heap.size + 1, 0, none⟩ = some (.int .i64 k) ∧ w'.cell? ⟨wr.heap.size, 0, none⟩ = some (.int .i64 k2) ∧ w'.cell? ⟨wr.heap.size, 1, none⟩ = some (.int .i64 n2) ∧ w'.cell? ⟨wr.heap.size, 2, none⟩ = some (.int .i64 a2) ∧ w'.cell? ⟨wr.heap.size, 3, none⟩ = some (.slice A3 p3 c3) ∧ w'.cell? ⟨wr.heap.size, 4, none⟩ = some (.slice A4 p4 c4)) := fun w' hx =>
          have hk9 := HSK.out
          have y0 := (hx.block _ (by omega) (Or.inr (by omega))).trans QK0.out
          have y1 := (hx.block _ (by omega) (Or.inr (by omega))).trans QK1.out
          have y2 := (hx.block _ (by omega) (Or.inr (by omega))).trans QK2.out
          ⟨cell_of_one y0, cell_of_row _ _ 0 _ _ (0, 0) y1, cell_of_row _ _ 0 _ _ (0, 0) y2, cell_of_row _ _ 1 _ _ (0, 0) y2, cell_of_row _ _ 2 _ _ (0, 0) y2, cell_of_row _ _ 3 _ _ (0, 0) y2, cell_of_row _ _ 4 _ _ (0, 0) y2⟩
        have HD : Hid (OutIn pu (pu + 1) wk wk.drew) := OutIn.of_below (Below.refl _ _).drew (Nat.le_refl _)
        have HTK : Hid (Tm.usesL N d k 0 (kids.take (j + 1)) = Tm.usesL N d k 0 (kids.take j) + t.uses N du) := htk
        have HCJ := Lib.hid hcj
        have hpk9 : pu < wk.drew.heap.size := by show pu < wk.heap.size; omega
        have ij0 : (0 : Int) ≤ (j : Int) := by omega
        have ij1 : (j : Int) < (p2 : Int) := by omega
        clear hcn hout hbk xk q0 q1 hck hpk htk hm hvt ht
        go_upto_region 7 with (fail)
        clear f0 f1 f2 f3 f4 hwk
        go_region_held3 (fun w' => w'.cell? ⟨w.heap.size, 0, none⟩ = some (.int .i64 (d : Int)) ∧ w'.cell? ⟨w.heap.size + 1, 0, none⟩ = some (.int .i64 k) ∧ w'.cell? ⟨wr.heap.size, 0, none⟩ = some (.int .i64 k2) ∧ w'.cell? ⟨wr.heap.size, 1, none⟩ = some (.int .i64 n2) ∧ w'.cell? ⟨wr.heap.size, 2, none⟩ = some (.int .i64 a2) ∧ w'.cell? ⟨wr.heap.size, 3, none⟩ = some (.slice A3 p3 c3) ∧ w'.cell? ⟨wr.heap.size, 4, none⟩ = some (.slice A4 p4 c4))
          (first
            | exact HSR.out _ HD.out
            | (apply HSR.out; assumption))
          (first
            | (go_at_call 82; refine (HCB.out _ HD.out).mono ?_; rintro e wB ⟨rfl, hx0⟩; have hcB : Cnt wB pu cj := (hx0.block pu hpk9).trans HCK.out; have hx1 := HD.out.trans (OutIn.of_below hx0 (Nat.le_refl _)))
            | (go_at_call 52; refine (HCL.out _ hx1 hcB).mono ?_; rintro e wL ⟨rfl, hcL, hx2⟩; have hx3 := hx1.trans hx2))
        have HF1 : Hid (Cnt wL pu (c + h9 + Tm.usesL N d k 0 (kids.take (j + 1)))) := by
          show Cnt _ _ _
          rw [HTK.out, ← Nat.add_assoc, HCJ.out]
          exact hcL
        have HF2 : Hid (OutIn pu (pu + 1) wc wL) := HOK9.out.trans hx3
        clear hx0 hx1 hx2 hx3 hcB hcL HSR HCL HCB
        go_wp2
        go_roundw
        case rel => exact ⟨j + 1, by omega, by go_num, HF1.out, HF2.out⟩
        case measure => simp [intOf]; omega
      · obtain rfl : p2 = j := by omega
        have HF1 : Hid (Cnt wr pu (c + U)) := by
          show Cnt _ _ _
          have h1 := HCN.out
          rw [List.take_of_length_le (Nat.le_of_eq HN2.out)] at h1
          rw [← HU.out, ← Nat.add_assoc]
          exact h1
        clear hcn hout
        go_wp2
        go_ret
        exact ⟨rfl, HF1.out, HWR.out⟩
theorem uses_look (W : World) (B D : Nat) (N : Int) (pn pu : Nat) (hD : D ≤ 1073741824) (hB : 0 < B) (hK : KindsAt W) (t : Tm) : UsesTm W B D N pn pu t := by
  induction t using Tm.ind with
  | h k n a lv kids ih => exact uses_of W B D N pn pu hD hB hK k n a lv kids ih
set_option maxRecDepth 100000 in
set_option maxHeartbeats 4000000 in
/-- Uses tells how often an outer variable occurs. -/
theorem uses_any (t : Tm) (hf : t.fit) (v : Value) (w : World) (N : Int) (hd : t.size ≤ 1073741824) (hK : KindsAt w) (hv : TmAt w w.heap.size t v) :
    Calls Tryd.prog 25 #[v, .int .i64 N] w (fun e w' => e = .returned (.int .i64 (t.uses N 0 : Int)) ∧ Below w.heap.size w w') := by
  have h0 : 0 < w.heap.size := cell_lt (hK 0 (by decide))
  obtain ⟨k, n, a, lv, kids⟩ := t
  have hv' := hv
  obtain ⟨Al, cl, Ak, ck, rfl, _⟩ := hv'.open
  obtain ⟨p1, hp1⟩ : ∃ p, lv.length = p := ⟨_, rfl⟩
  obtain ⟨p2, hp2⟩ : ∃ p, kids.length = p := ⟨_, rfl⟩
  rw [hp1, hp2] at hv ⊢
  obtain ⟨wa, hwa⟩ : ∃ x, w.alloc (.cells #[.int .i64 k, .int .i64 n, .int .i64 a, .slice Al p1 cl, .slice Ak p2 ck] 27) = x := ⟨_, rfl⟩
  obtain ⟨w1, hw1⟩ : ∃ x, (wa.alloc (.cells #[.int .i64 N] 3)).alloc (.cells #[.int .i64 0] 3) = x := ⟨_, rfl⟩
  have hsa : wa.heap.size = w.heap.size + 1 := by rw [← hwa]; simp
  have hba : Below w.heap.size w wa := by rw [← hwa]; exact (Below.refl _ _).alloc (Nat.le_refl _) _
  have hb1a : Below wa.heap.size wa w1 := by rw [← hw1]; exact ((Below.refl _ _).alloc (Nat.le_refl _) _).alloc (by simp) _
  have hb1 := hba.trans (hb1a.mono (by omega))
  have hs1 : w1.heap.size = w.heap.size + 3 := by rw [← hw1]; simp [hsa]
  have xa : wa.heap[w.heap.size]? = some (.cells #[.int .i64 k, .int .i64 n, .int .i64 a, .slice Al p1 cl, .slice Ak p2 ck] 27 (0, 0)) := by rw [← hwa]; exact heap_alloc_new w _
  have x0 := (hb1a.block w.heap.size (by omega)).trans xa
  obtain ⟨x1, x2, _⟩ := two_allocs wa (.cells #[.int .i64 N] 3) (.cells #[.int .i64 0] 3)
  rw [hw1, hsa] at x1 x2
  obtain ⟨U, hU⟩ : ∃ u, (Tm.mk k n a lv kids).uses N 0 = u := ⟨_, rfl⟩
  rw [hU]
  have HN : Hid (Calls Tryd.prog 52 #[.agg #[.int .i64 0], .agg #[.int .i64 k, .int .i64 n, .int .i64 a, .slice Al p1 cl, .slice Ak p2 ck], .func (.func 55) #[] #[.pointer (some ⟨w.heap.size + 1, 0, none⟩), .pointer (some ⟨w.heap.size + 1 + 1, 0, none⟩)]] w1 (fun e w9 => e = .returned (.bool true) ∧ Cnt w9 (w.heap.size + 1 + 1) U ∧ OutIn (w.heap.size + 1 + 1) (w.heap.size + 1 + 1 + 1) w1 w9)) := by
    have h := uses_look w w.heap.size 1073741824 N (w.heap.size + 1) (w.heap.size + 1 + 1) (Nat.le_refl _) h0 hK _ hf 0 0 _ w1 (by omega) hb1 hb1.size (by omega) (by omega) (by omega) (cell_of_one x1) x2 (by omega) hv
    rw [hU, Nat.zero_add] at h
    exact h
  have y0 := cell_of_row _ _ 0 _ _ (0, 0) x0
  have y1 := cell_of_row _ _ 1 _ _ (0, 0) x0
  have y2 := cell_of_row _ _ 2 _ _ (0, 0) x0
  have y3 := cell_of_row _ _ 3 _ _ (0, 0) x0
  have y4 := cell_of_row _ _ 4 _ _ (0, 0) x0
  have HB1 := Lib.hid hb1
  have hmf : ∀ (W : World), (Instr.makeFunc (.func 55) #[] #[.pointer (some ⟨w.heap.size + 1, 0, none⟩), .pointer (some ⟨w.heap.size + 1 + 1, 0, none⟩)]).run Tryd.prog W = .ok (.func (.func 55) #[] #[.pointer (some ⟨w.heap.size + 1, 0, none⟩), .pointer (some ⟨w.heap.size + 1 + 1, 0, none⟩)]) W := fun _ => rfl
  clear hK hf hd hv x0 x1 x2 xa hb1 hb1a hba hs1 h0 hU hp1 hp2
  subst hw1
  go_enter Tryd.func25, Tryd.ntmps25
  go_wp2_with (fail)
  refine HN.out.mono ?_
  rintro e w2 ⟨rfl, hc2, ho2⟩
  have HF : Hid (Below w.heap.size w w2) := HB1.out.trans (ho2.below (by omega) HB1.out.size)
  have a0 := cell_of_one hc2
  clear ho2 hc2
  go_wp2
  go_ret
  exact ⟨rfl, HF.out⟩
end Go.Proofs.YtfgnnbpbbnnnhaaDoor
namespace Go.Proofs.YtfgnnbpbbnnnhaaDoor
open Go.RowKit Go.Maps
/-- how many constants declarations have -/
def cntSum : List Dc → Nat
  | [] => 0
  | d :: ds => d.cnt + cntSum ds
theorem cntSum_take : ∀ (ds : List Dc) (k : Nat) (d : Dc), ds[k]? = some d → cntSum (ds.take (k + 1)) = cntSum (ds.take k) + d.cnt
  | [], k, d, h => by simp at h
  | e :: ds, 0, d, h => by
    injection h with h
    subst h
    simp [cntSum]
  | e :: ds, k + 1, d, h => by
    have := cntSum_take ds k d (by simpa using h)
    rw [List.take_succ_cons, List.take_succ_cons]
    simp only [cntSum, this]
    omega
theorem cntSum_le : ∀ (ds : List Dc) (k : Nat), cntSum (ds.take k) ≤ cntSum ds
  | [], k => by simp [cntSum]
  | d :: ds, 0 => by simp [cntSum]
  | d :: ds, k + 1 => by
    have := cntSum_le ds k
    rw [List.take_succ_cons]
    simp only [cntSum]
    omega
/-- where the constants of the first k begin -/
def cyB (ds : List Dc) (k : Nat) : List Int := (List.range k).map fun i => (cntSum (ds.take i) : Int)
theorem cyB_succ (ds : List Dc) (k : Nat) : cyB ds (k + 1) = cyB ds k ++ [(cntSum (ds.take k) : Int)] := by
  unfold cyB
  rw [List.range_succ, List.map_append]
  rfl
theorem cyB_length (ds : List Dc) (k : Nat) : (cyB ds k).length = k := by simp [cyB]
def intV9 (x : Int) : Value := .int .i64 x
theorem infoI9 : (Tryd.prog.info? 3).map (fun i => (i.zero, i.size, i.bytes)) = some (some (.int .i64 0), 1, 8) := by kernel_rfl
theorem ints_of_own9 {w : World} {base n : Nat} {v : Value} {ns : List Int} (h : w.ownsRow base 3 1 v n (ns.map intV9)) (hn : ns.length = n) : ∃ A c, v = .slice A n c ∧ (A = none → c = 0) ∧ Ints w w.heap.size A ns := by
  rcases h.2 with ⟨rfl, rfl⟩ | ⟨g, cap, cur, rfl, hb, hg, h1, h2, h3, h4⟩
  · exact ⟨none, 0, rfl, fun _ => rfl, fun h => by omega⟩
  · refine ⟨_, _, rfl, fun h => (by cases h), fun h0 => ⟨g, 0, rfl, heap_some_lt hg, fun j hj => ?_⟩⟩
    rw [Nat.zero_add, cell_of_row w g j cur _ (0, 0) hg]
    have h5 : (cur.toList.take (n * 1))[j]? = (ns.map intV9)[j]? := by rw [h4]
    rw [List.getElem?_take, if_pos (by omega), Array.getElem?_toList, List.getElem?_map, List.getElem?_eq_getElem hj] at h5
    rw [h5, List.getD_eq_getElem?_getD, List.getElem?_eq_getElem hj]
    rfl
theorem own9_below {w w' : World} {B : Nat} {e : TypeId} {s : Nat} {v : Value} {n : Nat} {xs : List Value} (h : w.ownsRow B e s v n xs) (hb : Below w.heap.size w w') : w'.ownsRow B e s v n xs :=
  h.kept ⟨hb.os, hb.tape, hb.output, hb.size, fun k hk _ => hb.block k hk⟩ (row := none) (by cases v.ownBlock <;> simp)
set_option maxRecDepth 100000 in
set_option maxHeartbeats 4000000 in
theorem carryAt_any (ds : List Dc) (Ad : Option Addr) (nd cd : Nat) (w : World) (hd : Dcs w w.heap.size Ad cd ds) (hnd : ds.length = nd) (hn9 : nd ≤ 1048576) (hsm : ∀ d ∈ ds, d.mems.length ≤ 1048576 ∧ d.ctors.length ≤ 1048576) (hsum : cntSum ds ≤ 1099511627776) :
    Calls Tryd.prog 21 #[.slice Ad nd cd] w (fun e w' => ∃ v, e = .returned v ∧ w'.ownsRow w.heap.size 3 1 v nd ((cyB ds nd).map intV9) ∧ Below w.heap.size w w') := by
  obtain ⟨i0, hi, hz0, hz1, hz2⟩ := info_parts infoI9
  have HD := Lib.hid hd
  have HND := Lib.hid hnd
  have HSM := Lib.hid hsm
  have HSUM := Lib.hid hsum
  clear hd hnd hsm hsum
  go_enter Tryd.func21, Tryd.ntmps21
  go_wp2_with (fail)
  go_loopw [3, 4, 9] (fun u s i wr => ∃ k : Nat, k ≤ nd ∧ i = .int .i64 (k : Int) ∧ s = .int .i64 (cntSum (ds.take k) : Int) ∧ Below w.heap.size w wr ∧ wr.ownsRow w.heap.size 3 1 u k ((cyB ds k).map intV9)) (fun _ _ i _ => nd - (intOf i).toNat)
  case atStart => exact ⟨0, Nat.zero_le _, rfl, rfl, Below.refl _ _, own_nil _ _ _ _⟩
  case round =>
    obtain ⟨k, hk, rfl, rfl, hb, hrow⟩ := hrel
    obtain ⟨Av, nv, cv, rfl⟩ := own_slice hrow
    have hbz := hb.size
    by_cases hlt : k < nd
    · obtain ⟨d, hdk⟩ : ∃ d, ds[k]? = some d := ⟨_, List.getElem?_eq_getElem (by rw [HND.out]; exact hlt)⟩
      obtain ⟨b, o, cs, rfl, hbB, hdc, hce, hld⟩ := HD.out.get hdk
      have hld1 := hld wr hb
      obtain ⟨hm9, hc9⟩ := HSM.out d (List.mem_of_getElem? hdk)
      have hct := cntSum_take ds k d hdk
      have hle1 := cntSum_le ds (k + 1)
      have hsum9 := HSUM.out
      obtain ⟨w3, hw3⟩ : ∃ x, wr.alloc (.cells cs 43) = x := ⟨_, rfl⟩
      have hb3 : Below wr.heap.size wr w3 := by rw [← hw3]; exact (Below.refl _ _).alloc (Nat.le_refl _) _
      have x3 : w3.heap[wr.heap.size]? = some (.cells cs 43 (0, 0)) := by rw [← hw3]; exact heap_alloc_new wr _
      have hz2' := heap_alloc_new wr (.cells zeroDc 43)
      have hsz : Hid (zeroDc.size = cs.size) := by show _ = _; rw [hdc.size]; rfl
      have hin : Hid ((Tryd.prog.info? 43).map (·.size) = some cs.size) := by show _ = _; rw [hdc.size]; exact infoDc
      have hall := Lib.hid hdc.one
      have hda := Lib.hid (dc_alloc wr cs)
      obtain ⟨s, hs⟩ : ∃ s, cntSum (ds.take k) = s := ⟨_, rfl⟩
      have HS := Lib.hid hs
      have HOWN3 := Lib.hid (own9_below hrow hb3)
      have HLT : Hid (∀ b, (Value.slice Av nv cv).ownBlock = some b → b < wr.heap.size) := fun b e => (hrow.lt b e).2
      have hs9 : s ≤ 1099511627776 := by omega
      have HB3 : Hid (Below w.heap.size w w3) := hb.trans (hb3.mono hbz)
      have HX3 := Lib.hid x3
      obtain ⟨cn, hcn⟩ : ∃ c, d.cnt = c := ⟨_, rfl⟩
      have HCN := Lib.hid hct
      have hcs9 : s + cn ≤ 1099511627776 := by omega
      have HCT : Hid (∀ w', Calls Tryd.prog 28 #[.agg cs] w' (fun e w9 => e = .returned (.int .i64 (cn : Int)) ∧ Below w'.heap.size w' w9)) := fun w' => by rw [← hcn]; exact count_any d cs _ w' w hdc hm9 hc9
      have HCNT := Lib.hid hcn
      rw [hs]
      have ij0 : (0 : Int) ≤ (k : Int) := by omega
      have ij1 : (k : Int) < (nd : Int) := by omega
      have ws : IntKind.i64.wrap ((s : Int) + (cn : Int)) = ((s + cn : Nat) : Int) := by rw [IntWalk.i64_in _ (by omega)]; omega
      clear hdk hdc hce hld hb hrow hb3 x3 hct hle1 hsum9 hs hcn hm9 hc9
      unfold zeroDc at hz2' hda
      go_wp2_with (first | (refine wpList_load_at rfl 43 (.tmp 11) rfl (.pointer (some ⟨b, o + k * 16, none⟩)) _ rfl hld1 ?_) | (refine wpList_store_row rfl 43 (.tmp 6) (.tmp 12) rfl wr.heap.size cs rfl rfl 43 zeroDc hz2' hin.out hsz.out hall.out ?_; rw [hda.out, hw3]) | (at_builtin; refine wpList_append_own_at _ rfl _ _ 54 rfl w.heap.size 3 i0 (.int .i64 0) 1 8 Tryd.underlying54 hi hz0 hz1 hz2 rfl (by decide) _ k _ rfl (HOWN3.out.alloc _) ⟨w3.heap.size, 0, none⟩ 1 1 [.int .i64 (s : Int)] rfl rfl (cell_one_new _ _ _) (by simp [Value.oneCell']) ?c1 ?c2 ?c3 ?_) | fail)
      case c1 => unfold maxLen; omega
      case c2 => omega
      case c3 => have := HB3.out.size; simp; omega
      intro v' w4 hown4 hgrow4 _ hloc4
      have hx4 := (hgrow4.block wr.heap.size (by have := heap_some_lt HX3.out; simp; omega) (fun e => by have := HLT.out _ e.symm; omega)).trans ((Below.heap_alloc w3 (.cells #[.int .i64 (s : Int)] 3) wr.heap.size (heap_some_lt HX3.out)).trans HX3.out)
      have HB4 : Hid (Below w.heap.size w w4) := (HB3.out.alloc HB3.out.size _).grown hgrow4 (by have := HB3.out.size; simp; omega) (fun b e => (HOWN3.out.lt b e).1)
      have HOWN4 := Lib.hid hown4
      clear hown4 hgrow4 hloc4 hz2' hda hw3 hld1
      go_wp2_with (first | (refine wpList_load_row rfl 43 (.tmp 6) rfl wr.heap.size rfl 43 cs (0, 0) _ hx4 Tryd.underlying43 rfl hin.out ?_) | fail)
      refine (HCT.out w4).mono ?_
      rintro e w5 ⟨rfl, hb5⟩
      have HB5 : Hid (Below w.heap.size w w5) := HB4.out.trans (hb5.mono HB4.out.size)
      have HR5 : Hid (w5.ownsRow w.heap.size 3 1 v' (k + 1) ((cyB ds (k + 1)).map intV9)) := by
        have h := own9_below HOWN4.out hb5
        show World.ownsRow _ _ _ _ _ _ _
        rw [cyB_succ, List.map_append, HS.out]
        exact h
      have HSS : Hid (cntSum (ds.take (k + 1)) = s + cn) := by show _ = _; rw [HCN.out, HS.out, HCNT.out]
      clear hb5 hx4 HCT
      go_wp2
      go_roundw
      case rel => exact ⟨k + 1, by omega, by go_num, by rw [HSS.out, Int.natCast_add], HB5.out, HR5.out⟩
      case measure => simp [intOf]; omega
    · obtain rfl : k = nd := by omega
      have HF : Hid (∃ v, Ending.returned (Value.slice Av nv cv) = .returned v ∧ wr.ownsRow w.heap.size 3 1 v k ((cyB ds k).map intV9) ∧ Below w.heap.size w wr) := ⟨_, rfl, hrow, hb⟩
      clear hb hrow
      go_wp2
      go_ret
      exact HF.out
end Go.Proofs.YtfgnnbpbbnnnhaaDoor
namespace Go.Proofs.YtfgnnbpbbnnnhaaDoor
open Go.RowKit Go.Maps
theorem lev_meet {w1 w2 w3 : World} {B : Nat} (H : ∀ (p : Addr) (a b : Value), w1.cell? p = some a → w2.cell? p = some b → a = b ∧ w3.cell? p = some a) {A : Option Addr} {ps : List (Int × Int)} (h1 : Lev w1 B A ps) (h2 : Lev w2 B A ps) : Lev w3 B A ps := fun hp => by
  obtain ⟨b, o, e, hb, hc⟩ := h1 hp
  obtain ⟨b', o', e', _, hc'⟩ := h2 hp
  rw [e] at e'
  injection e' with e'
  injection e' with e1 e2
  subst e1 e2
  exact ⟨b, o, e, hb, fun i hi => ⟨(H _ _ _ (hc i hi).1 (hc' i hi).1).2, (H _ _ _ (hc i hi).2 (hc' i hi).2).2⟩⟩
theorem levs_meet {w1 w2 w3 : World} {B : Nat} (H : ∀ (p : Addr) (a b : Value), w1.cell? p = some a → w2.cell? p = some b → a = b ∧ w3.cell? p = some a) {A : Option Addr} {ls : List (List (Int × Int))} (h1 : Levs w1 B A ls) (h2 : Levs w2 B A ls) : Levs w3 B A ls := fun hp => by
  obtain ⟨b, o, e, hb, hc⟩ := h1 hp
  obtain ⟨b', o', e', _, hc'⟩ := h2 hp
  rw [e] at e'
  injection e' with e'
  injection e' with e1 e2
  subst e1 e2
  refine ⟨b, o, e, hb, fun i hi => ?_⟩
  obtain ⟨Ai, ci, q1, q2, q3, q4⟩ := hc i hi
  obtain ⟨Aj, cj, r1, r2, r3, r4⟩ := hc' i hi
  obtain ⟨s1, s2⟩ := H _ _ _ q1 r1
  injection s1 with s1 _ s3
  subst s1 s3
  exact ⟨Ai, ci, s2, lev_meet H q2 r2, q3, q4⟩
theorem tm_meet {w1 w2 w3 : World} {B : Nat} (H : ∀ (p : Addr) (a b : Value), w1.cell? p = some a → w2.cell? p = some b → a = b ∧ w3.cell? p = some a) (t : Tm) : ∀ v, TmAt w1 B t v → TmAt w2 B t v → TmAt w3 B t v := by
  induction t using Tm.ind with
  | h k n a lv kids ih =>
    intro v h1 h2
    obtain ⟨Al, cl, Ak, ck, rfl, q1, q2, q3⟩ := h1.open
    obtain ⟨Al', cl', Ak', ck', e, r1, r2, r3⟩ := h2.open
    injection e with e
    injection e with e
    injection e with _ e
    injection e with _ e
    injection e with _ e
    injection e with e3 e
    injection e with e4 _
    injection e3 with e5 _ e6
    injection e4 with e7 _ e8
    subst e5 e6 e7 e8
    refine TmAt.make q1 (levs_meet H q2 r2) ⟨q3.1, fun hp => ?_⟩
    obtain ⟨b, o, eA, hb, hts⟩ := q3.2 hp
    obtain ⟨b', o', eA', _, hts'⟩ := r3.2 hp
    rw [eA] at eA'
    injection eA' with eA'
    injection eA' with f1 f2
    subst f1 f2
    refine ⟨b, o, eA, hb, TmsAt.of fun i t hi => ?_⟩
    obtain ⟨b1, o1, v1, x1, _, x2, x3⟩ := q3.get hi
    obtain ⟨b2, o2, v2, y1, _, y2, y3⟩ := r3.get hi
    rw [eA] at x1 y1
    injection x1 with x1
    injection x1 with x1 x4
    injection y1 with y1
    injection y1 with y1 y4
    subst x1 x4 y1 y4
    obtain ⟨c0, c1, c2, c3, c4, rfl, m0, m1, m2, m3, m4⟩ := x2
    obtain ⟨d0, d1, d2, d3, d4, rfl, n0, n1, n2, n3, n4⟩ := y2
    obtain ⟨z0, w0⟩ := H _ _ _ m0 n0
    obtain ⟨z1, w1'⟩ := H _ _ _ m1 n1
    obtain ⟨z2, w2'⟩ := H _ _ _ m2 n2
    obtain ⟨z3, w3'⟩ := H _ _ _ m3 n3
    obtain ⟨z4, w4'⟩ := H _ _ _ m4 n4
    subst z0 z1 z2 z3 z4
    exact ⟨_, ⟨_, _, _, _, _, rfl, w0, w1', w2', w3', w4'⟩, ih t (List.mem_of_getElem? hi) _ x3 y3⟩
/-- a block emptied -/
theorem gone_cell (w : World) (g : Nat) {cs : Array Value} {t : TypeId} (h : w.heap[g]? = some (.cells cs t (0, 0))) (p : Addr) : (w.setRow g #[]).cell? p = if p.block = g then none else w.cell? p := by
  by_cases e : p.block = g
  · rw [if_pos e]
    have h2 := setRow_heap w g _ #[] _ _ h
    obtain ⟨b, o, sp⟩ := p
    have e : b = g := e
    subst e
    simp [World.cell?, h2]
  · rw [if_neg e]
    exact World.cell?_of_block (setRow_other w g p.block _ e)
/-- a term that is none of three blocks' memory is there whatever becomes of them -/
theorem away3 {wf wz : World} {B g1 g2 g3 : Nat} {c1 c2 c3 : Array Value} {t1 t2 t3 : TypeId} (h1 : wf.heap[g1]? = some (.cells c1 t1 (0, 0))) (h2 : wf.heap[g2]? = some (.cells c2 t2 (0, 0))) (h3 : wf.heap[g3]? = some (.cells c3 t3 (0, 0))) (h12 : g1 ≠ g2) (hz : ∀ b, b ≠ g1 → b ≠ g2 → b ≠ g3 → wz.heap[b]? = wf.heap[b]?) (t : Tm) (v : Value)
    (a1 : TmAt (wf.setRow g1 #[]) B t v) (a2 : TmAt (wf.setRow g2 #[]) B t v) (a3 : TmAt (wf.setRow g3 #[]) B t v) : TmAt wz B t v := by
  have h2' : (wf.setRow g1 #[]).heap[g2]? = some (.cells c2 t2 (0, 0)) := (setRow_other wf g1 g2 _ (Ne.symm h12)).trans h2
  have b1 : TmAt ((wf.setRow g1 #[]).setRow g2 #[]) B t v := tm_meet (fun p a b ha hb => by
    rw [gone_cell wf g2 h2] at hb
    have ha' := ha
    rw [gone_cell wf g1 h1] at ha
    split at ha
    · cases ha
    · split at hb
      · cases hb
      · rename_i q1 q2
        refine ⟨by rw [ha] at hb; injection hb, ?_⟩
        rw [gone_cell _ g2 h2', if_neg q2]
        exact ha') t v a1 a2
  refine tm_meet (fun p a b ha hb => ?_) t v b1 a3
  rw [gone_cell _ g2 h2'] at ha
  rw [gone_cell wf g3 h3] at hb
  split at ha
  · cases ha
  · rename_i q2
    rw [gone_cell wf g1 h1] at ha
    split at ha
    · cases ha
    · split at hb
      · cases hb
      · rename_i q1 q3
        exact ⟨by rw [ha] at hb; injection hb, (World.cell?_of_block (hz _ q1 q2 q3)).trans ha⟩
/-- a term that is none of a variable's memory -/
def AwayT (u : Tm) (w : World) (x y : Value) : Prop := ∃ g, y = .pointer (some ⟨g, 0, none⟩) ∧ TmAt (w.setRow g #[]) w.heap.size u x
theorem away_ok {Vs : List (Value → World → Prop)} {Ns : List (Nat × (World → World → Value → Prop))} {i j B : Nat} {u : Tm} (hij : i ≠ j) (h1 : Vl Vs i = fun x w => TmAt w w.heap.size u x) (h2 : Vl Vs j = BoxV B) (h3 : NlW Ns i = NewV u) (h4 : NlW Ns j = NewB) :
    PrOkW (fun w1 w2 : World => Below w1.heap.size w1 w2) Vs Ns [⟨i, j, AwayT u⟩] := by
  intro q hq
  obtain rfl : q = ⟨i, j, AwayT u⟩ := by simpa using hq
  simp only [h1, h2, h3, h4]
  refine ⟨hij, fun x v w w' hR q1 q2 q3 => ?_, fun x v w w' hR q1 q2 q3 => ?_, fun x y w w' hR p1 p2 h => ?_⟩
  · obtain ⟨g, rfl, p3⟩ := q3
    exact ⟨g, rfl, TmAt.keep hR.size (fun p hp => (World.cell?_of_block (setRow_other w' g p.block _ (by omega))).trans (hR.cell hp)) _ _ q1⟩
  · obtain ⟨g, rfl, _, p3⟩ := q1
    have hg := heap_some_lt p3
    refine ⟨g, rfl, ?_⟩
    have h := (OwnTm.kept (w' := w'.setRow g #[]) q3 (fun b h1 h2 => setRow_other w' g b _ (by omega))).tmAt
    exact h
  · obtain ⟨g, rfl, _, p3⟩ := p2
    obtain ⟨g', e, hT⟩ := h
    obtain rfl : g = g' := by injection e with e; injection e with e; injection e
    have p4 := (hR.block g (heap_some_lt p3)).trans p3
    refine ⟨g, rfl, TmAt.keep hR.size (fun p hp => ?_) _ _ hT⟩
    rw [gone_cell w' g p4, gone_cell w g p3]
    split
    · rfl
    · exact hR.cell hp
end Go.Proofs.YtfgnnbpbbnnnhaaDoor
