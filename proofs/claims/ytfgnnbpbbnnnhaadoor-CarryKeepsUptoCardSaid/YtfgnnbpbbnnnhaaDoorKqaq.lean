/- Laws. -/
import Derived.Test.YtfgnnbpbbnnnhaaDoorKqap
namespace Go.Proofs.YtfgnnbpbbnnnhaaDoor
open Go.RowKit Go.Maps
mutual
/-- do all outer variables that a term means have this? -/
def Tm.look (p : Int → Bool) (d : Nat) : Tm → Bool
  | .mk k n _ _ kids => (!decide (k = 1 ∧ (d : Int) ≤ n) || p (n - d)) && Tm.lookL p d k 0 kids
def Tm.lookL (p : Int → Bool) (d : Nat) (k : Int) (i : Nat) : List Tm → Bool
  | [] => true
  | t :: ts => t.look p (d + under k i) && Tm.lookL p d k (i + 1) ts
end
theorem Tm.look_mk (p : Int → Bool) (d : Nat) (k n a : Int) (lv : List (List (Int × Int))) (kids : List Tm) : (Tm.mk k n a lv kids).look p d = ((!decide (k = 1 ∧ (d : Int) ≤ n) || p (n - d)) && Tm.lookL p d k 0 kids) := by rw [Tm.look]
theorem Tm.lookL_iff (p : Int → Bool) (d : Nat) (k : Int) : ∀ (ts : List Tm) (i : Nat), Tm.lookL p d k i ts = true ↔ ∀ (j : Nat) (t : Tm), ts[j]? = some t → t.look p (d + under k (i + j)) = true
  | [], i => by simp [Tm.lookL]
  | t :: ts, i => by
    rw [Tm.lookL, Bool.and_eq_true, Tm.lookL_iff p d k ts (i + 1)]
    constructor
    · rintro ⟨h1, h2⟩ j u hj
      cases j with
      | zero =>
        injection hj with hj
        subst hj
        simpa using h1
      | succ j =>
        have := h2 j u (by simpa using hj)
        rwa [show i + 1 + j = i + (j + 1) by omega] at this
    · intro h
      refine ⟨by simpa using h 0 t rfl, fun j u hj => ?_⟩
      have := h (j + 1) u (by simpa using hj)
      rwa [show i + (j + 1) = i + 1 + j by omega] at this
/-- a closure tells of any number what is asked, in worlds in which all ahead of B is as in W -/
def AskOk (W : World) (B fid : Nat) (caps : Array Value) (p : Int → Bool) : Prop := ∀ (x : Int) (w : World), Below B W w → B ≤ w.heap.size → Calls Tryd.prog fid (#[.int .i64 x] ++ caps) w (HasPost w (p x))
/-- what look answers of a term -/
def LookTm (W : World) (B D fid : Nat) (caps : Array Value) (p : Int → Bool) (t : Tm) : Prop := t.fit → ∀ (d : Nat) (v : Value) (w : World), d + t.size ≤ D → Below B W w → B ≤ w.heap.size → TmAt W B t v →
  Calls Tryd.prog 52 #[.agg #[.int .i64 (d : Int)], v, .func (.func fid) #[] caps] w (HasPost w (t.look p d))
set_option maxRecDepth 100000 in
theorem enter_look (vs : Array Value) (w : World) : (callFunc 52 vs).run Tryd.prog w = .ok (.enter 52 vs) w := by go_simp
set_option maxRecDepth 100000 in
set_option maxHeartbeats 4000000 in
theorem look_of (W : World) (B D fid : Nat) (caps : Array Value) (p : Int → Bool) (hD : D ≤ 1073741824) (hB : 0 < B) (hK : KindsAt W) (hcall : ∀ vs w, (callFunc fid vs).run Tryd.prog w = .ok (.enter fid vs) w) (hA : AskOk W B fid caps p)
    (k n a : Int) (lv : List (List (Int × Int))) (kids : List Tm) (ih : ∀ t ∈ kids, LookTm W B D fid caps p t) (hf : (Tm.mk k n a lv kids).fit) (d : Nat) (w : World) (Al Ak : Option Addr) (p1 c1 p2 c2 : Nat) (hd : d + (Tm.mk k n a lv kids).size ≤ D) (hb : Below B W w) (hBw : B ≤ w.heap.size)
    (hp2 : kids.length = p2) (hv : Tms W B Ak c2 kids) :
    Calls Tryd.prog 52 #[.agg #[.int .i64 (d : Int)], .agg #[.int .i64 k, .int .i64 n, .int .i64 a, .slice Al p1 c1, .slice Ak p2 c2], .func (.func fid) #[] caps] w (HasPost w ((Tm.mk k n a lv kids).look p d)) := by
  obtain ⟨w1, hw1⟩ : ∃ x, (w.alloc (.cells #[.int .i64 (d : Int)] 72)).alloc (.cells #[.int .i64 k, .int .i64 n, .int .i64 a, .slice Al p1 c1, .slice Ak p2 c2] 27) = x := ⟨_, rfl⟩
  have hb1 : Below w.heap.size w w1 := by rw [← hw1]; exact ((Below.refl _ _).alloc (Nat.le_refl _) _).alloc (by simp) _
  have hs1 : w1.heap.size = w.heap.size + 2 := by rw [← hw1]; simp
  obtain ⟨x0, x1, _⟩ := two_allocs w (.cells #[.int .i64 (d : Int)] 72) (.cells #[.int .i64 k, .int .i64 n, .int .i64 a, .slice Al p1 c1, .slice Ak p2 c2] 27)
  rw [hw1] at x0 x1
  rw [Tm.fit_mk] at hf
  rw [Tm.size_mk] at hd
  have HM : Hid (Calls Tryd.prog 36 #[.agg #[.int .i64 (d : Int)], .int .i64 n] w1 (fun e w9 => e = .returned (meansS d n) ∧ Below w1.heap.size w1 w9)) := means_any d n w1 hf.1
  have y0 := cell_of_one x0
  have y1 := cell_of_row _ _ 0 _ _ (0, 0) x1
  have y2 := cell_of_row _ _ 1 _ _ (0, 0) x1
  have y3 := cell_of_row _ _ 4 _ _ (0, 0) x1
  have HB1 := Lib.hid hb1
  have HS1 := Lib.hid hs1
  have HBW : Hid (Below B W w1) := hb.trans (hb1.mono hBw)
  have HBB := Lib.hid hBw
  have HL := Lib.hid hv
  have HN := Lib.hid hp2
  have HA := Lib.hid hA
  have IH := Lib.hid ih
  have HC := Lib.hid hcall
  have HK := Lib.hid hK
  have HKF : Hid (∀ t ∈ kids, t.fit) := (Tm.fitL_iff kids).1 hf.2.2.2
  have hl6 : p2 ≤ 1048576 := by rw [← hp2]; exact hf.2.2.1
  have HSZ : Hid (∀ t ∈ kids, ∀ u, u ≤ 1 → d + u + t.size ≤ D) := fun t ht u hu => by
    have := Tm.sizeL_mem ht
    omega
  have hd6 : d ≤ 1073741824 := by omega
  obtain ⟨R, hR⟩ : ∃ R, (Tm.mk k n a lv kids).look p d = R := ⟨_, rfl⟩
  have HR : Hid (((!decide (k = 1 ∧ (d : Int) ≤ n) || p (n - d)) && Tm.lookL p d k 0 kids) = R) := by
    show _ = _
    rw [← hR, Tm.look_mk]
  rw [hR]
  clear x0 x1 hb1 hs1 hb hBw hv hp2 hA ih hcall hK hf hd hR
  go_enter Tryd.func52, Tryd.ntmps52
  go_wp2_with (fail)
  refine HM.out.mono ?_
  rintro e w2 ⟨rfl, hb2⟩
  have hs1 := HS1.out
  have z0 := (hb2.cell (p := ⟨w.heap.size, 0, none⟩) (show w.heap.size < w1.heap.size by omega)).trans y0
  have z1 := (hb2.cell (p := ⟨w.heap.size + 1, 0, none⟩) (show w.heap.size + 1 < w1.heap.size by omega)).trans y1
  have z3 := (hb2.cell (p := ⟨w.heap.size + 1, 4, none⟩) (show w.heap.size + 1 < w1.heap.size by omega)).trans y3
  have hs2 := hb2.size
  have HB2 : Hid (Below w.heap.size w w2) := HB1.out.trans (hb2.mono (by omega))
  have HBW2 : Hid (Below B W w2) := HBW.out.trans (hb2.mono (by have := HBB.out; omega))
  have hl0 : w.heap.size < w2.heap.size := by omega
  have hl1 : w.heap.size + 1 < w2.heap.size := by omega
  clear hb2 y0 y1 y2 y3 HM hs1 HB1 HBW
  obtain ⟨rr, hrr⟩ : ∃ r : Bool, decide (n < (d : Int)) = r := ⟨_, rfl⟩
  obtain ⟨q, hq⟩ : ∃ q : Int, (if n < (d : Int) then 0 else n - (d : Int)) = q := ⟨_, rfl⟩
  have hmean : meansS d n = .tuple #[.int .i64 q, .bool (!rr)] := by
    rw [← hrr, ← hq]
    unfold meansS
    by_cases h : n < (d : Int) <;> simp [h]
  rw [hmean]
  have HRR := Lib.hid hrr
  have HQQ := Lib.hid hq
  clear hrr hq hmean
  cases rr with
  | true =>
    have HR2 : Hid (Tm.lookL p d k 0 kids = R) := by
      show _ = _
      have := of_decide_eq_true HRR.out
      rw [← HR.out, decide_eq_false (show ¬ (k = 1 ∧ (d : Int) ≤ n) by omega)]
      rfl
    clear HR HRR HQQ HA HC
    go_wp2
    go_loopw [33] (fun i wr => ∃ (j : Nat), j ≤ p2 ∧ i = .int .i64 (j : Int) ∧ Below w2.heap.size w2 wr ∧ ∀ j' t, j' < j → kids[j']? = some t → t.look p (d + under k j') = true) (fun i _ => p2 - (intOf i).toNat)
    case atStart => exact ⟨0, Nat.zero_le _, rfl, Below.refl _ _, fun j' t h => by omega⟩
    case round =>
      obtain ⟨j, hj, rfl, hb, hso⟩ := hrel
      have hbz := hb.size
      have HBWr : Hid (Below B W wr) := HBW2.out.trans (hb.mono (by have := HBB.out; omega))
      by_cases hlt : j < p2
      · obtain ⟨t, ht⟩ : ∃ t, kids[j]? = some t := ⟨_, List.getElem?_eq_getElem (by rw [HN.out]; exact hlt)⟩
        obtain ⟨b, o, k2, n2, a2, A3, p3, c3, A4, p4, c4, e, hbB, hvt, f0, f1, f2, f3, f4⟩ := HL.out.at HBWr.out ht
        subst e
        obtain ⟨wk, hwk⟩ : ∃ x, wr.alloc (.cells #[.int .i64 k2, .int .i64 n2, .int .i64 a2, .slice A3 p3 c3, .slice A4 p4 c4] 27) = x := ⟨_, rfl⟩
        have hbk : Below wr.heap.size wr wk := by rw [← hwk]; exact (Below.refl _ _).alloc (Nat.le_refl _) _
        have hsk : wk.heap.size = wr.heap.size + 1 := by rw [← hwk]; simp
        have xk : wk.heap[wr.heap.size]? = some (.cells #[.int .i64 k2, .int .i64 n2, .int .i64 a2, .slice A3 p3 c3, .slice A4 p4 c4] 27 (0, 0)) := by rw [← hwk]; exact heap_alloc_new wr _
        have g0 := cell_of_row _ _ 0 _ _ (0, 0) xk
        have g1 := cell_of_row _ _ 1 _ _ (0, 0) xk
        have g2 := cell_of_row _ _ 2 _ _ (0, 0) xk
        have g3 := cell_of_row _ _ 3 _ _ (0, 0) xk
        have g4 := cell_of_row _ _ 4 _ _ (0, 0) xk
        have q0 := ((hb.trans (hbk.mono hbz)).cell (p := ⟨w.heap.size, 0, none⟩) (show w.heap.size < w2.heap.size by omega)).trans z0
        have q1 := ((hb.trans (hbk.mono hbz)).cell (p := ⟨w.heap.size + 1, 0, none⟩) (show w.heap.size + 1 < w2.heap.size by omega)).trans z1
        have HBK : Hid (Below B W wk) := HBWr.out.trans (hbk.mono (by have := HBB.out; omega))
        have HB3 : Hid (Below w.heap.size w wk) := HB2.out.trans ((hb.trans (hbk.mono hbz)).mono (by omega))
        have HB4 : Hid (Below w2.heap.size w2 wk) := hb.trans (hbk.mono hbz)
        obtain ⟨rk, hrk⟩ : ∃ x, t.look p (d + under k j) = x := ⟨_, rfl⟩
        obtain ⟨du, hdu⟩ : ∃ x, d + under k j = x := ⟨_, rfl⟩
        have hbsz := HBB.out
        have HCB : Hid (∀ w', Below wk.heap.size wk w' → Calls Tryd.prog 82 #[.agg #[.int .i64 (d : Int)], .int .i64 k, .int .i64 (j : Int)] w' (fun e w9 => e = .returned (.agg #[.int .i64 (du : Int)]) ∧ Below w'.heap.size w' w9)) := fun w' hx => by
          rw [← hdu]
          exact below_any d k j w' hd6 (by omega) (HK.out.below (HBK.out.trans (hx.mono (by omega))) hB)
        have HCL : Hid (∀ w', Below wk.heap.size wk w' → Calls Tryd.prog 52 #[.agg #[.int .i64 (du : Int)], .agg #[.int .i64 k2, .int .i64 n2, .int .i64 a2, .slice A3 p3 c3, .slice A4 p4 c4], .func (.func fid) #[] caps] w' (HasPost w' rk)) := fun w' hx => by
          have hm := List.mem_of_getElem? ht
          rw [← hrk, ← hdu]
          exact IH.out t hm (HKF.out t hm) _ _ w' (HSZ.out t hm _ (under_le k j)) (HBK.out.trans (hx.mono (by omega))) (by have := hx.size; omega) hvt
        have HRK : Hid (t.look p (d + under k j) = rk) := hrk
        have HTJ := Lib.hid ht
        have HSO := Lib.hid hso
        have ij0 : (0 : Int) ≤ (j : Int) := by omega
        have ij1 : (j : Int) < (p2 : Int) := by omega
        have lk0 : w.heap.size < wk.heap.size := by omega
        have lk1 : w.heap.size + 1 < wk.heap.size := by omega
        have lk2 : wr.heap.size < wk.heap.size := by omega
        clear hb hso ht hvt hbk xk hrk hdu hbsz
        go_upto_region 7 with (fail)
        have hS : Below wk.heap.size wk wk.drew := (Below.refl _ _).drew
        refine wp_region_tab (fun w' => Below wk.heap.size wk w') (fun w1 w2 : World => Below w1.heap.size w1 w2) [(fun (x : Value) (_ : World) => x = (.agg #[.int .i64 (d : Int)] : Value)), (fun (x : Value) (_ : World) => x = (.pointer (some ⟨w.heap.size + 1, 0, none⟩) : Value)), (fun (x : Value) (_ : World) => x = (.int .i64 k : Value)), (fun (x : Value) (_ : World) => x = (.int .i64 (j : Int) : Value)), (fun (x : Value) (_ : World) => x = (.agg #[.int .i64 (du : Int)] : Value)), (fun (x : Value) (_ : World) => x = (.agg #[.int .i64 k2, .int .i64 n2, .int .i64 a2, .slice A3 p3 c3, .slice A4 p4 c4] : Value)), (fun (x : Value) (_ : World) => x = (.func (.func fid) #[] caps : Value)), (fun (x : Value) (_ : World) => x = (.bool rk : Value)), (fun (x : Value) (_ : World) => x = (.bool (!rk) : Value))] [⟨some 38, .load 72 (.tmp 3), none, []⟩, ⟨some 39, .fieldAddr 27 (.tmp 4) 0, none, []⟩, ⟨some 40, .load 23 (.tmp 39), none, [(39, 1)]⟩, ⟨some 41, .move (.tmp 9), none, []⟩, ⟨some 42, .call { callee := .value (.func 82), args := #[.tmp 38, .tmp 40, .tmp 41], argTypes := #[72, 23, 3] }, none, [(38, 0), (40, 2), (41, 3)]⟩, ⟨some 43, .load 27 (.tmp 10), none, []⟩, ⟨some 44, .move (.tmp 2), none, []⟩, ⟨some 45, .call { callee := .value (.func 52), args := #[.tmp 42, .tmp 43, .tmp 44], argTypes := #[72, 27, 102] }, none, [(42, 4), (43, 5), (44, 6)]⟩, ⟨some 46, .unOp .not 4 (.tmp 45), none, [(45, 7)]⟩] [some 38, some 39, some 40, some 41, some 42, some 43, some 44, some 45, some 46] (by kernel_rfl) (by kernel_rfl) (by kernel_rfl) (by kernel_rfl) (by kernel_rfl) ?hS ?hmono ?hsteps ?hfin
        case hS => exact hS
        case hmono =>
          refine MonoL.cons (fun x w1 w2 _ _ _ hx => hx) ?_
          refine MonoL.cons (fun x w1 w2 _ _ _ hx => hx) ?_
          refine MonoL.cons (fun x w1 w2 _ _ _ hx => hx) ?_
          refine MonoL.cons (fun x w1 w2 _ _ _ hx => hx) ?_
          refine MonoL.cons (fun x w1 w2 _ _ _ hx => hx) ?_
          refine MonoL.cons (fun x w1 w2 _ _ _ hx => hx) ?_
          refine MonoL.cons (fun x w1 w2 _ _ _ hx => hx) ?_
          refine MonoL.cons (fun x w1 w2 _ _ _ hx => hx) ?_
          refine MonoL.cons (fun x w1 w2 _ _ _ hx => hx) ?_
          exact MonoL.nil
        case hsteps =>
          refine StepsT.cons (fun (x : Value) (_ : World) => x = (.agg #[.int .i64 (d : Int)] : Value)) [] rfl rfl (fun oq hop _ wq hQS => ?_) ?_
          · exact StepFrom.load hop (p := (.pointer (some ⟨w.heap.size, 0, none⟩) : Value)) (by kernel_rfl) (load_depth ((hQS.cell (p := ⟨w.heap.size, 0, none⟩) lk0).trans q0)) (by kernel_rfl) hQS (Below.refl _ _) rfl
          refine StepsT.cons (fun (x : Value) (_ : World) => x = (.pointer (some ⟨w.heap.size + 1, 0, none⟩) : Value)) [] rfl rfl (fun oq hop _ wq hQS => ?_) ?_
          · exact StepFrom.fieldAddr hop (p := (.pointer (some ⟨w.heap.size + 1, 0, none⟩) : Value)) (by kernel_rfl) (term_field 0 (by decide)) (by kernel_rfl) hQS (Below.refl _ _) rfl
          refine StepsT.cons (fun (x : Value) (_ : World) => x = (.int .i64 k : Value)) [(39, (fun (x : Value) (_ : World) => x = (.pointer (some ⟨w.heap.size + 1, 0, none⟩) : Value)))] rfl rfl (fun oq hop _ wq hQS => ?_) ?_
          · refine StepFrom.more_eq ((.pointer (some ⟨w.heap.size + 1, 0, none⟩) : Value)) ?_
            exact StepFrom.load hop (p := (.pointer (some ⟨w.heap.size + 1, 0, none⟩) : Value)) (by kernel_rfl) (load_kind ((hQS.cell (p := ⟨w.heap.size + 1, 0, none⟩) lk1).trans q1)) (by kernel_rfl) hQS (Below.refl _ _) rfl
          refine StepsT.cons (fun (x : Value) (_ : World) => x = (.int .i64 (j : Int) : Value)) [] rfl rfl (fun oq hop _ wq hQS => ?_) ?_
          · exact StepFrom.move hop (v := (.int .i64 (j : Int) : Value)) (by kernel_rfl) (by kernel_rfl) hQS (Below.refl _ _) rfl
          refine StepsT.cons (fun (x : Value) (_ : World) => x = (.agg #[.int .i64 (du : Int)] : Value)) [(38, (fun (x : Value) (_ : World) => x = (.agg #[.int .i64 (d : Int)] : Value))), (40, (fun (x : Value) (_ : World) => x = (.int .i64 k : Value))), (41, (fun (x : Value) (_ : World) => x = (.int .i64 (j : Int) : Value)))] rfl rfl (fun oq hop _ wq hQS => ?_) ?_
          · refine StepFrom.more_eq ((.agg #[.int .i64 (d : Int)] : Value)) ?_
            refine StepFrom.more_eq ((.int .i64 k : Value)) ?_
            refine StepFrom.more_eq ((.int .i64 (j : Int) : Value)) ?_
            exact StepFrom.call hop (vs := [(.agg #[.int .i64 (d : Int)] : Value), (.int .i64 k : Value), (.int .i64 (j : Int) : Value)]) (by kernel_rfl) (fun w => enter_below _ w) (by kernel_rfl) ((HCB.out wq hQS).mono fun e w9 h9 => by obtain ⟨q1, q2⟩ := h9; exact ⟨_, q1, hQS.trans (q2.mono hQS.size), q2, rfl⟩)
          refine StepsT.cons (fun (x : Value) (_ : World) => x = (.agg #[.int .i64 k2, .int .i64 n2, .int .i64 a2, .slice A3 p3 c3, .slice A4 p4 c4] : Value)) [] rfl rfl (fun oq hop _ wq hQS => ?_) ?_
          · exact StepFrom.load hop (p := (.pointer (some ⟨wr.heap.size, 0, none⟩) : Value)) (by kernel_rfl) (load_term ((hQS.cell (p := ⟨wr.heap.size, 0, none⟩) lk2).trans g0) ((hQS.cell (p := ⟨wr.heap.size, 1, none⟩) lk2).trans g1) ((hQS.cell (p := ⟨wr.heap.size, 2, none⟩) lk2).trans g2) ((hQS.cell (p := ⟨wr.heap.size, 3, none⟩) lk2).trans g3) ((hQS.cell (p := ⟨wr.heap.size, 4, none⟩) lk2).trans g4)) (by kernel_rfl) hQS (Below.refl _ _) rfl
          refine StepsT.cons (fun (x : Value) (_ : World) => x = (.func (.func fid) #[] caps : Value)) [] rfl rfl (fun oq hop _ wq hQS => ?_) ?_
          · exact StepFrom.move hop (v := (.func (.func fid) #[] caps : Value)) (by kernel_rfl) (by kernel_rfl) hQS (Below.refl _ _) rfl
          refine StepsT.cons (fun (x : Value) (_ : World) => x = (.bool rk : Value)) [(42, (fun (x : Value) (_ : World) => x = (.agg #[.int .i64 (du : Int)] : Value))), (43, (fun (x : Value) (_ : World) => x = (.agg #[.int .i64 k2, .int .i64 n2, .int .i64 a2, .slice A3 p3 c3, .slice A4 p4 c4] : Value))), (44, (fun (x : Value) (_ : World) => x = (.func (.func fid) #[] caps : Value)))] rfl rfl (fun oq hop _ wq hQS => ?_) ?_
          · refine StepFrom.more_eq ((.agg #[.int .i64 (du : Int)] : Value)) ?_
            refine StepFrom.more_eq ((.agg #[.int .i64 k2, .int .i64 n2, .int .i64 a2, .slice A3 p3 c3, .slice A4 p4 c4] : Value)) ?_
            refine StepFrom.more_eq ((.func (.func fid) #[] caps : Value)) ?_
            exact StepFrom.call hop (vs := [(.agg #[.int .i64 (du : Int)] : Value), (.agg #[.int .i64 k2, .int .i64 n2, .int .i64 a2, .slice A3 p3 c3, .slice A4 p4 c4] : Value), (.func (.func fid) #[] caps : Value)]) (by kernel_rfl) (fun w => enter_look _ w) (by kernel_rfl) ((HCL.out wq hQS).mono fun e w9 h9 => by obtain ⟨q1, q2⟩ := h9; exact ⟨_, q1, hQS.trans (q2.mono hQS.size), q2, rfl⟩)
          refine StepsT.cons (fun (x : Value) (_ : World) => x = (.bool (!rk) : Value)) [(45, (fun (x : Value) (_ : World) => x = (.bool rk : Value)))] rfl rfl (fun oq hop _ wq hQS => ?_) ?_
          · refine StepFrom.more_eq ((.bool rk : Value)) ?_
            exact StepFrom.not hop (b := rk) (by kernel_rfl) (by kernel_rfl) hQS (Below.refl _ _) rfl
          exact StepsT.nil
        case hfin =>
          intro wf hFS
          refine FinalFrom.more fun x38 h38 => ?_
          refine FinalFrom.more fun x39 h39 => ?_
          refine FinalFrom.more fun x40 h40 => ?_
          refine FinalFrom.more fun x41 h41 => ?_
          refine FinalFrom.more fun x42 h42 => ?_
          refine FinalFrom.more fun x43 h43 => ?_
          refine FinalFrom.more fun x44 h44 => ?_
          refine FinalFrom.more fun x45 h45 => ?_
          refine FinalFrom.more fun x46 h46 => ?_
          refine FinalFrom.done ?_
          obtain rfl : x46 = (.bool (!rk) : Value) := h46
          have HF2 : Hid (Below w2.heap.size w2 wf) := HB4.out.trans (hFS.mono (by omega))
          have HF3 : Hid (Below w.heap.size w wf) := HB3.out.trans (hFS.mono (by omega))
          clear hS hFS f0 f1 f2 f3 f4 g0 g1 g2 g3 g4 q0 q1
          simp only [Act.put, List.setIfInBounds_toArray, List.set_cons_zero, List.set_cons_succ]
          cases rk with
          | true =>
            have HSO2 : Hid (∀ j' t, j' < j + 1 → kids[j']? = some t → t.look p (d + under k j') = true) := fun j' t' hj' e => by
              rcases Nat.lt_succ_iff_lt_or_eq.1 hj' with hj' | rfl
              · exact HSO.out j' t' hj' e
              · have := HTJ.out
                rw [this] at e
                injection e with e
                rw [← e]; exact HRK.out
            go_wp2
            go_roundw
            case rel => exact ⟨j + 1, by omega, by go_num, HF2.out, HSO2.out⟩
            case measure => simp [intOf]; omega
          | false =>
            have HF : Hid (R = false) := by
              show _ = _
              rw [← HR2.out]
              cases e : Tm.lookL p d k 0 kids with
              | false => rfl
              | true =>
                have := (Tm.lookL_iff p d k kids 0).1 e j t HTJ.out
                rw [Nat.zero_add, HRK.out] at this
                cases this
            go_wp2
            go_ret
            exact ⟨by rw [HF.out]; rfl, HF3.out⟩
      · have HF : Hid (R = true) := by
          show _ = _
          rw [← HR2.out]
          refine (Tm.lookL_iff p d k kids 0).2 fun i t h => ?_
          have := (List.getElem?_eq_some_iff.1 h).1
          rw [HN.out] at this
          rw [Nat.zero_add]
          exact hso i t (by omega) h
        have HF3 : Hid (Below w.heap.size w wr) := HB2.out.trans (hb.mono (by omega))
        clear hb hso
        go_wp2
        go_ret
        exact ⟨by rw [HF.out]; rfl, HF3.out⟩
  | false =>
    have hge := of_decide_eq_false HRR.out
    have hq := HQQ.out
    rw [if_neg hge] at hq
    by_cases k1 : k = 1
    · subst k1
      have HT : Hid (Calls Tryd.prog fid (#[.int .i64 q] ++ caps) w2 (HasPost w2 (p q))) := HA.out q w2 HBW2.out (by have := HBB.out; omega)
      obtain ⟨pq, hpq⟩ : ∃ x, p q = x := ⟨_, rfl⟩
      rw [hpq] at HT
      have HR3 : Hid ((pq && Tm.lookL p d 1 0 kids) = R) := by
        show _ = _
        rw [← HR.out, ← hpq, ← hq, decide_eq_true (show (1 : Int) = 1 ∧ (d : Int) ≤ n by omega)]
        rfl
      clear HR HRR HQQ HA hq hge hpq
      go_wp2_with (fail)
      rw [HC.out]
      refine HT.out.mono ?_
      rintro e w3 ⟨rfl, hb3⟩
      have v0 := (hb3.cell (p := ⟨w.heap.size, 0, none⟩) hl0).trans z0
      have v1 := (hb3.cell (p := ⟨w.heap.size + 1, 0, none⟩) hl1).trans z1
      have v3 := (hb3.cell (p := ⟨w.heap.size + 1, 4, none⟩) hl1).trans z3
      have hs3 := hb3.size
      replace HB2 : Hid (Below w.heap.size w w3) := HB2.out.trans (hb3.mono (by omega))
      replace HBW2 : Hid (Below B W w3) := HBW2.out.trans (hb3.mono (by have := HBB.out; omega))
      replace hl0 : w.heap.size < w3.heap.size := by omega
      replace hl1 : w.heap.size + 1 < w3.heap.size := by omega
      clear hb3 z0 z1 z3 HT HC
      cases pq with
      | false =>
        have HF : Hid (R = false) := by
          show _ = _
          rw [← HR3.out]; rfl
        go_wp2
        go_ret
        exact ⟨by rw [HF.out]; rfl, HB2.out⟩
      | true =>
        have HR2 : Hid (Tm.lookL p d 1 0 kids = R) := by
          show _ = _
          rw [← HR3.out]; rfl
        clear HR3
        obtain ⟨k, hk⟩ : ∃ k : Int, k = 1 := ⟨_, rfl⟩
        rw [← hk] at HR2 v1
        have HK1 := Lib.hid hk
        clear hk
        go_wp2
        go_loopw [33] (fun i wr => ∃ (j : Nat), j ≤ p2 ∧ i = .int .i64 (j : Int) ∧ Below w3.heap.size w3 wr ∧ ∀ j' t, j' < j → kids[j']? = some t → t.look p (d + under k j') = true) (fun i _ => p2 - (intOf i).toNat)
        case atStart => exact ⟨0, Nat.zero_le _, rfl, Below.refl _ _, fun j' t h => by omega⟩
        case round =>
          obtain ⟨j, hj, rfl, hb, hso⟩ := hrel
          have hbz := hb.size
          have HBWr : Hid (Below B W wr) := HBW2.out.trans (hb.mono (by have := HBB.out; omega))
          by_cases hlt : j < p2
          · obtain ⟨t, ht⟩ : ∃ t, kids[j]? = some t := ⟨_, List.getElem?_eq_getElem (by rw [HN.out]; exact hlt)⟩
            obtain ⟨b, o, k2, n2, a2, A3, p3, c3, A4, p4, c4, e, hbB, hvt, f0, f1, f2, f3, f4⟩ := HL.out.at HBWr.out ht
            subst e
            obtain ⟨wk, hwk⟩ : ∃ x, wr.alloc (.cells #[.int .i64 k2, .int .i64 n2, .int .i64 a2, .slice A3 p3 c3, .slice A4 p4 c4] 27) = x := ⟨_, rfl⟩
            have hbk : Below wr.heap.size wr wk := by rw [← hwk]; exact (Below.refl _ _).alloc (Nat.le_refl _) _
            have hsk : wk.heap.size = wr.heap.size + 1 := by rw [← hwk]; simp
            have xk : wk.heap[wr.heap.size]? = some (.cells #[.int .i64 k2, .int .i64 n2, .int .i64 a2, .slice A3 p3 c3, .slice A4 p4 c4] 27 (0, 0)) := by rw [← hwk]; exact heap_alloc_new wr _
            have g0 := cell_of_row _ _ 0 _ _ (0, 0) xk
            have g1 := cell_of_row _ _ 1 _ _ (0, 0) xk
            have g2 := cell_of_row _ _ 2 _ _ (0, 0) xk
            have g3 := cell_of_row _ _ 3 _ _ (0, 0) xk
            have g4 := cell_of_row _ _ 4 _ _ (0, 0) xk
            have q0 := ((hb.trans (hbk.mono hbz)).cell (p := ⟨w.heap.size, 0, none⟩) (show w.heap.size < w3.heap.size by omega)).trans v0
            have q1 := ((hb.trans (hbk.mono hbz)).cell (p := ⟨w.heap.size + 1, 0, none⟩) (show w.heap.size + 1 < w3.heap.size by omega)).trans v1
            have HBK : Hid (Below B W wk) := HBWr.out.trans (hbk.mono (by have := HBB.out; omega))
            have HB3 : Hid (Below w.heap.size w wk) := HB2.out.trans ((hb.trans (hbk.mono hbz)).mono (by omega))
            have HB4 : Hid (Below w3.heap.size w3 wk) := hb.trans (hbk.mono hbz)
            obtain ⟨rk, hrk⟩ : ∃ x, t.look p (d + under k j) = x := ⟨_, rfl⟩
            obtain ⟨du, hdu⟩ : ∃ x, d + under k j = x := ⟨_, rfl⟩
            have hbsz := HBB.out
            have HCB : Hid (∀ w', Below wk.heap.size wk w' → Calls Tryd.prog 82 #[.agg #[.int .i64 (d : Int)], .int .i64 k, .int .i64 (j : Int)] w' (fun e w9 => e = .returned (.agg #[.int .i64 (du : Int)]) ∧ Below w'.heap.size w' w9)) := fun w' hx => by
              rw [← hdu]
              exact below_any d k j w' hd6 (by omega) (HK.out.below (HBK.out.trans (hx.mono (by omega))) hB)
            have HCL : Hid (∀ w', Below wk.heap.size wk w' → Calls Tryd.prog 52 #[.agg #[.int .i64 (du : Int)], .agg #[.int .i64 k2, .int .i64 n2, .int .i64 a2, .slice A3 p3 c3, .slice A4 p4 c4], .func (.func fid) #[] caps] w' (HasPost w' rk)) := fun w' hx => by
              have hm := List.mem_of_getElem? ht
              rw [← hrk, ← hdu]
              exact IH.out t hm (HKF.out t hm) _ _ w' (HSZ.out t hm _ (under_le k j)) (HBK.out.trans (hx.mono (by omega))) (by have := hx.size; omega) hvt
            have HRK : Hid (t.look p (d + under k j) = rk) := hrk
            have HTJ := Lib.hid ht
            have HSO := Lib.hid hso
            have ij0 : (0 : Int) ≤ (j : Int) := by omega
            have ij1 : (j : Int) < (p2 : Int) := by omega
            have lk0 : w.heap.size < wk.heap.size := by omega
            have lk1 : w.heap.size + 1 < wk.heap.size := by omega
            have lk2 : wr.heap.size < wk.heap.size := by omega
            clear hb hso ht hvt hbk xk hrk hdu hbsz
            go_upto_region 7 with (fail)
            have hS : Below wk.heap.size wk wk.drew := (Below.refl _ _).drew
            refine wp_region_tab (fun w' => Below wk.heap.size wk w') (fun w1 w2 : World => Below w1.heap.size w1 w2) [(fun (x : Value) (_ : World) => x = (.agg #[.int .i64 (d : Int)] : Value)), (fun (x : Value) (_ : World) => x = (.pointer (some ⟨w.heap.size + 1, 0, none⟩) : Value)), (fun (x : Value) (_ : World) => x = (.int .i64 k : Value)), (fun (x : Value) (_ : World) => x = (.int .i64 (j : Int) : Value)), (fun (x : Value) (_ : World) => x = (.agg #[.int .i64 (du : Int)] : Value)), (fun (x : Value) (_ : World) => x = (.agg #[.int .i64 k2, .int .i64 n2, .int .i64 a2, .slice A3 p3 c3, .slice A4 p4 c4] : Value)), (fun (x : Value) (_ : World) => x = (.func (.func fid) #[] caps : Value)), (fun (x : Value) (_ : World) => x = (.bool rk : Value)), (fun (x : Value) (_ : World) => x = (.bool (!rk) : Value))] [⟨some 38, .load 72 (.tmp 3), none, []⟩, ⟨some 39, .fieldAddr 27 (.tmp 4) 0, none, []⟩, ⟨some 40, .load 23 (.tmp 39), none, [(39, 1)]⟩, ⟨some 41, .move (.tmp 9), none, []⟩, ⟨some 42, .call { callee := .value (.func 82), args := #[.tmp 38, .tmp 40, .tmp 41], argTypes := #[72, 23, 3] }, none, [(38, 0), (40, 2), (41, 3)]⟩, ⟨some 43, .load 27 (.tmp 10), none, []⟩, ⟨some 44, .move (.tmp 2), none, []⟩, ⟨some 45, .call { callee := .value (.func 52), args := #[.tmp 42, .tmp 43, .tmp 44], argTypes := #[72, 27, 102] }, none, [(42, 4), (43, 5), (44, 6)]⟩, ⟨some 46, .unOp .not 4 (.tmp 45), none, [(45, 7)]⟩] [some 38, some 39, some 40, some 41, some 42, some 43, some 44, some 45, some 46] (by kernel_rfl) (by kernel_rfl) (by kernel_rfl) (by kernel_rfl) (by kernel_rfl) ?hS ?hmono ?hsteps ?hfin
            case hS => exact hS
            case hmono =>
              refine MonoL.cons (fun x w1 w2 _ _ _ hx => hx) ?_
              refine MonoL.cons (fun x w1 w2 _ _ _ hx => hx) ?_
              refine MonoL.cons (fun x w1 w2 _ _ _ hx => hx) ?_
              refine MonoL.cons (fun x w1 w2 _ _ _ hx => hx) ?_
              refine MonoL.cons (fun x w1 w2 _ _ _ hx => hx) ?_
              refine MonoL.cons (fun x w1 w2 _ _ _ hx => hx) ?_
              refine MonoL.cons (fun x w1 w2 _ _ _ hx => hx) ?_
              refine MonoL.cons (fun x w1 w2 _ _ _ hx => hx) ?_
              refine MonoL.cons (fun x w1 w2 _ _ _ hx => hx) ?_
              exact MonoL.nil
            case hsteps =>
              refine StepsT.cons (fun (x : Value) (_ : World) => x = (.agg #[.int .i64 (d : Int)] : Value)) [] rfl rfl (fun oq hop _ wq hQS => ?_) ?_
              · exact StepFrom.load hop (p := (.pointer (some ⟨w.heap.size, 0, none⟩) : Value)) (by kernel_rfl) (load_depth ((hQS.cell (p := ⟨w.heap.size, 0, none⟩) lk0).trans q0)) (by kernel_rfl) hQS (Below.refl _ _) rfl
              refine StepsT.cons (fun (x : Value) (_ : World) => x = (.pointer (some ⟨w.heap.size + 1, 0, none⟩) : Value)) [] rfl rfl (fun oq hop _ wq hQS => ?_) ?_
              · exact StepFrom.fieldAddr hop (p := (.pointer (some ⟨w.heap.size + 1, 0, none⟩) : Value)) (by kernel_rfl) (term_field 0 (by decide)) (by kernel_rfl) hQS (Below.refl _ _) rfl
              refine StepsT.cons (fun (x : Value) (_ : World) => x = (.int .i64 k : Value)) [(39, (fun (x : Value) (_ : World) => x = (.pointer (some ⟨w.heap.size + 1, 0, none⟩) : Value)))] rfl rfl (fun oq hop _ wq hQS => ?_) ?_
              · refine StepFrom.more_eq ((.pointer (some ⟨w.heap.size + 1, 0, none⟩) : Value)) ?_
                exact StepFrom.load hop (p := (.pointer (some ⟨w.heap.size + 1, 0, none⟩) : Value)) (by kernel_rfl) (load_kind ((hQS.cell (p := ⟨w.heap.size + 1, 0, none⟩) lk1).trans q1)) (by kernel_rfl) hQS (Below.refl _ _) rfl
              refine StepsT.cons (fun (x : Value) (_ : World) => x = (.int .i64 (j : Int) : Value)) [] rfl rfl (fun oq hop _ wq hQS => ?_) ?_
              · exact StepFrom.move hop (v := (.int .i64 (j : Int) : Value)) (by kernel_rfl) (by kernel_rfl) hQS (Below.refl _ _) rfl
              refine StepsT.cons (fun (x : Value) (_ : World) => x = (.agg #[.int .i64 (du : Int)] : Value)) [(38, (fun (x : Value) (_ : World) => x = (.agg #[.int .i64 (d : Int)] : Value))), (40, (fun (x : Value) (_ : World) => x = (.int .i64 k : Value))), (41, (fun (x : Value) (_ : World) => x = (.int .i64 (j : Int) : Value)))] rfl rfl (fun oq hop _ wq hQS => ?_) ?_
              · refine StepFrom.more_eq ((.agg #[.int .i64 (d : Int)] : Value)) ?_
                refine StepFrom.more_eq ((.int .i64 k : Value)) ?_
                refine StepFrom.more_eq ((.int .i64 (j : Int) : Value)) ?_
                exact StepFrom.call hop (vs := [(.agg #[.int .i64 (d : Int)] : Value), (.int .i64 k : Value), (.int .i64 (j : Int) : Value)]) (by kernel_rfl) (fun w => enter_below _ w) (by kernel_rfl) ((HCB.out wq hQS).mono fun e w9 h9 => by obtain ⟨q1, q2⟩ := h9; exact ⟨_, q1, hQS.trans (q2.mono hQS.size), q2, rfl⟩)
              refine StepsT.cons (fun (x : Value) (_ : World) => x = (.agg #[.int .i64 k2, .int .i64 n2, .int .i64 a2, .slice A3 p3 c3, .slice A4 p4 c4] : Value)) [] rfl rfl (fun oq hop _ wq hQS => ?_) ?_
              · exact StepFrom.load hop (p := (.pointer (some ⟨wr.heap.size, 0, none⟩) : Value)) (by kernel_rfl) (load_term ((hQS.cell (p := ⟨wr.heap.size, 0, none⟩) lk2).trans g0) ((hQS.cell (p := ⟨wr.heap.size, 1, none⟩) lk2).trans g1) ((hQS.cell (p := ⟨wr.heap.size, 2, none⟩) lk2).trans g2) ((hQS.cell (p := ⟨wr.heap.size, 3, none⟩) lk2).trans g3) ((hQS.cell (p := ⟨wr.heap.size, 4, none⟩) lk2).trans g4)) (by kernel_rfl) hQS (Below.refl _ _) rfl
              refine StepsT.cons (fun (x : Value) (_ : World) => x = (.func (.func fid) #[] caps : Value)) [] rfl rfl (fun oq hop _ wq hQS => ?_) ?_
              · exact StepFrom.move hop (v := (.func (.func fid) #[] caps : Value)) (by kernel_rfl) (by kernel_rfl) hQS (Below.refl _ _) rfl
              refine StepsT.cons (fun (x : Value) (_ : World) => x = (.bool rk : Value)) [(42, (fun (x : Value) (_ : World) => x = (.agg #[.int .i64 (du : Int)] : Value))), (43, (fun (x : Value) (_ : World) => x = (.agg #[.int .i64 k2, .int .i64 n2, .int .i64 a2, .slice A3 p3 c3, .slice A4 p4 c4] : Value))), (44, (fun (x : Value) (_ : World) => x = (.func (.func fid) #[] caps : Value)))] rfl rfl (fun oq hop _ wq hQS => ?_) ?_
              · refine StepFrom.more_eq ((.agg #[.int .i64 (du : Int)] : Value)) ?_
                refine StepFrom.more_eq ((.agg #[.int .i64 k2, .int .i64 n2, .int .i64 a2, .slice A3 p3 c3, .slice A4 p4 c4] : Value)) ?_
                refine StepFrom.more_eq ((.func (.func fid) #[] caps : Value)) ?_
                exact StepFrom.call hop (vs := [(.agg #[.int .i64 (du : Int)] : Value), (.agg #[.int .i64 k2, .int .i64 n2, .int .i64 a2, .slice A3 p3 c3, .slice A4 p4 c4] : Value), (.func (.func fid) #[] caps : Value)]) (by kernel_rfl) (fun w => enter_look _ w) (by kernel_rfl) ((HCL.out wq hQS).mono fun e w9 h9 => by obtain ⟨q1, q2⟩ := h9; exact ⟨_, q1, hQS.trans (q2.mono hQS.size), q2, rfl⟩)
              refine StepsT.cons (fun (x : Value) (_ : World) => x = (.bool (!rk) : Value)) [(45, (fun (x : Value) (_ : World) => x = (.bool rk : Value)))] rfl rfl (fun oq hop _ wq hQS => ?_) ?_
              · refine StepFrom.more_eq ((.bool rk : Value)) ?_
                exact StepFrom.not hop (b := rk) (by kernel_rfl) (by kernel_rfl) hQS (Below.refl _ _) rfl
              exact StepsT.nil
            case hfin =>
              intro wf hFS
              refine FinalFrom.more fun x38 h38 => ?_
              refine FinalFrom.more fun x39 h39 => ?_
              refine FinalFrom.more fun x40 h40 => ?_
              refine FinalFrom.more fun x41 h41 => ?_
              refine FinalFrom.more fun x42 h42 => ?_
              refine FinalFrom.more fun x43 h43 => ?_
              refine FinalFrom.more fun x44 h44 => ?_
              refine FinalFrom.more fun x45 h45 => ?_
              refine FinalFrom.more fun x46 h46 => ?_
              refine FinalFrom.done ?_
              obtain rfl : x46 = (.bool (!rk) : Value) := h46
              have HF2 : Hid (Below w3.heap.size w3 wf) := HB4.out.trans (hFS.mono (by omega))
              have HF3 : Hid (Below w.heap.size w wf) := HB3.out.trans (hFS.mono (by omega))
              clear hS hFS f0 f1 f2 f3 f4 g0 g1 g2 g3 g4 q0 q1
              simp only [Act.put, List.setIfInBounds_toArray, List.set_cons_zero, List.set_cons_succ]
              cases rk with
              | true =>
                have HSO2 : Hid (∀ j' t, j' < j + 1 → kids[j']? = some t → t.look p (d + under k j') = true) := fun j' t' hj' e => by
                  rcases Nat.lt_succ_iff_lt_or_eq.1 hj' with hj' | rfl
                  · exact HSO.out j' t' hj' e
                  · have := HTJ.out
                    rw [this] at e
                    injection e with e
                    rw [← e]; exact HRK.out
                go_wp2
                go_roundw
                case rel => exact ⟨j + 1, by omega, by go_num, HF2.out, HSO2.out⟩
                case measure => simp [intOf]; omega
              | false =>
                have HF : Hid (R = false) := by
                  show _ = _
                  rw [← HR2.out]
                  cases e : Tm.lookL p d k 0 kids with
                  | false => rfl
                  | true =>
                    have := (Tm.lookL_iff p d k kids 0).1 e j t HTJ.out
                    rw [Nat.zero_add, HRK.out] at this
                    cases this
                go_wp2
                go_ret
                exact ⟨by rw [HF.out]; rfl, HF3.out⟩
          · have HF : Hid (R = true) := by
              show _ = _
              rw [← HR2.out]
              refine (Tm.lookL_iff p d k kids 0).2 fun i t h => ?_
              have := (List.getElem?_eq_some_iff.1 h).1
              rw [HN.out] at this
              rw [Nat.zero_add]
              exact hso i t (by omega) h
            have HF3 : Hid (Below w.heap.size w wr) := HB2.out.trans (hb.mono (by omega))
            clear hb hso
            go_wp2
            go_ret
            exact ⟨by rw [HF.out]; rfl, HF3.out⟩
    · have hk1 : (k == 1) = false := by simpa using k1
      have HR2 : Hid (Tm.lookL p d k 0 kids = R) := by
        show _ = _
        rw [← HR.out, decide_eq_false (show ¬ (k = 1 ∧ (d : Int) ≤ n) by omega)]
        rfl
      clear HR HRR HQQ HA HC hq hge k1
      go_wp2
      go_loopw [33] (fun i wr => ∃ (j : Nat), j ≤ p2 ∧ i = .int .i64 (j : Int) ∧ Below w2.heap.size w2 wr ∧ ∀ j' t, j' < j → kids[j']? = some t → t.look p (d + under k j') = true) (fun i _ => p2 - (intOf i).toNat)
      case atStart => exact ⟨0, Nat.zero_le _, rfl, Below.refl _ _, fun j' t h => by omega⟩
      case round =>
        obtain ⟨j, hj, rfl, hb, hso⟩ := hrel
        have hbz := hb.size
        have HBWr : Hid (Below B W wr) := HBW2.out.trans (hb.mono (by have := HBB.out; omega))
        by_cases hlt : j < p2
        · obtain ⟨t, ht⟩ : ∃ t, kids[j]? = some t := ⟨_, List.getElem?_eq_getElem (by rw [HN.out]; exact hlt)⟩
          obtain ⟨b, o, k2, n2, a2, A3, p3, c3, A4, p4, c4, e, hbB, hvt, f0, f1, f2, f3, f4⟩ := HL.out.at HBWr.out ht
          subst e
          obtain ⟨wk, hwk⟩ : ∃ x, wr.alloc (.cells #[.int .i64 k2, .int .i64 n2, .int .i64 a2, .slice A3 p3 c3, .slice A4 p4 c4] 27) = x := ⟨_, rfl⟩
          have hbk : Below wr.heap.size wr wk := by rw [← hwk]; exact (Below.refl _ _).alloc (Nat.le_refl _) _
          have hsk : wk.heap.size = wr.heap.size + 1 := by rw [← hwk]; simp
          have xk : wk.heap[wr.heap.size]? = some (.cells #[.int .i64 k2, .int .i64 n2, .int .i64 a2, .slice A3 p3 c3, .slice A4 p4 c4] 27 (0, 0)) := by rw [← hwk]; exact heap_alloc_new wr _
          have g0 := cell_of_row _ _ 0 _ _ (0, 0) xk
          have g1 := cell_of_row _ _ 1 _ _ (0, 0) xk
          have g2 := cell_of_row _ _ 2 _ _ (0, 0) xk
          have g3 := cell_of_row _ _ 3 _ _ (0, 0) xk
          have g4 := cell_of_row _ _ 4 _ _ (0, 0) xk
          have q0 := ((hb.trans (hbk.mono hbz)).cell (p := ⟨w.heap.size, 0, none⟩) (show w.heap.size < w2.heap.size by omega)).trans z0
          have q1 := ((hb.trans (hbk.mono hbz)).cell (p := ⟨w.heap.size + 1, 0, none⟩) (show w.heap.size + 1 < w2.heap.size by omega)).trans z1
          have HBK : Hid (Below B W wk) := HBWr.out.trans (hbk.mono (by have := HBB.out; omega))
          have HB3 : Hid (Below w.heap.size w wk) := HB2.out.trans ((hb.trans (hbk.mono hbz)).mono (by omega))
          have HB4 : Hid (Below w2.heap.size w2 wk) := hb.trans (hbk.mono hbz)
          obtain ⟨rk, hrk⟩ : ∃ x, t.look p (d + under k j) = x := ⟨_, rfl⟩
          obtain ⟨du, hdu⟩ : ∃ x, d + under k j = x := ⟨_, rfl⟩
          have hbsz := HBB.out
          have HCB : Hid (∀ w', Below wk.heap.size wk w' → Calls Tryd.prog 82 #[.agg #[.int .i64 (d : Int)], .int .i64 k, .int .i64 (j : Int)] w' (fun e w9 => e = .returned (.agg #[.int .i64 (du : Int)]) ∧ Below w'.heap.size w' w9)) := fun w' hx => by
            rw [← hdu]
            exact below_any d k j w' hd6 (by omega) (HK.out.below (HBK.out.trans (hx.mono (by omega))) hB)
          have HCL : Hid (∀ w', Below wk.heap.size wk w' → Calls Tryd.prog 52 #[.agg #[.int .i64 (du : Int)], .agg #[.int .i64 k2, .int .i64 n2, .int .i64 a2, .slice A3 p3 c3, .slice A4 p4 c4], .func (.func fid) #[] caps] w' (HasPost w' rk)) := fun w' hx => by
            have hm := List.mem_of_getElem? ht
            rw [← hrk, ← hdu]
            exact IH.out t hm (HKF.out t hm) _ _ w' (HSZ.out t hm _ (under_le k j)) (HBK.out.trans (hx.mono (by omega))) (by have := hx.size; omega) hvt
          have HRK : Hid (t.look p (d + under k j) = rk) := hrk
          have HTJ := Lib.hid ht
          have HSO := Lib.hid hso
          have ij0 : (0 : Int) ≤ (j : Int) := by omega
          have ij1 : (j : Int) < (p2 : Int) := by omega
          have lk0 : w.heap.size < wk.heap.size := by omega
          have lk1 : w.heap.size + 1 < wk.heap.size := by omega
          have lk2 : wr.heap.size < wk.heap.size := by omega
          clear hb hso ht hvt hbk xk hrk hdu hbsz
          go_upto_region 7 with (fail)
          have hS : Below wk.heap.size wk wk.drew := (Below.refl _ _).drew
          refine wp_region_tab (fun w' => Below wk.heap.size wk w') (fun w1 w2 : World => Below w1.heap.size w1 w2) [(fun (x : Value) (_ : World) => x = (.agg #[.int .i64 (d : Int)] : Value)), (fun (x : Value) (_ : World) => x = (.pointer (some ⟨w.heap.size + 1, 0, none⟩) : Value)), (fun (x : Value) (_ : World) => x = (.int .i64 k : Value)), (fun (x : Value) (_ : World) => x = (.int .i64 (j : Int) : Value)), (fun (x : Value) (_ : World) => x = (.agg #[.int .i64 (du : Int)] : Value)), (fun (x : Value) (_ : World) => x = (.agg #[.int .i64 k2, .int .i64 n2, .int .i64 a2, .slice A3 p3 c3, .slice A4 p4 c4] : Value)), (fun (x : Value) (_ : World) => x = (.func (.func fid) #[] caps : Value)), (fun (x : Value) (_ : World) => x = (.bool rk : Value)), (fun (x : Value) (_ : World) => x = (.bool (!rk) : Value))] [⟨some 38, .load 72 (.tmp 3), none, []⟩, ⟨some 39, .fieldAddr 27 (.tmp 4) 0, none, []⟩, ⟨some 40, .load 23 (.tmp 39), none, [(39, 1)]⟩, ⟨some 41, .move (.tmp 9), none, []⟩, ⟨some 42, .call { callee := .value (.func 82), args := #[.tmp 38, .tmp 40, .tmp 41], argTypes := #[72, 23, 3] }, none, [(38, 0), (40, 2), (41, 3)]⟩, ⟨some 43, .load 27 (.tmp 10), none, []⟩, ⟨some 44, .move (.tmp 2), none, []⟩, ⟨some 45, .call { callee := .value (.func 52), args := #[.tmp 42, .tmp 43, .tmp 44], argTypes := #[72, 27, 102] }, none, [(42, 4), (43, 5), (44, 6)]⟩, ⟨some 46, .unOp .not 4 (.tmp 45), none, [(45, 7)]⟩] [some 38, some 39, some 40, some 41, some 42, some 43, some 44, some 45, some 46] (by kernel_rfl) (by kernel_rfl) (by kernel_rfl) (by kernel_rfl) (by kernel_rfl) ?hS ?hmono ?hsteps ?hfin
          case hS => exact hS
          case hmono =>
            refine MonoL.cons (fun x w1 w2 _ _ _ hx => hx) ?_
            refine MonoL.cons (fun x w1 w2 _ _ _ hx => hx) ?_
            refine MonoL.cons (fun x w1 w2 _ _ _ hx => hx) ?_
            refine MonoL.cons (fun x w1 w2 _ _ _ hx => hx) ?_
            refine MonoL.cons (fun x w1 w2 _ _ _ hx => hx) ?_
            refine MonoL.cons (fun x w1 w2 _ _ _ hx => hx) ?_
            refine MonoL.cons (fun x w1 w2 _ _ _ hx => hx) ?_
            refine MonoL.cons (fun x w1 w2 _ _ _ hx => hx) ?_
            refine MonoL.cons (fun x w1 w2 _ _ _ hx => hx) ?_
            exact MonoL.nil
          case hsteps =>
            refine StepsT.cons (fun (x : Value) (_ : World) => x = (.agg #[.int .i64 (d : Int)] : Value)) [] rfl rfl (fun oq hop _ wq hQS => ?_) ?_
            · exact StepFrom.load hop (p := (.pointer (some ⟨w.heap.size, 0, none⟩) : Value)) (by kernel_rfl) (load_depth ((hQS.cell (p := ⟨w.heap.size, 0, none⟩) lk0).trans q0)) (by kernel_rfl) hQS (Below.refl _ _) rfl
            refine StepsT.cons (fun (x : Value) (_ : World) => x = (.pointer (some ⟨w.heap.size + 1, 0, none⟩) : Value)) [] rfl rfl (fun oq hop _ wq hQS => ?_) ?_
            · exact StepFrom.fieldAddr hop (p := (.pointer (some ⟨w.heap.size + 1, 0, none⟩) : Value)) (by kernel_rfl) (term_field 0 (by decide)) (by kernel_rfl) hQS (Below.refl _ _) rfl
            refine StepsT.cons (fun (x : Value) (_ : World) => x = (.int .i64 k : Value)) [(39, (fun (x : Value) (_ : World) => x = (.pointer (some ⟨w.heap.size + 1, 0, none⟩) : Value)))] rfl rfl (fun oq hop _ wq hQS => ?_) ?_
            · refine StepFrom.more_eq ((.pointer (some ⟨w.heap.size + 1, 0, none⟩) : Value)) ?_
              exact StepFrom.load hop (p := (.pointer (some ⟨w.heap.size + 1, 0, none⟩) : Value)) (by kernel_rfl) (load_kind ((hQS.cell (p := ⟨w.heap.size + 1, 0, none⟩) lk1).trans q1)) (by kernel_rfl) hQS (Below.refl _ _) rfl
            refine StepsT.cons (fun (x : Value) (_ : World) => x = (.int .i64 (j : Int) : Value)) [] rfl rfl (fun oq hop _ wq hQS => ?_) ?_
            · exact StepFrom.move hop (v := (.int .i64 (j : Int) : Value)) (by kernel_rfl) (by kernel_rfl) hQS (Below.refl _ _) rfl
            refine StepsT.cons (fun (x : Value) (_ : World) => x = (.agg #[.int .i64 (du : Int)] : Value)) [(38, (fun (x : Value) (_ : World) => x = (.agg #[.int .i64 (d : Int)] : Value))), (40, (fun (x : Value) (_ : World) => x = (.int .i64 k : Value))), (41, (fun (x : Value) (_ : World) => x = (.int .i64 (j : Int) : Value)))] rfl rfl (fun oq hop _ wq hQS => ?_) ?_
            · refine StepFrom.more_eq ((.agg #[.int .i64 (d : Int)] : Value)) ?_
              refine StepFrom.more_eq ((.int .i64 k : Value)) ?_
              refine StepFrom.more_eq ((.int .i64 (j : Int) : Value)) ?_
              exact StepFrom.call hop (vs := [(.agg #[.int .i64 (d : Int)] : Value), (.int .i64 k : Value), (.int .i64 (j : Int) : Value)]) (by kernel_rfl) (fun w => enter_below _ w) (by kernel_rfl) ((HCB.out wq hQS).mono fun e w9 h9 => by obtain ⟨q1, q2⟩ := h9; exact ⟨_, q1, hQS.trans (q2.mono hQS.size), q2, rfl⟩)
            refine StepsT.cons (fun (x : Value) (_ : World) => x = (.agg #[.int .i64 k2, .int .i64 n2, .int .i64 a2, .slice A3 p3 c3, .slice A4 p4 c4] : Value)) [] rfl rfl (fun oq hop _ wq hQS => ?_) ?_
            · exact StepFrom.load hop (p := (.pointer (some ⟨wr.heap.size, 0, none⟩) : Value)) (by kernel_rfl) (load_term ((hQS.cell (p := ⟨wr.heap.size, 0, none⟩) lk2).trans g0) ((hQS.cell (p := ⟨wr.heap.size, 1, none⟩) lk2).trans g1) ((hQS.cell (p := ⟨wr.heap.size, 2, none⟩) lk2).trans g2) ((hQS.cell (p := ⟨wr.heap.size, 3, none⟩) lk2).trans g3) ((hQS.cell (p := ⟨wr.heap.size, 4, none⟩) lk2).trans g4)) (by kernel_rfl) hQS (Below.refl _ _) rfl
            refine StepsT.cons (fun (x : Value) (_ : World) => x = (.func (.func fid) #[] caps : Value)) [] rfl rfl (fun oq hop _ wq hQS => ?_) ?_
            · exact StepFrom.move hop (v := (.func (.func fid) #[] caps : Value)) (by kernel_rfl) (by kernel_rfl) hQS (Below.refl _ _) rfl
            refine StepsT.cons (fun (x : Value) (_ : World) => x = (.bool rk : Value)) [(42, (fun (x : Value) (_ : World) => x = (.agg #[.int .i64 (du : Int)] : Value))), (43, (fun (x : Value) (_ : World) => x = (.agg #[.int .i64 k2, .int .i64 n2, .int .i64 a2, .slice A3 p3 c3, .slice A4 p4 c4] : Value))), (44, (fun (x : Value) (_ : World) => x = (.func (.func fid) #[] caps : Value)))] rfl rfl (fun oq hop _ wq hQS => ?_) ?_
            · refine StepFrom.more_eq ((.agg #[.int .i64 (du : Int)] : Value)) ?_
              refine StepFrom.more_eq ((.agg #[.int .i64 k2, .int .i64 n2, .int .i64 a2, .slice A3 p3 c3, .slice A4 p4 c4] : Value)) ?_
              refine StepFrom.more_eq ((.func (.func fid) #[] caps : Value)) ?_
              exact StepFrom.call hop (vs := [(.agg #[.int .i64 (du : Int)] : Value), (.agg #[.int .i64 k2, .int .i64 n2, .int .i64 a2, .slice A3 p3 c3, .slice A4 p4 c4] : Value), (.func (.func fid) #[] caps : Value)]) (by kernel_rfl) (fun w => enter_look _ w) (by kernel_rfl) ((HCL.out wq hQS).mono fun e w9 h9 => by obtain ⟨q1, q2⟩ := h9; exact ⟨_, q1, hQS.trans (q2.mono hQS.size), q2, rfl⟩)
            refine StepsT.cons (fun (x : Value) (_ : World) => x = (.bool (!rk) : Value)) [(45, (fun (x : Value) (_ : World) => x = (.bool rk : Value)))] rfl rfl (fun oq hop _ wq hQS => ?_) ?_
            · refine StepFrom.more_eq ((.bool rk : Value)) ?_
              exact StepFrom.not hop (b := rk) (by kernel_rfl) (by kernel_rfl) hQS (Below.refl _ _) rfl
            exact StepsT.nil
          case hfin =>
            intro wf hFS
            refine FinalFrom.more fun x38 h38 => ?_
            refine FinalFrom.more fun x39 h39 => ?_
            refine FinalFrom.more fun x40 h40 => ?_
            refine FinalFrom.more fun x41 h41 => ?_
            refine FinalFrom.more fun x42 h42 => ?_
            refine FinalFrom.more fun x43 h43 => ?_
            refine FinalFrom.more fun x44 h44 => ?_
            refine FinalFrom.more fun x45 h45 => ?_
            refine FinalFrom.more fun x46 h46 => ?_
            refine FinalFrom.done ?_
            obtain rfl : x46 = (.bool (!rk) : Value) := h46
            have HF2 : Hid (Below w2.heap.size w2 wf) := HB4.out.trans (hFS.mono (by omega))
            have HF3 : Hid (Below w.heap.size w wf) := HB3.out.trans (hFS.mono (by omega))
            clear hS hFS f0 f1 f2 f3 f4 g0 g1 g2 g3 g4 q0 q1
            simp only [Act.put, List.setIfInBounds_toArray, List.set_cons_zero, List.set_cons_succ]
            cases rk with
            | true =>
              have HSO2 : Hid (∀ j' t, j' < j + 1 → kids[j']? = some t → t.look p (d + under k j') = true) := fun j' t' hj' e => by
                rcases Nat.lt_succ_iff_lt_or_eq.1 hj' with hj' | rfl
                · exact HSO.out j' t' hj' e
                · have := HTJ.out
                  rw [this] at e
                  injection e with e
                  rw [← e]; exact HRK.out
              go_wp2
              go_roundw
              case rel => exact ⟨j + 1, by omega, by go_num, HF2.out, HSO2.out⟩
              case measure => simp [intOf]; omega
            | false =>
              have HF : Hid (R = false) := by
                show _ = _
                rw [← HR2.out]
                cases e : Tm.lookL p d k 0 kids with
                | false => rfl
                | true =>
                  have := (Tm.lookL_iff p d k kids 0).1 e j t HTJ.out
                  rw [Nat.zero_add, HRK.out] at this
                  cases this
              go_wp2
              go_ret
              exact ⟨by rw [HF.out]; rfl, HF3.out⟩
        · have HF : Hid (R = true) := by
            show _ = _
            rw [← HR2.out]
            refine (Tm.lookL_iff p d k kids 0).2 fun i t h => ?_
            have := (List.getElem?_eq_some_iff.1 h).1
            rw [HN.out] at this
            rw [Nat.zero_add]
            exact hso i t (by omega) h
          have HF3 : Hid (Below w.heap.size w wr) := HB2.out.trans (hb.mono (by omega))
          clear hb hso
          go_wp2
          go_ret
          exact ⟨by rw [HF.out]; rfl, HF3.out⟩
theorem look_any (W : World) (B D fid : Nat) (caps : Array Value) (p : Int → Bool) (hD : D ≤ 1073741824) (hB : 0 < B) (hK : KindsAt W) (hcall : ∀ vs w, (callFunc fid vs).run Tryd.prog w = .ok (.enter fid vs) w) (hA : AskOk W B fid caps p) : ∀ t, LookTm W B D fid caps p t := by
  intro t
  induction t using Tm.ind with
  | h k n a lv kids ih =>
    intro hf d v w hd hb hBw hv
    obtain ⟨Al, cl, Ak, ck, rfl, _, _, hts⟩ := hv.open
    exact look_of W B D fid caps p hD hB hK hcall hA k n a lv kids ih hf d w Al Ak _ cl _ ck hd hb hBw rfl hts
/-- outside of this range? -/
def outF (from' til : Int) (x : Int) : Bool := decide (x < from') || decide (til ≤ x)
set_option maxRecDepth 100000 in
theorem enter_free1 (vs : Array Value) (w : World) : (callFunc 53 vs).run Tryd.prog w = .ok (.enter 53 vs) w := by go_simp
set_option maxRecDepth 100000 in
set_option maxHeartbeats 1000000 in
theorem free1_any (x from' til : Int) (pf pt : Nat) (w : World) (h1 : w.cell? ⟨pf, 0, none⟩ = some (.int .i64 from')) (h2 : w.cell? ⟨pt, 0, none⟩ = some (.int .i64 til)) :
    Calls Tryd.prog 53 #[.int .i64 x, .pointer (some ⟨pf, 0, none⟩), .pointer (some ⟨pt, 0, none⟩)] w (HasPost w (outF from' til x)) := by
  unfold outF
  by_cases t1 : x < from'
  · have HF : Hid ((decide (x < from') || decide (til ≤ x)) = true) := by show _ = _; simp [t1]
    go_enter Tryd.func53, Tryd.ntmps53
    go_wp2
    go_ret
    exact ⟨by rw [HF.out]; rfl, Below.refl _ _⟩
  · obtain ⟨z, hz⟩ : ∃ z, decide (til ≤ x) = z := ⟨_, rfl⟩
    go_enter Tryd.func53, Tryd.ntmps53
    go_wp2
    go_ret
    exact ⟨by rw [decide_eq_false (show ¬ x < from' by omega)]; rfl, Below.refl _ _⟩
set_option maxRecDepth 100000 in
set_option maxHeartbeats 4000000 in
theorem free_of (k n a : Int) (lv : List (List (Int × Int))) (kids : List Tm) (hf : (Tm.mk k n a lv kids).fit) (w : World) (Al Ak : Option Addr) (p1 c1 p2 c2 : Nat) (from' til : Int) (hd : (Tm.mk k n a lv kids).size ≤ 1073741824) (hK : KindsAt w)
    (hv : TmAt w w.heap.size (.mk k n a lv kids) (.agg #[.int .i64 k, .int .i64 n, .int .i64 a, .slice Al p1 c1, .slice Ak p2 c2])) :
    Calls Tryd.prog 23 #[.agg #[.int .i64 k, .int .i64 n, .int .i64 a, .slice Al p1 c1, .slice Ak p2 c2], .int .i64 from', .int .i64 til] w (HasPost w (!(Tm.mk k n a lv kids).look (outF from' til) 0)) := by
  have h0 : 0 < w.heap.size := cell_lt (hK 0 (by decide))
  obtain ⟨wa, hwa⟩ : ∃ x, w.alloc (.cells #[.int .i64 k, .int .i64 n, .int .i64 a, .slice Al p1 c1, .slice Ak p2 c2] 27) = x := ⟨_, rfl⟩
  obtain ⟨w1, hw1⟩ : ∃ x, (wa.alloc (.cells #[.int .i64 from'] 3)).alloc (.cells #[.int .i64 til] 3) = x := ⟨_, rfl⟩
  have hsa : wa.heap.size = w.heap.size + 1 := by rw [← hwa]; simp
  have hba : Below w.heap.size w wa := by rw [← hwa]; exact (Below.refl _ _).alloc (Nat.le_refl _) _
  have hb1a : Below wa.heap.size wa w1 := by rw [← hw1]; exact ((Below.refl _ _).alloc (Nat.le_refl _) _).alloc (by simp) _
  have hb1 := hba.trans (hb1a.mono (by omega))
  have hs1 : w1.heap.size = w.heap.size + 3 := by rw [← hw1]; simp [hsa]
  have xa : wa.heap[w.heap.size]? = some (.cells #[.int .i64 k, .int .i64 n, .int .i64 a, .slice Al p1 c1, .slice Ak p2 c2] 27 (0, 0)) := by rw [← hwa]; exact heap_alloc_new w _
  have x0 := (hb1a.block w.heap.size (by omega)).trans xa
  obtain ⟨x1, x2, _⟩ := two_allocs wa (.cells #[.int .i64 from'] 3) (.cells #[.int .i64 til] 3)
  rw [hw1, hsa] at x1 x2
  obtain ⟨rk, hrk⟩ : ∃ u, (Tm.mk k n a lv kids).look (outF from' til) 0 = u := ⟨_, rfl⟩
  rw [hrk]
  have HA : AskOk w1 w1.heap.size 53 #[.pointer (some ⟨w.heap.size + 1, 0, none⟩), .pointer (some ⟨w.heap.size + 1 + 1, 0, none⟩)] (outF from' til) := fun x w' hx _ =>
    free1_any x from' til _ _ w' ((hx.cell (p := ⟨w.heap.size + 1, 0, none⟩) (show w.heap.size + 1 < w1.heap.size by omega)).trans (cell_of_one x1)) ((hx.cell (p := ⟨w.heap.size + 1 + 1, 0, none⟩) (show w.heap.size + 1 + 1 < w1.heap.size by omega)).trans (cell_of_one x2))
  have HN : Hid (Calls Tryd.prog 52 #[.agg #[.int .i64 0], .agg #[.int .i64 k, .int .i64 n, .int .i64 a, .slice Al p1 c1, .slice Ak p2 c2], .func (.func 53) #[] #[.pointer (some ⟨w.heap.size + 1, 0, none⟩), .pointer (some ⟨w.heap.size + 1 + 1, 0, none⟩)]] w1 (HasPost w1 rk)) := by
    rw [← hrk]
    exact look_any w1 w1.heap.size 1073741824 _ _ _ (Nat.le_refl _) (by omega) (hK.below hb1 h0) (fun vs w => enter_free1 vs w) HA _ hf 0 _ w1 (by omega) (Below.refl _ _) (Nat.le_refl _) (hv.below hb1 hb1.size)
  have y0 := cell_of_row _ _ 0 _ _ (0, 0) x0
  have y1 := cell_of_row _ _ 1 _ _ (0, 0) x0
  have y2 := cell_of_row _ _ 2 _ _ (0, 0) x0
  have y3 := cell_of_row _ _ 3 _ _ (0, 0) x0
  have y4 := cell_of_row _ _ 4 _ _ (0, 0) x0
  have HB1 := Lib.hid hb1
  have hmf : ∀ (W : World), (Instr.makeFunc (.func 53) #[] #[.pointer (some ⟨w.heap.size + 1, 0, none⟩), .pointer (some ⟨w.heap.size + 1 + 1, 0, none⟩)]).run Tryd.prog W = .ok (.func (.func 53) #[] #[.pointer (some ⟨w.heap.size + 1, 0, none⟩), .pointer (some ⟨w.heap.size + 1 + 1, 0, none⟩)]) W := fun _ => rfl
  clear hK hf hd hv x0 x1 x2 xa hb1 hb1a hba hs1 h0 HA hrk
  go_enter Tryd.func23, Tryd.ntmps23
  go_wp2_with (fail)
  refine HN.out.mono ?_
  rintro e w2 ⟨rfl, hb2⟩
  have HF : Hid (Below w.heap.size w w2) := HB1.out.trans (hb2.mono HB1.out.size)
  clear hb2
  go_wp2
  go_ret
  exact ⟨rfl, HF.out⟩
/-- Free tells whether an outer variable of a range occurs. -/
theorem free_any (t : Tm) (hf : t.fit) (v : Value) (w : World) (from' til : Int) (hd : t.size ≤ 1073741824) (hK : KindsAt w) (hv : TmAt w w.heap.size t v) :
    Calls Tryd.prog 23 #[v, .int .i64 from', .int .i64 til] w (HasPost w (!t.look (outF from' til) 0)) := by
  obtain ⟨k, n, a, lv, kids⟩ := t
  have hv' := hv
  obtain ⟨Al, cl, Ak, ck, rfl, _⟩ := hv.open
  exact free_of k n a lv kids hf w Al Ak _ cl _ ck from' til hd hK hv'
end Go.Proofs.YtfgnnbpbbnnnhaaDoor
namespace Go.Proofs.YtfgnnbpbbnnnhaaDoor
open Go.RowKit Go.Maps
/-- what putting makes of a node -/
theorem putT_cases (by' : List Tm) (d : Nat) (k n : Int) (lv : List (List (Int × Int))) : (∃ n', putT by' d k n lv = .go n' lv ∧ (n' = n ∨ (0 ≤ n ∧ n' = n - by'.length))) ∨ ∃ b ∈ by', putT by' d k n lv = .done (b.walk (liftT d 0) 0) := by
  unfold putT
  by_cases h : outer d k n 0 = true
  · rw [if_pos h]
    obtain ⟨h1, h2, h3⟩ := outer_iff.1 h
    by_cases h4 : n - d < by'.length
    · rw [if_pos h4]
      have hl : by'.length - 1 - (n - d).toNat < by'.length := by omega
      refine Or.inr ⟨_, List.getElem_mem hl, ?_⟩
      rw [List.getD_eq_getElem?_getD, List.getElem?_eq_getElem hl]
      rfl
    · rw [if_neg h4]
      exact Or.inl ⟨_, rfl, Or.inr ⟨by omega, rfl⟩⟩
  · rw [if_neg h]
    exact Or.inl ⟨_, rfl, Or.inl rfl⟩
theorem wrap_rng (x : Int) : Rng (IntKind.i64.wrap x) := by
  have h1 : (2 : Int) ^ IntKind.i64.bits = 18446744073709551616 := by decide
  have h2 : (2 : Int) ^ (IntKind.i64.bits - 1) = 9223372036854775808 := by decide
  have h3 : IntKind.i64.signed = true := rfl
  unfold Rng IntKind.wrap
  simp only [h1, h2, h3, Bool.true_and]
  split
  · rename_i h
    have h := of_decide_eq_true h
    omega
  · rename_i h
    have h : ¬ _ := fun e => h (decide_eq_true e)
    omega
mutual
theorem fit_liftT (m f : Int) : ∀ (t : Tm) (d : Nat), t.fit → (t.walk (liftT m f) d).fit
  | .mk k n a lv kids, d, h => by
    rw [Tm.fit_mk] at h
    rw [Tm.walk_go (tr := liftT m f) rfl, Tm.fit_mk, Tm.walkL_length]
    refine ⟨?_, h.2.1, h.2.2.1, fitL_liftT m f kids d k 0 h.2.2.2⟩
    unfold liftN
    split
    · exact wrap_rng _
    · exact h.1
theorem fitL_liftT (m f : Int) : ∀ (ts : List Tm) (d : Nat) (k : Int) (i : Nat), Tm.fitL ts → Tm.fitL (Tm.walkL (liftT m f) d k i ts)
  | [], d, k, i, h => by rw [Tm.walkL]; exact h
  | t :: ts, d, k, i, h => by
    rw [Tm.walkL, Tm.fitL]
    rw [Tm.fitL] at h
    exact ⟨fit_liftT m f t _ h.1, fitL_liftT m f ts d k _ h.2⟩
end
mutual
theorem fit_putT {by' : List Tm} (hb : ∀ b ∈ by', b.fit) (hn : by'.length ≤ 1048576) : ∀ (t : Tm) (d : Nat), t.fit → (t.walk (putT by') d).fit
  | .mk k n a lv kids, d, h => by
    rw [Tm.fit_mk] at h
    rcases putT_cases by' d k n lv with ⟨n', h', hn'⟩ | ⟨b, hb', h'⟩
    · rw [Tm.walk_go h', Tm.fit_mk, Tm.walkL_length]
      refine ⟨?_, h.2.1, h.2.2.1, fitL_putT hb hn kids d k 0 h.2.2.2⟩
      rcases hn' with rfl | ⟨h0, rfl⟩
      · exact h.1
      · have := h.1
        unfold Rng at this ⊢
        omega
    · rw [Tm.walk_done h']
      exact fit_liftT _ _ b 0 (hb b hb')
theorem fitL_putT {by' : List Tm} (hb : ∀ b ∈ by', b.fit) (hn : by'.length ≤ 1048576) : ∀ (ts : List Tm) (d : Nat) (k : Int) (i : Nat), Tm.fitL ts → Tm.fitL (Tm.walkL (putT by') d k i ts)
  | [], d, k, i, h => by rw [Tm.walkL]; exact h
  | t :: ts, d, k, i, h => by
    rw [Tm.walkL, Tm.fitL]
    rw [Tm.fitL] at h
    exact ⟨fit_putT hb hn t _ h.1, fitL_putT hb hn ts d k _ h.2⟩
end
theorem size_liftT (m f : Int) : ∀ (t : Tm) (d : Nat), (t.walk (liftT m f) d).size = t.size := by
  refine Tm.ind ?_
  intro k n a lv kids ih d
  rw [Tm.walk_go (tr := liftT m f) (n' := liftN d k n f m) (lv' := lv) rfl, Tm.size_mk, Tm.size_mk, Tm.walkL_sizeL_eq fun t ht u => ih t ht (d + u)]
theorem size_levT (bys : List (List (Int × Int))) : ∀ (t : Tm) (d : Nat), (t.walk (levT bys) d).size = t.size := by
  refine Tm.ind ?_
  intro k n a lv kids ih d
  rw [Tm.walk_go (tr := levT bys) (n' := n) (lv' := lv.map (putL bys)) rfl, Tm.size_mk, Tm.size_mk, Tm.walkL_sizeL_eq fun t ht u => ih t ht (d + u)]
theorem size_putT {by' : List Tm} {M : Nat} (hM : 1 ≤ M) (hb : ∀ b ∈ by', b.size ≤ M) : ∀ (t : Tm) (d : Nat), (t.walk (putT by') d).size ≤ t.size * M := by
  refine Tm.ind ?_
  intro k n a lv kids ih d
  rcases putT_cases by' d k n lv with ⟨n', h, _⟩ | ⟨b, hb', h⟩
  · rw [Tm.walk_go h, Tm.size_mk, Tm.size_mk]
    have h1 := Tm.walkL_sizeL (d := d) (k := k) (i := 0) (M := M) (tr := putT by') (ts := kids) fun t ht u => ih t ht (d + u)
    rw [Nat.add_mul, Nat.one_mul]
    omega
  · rw [Tm.walk_done h, size_liftT, Tm.size_mk]
    have h1 := hb b hb'
    have h2 : M ≤ (1 + Tm.sizeL kids) * M := Nat.le_mul_of_pos_left _ (by omega)
    omega
end Go.Proofs.YtfgnnbpbbnnnhaaDoor
