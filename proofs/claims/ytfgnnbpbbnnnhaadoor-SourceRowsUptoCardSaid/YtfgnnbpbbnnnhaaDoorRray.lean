/- Laws. -/
import Derived.Test.YtfgnnbpbbnnnhaaDoorRraw
import Derived.Test.YtfgnnbpbbnnnhaaDoorRrax
namespace Go.Proofs.YtfgnnbpbbnnnhaaDoor
open Go.RowKit Go.Maps Go.ChangeMaps Go.MapKept
set_option maxRecDepth 100000 in
theorem enter_noBlock (vs : Array Value) (w : World) : (callFunc 42 vs).run Tryd.prog w = .ok (.enter 42 vs) w := by go_simp
set_option maxRecDepth 100000 in
theorem enter_empty (vs : Array Value) (w : World) : (callFunc 43 vs).run Tryd.prog w = .ok (.enter 43 vs) w := by go_simp
set_option maxRecDepth 100000 in
theorem enter_sdecl1 (vs : Array Value) (w : World) : (callFunc 40 vs).run Tryd.prog w = .ok (.enter 40 vs) w := by go_simp
theorem load_dcbox {w w' : World} {g : Nat} {cs : Array Value} (h : w.heap[g]? = some (.cells cs 43 (0, 0))) (hb : Below w.heap.size w w') (hs : cs.size = 16) : (Instr.loadAt 43 (.pointer (some ⟨g, 0, none⟩))).run Tryd.prog w' = .ok (.agg cs) w' :=
  load_dc hs fun j _ => by rw [Nat.zero_add]; exact cell_of_row _ _ j _ _ (0, 0) ((hb.block _ (heap_some_lt h)).trans h)
theorem load_five {w w' : World} {g : Nat} {cs : Array Value} {t : TypeId} (h : w.heap[g]? = some (.cells cs t (0, 0))) (hb : Below w.heap.size w w') (k : Nat) {a0 a1 a2 a3 a4 : Value} (hk : cs[k]? = some a0 ∧ cs[k + 1]? = some a1 ∧ cs[k + 2]? = some a2 ∧ cs[k + 3]? = some a3 ∧ cs[k + 4]? = some a4) : (Instr.loadAt 27 (.pointer (some ⟨g, k, none⟩))).run Tryd.prog w' = .ok (.agg #[a0, a1, a2, a3, a4]) w' :=
  run_loadAt_cells Tryd.underlying27 rfl infoTs rfl fun j hj => by
    rw [cell_of_row _ _ (k + j) _ _ (0, 0) ((hb.block _ (heap_some_lt h)).trans h)]
    obtain ⟨h0, h1, h2, h3, h4⟩ := hk
    match j, hj with
    | 0, _ => exact h0
    | 1, _ => exact h1
    | 2, _ => exact h2
    | 3, _ => exact h3
    | 4, _ => exact h4
/-- a declaration is right in the source -/
def DeclSrc (ds : List Dc) (d : Dc) : Prop := 0 ≤ d.lev ∧ d.lev < 8 ∧
  (if d.kind = 1 then d.noB = true ∧ d.bo.none9 = true ∧ RightSrc d.lev 0 0 ds d.ty
   else if d.kind = 2 then d.noB = true ∧ RightSrc d.lev 0 0 ds d.ty ∧ RightSrc d.lev 0 0 ds d.bo
   else if d.kind = 3 then d.ty.none9 = true ∧ d.bo.none9 = true ∧ BlockSrc d.lev ds d
   else False)
noncomputable def declSB (ds : List Dc) (d : Dc) : Bool := by classical exact decide (DeclSrc ds d)
theorem declSB_iff (ds : List Dc) (d : Dc) : declSB ds d = true ↔ DeclSrc ds d := by unfold declSB; simp
set_option maxRecDepth 100000 in
set_option maxHeartbeats 16000000 in
theorem sdecl1_any (g0 g1 : Nat) (ds : List Dc) (Ad : Option Addr) (nd cd : Nat) (d : Dc) (cs : Array Value) (w : World) (hK : KindsAll w) (hds : Dcs w w.heap.size Ad cd ds) (hnd : ds.length = nd) (hdc : DcAt w w.heap.size d cs) (hft : d.fits) (hal : d.all ≤ 1048576)
    (h0 : w.heap[g0]? = some (.cells cs 43 (0, 0))) (h1 : w.heap[g1]? = some (.cells #[.slice Ad nd cd] 22 (0, 0))) :
    Calls Tryd.prog 40 #[.pointer (some ⟨g0, 0, none⟩), .pointer (some ⟨g1, 0, none⟩)] w (MustPost w 4 (declSB ds d)) := by
  obtain ⟨r, hr⟩ : ∃ r, declSB ds d = r := ⟨_, rfl⟩
  have hrr : r = true ↔ DeclSrc ds d := by rw [← hr, declSB_iff]
  rw [hr]
  have HDC := Lib.hid hdc
  have HFT := Lib.hid hft
  have HAL := Lib.hid hal
  have hsz := hdc.size
  obtain ⟨nb, hnb⟩ : ∃ x, d.noB = x := ⟨_, rfl⟩
  obtain ⟨et, het⟩ : ∃ x, d.ty.none9 = x := ⟨_, rfl⟩
  obtain ⟨eb, heb⟩ : ∃ x, d.bo.none9 = x := ⟨_, rfl⟩
  have HN := Lib.hid hnb
  have HE2 := Lib.hid het
  have HE := Lib.hid heb
  have HNB : Hid (∀ W, Calls Tryd.prog 42 #[.agg cs] W (HasPost W nb)) := fun W => by rw [← hnb]; exact noBlock_any d cs _ W w hdc
  have hok := Dc.all_ok hal
  obtain ⟨kd, ld, ty, bo, pars, sort, mems, ctors⟩ := d
  obtain ⟨a0, a1, a2, a3, a4, b0, b1, b2, b3, b4, Ap, As, Am, Ac, cp, cz, cm, cc, hcs, p1, p2, _⟩ := hdc
  simp only at hcs p1 p2 HN HE HE2
  have HET : Hid (∀ W, Calls Tryd.prog 43 #[.agg #[a0, a1, a2, a3, a4]] W (HasPost W et)) := fun W => by rw [← het]; exact empty_any ty _ _ W w p1
  have HEB : Hid (∀ W, Calls Tryd.prog 43 #[.agg #[b0, b1, b2, b3, b4]] W (HasPost W eb)) := fun W => by rw [← heb]; exact empty_any bo _ _ W w p2
  have HTF : Hid ty.fit := hft.1
  have HBTF : Hid bo.fit := hft.2.1
  have HTS : Hid (ty.size ≤ 1073741824) := by have h1 := Tm.size_le_count ty; have h2 : ty.count ≤ 1048576 := hok.1; show _ ≤ _; omega
  have HBTS : Hid (bo.size ≤ 1073741824) := by have h1 := Tm.size_le_count bo; have h2 : bo.count ≤ 1048576 := hok.2.1; show _ ≤ _; omega
  have HT := Lib.hid p1
  have HBT := Lib.hid p2
  have q0 : cs[0]? = some (.int .i64 kd) := by rw [hcs]; rfl
  have q1 : cs[1]? = some (.int .i64 ld) := by rw [hcs]; rfl
  have Q2 : Hid (cs[2]? = some a0) := by show _ = _; rw [hcs]; rfl
  have Q3 : Hid (cs[3]? = some a1) := by show _ = _; rw [hcs]; rfl
  have Q4 : Hid (cs[4]? = some a2) := by show _ = _; rw [hcs]; rfl
  have Q5 : Hid (cs[5]? = some a3) := by show _ = _; rw [hcs]; rfl
  have Q6 : Hid (cs[6]? = some a4) := by show _ = _; rw [hcs]; rfl
  have Q7 : Hid (cs[7]? = some b0) := by show _ = _; rw [hcs]; rfl
  have Q8 : Hid (cs[8]? = some b1) := by show _ = _; rw [hcs]; rfl
  have Q9 : Hid (cs[9]? = some b2) := by show _ = _; rw [hcs]; rfl
  have Q10 : Hid (cs[10]? = some b3) := by show _ = _; rw [hcs]; rfl
  have Q11 : Hid (cs[11]? = some b4) := by show _ = _; rw [hcs]; rfl
  have HTY := Lib.hid (And.intro Q2.out (And.intro Q3.out (And.intro Q4.out (And.intro Q5.out Q6.out))))
  have HBO := Lib.hid (And.intro Q7.out (And.intro Q8.out (And.intro Q9.out (And.intro Q10.out Q11.out))))
  have hrr : r = true ↔ 0 ≤ ld ∧ ld < 8 ∧ (if kd = 1 then (⟨kd, ld, ty, bo, pars, sort, mems, ctors⟩ : Dc).noB = true ∧ bo.none9 = true ∧ RightSrc ld 0 0 ds ty
   else if kd = 2 then (⟨kd, ld, ty, bo, pars, sort, mems, ctors⟩ : Dc).noB = true ∧ RightSrc ld 0 0 ds ty ∧ RightSrc ld 0 0 ds bo
   else if kd = 3 then ty.none9 = true ∧ bo.none9 = true ∧ BlockSrc ld ds (⟨kd, ld, ty, bo, pars, sort, mems, ctors⟩ : Dc)
   else False) := hrr
  have e1 := (cell_of_row _ _ 1 _ _ (0, 0) h0).trans q1
  have hw0 : 0 < w.heap.size := cell_lt (hK 0 (by decide)).1
  have HSZ := Lib.hid hsz
  have X0 := Lib.hid h0
  have X1 := Lib.hid h1
  have HRR := Lib.hid hrr
  have HK := Lib.hid hK
  have HDS := Lib.hid hds
  have HND := Lib.hid hnd
  have HQ0 := Lib.hid q0
  have HQ1 := Lib.hid q1
  have HM := Lib.hid (smust_two (decide (0 ≤ ld)) (decide (ld < 8)) w w.heap.size rfl)
  clear hr hrr hK hds hnd hft hal h0 h1 hcs p1 p2 q0 q1 hsz hok hnb het heb
  go_enter Tryd.func40, Tryd.ntmps40
  go_wp2_with (fail)
  refine HM.out.mono ?_
  rintro e w2 h
  clear HM e1
  cases hm : (decide (0 ≤ ld) && decide (ld < 8)) with
  | false =>
    rw [hm] at h
    obtain ⟨rfl, hb⟩ := h.2 rfl
    have HFF : Hid (MustPost w 4 r (.panicked [{ v := .iface 112 (.int .i64 4), recovered := false }]) w2) := by
      have hrf : r = false := by
        cases r with
        | false => rfl
        | true =>
            obtain ⟨h1, h2, _⟩ := HRR.out.1 rfl
            rw [decide_eq_true h1, decide_eq_true h2] at hm
            cases hm
      rw [hrf]
      exact MustPost.no ⟨rfl, hb⟩
    clear h hb hm
    go_wp2
    exact ⟨rfl, HFF.out⟩
  | true =>
    rw [hm] at h
    obtain ⟨rfl, hb⟩ := h.1 rfl
    have HLV : Hid (0 ≤ ld ∧ ld < 8) := by show _ ∧ _; simpa using hm
    have y0 := (hb.block _ (heap_some_lt X0.out)).trans X0.out
    have y1 := (hb.block _ (heap_some_lt X1.out)).trans X1.out
    have e1 := (cell_of_row _ _ 1 _ _ (0, 0) y0).trans HQ1.out
    have c1 := cell_of_one y1
    obtain ⟨w30, hw30⟩ : ∃ x, w2.alloc (.cells #[.slice Ad nd cd, .int .i64 ld, .int .i64 0, .int .i64 0] 69) = x := ⟨_, rfl⟩
    have hb30 : Below w2.heap.size w2 w30 := by rw [← hw30]; exact (Below.refl _ _).alloc (Nat.le_refl _) _
    have x30 : w30.heap[w2.heap.size]? = some (.cells #[.slice Ad nd cd, .int .i64 ld, .int .i64 0, .int .i64 0] 69 (0, 0)) := by rw [← hw30]; exact heap_alloc_new w2 _
    obtain ⟨w31, hw31⟩ : ∃ x, w30.setCell ⟨w2.heap.size, 2, none⟩ (.int .i64 0) = x := ⟨_, rfl⟩
    have x31 : w31.heap[w2.heap.size]? = some (.cells #[.slice Ad nd cd, .int .i64 ld, .int .i64 0, .int .i64 0] 69 (0, 0)) := by rw [← hw31]; exact set_same x30 2 _
    obtain ⟨w3, hw3⟩ : ∃ x, w31.setCell ⟨w2.heap.size, 3, none⟩ (.int .i64 0) = x := ⟨_, rfl⟩
    have x3 : w3.heap[w2.heap.size]? = some (.cells #[.slice Ad nd cd, .int .i64 ld, .int .i64 0, .int .i64 0] 69 (0, 0)) := by rw [← hw3]; exact set_same x31 3 _
    have v2 := cell_of_row _ _ 2 _ _ (0, 0) x30
    have v3 := cell_of_row _ _ 3 _ _ (0, 0) x31
    have t2 := thawed x30 2
    have t3 := thawed x31 3
    have hb3 : Below w2.heap.size w2 w3 := by rw [← hw3, ← hw31]; exact (hb30.setCell (Nat.le_refl _) _).setCell (Nat.le_refl _) _
    have XO := Lib.hid x3
    have HB3 : Hid (Below w.heap.size w w3) := hb.trans (hb3.mono hb.size)
    have y3 := (hb3.block _ (heap_some_lt y0)).trans y0
    have Y0 := Lib.hid y3
    have e0 := (cell_of_row _ _ 0 _ _ (0, 0) y3).trans HQ0.out
    have hS : Below w3.heap.size w3 w3.drew := (Below.refl _ _).drew
    have HO3 : Hid (Below w3.heap.size w3 w3) := Below.refl _ _
    have hg3 : g1 < w3.heap.size := by have h1 := heap_some_lt y1; have := hb3.size; omega
    clear h hb hm y0 y1 hb3 x3 y3 x30 x31 hb30
    by_cases hk1 : kd = 1
    · subst hk1
      go_upto_region 5 with (fail)
      refine wp_region_tail 5 (fun w' => Below w3.heap.size w3 w') (fun w1 w2 : World => Below w1.heap.size w1 w2) [(fun (x : Value) (_ : World) => x = (.agg cs : Value)), (fun (x : Value) (_ : World) => x = (.bool nb : Value)), (fun (x : Value) (_ : World) => x = (.pointer (some ⟨g0, 7, none⟩) : Value)), (fun (x : Value) (_ : World) => x = (.agg #[b0, b1, b2, b3, b4] : Value)), (fun (x : Value) (_ : World) => x = (.bool eb : Value))] [⟨some 21, .load 43 (.tmp 0), none, []⟩, ⟨some 22, .call { callee := .value (.func 42), args := #[.tmp 21], argTypes := #[43] }, none, [(21, 0)]⟩, ⟨some 23, .fieldAddr 43 (.tmp 0) 3, none, []⟩, ⟨some 24, .load 27 (.tmp 23), none, [(23, 2)]⟩, ⟨some 25, .call { callee := .value (.func 43), args := #[.tmp 24], argTypes := #[27] }, none, [(24, 3)]⟩] [some 21, some 22, some 23, some 24, some 25] [] [] (by kernel_rfl) (by kernel_rfl) (by kernel_rfl) (by kernel_rfl) (by kernel_rfl) (by kernel_rfl) (by kernel_rfl) (by kernel_rfl) ?hrun ?hold ?hS ?hmono ?hsteps ?hfin
      case hrun => exact fun p hp => by cases hp
      case hold => exact fun p hp => by cases hp
      case hS => exact hS
      case hmono =>
        refine MonoL.cons (fun x w1 w2 _ _ _ hx => hx) ?_
        refine MonoL.cons (fun x w1 w2 _ _ _ hx => hx) ?_
        refine MonoL.cons (fun x w1 w2 _ _ _ hx => hx) ?_
        refine MonoL.cons (fun x w1 w2 _ _ _ hx => hx) ?_
        refine MonoL.cons (fun x w1 w2 _ _ _ hx => hx) ?_
        exact MonoL.nil
      case hsteps =>
        refine StepsT.cons (fun (x : Value) (_ : World) => x = (.agg cs : Value)) [] rfl rfl (fun oq hop _ wq hQS => ?_) ?_
        · exact StepFrom.load hop (p := (.pointer (some ⟨g0, 0, none⟩) : Value)) (by kernel_rfl) (load_dcbox Y0.out hQS HSZ.out) (by kernel_rfl) hQS (Below.refl _ _) rfl
        refine StepsT.cons (fun (x : Value) (_ : World) => x = (.bool nb : Value)) [(21, (fun (x : Value) (_ : World) => x = (.agg cs : Value)))] rfl rfl (fun oq hop _ wq hQS => ?_) ?_
        · refine StepFrom.more_eq ((.agg cs : Value)) ?_
          exact StepFrom.call hop (vs := [(.agg cs : Value)]) (by kernel_rfl) (fun w => enter_noBlock _ w) (by kernel_rfl) ((HNB.out wq).mono fun e w9 h9 => by obtain ⟨q1, q2⟩ := h9; exact ⟨_, q1, hQS.trans (q2.mono hQS.size), q2, rfl⟩)
        refine StepsT.cons (fun (x : Value) (_ : World) => x = (.pointer (some ⟨g0, 7, none⟩) : Value)) [] rfl rfl (fun oq hop _ wq hQS => ?_) ?_
        · exact StepFrom.fieldAddr hop (p := (.pointer (some ⟨g0, 0, none⟩) : Value)) (by kernel_rfl) (dc_f3) (by kernel_rfl) hQS (Below.refl _ _) rfl
        refine StepsT.cons (fun (x : Value) (_ : World) => x = (.agg #[b0, b1, b2, b3, b4] : Value)) [(23, (fun (x : Value) (_ : World) => x = (.pointer (some ⟨g0, 7, none⟩) : Value)))] rfl rfl (fun oq hop _ wq hQS => ?_) ?_
        · refine StepFrom.more_eq ((.pointer (some ⟨g0, 7, none⟩) : Value)) ?_
          exact StepFrom.load hop (p := (.pointer (some ⟨g0, 7, none⟩) : Value)) (by kernel_rfl) (load_five Y0.out hQS 7 HBO.out) (by kernel_rfl) hQS (Below.refl _ _) rfl
        refine StepsT.cons (fun (x : Value) (_ : World) => x = (.bool eb : Value)) [(24, (fun (x : Value) (_ : World) => x = (.agg #[b0, b1, b2, b3, b4] : Value)))] rfl rfl (fun oq hop _ wq hQS => ?_) ?_
        · refine StepFrom.more_eq ((.agg #[b0, b1, b2, b3, b4] : Value)) ?_
          exact StepFrom.call hop (vs := [(.agg #[b0, b1, b2, b3, b4] : Value)]) (by kernel_rfl) (fun w => enter_empty _ w) (by kernel_rfl) ((HEB.out wq).mono fun e w9 h9 => by obtain ⟨q1, q2⟩ := h9; exact ⟨_, q1, hQS.trans (q2.mono hQS.size), q2, rfl⟩)
        exact StepsT.nil
      case hfin =>
        intro wf hFS
        refine FinalFrom.more fun x21 h21 => ?_
        refine FinalFrom.more fun x22 h22 => ?_
        refine FinalFrom.more fun x23 h23 => ?_
        refine FinalFrom.more fun x24 h24 => ?_
        refine FinalFrom.more fun x25 h25 => ?_
        refine FinalFrom.done ?_
        intro _
        obtain rfl : x22 = (.bool nb : Value) := h22
        obtain rfl : x25 = (.bool eb : Value) := h25
        simp only [Act.put, List.setIfInBounds_toArray, List.set_cons_zero, List.set_cons_succ, List.drop_succ_cons, List.drop_zero]
        have HM := Lib.hid (smust_two nb eb wf wf.heap.size rfl)
        have HOF : Hid (Below w3.heap.size w3 wf) := hFS
        have HBF : Hid (Below w.heap.size w wf) := HB3.out.trans (hFS.mono HB3.out.size)
        clear hS hFS
        go_wp2_with (fail)
        refine HM.out.mono ?_
        rintro e w4 h
        clear HM
        cases hm : (nb && eb) with
        | false =>
          rw [hm] at h
          obtain ⟨rfl, hb⟩ := h.2 rfl
          have HFF : Hid (MustPost w 4 r (.panicked [{ v := .iface 112 (.int .i64 4), recovered := false }]) w4) := by
            have hrf : r = false := by
              cases r with
              | false => rfl
              | true =>
                obtain ⟨_, _, hh⟩ := HRR.out.1 rfl
                have hh : (⟨1, ld, ty, bo, pars, sort, mems, ctors⟩ : Dc).noB = true ∧ bo.none9 = true ∧ RightSrc ld 0 0 ds ty := by simpa using hh
                rw [← HN.out, ← HE.out, hh.1, hh.2.1] at hm
                cases hm
            rw [hrf]
            exact MustPost.no ⟨rfl, HBF.out.trans (hb.mono HBF.out.size)⟩
          clear h hb hm
          go_wp2
          exact ⟨rfl, HFF.out⟩
        | true =>
          rw [hm] at h
          obtain ⟨rfl, hb⟩ := h.1 rfl
          simp only [Bool.and_eq_true] at hm
          have HMM := Lib.hid hm
          have HB4 : Hid (Below w.heap.size w w4) := HBF.out.trans (hb.mono HBF.out.size)
          have HO4 : Hid (Below w3.heap.size w3 w4) := HOF.out.trans (hb.mono HOF.out.size)
          clear h hb hm
          have y0 := (HB4.out.block _ (heap_some_lt X0.out)).trans X0.out
          have yo := (HO4.out.block _ (heap_some_lt XO.out)).trans XO.out
          have o0 := cell_of_row _ _ 0 _ _ (0, 0) yo
          have o1 := cell_of_row _ _ 1 _ _ (0, 0) yo
          have o2 := cell_of_row _ _ 2 _ _ (0, 0) yo
          have o3 := cell_of_row _ _ 3 _ _ (0, 0) yo
          have t0 := (cell_of_row _ _ 2 _ _ (0, 0) y0).trans Q2.out
          have t1 := (cell_of_row _ _ 3 _ _ (0, 0) y0).trans Q3.out
          have t2 := (cell_of_row _ _ 4 _ _ (0, 0) y0).trans Q4.out
          have t3 := (cell_of_row _ _ 5 _ _ (0, 0) y0).trans Q5.out
          have t4 := (cell_of_row _ _ 6 _ _ (0, 0) y0).trans Q6.out
          have hbx := HB4.out
          obtain ⟨r5, hr5⟩ : ∃ x, rightSB ld 0 0 ds ty = x := ⟨_, rfl⟩
          have HC := Lib.hid (overRight_any ld 0 0 ds Ad nd cd ty _ w4 (HK.out.below hbx hw0) (HDS.out.below hbx hbx.size) HND.out HTF.out HTS.out (HT.out.below hbx hbx.size))
          rw [hr5] at HC
          have HR5 := Lib.hid hr5
          unfold OvV at HC
          clear y0 yo hbx hr5
          go_wp2_with (fail)
          refine HC.out.mono ?_
          rintro e w5 h
          clear HC o0 o1 o2 o3 t0 t1 t2 t3 t4
          cases r5 with
          | false =>
            obtain ⟨rfl, hb⟩ := h.2 rfl
            have HFF : Hid (MustPost w 4 r (.panicked [{ v := .iface 112 (.int .i64 4), recovered := false }]) w5) := by
              have hrf : r = false := by
                cases r with
                | false => rfl
                | true =>
                  obtain ⟨_, _, hh⟩ := HRR.out.1 rfl
                  have hh : (⟨1, ld, ty, bo, pars, sort, mems, ctors⟩ : Dc).noB = true ∧ bo.none9 = true ∧ RightSrc ld 0 0 ds ty := by simpa using hh
                  have h1 := hh.2.2
                  rw [← rightSB_iff, HR5.out] at h1
                  cases h1
              rw [hrf]
              exact MustPost.no ⟨rfl, HB4.out.trans (hb.mono HB4.out.size)⟩
            clear h hb
            go_wp2
            exact ⟨rfl, HFF.out⟩
          | true =>
            obtain ⟨rfl, hb⟩ := h.1 rfl
            have HB5 : Hid (Below w.heap.size w w5) := HB4.out.trans (hb.mono HB4.out.size)
            have HO5 : Hid (Below w3.heap.size w3 w5) := HO4.out.trans (hb.mono HO4.out.size)
            clear h hb
            have HFF : Hid (MustPost w 4 r (.returned (.tuple #[])) w5) := by
              have hrt : r = true := HRR.out.2 ⟨HLV.out.1, HLV.out.2, by
                have h1 : (⟨1, ld, ty, bo, pars, sort, mems, ctors⟩ : Dc).noB = true := HN.out.trans HMM.out.1
                have h2 : bo.none9 = true := HE.out.trans HMM.out.2
                have h3 : RightSrc ld 0 0 ds ty := (rightSB_iff ..).1 HR5.out
                simpa using ⟨h1, h2, h3⟩⟩
              rw [hrt]
              exact MustPost.yes rfl HB5.out
            go_wp2
            go_end0
            exact HFF.out
    · by_cases hk2 : kd = 2
      · subst hk2
        clear hS
        have hin : Hid ((Tryd.prog.info? 43).map (·.size) = some cs.size) := by show _ = _; rw [HSZ.out]; exact infoDc
        have Y3 := (HB3.out.block _ (heap_some_lt X0.out)).trans X0.out
        have HN3 := Lib.hid (HNB.out w3)
        go_wp2_with (first | (refine wpList_load_row rfl 43 (.tmp 0) rfl g0 rfl 43 cs (0, 0) _ Y3 Tryd.underlying43 rfl hin.out ?_) | fail)
        refine HN3.out.mono ?_
        rintro e wn ⟨rfl, hbn⟩
        have HBN : Hid (Below w.heap.size w wn) := HB3.out.trans (hbn.mono HB3.out.size)
        have HON : Hid (Below w3.heap.size w3 wn) := hbn
        have HM := Lib.hid (smust_one nb wn wn.heap.size rfl)
        clear hbn Y3 HN3
        go_wp2_with (fail)
        refine HM.out.mono ?_
        rintro e w4 h
        clear HM
        cases nb with
        | false =>
          obtain ⟨rfl, hb⟩ := h.2 rfl
          have HFF : Hid (MustPost w 4 r (.panicked [{ v := .iface 112 (.int .i64 4), recovered := false }]) w4) := by
            have hrf : r = false := by
              cases r with
              | false => rfl
              | true =>
                obtain ⟨_, _, hh⟩ := HRR.out.1 rfl
                have hh : (⟨2, ld, ty, bo, pars, sort, mems, ctors⟩ : Dc).noB = true ∧ RightSrc ld 0 0 ds ty ∧ RightSrc ld 0 0 ds bo := by simpa using hh
                exact absurd (HN.out.symm.trans hh.1) (by decide)
            rw [hrf]
            exact MustPost.no ⟨rfl, HBN.out.trans (hb.mono HBN.out.size)⟩
          clear h hb
          go_wp2
          exact ⟨rfl, HFF.out⟩
        | true =>
          obtain ⟨rfl, hb⟩ := h.1 rfl
          have HB4 : Hid (Below w.heap.size w w4) := HBN.out.trans (hb.mono HBN.out.size)
          have HO4 : Hid (Below w3.heap.size w3 w4) := HON.out.trans (hb.mono HON.out.size)
          clear h hb
          have y0 := (HB4.out.block _ (heap_some_lt X0.out)).trans X0.out
          have yo := (HO4.out.block _ (heap_some_lt XO.out)).trans XO.out
          have o0 := cell_of_row _ _ 0 _ _ (0, 0) yo
          have o1 := cell_of_row _ _ 1 _ _ (0, 0) yo
          have o2 := cell_of_row _ _ 2 _ _ (0, 0) yo
          have o3 := cell_of_row _ _ 3 _ _ (0, 0) yo
          have t0 := (cell_of_row _ _ 2 _ _ (0, 0) y0).trans Q2.out
          have t1 := (cell_of_row _ _ 3 _ _ (0, 0) y0).trans Q3.out
          have t2 := (cell_of_row _ _ 4 _ _ (0, 0) y0).trans Q4.out
          have t3 := (cell_of_row _ _ 5 _ _ (0, 0) y0).trans Q5.out
          have t4 := (cell_of_row _ _ 6 _ _ (0, 0) y0).trans Q6.out
          have hbx := HB4.out
          obtain ⟨r5, hr5⟩ : ∃ x, rightSB ld 0 0 ds ty = x := ⟨_, rfl⟩
          have HC := Lib.hid (overRight_any ld 0 0 ds Ad nd cd ty _ w4 (HK.out.below hbx hw0) (HDS.out.below hbx hbx.size) HND.out HTF.out HTS.out (HT.out.below hbx hbx.size))
          rw [hr5] at HC
          have HR5 := Lib.hid hr5
          unfold OvV at HC
          clear y0 yo hbx hr5
          go_wp2_with (fail)
          refine HC.out.mono ?_
          rintro e w5 h
          clear HC o0 o1 o2 o3 t0 t1 t2 t3 t4
          cases r5 with
          | false =>
            obtain ⟨rfl, hb⟩ := h.2 rfl
            have HFF : Hid (MustPost w 4 r (.panicked [{ v := .iface 112 (.int .i64 4), recovered := false }]) w5) := by
              have hrf : r = false := by
                cases r with
                | false => rfl
                | true =>
                  obtain ⟨_, _, hh⟩ := HRR.out.1 rfl
                  have hh : (⟨2, ld, ty, bo, pars, sort, mems, ctors⟩ : Dc).noB = true ∧ RightSrc ld 0 0 ds ty ∧ RightSrc ld 0 0 ds bo := by simpa using hh
                  have h1 := hh.2.1
                  rw [← rightSB_iff, HR5.out] at h1
                  cases h1
              rw [hrf]
              exact MustPost.no ⟨rfl, HB4.out.trans (hb.mono HB4.out.size)⟩
            clear h hb
            go_wp2
            exact ⟨rfl, HFF.out⟩
          | true =>
            obtain ⟨rfl, hb⟩ := h.1 rfl
            have HB5 : Hid (Below w.heap.size w w5) := HB4.out.trans (hb.mono HB4.out.size)
            have HO5 : Hid (Below w3.heap.size w3 w5) := HO4.out.trans (hb.mono HO4.out.size)
            clear h hb
            have y0 := (HB5.out.block _ (heap_some_lt X0.out)).trans X0.out
            have yo := (HO5.out.block _ (heap_some_lt XO.out)).trans XO.out
            have o0 := cell_of_row _ _ 0 _ _ (0, 0) yo
            have o1 := cell_of_row _ _ 1 _ _ (0, 0) yo
            have o2 := cell_of_row _ _ 2 _ _ (0, 0) yo
            have o3 := cell_of_row _ _ 3 _ _ (0, 0) yo
            have t0 := (cell_of_row _ _ 7 _ _ (0, 0) y0).trans Q7.out
            have t1 := (cell_of_row _ _ 8 _ _ (0, 0) y0).trans Q8.out
            have t2 := (cell_of_row _ _ 9 _ _ (0, 0) y0).trans Q9.out
            have t3 := (cell_of_row _ _ 10 _ _ (0, 0) y0).trans Q10.out
            have t4 := (cell_of_row _ _ 11 _ _ (0, 0) y0).trans Q11.out
            have hbx := HB5.out
            obtain ⟨r6, hr6⟩ : ∃ x, rightSB ld 0 0 ds bo = x := ⟨_, rfl⟩
            have HC := Lib.hid (overRight_any ld 0 0 ds Ad nd cd bo _ w5 (HK.out.below hbx hw0) (HDS.out.below hbx hbx.size) HND.out HBTF.out HBTS.out (HBT.out.below hbx hbx.size))
            rw [hr6] at HC
            have HR6 := Lib.hid hr6
            unfold OvV at HC
            clear y0 yo hbx hr6
            go_wp2_with (fail)
            refine HC.out.mono ?_
            rintro e w6 h
            clear HC o0 o1 o2 o3 t0 t1 t2 t3 t4
            cases r6 with
            | false =>
              obtain ⟨rfl, hb⟩ := h.2 rfl
              have HFF : Hid (MustPost w 4 r (.panicked [{ v := .iface 112 (.int .i64 4), recovered := false }]) w6) := by
                have hrf : r = false := by
                  cases r with
                  | false => rfl
                  | true =>
                    obtain ⟨_, _, hh⟩ := HRR.out.1 rfl
                    have hh : (⟨2, ld, ty, bo, pars, sort, mems, ctors⟩ : Dc).noB = true ∧ RightSrc ld 0 0 ds ty ∧ RightSrc ld 0 0 ds bo := by simpa using hh
                    have h1 := hh.2.2
                    rw [← rightSB_iff, HR6.out] at h1
                    cases h1
                rw [hrf]
                exact MustPost.no ⟨rfl, HB5.out.trans (hb.mono HB5.out.size)⟩
              clear h hb
              go_wp2
              exact ⟨rfl, HFF.out⟩
            | true =>
              obtain ⟨rfl, hb⟩ := h.1 rfl
              have HB6 : Hid (Below w.heap.size w w6) := HB5.out.trans (hb.mono HB5.out.size)
              have HO6 : Hid (Below w3.heap.size w3 w6) := HO5.out.trans (hb.mono HO5.out.size)
              clear h hb
              have HFF : Hid (MustPost w 4 r (.returned (.tuple #[])) w6) := by
                have hrt : r = true := HRR.out.2 ⟨HLV.out.1, HLV.out.2, by
                  have h1 : (⟨2, ld, ty, bo, pars, sort, mems, ctors⟩ : Dc).noB = true := HN.out
                  have h3 : RightSrc ld 0 0 ds ty := (rightSB_iff ..).1 HR5.out
                  have h4 : RightSrc ld 0 0 ds bo := (rightSB_iff ..).1 HR6.out
                  simpa using ⟨h1, h3, h4⟩⟩
                rw [hrt]
                exact MustPost.yes rfl HB6.out
              go_wp2
              go_end0
              exact HFF.out
      · by_cases hk3 : kd = 3
        · subst hk3
          go_upto_region 12 with (fail)
          refine wp_region_tail 6 (fun w' => Below w3.heap.size w3 w') (fun w1 w2 : World => Below w1.heap.size w1 w2) [(fun (x : Value) (_ : World) => x = (.pointer (some ⟨g0, 2, none⟩) : Value)), (fun (x : Value) (_ : World) => x = (.agg #[a0, a1, a2, a3, a4] : Value)), (fun (x : Value) (_ : World) => x = (.bool et : Value)), (fun (x : Value) (_ : World) => x = (.pointer (some ⟨g0, 7, none⟩) : Value)), (fun (x : Value) (_ : World) => x = (.agg #[b0, b1, b2, b3, b4] : Value)), (fun (x : Value) (_ : World) => x = (.bool eb : Value))] [⟨some 48, .fieldAddr 43 (.tmp 0) 2, none, []⟩, ⟨some 49, .load 27 (.tmp 48), none, [(48, 0)]⟩, ⟨some 50, .call { callee := .value (.func 43), args := #[.tmp 49], argTypes := #[27] }, none, [(49, 1)]⟩, ⟨some 51, .fieldAddr 43 (.tmp 0) 3, none, []⟩, ⟨some 52, .load 27 (.tmp 51), none, [(51, 3)]⟩, ⟨some 53, .call { callee := .value (.func 43), args := #[.tmp 52], argTypes := #[27] }, none, [(52, 4)]⟩] [some 48, some 49, some 50, some 51, some 52, some 53] [] [] (by kernel_rfl) (by kernel_rfl) (by kernel_rfl) (by kernel_rfl) (by kernel_rfl) (by kernel_rfl) (by kernel_rfl) (by kernel_rfl) ?hrun2 ?hold2 ?hS2 ?hmono2 ?hsteps2 ?hfin2
          case hrun2 => exact fun p hp => by cases hp
          case hold2 => exact fun p hp => by cases hp
          case hS2 => exact hS
          case hmono2 =>
            refine MonoL.cons (fun x w1 w2 _ _ _ hx => hx) ?_
            refine MonoL.cons (fun x w1 w2 _ _ _ hx => hx) ?_
            refine MonoL.cons (fun x w1 w2 _ _ _ hx => hx) ?_
            refine MonoL.cons (fun x w1 w2 _ _ _ hx => hx) ?_
            refine MonoL.cons (fun x w1 w2 _ _ _ hx => hx) ?_
            refine MonoL.cons (fun x w1 w2 _ _ _ hx => hx) ?_
            exact MonoL.nil
          case hsteps2 =>
            refine StepsT.cons (fun (x : Value) (_ : World) => x = (.pointer (some ⟨g0, 2, none⟩) : Value)) [] rfl rfl (fun oq hop _ wq hQS => ?_) ?_
            · exact StepFrom.fieldAddr hop (p := (.pointer (some ⟨g0, 0, none⟩) : Value)) (by kernel_rfl) (dc_f2) (by kernel_rfl) hQS (Below.refl _ _) rfl
            refine StepsT.cons (fun (x : Value) (_ : World) => x = (.agg #[a0, a1, a2, a3, a4] : Value)) [(48, (fun (x : Value) (_ : World) => x = (.pointer (some ⟨g0, 2, none⟩) : Value)))] rfl rfl (fun oq hop _ wq hQS => ?_) ?_
            · refine StepFrom.more_eq ((.pointer (some ⟨g0, 2, none⟩) : Value)) ?_
              exact StepFrom.load hop (p := (.pointer (some ⟨g0, 2, none⟩) : Value)) (by kernel_rfl) (load_five Y0.out hQS 2 HTY.out) (by kernel_rfl) hQS (Below.refl _ _) rfl
            refine StepsT.cons (fun (x : Value) (_ : World) => x = (.bool et : Value)) [(49, (fun (x : Value) (_ : World) => x = (.agg #[a0, a1, a2, a3, a4] : Value)))] rfl rfl (fun oq hop _ wq hQS => ?_) ?_
            · refine StepFrom.more_eq ((.agg #[a0, a1, a2, a3, a4] : Value)) ?_
              exact StepFrom.call hop (vs := [(.agg #[a0, a1, a2, a3, a4] : Value)]) (by kernel_rfl) (fun w => enter_empty _ w) (by kernel_rfl) ((HET.out wq).mono fun e w9 h9 => by obtain ⟨q1, q2⟩ := h9; exact ⟨_, q1, hQS.trans (q2.mono hQS.size), q2, rfl⟩)
            refine StepsT.cons (fun (x : Value) (_ : World) => x = (.pointer (some ⟨g0, 7, none⟩) : Value)) [] rfl rfl (fun oq hop _ wq hQS => ?_) ?_
            · exact StepFrom.fieldAddr hop (p := (.pointer (some ⟨g0, 0, none⟩) : Value)) (by kernel_rfl) (dc_f3) (by kernel_rfl) hQS (Below.refl _ _) rfl
            refine StepsT.cons (fun (x : Value) (_ : World) => x = (.agg #[b0, b1, b2, b3, b4] : Value)) [(51, (fun (x : Value) (_ : World) => x = (.pointer (some ⟨g0, 7, none⟩) : Value)))] rfl rfl (fun oq hop _ wq hQS => ?_) ?_
            · refine StepFrom.more_eq ((.pointer (some ⟨g0, 7, none⟩) : Value)) ?_
              exact StepFrom.load hop (p := (.pointer (some ⟨g0, 7, none⟩) : Value)) (by kernel_rfl) (load_five Y0.out hQS 7 HBO.out) (by kernel_rfl) hQS (Below.refl _ _) rfl
            refine StepsT.cons (fun (x : Value) (_ : World) => x = (.bool eb : Value)) [(52, (fun (x : Value) (_ : World) => x = (.agg #[b0, b1, b2, b3, b4] : Value)))] rfl rfl (fun oq hop _ wq hQS => ?_) ?_
            · refine StepFrom.more_eq ((.agg #[b0, b1, b2, b3, b4] : Value)) ?_
              exact StepFrom.call hop (vs := [(.agg #[b0, b1, b2, b3, b4] : Value)]) (by kernel_rfl) (fun w => enter_empty _ w) (by kernel_rfl) ((HEB.out wq).mono fun e w9 h9 => by obtain ⟨q1, q2⟩ := h9; exact ⟨_, q1, hQS.trans (q2.mono hQS.size), q2, rfl⟩)
            exact StepsT.nil
          case hfin2 =>
            intro wf hFS
            refine FinalFrom.more fun x48 h48 => ?_
            refine FinalFrom.more fun x49 h49 => ?_
            refine FinalFrom.more fun x50 h50 => ?_
            refine FinalFrom.more fun x51 h51 => ?_
            refine FinalFrom.more fun x52 h52 => ?_
            refine FinalFrom.more fun x53 h53 => ?_
            refine FinalFrom.done ?_
            intro _
            obtain rfl : x50 = (.bool et : Value) := h50
            obtain rfl : x53 = (.bool eb : Value) := h53
            simp only [Act.put, List.setIfInBounds_toArray, List.set_cons_zero, List.set_cons_succ, List.drop_succ_cons, List.drop_zero]
            have HM := Lib.hid (smust_two et eb wf wf.heap.size rfl)
            have HOF : Hid (Below w3.heap.size w3 wf) := hFS
            have HBF : Hid (Below w.heap.size w wf) := HB3.out.trans (hFS.mono HB3.out.size)
            clear hS hFS
            go_wp2_with (fail)
            refine HM.out.mono ?_
            rintro e w4 h
            clear HM
            cases hm : (et && eb) with
            | false =>
              rw [hm] at h
              obtain ⟨rfl, hb⟩ := h.2 rfl
              have HFF : Hid (MustPost w 4 r (.panicked [{ v := .iface 112 (.int .i64 4), recovered := false }]) w4) := by
                have hrf : r = false := by
                  cases r with
                  | false => rfl
                  | true =>
                    obtain ⟨_, _, hh⟩ := HRR.out.1 rfl
                    have hh : ty.none9 = true ∧ bo.none9 = true ∧ BlockSrc ld ds (⟨3, ld, ty, bo, pars, sort, mems, ctors⟩ : Dc) := by simpa using hh
                    rw [← HE2.out, ← HE.out, hh.1, hh.2.1] at hm
                    cases hm
                rw [hrf]
                exact MustPost.no ⟨rfl, HBF.out.trans (hb.mono HBF.out.size)⟩
              clear h hb hm
              go_wp2
              exact ⟨rfl, HFF.out⟩
            | true =>
              rw [hm] at h
              obtain ⟨rfl, hb⟩ := h.1 rfl
              simp only [Bool.and_eq_true] at hm
              have HMM := Lib.hid hm
              have HB4 : Hid (Below w.heap.size w w4) := HBF.out.trans (hb.mono HBF.out.size)
              have HO4 : Hid (Below w3.heap.size w3 w4) := HOF.out.trans (hb.mono HOF.out.size)
              clear h hb hm
              have y0 := (HB4.out.block _ (heap_some_lt X0.out)).trans X0.out
              have yo := (HO4.out.block _ (heap_some_lt XO.out)).trans XO.out
              have o0 := cell_of_row _ _ 0 _ _ (0, 0) yo
              have o1 := cell_of_row _ _ 1 _ _ (0, 0) yo
              have o2 := cell_of_row _ _ 2 _ _ (0, 0) yo
              have o3 := cell_of_row _ _ 3 _ _ (0, 0) yo
              have Y4 := y0
              have hbx := HB4.out
              obtain ⟨r5, hr5⟩ : ∃ x, blockSB ld ds (⟨3, ld, ty, bo, pars, sort, mems, ctors⟩ : Dc) = x := ⟨_, rfl⟩
              have HC := Lib.hid (sblock_any ld ds Ad nd cd (⟨3, ld, ty, bo, pars, sort, mems, ctors⟩ : Dc) cs w4 (HK.out.below hbx hw0) (HDS.out.below hbx hbx.size) HND.out (HDC.out.below hbx hbx.size) HFT.out HAL.out)
              rw [hr5] at HC
              have HR5 := Lib.hid hr5
              have hin : Hid ((Tryd.prog.info? 43).map (·.size) = some cs.size) := by show _ = _; rw [HSZ.out]; exact infoDc
              unfold OvV at HC
              clear y0 yo hbx hr5
              go_wp2_with (first | (refine wpList_load_row rfl 43 (.tmp 0) rfl g0 rfl 43 cs (0, 0) _ Y4 Tryd.underlying43 rfl hin.out ?_) | fail)
              refine HC.out.mono ?_
              rintro e w5 h
              clear HC o0 o1 o2 o3 Y4
              cases r5 with
              | false =>
                obtain ⟨rfl, hb⟩ := h.2 rfl
                have HFF : Hid (MustPost w 4 r (.panicked [{ v := .iface 112 (.int .i64 4), recovered := false }]) w5) := by
                  have hrf : r = false := by
                    cases r with
                    | false => rfl
                    | true =>
                      obtain ⟨_, _, hh⟩ := HRR.out.1 rfl
                      have hh : ty.none9 = true ∧ bo.none9 = true ∧ BlockSrc ld ds (⟨3, ld, ty, bo, pars, sort, mems, ctors⟩ : Dc) := by simpa using hh
                      have h1 := hh.2.2
                      rw [← blockSB_iff, HR5.out] at h1
                      cases h1
                  rw [hrf]
                  exact MustPost.no ⟨rfl, HB4.out.trans (hb.mono HB4.out.size)⟩
                clear h hb
                go_wp2
                exact ⟨rfl, HFF.out⟩
              | true =>
                obtain ⟨rfl, hb⟩ := h.1 rfl
                have HB5 : Hid (Below w.heap.size w w5) := HB4.out.trans (hb.mono HB4.out.size)
                clear h hb
                have HFF : Hid (MustPost w 4 r (.returned (.tuple #[])) w5) := by
                  have hrt : r = true := HRR.out.2 ⟨HLV.out.1, HLV.out.2, by
                    have h1 : ty.none9 = true := HE2.out.trans HMM.out.1
                    have h2 : bo.none9 = true := HE.out.trans HMM.out.2
                    have h3 := (blockSB_iff ..).1 HR5.out
                    simpa using ⟨h1, h2, h3⟩⟩
                  rw [hrt]
                  exact MustPost.yes rfl HB5.out
                go_wp2
                go_end0
                exact HFF.out
        · have f1 : (kd == 1) = false := by simpa using hk1
          have f2 : (kd == 2) = false := by simpa using hk2
          have f3 : (kd == 3) = false := by simpa using hk3
          have HM := Lib.hid (smust_one false w3 w3.heap.size rfl)
          have HNO : Hid (r = false) := by
            show _ = _
            cases r with
            | false => rfl
            | true =>
              obtain ⟨_, _, hh⟩ := HRR.out.1 rfl
              rw [if_neg hk1, if_neg hk2, if_neg hk3] at hh
              exact hh.elim
          clear hk1 hk2 hk3 hS
          go_wp2_with (fail)
          refine HM.out.mono ?_
          rintro e w4 h
          obtain ⟨rfl, hb⟩ := h.2 rfl
          have HFF : Hid (MustPost w 4 r (.panicked [{ v := .iface 112 (.int .i64 4), recovered := false }]) w4) := by
            rw [HNO.out]
            exact MustPost.no ⟨rfl, HB3.out.trans (hb.mono HB3.out.size)⟩
          clear h hb HM
          go_wp2
          exact ⟨rfl, HFF.out⟩
set_option maxRecDepth 100000 in
set_option maxHeartbeats 4000000 in
/-- Decl says whether a declaration is right in the source. -/
theorem declS_any (ds : List Dc) (Ad : Option Addr) (nd cd : Nat) (d : Dc) (cs : Array Value) (w : World) (hK : KindsAll w) (hds : Dcs w w.heap.size Ad cd ds) (hnd : ds.length = nd) (hdc : DcAt w w.heap.size d cs) (hft : d.fits) (hal : d.all ≤ 1048576) :
    Calls Tryd.prog 14 #[.slice Ad nd cd, .agg cs] w (HasPost w (declSB ds d)) := by
  have hw0 : 0 < w.heap.size := cell_lt (hK 0 (by decide)).1
  obtain ⟨w1, hw1⟩ : ∃ x, (w.alloc (.cells #[.slice Ad nd cd] 22)).alloc (.cells cs 43) = x := ⟨_, rfl⟩
  have hb1 : Below w.heap.size w w1 := by rw [← hw1]; exact stwo w _ _
  obtain ⟨z1, z2, _⟩ := two_allocs w (.cells #[.slice Ad nd cd] 22) (.cells cs 43)
  rw [hw1] at z1 z2
  have HH : Hid (Calls Tryd.prog 32 #[.func (.func 40) #[] #[.pointer (some ⟨w.heap.size + 1, 0, none⟩), .pointer (some ⟨w.heap.size, 0, none⟩)]] w1 (HasPost w1 (declSB ds d))) :=
    holds_any _ _ 4 (by decide) _ w1 enter_sdecl1 fun w' hw' => by
      have hb' := hb1.trans (hw'.mono hb1.size)
      exact sdecl1_any _ _ ds Ad nd cd d cs w' (hK.below hb' hw0) (hds.below hb' hb'.size) hnd (hdc.below hb' hb'.size) hft hal ((hw'.block _ (heap_some_lt z2)).trans z2) ((hw'.block _ (heap_some_lt z1)).trans z1)
  have hmf : ∀ (W : World), (Instr.makeFunc (.func 40) #[] #[.pointer (some ⟨w.heap.size + 1, 0, none⟩), .pointer (some ⟨w.heap.size, 0, none⟩)]).run Tryd.prog W = .ok (.func (.func 40) #[] #[.pointer (some ⟨w.heap.size + 1, 0, none⟩), .pointer (some ⟨w.heap.size, 0, none⟩)]) W := fun _ => rfl
  have HB1 := Lib.hid hb1
  obtain ⟨r, hr⟩ : ∃ r, declSB ds d = r := ⟨_, rfl⟩
  rw [hr] at HH ⊢
  clear hb1 z1 z2 hK hds hnd hdc hft hal hr hw0
  go_enter Tryd.func14, Tryd.ntmps14
  go_wp2_with (fail)
  refine HH.out.mono ?_
  rintro e w2 ⟨rfl, hb⟩
  have HFF := Lib.hid (HB1.out.trans (hb.mono HB1.out.size))
  clear hb HH
  go_wp2
  go_ret
  exact ⟨rfl, HFF.out⟩
end Go.Proofs.YtfgnnbpbbnnnhaaDoor
namespace Go.Proofs.YtfgnnbpbbnnnhaaDoor
open Go.RowKit Go.Maps
/-- a count: no more than there are, and all of them where it is not too great -/
def Cp (r c : Nat) : Prop := r ≤ c ∧ (r ≤ 1500 → r = c)
theorem cp_add {r s : Nat} (h : r + s ≤ 1099511627776) : IntKind.i64.wrap ((r : Int) + (s : Int)) = ((r + s : Nat) : Int) := by rw [IntWalk.i64_in _ (by omega)]; omega
theorem sumF_take {α : Type} {f : α → Nat} : ∀ (ts : List α) (i : Nat) (t : α), ts[i]? = some t → sumF f (ts.take (i + 1)) = sumF f (ts.take i) + f t
  | [], i, t, h => by simp at h
  | s :: ts, 0, t, h => by
    injection h with h
    subst h
    simp [sumF]
  | s :: ts, i + 1, t, h => by
    have := sumF_take (f := f) ts i t (by simpa using h)
    simp only [List.take_succ_cons, sumF, this]
    omega
theorem sumF_take_le {α : Type} {f : α → Nat} : ∀ (ts : List α) (i : Nat), sumF f (ts.take i) ≤ sumF f ts
  | [], i => by simp [sumF]
  | s :: ts, 0 => by simp [sumF]
  | s :: ts, i + 1 => by
    have := sumF_take_le (f := f) ts i
    simp only [List.take_succ_cons, sumF]
    omega
set_option maxRecDepth 100000 in
set_option maxHeartbeats 2000000 in
theorem membersOf_cnt (ds : List (List Tm)) (A : Option Addr) (c n : Nat) (w : World) (hn : ds.length = n) (hn9 : n ≤ 1048576) (hs : ∀ m ∈ ds, Tm.countL m ≤ 1048576) (h : Mems w w.heap.size A c ds) :
    Calls Tryd.prog 75 #[.slice A n c, .int .i64 1500] w (CountPost w (sumF (fun m : List Tm => 1 + Tm.countL m) ds) 1500) := by
  have HN := Lib.hid hn
  have HL := Lib.hid h
  have HS := Lib.hid hs
  clear hn h hs
  go_enter Tryd.func75, Tryd.ntmps75
  go_wp2
  go_loopw [5, 6] (fun u i wr => ∃ (k r : Nat), k ≤ n ∧ i = .int .i64 (k : Int) ∧ u = .int .i64 (r : Int) ∧ Below w.heap.size w wr ∧ Cp r (sumF (fun m : List Tm => 1 + Tm.countL m) (ds.take k))) (fun _ i _ => n - (intOf i).toNat)
  case atStart => exact ⟨0, 0, Nat.zero_le _, rfl, rfl, Below.refl _ _, by simp [sumF, Cp]⟩
  case round =>
    obtain ⟨k, r, hk, rfl, rfl, hb, hcp⟩ := hrel
    have HCP := Lib.hid hcp
    clear hcp
    have hbz := hb.size
    have HB := Lib.hid hb
    by_cases hlt : k < n
    · by_cases hu : r ≤ 1500
      · obtain ⟨d, hd⟩ : ∃ d, ds[k]? = some d := ⟨_, List.getElem?_eq_getElem (by rw [HN.out]; exact hlt)⟩
        obtain ⟨b, o, rfl, hbB, hc⟩ := HL.out.2 (by have := HN.out; omega)
        obtain ⟨Ai, ci, q1, q2⟩ := hc k d hd
        have e0 := (hb.cell (p := ⟨b, o + k, none⟩) hbB).trans q1
        have hst := sumF_take (f := fun m : List Tm => 1 + Tm.countL m) ds k d hd
        have hcb : Tm.countL d ≤ 1048576 := HS.out d (List.mem_of_getElem? hd)
        have HC := Lib.hid (termsOf_any d Ai ci 1500 _ wr rfl (HS.out d (List.mem_of_getElem? hd)) (by decide) (q2.below hb hbz))
        obtain ⟨l, hl⟩ : ∃ l, d.length = l := ⟨_, rfl⟩
        rw [hl] at e0 HC
        clear hc q1 q2 hd hl
        have ij0 : (0 : Int) ≤ (k : Int) := by omega
        have ij1 : (k : Int) < (n : Int) := by omega
        clear hb
        go_wp2_with (fail)
        refine HC.out.mono ?_
        rintro e w1 ⟨s, rfl, g1, g2, hb1⟩
        have HB1 : Hid (Below w.heap.size w w1) := HB.out.trans (hb1.mono hbz)
        have hcp := HCP.out
        have HN2 : Hid (Cp (r + 1 + s) (sumF (fun m : List Tm => 1 + Tm.countL m) (ds.take (k + 1)))) := by show Cp _ _; rw [hst]; unfold Cp at *; have g3 := g2; omega
        clear hb1 g2 hcp
        go_wp2
        go_roundw
        case rel => exact ⟨k + 1, r + 1 + s, by omega, by go_num, by go_num, HB1.out, HN2.out⟩
        case measure => simp [intOf]; omega
      · have hu2 : decide ((r : Int) ≤ 1500) = false := by rw [decide_eq_false_iff_not]; omega
        have hu9 : Hid (1500 < r) := by show _ < _; omega
        clear hb hu
        go_wp2
        go_ret
        have hcp := HCP.out
        have hle := sumF_take_le (f := fun m : List Tm => 1 + Tm.countL m) ds k
        exact ⟨r, rfl, by unfold Cp at hcp; omega, fun h => by have := hu9.out; omega, HB.out⟩
    · obtain rfl : n = k := by omega
      have hcp := HCP.out
      rw [List.take_of_length_le (Nat.le_of_eq HN.out)] at hcp
      have HCQ := Lib.hid hcp
      clear hb hcp
      go_wp2
      go_ret
      exact ⟨r, rfl, HCQ.out.1, HCQ.out.2, HB.out⟩
set_option maxRecDepth 100000 in
set_option maxHeartbeats 2000000 in
theorem ctorsOf_cnt (ds : List (Int × Tm)) (A : Option Addr) (c n : Nat) (w : World) (hn : ds.length = n) (hn9 : n ≤ 1048576) (hs : ∀ m ∈ ds, m.2.count ≤ 1048576) (h : Ctrs w w.heap.size A c ds) :
    Calls Tryd.prog 76 #[.slice A n c, .int .i64 1500] w (CountPost w (sumF (fun c : Int × Tm => 1 + c.2.count) ds) 1500) := by
  have HN := Lib.hid hn
  have HL := Lib.hid h
  have HS := Lib.hid hs
  clear hn h hs
  go_enter Tryd.func76, Tryd.ntmps76
  go_wp2
  go_loopw [5, 6] (fun u i wr => ∃ (k r : Nat), k ≤ n ∧ i = .int .i64 (k : Int) ∧ u = .int .i64 (r : Int) ∧ Below w.heap.size w wr ∧ Cp r (sumF (fun c : Int × Tm => 1 + c.2.count) (ds.take k))) (fun _ i _ => n - (intOf i).toNat)
  case atStart => exact ⟨0, 0, Nat.zero_le _, rfl, rfl, Below.refl _ _, by simp [sumF, Cp]⟩
  case round =>
    obtain ⟨k, r, hk, rfl, rfl, hb, hcp⟩ := hrel
    have HCP := Lib.hid hcp
    clear hcp
    have hbz := hb.size
    have HB := Lib.hid hb
    by_cases hlt : k < n
    · by_cases hu : r ≤ 1500
      · obtain ⟨d, hd⟩ : ∃ d, ds[k]? = some d := ⟨_, List.getElem?_eq_getElem (by rw [HN.out]; exact hlt)⟩
        obtain ⟨b, o, rfl, hbB, hc⟩ := HL.out.2 (by have := HN.out; omega)
        obtain ⟨v, q1, q2, q3⟩ := hc k d hd
        obtain ⟨a0, a1, a2, a3, a4, rfl, f0, f1, f2, f3, f4⟩ := q2
        obtain ⟨i0, i1, i2, S0, S1, l0, m0, l1, m1, rfl, rfl, rfl, rfl, rfl⟩ := tm_cells5 q3
        have e0 := (hb.cell (p := ⟨b, o + k * 6 + 1, none⟩) hbB).trans f0
        have e1 := (hb.cell (p := ⟨b, o + k * 6 + 1 + 1, none⟩) hbB).trans f1
        have e2 := (hb.cell (p := ⟨b, o + k * 6 + 1 + 2, none⟩) hbB).trans f2
        have e3 := (hb.cell (p := ⟨b, o + k * 6 + 1 + 3, none⟩) hbB).trans f3
        have e4 := (hb.cell (p := ⟨b, o + k * 6 + 1 + 4, none⟩) hbB).trans f4
        have hst := sumF_take (f := fun c : Int × Tm => 1 + c.2.count) ds k d hd
        have hcb : d.2.count ≤ 1048576 := HS.out d (List.mem_of_getElem? hd)
        have HC := Lib.hid (termOf_any d.2 (HS.out d (List.mem_of_getElem? hd)) 1500 _ wr (by decide) (q3.below hb hbz))
        clear hc q1 q3 hd f0 f1 f2 f3 f4
        have ij0 : (0 : Int) ≤ (k : Int) := by omega
        have ij1 : (k : Int) < (n : Int) := by omega
        clear hb
        go_wp2_with (fail)
        refine HC.out.mono ?_
        rintro e w1 ⟨s, rfl, g1, g2, hb1⟩
        have HB1 : Hid (Below w.heap.size w w1) := HB.out.trans (hb1.mono hbz)
        have hcp := HCP.out
        have HN2 : Hid (Cp (r + 1 + s) (sumF (fun c : Int × Tm => 1 + c.2.count) (ds.take (k + 1)))) := by show Cp _ _; rw [hst]; unfold Cp at *; have g3 := g2; omega
        clear hb1 g2 hcp
        go_wp2
        go_roundw
        case rel => exact ⟨k + 1, r + 1 + s, by omega, by go_num, by go_num, HB1.out, HN2.out⟩
        case measure => simp [intOf]; omega
      · have hu2 : decide ((r : Int) ≤ 1500) = false := by rw [decide_eq_false_iff_not]; omega
        have hu9 : Hid (1500 < r) := by show _ < _; omega
        clear hb hu
        go_wp2
        go_ret
        have hcp := HCP.out
        have hle := sumF_take_le (f := fun c : Int × Tm => 1 + c.2.count) ds k
        exact ⟨r, rfl, by unfold Cp at hcp; omega, fun h => by have := hu9.out; omega, HB.out⟩
    · obtain rfl : n = k := by omega
      have hcp := HCP.out
      rw [List.take_of_length_le (Nat.le_of_eq HN.out)] at hcp
      have HCQ := Lib.hid hcp
      clear hb hcp
      go_wp2
      go_ret
      exact ⟨r, rfl, HCQ.out.1, HCQ.out.2, HB.out⟩
/-- how many parts a declaration has -/
def Dc.cn (d : Dc) : Nat := 1 + d.ty.count + d.bo.count + Tm.countL d.pars + (1 + d.sort.length) + sumF (fun m : List Tm => 1 + Tm.countL m) d.mems + sumF (fun c : Int × Tm => 1 + c.2.count) d.ctors
/-- its parts are not too many, all in all -/
def Dc.ok9 (d : Dc) : Prop := d.all ≤ 1048576
theorem Dc.ok_cn {d : Dc} (h : d.ok9) : d.cn ≤ 8388608 := by
  unfold Dc.ok9 Dc.all at h
  unfold Dc.cn
  omega
theorem all_cn : ∀ ds : List Dc, sumF Dc.cn ds ≤ 2 * sumF Dc.all ds
  | [] => by simp [sumF]
  | d :: ds => by
    have h := all_cn ds
    have h1 : d.cn ≤ 2 * d.all := by unfold Dc.cn Dc.all; omega
    simp only [sumF]
    omega
set_option maxRecDepth 100000 in
set_option maxHeartbeats 4000000 in
theorem declOf_cnt (d : Dc) (cs : Array Value) (w : World) (h : DcAt w w.heap.size d cs) (hok : d.ok9) :
    Calls Tryd.prog 48 #[.agg cs, .int .i64 1500] w (CountPost w d.cn 1500) := by
  obtain ⟨w1, hw1⟩ : ∃ x, w.alloc (.cells cs 43) = x := ⟨_, rfl⟩
  have hb1 : Below w.heap.size w w1 := by rw [← hw1]; exact (Below.refl _ _).alloc (Nat.le_refl _) _
  have x1 : w1.heap[w.heap.size]? = some (.cells cs 43 (0, 0)) := by rw [← hw1]; exact heap_alloc_new w _
  have hcn9 := Dc.ok_cn hok
  obtain ⟨o1, o2, o3, o4, o5, o6, o7, o8⟩ := Dc.all_ok hok
  obtain ⟨a0, a1, a2, a3, a4, b0, b1, b2, b3, b4, Ap, As, Am, Ac, cp, cz, cm, cc, rfl, h1, h2, h3, h4, h5, h6, h7⟩ := h
  obtain ⟨np, hnp⟩ : ∃ x, d.pars.length = x := ⟨_, rfl⟩
  obtain ⟨nz, hnz⟩ : ∃ x, d.sort.length = x := ⟨_, rfl⟩
  obtain ⟨nm, hnm⟩ : ∃ x, d.mems.length = x := ⟨_, rfl⟩
  obtain ⟨nc, hnc⟩ : ∃ x, d.ctors.length = x := ⟨_, rfl⟩
  obtain ⟨kd, hkd⟩ : ∃ x, d.kind = x := ⟨_, rfl⟩
  obtain ⟨kl, hkl⟩ : ∃ x, d.lev = x := ⟨_, rfl⟩
  rw [hnp, hnz, hnm, hnc, hkd, hkl] at x1 hw1 ⊢
  have HT1 : Hid (∀ w', Below w1.heap.size w1 w' → Calls Tryd.prog 19 #[.agg #[a0, a1, a2, a3, a4], .int .i64 1500] w' (CountPost w' d.ty.count 1500)) := fun w' hx => termOf_any _ o1 1500 _ w' (by decide) (h1.below (hb1.trans (hx.mono hb1.size)) (hb1.trans (hx.mono hb1.size)).size)
  have HT2 : Hid (∀ w', Below w1.heap.size w1 w' → Calls Tryd.prog 19 #[.agg #[b0, b1, b2, b3, b4], .int .i64 1500] w' (CountPost w' d.bo.count 1500)) := fun w' hx => termOf_any _ o2 1500 _ w' (by decide) (h2.below (hb1.trans (hx.mono hb1.size)) (hb1.trans (hx.mono hb1.size)).size)
  have HT3 : Hid (∀ w', Below w1.heap.size w1 w' → Calls Tryd.prog 31 #[.slice Ap np cp, .int .i64 1500] w' (CountPost w' (Tm.countL d.pars) 1500)) := fun w' hx => termsOf_any _ Ap cp 1500 np w' hnp o3 (by decide) (h3.below (hb1.trans (hx.mono hb1.size)) (hb1.trans (hx.mono hb1.size)).size)
  have HT4 : Hid (∀ w', Calls Tryd.prog 49 #[.agg #[.slice As nz cz], .int .i64 1500] w' (CountPost w' (1 + nz) 1500)) := fun w' => levelOf_m As nz cz 1500 w' (by omega) (by decide)
  have HT5 : Hid (∀ w', Below w1.heap.size w1 w' → Calls Tryd.prog 75 #[.slice Am nm cm, .int .i64 1500] w' (CountPost w' (sumF (fun m : List Tm => 1 + Tm.countL m) d.mems) 1500)) := fun w' hx => membersOf_cnt d.mems Am cm nm w' hnm (by omega) o6 (h6.keep (hb1.trans (hx.mono hb1.size)).size fun p hp => (hb1.trans (hx.mono hb1.size)).cell hp)
  have HT6 : Hid (∀ w', Below w1.heap.size w1 w' → Calls Tryd.prog 76 #[.slice Ac nc cc, .int .i64 1500] w' (CountPost w' (sumF (fun c : Int × Tm => 1 + c.2.count) d.ctors) 1500)) := fun w' hx => ctorsOf_cnt d.ctors Ac cc nc w' hnc (by omega) o8 (h7.keep (hb1.trans (hx.mono hb1.size)).size fun p hp => (hb1.trans (hx.mono hb1.size)).cell hp)
  obtain ⟨c8, hc8⟩ : ∃ x, d.ty.count = x := ⟨_, rfl⟩
  obtain ⟨c13, hc13⟩ : ∃ x, d.bo.count = x := ⟨_, rfl⟩
  obtain ⟨c18, hc18⟩ : ∃ x, Tm.countL d.pars = x := ⟨_, rfl⟩
  obtain ⟨c23, hc23⟩ : ∃ x, 1 + nz = x := ⟨_, rfl⟩
  obtain ⟨c28, hc28⟩ : ∃ x, sumF (fun m : List Tm => 1 + Tm.countL m) d.mems = x := ⟨_, rfl⟩
  obtain ⟨c33, hc33⟩ : ∃ x, sumF (fun c : Int × Tm => 1 + c.2.count) d.ctors = x := ⟨_, rfl⟩
  have HCN : Hid (d.cn = 1 + c8 + c13 + c18 + c23 + c28 + c33) := by
    show _ = _
    unfold Dc.cn
    rw [hc8, hc13, hc18, hnz, hc23, hc28, hc33]
  rw [hc8] at HT1
  rw [hc13] at HT2
  rw [hc18] at HT3
  rw [hc23] at HT4
  rw [hc28] at HT5
  rw [hc33] at HT6
  rw [HCN.out] at hcn9
  have HB1 := Lib.hid hb1
  have l1 := heap_some_lt x1
  clear h1 h2 h3 h4 h5 h6 h7 hb1 o1 o2 o3 o4 o5 o6 o7 o8 hnp hnz hnm hnc hkd hkl hok hc8 hc13 hc18 hc23 hc28 hc33
  go_enter Tryd.func48, Tryd.ntmps48
  go_upto_region 1 with (fail)
  have hS : Below w1.heap.size w1 w1.drew := (Below.refl _ _).drew
  refine wp_region_tab (fun w' => Below w1.heap.size w1 w') (fun w1 w2 : World => Below w1.heap.size w1 w2) [(fun (x : Value) (_ : World) => x = (.pointer (some ⟨w.heap.size, 2, none⟩) : Value)), (fun (x : Value) (_ : World) => x = (.agg #[a0, a1, a2, a3, a4] : Value)), (fun (x : Value) (_ : World) => x = (.int .i64 1500 : Value)), (fun (x : Value) (w : World) => ∃ r : Nat, x = .int .i64 (r : Int) ∧ Cp r c8), (fun (x : Value) (w : World) => ∃ r : Nat, x = .int .i64 (r : Int) ∧ Cp r (1 + c8)), (fun (x : Value) (_ : World) => x = (.pointer (some ⟨w.heap.size, 7, none⟩) : Value)), (fun (x : Value) (_ : World) => x = (.agg #[b0, b1, b2, b3, b4] : Value)), (fun (x : Value) (_ : World) => x = (.int .i64 1500 : Value)), (fun (x : Value) (w : World) => ∃ r : Nat, x = .int .i64 (r : Int) ∧ Cp r c13), (fun (x : Value) (w : World) => ∃ r : Nat, x = .int .i64 (r : Int) ∧ Cp r (1 + c8 + c13)), (fun (x : Value) (_ : World) => x = (.pointer (some ⟨w.heap.size, 12, none⟩) : Value)), (fun (x : Value) (_ : World) => x = (.slice Ap np cp : Value)), (fun (x : Value) (_ : World) => x = (.int .i64 1500 : Value)), (fun (x : Value) (w : World) => ∃ r : Nat, x = .int .i64 (r : Int) ∧ Cp r c18), (fun (x : Value) (w : World) => ∃ r : Nat, x = .int .i64 (r : Int) ∧ Cp r (1 + c8 + c13 + c18)), (fun (x : Value) (_ : World) => x = (.pointer (some ⟨w.heap.size, 13, none⟩) : Value)), (fun (x : Value) (_ : World) => x = (.agg #[.slice As nz cz] : Value)), (fun (x : Value) (_ : World) => x = (.int .i64 1500 : Value)), (fun (x : Value) (w : World) => ∃ r : Nat, x = .int .i64 (r : Int) ∧ Cp r c23), (fun (x : Value) (w : World) => ∃ r : Nat, x = .int .i64 (r : Int) ∧ Cp r (1 + c8 + c13 + c18 + c23)), (fun (x : Value) (_ : World) => x = (.pointer (some ⟨w.heap.size, 14, none⟩) : Value)), (fun (x : Value) (_ : World) => x = (.slice Am nm cm : Value)), (fun (x : Value) (_ : World) => x = (.int .i64 1500 : Value)), (fun (x : Value) (w : World) => ∃ r : Nat, x = .int .i64 (r : Int) ∧ Cp r c28), (fun (x : Value) (w : World) => ∃ r : Nat, x = .int .i64 (r : Int) ∧ Cp r (1 + c8 + c13 + c18 + c23 + c28)), (fun (x : Value) (_ : World) => x = (.pointer (some ⟨w.heap.size, 15, none⟩) : Value)), (fun (x : Value) (_ : World) => x = (.slice Ac nc cc : Value)), (fun (x : Value) (_ : World) => x = (.int .i64 1500 : Value)), (fun (x : Value) (w : World) => ∃ r : Nat, x = .int .i64 (r : Int) ∧ Cp r c33), (fun (x : Value) (w : World) => ∃ r : Nat, x = .int .i64 (r : Int) ∧ Cp r (1 + c8 + c13 + c18 + c23 + c28 + c33)), (fun (x : Value) (w : World) => ∃ r : Nat, x = .int .i64 (r : Int) ∧ Cp r (1 + c8 + c13 + c18 + c23 + c28 + c33))] [⟨some 5, .fieldAddr 43 (.tmp 2) 2, none, []⟩, ⟨some 6, .load 27 (.tmp 5), none, [(5, 0)]⟩, ⟨some 7, .move (.tmp 1), none, []⟩, ⟨some 8, .call { callee := .value (.func 19), args := #[.tmp 6, .tmp 7], argTypes := #[27, 3] }, none, [(6, 1), (7, 2)]⟩, ⟨some 9, .binOp .add 3 (.const (.int .i64 1)) (.tmp 8) 3, none, [(8, 3)]⟩, ⟨some 10, .fieldAddr 43 (.tmp 2) 3, none, []⟩, ⟨some 11, .load 27 (.tmp 10), none, [(10, 5)]⟩, ⟨some 12, .move (.tmp 1), none, []⟩, ⟨some 13, .call { callee := .value (.func 19), args := #[.tmp 11, .tmp 12], argTypes := #[27, 3] }, none, [(11, 6), (12, 7)]⟩, ⟨some 14, .binOp .add 3 (.tmp 9) (.tmp 13) 3, none, [(9, 4), (13, 8)]⟩, ⟨some 15, .fieldAddr 43 (.tmp 2) 4, none, []⟩, ⟨some 16, .load 25 (.tmp 15), none, [(15, 10)]⟩, ⟨some 17, .move (.tmp 1), none, []⟩, ⟨some 18, .call { callee := .value (.func 31), args := #[.tmp 16, .tmp 17], argTypes := #[25, 3] }, none, [(16, 11), (17, 12)]⟩, ⟨some 19, .binOp .add 3 (.tmp 14) (.tmp 18) 3, none, [(14, 9), (18, 13)]⟩, ⟨some 20, .fieldAddr 43 (.tmp 2) 5, none, []⟩, ⟨some 21, .load 39 (.tmp 20), none, [(20, 15)]⟩, ⟨some 22, .move (.tmp 1), none, []⟩, ⟨some 23, .call { callee := .value (.func 49), args := #[.tmp 21, .tmp 22], argTypes := #[39, 3] }, none, [(21, 16), (22, 17)]⟩, ⟨some 24, .binOp .add 3 (.tmp 19) (.tmp 23) 3, none, [(19, 14), (23, 18)]⟩, ⟨some 25, .fieldAddr 43 (.tmp 2) 6, none, []⟩, ⟨some 26, .load 40 (.tmp 25), none, [(25, 20)]⟩, ⟨some 27, .move (.tmp 1), none, []⟩, ⟨some 28, .call { callee := .value (.func 75), args := #[.tmp 26, .tmp 27], argTypes := #[40, 3] }, none, [(26, 21), (27, 22)]⟩, ⟨some 29, .binOp .add 3 (.tmp 24) (.tmp 28) 3, none, [(24, 19), (28, 23)]⟩, ⟨some 30, .fieldAddr 43 (.tmp 2) 7, none, []⟩, ⟨some 31, .load 41 (.tmp 30), none, [(30, 25)]⟩, ⟨some 32, .move (.tmp 1), none, []⟩, ⟨some 33, .call { callee := .value (.func 76), args := #[.tmp 31, .tmp 32], argTypes := #[41, 3] }, none, [(31, 26), (32, 27)]⟩, ⟨some 34, .binOp .add 3 (.tmp 29) (.tmp 33) 3, none, [(29, 24), (33, 28)]⟩, ⟨some 4, .assign (.tmp 34), none, [(34, 29)]⟩] [some 5, some 6, some 7, some 8, some 9, some 10, some 11, some 12, some 13, some 14, some 15, some 16, some 17, some 18, some 19, some 20, some 21, some 22, some 23, some 24, some 25, some 26, some 27, some 28, some 29, some 30, some 31, some 32, some 33, some 34, some 4] (by kernel_rfl) (by kernel_rfl) (by kernel_rfl) (by kernel_rfl) (by kernel_rfl) ?hS ?hmono ?hsteps ?hfin
  case hS => exact hS
  case hmono =>
    refine MonoL.cons (fun x w1 w2 _ _ _ hx => hx) ?_
    refine MonoL.cons (fun x w1 w2 _ _ _ hx => hx) ?_
    refine MonoL.cons (fun x w1 w2 _ _ _ hx => hx) ?_
    refine MonoL.cons (fun x w1 w2 _ _ hR hx => ?_) ?_
    · exact hx
    refine MonoL.cons (fun x w1 w2 _ _ hR hx => ?_) ?_
    · exact hx
    refine MonoL.cons (fun x w1 w2 _ _ _ hx => hx) ?_
    refine MonoL.cons (fun x w1 w2 _ _ _ hx => hx) ?_
    refine MonoL.cons (fun x w1 w2 _ _ _ hx => hx) ?_
    refine MonoL.cons (fun x w1 w2 _ _ hR hx => ?_) ?_
    · exact hx
    refine MonoL.cons (fun x w1 w2 _ _ hR hx => ?_) ?_
    · exact hx
    refine MonoL.cons (fun x w1 w2 _ _ _ hx => hx) ?_
    refine MonoL.cons (fun x w1 w2 _ _ _ hx => hx) ?_
    refine MonoL.cons (fun x w1 w2 _ _ _ hx => hx) ?_
    refine MonoL.cons (fun x w1 w2 _ _ hR hx => ?_) ?_
    · exact hx
    refine MonoL.cons (fun x w1 w2 _ _ hR hx => ?_) ?_
    · exact hx
    refine MonoL.cons (fun x w1 w2 _ _ _ hx => hx) ?_
    refine MonoL.cons (fun x w1 w2 _ _ _ hx => hx) ?_
    refine MonoL.cons (fun x w1 w2 _ _ _ hx => hx) ?_
    refine MonoL.cons (fun x w1 w2 _ _ hR hx => ?_) ?_
    · exact hx
    refine MonoL.cons (fun x w1 w2 _ _ hR hx => ?_) ?_
    · exact hx
    refine MonoL.cons (fun x w1 w2 _ _ _ hx => hx) ?_
    refine MonoL.cons (fun x w1 w2 _ _ _ hx => hx) ?_
    refine MonoL.cons (fun x w1 w2 _ _ _ hx => hx) ?_
    refine MonoL.cons (fun x w1 w2 _ _ hR hx => ?_) ?_
    · exact hx
    refine MonoL.cons (fun x w1 w2 _ _ hR hx => ?_) ?_
    · exact hx
    refine MonoL.cons (fun x w1 w2 _ _ _ hx => hx) ?_
    refine MonoL.cons (fun x w1 w2 _ _ _ hx => hx) ?_
    refine MonoL.cons (fun x w1 w2 _ _ _ hx => hx) ?_
    refine MonoL.cons (fun x w1 w2 _ _ hR hx => ?_) ?_
    · exact hx
    refine MonoL.cons (fun x w1 w2 _ _ hR hx => ?_) ?_
    · exact hx
    refine MonoL.cons (fun x w1 w2 _ _ hR hx => ?_) ?_
    · exact hx
    exact MonoL.nil
  case hsteps =>
    refine StepsT.cons (fun (x : Value) (_ : World) => x = (.pointer (some ⟨w.heap.size, 2, none⟩) : Value)) [] rfl rfl (fun oq hop _ wq hQS => ?_) ?_
    · exact StepFrom.fieldAddr hop (p := (.pointer (some ⟨w.heap.size, 0, none⟩) : Value)) (by kernel_rfl) (dc_field2) (by kernel_rfl) hQS (Below.refl _ _) rfl
    refine StepsT.cons (fun (x : Value) (_ : World) => x = (.agg #[a0, a1, a2, a3, a4] : Value)) [(5, (fun (x : Value) (_ : World) => x = (.pointer (some ⟨w.heap.size, 2, none⟩) : Value)))] rfl rfl (fun oq hop _ wq hQS => ?_) ?_
    · refine StepFrom.more_eq ((.pointer (some ⟨w.heap.size, 2, none⟩) : Value)) ?_
      exact StepFrom.load hop (p := (.pointer (some ⟨w.heap.size, 2, none⟩) : Value)) (by kernel_rfl) (load_tm_at ((hQS.block _ l1).trans x1) rfl rfl rfl rfl rfl) (by kernel_rfl) hQS (Below.refl _ _) rfl
    refine StepsT.cons (fun (x : Value) (_ : World) => x = (.int .i64 1500 : Value)) [] rfl rfl (fun oq hop _ wq hQS => ?_) ?_
    · exact StepFrom.move hop (v := (.int .i64 1500 : Value)) (by kernel_rfl) (by kernel_rfl) hQS (Below.refl _ _) rfl
    refine StepsT.cons (fun (x : Value) (w : World) => ∃ r : Nat, x = .int .i64 (r : Int) ∧ Cp r c8) [(6, (fun (x : Value) (_ : World) => x = (.agg #[a0, a1, a2, a3, a4] : Value))), (7, (fun (x : Value) (_ : World) => x = (.int .i64 1500 : Value)))] rfl rfl (fun oq hop _ wq hQS => ?_) ?_
    · refine StepFrom.more_eq ((.agg #[a0, a1, a2, a3, a4] : Value)) ?_
      refine StepFrom.more_eq ((.int .i64 1500 : Value)) ?_
      exact StepFrom.call hop (vs := [(.agg #[a0, a1, a2, a3, a4] : Value), (.int .i64 1500 : Value)]) (by kernel_rfl) (fun w => enter_termOf9 _ w) (by kernel_rfl) ((HT1.out wq hQS).mono fun e w9 h9 => by obtain ⟨s, q1, q2, q4, q3⟩ := h9; exact ⟨_, q1, hQS.trans (q3.mono hQS.size), q3, _, rfl, q2, q4⟩)
    refine StepsT.cons (fun (x : Value) (w : World) => ∃ r : Nat, x = .int .i64 (r : Int) ∧ Cp r (1 + c8)) [(8, (fun (x : Value) (w : World) => ∃ r : Nat, x = .int .i64 (r : Int) ∧ Cp r c8))] rfl rfl (fun oq hop _ wq hQS => ?_) ?_
    · refine StepFrom.more fun x8 h8 => ?_
      obtain ⟨r8, rfl, g8⟩ := h8
      exact StepFrom.bin hop (vx := (.int .i64 1 : Value)) (vy := (.int .i64 (r8 : Int) : Value)) (by kernel_rfl) (by kernel_rfl) (add_wrap9 _ _ _ _ _) (by kernel_rfl) hQS (Below.refl _ _) (by exact ⟨1 + r8, congrArg (Value.int IntKind.i64) (cp_add (r := 1) (s := r8) (by have := g8.1; omega)), by have := g8; unfold Cp at *; omega⟩)
    refine StepsT.cons (fun (x : Value) (_ : World) => x = (.pointer (some ⟨w.heap.size, 7, none⟩) : Value)) [] rfl rfl (fun oq hop _ wq hQS => ?_) ?_
    · exact StepFrom.fieldAddr hop (p := (.pointer (some ⟨w.heap.size, 0, none⟩) : Value)) (by kernel_rfl) (dc_field3) (by kernel_rfl) hQS (Below.refl _ _) rfl
    refine StepsT.cons (fun (x : Value) (_ : World) => x = (.agg #[b0, b1, b2, b3, b4] : Value)) [(10, (fun (x : Value) (_ : World) => x = (.pointer (some ⟨w.heap.size, 7, none⟩) : Value)))] rfl rfl (fun oq hop _ wq hQS => ?_) ?_
    · refine StepFrom.more_eq ((.pointer (some ⟨w.heap.size, 7, none⟩) : Value)) ?_
      exact StepFrom.load hop (p := (.pointer (some ⟨w.heap.size, 7, none⟩) : Value)) (by kernel_rfl) (load_tm_at ((hQS.block _ l1).trans x1) rfl rfl rfl rfl rfl) (by kernel_rfl) hQS (Below.refl _ _) rfl
    refine StepsT.cons (fun (x : Value) (_ : World) => x = (.int .i64 1500 : Value)) [] rfl rfl (fun oq hop _ wq hQS => ?_) ?_
    · exact StepFrom.move hop (v := (.int .i64 1500 : Value)) (by kernel_rfl) (by kernel_rfl) hQS (Below.refl _ _) rfl
    refine StepsT.cons (fun (x : Value) (w : World) => ∃ r : Nat, x = .int .i64 (r : Int) ∧ Cp r c13) [(11, (fun (x : Value) (_ : World) => x = (.agg #[b0, b1, b2, b3, b4] : Value))), (12, (fun (x : Value) (_ : World) => x = (.int .i64 1500 : Value)))] rfl rfl (fun oq hop _ wq hQS => ?_) ?_
    · refine StepFrom.more_eq ((.agg #[b0, b1, b2, b3, b4] : Value)) ?_
      refine StepFrom.more_eq ((.int .i64 1500 : Value)) ?_
      exact StepFrom.call hop (vs := [(.agg #[b0, b1, b2, b3, b4] : Value), (.int .i64 1500 : Value)]) (by kernel_rfl) (fun w => enter_termOf9 _ w) (by kernel_rfl) ((HT2.out wq hQS).mono fun e w9 h9 => by obtain ⟨s, q1, q2, q4, q3⟩ := h9; exact ⟨_, q1, hQS.trans (q3.mono hQS.size), q3, _, rfl, q2, q4⟩)
    refine StepsT.cons (fun (x : Value) (w : World) => ∃ r : Nat, x = .int .i64 (r : Int) ∧ Cp r (1 + c8 + c13)) [(9, (fun (x : Value) (w : World) => ∃ r : Nat, x = .int .i64 (r : Int) ∧ Cp r (1 + c8))), (13, (fun (x : Value) (w : World) => ∃ r : Nat, x = .int .i64 (r : Int) ∧ Cp r c13))] rfl rfl (fun oq hop _ wq hQS => ?_) ?_
    · refine StepFrom.more fun x9 h9 => ?_
      obtain ⟨r9, rfl, g9⟩ := h9
      refine StepFrom.more fun x13 h13 => ?_
      obtain ⟨r13, rfl, g13⟩ := h13
      exact StepFrom.bin hop (vx := (.int .i64 (r9 : Int) : Value)) (vy := (.int .i64 (r13 : Int) : Value)) (by kernel_rfl) (by kernel_rfl) (add_wrap9 _ _ _ _ _) (by kernel_rfl) hQS (Below.refl _ _) (by exact ⟨r9 + r13, by rw [cp_add (by have := g9.1; have := g13.1; omega)], by have := g9; have := g13; unfold Cp at *; omega⟩)
    refine StepsT.cons (fun (x : Value) (_ : World) => x = (.pointer (some ⟨w.heap.size, 12, none⟩) : Value)) [] rfl rfl (fun oq hop _ wq hQS => ?_) ?_
    · exact StepFrom.fieldAddr hop (p := (.pointer (some ⟨w.heap.size, 0, none⟩) : Value)) (by kernel_rfl) (dc_field4) (by kernel_rfl) hQS (Below.refl _ _) rfl
    refine StepsT.cons (fun (x : Value) (_ : World) => x = (.slice Ap np cp : Value)) [(15, (fun (x : Value) (_ : World) => x = (.pointer (some ⟨w.heap.size, 12, none⟩) : Value)))] rfl rfl (fun oq hop _ wq hQS => ?_) ?_
    · refine StepFrom.more_eq ((.pointer (some ⟨w.heap.size, 12, none⟩) : Value)) ?_
      exact StepFrom.load hop (p := (.pointer (some ⟨w.heap.size, 12, none⟩) : Value)) (by kernel_rfl) (load_terms (cell_of_row _ _ 12 _ _ (0, 0) ((hQS.block _ l1).trans x1))) (by kernel_rfl) hQS (Below.refl _ _) rfl
    refine StepsT.cons (fun (x : Value) (_ : World) => x = (.int .i64 1500 : Value)) [] rfl rfl (fun oq hop _ wq hQS => ?_) ?_
    · exact StepFrom.move hop (v := (.int .i64 1500 : Value)) (by kernel_rfl) (by kernel_rfl) hQS (Below.refl _ _) rfl
    refine StepsT.cons (fun (x : Value) (w : World) => ∃ r : Nat, x = .int .i64 (r : Int) ∧ Cp r c18) [(16, (fun (x : Value) (_ : World) => x = (.slice Ap np cp : Value))), (17, (fun (x : Value) (_ : World) => x = (.int .i64 1500 : Value)))] rfl rfl (fun oq hop _ wq hQS => ?_) ?_
    · refine StepFrom.more_eq ((.slice Ap np cp : Value)) ?_
      refine StepFrom.more_eq ((.int .i64 1500 : Value)) ?_
      exact StepFrom.call hop (vs := [(.slice Ap np cp : Value), (.int .i64 1500 : Value)]) (by kernel_rfl) (fun w => enter_termsOf _ w) (by kernel_rfl) ((HT3.out wq hQS).mono fun e w9 h9 => by obtain ⟨s, q1, q2, q4, q3⟩ := h9; exact ⟨_, q1, hQS.trans (q3.mono hQS.size), q3, _, rfl, q2, q4⟩)
    refine StepsT.cons (fun (x : Value) (w : World) => ∃ r : Nat, x = .int .i64 (r : Int) ∧ Cp r (1 + c8 + c13 + c18)) [(14, (fun (x : Value) (w : World) => ∃ r : Nat, x = .int .i64 (r : Int) ∧ Cp r (1 + c8 + c13))), (18, (fun (x : Value) (w : World) => ∃ r : Nat, x = .int .i64 (r : Int) ∧ Cp r c18))] rfl rfl (fun oq hop _ wq hQS => ?_) ?_
    · refine StepFrom.more fun x14 h14 => ?_
      obtain ⟨r14, rfl, g14⟩ := h14
      refine StepFrom.more fun x18 h18 => ?_
      obtain ⟨r18, rfl, g18⟩ := h18
      exact StepFrom.bin hop (vx := (.int .i64 (r14 : Int) : Value)) (vy := (.int .i64 (r18 : Int) : Value)) (by kernel_rfl) (by kernel_rfl) (add_wrap9 _ _ _ _ _) (by kernel_rfl) hQS (Below.refl _ _) (by exact ⟨r14 + r18, by rw [cp_add (by have := g14.1; have := g18.1; omega)], by have := g14; have := g18; unfold Cp at *; omega⟩)
    refine StepsT.cons (fun (x : Value) (_ : World) => x = (.pointer (some ⟨w.heap.size, 13, none⟩) : Value)) [] rfl rfl (fun oq hop _ wq hQS => ?_) ?_
    · exact StepFrom.fieldAddr hop (p := (.pointer (some ⟨w.heap.size, 0, none⟩) : Value)) (by kernel_rfl) (dc_field5) (by kernel_rfl) hQS (Below.refl _ _) rfl
    refine StepsT.cons (fun (x : Value) (_ : World) => x = (.agg #[.slice As nz cz] : Value)) [(20, (fun (x : Value) (_ : World) => x = (.pointer (some ⟨w.heap.size, 13, none⟩) : Value)))] rfl rfl (fun oq hop _ wq hQS => ?_) ?_
    · refine StepFrom.more_eq ((.pointer (some ⟨w.heap.size, 13, none⟩) : Value)) ?_
      exact StepFrom.load hop (p := (.pointer (some ⟨w.heap.size, 13, none⟩) : Value)) (by kernel_rfl) (load_lev_in (cell_of_row _ _ 13 _ _ (0, 0) ((hQS.block _ l1).trans x1))) (by kernel_rfl) hQS (Below.refl _ _) rfl
    refine StepsT.cons (fun (x : Value) (_ : World) => x = (.int .i64 1500 : Value)) [] rfl rfl (fun oq hop _ wq hQS => ?_) ?_
    · exact StepFrom.move hop (v := (.int .i64 1500 : Value)) (by kernel_rfl) (by kernel_rfl) hQS (Below.refl _ _) rfl
    refine StepsT.cons (fun (x : Value) (w : World) => ∃ r : Nat, x = .int .i64 (r : Int) ∧ Cp r c23) [(21, (fun (x : Value) (_ : World) => x = (.agg #[.slice As nz cz] : Value))), (22, (fun (x : Value) (_ : World) => x = (.int .i64 1500 : Value)))] rfl rfl (fun oq hop _ wq hQS => ?_) ?_
    · refine StepFrom.more_eq ((.agg #[.slice As nz cz] : Value)) ?_
      refine StepFrom.more_eq ((.int .i64 1500 : Value)) ?_
      exact StepFrom.call hop (vs := [(.agg #[.slice As nz cz] : Value), (.int .i64 1500 : Value)]) (by kernel_rfl) (fun w => enter_levelOf9 _ w) (by kernel_rfl) ((HT4.out wq).mono fun e w9 h9 => by obtain ⟨s, q1, q2, q4, q3⟩ := h9; exact ⟨_, q1, hQS.trans (q3.mono hQS.size), q3, _, rfl, q2, q4⟩)
    refine StepsT.cons (fun (x : Value) (w : World) => ∃ r : Nat, x = .int .i64 (r : Int) ∧ Cp r (1 + c8 + c13 + c18 + c23)) [(19, (fun (x : Value) (w : World) => ∃ r : Nat, x = .int .i64 (r : Int) ∧ Cp r (1 + c8 + c13 + c18))), (23, (fun (x : Value) (w : World) => ∃ r : Nat, x = .int .i64 (r : Int) ∧ Cp r c23))] rfl rfl (fun oq hop _ wq hQS => ?_) ?_
    · refine StepFrom.more fun x19 h19 => ?_
      obtain ⟨r19, rfl, g19⟩ := h19
      refine StepFrom.more fun x23 h23 => ?_
      obtain ⟨r23, rfl, g23⟩ := h23
      exact StepFrom.bin hop (vx := (.int .i64 (r19 : Int) : Value)) (vy := (.int .i64 (r23 : Int) : Value)) (by kernel_rfl) (by kernel_rfl) (add_wrap9 _ _ _ _ _) (by kernel_rfl) hQS (Below.refl _ _) (by exact ⟨r19 + r23, by rw [cp_add (by have := g19.1; have := g23.1; omega)], by have := g19; have := g23; unfold Cp at *; omega⟩)
    refine StepsT.cons (fun (x : Value) (_ : World) => x = (.pointer (some ⟨w.heap.size, 14, none⟩) : Value)) [] rfl rfl (fun oq hop _ wq hQS => ?_) ?_
    · exact StepFrom.fieldAddr hop (p := (.pointer (some ⟨w.heap.size, 0, none⟩) : Value)) (by kernel_rfl) (dc_field6) (by kernel_rfl) hQS (Below.refl _ _) rfl
    refine StepsT.cons (fun (x : Value) (_ : World) => x = (.slice Am nm cm : Value)) [(25, (fun (x : Value) (_ : World) => x = (.pointer (some ⟨w.heap.size, 14, none⟩) : Value)))] rfl rfl (fun oq hop _ wq hQS => ?_) ?_
    · refine StepFrom.more_eq ((.pointer (some ⟨w.heap.size, 14, none⟩) : Value)) ?_
      exact StepFrom.load hop (p := (.pointer (some ⟨w.heap.size, 14, none⟩) : Value)) (by kernel_rfl) (load_mems (cell_of_row _ _ 14 _ _ (0, 0) ((hQS.block _ l1).trans x1))) (by kernel_rfl) hQS (Below.refl _ _) rfl
    refine StepsT.cons (fun (x : Value) (_ : World) => x = (.int .i64 1500 : Value)) [] rfl rfl (fun oq hop _ wq hQS => ?_) ?_
    · exact StepFrom.move hop (v := (.int .i64 1500 : Value)) (by kernel_rfl) (by kernel_rfl) hQS (Below.refl _ _) rfl
    refine StepsT.cons (fun (x : Value) (w : World) => ∃ r : Nat, x = .int .i64 (r : Int) ∧ Cp r c28) [(26, (fun (x : Value) (_ : World) => x = (.slice Am nm cm : Value))), (27, (fun (x : Value) (_ : World) => x = (.int .i64 1500 : Value)))] rfl rfl (fun oq hop _ wq hQS => ?_) ?_
    · refine StepFrom.more_eq ((.slice Am nm cm : Value)) ?_
      refine StepFrom.more_eq ((.int .i64 1500 : Value)) ?_
      exact StepFrom.call hop (vs := [(.slice Am nm cm : Value), (.int .i64 1500 : Value)]) (by kernel_rfl) (fun w => enter_membersOf9 _ w) (by kernel_rfl) ((HT5.out wq hQS).mono fun e w9 h9 => by obtain ⟨s, q1, q2, q4, q3⟩ := h9; exact ⟨_, q1, hQS.trans (q3.mono hQS.size), q3, _, rfl, q2, q4⟩)
    refine StepsT.cons (fun (x : Value) (w : World) => ∃ r : Nat, x = .int .i64 (r : Int) ∧ Cp r (1 + c8 + c13 + c18 + c23 + c28)) [(24, (fun (x : Value) (w : World) => ∃ r : Nat, x = .int .i64 (r : Int) ∧ Cp r (1 + c8 + c13 + c18 + c23))), (28, (fun (x : Value) (w : World) => ∃ r : Nat, x = .int .i64 (r : Int) ∧ Cp r c28))] rfl rfl (fun oq hop _ wq hQS => ?_) ?_
    · refine StepFrom.more fun x24 h24 => ?_
      obtain ⟨r24, rfl, g24⟩ := h24
      refine StepFrom.more fun x28 h28 => ?_
      obtain ⟨r28, rfl, g28⟩ := h28
      exact StepFrom.bin hop (vx := (.int .i64 (r24 : Int) : Value)) (vy := (.int .i64 (r28 : Int) : Value)) (by kernel_rfl) (by kernel_rfl) (add_wrap9 _ _ _ _ _) (by kernel_rfl) hQS (Below.refl _ _) (by exact ⟨r24 + r28, by rw [cp_add (by have := g24.1; have := g28.1; omega)], by have := g24; have := g28; unfold Cp at *; omega⟩)
    refine StepsT.cons (fun (x : Value) (_ : World) => x = (.pointer (some ⟨w.heap.size, 15, none⟩) : Value)) [] rfl rfl (fun oq hop _ wq hQS => ?_) ?_
    · exact StepFrom.fieldAddr hop (p := (.pointer (some ⟨w.heap.size, 0, none⟩) : Value)) (by kernel_rfl) (dc_field7) (by kernel_rfl) hQS (Below.refl _ _) rfl
    refine StepsT.cons (fun (x : Value) (_ : World) => x = (.slice Ac nc cc : Value)) [(30, (fun (x : Value) (_ : World) => x = (.pointer (some ⟨w.heap.size, 15, none⟩) : Value)))] rfl rfl (fun oq hop _ wq hQS => ?_) ?_
    · refine StepFrom.more_eq ((.pointer (some ⟨w.heap.size, 15, none⟩) : Value)) ?_
      exact StepFrom.load hop (p := (.pointer (some ⟨w.heap.size, 15, none⟩) : Value)) (by kernel_rfl) (load_ctors (cell_of_row _ _ 15 _ _ (0, 0) ((hQS.block _ l1).trans x1))) (by kernel_rfl) hQS (Below.refl _ _) rfl
    refine StepsT.cons (fun (x : Value) (_ : World) => x = (.int .i64 1500 : Value)) [] rfl rfl (fun oq hop _ wq hQS => ?_) ?_
    · exact StepFrom.move hop (v := (.int .i64 1500 : Value)) (by kernel_rfl) (by kernel_rfl) hQS (Below.refl _ _) rfl
    refine StepsT.cons (fun (x : Value) (w : World) => ∃ r : Nat, x = .int .i64 (r : Int) ∧ Cp r c33) [(31, (fun (x : Value) (_ : World) => x = (.slice Ac nc cc : Value))), (32, (fun (x : Value) (_ : World) => x = (.int .i64 1500 : Value)))] rfl rfl (fun oq hop _ wq hQS => ?_) ?_
    · refine StepFrom.more_eq ((.slice Ac nc cc : Value)) ?_
      refine StepFrom.more_eq ((.int .i64 1500 : Value)) ?_
      exact StepFrom.call hop (vs := [(.slice Ac nc cc : Value), (.int .i64 1500 : Value)]) (by kernel_rfl) (fun w => enter_ctorsOf9 _ w) (by kernel_rfl) ((HT6.out wq hQS).mono fun e w9 h9 => by obtain ⟨s, q1, q2, q4, q3⟩ := h9; exact ⟨_, q1, hQS.trans (q3.mono hQS.size), q3, _, rfl, q2, q4⟩)
    refine StepsT.cons (fun (x : Value) (w : World) => ∃ r : Nat, x = .int .i64 (r : Int) ∧ Cp r (1 + c8 + c13 + c18 + c23 + c28 + c33)) [(29, (fun (x : Value) (w : World) => ∃ r : Nat, x = .int .i64 (r : Int) ∧ Cp r (1 + c8 + c13 + c18 + c23 + c28))), (33, (fun (x : Value) (w : World) => ∃ r : Nat, x = .int .i64 (r : Int) ∧ Cp r c33))] rfl rfl (fun oq hop _ wq hQS => ?_) ?_
    · refine StepFrom.more fun x29 h29 => ?_
      obtain ⟨r29, rfl, g29⟩ := h29
      refine StepFrom.more fun x33 h33 => ?_
      obtain ⟨r33, rfl, g33⟩ := h33
      exact StepFrom.bin hop (vx := (.int .i64 (r29 : Int) : Value)) (vy := (.int .i64 (r33 : Int) : Value)) (by kernel_rfl) (by kernel_rfl) (add_wrap9 _ _ _ _ _) (by kernel_rfl) hQS (Below.refl _ _) (by exact ⟨r29 + r33, by rw [cp_add (by have := g29.1; have := g33.1; omega)], by have := g29; have := g33; unfold Cp at *; omega⟩)
    refine StepsT.cons (fun (x : Value) (w : World) => ∃ r : Nat, x = .int .i64 (r : Int) ∧ Cp r (1 + c8 + c13 + c18 + c23 + c28 + c33)) [(34, (fun (x : Value) (w : World) => ∃ r : Nat, x = .int .i64 (r : Int) ∧ Cp r (1 + c8 + c13 + c18 + c23 + c28 + c33)))] rfl rfl (fun oq hop _ wq hQS => ?_) ?_
    · refine StepFrom.more fun x34 h34 => ?_
      obtain ⟨r34, rfl, g34⟩ := h34
      exact StepFrom.assign hop (v := (.int .i64 (r34 : Int) : Value)) (by kernel_rfl) (by kernel_rfl) hQS (Below.refl _ _) ⟨_, rfl, g34⟩
    exact StepsT.nil
  case hfin =>
    intro wf hFS
    refine FinalFrom.more fun x5 h5 => ?_
    refine FinalFrom.more fun x6 h6 => ?_
    refine FinalFrom.more fun x7 h7 => ?_
    refine FinalFrom.more fun x8 h8 => ?_
    refine FinalFrom.more fun x9 h9 => ?_
    refine FinalFrom.more fun x10 h10 => ?_
    refine FinalFrom.more fun x11 h11 => ?_
    refine FinalFrom.more fun x12 h12 => ?_
    refine FinalFrom.more fun x13 h13 => ?_
    refine FinalFrom.more fun x14 h14 => ?_
    refine FinalFrom.more fun x15 h15 => ?_
    refine FinalFrom.more fun x16 h16 => ?_
    refine FinalFrom.more fun x17 h17 => ?_
    refine FinalFrom.more fun x18 h18 => ?_
    refine FinalFrom.more fun x19 h19 => ?_
    refine FinalFrom.more fun x20 h20 => ?_
    refine FinalFrom.more fun x21 h21 => ?_
    refine FinalFrom.more fun x22 h22 => ?_
    refine FinalFrom.more fun x23 h23 => ?_
    refine FinalFrom.more fun x24 h24 => ?_
    refine FinalFrom.more fun x25 h25 => ?_
    refine FinalFrom.more fun x26 h26 => ?_
    refine FinalFrom.more fun x27 h27 => ?_
    refine FinalFrom.more fun x28 h28 => ?_
    refine FinalFrom.more fun x29 h29 => ?_
    refine FinalFrom.more fun x30 h30 => ?_
    refine FinalFrom.more fun x31 h31 => ?_
    refine FinalFrom.more fun x32 h32 => ?_
    refine FinalFrom.more fun x33 h33 => ?_
    refine FinalFrom.more fun x34 h34 => ?_
    refine FinalFrom.more fun x4 h4 => ?_
    refine FinalFrom.done ?_
    obtain ⟨r, rfl, g4⟩ := h4
    have HF : Hid (CountPost w d.cn 1500 (.returned (.int .i64 (r : Int))) wf) := ⟨_, rfl, by rw [HCN.out]; exact g4.1, by rw [HCN.out]; exact g4.2, HB1.out.trans (hFS.mono HB1.out.size)⟩
    clear hS hFS
    simp only [Act.put, List.setIfInBounds_toArray, List.set_cons_zero, List.set_cons_succ]
    go_wp2
    go_ret
    exact HF.out
set_option maxRecDepth 100000 in
set_option maxHeartbeats 2000000 in
theorem declsOf_cnt (ds : List Dc) (A : Option Addr) (c n : Nat) (w : World) (hn : ds.length = n) (hn9 : n ≤ 1048576) (hs : ∀ m ∈ ds, m.ok9) (h : Dcs w w.heap.size A c ds) :
    Calls Tryd.prog 18 #[.slice A n c, .int .i64 1500] w (CountPost w (sumF (Dc.cn) ds) 1500) := by
  have HN := Lib.hid hn
  have HL := Lib.hid h
  have HS := Lib.hid hs
  clear hn h hs
  go_enter Tryd.func18, Tryd.ntmps18
  go_wp2
  go_loopw [5, 6] (fun u i wr => ∃ (k r : Nat), k ≤ n ∧ i = .int .i64 (k : Int) ∧ u = .int .i64 (r : Int) ∧ Below w.heap.size w wr ∧ Cp r (sumF (Dc.cn) (ds.take k))) (fun _ i _ => n - (intOf i).toNat)
  case atStart => exact ⟨0, 0, Nat.zero_le _, rfl, rfl, Below.refl _ _, by simp [sumF, Cp]⟩
  case round =>
    obtain ⟨k, r, hk, rfl, rfl, hb, hcp⟩ := hrel
    have HCP := Lib.hid hcp
    clear hcp
    have hbz := hb.size
    have HB := Lib.hid hb
    by_cases hlt : k < n
    · by_cases hu : r ≤ 1500
      · obtain ⟨d, hd⟩ : ∃ d, ds[k]? = some d := ⟨_, List.getElem?_eq_getElem (by rw [HN.out]; exact hlt)⟩
        obtain ⟨b, o, cs, rfl, hbB, hdc, _, hld⟩ := HL.out.get hd
        have hld1 := hld wr hb
        have hst := sumF_take (f := Dc.cn) ds k d hd
        have hcb : d.cn ≤ 8388608 := Dc.ok_cn (HS.out d (List.mem_of_getElem? hd))
        have HC := Lib.hid (declOf_cnt d cs wr (hdc.below hb hbz) (HS.out d (List.mem_of_getElem? hd)))
        clear hdc hld hd
        have ij0 : (0 : Int) ≤ (k : Int) := by omega
        have ij1 : (k : Int) < (n : Int) := by omega
        clear hb
        go_wp2_with (first | (refine wpList_load_at rfl 43 (.tmp 21) rfl (.pointer (some ⟨b, o + k * 16, none⟩)) _ rfl hld1 ?_) | fail)
        refine HC.out.mono ?_
        rintro e w1 ⟨s, rfl, g1, g2, hb1⟩
        have HB1 : Hid (Below w.heap.size w w1) := HB.out.trans (hb1.mono hbz)
        have hcp := HCP.out
        have HN2 : Hid (Cp (r + s) (sumF (Dc.cn) (ds.take (k + 1)))) := by show Cp _ _; rw [hst]; unfold Cp at *; have g3 := g2; omega
        clear hb1 g2 hcp
        go_wp2
        go_roundw
        case rel => exact ⟨k + 1, r + s, by omega, by go_num, by go_num, HB1.out, HN2.out⟩
        case measure => simp [intOf]; omega
      · have hu2 : decide ((r : Int) ≤ 1500) = false := by rw [decide_eq_false_iff_not]; omega
        have hu9 : Hid (1500 < r) := by show _ < _; omega
        clear hb hu
        go_wp2
        go_ret
        have hcp := HCP.out
        have hle := sumF_take_le (f := Dc.cn) ds k
        exact ⟨r, rfl, by unfold Cp at hcp; omega, fun h => by have := hu9.out; omega, HB.out⟩
    · obtain rfl : n = k := by omega
      have hcp := HCP.out
      rw [List.take_of_length_le (Nat.le_of_eq HN.out)] at hcp
      have HCQ := Lib.hid hcp
      clear hb hcp
      go_wp2
      go_ret
      exact ⟨r, rfl, HCQ.out.1, HCQ.out.2, HB.out⟩
end Go.Proofs.YtfgnnbpbbnnnhaaDoor
namespace Go.Proofs.YtfgnnbpbbnnnhaaDoor
open Go.RowKit Go.Maps
theorem cnt_nil0 (w : World) (B : Nat) : Tms w B none 0 [] := ⟨fun _ => rfl, fun h => by simp at h⟩
theorem lvs_nil0 (w : World) (B : Nat) : Levs w B none [] := fun h => by simp at h
def zT9 : Tm := .mk 0 0 0 [] []
def sT9 : Tm := .mk 11 0 0 [] []
def piT9 : Tm := .mk 4 0 0 [] [sT9, sT9]
def natD : Dc := ⟨3, 0, zT9, zT9, [], [], [[]], [(0, sT9), (0, piT9)]⟩
def zD : Dc := ⟨0, 0, zT9, zT9, [], [], [], []⟩
theorem zT9_at (w : World) (B : Nat) : TmAt w B zT9 (.agg #[.int .i64 0, .int .i64 0, .int .i64 0, .slice none 0 0, .slice none 0 0]) := TmAt.make (lv := []) (kids := []) (fun _ => rfl) (lvs_nil0 _ _) (cnt_nil0 _ _)
def selfV : Value := .agg #[.int .i64 11, .int .i64 0, .int .i64 0, .slice none 0 0, .slice none 0 0]
theorem sT9_at (w : World) (B : Nat) : TmAt w B sT9 selfV := TmAt.make (lv := []) (kids := []) (fun _ => rfl) (lvs_nil0 _ _) (cnt_nil0 _ _)
set_option maxRecDepth 100000 in
theorem self11_any (n : Int) (w : World) : Calls Tryd.prog 62 #[.int .i64 n] w (fun e w' => e = .returned (.agg #[.int .i64 11, .int .i64 0, .int .i64 n, .slice none 0 0, .slice none 0 0]) ∧ Below w.heap.size w w') := by
  have HF : Hid (Below w.heap.size w (w.alloc (.cells #[.int .i64 11, .int .i64 0, .int .i64 n, .slice none 0 0, .slice none 0 0] 27))) := (Below.refl _ _).alloc (Nat.le_refl _) _
  go_enter Tryd.func62, Tryd.ntmps62
  go_wp2
  exact bodyPost_ret (v := .agg #[.int .i64 11, .int .i64 0, .int .i64 n, .slice none 0 0, .slice none 0 0]) (by simp [results, Tryd.results62, go_sem]) rfl ⟨rfl, HF.out⟩
def natV (a b : Nat) : Array Value := #[.int .i64 3, .int .i64 0, .int .i64 0, .int .i64 0, .int .i64 0, .slice none 0 0, .slice none 0 0, .int .i64 0, .int .i64 0, .int .i64 0, .slice none 0 0, .slice none 0 0, .slice none 0 0, .slice none 0 0, .slice (some ⟨a, 0, none⟩) 1 1, .slice (some ⟨b, 0, none⟩) 2 2]
theorem natV_all (a b : Nat) : (natV a b).all (·.oneCell') = true := by simp [natV, Value.oneCell']
def selfC : Array Value := #[.int .i64 11, .int .i64 0, .int .i64 0, .slice none 0 0, .slice none 0 0, .int .i64 11, .int .i64 0, .int .i64 0, .slice none 0 0, .slice none 0 0]
def ctorC (k : Nat) : Array Value := #[.int .i64 0, .int .i64 11, .int .i64 0, .int .i64 0, .slice none 0 0, .slice none 0 0, .int .i64 0, .int .i64 4, .int .i64 0, .int .i64 0, .slice none 0 0, .slice (some ⟨k, 0, none⟩) 2 2]
theorem nat_at {w : World} {a b k : Nat} (ha : w.heap[a]? = some (.cells #[.slice none 0 0] 47 (0, 0))) (hb : w.heap[b]? = some (.cells (ctorC k) 50 (0, 0))) (hk : w.heap[k]? = some (.cells selfC 27 (0, 0))) : DcAt w w.heap.size natD (natV a b) := by
  have q : ∀ j, w.cell? ⟨b, j, none⟩ = (ctorC k)[j]? := fun j => cell_of_row _ _ j _ _ (0, 0) hb
  have p : ∀ j, w.cell? ⟨k, j, none⟩ = selfC[j]? := fun j => cell_of_row _ _ j _ _ (0, 0) hk
  have hkids : Tms w w.heap.size (some ⟨k, 0, none⟩) 2 [sT9, sT9] := ⟨fun h => (by cases h), fun _ => ⟨k, 0, rfl, heap_some_lt hk, TmsAt.of fun i t hi => by
    match i, hi with
    | 0, hi => injection hi with hi; subst hi; exact ⟨selfV, ⟨_, _, _, _, _, rfl, p 0, p 1, p 2, p 3, p 4⟩, sT9_at _ _⟩
    | 1, hi => injection hi with hi; subst hi; exact ⟨selfV, ⟨_, _, _, _, _, rfl, p 5, p 6, p 7, p 8, p 9⟩, sT9_at _ _⟩⟩⟩
  refine ⟨_, _, _, _, _, _, _, _, _, _, none, none, some ⟨a, 0, none⟩, some ⟨b, 0, none⟩, 0, 0, 1, 2, rfl, zT9_at _ _, zT9_at _ _, cnt_nil0 _ _, fun _ => rfl, fun h => by simp [natD] at h, ?_, ?_⟩
  · refine ⟨fun h => (by cases h), fun _ => ⟨a, 0, rfl, heap_some_lt ha, fun i m hi => ?_⟩⟩
    match i, hi with
    | 0, hi => injection hi with hi; subst hi; exact ⟨none, 0, cell_of_row _ _ 0 _ _ (0, 0) ha, cnt_nil0 _ _⟩
  · refine ⟨fun h => (by cases h), fun _ => ⟨b, 0, rfl, heap_some_lt hb, fun i x hi => ?_⟩⟩
    match i, hi with
    | 0, hi => injection hi with hi; subst hi; exact ⟨selfV, q 0, ⟨_, _, _, _, _, rfl, q 1, q 2, q 3, q 4, q 5⟩, sT9_at _ _⟩
    | 1, hi => injection hi with hi; subst hi; exact ⟨.agg #[.int .i64 4, .int .i64 0, .int .i64 0, .slice none 0 0, .slice (some ⟨k, 0, none⟩) 2 2], q 6, ⟨_, _, _, _, _, rfl, q 7, q 8, q 9, q 10, q 11⟩, TmAt.make (lv := []) (kids := [sT9, sT9]) (fun _ => rfl) (lvs_nil0 _ _) hkids⟩
set_option maxRecDepth 100000 in
set_option maxHeartbeats 4000000 in
theorem nat11_any (w : World) : Calls Tryd.prog 30 #[] w (fun e w' => ∃ a b, e = .returned (.agg (natV a b)) ∧ DcAt w' w'.heap.size natD (natV a b) ∧ Below w.heap.size w w') := by
  obtain ⟨w1, hw1⟩ : ∃ x, (w.alloc (.cells zeroDc 43)).alloc (.cells #[.slice none 0 0] 47) = x := ⟨_, rfl⟩
  have hb1 : Below w.heap.size w w1 := by rw [← hw1]; exact stwo w _ _
  obtain ⟨z1, z2, _⟩ := two_allocs w (.cells zeroDc 43) (.cells #[.slice none 0 0] 47)
  rw [hw1] at z1 z2
  have X0 := Lib.hid z1
  have X1 := Lib.hid z2
  have HB1 := Lib.hid hb1
  unfold zeroDc at hw1
  clear hb1 z1 z2
  go_enter Tryd.func30, Tryd.ntmps30
  go_wp2_with (fail)
  refine (self11_any 0 w1).mono ?_
  rintro e w2 ⟨rfl, hb2⟩
  have X0 := Lib.hid ((hb2.block _ (heap_some_lt X0.out)).trans X0.out)
  have X1 := Lib.hid ((hb2.block _ (heap_some_lt X1.out)).trans X1.out)
  have HB2 := Lib.hid (HB1.out.trans (hb2.mono HB1.out.size))
  clear hb2
  go_wp2_with (fail)
  refine (self11_any 0 w2).mono ?_
  rintro e w3 ⟨rfl, hb3⟩
  have X0 := Lib.hid ((hb3.block _ (heap_some_lt X0.out)).trans X0.out)
  have X1 := Lib.hid ((hb3.block _ (heap_some_lt X1.out)).trans X1.out)
  have HB3 := Lib.hid (HB2.out.trans (hb3.mono HB2.out.size))
  clear hb3
  go_wp2_with (fail)
  refine (self11_any 0 w3).mono ?_
  rintro e w4 ⟨rfl, hb4⟩
  have X0 := Lib.hid ((hb4.block _ (heap_some_lt X0.out)).trans X0.out)
  have X1 := Lib.hid ((hb4.block _ (heap_some_lt X1.out)).trans X1.out)
  have HB4 := Lib.hid (HB3.out.trans (hb4.mono HB3.out.size))
  clear hb4
  obtain ⟨w5, hw5⟩ : ∃ x, w4.alloc (.cells selfC 27) = x := ⟨_, rfl⟩
  obtain ⟨w6, hw6⟩ : ∃ x, w5.alloc (.cells (ctorC w4.heap.size) 50) = x := ⟨_, rfl⟩
  have hb5 : Below w4.heap.size w4 w5 := by rw [← hw5]; exact (Below.refl _ _).alloc (Nat.le_refl _) _
  have hb6 : Below w5.heap.size w5 w6 := by rw [← hw6]; exact (Below.refl _ _).alloc (Nat.le_refl _) _
  have hs5 : w5.heap.size = w4.heap.size + 1 := by rw [← hw5]; simp
  have x5 : w5.heap[w4.heap.size]? = some (.cells selfC 27 (0, 0)) := by rw [← hw5]; exact heap_alloc_new w4 _
  have x6 : w6.heap[w5.heap.size]? = some (.cells (ctorC w4.heap.size) 50 (0, 0)) := by rw [← hw6]; exact heap_alloc_new w5 _
  have y5 := (hb6.block _ (heap_some_lt x5)).trans x5
  have y0 := (hb6.block _ (by have := heap_some_lt X0.out; omega)).trans ((hb5.block _ (heap_some_lt X0.out)).trans X0.out)
  have y1 := (hb6.block _ (by have := heap_some_lt X1.out; omega)).trans ((hb5.block _ (heap_some_lt X1.out)).trans X1.out)
  have HB6 : Hid (Below w.heap.size w w6) := (HB4.out.trans (hb5.mono HB4.out.size)).trans (hb6.mono (by have := HB4.out.size; omega))
  have h4 := HB4.out.size
  have g0 : w.heap.size ≠ w4.heap.size := by have := heap_some_lt X0.out; omega
  have g1 : w.heap.size ≠ w5.heap.size := by have := heap_some_lt X0.out; omega
  have g2 : w.heap.size + 1 ≠ w.heap.size := by omega
  have Z0 := Lib.hid (setRow_heap w6 w.heap.size _ (natV (w.heap.size + 1) w5.heap.size) _ _ y0)
  have Z1 : Hid ((w6.setRow w.heap.size (natV (w.heap.size + 1) w5.heap.size)).heap[w.heap.size + 1]? = some (.cells #[.slice none 0 0] 47 (0, 0))) := (setRow_other _ _ _ _ (by omega)).trans y1
  have Z5 : Hid ((w6.setRow w.heap.size (natV (w.heap.size + 1) w5.heap.size)).heap[w4.heap.size]? = some (.cells selfC 27 (0, 0))) := (setRow_other _ _ _ _ (by omega)).trans y5
  have Z6 : Hid ((w6.setRow w.heap.size (natV (w.heap.size + 1) w5.heap.size)).heap[w5.heap.size]? = some (.cells (ctorC w4.heap.size) 50 (0, 0))) := (setRow_other _ _ _ _ (by omega)).trans x6
  have HF : Hid (Below w.heap.size w (w6.setRow w.heap.size (natV (w.heap.size + 1) w5.heap.size))) := below_setRow HB6.out (Nat.le_refl _) _
  unfold selfC at hw5
  unfold ctorC at hw6
  clear hb5 hb6 x5 x6 y5 y1 hs5 h4 g0 g1 g2
  go_wp2_with (first | (refine wpList_store_row rfl 43 (.tmp 0) (.tmp 11) rfl w.heap.size (natV (w.heap.size + 1) w5.heap.size) rfl rfl 43 zeroDc y0 infoDc rfl (natV_all _ _) ?_) | fail)
  exact bodyPost_ret (v := .agg (natV (w.heap.size + 1) w5.heap.size)) (results_cell_row rfl _ _ w.heap.size 43 (natV (w.heap.size + 1) w5.heap.size) (0, 0) _ rfl Z0.out Tryd.underlying43 rfl infoDc) rfl ⟨_, _, rfl, nat_at Z1.out Z6.out Z5.out, HF.out⟩
end Go.Proofs.YtfgnnbpbbnnnhaaDoor
