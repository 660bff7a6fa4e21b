/- Laws. -/
import Derived.Test.YtafgmndlbbjphaaGreatDoorPuis
import Derived.Test.YtafgmndlbbjphaaGreatDoorPuah
import Derived.Test.YtafgmndlbbjphaaGreatDoorPuam
set_option maxRecDepth 100000
namespace Go.Proofs.YtafgmndlbbjphaaGreatDoor
open Go.RowKit Go.Maps
theorem bool_is (P : Prop) : ∃ r : Bool, r = true ↔ P := by
 by_cases h : P
 ·exact ⟨true, by simpa using h⟩
 ·exact ⟨false, by simpa using h⟩
theorem enter_sameLv (vs : Array Value) (w : World) : (callFunc 42 vs).run Tryz.prog w = .ok (.enter 42 vs) w := by go_simp
theorem enter_sameTm (vs : Array Value) (w : World) : (callFunc 38 vs).run Tryz.prog w = .ok (.enter 38 vs) w := by go_simp
theorem term_addr {b o n c k : Nat} {w : World} (h0 : (0 : Int) ≤ (k : Int)) (h1 : (k : Int) < (n : Int)) : (Instr.indexAt 24 (.slice (some ⟨b, o, none⟩) n c) (.int .i64 (k : Int))).run Tryz.prog w = .ok (.pointer (some ⟨b, o + k * 5, none⟩)) w := by go_simp
theorem load_term {b o : Nat} {w : World} {k n a : Int} {Al Ak : Option Addr} {nl cl nk ck : Nat} (h0 : w.cell? ⟨b, o, none⟩ = some (.int .i64 k)) (h1 : w.cell? ⟨b, o + 1, none⟩ = some (.int .i64 n)) (h2 : w.cell? ⟨b, o + 2, none⟩ = some (.int .i64 a)) (h3 : w.cell? ⟨b, o + 3, none⟩ = some (.slice Al nl cl)) (h4 : w.cell? ⟨b, o + 4, none⟩ = some (.slice Ak nk ck)) :
  (Instr.loadAt 26 (.pointer (some ⟨b, o, none⟩))).run Tryz.prog w = .ok (.agg #[.int .i64 k, .int .i64 n, .int .i64 a, .slice Al nl cl, .slice Ak nk ck]) w := by go_simp
theorem same_end {α : Type} {l m : List α} (hl : l.length = m.length) (h : ∀ j, j < l.length → l[j]? = m[j]?) : l = m := List.ext_getElem? fun j => by
 by_cases hj : j < l.length
 ·exact h j hj
 ·rw [List.getElem?_eq_none (by omega), List.getElem?_eq_none (by omega)]
set_option maxHeartbeats 4000000 in
theorem sameLevels_any (A A' : Option Addr) (ls ms : List (List (Int × Int))) (c c' n n' : Nat) (w : World) (hn : ls.length = n) (hn' : ms.length = n') (hs : SlimL ls) (hs' : SlimL ms) (h : Levs w w.heap.size A ls) (h' : Levs w w.heap.size A' ms) (r : Bool) (hr : r = true ↔ ls = ms) :
  Calls Tryz.prog 52 #[.slice A n c, .slice A' n' c'] w (HasPost w r) := by
 have hn9 : n ≤ 1048576 := by have := hs.1; omega
 have hn8 : n' ≤ 1048576 := by have := hs'.1; omega
 have HR := Lib.hid hr
 have HN := Lib.hid hn
 have HN' := Lib.hid hn'
 have HS := Lib.hid hs
 have HS' := Lib.hid hs'
 have HL := Lib.hid h
 have HL' := Lib.hid h'
 clear hr hn hn' hs hs' h h'
 by_cases hl : n = n'
 ·subst hl
  have lf : ((n : Int) != (n : Int)) = false := by simp
  go_enter Tryz.func52, Tryz.ntmps52
  go_wp2
  go_loopw [5] (fun i wr => ∃ k : Nat, k ≤ n ∧ i = .int .i64 (k : Int) ∧ Below w.heap.size w wr ∧ ∀ j, j < k → ls[j]? = ms[j]?) (fun i _ => n - (intOf i).toNat)
  case atStart => exact ⟨0, Nat.zero_le _, rfl, Below.refl _ _, fun j hj => absurd hj (by omega)⟩
  case round =>
   obtain ⟨k, hk, rfl, hb, hso⟩ := hrel
   have hbz := hb.size
   by_cases hlt : k < n
   ·obtain ⟨b, o, e, hbB, hcell⟩ := HL.out (by rw [HN.out]; omega)
    obtain ⟨b', o', e', hbB', hcell'⟩ := HL'.out (by rw [HN'.out]; omega)
    subst e e'
    obtain ⟨Ai, ci, q0, q1, _, _⟩ := hcell k (by rw [HN.out]; exact hlt)
    obtain ⟨Bi, di, p0, p1, _, _⟩ := hcell' k (by rw [HN'.out]; exact hlt)
    have m1 := HS.out.2 (ls.getD k []) (by rw [List.getD_eq_getElem?_getD, List.getElem?_eq_getElem (by rw [HN.out]; exact hlt)]; exact List.getElem_mem _)
    have m2 := HS'.out.2 (ms.getD k []) (by rw [List.getD_eq_getElem?_getD, List.getElem?_eq_getElem (by rw [HN'.out]; exact hlt)]; exact List.getElem_mem _)
    obtain ⟨l, hl⟩ : ∃ l, ls.getD k [] = l := ⟨_, rfl⟩
    obtain ⟨m, hm⟩ : ∃ l, ms.getD k [] = l := ⟨_, rfl⟩
    have el : ls[k]? = some l := by rw [← hl, List.getD_eq_getElem?_getD, List.getElem?_eq_getElem (by rw [HN.out]; exact hlt)]; rfl
    have em : ms[k]? = some m := by rw [← hm, List.getD_eq_getElem?_getD, List.getElem?_eq_getElem (by rw [HN'.out]; exact hlt)]; rfl
    rw [hl] at q0 q1 m1
    rw [hm] at p0 p1 m2
    obtain ⟨rk, hrk⟩ := bool_is (l = m)
    have c0 := (hb.cell (p := ⟨b, o + k, none⟩) hbB).trans q0
    have d0 := (hb.cell (p := ⟨b', o' + k, none⟩) hbB').trans p0
    have HC : Hid (∀ w', Below wr.heap.size wr w' → Calls Tryz.prog 42 #[.agg #[.slice Ai l.length ci], .agg #[.slice Bi m.length di]] w' (HasPost w' rk)) := fun w' hx => by
     have hx2 : Below w.heap.size w w' := hb.trans (hx.mono hbz)
     exact sameLevel_any Ai Bi l m ci di w' (by unfold maxLen; omega) (by unfold maxLen; omega) ((q1.below hx2).more hx2.size) ((p1.below hx2).more hx2.size) rk hrk
    obtain ⟨nl, hnl⟩ : ∃ j, l.length = j := ⟨_, rfl⟩
    obtain ⟨nm, hnm⟩ : ∃ j, m.length = j := ⟨_, rfl⟩
    rw [hnl] at c0 HC
    rw [hnm] at d0 HC
    have HB := Lib.hid hb
    have HSO := Lib.hid hso
    have HRK := Lib.hid hrk
    have EL := Lib.hid el
    have EM := Lib.hid em
    have ij0 : (0 : Int) ≤ (k : Int) := by omega
    have ij1 : (k : Int) < (n : Int) := by omega
    have hbr : b < wr.heap.size := by omega
    have hbr' : b' < wr.heap.size := by omega
    clear hb hso hrk el em q0 q1 p0 p1 hcell hcell' hl hm hnl hnm m1 m2
    have hS : Below wr.heap.size wr wr.drew := (Below.refl _ _).drew
    go_upto_region 6 with (fail)
    refine wp_region_tab (fun w' => Below wr.heap.size wr w') BR [(Is (.slice (some ⟨b, o, none⟩) n c)), (Is (.int .i64 (k : Int))), (Is (.pointer (some ⟨b, o + k, none⟩))), (Is (.agg #[.slice Ai nl ci])), (Is (.slice (some ⟨b', o', none⟩) n c')), (Is (.int .i64 (k : Int))), (Is (.pointer (some ⟨b', o' + k, none⟩))), (Is (.agg #[.slice Bi nm di])), (Is (.bool rk)), (Is (.bool (!rk)))] [⟨some 17, .move (.tmp 0), none, []⟩, ⟨some 18, .move (.tmp 5), none, []⟩, ⟨some 19, .indexAddr 23 (.tmp 17) (.tmp 18), none, [(17, 0), (18, 1)]⟩, ⟨some 20, .load 47 (.tmp 19), none, [(19, 2)]⟩, ⟨some 21, .move (.tmp 1), none, []⟩, ⟨some 22, .move (.tmp 5), none, []⟩, ⟨some 23, .indexAddr 23 (.tmp 21) (.tmp 22), none, [(21, 4), (22, 5)]⟩, ⟨some 24, .load 47 (.tmp 23), none, [(23, 6)]⟩, ⟨some 25, .call { callee := .value (.func 42), args := #[.tmp 20, .tmp 24], argTypes := #[47, 47] }, none, [(20, 3), (24, 7)]⟩, ⟨some 26, .unOp .not 4 (.tmp 25), none, [(25, 8)]⟩] [some 17, some 18, some 19, some 20, some 21, some 22, some 23, some 24, some 25, some 26] (by kernel_rfl) (by kernel_rfl) (by kernel_rfl) (by kernel_rfl) (by kernel_rfl) ?hS ?hmono ?hsteps ?hfin
    case hS => exact hS
    case hmono =>
     iterate 10 refine .cons (fun x w1 w2 _ _ _ hx => hx) ?_
     exact .nil
    case hsteps =>
     refine .cons (Is (.slice (some ⟨b, o, none⟩) n c)) [] rfl rfl (fun oq hop _ wq hQS => ?_) ?_
     ·exact .move hop (v := (.slice (some ⟨b, o, none⟩) n c)) (by kernel_rfl) (by kernel_rfl) hQS (.refl _ _) rfl
     refine .cons (Is (.int .i64 (k : Int))) [] rfl rfl (fun oq hop _ wq hQS => ?_) ?_
     ·exact .move hop (v := (.int .i64 (k : Int))) (by kernel_rfl) (by kernel_rfl) hQS (.refl _ _) rfl
     refine .cons (Is (.pointer (some ⟨b, o + k, none⟩))) _ rfl rfl (fun oq hop _ wq hQS => ?_) ?_
     ·refine .more_eq (.slice (some ⟨b, o, none⟩) n c) (.more_eq (.int .i64 (k : Int)) ?_)
      exact .indexAddr hop (p := (.slice (some ⟨b, o, none⟩) n c)) (q := (.int .i64 (k : Int))) (by kernel_rfl) (by kernel_rfl) (lev_addr_o ij0 ij1) (by kernel_rfl) hQS (.refl _ _) rfl
     refine .cons (Is (.agg #[.slice Ai nl ci])) _ rfl rfl (fun oq hop _ wq hQS => ?_) ?_
     ·refine .more_eq (.pointer (some ⟨b, o + k, none⟩)) ?_
      exact .load hop (p := (.pointer (some ⟨b, o + k, none⟩))) (by kernel_rfl) (load_lev_at ((hQS.cell (p := ⟨b, o + k, none⟩) hbr).trans c0)) (by kernel_rfl) hQS (.refl _ _) rfl
     refine .cons (Is (.slice (some ⟨b', o', none⟩) n c')) [] rfl rfl (fun oq hop _ wq hQS => ?_) ?_
     ·exact .move hop (v := (.slice (some ⟨b', o', none⟩) n c')) (by kernel_rfl) (by kernel_rfl) hQS (.refl _ _) rfl
     refine .cons (Is (.int .i64 (k : Int))) [] rfl rfl (fun oq hop _ wq hQS => ?_) ?_
     ·exact .move hop (v := (.int .i64 (k : Int))) (by kernel_rfl) (by kernel_rfl) hQS (.refl _ _) rfl
     refine .cons (Is (.pointer (some ⟨b', o' + k, none⟩))) _ rfl rfl (fun oq hop _ wq hQS => ?_) ?_
     ·refine .more_eq (.slice (some ⟨b', o', none⟩) n c') (.more_eq (.int .i64 (k : Int)) ?_)
      exact .indexAddr hop (p := (.slice (some ⟨b', o', none⟩) n c')) (q := (.int .i64 (k : Int))) (by kernel_rfl) (by kernel_rfl) (lev_addr_o ij0 ij1) (by kernel_rfl) hQS (.refl _ _) rfl
     refine .cons (Is (.agg #[.slice Bi nm di])) _ rfl rfl (fun oq hop _ wq hQS => ?_) ?_
     ·refine .more_eq (.pointer (some ⟨b', o' + k, none⟩)) ?_
      exact .load hop (p := (.pointer (some ⟨b', o' + k, none⟩))) (by kernel_rfl) (load_lev_at ((hQS.cell (p := ⟨b', o' + k, none⟩) hbr').trans d0)) (by kernel_rfl) hQS (.refl _ _) rfl
     refine .cons (Is (.bool rk)) _ rfl rfl (fun oq hop _ wq hQS => ?_) ?_
     ·refine .more_eq (.agg #[.slice Ai nl ci]) (.more_eq (.agg #[.slice Bi nm di]) ?_)
      exact .call hop (vs := [(.agg #[.slice Ai nl ci]), (.agg #[.slice Bi nm di])]) (by kernel_rfl) (fun w => enter_sameLv _ w) (by kernel_rfl) ((HC.out wq hQS).mono fun e w9 h9 => ⟨_, h9.1, hQS.trans (h9.2.mono hQS.size), h9.2, rfl⟩)
     refine .cons (Is (.bool (!rk))) _ rfl rfl (fun oq hop _ wq hQS => ?_) ?_
     ·refine .more_eq (.bool rk) ?_
      exact .not hop (b := rk) (by kernel_rfl) (by kernel_rfl) hQS (.refl _ _) rfl
     exact .nil
    case hfin =>
     intro wf hFS
     iterate 9 refine .more fun _ _ => ?_
     refine .more fun x26 h26 => ?_
     refine .done ?_
     obtain rfl : x26 = (.bool (!rk)) := h26
     have HB2 : Hid (Below w.heap.size w wf) := HB.out.trans (hFS.mono hbz)
     clear hS hFS c0 d0
     simp only [Act.put, List.setIfInBounds_toArray, List.set_cons_zero, List.set_cons_succ]
     cases rk with
     | true =>
      have HSO2 : Hid (∀ j, j < k + 1 → ls[j]? = ms[j]?) := fun j hj => by
       rcases Nat.lt_succ_iff_lt_or_eq.1 hj with hj | rfl
       ·exact HSO.out j hj
       ·rw [EL.out, EM.out, HRK.out.1 rfl]
      go_wp2
      go_roundw
      case rel => exact ⟨k + 1, by omega, by go_num, HB2.out, HSO2.out⟩
      case measure => simp [intOf]; omega
     | false =>
      have HF : Hid (r = false) := by
       cases r with
       | false => rfl
       | true =>
        have e := HR.out.1 rfl
        have h1 := EL.out
        rw [e, EM.out] at h1
        injection h1 with h1
        have := HRK.out.2 h1.symm
        cases this
      go_wp2
      go_ret
      exact ⟨by rw [HF.out]; rfl, HB2.out⟩
   ·have HF : Hid (r = true) := HR.out.2 (same_end (by rw [HN.out, HN'.out]) fun j hj => hso j (by rw [HN.out] at hj; omega))
    have HB := Lib.hid hb
    clear hb hso
    go_wp2
    go_ret
    exact ⟨by rw [HF.out]; rfl, HB.out⟩
 ·have lf : ((n : Int) != (n' : Int)) = true := by simp; omega
  have HF : Hid (r = false) := by
   cases r with
   | false => rfl
   | true =>
    have e := HR.out.1 rfl
    have h1 := HN.out
    rw [e, HN'.out] at h1
    exact absurd h1.symm hl
  go_enter Tryz.func52, Tryz.ntmps52
  go_wp2
  go_ret
  exact ⟨by rw [HF.out]; rfl, Below.refl _ _⟩
def SameTm (t : Tm) : Prop := t.fit → ∀ (u : Tm) (va vb : Value) (w : World) (r : Bool), u.fit → TmAt w w.heap.size t va → TmAt w w.heap.size u vb → (r = true ↔ t = u) → Calls Tryz.prog 38 #[va, vb] w (HasPost w r)
set_option maxHeartbeats 4000000 in
theorem sameTerms_of (ls ms : List Tm) (ih : ∀ t ∈ ls, SameTm t) (A A' : Option Addr) (c c' n n' : Nat) (w : World) (hn : ls.length = n) (hn' : ms.length = n') (hs : ls.length ≤ 1048576 ∧ Tm.fitL ls) (hs' : ms.length ≤ 1048576 ∧ Tm.fitL ms) (h : Tms w w.heap.size A c ls) (h' : Tms w w.heap.size A' c' ms) (r : Bool) (hr : r = true ↔ ls = ms) :
  Calls Tryz.prog 53 #[.slice A n c, .slice A' n' c'] w (HasPost w r) := by
 have hn9 : n ≤ 1048576 := by have := hs.1; omega
 have hn8 : n' ≤ 1048576 := by have := hs'.1; omega
 have HR := Lib.hid hr
 have HN := Lib.hid hn
 have HN' := Lib.hid hn'
 have HS := Lib.hid hs
 have HS' := Lib.hid hs'
 have HL := Lib.hid h
 have HL' := Lib.hid h'
 have IH := Lib.hid ih
 clear hr hn hn' hs hs' h h' ih
 by_cases hl : n = n'
 ·subst hl
  have lf : ((n : Int) != (n : Int)) = false := by simp
  go_enter Tryz.func53, Tryz.ntmps53
  go_wp2
  go_loopw [5] (fun i wr => ∃ k : Nat, k ≤ n ∧ i = .int .i64 (k : Int) ∧ Below w.heap.size w wr ∧ ∀ j, j < k → ls[j]? = ms[j]?) (fun i _ => n - (intOf i).toNat)
  case atStart => exact ⟨0, Nat.zero_le _, rfl, Below.refl _ _, fun j hj => absurd hj (by omega)⟩
  case round =>
   obtain ⟨k, hk, rfl, hb, hso⟩ := hrel
   have hbz := hb.size
   by_cases hlt : k < n
   ·obtain ⟨t, el⟩ : ∃ t, ls[k]? = some t := ⟨ls[k]'(by rw [HN.out]; exact hlt), List.getElem?_eq_getElem _⟩
    obtain ⟨u, em⟩ : ∃ t, ms[k]? = some t := ⟨ms[k]'(by rw [HN'.out]; exact hlt), List.getElem?_eq_getElem _⟩
    obtain ⟨b, o, va, e, hbB, hfa, hta⟩ := HL.out.get el
    obtain ⟨b', o', vb, e', hbB', hfb, htb⟩ := HL'.out.get em
    subst e e'
    have m1 := (Tm.fitL_iff _).1 HS.out.2 _ (List.mem_of_getElem? el)
    have m2 := (Tm.fitL_iff _).1 HS'.out.2 _ (List.mem_of_getElem? em)
    have hta' := hta
    have htb' := htb
    obtain ⟨k1, n1, a1, lv1, kids1⟩ := t
    obtain ⟨k2, n2, a2, lv2, kids2⟩ := u
    obtain ⟨A1, c1, A2, c2, rfl, _, _, _⟩ := hta.open
    obtain ⟨A3, c3, A4, c4, rfl, _, _, _⟩ := htb.open
    obtain ⟨rk, hrk⟩ := bool_is (Tm.mk k1 n1 a1 lv1 kids1 = Tm.mk k2 n2 a2 lv2 kids2)
    have HC : Hid (∀ w', Below wr.heap.size wr w' → Calls Tryz.prog 38 #[.agg #[.int .i64 k1, .int .i64 n1, .int .i64 a1, .slice A1 lv1.length c1, .slice A2 kids1.length c2], .agg #[.int .i64 k2, .int .i64 n2, .int .i64 a2, .slice A3 lv2.length c3, .slice A4 kids2.length c4]] w' (HasPost w' rk)) := fun w' hx => by
     have hx2 : Below w.heap.size w w' := hb.trans (hx.mono hbz)
     exact IH.out _ (List.mem_of_getElem? el) m1 _ _ _ w' rk m2 (hta'.below hx2 hx2.size) (htb'.below hx2 hx2.size) hrk
    obtain ⟨d0, d1, d2, d3, d4, ed, f0, f1, f2, f3, f4⟩ := hfa
    obtain ⟨d5, d6, d7, d8, d9, ed', g0, g1, g2, g3, g4⟩ := hfb
    injection ed with ed
    injection ed with ed
    injection ed with e0 ed
    injection ed with e1 ed
    injection ed with e2 ed
    injection ed with e3 ed
    injection ed with e4 _
    subst e0 e1 e2 e3 e4
    injection ed' with ed
    injection ed with ed
    injection ed with e0 ed
    injection ed with e1 ed
    injection ed with e2 ed
    injection ed with e3 ed
    injection ed with e4 _
    subst e0 e1 e2 e3 e4
    obtain ⟨nl1, hnl1⟩ : ∃ j, lv1.length = j := ⟨_, rfl⟩
    obtain ⟨nk1, hnk1⟩ : ∃ j, kids1.length = j := ⟨_, rfl⟩
    obtain ⟨nl2, hnl2⟩ : ∃ j, lv2.length = j := ⟨_, rfl⟩
    obtain ⟨nk2, hnk2⟩ : ∃ j, kids2.length = j := ⟨_, rfl⟩
    rw [hnl1, hnk1, hnl2, hnk2] at HC
    rw [hnl1] at f3
    rw [hnk1] at f4
    rw [hnl2] at g3
    rw [hnk2] at g4
    replace f0 := (hb.cell (p := ⟨b, o + k * 5, none⟩) hbB).trans f0
    replace f1 := (hb.cell (p := ⟨b, o + k * 5 + 1, none⟩) hbB).trans f1
    replace f2 := (hb.cell (p := ⟨b, o + k * 5 + 2, none⟩) hbB).trans f2
    replace f3 := (hb.cell (p := ⟨b, o + k * 5 + 3, none⟩) hbB).trans f3
    replace f4 := (hb.cell (p := ⟨b, o + k * 5 + 4, none⟩) hbB).trans f4
    replace g0 := (hb.cell (p := ⟨b', o' + k * 5, none⟩) hbB').trans g0
    replace g1 := (hb.cell (p := ⟨b', o' + k * 5 + 1, none⟩) hbB').trans g1
    replace g2 := (hb.cell (p := ⟨b', o' + k * 5 + 2, none⟩) hbB').trans g2
    replace g3 := (hb.cell (p := ⟨b', o' + k * 5 + 3, none⟩) hbB').trans g3
    replace g4 := (hb.cell (p := ⟨b', o' + k * 5 + 4, none⟩) hbB').trans g4
    have HB := Lib.hid hb
    have HSO := Lib.hid hso
    have HRK := Lib.hid hrk
    have EL := Lib.hid el
    have EM := Lib.hid em
    have ij0 : (0 : Int) ≤ (k : Int) := by omega
    have ij1 : (k : Int) < (n : Int) := by omega
    have hbr : b < wr.heap.size := by omega
    have hbr' : b' < wr.heap.size := by omega
    clear hb hso hrk el em hta htb hta' htb' hnl1 hnk1 hnl2 hnk2 m1 m2
    have hS : Below wr.heap.size wr wr.drew := (Below.refl _ _).drew
    go_upto_region 6 with (fail)
    refine wp_region_tab (fun w' => Below wr.heap.size wr w') BR [(Is (.slice (some ⟨b, o, none⟩) n c)), (Is (.int .i64 (k : Int))), (Is (.pointer (some ⟨b, o + k * 5, none⟩))), (Is (.agg #[.int .i64 k1, .int .i64 n1, .int .i64 a1, .slice A1 nl1 c1, .slice A2 nk1 c2])), (Is (.slice (some ⟨b', o', none⟩) n c')), (Is (.int .i64 (k : Int))), (Is (.pointer (some ⟨b', o' + k * 5, none⟩))), (Is (.agg #[.int .i64 k2, .int .i64 n2, .int .i64 a2, .slice A3 nl2 c3, .slice A4 nk2 c4])), (Is (.bool rk)), (Is (.bool (!rk)))] [⟨some 17, .move (.tmp 0), none, []⟩, ⟨some 18, .move (.tmp 5), none, []⟩, ⟨some 19, .indexAddr 24 (.tmp 17) (.tmp 18), none, [(17, 0), (18, 1)]⟩, ⟨some 20, .load 26 (.tmp 19), none, [(19, 2)]⟩, ⟨some 21, .move (.tmp 1), none, []⟩, ⟨some 22, .move (.tmp 5), none, []⟩, ⟨some 23, .indexAddr 24 (.tmp 21) (.tmp 22), none, [(21, 4), (22, 5)]⟩, ⟨some 24, .load 26 (.tmp 23), none, [(23, 6)]⟩, ⟨some 25, .call { callee := .value (.func 38), args := #[.tmp 20, .tmp 24], argTypes := #[26, 26] }, none, [(20, 3), (24, 7)]⟩, ⟨some 26, .unOp .not 4 (.tmp 25), none, [(25, 8)]⟩] [some 17, some 18, some 19, some 20, some 21, some 22, some 23, some 24, some 25, some 26] (by kernel_rfl) (by kernel_rfl) (by kernel_rfl) (by kernel_rfl) (by kernel_rfl) ?hS ?hmono ?hsteps ?hfin
    case hS => exact hS
    case hmono =>
     iterate 10 refine .cons (fun x w1 w2 _ _ _ hx => hx) ?_
     exact .nil
    case hsteps =>
     refine .cons (Is (.slice (some ⟨b, o, none⟩) n c)) [] rfl rfl (fun oq hop _ wq hQS => ?_) ?_
     ·exact .move hop (v := (.slice (some ⟨b, o, none⟩) n c)) (by kernel_rfl) (by kernel_rfl) hQS (.refl _ _) rfl
     refine .cons (Is (.int .i64 (k : Int))) [] rfl rfl (fun oq hop _ wq hQS => ?_) ?_
     ·exact .move hop (v := (.int .i64 (k : Int))) (by kernel_rfl) (by kernel_rfl) hQS (.refl _ _) rfl
     refine .cons (Is (.pointer (some ⟨b, o + k * 5, none⟩))) _ rfl rfl (fun oq hop _ wq hQS => ?_) ?_
     ·refine .more_eq (.slice (some ⟨b, o, none⟩) n c) (.more_eq (.int .i64 (k : Int)) ?_)
      exact .indexAddr hop (p := (.slice (some ⟨b, o, none⟩) n c)) (q := (.int .i64 (k : Int))) (by kernel_rfl) (by kernel_rfl) (term_addr ij0 ij1) (by kernel_rfl) hQS (.refl _ _) rfl
     refine .cons (Is (.agg #[.int .i64 k1, .int .i64 n1, .int .i64 a1, .slice A1 nl1 c1, .slice A2 nk1 c2])) _ rfl rfl (fun oq hop _ wq hQS => ?_) ?_
     ·refine .more_eq (.pointer (some ⟨b, o + k * 5, none⟩)) ?_
      exact .load hop (p := (.pointer (some ⟨b, o + k * 5, none⟩))) (by kernel_rfl) (load_term ((hQS.cell (p := ⟨b, o + k * 5, none⟩) hbr).trans f0) ((hQS.cell (p := ⟨b, o + k * 5 + 1, none⟩) hbr).trans f1) ((hQS.cell (p := ⟨b, o + k * 5 + 2, none⟩) hbr).trans f2) ((hQS.cell (p := ⟨b, o + k * 5 + 3, none⟩) hbr).trans f3) ((hQS.cell (p := ⟨b, o + k * 5 + 4, none⟩) hbr).trans f4)) (by kernel_rfl) hQS (.refl _ _) rfl
     refine .cons (Is (.slice (some ⟨b', o', none⟩) n c')) [] rfl rfl (fun oq hop _ wq hQS => ?_) ?_
     ·exact .move hop (v := (.slice (some ⟨b', o', none⟩) n c')) (by kernel_rfl) (by kernel_rfl) hQS (.refl _ _) rfl
     refine .cons (Is (.int .i64 (k : Int))) [] rfl rfl (fun oq hop _ wq hQS => ?_) ?_
     ·exact .move hop (v := (.int .i64 (k : Int))) (by kernel_rfl) (by kernel_rfl) hQS (.refl _ _) rfl
     refine .cons (Is (.pointer (some ⟨b', o' + k * 5, none⟩))) _ rfl rfl (fun oq hop _ wq hQS => ?_) ?_
     ·refine .more_eq (.slice (some ⟨b', o', none⟩) n c') (.more_eq (.int .i64 (k : Int)) ?_)
      exact .indexAddr hop (p := (.slice (some ⟨b', o', none⟩) n c')) (q := (.int .i64 (k : Int))) (by kernel_rfl) (by kernel_rfl) (term_addr ij0 ij1) (by kernel_rfl) hQS (.refl _ _) rfl
     refine .cons (Is (.agg #[.int .i64 k2, .int .i64 n2, .int .i64 a2, .slice A3 nl2 c3, .slice A4 nk2 c4])) _ rfl rfl (fun oq hop _ wq hQS => ?_) ?_
     ·refine .more_eq (.pointer (some ⟨b', o' + k * 5, none⟩)) ?_
      exact .load hop (p := (.pointer (some ⟨b', o' + k * 5, none⟩))) (by kernel_rfl) (load_term ((hQS.cell (p := ⟨b', o' + k * 5, none⟩) hbr').trans g0) ((hQS.cell (p := ⟨b', o' + k * 5 + 1, none⟩) hbr').trans g1) ((hQS.cell (p := ⟨b', o' + k * 5 + 2, none⟩) hbr').trans g2) ((hQS.cell (p := ⟨b', o' + k * 5 + 3, none⟩) hbr').trans g3) ((hQS.cell (p := ⟨b', o' + k * 5 + 4, none⟩) hbr').trans g4)) (by kernel_rfl) hQS (.refl _ _) rfl
     refine .cons (Is (.bool rk)) _ rfl rfl (fun oq hop _ wq hQS => ?_) ?_
     ·refine .more_eq (.agg #[.int .i64 k1, .int .i64 n1, .int .i64 a1, .slice A1 nl1 c1, .slice A2 nk1 c2]) (.more_eq (.agg #[.int .i64 k2, .int .i64 n2, .int .i64 a2, .slice A3 nl2 c3, .slice A4 nk2 c4]) ?_)
      exact .call hop (vs := [(.agg #[.int .i64 k1, .int .i64 n1, .int .i64 a1, .slice A1 nl1 c1, .slice A2 nk1 c2]), (.agg #[.int .i64 k2, .int .i64 n2, .int .i64 a2, .slice A3 nl2 c3, .slice A4 nk2 c4])]) (by kernel_rfl) (fun w => enter_sameTm _ w) (by kernel_rfl) ((HC.out wq hQS).mono fun e w9 h9 => ⟨_, h9.1, hQS.trans (h9.2.mono hQS.size), h9.2, rfl⟩)
     refine .cons (Is (.bool (!rk))) _ rfl rfl (fun oq hop _ wq hQS => ?_) ?_
     ·refine .more_eq (.bool rk) ?_
      exact .not hop (b := rk) (by kernel_rfl) (by kernel_rfl) hQS (.refl _ _) rfl
     exact .nil
    case hfin =>
     intro wf hFS
     iterate 9 refine .more fun _ _ => ?_
     refine .more fun x26 h26 => ?_
     refine .done ?_
     obtain rfl : x26 = (.bool (!rk)) := h26
     have HB2 : Hid (Below w.heap.size w wf) := HB.out.trans (hFS.mono hbz)
     clear hS hFS f0 f1 f2 f3 f4 g0 g1 g2 g3 g4
     simp only [Act.put, List.setIfInBounds_toArray, List.set_cons_zero, List.set_cons_succ]
     cases rk with
     | true =>
      have HSO2 : Hid (∀ j, j < k + 1 → ls[j]? = ms[j]?) := fun j hj => by
       rcases Nat.lt_succ_iff_lt_or_eq.1 hj with hj | rfl
       ·exact HSO.out j hj
       ·rw [EL.out, EM.out, HRK.out.1 rfl]
      go_wp2
      go_roundw
      case rel => exact ⟨k + 1, by omega, by go_num, HB2.out, HSO2.out⟩
      case measure => simp [intOf]; omega
     | false =>
      have HF : Hid (r = false) := by
       cases r with
       | false => rfl
       | true =>
        have e := HR.out.1 rfl
        have h1 := EL.out
        rw [e, EM.out] at h1
        injection h1 with h1
        have := HRK.out.2 h1.symm
        cases this
      go_wp2
      go_ret
      exact ⟨by rw [HF.out]; rfl, HB2.out⟩
   ·have HF : Hid (r = true) := HR.out.2 (same_end (by rw [HN.out, HN'.out]) fun j hj => hso j (by rw [HN.out] at hj; omega))
    have HB := Lib.hid hb
    clear hb hso
    go_wp2
    go_ret
    exact ⟨by rw [HF.out]; rfl, HB.out⟩
 ·have lf : ((n : Int) != (n' : Int)) = true := by simp; omega
  have HF : Hid (r = false) := by
   cases r with
   | false => rfl
   | true =>
    have e := HR.out.1 rfl
    have h1 := HN.out
    rw [e, HN'.out] at h1
    exact absurd h1.symm hl
  go_enter Tryz.func53, Tryz.ntmps53
  go_wp2
  go_ret
  exact ⟨by rw [HF.out]; rfl, Below.refl _ _⟩
set_option maxHeartbeats 4000000 in
theorem sameTerm_of (k1 n1 a1 k2 n2 a2 : Int) (lv1 lv2 : List (List (Int × Int))) (kids1 kids2 : List Tm) (ih : ∀ t ∈ kids1, SameTm t) (A1 A2 A3 A4 : Option Addr) (c1 c2 c3 c4 p1 p2 p3 p4 : Nat) (w : World) (r : Bool)
  (hp1 : lv1.length = p1) (hp2 : kids1.length = p2) (hp3 : lv2.length = p3) (hp4 : kids2.length = p4) (hc : (Tm.mk k1 n1 a1 lv1 kids1).fit) (hc' : (Tm.mk k2 n2 a2 lv2 kids2).fit)
  (h1 : Levs w w.heap.size A1 lv1) (h2 : Tms w w.heap.size A2 c2 kids1) (h3 : Levs w w.heap.size A3 lv2) (h4 : Tms w w.heap.size A4 c4 kids2) (hr : r = true ↔ Tm.mk k1 n1 a1 lv1 kids1 = Tm.mk k2 n2 a2 lv2 kids2) :
  Calls Tryz.prog 38 #[.agg #[.int .i64 k1, .int .i64 n1, .int .i64 a1, .slice A1 p1 c1, .slice A2 p2 c2], .agg #[.int .i64 k2, .int .i64 n2, .int .i64 a2, .slice A3 p3 c3, .slice A4 p4 c4]] w (HasPost w r) := by
 rw [Tm.fit_mk] at hc hc'
 obtain ⟨x1, x2, _⟩ := two_allocs w (.cells #[.int .i64 k1, .int .i64 n1, .int .i64 a1, .slice A1 p1 c1, .slice A2 p2 c2] 26) (.cells #[.int .i64 k2, .int .i64 n2, .int .i64 a2, .slice A3 p3 c3, .slice A4 p4 c4] 26)
 have hb0 : Below w.heap.size w ((w.alloc (.cells #[.int .i64 k1, .int .i64 n1, .int .i64 a1, .slice A1 p1 c1, .slice A2 p2 c2] 26)).alloc (.cells #[.int .i64 k2, .int .i64 n2, .int .i64 a2, .slice A3 p3 c3, .slice A4 p4 c4] 26)) := ((Below.refl _ _).alloc (Nat.le_refl _) _).alloc (by simp) _
 obtain ⟨rl, hrl⟩ := bool_is (lv1 = lv2)
 obtain ⟨rk, hrk⟩ := bool_is (kids1 = kids2)
 have HL : Hid (∀ w', Below w.heap.size w w' → Calls Tryz.prog 52 #[.slice A1 p1 c1, .slice A3 p3 c3] w' (HasPost w' rl)) := fun w' hx => sameLevels_any A1 A3 lv1 lv2 c1 c3 p1 p3 w' hp1 hp3 hc.2.1 hc'.2.1 ((h1.below hx).more hx.size) ((h3.below hx).more hx.size) rl hrl
 have HK : Hid (∀ w', Below w.heap.size w w' → Calls Tryz.prog 53 #[.slice A2 p2 c2, .slice A4 p4 c4] w' (HasPost w' rk)) := fun w' hx => sameTerms_of kids1 kids2 ih A2 A4 c2 c4 p2 p4 w' hp2 hp4 hc.2.2 hc'.2.2 (h2.below hx hx.size) (h4.below hx hx.size) rk hrk
 have HREQ : Hid (r = (decide (k1 = k2) && decide (n1 = n2) && decide (a1 = a2) && rl && rk)) := by
  have e : (r = true ↔ (decide (k1 = k2) && decide (n1 = n2) && decide (a1 = a2) && rl && rk) = true) := by
   rw [hr]
   simp only [Bool.and_eq_true, decide_eq_true_eq, hrl, hrk, Tm.mk.injEq]
   constructor
   ·rintro ⟨a, b, c, d, e⟩
    exact ⟨⟨⟨⟨a, b⟩, c⟩, d⟩, e⟩
   ·rintro ⟨⟨⟨⟨a, b⟩, c⟩, d⟩, e⟩
    exact ⟨a, b, c, d, e⟩
  show r = _
  exact Bool.eq_iff_iff.2 e
 have HB0 := Lib.hid hb0
 have X1 := Lib.hid x1
 have X2 := Lib.hid x2
 have f0 := cell_of_row _ _ 0 _ _ (0, 0) x1
 have f1 := cell_of_row _ _ 1 _ _ (0, 0) x1
 have f2 := cell_of_row _ _ 2 _ _ (0, 0) x1
 have f3 := cell_of_row _ _ 3 _ _ (0, 0) x1
 have f4 := cell_of_row _ _ 4 _ _ (0, 0) x1
 have g0 := cell_of_row _ _ 0 _ _ (0, 0) x2
 have g1 := cell_of_row _ _ 1 _ _ (0, 0) x2
 have g2 := cell_of_row _ _ 2 _ _ (0, 0) x2
 have g3 := cell_of_row _ _ 3 _ _ (0, 0) x2
 have g4 := cell_of_row _ _ 4 _ _ (0, 0) x2
 clear hr hrl hrk hc hc' h1 h2 h3 h4 hp1 hp2 hp3 hp4 ih hb0 x1 x2
 go_enter Tryz.func38, Tryz.ntmps38
 go_upto_region 1 with (fail)
 obtain ⟨w1, hw1⟩ : ∃ x, (w.alloc (.cells #[.int .i64 k1, .int .i64 n1, .int .i64 a1, .slice A1 p1 c1, .slice A2 p2 c2] 26)).alloc (.cells #[.int .i64 k2, .int .i64 n2, .int .i64 a2, .slice A3 p3 c3, .slice A4 p4 c4] 26) = x := ⟨_, rfl⟩
 rw [hw1] at HB0 X1 X2 f0 f1 f2 f3 f4 g0 g1 g2 g3 g4 ⊢
 clear hw1
 by_cases e1 : k1 = k2
 ·subst e1
  by_cases e2 : n1 = n2
  ·subst e2
   by_cases e3 : a1 = a2
   ·subst e3
    have hf : Hid (r = (rl && rk)) := by
     show _ = _
     have := HREQ.out
     simpa using this
    have HL1 := Lib.hid (HL.out w1 HB0.out)
    clear HREQ HL
    go_wp2_with (fail)
    refine HL1.out.mono ?_
    rintro e w2 ⟨rfl, hb2⟩
    have HB2 : Hid (Below w.heap.size w w2) := HB0.out.trans (hb2.mono HB0.out.size)
    have y1 := (hb2.block w.heap.size (heap_some_lt X1.out)).trans X1.out
    have y2 := (hb2.block (w.heap.size + 1) (heap_some_lt X2.out)).trans X2.out
    have f4' := cell_of_row _ _ 4 _ _ (0, 0) y1
    have g4' := cell_of_row _ _ 4 _ _ (0, 0) y2
    clear hb2 y1 y2 HL1 f0 f1 f2 f3 f4 g0 g1 g2 g3 g4
    cases rl with
    | true =>
     have HK2 := Lib.hid (HK.out w2 HB2.out)
     have hf2 : Hid (r = rk) := by show _ = _; have := hf.out; simpa using this
     clear HK hf
     go_wp2_with (fail)
     refine HK2.out.mono ?_
     rintro e w3 ⟨rfl, hb3⟩
     have HB3 : Hid (Below w.heap.size w w3) := HB2.out.trans (hb3.mono HB2.out.size)
     clear hb3
     go_wp2
     go_ret
     exact ⟨by rw [hf2.out]; rfl, HB3.out⟩
    | false =>
     have hf2 : Hid (r = false) := by show _ = _; have := hf.out; simpa using this
     clear HK hf
     go_wp2
     go_ret
     exact ⟨by rw [hf2.out]; rfl, HB2.out⟩
   ·have hf : Hid (r = false) := by show _ = _; have := HREQ.out; simpa [e3] using this
    have e3' : (a1 == a2) = false := by simpa using e3
    clear HREQ HL HK X1 X2
    go_wp2
    go_ret
    exact ⟨by rw [hf.out]; rfl, HB0.out⟩
  ·have hf : Hid (r = false) := by show _ = _; have := HREQ.out; simpa [e2] using this
   have e2' : (n1 == n2) = false := by simpa using e2
   clear HREQ HL HK X1 X2
   go_wp2
   go_ret
   exact ⟨by rw [hf.out]; rfl, HB0.out⟩
 ·have hf : Hid (r = false) := by show _ = _; have := HREQ.out; simpa [e1] using this
  have e1' : (k1 == k2) = false := by simpa using e1
  clear HREQ HL HK X1 X2
  go_wp2
  go_ret
  exact ⟨by rw [hf.out]; rfl, HB0.out⟩
theorem sameTerm_any : ∀ t : Tm, SameTm t := by
 intro t
 induction t using Tm.ind with
 | h k n a lv kids ih =>
  intro hc u va vb w r hc' ha hb hr
  obtain ⟨k2, n2, a2, lv2, kids2⟩ := u
  obtain ⟨A1, c1, A2, c2, rfl, _, h1, h2⟩ := ha.open
  obtain ⟨A3, c3, A4, c4, rfl, _, h3, h4⟩ := hb.open
  exact sameTerm_of k n a k2 n2 a2 lv lv2 kids kids2 ih A1 A2 A3 A4 c1 c2 c3 c4 _ _ _ _ w r rfl rfl rfl rfl hc hc' h1 h2 h3 h4 hr
def CountTm (t : Tm) : Prop := t.count ≤ 1048576 → ∀ (M : Nat) (v : Value) (w : World), M ≤ 1048576 → TmAt w w.heap.size t v → Calls Tryz.prog 6 #[v, .int .i64 (M : Int)] w (CountPost w t.count M)
theorem enter_levelsOf (vs : Array Value) (w : World) : (callFunc 5 vs).run Tryz.prog w = .ok (.enter 5 vs) w := by go_simp
theorem enter_termsOf (vs : Array Value) (w : World) : (callFunc 7 vs).run Tryz.prog w = .ok (.enter 7 vs) w := by go_simp
theorem term_field {b o : Nat} {w : World} (i : Nat) (hi : i < 5) : (Instr.fieldAt 26 (.pointer (some ⟨b, o, none⟩)) i).run Tryz.prog w = .ok (.pointer (some ⟨b, o + i, none⟩)) w := by
 match i, hi with
 | 0, _ => go_simp
 | 1, _ => go_simp
 | 2, _ => go_simp
 | 3, _ => go_simp
 | 4, _ => go_simp
theorem load_levels {b o n c : Nat} {w : World} {A : Option Addr} (h : w.cell? ⟨b, o, none⟩ = some (.slice A n c)) : (Instr.loadAt 23 (.pointer (some ⟨b, o, none⟩))).run Tryz.prog w = .ok (.slice A n c) w := by go_simp
theorem load_terms {b o n c : Nat} {w : World} {A : Option Addr} (h : w.cell? ⟨b, o, none⟩ = some (.slice A n c)) : (Instr.loadAt 24 (.pointer (some ⟨b, o, none⟩))).run Tryz.prog w = .ok (.slice A n c) w := by go_simp
theorem Five.agg {w : World} {b o : Nat} {c0 c1 c2 c3 c4 : Value} (h : Five w b o (.agg #[c0, c1, c2, c3, c4])) : w.cell? ⟨b, o, none⟩ = some c0 ∧ w.cell? ⟨b, o + 1, none⟩ = some c1 ∧ w.cell? ⟨b, o + 2, none⟩ = some c2 ∧ w.cell? ⟨b, o + 3, none⟩ = some c3 ∧ w.cell? ⟨b, o + 4, none⟩ = some c4 := by
 obtain ⟨d0, d1, d2, d3, d4, ed, f0, f1, f2, f3, f4⟩ := h
 injection ed with ed
 injection ed with ed
 injection ed with e0 ed
 injection ed with e1 ed
 injection ed with e2 ed
 injection ed with e3 ed
 injection ed with e4 _
 subst e0 e1 e2 e3 e4
 exact ⟨f0, f1, f2, f3, f4⟩
theorem Tms.at {w w' : World} {B : Nat} {A : Option Addr} {c : Nat} {ts : List Tm} (h : Tms w B A c ts) (hw : Below B w w') {k : Nat} {t : Tm} (ht : ts[k]? = some t) :
  ∃ b o k1 n1 a1 A1 p1 c1 A2 p2 c2, A = some ⟨b, o, none⟩ ∧ b < B ∧ TmAt w B t (.agg #[.int .i64 k1, .int .i64 n1, .int .i64 a1, .slice A1 p1 c1, .slice A2 p2 c2]) ∧
   w'.cell? ⟨b, o + k * 5, none⟩ = some (.int .i64 k1) ∧ w'.cell? ⟨b, o + k * 5 + 1, none⟩ = some (.int .i64 n1) ∧ w'.cell? ⟨b, o + k * 5 + 2, none⟩ = some (.int .i64 a1) ∧ w'.cell? ⟨b, o + k * 5 + 3, none⟩ = some (.slice A1 p1 c1) ∧ w'.cell? ⟨b, o + k * 5 + 4, none⟩ = some (.slice A2 p2 c2) := by
 have hk : k < ts.length := (List.getElem?_eq_some_iff.1 ht).1
 obtain ⟨b, o, e, hb, hr⟩ := h.2 (by omega)
 obtain ⟨v, h5, hv⟩ := hr.get k t ht
 obtain ⟨k1, n1, a1, lv, kids⟩ := t
 obtain ⟨A1, c1, A2, c2, rfl, q1, q2, q3⟩ := hv.open
 obtain ⟨f0, f1, f2, f3, f4⟩ := h5.agg
 exact ⟨b, o, k1, n1, a1, A1, _, c1, A2, _, c2, e, hb, hv, (hw.cell (p := ⟨b, _, none⟩) hb).trans f0, (hw.cell (p := ⟨b, _, none⟩) hb).trans f1, (hw.cell (p := ⟨b, _, none⟩) hb).trans f2, (hw.cell (p := ⟨b, _, none⟩) hb).trans f3, (hw.cell (p := ⟨b, _, none⟩) hb).trans f4⟩
set_option maxHeartbeats 1000000 in
theorem termsOf_of (ts : List Tm) (ih : ∀ t ∈ ts, CountTm t) (A : Option Addr) (c M n : Nat) (w : World) (hn : ts.length = n) (hs : Tm.countL ts ≤ 1048576) (hM : M ≤ 1048576) (h : Tms w w.heap.size A c ts) :
  Calls Tryz.prog 7 #[.slice A n c, .int .i64 (M : Int)] w (CountPost w (Tm.countL ts) M) := by
 have hn9 := Tm.countL_length ts
 have hn8 : n ≤ 1048576 := by omega
 have HL := Lib.hid h
 have HN := Lib.hid hn
 have HS := Lib.hid hs
 have IH := Lib.hid ih
 clear h hn hs hn9 ih
 go_enter Tryz.func7, Tryz.ntmps7
 go_wp2
 go_loopw [5, 6] (fun u i wr => ∃ (k r : Nat), k ≤ n ∧ i = .int .i64 (k : Int) ∧ u = .int .i64 (r : Int) ∧ Below w.heap.size w wr ∧ r ≤ Tm.countL (ts.take k) ∧ (r ≤ M → r = Tm.countL (ts.take k))) (fun _ i _ => n - (intOf i).toNat)
 case atStart => exact ⟨0, 0, Nat.zero_le _, rfl, rfl, Below.refl _ _, by simp, fun _ => by simp [Tm.countL]⟩
 case round =>
  obtain ⟨k, r, hk, rfl, rfl, hb, h1, h2⟩ := hrel
  have hbz := hb.size
  have hle := Tm.countL_le ts k
  have hs9 := HS.out
  have hr9 : r ≤ 1048576 := by omega
  by_cases hlt : k < n
  ·by_cases hu : r ≤ M
   ·obtain ⟨t, ht⟩ : ∃ t, ts[k]? = some t := ⟨_, List.getElem?_eq_getElem (by rw [HN.out]; exact hlt)⟩
    obtain ⟨b, o, k1, n1, a1, A1, p1, c1, A2, p2, c2, e, hbB, hv, f0, f1, f2, f3, f4⟩ := HL.out.at hb ht
    subst e
    have hct := Tm.countL_take ts k t ht
    have hle1 := Tm.countL_le ts (k + 1)
    have hm := Tm.countL_mem (List.mem_of_getElem? ht)
    have HC := Lib.hid (IH.out t (List.mem_of_getElem? ht) (by omega) (M - r) _ wr (by omega) (hv.below hb hbz))
    have HT := Lib.hid hct
    have H2 := Lib.hid h2
    have HB := Lib.hid hb
    have HCL : Hid (t.count ≤ 1048576) := by show _ ≤ _; omega
    have ws0 : IntKind.i64.wrap ((M : Int) - (r : Int)) = ((M - r : Nat) : Int) := by rw [IntWalk.i64_in _ (by omega)]; omega
    have ij0 : (0 : Int) ≤ (k : Int) := by omega
    have ij1 : (k : Int) < (n : Int) := by omega
    have ij2 : (r : Int) ≤ (M : Int) := by omega
    clear hb hv h2 hct ht hm
    go_wp2_with (fail)
    refine HC.out.mono ?_
    rintro e w1 ⟨s, rfl, hs1, hs2, hb1⟩
    have hcl := HCL.out
    have ws : IntKind.i64.wrap ((r : Int) + (s : Int)) = ((r + s : Nat) : Int) := by rw [IntWalk.i64_in _ (by omega)]; omega
    have HF : Hid (r + s ≤ Tm.countL (ts.take (k + 1)) ∧ (r + s ≤ M → r + s = Tm.countL (ts.take (k + 1)))) := by
     rw [HT.out]
     refine ⟨by omega, fun h => ?_⟩
     have := hs2 (by omega)
     have := H2.out hu
     omega
    have HB1 : Hid (Below w.heap.size w w1) := HB.out.trans (hb1.mono hbz)
    clear hb1 hs2
    go_wp2
    go_roundw
    case rel => exact ⟨k + 1, r + s, by omega, by go_num, rfl, HB1.out, HF.out⟩
    case measure => simp [intOf]; omega
   ·have ij2 : ¬ (r : Int) ≤ (M : Int) := by omega
    have HF : Hid (CountPost w (Tm.countL ts) M (.returned (.int .i64 (r : Int))) wr) := ⟨r, rfl, by omega, fun h => absurd h hu, hb⟩
    clear hb h2
    go_wp2
    go_ret
    exact HF.out
  ·have hq : ts.take k = ts := List.take_of_length_le (by rw [HN.out]; omega)
   rw [hq] at h1 h2
   have HF : Hid (CountPost w (Tm.countL ts) M (.returned (.int .i64 (r : Int))) wr) := ⟨r, rfl, h1, h2, hb⟩
   clear hb h2 hq
   go_wp2
   go_ret
   exact HF.out
set_option maxHeartbeats 4000000 in
theorem termOf_of (k1 n1 a1 : Int) (lv : List (List (Int × Int))) (kids : List Tm) (ih : ∀ t ∈ kids, CountTm t) (A1 A2 : Option Addr) (c1 c2 p1 p2 M : Nat) (w : World) (hp1 : lv.length = p1) (hp2 : kids.length = p2) (hc : 1 + lensSum lv + Tm.countL kids ≤ 1048576) (hM : M ≤ 1048576)
  (h1 : Levs w w.heap.size A1 lv) (h2 : Tms w w.heap.size A2 c2 kids) :
  Calls Tryz.prog 6 #[.agg #[.int .i64 k1, .int .i64 n1, .int .i64 a1, .slice A1 p1 c1, .slice A2 p2 c2], .int .i64 (M : Int)] w (CountPost w (1 + lensSum lv + Tm.countL kids) M) := by
 obtain ⟨sl, hsl⟩ : ∃ s, lensSum lv = s := ⟨_, rfl⟩
 obtain ⟨sk, hsk⟩ : ∃ s, Tm.countL kids = s := ⟨_, rfl⟩
 have x1 : (w.alloc (.cells #[.int .i64 k1, .int .i64 n1, .int .i64 a1, .slice A1 p1 c1, .slice A2 p2 c2] 26)).heap[w.heap.size]? = some (.cells #[.int .i64 k1, .int .i64 n1, .int .i64 a1, .slice A1 p1 c1, .slice A2 p2 c2] 26 (0, 0)) := heap_alloc_new w _
 have hb0 : Below w.heap.size w (w.alloc (.cells #[.int .i64 k1, .int .i64 n1, .int .i64 a1, .slice A1 p1 c1, .slice A2 p2 c2] 26)) := (Below.refl _ _).alloc (Nat.le_refl _) _
 have HL : Hid (∀ w', Below w.heap.size w w' → Calls Tryz.prog 5 #[.slice A1 p1 c1, .int .i64 (M : Int)] w' (CountPost w' sl M)) := fun w' hx => by
  rw [← hsl]; exact levelsOf_m A1 lv c1 M p1 w' hp1 (by omega) hM ((h1.below hx).more hx.size)
 have HK : Hid (∀ w', Below w.heap.size w w' → Calls Tryz.prog 7 #[.slice A2 p2 c2, .int .i64 (M : Int)] w' (CountPost w' sk M)) := fun w' hx => by
  rw [← hsk]; exact termsOf_of kids ih A2 c2 M p2 w' hp2 (by omega) hM (h2.below hx hx.size)
 rw [hsl, hsk] at hc ⊢
 have f3 := cell_of_row _ _ 3 _ _ (0, 0) x1
 have f4 := cell_of_row _ _ 4 _ _ (0, 0) x1
 have hb1 : w.heap.size < (w.alloc (.cells #[.int .i64 k1, .int .i64 n1, .int .i64 a1, .slice A1 p1 c1, .slice A2 p2 c2] 26)).heap.size := by simp
 clear x1 h1 h2 hp1 hp2 ih hsl hsk
 have HB0 := Lib.hid hb0
 clear hb0
 go_enter Tryz.func6, Tryz.ntmps6
 go_upto_region 1 with (fail)
 obtain ⟨w1, hw1⟩ : ∃ x, w.alloc (.cells #[.int .i64 k1, .int .i64 n1, .int .i64 a1, .slice A1 p1 c1, .slice A2 p2 c2] 26) = x := ⟨_, rfl⟩
 rw [hw1] at HB0 f3 f4 hb1 ⊢
 clear hw1
 have hS : Below w1.heap.size w1 w1.drew := (Below.refl _ _).drew
 refine wp_region_tab (fun w' => Below w1.heap.size w1 w') BR [(Is (.pointer (some ⟨w.heap.size, 0 + 3, none⟩))), (Is (.slice A1 p1 c1)), (Is (.int .i64 (M : Int))), (fun (x : Value) (w : World) => ∃ s : Nat, x = .int .i64 (s : Int) ∧ s ≤ sl ∧ (s ≤ M → s = sl)), (fun (x : Value) (w : World) => ∃ s : Nat, x = .int .i64 (s : Int) ∧ s ≤ (1 + sl) ∧ (s ≤ M → s = (1 + sl))), (Is (.pointer (some ⟨w.heap.size, 0 + 4, none⟩))), (Is (.slice A2 p2 c2)), (Is (.int .i64 (M : Int))), (fun (x : Value) (w : World) => ∃ s : Nat, x = .int .i64 (s : Int) ∧ s ≤ sk ∧ (s ≤ M → s = sk)), (fun (x : Value) (w : World) => ∃ s : Nat, x = .int .i64 (s : Int) ∧ s ≤ (1 + sl + sk) ∧ (s ≤ M → s = (1 + sl + sk))), (fun (x : Value) (w : World) => ∃ s : Nat, x = .int .i64 (s : Int) ∧ s ≤ (1 + sl + sk) ∧ (s ≤ M → s = (1 + sl + sk)))] [⟨some 5, .fieldAddr 26 (.tmp 2) 3, none, []⟩, ⟨some 6, .load 23 (.tmp 5), none, [(5, 0)]⟩, ⟨some 7, .move (.tmp 1), none, []⟩, ⟨some 8, .call { callee := .value (.func 5), args := #[.tmp 6, .tmp 7], argTypes := #[23, 3] }, none, [(6, 1), (7, 2)]⟩, ⟨some 9, .binOp .add 3 (.const (.int .i64 1)) (.tmp 8) 3, none, [(8, 3)]⟩, ⟨some 10, .fieldAddr 26 (.tmp 2) 4, none, []⟩, ⟨some 11, .load 24 (.tmp 10), none, [(10, 5)]⟩, ⟨some 12, .move (.tmp 1), none, []⟩, ⟨some 13, .call { callee := .value (.func 7), args := #[.tmp 11, .tmp 12], argTypes := #[24, 3] }, none, [(11, 6), (12, 7)]⟩, ⟨some 14, .binOp .add 3 (.tmp 9) (.tmp 13) 3, none, [(9, 4), (13, 8)]⟩, ⟨some 4, .assign (.tmp 14), none, [(14, 9)]⟩] [some 5, some 6, some 7, some 8, some 9, some 10, some 11, some 12, some 13, some 14, some 4] (by kernel_rfl) (by kernel_rfl) (by kernel_rfl) (by kernel_rfl) (by kernel_rfl) ?hS ?hmono ?hsteps ?hfin
 case hS => exact hS
 case hmono =>
  iterate 3 refine .cons (fun x w1 w2 _ _ _ hx => hx) ?_
  refine .cons (fun x w1 w2 _ _ hR hx => ?_) ?_
  ·exact hx
  refine .cons (fun x w1 w2 _ _ hR hx => ?_) ?_
  ·exact hx
  iterate 3 refine .cons (fun x w1 w2 _ _ _ hx => hx) ?_
  refine .cons (fun x w1 w2 _ _ hR hx => ?_) ?_
  ·exact hx
  refine .cons (fun x w1 w2 _ _ hR hx => ?_) ?_
  ·exact hx
  refine .cons (fun x w1 w2 _ _ hR hx => ?_) ?_
  ·exact hx
  exact .nil
 case hsteps =>
  refine .cons (Is (.pointer (some ⟨w.heap.size, 0 + 3, none⟩))) [] rfl rfl (fun oq hop _ wq hQS => ?_) ?_
  ·exact .fieldAddr hop (p := (.pointer (some ⟨w.heap.size, 0, none⟩))) (by kernel_rfl) (term_field 3 (by decide)) (by kernel_rfl) hQS (.refl _ _) rfl
  refine .cons (Is (.slice A1 p1 c1)) _ rfl rfl (fun oq hop _ wq hQS => ?_) ?_
  ·refine .more_eq (.pointer (some ⟨w.heap.size, 0 + 3, none⟩)) ?_
   exact .load hop (p := (.pointer (some ⟨w.heap.size, 0 + 3, none⟩))) (by kernel_rfl) (load_levels ((hQS.cell (p := ⟨w.heap.size, 0 + 3, none⟩) hb1).trans f3)) (by kernel_rfl) hQS (.refl _ _) rfl
  refine .cons (Is (.int .i64 (M : Int))) [] rfl rfl (fun oq hop _ wq hQS => ?_) ?_
  ·exact .move hop (v := (.int .i64 (M : Int))) (by kernel_rfl) (by kernel_rfl) hQS (.refl _ _) rfl
  refine .cons (fun (x : Value) (w : World) => ∃ s : Nat, x = .int .i64 (s : Int) ∧ s ≤ sl ∧ (s ≤ M → s = sl)) _ rfl rfl (fun oq hop _ wq hQS => ?_) ?_
  ·refine .more_eq (.slice A1 p1 c1) (.more_eq (.int .i64 (M : Int)) ?_)
   exact .call hop (vs := [(.slice A1 p1 c1), (.int .i64 (M : Int))]) (by kernel_rfl) (fun w => enter_levelsOf _ w) (by kernel_rfl) ((HL.out wq (HB0.out.trans (hQS.mono HB0.out.size))).mono fun e w9 h9 => by obtain ⟨s, q1, q2, q3, q4⟩ := h9; exact ⟨_, q1, hQS.trans (q4.mono hQS.size), q4, s, rfl, q2, q3⟩)
  refine .cons (fun (x : Value) (w : World) => ∃ s : Nat, x = .int .i64 (s : Int) ∧ s ≤ (1 + sl) ∧ (s ≤ M → s = (1 + sl))) _ rfl rfl (fun oq hop _ wq hQS => ?_) ?_
  ·refine .more fun x8 h8 => ?_
   obtain ⟨s8, rfl, hs8, ht8⟩ := h8
   exact .bin hop (vx := (.int .i64 1)) (vy := (.int .i64 (s8 : Int))) (by kernel_rfl) (by kernel_rfl) (add_int _ _ _ _ _ (IntWalk.i64_in _ (by omega))) (by kernel_rfl) hQS (Below.refl _ _) (by exact ⟨1 + s8, congrArg (Value.int .i64) (by omega), by omega, fun h => by have := ht8 (by omega); omega⟩)
  refine .cons (Is (.pointer (some ⟨w.heap.size, 0 + 4, none⟩))) [] rfl rfl (fun oq hop _ wq hQS => ?_) ?_
  ·exact .fieldAddr hop (p := (.pointer (some ⟨w.heap.size, 0, none⟩))) (by kernel_rfl) (term_field 4 (by decide)) (by kernel_rfl) hQS (.refl _ _) rfl
  refine .cons (Is (.slice A2 p2 c2)) _ rfl rfl (fun oq hop _ wq hQS => ?_) ?_
  ·refine .more_eq (.pointer (some ⟨w.heap.size, 0 + 4, none⟩)) ?_
   exact .load hop (p := (.pointer (some ⟨w.heap.size, 0 + 4, none⟩))) (by kernel_rfl) (load_terms ((hQS.cell (p := ⟨w.heap.size, 0 + 4, none⟩) hb1).trans f4)) (by kernel_rfl) hQS (.refl _ _) rfl
  refine .cons (Is (.int .i64 (M : Int))) [] rfl rfl (fun oq hop _ wq hQS => ?_) ?_
  ·exact .move hop (v := (.int .i64 (M : Int))) (by kernel_rfl) (by kernel_rfl) hQS (.refl _ _) rfl
  refine .cons (fun (x : Value) (w : World) => ∃ s : Nat, x = .int .i64 (s : Int) ∧ s ≤ sk ∧ (s ≤ M → s = sk)) _ rfl rfl (fun oq hop _ wq hQS => ?_) ?_
  ·refine .more_eq (.slice A2 p2 c2) (.more_eq (.int .i64 (M : Int)) ?_)
   exact .call hop (vs := [(.slice A2 p2 c2), (.int .i64 (M : Int))]) (by kernel_rfl) (fun w => enter_termsOf _ w) (by kernel_rfl) ((HK.out wq (HB0.out.trans (hQS.mono HB0.out.size))).mono fun e w9 h9 => by obtain ⟨s, q1, q2, q3, q4⟩ := h9; exact ⟨_, q1, hQS.trans (q4.mono hQS.size), q4, s, rfl, q2, q3⟩)
  refine .cons (fun (x : Value) (w : World) => ∃ s : Nat, x = .int .i64 (s : Int) ∧ s ≤ (1 + sl + sk) ∧ (s ≤ M → s = (1 + sl + sk))) _ rfl rfl (fun oq hop _ wq hQS => ?_) ?_
  ·refine .more fun x9 h9 => ?_
   obtain ⟨s9, rfl, hs9, ht9⟩ := h9
   refine .more fun x13 h13 => ?_
   obtain ⟨s13, rfl, hs13, ht13⟩ := h13
   exact .bin hop (vx := (.int .i64 (s9 : Int))) (vy := (.int .i64 (s13 : Int))) (by kernel_rfl) (by kernel_rfl) (add_int _ _ _ _ _ (IntWalk.i64_in _ (by omega))) (by kernel_rfl) hQS (Below.refl _ _) (by exact ⟨s9 + s13, congrArg (Value.int .i64) (by omega), by omega, fun h => by have := ht9 (by omega); have := ht13 (by omega); omega⟩)
  refine .cons (fun (x : Value) (w : World) => ∃ s : Nat, x = .int .i64 (s : Int) ∧ s ≤ (1 + sl + sk) ∧ (s ≤ M → s = (1 + sl + sk))) _ rfl rfl (fun oq hop _ wq hQS => ?_) ?_
  ·refine .more fun x14 h14 => ?_
   obtain ⟨s14, rfl, hs14, ht14⟩ := h14
   exact .assign hop (v := (.int .i64 (s14 : Int))) (by kernel_rfl) (by kernel_rfl) hQS (Below.refl _ _) ⟨s14, rfl, hs14, ht14⟩
  exact .nil
 case hfin =>
  intro wf hFS
  iterate 10 refine .more fun _ _ => ?_
  refine .more fun x4 h4 => ?_
  refine .done ?_
  obtain ⟨s4, rfl, q1, q2⟩ := h4
  have HF : Hid (CountPost w (1 + sl + sk) M (.returned (.int .i64 (s4 : Int))) wf) := ⟨s4, rfl, q1, q2, HB0.out.trans (hFS.mono HB0.out.size)⟩
  clear hS hFS f3 f4 q1 q2
  simp only [Act.put, List.setIfInBounds_toArray, List.set_cons_zero, List.set_cons_succ]
  go_wp2
  go_ret
  exact HF.out
theorem termOf_any : ∀ t : Tm, CountTm t := by
 intro t
 induction t using Tm.ind with
 | h k n a lv kids ih =>
  intro hc M v w hM h
  obtain ⟨A1, c1, A2, c2, rfl, _, h1, h2⟩ := h.open
  rw [Tm.count_mk] at hc ⊢
  exact termOf_of k n a lv kids ih A1 A2 c1 c2 _ _ M w rfl rfl hc hM h1 h2
theorem termsOf_any (ts : List Tm) (A : Option Addr) (c M n : Nat) (w : World) (hn : ts.length = n) (hs : Tm.countL ts ≤ 1048576) (hM : M ≤ 1048576) (h : Tms w w.heap.size A c ts) :
  Calls Tryz.prog 7 #[.slice A n c, .int .i64 (M : Int)] w (CountPost w (Tm.countL ts) M) := termsOf_of ts (fun t _ => termOf_any t) A c M n w hn hs hM h
mutual
def Tm.size : Tm → Nat
 | .mk _ _ _ _ kids => 1 + Tm.sizeL kids
def Tm.sizeL : List Tm → Nat
 | [] => 0
 | t :: ts => t.size + Tm.sizeL ts
end
theorem Tm.size_mk (k n a : Int) (lv : List (List (Int × Int))) (kids : List Tm) : (Tm.mk k n a lv kids).size = 1 + Tm.sizeL kids := by rw [Tm.size]
theorem Tm.sizeL_take : ∀ (ts : List Tm) (i : Nat) (t : Tm), ts[i]? = some t → Tm.sizeL (ts.take (i + 1)) = Tm.sizeL (ts.take i) + t.size
 | [], i, t, h => by simp at h
 | s :: ts, 0, t, h => by
  injection h with h
  subst h
  simp [Tm.sizeL]
 | s :: ts, i + 1, t, h => by
  have := Tm.sizeL_take ts i t (by simpa using h)
  rw [List.take_succ_cons, List.take_succ_cons]
  simp only [Tm.sizeL, this]
  omega
theorem Tm.sizeL_le : ∀ (ts : List Tm) (k : Nat), Tm.sizeL (ts.take k) ≤ Tm.sizeL ts
 | [], k => by simp
 | t :: ts, 0 => by simp [Tm.sizeL]
 | t :: ts, k + 1 => by
  have := Tm.sizeL_le ts k
  rw [List.take_succ_cons]
  simp only [Tm.sizeL]
  omega
theorem Tm.sizeL_mem {ts : List Tm} {t : Tm} (h : t ∈ ts) : t.size ≤ Tm.sizeL ts := by
 obtain ⟨i, hi⟩ := List.getElem?_of_mem h
 have h1 := Tm.sizeL_take ts i t hi
 have h2 := Tm.sizeL_le ts (i + 1)
 omega
theorem Tm.sizeL_length : ∀ ts : List Tm, ts.length ≤ Tm.sizeL ts
 | [] => by simp
 | .mk k n a lv kids :: ts => by
  have := Tm.sizeL_length ts
  simp only [Tm.sizeL, Tm.size_mk, List.length_cons]
  omega
def SizeTm (t : Tm) : Prop := t.size ≤ 1073741824 → ∀ (v : Value) (w : World), TmAt w w.heap.size t v → Calls Tryz.prog 26 #[v] w (fun e w' => e = .returned (.int .i64 (t.size : Int)) ∧ Below w.heap.size w w')
set_option maxHeartbeats 1000000 in
theorem size_of (k1 n1 a1 : Int) (kids : List Tm) (ih : ∀ t ∈ kids, SizeTm t) (A1 A2 : Option Addr) (c1 c2 p1 p2 : Nat) (w : World) (hp2 : kids.length = p2) (hc : 1 + Tm.sizeL kids ≤ 1073741824) (h2 : Tms w w.heap.size A2 c2 kids) :
  Calls Tryz.prog 26 #[.agg #[.int .i64 k1, .int .i64 n1, .int .i64 a1, .slice A1 p1 c1, .slice A2 p2 c2]] w (fun e w' => e = .returned (.int .i64 ((1 + Tm.sizeL kids : Nat) : Int)) ∧ Below w.heap.size w w') := by
 have hl := Tm.sizeL_length kids
 have hp9 : p2 ≤ 1073741824 := by omega
 have HL := Lib.hid h2
 have HN := Lib.hid hp2
 have HS := Lib.hid hc
 have IH := Lib.hid ih
 have HB0 : Hid (Below w.heap.size w (w.alloc (.cells #[.int .i64 k1, .int .i64 n1, .int .i64 a1, .slice A1 p1 c1, .slice A2 p2 c2] 26))) := (Below.refl _ _).alloc (Nat.le_refl _) _
 clear h2 hp2 hc ih hl
 go_enter Tryz.func26, Tryz.ntmps26
 go_wp2
 go_loopw [3, 9] (fun u i wr => ∃ (k : Nat), k ≤ p2 ∧ i = .int .i64 (k : Int) ∧ u = .int .i64 ((1 + Tm.sizeL (kids.take k) : Nat) : Int) ∧ Below w.heap.size w wr) (fun _ i _ => p2 - (intOf i).toNat)
 case atStart => exact ⟨0, Nat.zero_le _, rfl, by simp [Tm.sizeL], HB0.out⟩
 case round =>
  obtain ⟨k, hk, rfl, rfl, hb⟩ := hrel
  have hbz := hb.size
  have hle := Tm.sizeL_le kids k
  have hs9 := HS.out
  by_cases hlt : k < p2
  ·obtain ⟨t, ht⟩ : ∃ t, kids[k]? = some t := ⟨_, List.getElem?_eq_getElem (by rw [HN.out]; exact hlt)⟩
   obtain ⟨b, o, k2, n2, a2, A3, p3, c3, A4, p4, c4, e, hbB, hv, f0, f1, f2, f3, f4⟩ := HL.out.at hb ht
   subst e
   have hct := Tm.sizeL_take kids k t ht
   have hle1 := Tm.sizeL_le kids (k + 1)
   have hm := Tm.sizeL_mem (List.mem_of_getElem? ht)
   have HC : Hid (∀ w', Below wr.heap.size wr w' → Calls Tryz.prog 26 #[.agg #[.int .i64 k2, .int .i64 n2, .int .i64 a2, .slice A3 p3 c3, .slice A4 p4 c4]] w' (fun e w9 => e = .returned (.int .i64 (t.size : Int)) ∧ Below w'.heap.size w' w9)) := fun w' hx => by
    have hx2 := hb.trans (hx.mono hbz)
    exact IH.out t (List.mem_of_getElem? ht) (by omega) _ w' (hv.below hx2 hx2.size)
   have ws : IntKind.i64.wrap (((1 + Tm.sizeL (kids.take k) : Nat) : Int) + (t.size : Int)) = ((1 + Tm.sizeL (kids.take (k + 1)) : Nat) : Int) := by rw [IntWalk.i64_in _ (by omega)]; omega
   have HB := Lib.hid hb
   have ij0 : (0 : Int) ≤ (k : Int) := by omega
   have ij1 : (k : Int) < (p2 : Int) := by omega
   obtain ⟨u, hu⟩ : ∃ u : Int, ((1 + Tm.sizeL (kids.take k) : Nat) : Int) = u := ⟨_, rfl⟩
   obtain ⟨s, hs⟩ : ∃ s : Int, (t.size : Int) = s := ⟨_, rfl⟩
   obtain ⟨u', hu'⟩ : ∃ u : Int, ((1 + Tm.sizeL (kids.take (k + 1)) : Nat) : Int) = u := ⟨_, rfl⟩
   rw [hu, hs, hu'] at ws
   rw [hs] at HC
   rw [hu]
   have HU := Lib.hid hu'
   clear hb hv hct ht hm hu hs hu' hle hle1 hs9
   go_wp2_with (fail)
   refine (HC.out _ ((Below.refl _ _).alloc (Nat.le_refl _) _)).mono ?_
   rintro e w1 ⟨rfl, hb1⟩
   have HB1 : Hid (Below w.heap.size w w1) := HB.out.trans ((((Below.refl _ _).alloc (Nat.le_refl _) _).trans (hb1.mono (by simp))).mono hbz)
   clear hb1
   go_wp2
   go_roundw
   case rel => exact ⟨k + 1, by omega, by go_num, by rw [HU.out], HB1.out⟩
   case measure => simp [intOf]; omega
  ·have hq : kids.take k = kids := List.take_of_length_le (by rw [HN.out]; omega)
   rw [hq]
   have HB := Lib.hid hb
   clear hb hq
   go_wp2
   go_ret
   exact ⟨rfl, HB.out⟩
theorem size_any : ∀ t : Tm, SizeTm t := by
 intro t
 induction t using Tm.ind with
 | h k n a lv kids ih =>
  intro hc v w h
  obtain ⟨A1, c1, A2, c2, rfl, _, h1, h2⟩ := h.open
  rw [Tm.size_mk] at hc ⊢
  exact size_of k n a kids ih A1 A2 c1 c2 _ _ w rfl hc h2
set_option maxHeartbeats 1000000 in
theorem great_any (ts : List Tm) (A : Option Addr) (c n : Nat) (w : World) (hn : ts.length = n) (hs : Tm.countL ts ≤ 1048576) (h : Tms w w.heap.size A c ts) :
  Calls Tryz.prog 4 #[.slice A n c] w (HasPost w (decide (600 < Tm.countL ts))) := by
 have HC := Lib.hid (termsOf_any ts A c 600 n w hn hs (by decide) h)
 obtain ⟨s, hs⟩ : ∃ s, Tm.countL ts = s := ⟨_, rfl⟩
 rw [hs] at HC ⊢
 clear h hn hs
 go_enter Tryz.func4, Tryz.ntmps4
 go_wp2_with (fail)
 refine HC.out.mono ?_
 rintro e w1 ⟨r, rfl, q1, q2, hb⟩
 have HF : Hid (HasPost w (decide (600 < s)) (.returned (.bool (decide ((600 : Int) < (r : Int))))) w1) := ⟨by
   congr 2
   by_cases g : 600 < r
   · rw [decide_eq_true (show 600 < s by omega), decide_eq_true (by omega)]
   · rw [decide_eq_false (show ¬ 600 < s by have := q2 (by omega); omega), decide_eq_false (by omega)], hb⟩
 clear hb q2
 go_wp2
 go_ret
 exact HF.out
set_option maxHeartbeats 1000000 in
theorem same2_any (t u : Tm) (va vb : Value) (w : World) (r : Bool) (hc : t.fit) (hc' : u.fit) (ha : TmAt w w.heap.size t va) (hb : TmAt w w.heap.size u vb) (hr : r = true ↔ t = u) :
  Calls Tryz.prog 14 #[va, vb] w (HasPost w r) := by
 obtain ⟨k1, n1, a1, lv1, kids1⟩ := t
 obtain ⟨k2, n2, a2, lv2, kids2⟩ := u
 obtain ⟨A1, c1, A2, c2, rfl, p1, h1, h2⟩ := ha.open
 obtain ⟨A3, c3, A4, c4, rfl, p2, h3, h4⟩ := hb.open
 have HC : Hid (∀ w', Below w.heap.size w w' → Calls Tryz.prog 38 #[.agg #[.int .i64 k1, .int .i64 n1, .int .i64 a1, .slice A1 lv1.length c1, .slice A2 kids1.length c2], .agg #[.int .i64 k2, .int .i64 n2, .int .i64 a2, .slice A3 lv2.length c3, .slice A4 kids2.length c4]] w' (HasPost w' r)) := fun w' hx =>
  sameTerm_any _ hc _ _ _ w' r hc' (ha.below hx hx.size) (hb.below hx hx.size) hr
 obtain ⟨l1, e1⟩ : ∃ l, lv1.length = l := ⟨_, rfl⟩
 obtain ⟨l2, e2⟩ : ∃ l, kids1.length = l := ⟨_, rfl⟩
 obtain ⟨l3, e3⟩ : ∃ l, lv2.length = l := ⟨_, rfl⟩
 obtain ⟨l4, e4⟩ : ∃ l, kids2.length = l := ⟨_, rfl⟩
 rw [e1, e2, e3, e4] at HC ⊢
 have HB0 : Hid (Below w.heap.size w ((w.alloc (.cells #[.int .i64 k1, .int .i64 n1, .int .i64 a1, .slice A1 l1 c1, .slice A2 l2 c2] 26)).alloc (.cells #[.int .i64 k2, .int .i64 n2, .int .i64 a2, .slice A3 l3 c3, .slice A4 l4 c4] 26))) := ((Below.refl _ _).alloc (Nat.le_refl _) _).alloc (by simp) _
 clear ha hb h1 h2 h3 h4 hr e1 e2 e3 e4 hc hc' p1 p2
 go_enter Tryz.func14, Tryz.ntmps14
 go_wp2_with (fail)
 refine (HC.out _ HB0.out).mono ?_
 rintro e w1 ⟨rfl, hb1⟩
 have HB1 : Hid (Below w.heap.size w w1) := HB0.out.trans (hb1.mono HB0.out.size)
 clear hb1
 go_wp2
 go_ret
 exact ⟨rfl, HB1.out⟩
def RightAt (ps : List (Int × Int)) (n : Int) (i : Nat) : Prop :=
 0 ≤ (ps.getD i (0, 0)).1 ∧ (ps.getD i (0, 0)).1 ≤ n ∧ 0 ≤ (ps.getD i (0, 0)).2 ∧ (ps.getD i (0, 0)).2 ≤ 1000 ∧ (0 < i → (ps.getD (i - 1) (0, 0)).1 < (ps.getD i (0, 0)).1)
def RightS (ps : List (Int × Int)) (n : Int) : Prop := ps.length ≤ 9 ∧ ∀ i, i < ps.length → RightAt ps n i
theorem right_snoc {ps : List (Int × Int)} {n : Int} {k : Nat} (h : ∀ i, i < k → RightAt ps n i) (hk : RightAt ps n k) : ∀ i, i < k + 1 → RightAt ps n i := fun i hi => by
 rcases Nat.lt_succ_iff_lt_or_eq.1 hi with hi | rfl
 ·exact h i hi
 ·exact hk
set_option maxHeartbeats 4000000 in
theorem right_any (A : Option Addr) (ps : List (Int × Int)) (c : Nat) (n : Int) (w : World) (hm : ps.length ≤ maxLen) (h : Lev w w.heap.size A ps) (r : Bool) (hr : r = true ↔ RightS ps n) :
  Calls Tryz.prog 123 #[.agg #[.slice A ps.length c], .int .i64 n] w (HasPost w r) := by
 unfold maxLen at hm
 have HB0 := Lib.hid ((Below.refl w.heap.size w).alloc (Nat.le_refl _) (.cells #[.slice A ps.length c] 47))
 have HR := Lib.hid hr
 have HL := Lib.hid h
 obtain ⟨len, hlen⟩ : ∃ len, ps.length = len := ⟨_, rfl⟩
 have HLN := Lib.hid hlen
 rw [hlen] at HB0 hm ⊢
 have X0 := Lib.hid (heap_alloc_new w (.cells #[.slice A len c] 47))
 clear h hr hlen
 go_enter Tryz.func123, Tryz.ntmps123
 by_cases h9 : (9 : Int) < (len : Int)
 ·have HF : Hid (HasPost w r (.returned (.bool false)) (w.alloc (.cells #[.slice A len c] 47))) := ⟨by
    have : r = false := by
      rcases r with _ | _
      · rfl
      · have := (HR.out.1 rfl).1
        have := HLN.out
        omega
    rw [this], HB0.out⟩
  go_wp2
  go_ret
  exact HF.out
 ·have d9 : decide ((9 : Int) < (len : Int)) = false := by simpa using h9
  go_wp2
  go_loopw [14] (fun i wr => ∃ k : Nat, k ≤ len ∧ i = .int .i64 k ∧ Below (w.heap.size + 1) (w.alloc (.cells #[.slice A len c] 47)) wr ∧ ∀ j, j < k → RightAt ps n j) (fun i _ => len - (intOf i).toNat)
  case atStart => exact ⟨0, Nat.zero_le _, rfl, Below.refl _ _, fun j hj => absurd hj (by omega)⟩
  case round =>
   obtain ⟨k, hk, rfl, hb, hs⟩ := hrel
   have hbz := hb.size
   simp at hbz
   have hB : Below w.heap.size w wr := HB0.out.trans (hb.mono (by omega))
   have e0 : wr.heap[w.heap.size]? = some (.cells #[.slice A len c] 47 (0, 0)) := (hb.block _ (by omega)).trans X0.out
   have f0 := cell_of_one e0
   by_cases hlt : k < len
   ·obtain ⟨b, o, rfl, hbB, hcell⟩ := HL.out (by have := HLN.out; omega)
    have c0 := (hB.cell hbB).trans (hcell k (by have := HLN.out; omega)).1
    have c1 := (hB.cell hbB).trans (hcell k (by have := HLN.out; omega)).2
    obtain ⟨x, hx⟩ : ∃ x, x = (ps.getD k (0, 0)).1 := ⟨_, rfl⟩
    obtain ⟨y, hy⟩ : ∃ y, y = (ps.getD k (0, 0)).2 := ⟨_, rfl⟩
    rw [← hx] at c0
    rw [← hy] at c1
    have HB := Lib.hid hb
    have ij0 : (0 : Int) ≤ (k : Int) := by omega
    have ij1 : (k : Int) < (len : Int) := by omega
    have hbw : b < wr.heap.size := by omega
    have hww : w.heap.size < wr.heap.size := by omega
    have HN : ∀ m, ¬ RightAt ps n k → Hid (HasPost w r (.returned (.bool false)) ((wr.alloc (.cells #[.int .i64 x, .int .i64 y] 95)).drewN m)) := fun m hn => ⟨by
      have : r = false := by
        rcases r with _ | _
        · rfl
        · exact absurd ((HR.out.1 rfl).2 k (by have := HLN.out; omega)) hn
      rw [this], below_drewN (hB.alloc (by omega) _) _⟩
    have HY : RightAt ps n k → Hid (∀ j, j < k + 1 → RightAt ps n j) := fun hy => right_snoc hs hy
    have HAT : Hid (RightAt ps n k ↔ 0 ≤ x ∧ x ≤ n ∧ 0 ≤ y ∧ y ≤ 1000 ∧ (0 < k → (ps.getD (k - 1) (0, 0)).1 < x)) := by
     unfold Hid RightAt
     rw [← hx, ← hy]
    have HPV : Hid (0 < k → wr.cell? ⟨b, o + (k - 1) * 2, none⟩ = some (.int .i64 (ps.getD (k - 1) (0, 0)).1)) := fun _ => (hB.cell hbB).trans (hcell (k - 1) (by have := HLN.out; omega)).1
    obtain ⟨pv, hpv⟩ : ∃ pv, pv = (ps.getD (k - 1) (0, 0)).1 := ⟨_, rfl⟩
    rw [← hpv] at HAT HPV
    have hn2 := two_new wr (.int .i64 x) (.int .i64 y) 95
    clear hs hx hy hcell hb hB e0 hpv
    by_cases t1 : x < 0
    ·have HF := fun m => HN m (fun h => by have := HAT.out.1 h; omega)
     clear HN HY HAT HPV
     go_wp2
     go_ret
     exact (HF 0).out
    ·have d1 : decide (x < 0) = false := by simpa using t1
     by_cases t2 : n < x
     ·have HF := fun m => HN m (fun h => by have := HAT.out.1 h; omega)
      clear HN HY HAT HPV
      go_wp2
      go_ret
      exact (HF 0).out
     ·have d2 : decide (n < x) = false := by simpa using t2
      by_cases t3 : y < 0
      ·have HF := fun m => HN m (fun h => by have := HAT.out.1 h; omega)
       clear HN HY HAT HPV
       go_wp2
       go_ret
       exact (HF 0).out
      ·have d3 : decide (y < 0) = false := by simpa using t3
       by_cases t4 : 1000 < y
       ·have HF := fun m => HN m (fun h => by have := HAT.out.1 h; omega)
        clear HN HY HAT HPV
        go_wp2
        go_ret
        exact (HF 0).out
       ·have d4 : decide (1000 < y) = false := by simpa using t4
        by_cases t5 : 0 < k
        ·obtain ⟨j, rfl⟩ : ∃ j, k = j + 1 := ⟨k - 1, by omega⟩
         have cp := HPV.out (by omega)
         simp only [Nat.add_sub_cancel] at cp
         have ij2 : (0 : Int) ≤ (j : Int) := by omega
         have ij3 : (j : Int) < (len : Int) := by omega
         have ij4 : (0 : Int) < ((j : Int) + 1) := by omega
         by_cases t6 : x ≤ pv
         ·have HF := fun m => HN m (fun h => by have := (HAT.out.1 h).2.2.2.2 (by omega); omega)
          clear HN HY HAT HPV
          go_wp2_with (fail)
          go_quiet (fail)
          go_wp2
          go_ret
          exact (HF _).out
         ·have d6 : decide (x ≤ pv) = false := by simpa using t6
          have HF := HY (HAT.out.2 ⟨by omega, by omega, by omega, by omega, fun _ => by omega⟩)
          clear HN HY HAT HPV
          go_wp2_with (fail)
          go_quiet (fail)
          go_wp2
          go_roundw
          case rel => exact ⟨j + 1 + 1, by omega, by go_num, below_drewN (HB.out.alloc (by omega) _) _, HF.out⟩
          case measure => simp [intOf]; omega
        ·obtain rfl : k = 0 := by omega
         simp only [Nat.zero_mul, Nat.add_zero] at c0 c1
         have HF := HY (HAT.out.2 ⟨by omega, by omega, by omega, by omega, fun _ => by omega⟩)
         clear HN HY HAT HPV
         go_wp2_with (fail)
         go_quiet (fail)
         go_wp2
         go_roundw
         case rel => exact ⟨0 + 1, by omega, by go_num, below_drewN (HB.out.alloc (by omega) _) _, HF.out⟩
         case measure => simp [intOf]; omega
   ·obtain rfl : k = len := by omega
    have HF : Hid (HasPost w r (.returned (.bool true)) wr) := ⟨by
      have : r = true := HR.out.2 ⟨by have := HLN.out; omega, fun i hi => hs i (by have := HLN.out; omega)⟩
      rw [this], hB⟩
    clear hs hb hB e0
    go_wp2
    go_ret
    exact HF.out
end Go.Proofs.YtafgmndlbbjphaaGreatDoor
