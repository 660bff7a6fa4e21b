/- What the sameness of rows of levels, of terms answers: whether they are node by node; no list longer than 2^20. -/
import Derived.Test.YtafgmndlbbjphaaDoorTmCount
import Derived.Test.YtafgmndlbbjphaaDoorLvKindsB
namespace Go.Proofs.YtafgmndlbbjphaaDoor
open Go.RowKit Go.Maps

theorem bool_is (P : Prop) : ∃ r : Bool, r = true ↔ P := by
  by_cases h : P
  · exact ⟨true, by simpa using h⟩
  · exact ⟨false, by simpa using h⟩
set_option maxRecDepth 100000 in
theorem enter_sameLv (vs : Array Value) (w : World) : (callFunc 45 vs).run Tryd.prog w = .ok (.enter 45 vs) w := by go_simp
set_option maxRecDepth 100000 in
theorem enter_sameTm (vs : Array Value) (w : World) : (callFunc 21 vs).run Tryd.prog w = .ok (.enter 21 vs) w := by go_simp
set_option maxRecDepth 100000 in
theorem term_addr {b o n c k : Nat} {w : World} (h0 : (0 : Int) ≤ (k : Int)) (h1 : (k : Int) < (n : Int)) : (Instr.indexAt 24 (.slice (some ⟨b, o, none⟩) n c) (.int .i64 (k : Int))).run Tryd.prog w = .ok (.pointer (some ⟨b, o + k * 5, none⟩)) w := by go_simp
set_option maxRecDepth 100000 in
theorem load_term {b o : Nat} {w : World} {k n a : Int} {Al Ak : Option Addr} {nl cl nk ck : Nat} (h0 : w.cell? ⟨b, o, none⟩ = some (.int .i64 k)) (h1 : w.cell? ⟨b, o + 1, none⟩ = some (.int .i64 n)) (h2 : w.cell? ⟨b, o + 2, none⟩ = some (.int .i64 a)) (h3 : w.cell? ⟨b, o + 3, none⟩ = some (.slice Al nl cl)) (h4 : w.cell? ⟨b, o + 4, none⟩ = some (.slice Ak nk ck)) :
    (Instr.loadAt 26 (.pointer (some ⟨b, o, none⟩))).run Tryd.prog w = .ok (.agg #[.int .i64 k, .int .i64 n, .int .i64 a, .slice Al nl cl, .slice Ak nk ck]) w := by go_simp

/-- two rows that are one so far -/
theorem same_end {α : Type} {l m : List α} (hl : l.length = m.length) (h : ∀ j, j < l.length → l[j]? = m[j]?) : l = m := List.ext_getElem? fun j => by
  by_cases hj : j < l.length
  · exact h j hj
  · rw [List.getElem?_eq_none (by omega), List.getElem?_eq_none (by omega)]
set_option maxRecDepth 100000 in
set_option maxHeartbeats 4000000 in
theorem sameLevels_any (A A' : Option Addr) (ls ms : List (List (Int × Int))) (c c' n n' : Nat) (w : World) (hn : ls.length = n) (hn' : ms.length = n') (hs : SlimL ls) (hs' : SlimL ms) (h : Levs w w.heap.size A ls) (h' : Levs w w.heap.size A' ms) (r : Bool) (hr : r = true ↔ ls = ms) :
    Calls Tryd.prog 35 #[.slice A n c, .slice A' n' c'] w (HasPost w r) := by
  have hn9 : n ≤ 1048576 := by have := hs.1; omega
  have hn8 : n' ≤ 1048576 := by have := hs'.1; omega
  have HR := Lib.hid hr
  have HN := Lib.hid hn
  have HN' := Lib.hid hn'
  have HS := Lib.hid hs
  have HS' := Lib.hid hs'
  have HL := Lib.hid h
  have HL' := Lib.hid h'
  clear hr hn hn' hs hs' h h'
  by_cases hl : n = n'
  · subst hl
    have lf : ((n : Int) != (n : Int)) = false := by simp
    go_enter Tryd.func35, Tryd.ntmps35
    go_wp2
    go_loopw [5] (fun i wr => ∃ k : Nat, k ≤ n ∧ i = .int .i64 (k : Int) ∧ Below w.heap.size w wr ∧ ∀ j, j < k → ls[j]? = ms[j]?) (fun i _ => n - (intOf i).toNat)
    case atStart => exact ⟨0, Nat.zero_le _, rfl, Below.refl _ _, fun j hj => absurd hj (by omega)⟩
    case round =>
      obtain ⟨k, hk, rfl, hb, hso⟩ := hrel
      have hbz := hb.size
      by_cases hlt : k < n
      · obtain ⟨b, o, e, hbB, hcell⟩ := HL.out (by rw [HN.out]; omega)
        obtain ⟨b', o', e', hbB', hcell'⟩ := HL'.out (by rw [HN'.out]; omega)
        subst e e'
        obtain ⟨Ai, ci, q0, q1, _, _⟩ := hcell k (by rw [HN.out]; exact hlt)
        obtain ⟨Bi, di, p0, p1, _, _⟩ := hcell' k (by rw [HN'.out]; exact hlt)
        have m1 := HS.out.2 (ls.getD k []) (by rw [List.getD_eq_getElem?_getD, List.getElem?_eq_getElem (by rw [HN.out]; exact hlt)]; exact List.getElem_mem _)
        have m2 := HS'.out.2 (ms.getD k []) (by rw [List.getD_eq_getElem?_getD, List.getElem?_eq_getElem (by rw [HN'.out]; exact hlt)]; exact List.getElem_mem _)
        obtain ⟨l, hl⟩ : ∃ l, ls.getD k [] = l := ⟨_, rfl⟩
        obtain ⟨m, hm⟩ : ∃ l, ms.getD k [] = l := ⟨_, rfl⟩
        have el : ls[k]? = some l := by rw [← hl, List.getD_eq_getElem?_getD, List.getElem?_eq_getElem (by rw [HN.out]; exact hlt)]; rfl
        have em : ms[k]? = some m := by rw [← hm, List.getD_eq_getElem?_getD, List.getElem?_eq_getElem (by rw [HN'.out]; exact hlt)]; rfl
        rw [hl] at q0 q1 m1
        rw [hm] at p0 p1 m2
        obtain ⟨rk, hrk⟩ := bool_is (l = m)
        have c0 := (hb.cell (p := ⟨b, o + k, none⟩) hbB).trans q0
        have d0 := (hb.cell (p := ⟨b', o' + k, none⟩) hbB').trans p0
        have HC : Hid (∀ w', Below wr.heap.size wr w' → Calls Tryd.prog 45 #[.agg #[.slice Ai l.length ci], .agg #[.slice Bi m.length di]] w' (HasPost w' rk)) := fun w' hx => by
          have hx2 : Below w.heap.size w w' := hb.trans (hx.mono hbz)
          exact sameLevel_any Ai Bi l m ci di w' (by unfold maxLen; omega) (by unfold maxLen; omega) ((q1.below hx2).more hx2.size) ((p1.below hx2).more hx2.size) rk hrk
        obtain ⟨nl, hnl⟩ : ∃ j, l.length = j := ⟨_, rfl⟩
        obtain ⟨nm, hnm⟩ : ∃ j, m.length = j := ⟨_, rfl⟩
        rw [hnl] at c0 HC
        rw [hnm] at d0 HC
        have HB := Lib.hid hb
        have HSO := Lib.hid hso
        have HRK := Lib.hid hrk
        have EL := Lib.hid el
        have EM := Lib.hid em
        have ij0 : (0 : Int) ≤ (k : Int) := by omega
        have ij1 : (k : Int) < (n : Int) := by omega
        have hbr : b < wr.heap.size := by omega
        have hbr' : b' < wr.heap.size := by omega
        clear hb hso hrk el em q0 q1 p0 p1 hcell hcell' hl hm hnl hnm m1 m2
        have hS : Below wr.heap.size wr wr.drew := (Below.refl _ _).drew
        go_upto_region 6 with (fail)
        refine wp_region_tab (fun w' => Below wr.heap.size wr w') (fun w1 w2 : World => Below w1.heap.size w1 w2) [(fun (x : Value) (_ : World) => x = (.slice (some ⟨b, o, none⟩) n c : Value)), (fun (x : Value) (_ : World) => x = (.int .i64 (k : Int) : Value)), (fun (x : Value) (_ : World) => x = (.pointer (some ⟨b, o + k, none⟩) : Value)), (fun (x : Value) (_ : World) => x = (.agg #[.slice Ai nl ci] : Value)), (fun (x : Value) (_ : World) => x = (.slice (some ⟨b', o', none⟩) n c' : Value)), (fun (x : Value) (_ : World) => x = (.int .i64 (k : Int) : Value)), (fun (x : Value) (_ : World) => x = (.pointer (some ⟨b', o' + k, none⟩) : Value)), (fun (x : Value) (_ : World) => x = (.agg #[.slice Bi nm di] : Value)), (fun (x : Value) (_ : World) => x = (.bool rk : Value)), (fun (x : Value) (_ : World) => x = (.bool (!rk) : Value))] [⟨some 17, .move (.tmp 0), none, []⟩, ⟨some 18, .move (.tmp 5), none, []⟩, ⟨some 19, .indexAddr 23 (.tmp 17) (.tmp 18), none, [(17, 0), (18, 1)]⟩, ⟨some 20, .load 56 (.tmp 19), none, [(19, 2)]⟩, ⟨some 21, .move (.tmp 1), none, []⟩, ⟨some 22, .move (.tmp 5), none, []⟩, ⟨some 23, .indexAddr 23 (.tmp 21) (.tmp 22), none, [(21, 4), (22, 5)]⟩, ⟨some 24, .load 56 (.tmp 23), none, [(23, 6)]⟩, ⟨some 25, .call { callee := .value (.func 45), args := #[.tmp 20, .tmp 24], argTypes := #[56, 56] }, none, [(20, 3), (24, 7)]⟩, ⟨some 26, .unOp .not 4 (.tmp 25), none, [(25, 8)]⟩] [some 17, some 18, some 19, some 20, some 21, some 22, some 23, some 24, some 25, some 26] (by kernel_rfl) (by kernel_rfl) (by kernel_rfl) (by kernel_rfl) (by kernel_rfl) ?hS ?hmono ?hsteps ?hfin
        case hS => exact hS
        case hmono =>
          refine MonoL.cons (fun x w1 w2 _ _ _ hx => hx) ?_
          refine MonoL.cons (fun x w1 w2 _ _ _ hx => hx) ?_
          refine MonoL.cons (fun x w1 w2 _ _ _ hx => hx) ?_
          refine MonoL.cons (fun x w1 w2 _ _ _ hx => hx) ?_
          refine MonoL.cons (fun x w1 w2 _ _ _ hx => hx) ?_
          refine MonoL.cons (fun x w1 w2 _ _ _ hx => hx) ?_
          refine MonoL.cons (fun x w1 w2 _ _ _ hx => hx) ?_
          refine MonoL.cons (fun x w1 w2 _ _ _ hx => hx) ?_
          refine MonoL.cons (fun x w1 w2 _ _ _ hx => hx) ?_
          refine MonoL.cons (fun x w1 w2 _ _ _ hx => hx) ?_
          exact MonoL.nil
        case hsteps =>
          refine StepsT.cons (fun (x : Value) (_ : World) => x = (.slice (some ⟨b, o, none⟩) n c : Value)) [] rfl rfl (fun oq hop _ wq hQS => ?_) ?_
          · exact StepFrom.move hop (v := (.slice (some ⟨b, o, none⟩) n c : Value)) (by kernel_rfl) (by kernel_rfl) hQS (Below.refl _ _) rfl
          refine StepsT.cons (fun (x : Value) (_ : World) => x = (.int .i64 (k : Int) : Value)) [] rfl rfl (fun oq hop _ wq hQS => ?_) ?_
          · exact StepFrom.move hop (v := (.int .i64 (k : Int) : Value)) (by kernel_rfl) (by kernel_rfl) hQS (Below.refl _ _) rfl
          refine StepsT.cons (fun (x : Value) (_ : World) => x = (.pointer (some ⟨b, o + k, none⟩) : Value)) [(17, (fun (x : Value) (_ : World) => x = (.slice (some ⟨b, o, none⟩) n c : Value))), (18, (fun (x : Value) (_ : World) => x = (.int .i64 (k : Int) : Value)))] rfl rfl (fun oq hop _ wq hQS => ?_) ?_
          · refine StepFrom.more_eq ((.slice (some ⟨b, o, none⟩) n c : Value)) ?_
            refine StepFrom.more_eq ((.int .i64 (k : Int) : Value)) ?_
            exact StepFrom.indexAddr hop (p := (.slice (some ⟨b, o, none⟩) n c : Value)) (q := (.int .i64 (k : Int) : Value)) (by kernel_rfl) (by kernel_rfl) (lev_addr_o ij0 ij1) (by kernel_rfl) hQS (Below.refl _ _) rfl
          refine StepsT.cons (fun (x : Value) (_ : World) => x = (.agg #[.slice Ai nl ci] : Value)) [(19, (fun (x : Value) (_ : World) => x = (.pointer (some ⟨b, o + k, none⟩) : Value)))] rfl rfl (fun oq hop _ wq hQS => ?_) ?_
          · refine StepFrom.more_eq ((.pointer (some ⟨b, o + k, none⟩) : Value)) ?_
            exact StepFrom.load hop (p := (.pointer (some ⟨b, o + k, none⟩) : Value)) (by kernel_rfl) (load_lev_at ((hQS.cell (p := ⟨b, o + k, none⟩) hbr).trans c0)) (by kernel_rfl) hQS (Below.refl _ _) rfl
          refine StepsT.cons (fun (x : Value) (_ : World) => x = (.slice (some ⟨b', o', none⟩) n c' : Value)) [] rfl rfl (fun oq hop _ wq hQS => ?_) ?_
          · exact StepFrom.move hop (v := (.slice (some ⟨b', o', none⟩) n c' : Value)) (by kernel_rfl) (by kernel_rfl) hQS (Below.refl _ _) rfl
          refine StepsT.cons (fun (x : Value) (_ : World) => x = (.int .i64 (k : Int) : Value)) [] rfl rfl (fun oq hop _ wq hQS => ?_) ?_
          · exact StepFrom.move hop (v := (.int .i64 (k : Int) : Value)) (by kernel_rfl) (by kernel_rfl) hQS (Below.refl _ _) rfl
          refine StepsT.cons (fun (x : Value) (_ : World) => x = (.pointer (some ⟨b', o' + k, none⟩) : Value)) [(21, (fun (x : Value) (_ : World) => x = (.slice (some ⟨b', o', none⟩) n c' : Value))), (22, (fun (x : Value) (_ : World) => x = (.int .i64 (k : Int) : Value)))] rfl rfl (fun oq hop _ wq hQS => ?_) ?_
          · refine StepFrom.more_eq ((.slice (some ⟨b', o', none⟩) n c' : Value)) ?_
            refine StepFrom.more_eq ((.int .i64 (k : Int) : Value)) ?_
            exact StepFrom.indexAddr hop (p := (.slice (some ⟨b', o', none⟩) n c' : Value)) (q := (.int .i64 (k : Int) : Value)) (by kernel_rfl) (by kernel_rfl) (lev_addr_o ij0 ij1) (by kernel_rfl) hQS (Below.refl _ _) rfl
          refine StepsT.cons (fun (x : Value) (_ : World) => x = (.agg #[.slice Bi nm di] : Value)) [(23, (fun (x : Value) (_ : World) => x = (.pointer (some ⟨b', o' + k, none⟩) : Value)))] rfl rfl (fun oq hop _ wq hQS => ?_) ?_
          · refine StepFrom.more_eq ((.pointer (some ⟨b', o' + k, none⟩) : Value)) ?_
            exact StepFrom.load hop (p := (.pointer (some ⟨b', o' + k, none⟩) : Value)) (by kernel_rfl) (load_lev_at ((hQS.cell (p := ⟨b', o' + k, none⟩) hbr').trans d0)) (by kernel_rfl) hQS (Below.refl _ _) rfl
          refine StepsT.cons (fun (x : Value) (_ : World) => x = (.bool rk : Value)) [(20, (fun (x : Value) (_ : World) => x = (.agg #[.slice Ai nl ci] : Value))), (24, (fun (x : Value) (_ : World) => x = (.agg #[.slice Bi nm di] : Value)))] rfl rfl (fun oq hop _ wq hQS => ?_) ?_
          · refine StepFrom.more_eq ((.agg #[.slice Ai nl ci] : Value)) ?_
            refine StepFrom.more_eq ((.agg #[.slice Bi nm di] : Value)) ?_
            exact StepFrom.call hop (vs := [(.agg #[.slice Ai nl ci] : Value), (.agg #[.slice Bi nm di] : Value)]) (by kernel_rfl) (fun w => enter_sameLv _ w) (by kernel_rfl) ((HC.out wq hQS).mono fun e w9 h9 => ⟨_, h9.1, hQS.trans (h9.2.mono hQS.size), h9.2, rfl⟩)
          refine StepsT.cons (fun (x : Value) (_ : World) => x = (.bool (!rk) : Value)) [(25, (fun (x : Value) (_ : World) => x = (.bool rk : Value)))] rfl rfl (fun oq hop _ wq hQS => ?_) ?_
          · refine StepFrom.more_eq ((.bool rk : Value)) ?_
            exact StepFrom.not hop (b := rk) (by kernel_rfl) (by kernel_rfl) hQS (Below.refl _ _) rfl
          exact StepsT.nil
        case hfin =>
          intro wf hFS
          refine FinalFrom.more fun x17 h17 => ?_
          refine FinalFrom.more fun x18 h18 => ?_
          refine FinalFrom.more fun x19 h19 => ?_
          refine FinalFrom.more fun x20 h20 => ?_
          refine FinalFrom.more fun x21 h21 => ?_
          refine FinalFrom.more fun x22 h22 => ?_
          refine FinalFrom.more fun x23 h23 => ?_
          refine FinalFrom.more fun x24 h24 => ?_
          refine FinalFrom.more fun x25 h25 => ?_
          refine FinalFrom.more fun x26 h26 => ?_
          refine FinalFrom.done ?_
          obtain rfl : x26 = (.bool (!rk) : Value) := h26
          have HB2 : Hid (Below w.heap.size w wf) := HB.out.trans (hFS.mono hbz)
          clear hS hFS c0 d0
          simp only [Act.put, List.setIfInBounds_toArray, List.set_cons_zero, List.set_cons_succ]
          cases rk with
          | true =>
            have HSO2 : Hid (∀ j, j < k + 1 → ls[j]? = ms[j]?) := fun j hj => by
              rcases Nat.lt_succ_iff_lt_or_eq.1 hj with hj | rfl
              · exact HSO.out j hj
              · rw [EL.out, EM.out, HRK.out.1 rfl]
            go_wp2
            go_roundw
            case rel => exact ⟨k + 1, by omega, by go_num, HB2.out, HSO2.out⟩
            case measure => simp [intOf]; omega
          | false =>
            have HF : Hid (r = false) := by
              cases r with
              | false => rfl
              | true =>
                have e := HR.out.1 rfl
                have h1 := EL.out
                rw [e, EM.out] at h1
                injection h1 with h1
                have := HRK.out.2 h1.symm
                cases this
            go_wp2
            go_ret
            exact ⟨by rw [HF.out]; rfl, HB2.out⟩
      · have HF : Hid (r = true) := HR.out.2 (same_end (by rw [HN.out, HN'.out]) fun j hj => hso j (by rw [HN.out] at hj; omega))
        have HB := Lib.hid hb
        clear hb hso
        go_wp2
        go_ret
        exact ⟨by rw [HF.out]; rfl, HB.out⟩
  · have lf : ((n : Int) != (n' : Int)) = true := by simp; omega
    have HF : Hid (r = false) := by
      cases r with
      | false => rfl
      | true =>
        have e := HR.out.1 rfl
        have h1 := HN.out
        rw [e, HN'.out] at h1
        exact absurd h1.symm hl
    go_enter Tryd.func35, Tryd.ntmps35
    go_wp2
    go_ret
    exact ⟨by rw [HF.out]; rfl, Below.refl _ _⟩
/-- what SameTerm answers of a term and any other -/
def SameTm (t : Tm) : Prop := t.fit → ∀ (u : Tm) (va vb : Value) (w : World) (r : Bool), u.fit → TmAt w w.heap.size t va → TmAt w w.heap.size u vb → (r = true ↔ t = u) → Calls Tryd.prog 21 #[va, vb] w (HasPost w r)

set_option maxRecDepth 100000 in
set_option maxHeartbeats 4000000 in
theorem sameTerms_of (ls ms : List Tm) (ih : ∀ t ∈ ls, SameTm t) (A A' : Option Addr) (c c' n n' : Nat) (w : World) (hn : ls.length = n) (hn' : ms.length = n') (hs : ls.length ≤ 1048576 ∧ Tm.fitL ls) (hs' : ms.length ≤ 1048576 ∧ Tm.fitL ms) (h : Tms w w.heap.size A c ls) (h' : Tms w w.heap.size A' c' ms) (r : Bool) (hr : r = true ↔ ls = ms) :
    Calls Tryd.prog 36 #[.slice A n c, .slice A' n' c'] w (HasPost w r) := by
  have hn9 : n ≤ 1048576 := by have := hs.1; omega
  have hn8 : n' ≤ 1048576 := by have := hs'.1; omega
  have HR := Lib.hid hr
  have HN := Lib.hid hn
  have HN' := Lib.hid hn'
  have HS := Lib.hid hs
  have HS' := Lib.hid hs'
  have HL := Lib.hid h
  have HL' := Lib.hid h'
  have IH := Lib.hid ih
  clear hr hn hn' hs hs' h h' ih
  by_cases hl : n = n'
  · subst hl
    have lf : ((n : Int) != (n : Int)) = false := by simp
    go_enter Tryd.func36, Tryd.ntmps36
    go_wp2
    go_loopw [5] (fun i wr => ∃ k : Nat, k ≤ n ∧ i = .int .i64 (k : Int) ∧ Below w.heap.size w wr ∧ ∀ j, j < k → ls[j]? = ms[j]?) (fun i _ => n - (intOf i).toNat)
    case atStart => exact ⟨0, Nat.zero_le _, rfl, Below.refl _ _, fun j hj => absurd hj (by omega)⟩
    case round =>
      obtain ⟨k, hk, rfl, hb, hso⟩ := hrel
      have hbz := hb.size
      by_cases hlt : k < n
      · obtain ⟨t, el⟩ : ∃ t, ls[k]? = some t := ⟨ls[k]'(by rw [HN.out]; exact hlt), List.getElem?_eq_getElem _⟩
        obtain ⟨u, em⟩ : ∃ t, ms[k]? = some t := ⟨ms[k]'(by rw [HN'.out]; exact hlt), List.getElem?_eq_getElem _⟩
        obtain ⟨b, o, va, e, hbB, hfa, hta⟩ := HL.out.get el
        obtain ⟨b', o', vb, e', hbB', hfb, htb⟩ := HL'.out.get em
        subst e e'
        have m1 := (Tm.fitL_iff _).1 HS.out.2 _ (List.mem_of_getElem? el)
        have m2 := (Tm.fitL_iff _).1 HS'.out.2 _ (List.mem_of_getElem? em)
        have hta' := hta
        have htb' := htb
        obtain ⟨k1, n1, a1, lv1, kids1⟩ := t
        obtain ⟨k2, n2, a2, lv2, kids2⟩ := u
        obtain ⟨A1, c1, A2, c2, rfl, _, _, _⟩ := hta.open
        obtain ⟨A3, c3, A4, c4, rfl, _, _, _⟩ := htb.open
        obtain ⟨rk, hrk⟩ := bool_is (Tm.mk k1 n1 a1 lv1 kids1 = Tm.mk k2 n2 a2 lv2 kids2)
        have HC : Hid (∀ w', Below wr.heap.size wr w' → Calls Tryd.prog 21 #[.agg #[.int .i64 k1, .int .i64 n1, .int .i64 a1, .slice A1 lv1.length c1, .slice A2 kids1.length c2], .agg #[.int .i64 k2, .int .i64 n2, .int .i64 a2, .slice A3 lv2.length c3, .slice A4 kids2.length c4]] w' (HasPost w' rk)) := fun w' hx => by
          have hx2 : Below w.heap.size w w' := hb.trans (hx.mono hbz)
          exact IH.out _ (List.mem_of_getElem? el) m1 _ _ _ w' rk m2 (hta'.below hx2 hx2.size) (htb'.below hx2 hx2.size) hrk
        obtain ⟨d0, d1, d2, d3, d4, ed, f0, f1, f2, f3, f4⟩ := hfa
        obtain ⟨d5, d6, d7, d8, d9, ed', g0, g1, g2, g3, g4⟩ := hfb
        injection ed with ed
        injection ed with ed
        injection ed with e0 ed
        injection ed with e1 ed
        injection ed with e2 ed
        injection ed with e3 ed
        injection ed with e4 _
        subst e0 e1 e2 e3 e4
        injection ed' with ed
        injection ed with ed
        injection ed with e0 ed
        injection ed with e1 ed
        injection ed with e2 ed
        injection ed with e3 ed
        injection ed with e4 _
        subst e0 e1 e2 e3 e4
        obtain ⟨nl1, hnl1⟩ : ∃ j, lv1.length = j := ⟨_, rfl⟩
        obtain ⟨nk1, hnk1⟩ : ∃ j, kids1.length = j := ⟨_, rfl⟩
        obtain ⟨nl2, hnl2⟩ : ∃ j, lv2.length = j := ⟨_, rfl⟩
        obtain ⟨nk2, hnk2⟩ : ∃ j, kids2.length = j := ⟨_, rfl⟩
        rw [hnl1, hnk1, hnl2, hnk2] at HC
        rw [hnl1] at f3
        rw [hnk1] at f4
        rw [hnl2] at g3
        rw [hnk2] at g4
        replace f0 := (hb.cell (p := ⟨b, o + k * 5, none⟩) hbB).trans f0
        replace f1 := (hb.cell (p := ⟨b, o + k * 5 + 1, none⟩) hbB).trans f1
        replace f2 := (hb.cell (p := ⟨b, o + k * 5 + 2, none⟩) hbB).trans f2
        replace f3 := (hb.cell (p := ⟨b, o + k * 5 + 3, none⟩) hbB).trans f3
        replace f4 := (hb.cell (p := ⟨b, o + k * 5 + 4, none⟩) hbB).trans f4
        replace g0 := (hb.cell (p := ⟨b', o' + k * 5, none⟩) hbB').trans g0
        replace g1 := (hb.cell (p := ⟨b', o' + k * 5 + 1, none⟩) hbB').trans g1
        replace g2 := (hb.cell (p := ⟨b', o' + k * 5 + 2, none⟩) hbB').trans g2
        replace g3 := (hb.cell (p := ⟨b', o' + k * 5 + 3, none⟩) hbB').trans g3
        replace g4 := (hb.cell (p := ⟨b', o' + k * 5 + 4, none⟩) hbB').trans g4
        have HB := Lib.hid hb
        have HSO := Lib.hid hso
        have HRK := Lib.hid hrk
        have EL := Lib.hid el
        have EM := Lib.hid em
        have ij0 : (0 : Int) ≤ (k : Int) := by omega
        have ij1 : (k : Int) < (n : Int) := by omega
        have hbr : b < wr.heap.size := by omega
        have hbr' : b' < wr.heap.size := by omega
        clear hb hso hrk el em hta htb hta' htb' hnl1 hnk1 hnl2 hnk2 m1 m2
        have hS : Below wr.heap.size wr wr.drew := (Below.refl _ _).drew
        go_upto_region 6 with (fail)
        refine wp_region_tab (fun w' => Below wr.heap.size wr w') (fun w1 w2 : World => Below w1.heap.size w1 w2) [(fun (x : Value) (_ : World) => x = (.slice (some ⟨b, o, none⟩) n c : Value)), (fun (x : Value) (_ : World) => x = (.int .i64 (k : Int) : Value)), (fun (x : Value) (_ : World) => x = (.pointer (some ⟨b, o + k * 5, none⟩) : Value)), (fun (x : Value) (_ : World) => x = (.agg #[.int .i64 k1, .int .i64 n1, .int .i64 a1, .slice A1 nl1 c1, .slice A2 nk1 c2] : Value)), (fun (x : Value) (_ : World) => x = (.slice (some ⟨b', o', none⟩) n c' : Value)), (fun (x : Value) (_ : World) => x = (.int .i64 (k : Int) : Value)), (fun (x : Value) (_ : World) => x = (.pointer (some ⟨b', o' + k * 5, none⟩) : Value)), (fun (x : Value) (_ : World) => x = (.agg #[.int .i64 k2, .int .i64 n2, .int .i64 a2, .slice A3 nl2 c3, .slice A4 nk2 c4] : Value)), (fun (x : Value) (_ : World) => x = (.bool rk : Value)), (fun (x : Value) (_ : World) => x = (.bool (!rk) : Value))] [⟨some 17, .move (.tmp 0), none, []⟩, ⟨some 18, .move (.tmp 5), none, []⟩, ⟨some 19, .indexAddr 24 (.tmp 17) (.tmp 18), none, [(17, 0), (18, 1)]⟩, ⟨some 20, .load 26 (.tmp 19), none, [(19, 2)]⟩, ⟨some 21, .move (.tmp 1), none, []⟩, ⟨some 22, .move (.tmp 5), none, []⟩, ⟨some 23, .indexAddr 24 (.tmp 21) (.tmp 22), none, [(21, 4), (22, 5)]⟩, ⟨some 24, .load 26 (.tmp 23), none, [(23, 6)]⟩, ⟨some 25, .call { callee := .value (.func 21), args := #[.tmp 20, .tmp 24], argTypes := #[26, 26] }, none, [(20, 3), (24, 7)]⟩, ⟨some 26, .unOp .not 4 (.tmp 25), none, [(25, 8)]⟩] [some 17, some 18, some 19, some 20, some 21, some 22, some 23, some 24, some 25, some 26] (by kernel_rfl) (by kernel_rfl) (by kernel_rfl) (by kernel_rfl) (by kernel_rfl) ?hS ?hmono ?hsteps ?hfin
        case hS => exact hS
        case hmono =>
          refine MonoL.cons (fun x w1 w2 _ _ _ hx => hx) ?_
          refine MonoL.cons (fun x w1 w2 _ _ _ hx => hx) ?_
          refine MonoL.cons (fun x w1 w2 _ _ _ hx => hx) ?_
          refine MonoL.cons (fun x w1 w2 _ _ _ hx => hx) ?_
          refine MonoL.cons (fun x w1 w2 _ _ _ hx => hx) ?_
          refine MonoL.cons (fun x w1 w2 _ _ _ hx => hx) ?_
          refine MonoL.cons (fun x w1 w2 _ _ _ hx => hx) ?_
          refine MonoL.cons (fun x w1 w2 _ _ _ hx => hx) ?_
          refine MonoL.cons (fun x w1 w2 _ _ _ hx => hx) ?_
          refine MonoL.cons (fun x w1 w2 _ _ _ hx => hx) ?_
          exact MonoL.nil
        case hsteps =>
          refine StepsT.cons (fun (x : Value) (_ : World) => x = (.slice (some ⟨b, o, none⟩) n c : Value)) [] rfl rfl (fun oq hop _ wq hQS => ?_) ?_
          · exact StepFrom.move hop (v := (.slice (some ⟨b, o, none⟩) n c : Value)) (by kernel_rfl) (by kernel_rfl) hQS (Below.refl _ _) rfl
          refine StepsT.cons (fun (x : Value) (_ : World) => x = (.int .i64 (k : Int) : Value)) [] rfl rfl (fun oq hop _ wq hQS => ?_) ?_
          · exact StepFrom.move hop (v := (.int .i64 (k : Int) : Value)) (by kernel_rfl) (by kernel_rfl) hQS (Below.refl _ _) rfl
          refine StepsT.cons (fun (x : Value) (_ : World) => x = (.pointer (some ⟨b, o + k * 5, none⟩) : Value)) [(17, (fun (x : Value) (_ : World) => x = (.slice (some ⟨b, o, none⟩) n c : Value))), (18, (fun (x : Value) (_ : World) => x = (.int .i64 (k : Int) : Value)))] rfl rfl (fun oq hop _ wq hQS => ?_) ?_
          · refine StepFrom.more_eq ((.slice (some ⟨b, o, none⟩) n c : Value)) ?_
            refine StepFrom.more_eq ((.int .i64 (k : Int) : Value)) ?_
            exact StepFrom.indexAddr hop (p := (.slice (some ⟨b, o, none⟩) n c : Value)) (q := (.int .i64 (k : Int) : Value)) (by kernel_rfl) (by kernel_rfl) (term_addr ij0 ij1) (by kernel_rfl) hQS (Below.refl _ _) rfl
          refine StepsT.cons (fun (x : Value) (_ : World) => x = (.agg #[.int .i64 k1, .int .i64 n1, .int .i64 a1, .slice A1 nl1 c1, .slice A2 nk1 c2] : Value)) [(19, (fun (x : Value) (_ : World) => x = (.pointer (some ⟨b, o + k * 5, none⟩) : Value)))] rfl rfl (fun oq hop _ wq hQS => ?_) ?_
          · refine StepFrom.more_eq ((.pointer (some ⟨b, o + k * 5, none⟩) : Value)) ?_
            exact StepFrom.load hop (p := (.pointer (some ⟨b, o + k * 5, none⟩) : Value)) (by kernel_rfl) (load_term ((hQS.cell (p := ⟨b, o + k * 5, none⟩) hbr).trans f0) ((hQS.cell (p := ⟨b, o + k * 5 + 1, none⟩) hbr).trans f1) ((hQS.cell (p := ⟨b, o + k * 5 + 2, none⟩) hbr).trans f2) ((hQS.cell (p := ⟨b, o + k * 5 + 3, none⟩) hbr).trans f3) ((hQS.cell (p := ⟨b, o + k * 5 + 4, none⟩) hbr).trans f4)) (by kernel_rfl) hQS (Below.refl _ _) rfl
          refine StepsT.cons (fun (x : Value) (_ : World) => x = (.slice (some ⟨b', o', none⟩) n c' : Value)) [] rfl rfl (fun oq hop _ wq hQS => ?_) ?_
          · exact StepFrom.move hop (v := (.slice (some ⟨b', o', none⟩) n c' : Value)) (by kernel_rfl) (by kernel_rfl) hQS (Below.refl _ _) rfl
          refine StepsT.cons (fun (x : Value) (_ : World) => x = (.int .i64 (k : Int) : Value)) [] rfl rfl (fun oq hop _ wq hQS => ?_) ?_
          · exact StepFrom.move hop (v := (.int .i64 (k : Int) : Value)) (by kernel_rfl) (by kernel_rfl) hQS (Below.refl _ _) rfl
          refine StepsT.cons (fun (x : Value) (_ : World) => x = (.pointer (some ⟨b', o' + k * 5, none⟩) : Value)) [(21, (fun (x : Value) (_ : World) => x = (.slice (some ⟨b', o', none⟩) n c' : Value))), (22, (fun (x : Value) (_ : World) => x = (.int .i64 (k : Int) : Value)))] rfl rfl (fun oq hop _ wq hQS => ?_) ?_
          · refine StepFrom.more_eq ((.slice (some ⟨b', o', none⟩) n c' : Value)) ?_
            refine StepFrom.more_eq ((.int .i64 (k : Int) : Value)) ?_
            exact StepFrom.indexAddr hop (p := (.slice (some ⟨b', o', none⟩) n c' : Value)) (q := (.int .i64 (k : Int) : Value)) (by kernel_rfl) (by kernel_rfl) (term_addr ij0 ij1) (by kernel_rfl) hQS (Below.refl _ _) rfl
          refine StepsT.cons (fun (x : Value) (_ : World) => x = (.agg #[.int .i64 k2, .int .i64 n2, .int .i64 a2, .slice A3 nl2 c3, .slice A4 nk2 c4] : Value)) [(23, (fun (x : Value) (_ : World) => x = (.pointer (some ⟨b', o' + k * 5, none⟩) : Value)))] rfl rfl (fun oq hop _ wq hQS => ?_) ?_
          · refine StepFrom.more_eq ((.pointer (some ⟨b', o' + k * 5, none⟩) : Value)) ?_
            exact StepFrom.load hop (p := (.pointer (some ⟨b', o' + k * 5, none⟩) : Value)) (by kernel_rfl) (load_term ((hQS.cell (p := ⟨b', o' + k * 5, none⟩) hbr').trans g0) ((hQS.cell (p := ⟨b', o' + k * 5 + 1, none⟩) hbr').trans g1) ((hQS.cell (p := ⟨b', o' + k * 5 + 2, none⟩) hbr').trans g2) ((hQS.cell (p := ⟨b', o' + k * 5 + 3, none⟩) hbr').trans g3) ((hQS.cell (p := ⟨b', o' + k * 5 + 4, none⟩) hbr').trans g4)) (by kernel_rfl) hQS (Below.refl _ _) rfl
          refine StepsT.cons (fun (x : Value) (_ : World) => x = (.bool rk : Value)) [(20, (fun (x : Value) (_ : World) => x = (.agg #[.int .i64 k1, .int .i64 n1, .int .i64 a1, .slice A1 nl1 c1, .slice A2 nk1 c2] : Value))), (24, (fun (x : Value) (_ : World) => x = (.agg #[.int .i64 k2, .int .i64 n2, .int .i64 a2, .slice A3 nl2 c3, .slice A4 nk2 c4] : Value)))] rfl rfl (fun oq hop _ wq hQS => ?_) ?_
          · refine StepFrom.more_eq ((.agg #[.int .i64 k1, .int .i64 n1, .int .i64 a1, .slice A1 nl1 c1, .slice A2 nk1 c2] : Value)) ?_
            refine StepFrom.more_eq ((.agg #[.int .i64 k2, .int .i64 n2, .int .i64 a2, .slice A3 nl2 c3, .slice A4 nk2 c4] : Value)) ?_
            exact StepFrom.call hop (vs := [(.agg #[.int .i64 k1, .int .i64 n1, .int .i64 a1, .slice A1 nl1 c1, .slice A2 nk1 c2] : Value), (.agg #[.int .i64 k2, .int .i64 n2, .int .i64 a2, .slice A3 nl2 c3, .slice A4 nk2 c4] : Value)]) (by kernel_rfl) (fun w => enter_sameTm _ w) (by kernel_rfl) ((HC.out wq hQS).mono fun e w9 h9 => ⟨_, h9.1, hQS.trans (h9.2.mono hQS.size), h9.2, rfl⟩)
          refine StepsT.cons (fun (x : Value) (_ : World) => x = (.bool (!rk) : Value)) [(25, (fun (x : Value) (_ : World) => x = (.bool rk : Value)))] rfl rfl (fun oq hop _ wq hQS => ?_) ?_
          · refine StepFrom.more_eq ((.bool rk : Value)) ?_
            exact StepFrom.not hop (b := rk) (by kernel_rfl) (by kernel_rfl) hQS (Below.refl _ _) rfl
          exact StepsT.nil
        case hfin =>
          intro wf hFS
          refine FinalFrom.more fun x17 h17 => ?_
          refine FinalFrom.more fun x18 h18 => ?_
          refine FinalFrom.more fun x19 h19 => ?_
          refine FinalFrom.more fun x20 h20 => ?_
          refine FinalFrom.more fun x21 h21 => ?_
          refine FinalFrom.more fun x22 h22 => ?_
          refine FinalFrom.more fun x23 h23 => ?_
          refine FinalFrom.more fun x24 h24 => ?_
          refine FinalFrom.more fun x25 h25 => ?_
          refine FinalFrom.more fun x26 h26 => ?_
          refine FinalFrom.done ?_
          obtain rfl : x26 = (.bool (!rk) : Value) := h26
          have HB2 : Hid (Below w.heap.size w wf) := HB.out.trans (hFS.mono hbz)
          clear hS hFS f0 f1 f2 f3 f4 g0 g1 g2 g3 g4
          simp only [Act.put, List.setIfInBounds_toArray, List.set_cons_zero, List.set_cons_succ]
          cases rk with
          | true =>
            have HSO2 : Hid (∀ j, j < k + 1 → ls[j]? = ms[j]?) := fun j hj => by
              rcases Nat.lt_succ_iff_lt_or_eq.1 hj with hj | rfl
              · exact HSO.out j hj
              · rw [EL.out, EM.out, HRK.out.1 rfl]
            go_wp2
            go_roundw
            case rel => exact ⟨k + 1, by omega, by go_num, HB2.out, HSO2.out⟩
            case measure => simp [intOf]; omega
          | false =>
            have HF : Hid (r = false) := by
              cases r with
              | false => rfl
              | true =>
                have e := HR.out.1 rfl
                have h1 := EL.out
                rw [e, EM.out] at h1
                injection h1 with h1
                have := HRK.out.2 h1.symm
                cases this
            go_wp2
            go_ret
            exact ⟨by rw [HF.out]; rfl, HB2.out⟩
      · have HF : Hid (r = true) := HR.out.2 (same_end (by rw [HN.out, HN'.out]) fun j hj => hso j (by rw [HN.out] at hj; omega))
        have HB := Lib.hid hb
        clear hb hso
        go_wp2
        go_ret
        exact ⟨by rw [HF.out]; rfl, HB.out⟩
  · have lf : ((n : Int) != (n' : Int)) = true := by simp; omega
    have HF : Hid (r = false) := by
      cases r with
      | false => rfl
      | true =>
        have e := HR.out.1 rfl
        have h1 := HN.out
        rw [e, HN'.out] at h1
        exact absurd h1.symm hl
    go_enter Tryd.func36, Tryd.ntmps36
    go_wp2
    go_ret
    exact ⟨by rw [HF.out]; rfl, Below.refl _ _⟩

set_option maxRecDepth 100000 in
set_option maxHeartbeats 4000000 in
theorem sameTerm_of (k1 n1 a1 k2 n2 a2 : Int) (lv1 lv2 : List (List (Int × Int))) (kids1 kids2 : List Tm) (ih : ∀ t ∈ kids1, SameTm t) (A1 A2 A3 A4 : Option Addr) (c1 c2 c3 c4 p1 p2 p3 p4 : Nat) (w : World) (r : Bool)
    (hp1 : lv1.length = p1) (hp2 : kids1.length = p2) (hp3 : lv2.length = p3) (hp4 : kids2.length = p4) (hc : (Tm.mk k1 n1 a1 lv1 kids1).fit) (hc' : (Tm.mk k2 n2 a2 lv2 kids2).fit)
    (h1 : Levs w w.heap.size A1 lv1) (h2 : Tms w w.heap.size A2 c2 kids1) (h3 : Levs w w.heap.size A3 lv2) (h4 : Tms w w.heap.size A4 c4 kids2) (hr : r = true ↔ Tm.mk k1 n1 a1 lv1 kids1 = Tm.mk k2 n2 a2 lv2 kids2) :
    Calls Tryd.prog 21 #[.agg #[.int .i64 k1, .int .i64 n1, .int .i64 a1, .slice A1 p1 c1, .slice A2 p2 c2], .agg #[.int .i64 k2, .int .i64 n2, .int .i64 a2, .slice A3 p3 c3, .slice A4 p4 c4]] w (HasPost w r) := by
  rw [Tm.fit_mk] at hc hc'
  obtain ⟨x1, x2, _⟩ := two_allocs w (.cells #[.int .i64 k1, .int .i64 n1, .int .i64 a1, .slice A1 p1 c1, .slice A2 p2 c2] 26) (.cells #[.int .i64 k2, .int .i64 n2, .int .i64 a2, .slice A3 p3 c3, .slice A4 p4 c4] 26)
  have hb0 : Below w.heap.size w ((w.alloc (.cells #[.int .i64 k1, .int .i64 n1, .int .i64 a1, .slice A1 p1 c1, .slice A2 p2 c2] 26)).alloc (.cells #[.int .i64 k2, .int .i64 n2, .int .i64 a2, .slice A3 p3 c3, .slice A4 p4 c4] 26)) := ((Below.refl _ _).alloc (Nat.le_refl _) _).alloc (by simp) _
  obtain ⟨rl, hrl⟩ := bool_is (lv1 = lv2)
  obtain ⟨rk, hrk⟩ := bool_is (kids1 = kids2)
  have HL : Hid (∀ w', Below w.heap.size w w' → Calls Tryd.prog 35 #[.slice A1 p1 c1, .slice A3 p3 c3] w' (HasPost w' rl)) := fun w' hx => sameLevels_any A1 A3 lv1 lv2 c1 c3 p1 p3 w' hp1 hp3 hc.2.1 hc'.2.1 ((h1.below hx).more hx.size) ((h3.below hx).more hx.size) rl hrl
  have HK : Hid (∀ w', Below w.heap.size w w' → Calls Tryd.prog 36 #[.slice A2 p2 c2, .slice A4 p4 c4] w' (HasPost w' rk)) := fun w' hx => sameTerms_of kids1 kids2 ih A2 A4 c2 c4 p2 p4 w' hp2 hp4 hc.2.2 hc'.2.2 (h2.below hx hx.size) (h4.below hx hx.size) rk hrk
  have HREQ : Hid (r = (decide (k1 = k2) && decide (n1 = n2) && decide (a1 = a2) && rl && rk)) := by
    have e : (r = true ↔ (decide (k1 = k2) && decide (n1 = n2) && decide (a1 = a2) && rl && rk) = true) := by
      rw [hr]
      simp only [Bool.and_eq_true, decide_eq_true_eq, hrl, hrk, Tm.mk.injEq]
      constructor
      · rintro ⟨a, b, c, d, e⟩
        exact ⟨⟨⟨⟨a, b⟩, c⟩, d⟩, e⟩
      · rintro ⟨⟨⟨⟨a, b⟩, c⟩, d⟩, e⟩
        exact ⟨a, b, c, d, e⟩
    show r = _
    exact Bool.eq_iff_iff.2 e
  have HB0 := Lib.hid hb0
  have X1 := Lib.hid x1
  have X2 := Lib.hid x2
  have f0 := cell_of_row _ _ 0 _ _ (0, 0) x1
  have f1 := cell_of_row _ _ 1 _ _ (0, 0) x1
  have f2 := cell_of_row _ _ 2 _ _ (0, 0) x1
  have f3 := cell_of_row _ _ 3 _ _ (0, 0) x1
  have f4 := cell_of_row _ _ 4 _ _ (0, 0) x1
  have g0 := cell_of_row _ _ 0 _ _ (0, 0) x2
  have g1 := cell_of_row _ _ 1 _ _ (0, 0) x2
  have g2 := cell_of_row _ _ 2 _ _ (0, 0) x2
  have g3 := cell_of_row _ _ 3 _ _ (0, 0) x2
  have g4 := cell_of_row _ _ 4 _ _ (0, 0) x2
  clear hr hrl hrk hc hc' h1 h2 h3 h4 hp1 hp2 hp3 hp4 ih hb0 x1 x2
  go_enter Tryd.func21, Tryd.ntmps21
  go_upto_region 1 with (fail)
  obtain ⟨w1, hw1⟩ : ∃ x, (w.alloc (.cells #[.int .i64 k1, .int .i64 n1, .int .i64 a1, .slice A1 p1 c1, .slice A2 p2 c2] 26)).alloc (.cells #[.int .i64 k2, .int .i64 n2, .int .i64 a2, .slice A3 p3 c3, .slice A4 p4 c4] 26) = x := ⟨_, rfl⟩
  rw [hw1] at HB0 X1 X2 f0 f1 f2 f3 f4 g0 g1 g2 g3 g4 ⊢
  clear hw1
  by_cases e1 : k1 = k2
  · subst e1
    by_cases e2 : n1 = n2
    · subst e2
      by_cases e3 : a1 = a2
      · subst e3
        have hf : Hid (r = (rl && rk)) := by
          show _ = _
          have := HREQ.out
          simpa using this
        have HL1 := Lib.hid (HL.out w1 HB0.out)
        clear HREQ HL
        go_wp2_with (fail)
        refine HL1.out.mono ?_
        rintro e w2 ⟨rfl, hb2⟩
        have HB2 : Hid (Below w.heap.size w w2) := HB0.out.trans (hb2.mono HB0.out.size)
        have y1 := (hb2.block w.heap.size (heap_some_lt X1.out)).trans X1.out
        have y2 := (hb2.block (w.heap.size + 1) (heap_some_lt X2.out)).trans X2.out
        have f4' := cell_of_row _ _ 4 _ _ (0, 0) y1
        have g4' := cell_of_row _ _ 4 _ _ (0, 0) y2
        clear hb2 y1 y2 HL1 f0 f1 f2 f3 f4 g0 g1 g2 g3 g4
        cases rl with
        | true =>
          have HK2 := Lib.hid (HK.out w2 HB2.out)
          have hf2 : Hid (r = rk) := by show _ = _; have := hf.out; simpa using this
          clear HK hf
          go_wp2_with (fail)
          refine HK2.out.mono ?_
          rintro e w3 ⟨rfl, hb3⟩
          have HB3 : Hid (Below w.heap.size w w3) := HB2.out.trans (hb3.mono HB2.out.size)
          clear hb3
          go_wp2
          go_ret
          exact ⟨by rw [hf2.out]; rfl, HB3.out⟩
        | false =>
          have hf2 : Hid (r = false) := by show _ = _; have := hf.out; simpa using this
          clear HK hf
          go_wp2
          go_ret
          exact ⟨by rw [hf2.out]; rfl, HB2.out⟩
      · have hf : Hid (r = false) := by show _ = _; have := HREQ.out; simpa [e3] using this
        have e3' : (a1 == a2) = false := by simpa using e3
        clear HREQ HL HK X1 X2
        go_wp2
        go_ret
        exact ⟨by rw [hf.out]; rfl, HB0.out⟩
    · have hf : Hid (r = false) := by show _ = _; have := HREQ.out; simpa [e2] using this
      have e2' : (n1 == n2) = false := by simpa using e2
      clear HREQ HL HK X1 X2
      go_wp2
      go_ret
      exact ⟨by rw [hf.out]; rfl, HB0.out⟩
  · have hf : Hid (r = false) := by show _ = _; have := HREQ.out; simpa [e1] using this
    have e1' : (k1 == k2) = false := by simpa using e1
    clear HREQ HL HK X1 X2
    go_wp2
    go_ret
    exact ⟨by rw [hf.out]; rfl, HB0.out⟩

/-- SameTerm: are two terms one, node by node? -/
theorem sameTerm_any : ∀ t : Tm, SameTm t := by
  intro t
  induction t using Tm.ind with
  | h k n a lv kids ih =>
    intro hc u va vb w r hc' ha hb hr
    obtain ⟨k2, n2, a2, lv2, kids2⟩ := u
    obtain ⟨A1, c1, A2, c2, rfl, _, h1, h2⟩ := ha.open
    obtain ⟨A3, c3, A4, c4, rfl, _, h3, h4⟩ := hb.open
    exact sameTerm_of k n a k2 n2 a2 lv lv2 kids kids2 ih A1 A2 A3 A4 c1 c2 c3 c4 _ _ _ _ w r rfl rfl rfl rfl hc hc' h1 h2 h3 h4 hr

end Go.Proofs.YtafgmndlbbjphaaDoor
