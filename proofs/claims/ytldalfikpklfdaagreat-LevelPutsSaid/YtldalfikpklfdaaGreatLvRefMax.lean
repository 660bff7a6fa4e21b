/- What the reference's Max answers, of any levels. -/
import Derived.Test.YtldalfikpklfdaaGreatLvRefSub
import Derived.Test.YtldalfikpklfdaaGreatLvKindsB
import Derived.Laws.AppendOwnNone
namespace Go.Proofs.YtldalfikpklfdaaGreat
open Go.RowKit Go.Maps

set_option maxRecDepth 100000 in
theorem parts_addr_at {b o : Nat} {w : World} : (Instr.fieldAt 24 (.pointer (some ⟨b, o, none⟩)) 0).run Tryz.prog w = .ok (.pointer (some ⟨b, o, none⟩)) w := by go_simp
set_option maxRecDepth 100000 in
theorem load_lv_at {b o : Nat} {w : World} {v : Value} (h : w.cell? ⟨b, o, none⟩ = some v) : (Instr.loadAt 22 (.pointer (some ⟨b, o, none⟩))).run Tryz.prog w = .ok v w := by go_simp
set_option maxRecDepth 100000 in
theorem lev_addr_o {b o n c k : Nat} {w : World} (h0 : (0 : Int) ≤ (k : Int)) (h1 : (k : Int) < (n : Int)) : (Instr.indexAt 31 (.slice (some ⟨b, o, none⟩) n c) (.int .i64 (k : Int))).run Tryz.prog w = .ok (.pointer (some ⟨b, o + k, none⟩)) w := by go_simp
/-- as loop_app, whatever is stored -/
theorem loop_app_any {W wr w5 : World} {g m mm : Nat} {lv v : Value} {parts news : List (Int × Int)} (h : LoopW W wr g lv m parts) (hg : g < W.heap.size)
    (hown : w5.ownsRow W.heap.size 47 2 v mm (cells parts ++ cells news)) (hgrow : wr.grownBy w5 lv.ownBlock) :
    w5.heap[g]? = some (.cells #[lv] 24 (0, 0)) ∧ LoopW W (w5.setCell ⟨g, 0, none⟩ v) g v mm (parts ++ news) := by
  have hsz := h.grown.size
  have hlow : ∀ p, lv.ownBlock = some p → W.heap.size ≤ p := fun p e => (h.row.lt _ e).1
  have hL : w5.heap[g]? = some (.cells #[lv] 24 (0, 0)) := (hgrow.block _ (by omega) (fun e => by have := hlow g e.symm; omega)).trans h.cell
  refine ⟨hL, ⟨hgrow.os.trans h.grown.os, hgrow.tape.trans h.grown.tape, hgrow.output.trans h.grown.output, Nat.le_trans hsz (Nat.le_trans hgrow.size (set_size _ _ _)), fun p hp hne => ?_⟩, one_setCell hL, ?_⟩
  · exact (Below.heap_setCell w5 _ _ p (fun e => hne (by rw [e]))).trans ((hgrow.block p (by omega) (fun e => by have := hlow p e.symm; omega)).trans (h.grown.block p hp hne))
  · rw [cells_append]
    exact ownsRow_setCell_below hown hg _
/-- a loop's box, stored over with what it held -/
theorem LoopW.again {W wr wf : World} {g m : Nat} {lv : Value} {parts : List (Int × Int)} (h : LoopW W wr g lv m parts) (hg : g < W.heap.size) (hb : Below wr.heap.size wr wf) : LoopW W (wf.setCell ⟨g, 0, none⟩ lv) g lv m parts := by
  have h2 := h.keep hg hb
  have hsz := h2.grown.size
  refine ⟨⟨h2.grown.os, h2.grown.tape, h2.grown.output, Nat.le_trans hsz (set_size _ _ _), fun p hp hne => ?_⟩, one_setCell h2.cell, ownsRow_setCell_below h2.row hg _⟩
  exact (Below.heap_setCell wf _ _ p (fun e => hne (by rw [e]))).trans (h2.grown.block p hp hne)

set_option maxRecDepth 100000 in
set_option maxHeartbeats 4000000 in
theorem rmax_any (A : Option Addr) (ls : List (List (Int × Int))) (c : Nat) (w : World) (hm : ls.length ≤ maxLen) (hf : (flat ls).length ≤ 900000) (h : Levs w w.heap.size A ls) :
    Calls Tryz.prog 18 #[.slice A ls.length c] w (LOut w (nfA (flat ls))) := by
  have hfd := field_parts
  obtain ⟨i0, hi, hz0, hz1, hz2⟩ := info_parts infoP
  obtain ⟨x1, x2, x3⟩ := two_allocs w (.cells #[.slice none 0 0] 24) (.cells #[.slice none 0 0] 24)
  have hb0 : Below w.heap.size w ((w.alloc (.cells #[.slice none 0 0] 24)).alloc (.cells #[.slice none 0 0] 24)) := ((Below.refl _ _).alloc (Nat.le_refl _) _).alloc (by simp) _
  obtain ⟨n, hn⟩ : ∃ n, ls.length = n := ⟨_, rfl⟩
  unfold maxLen at hm
  rw [hn] at hm ⊢
  have hz : ((w.alloc (.cells #[.slice none 0 0] 24)).alloc (.cells #[.slice none 0 0] 24)).heap.size = w.heap.size + 2 := by simp
  have X1 := Lib.hid x1
  have X2 := Lib.hid x2
  have HB0 := Lib.hid hb0
  have HL := Lib.hid h
  have HF := Lib.hid hf
  have HN := Lib.hid hn
  clear x1 x2 x3 hb0 h hf hn
  go_enter Tryz.func18, Tryz.ntmps18
  go_wp2
  obtain ⟨W, hW⟩ : ∃ W, ((w.alloc (.cells #[.slice none 0 0] 24)).alloc (.cells #[.slice none 0 0] 24)) = W := ⟨_, rfl⟩
  rw [hW] at X1 X2 HB0 hz ⊢
  clear hW
  go_loopw [4] (fun i wr => ∃ (k m : Nat) (lv : Value), k ≤ n ∧ m = (flat (ls.take k)).length ∧ i = .int .i64 (k : Int) ∧ LoopW W wr (w.heap.size + 1) lv m (flat (ls.take k))) (fun i _ => n - (intOf i).toNat)
  case atStart => exact ⟨0, 0, _, by omega, rfl, rfl, ⟨World.grownBy.refl _ _, X2.out, ⟨rfl, Or.inl ⟨rfl, rfl⟩⟩⟩⟩
  case round =>
    obtain ⟨k, m, lv, hk, hm2, rfl, hw⟩ := hrel
    obtain ⟨Al, nv, cv, rfl⟩ := own_slice hw.row
    have hwz := hw.grown.size
    have hB : Below w.heap.size w wr := by
      refine ⟨hw.grown.os.trans HB0.out.os, hw.grown.tape.trans HB0.out.tape, hw.grown.output.trans HB0.out.output, by omega, fun i hi => (hw.grown.block i (by omega) (fun e => ?_)).trans (HB0.out.block i hi)⟩
      injection e with e
      omega
    by_cases hlt : k < n
    · obtain ⟨b, o, hA, hbB, hcell⟩ := HL.out (by rw [HN.out]; omega)
      subst hA
      obtain ⟨Ai, ci, q0, q1, q2, _⟩ := hcell k (by rw [HN.out]; omega)
      have HT := Lib.hid (flat_take (show k < ls.length by rw [HN.out]; exact hlt))
      have hle := flat_le ls (k + 1)
      rw [HT.out, List.length_append] at hle
      have hfl := HF.out
      obtain ⟨l, hl⟩ : ∃ l, ls.getD k [] = l := ⟨_, rfl⟩
      obtain ⟨nl, hnl⟩ : ∃ j, l.length = j := ⟨_, rfl⟩
      obtain ⟨acc, hacc⟩ : ∃ a, flat (ls.take k) = a := ⟨_, rfl⟩
      rw [hl] at q0 q1 HT hle
      rw [hnl] at q0 hle
      rw [hacc] at hw HT hle hm2
      have c0 := (hB.cell (p := ⟨b, o + k, none⟩) (by show b < w.heap.size; exact hbB)).trans q0
      have HQ1 := Lib.hid ((q1.below hB).more hB.size)
      have Q2 := Lib.hid q2
      have f0 := cell_of_one hw.cell
      have g1 : w.heap.size + 1 < wr.heap.size := by omega
      have g2 : w.heap.size + 1 < W.heap.size := by omega
      have hbw : b < wr.heap.size := by omega
      have HW := Lib.hid hw
      have HNL := Lib.hid hnl
      have ij0 : (0 : Int) ≤ (k : Int) := by omega
      have ij1 : (k : Int) < (n : Int) := by omega
      clear hw q0 q1 q2 hcell hB hl hacc hnl
      have hS : Below wr.heap.size wr wr.drew := (Below.refl _ _).drew
      go_upto_region 5 with (fail)
      refine wp_region_tail 7 (fun w' => Below wr.heap.size wr w') (fun w1 w2 : World => Below w1.heap.size w1 w2) [(fun (x : Value) (_ : World) => x = (.pointer (some ⟨w.heap.size + 1, 0, none⟩) : Value)), (fun (x : Value) (_ : World) => x = (.slice Al nv cv : Value)), (fun (x : Value) (_ : World) => x = (.slice (some ⟨b, o, none⟩) n c : Value)), (fun (x : Value) (_ : World) => x = (.int .i64 (k : Int) : Value)), (fun (x : Value) (_ : World) => x = (.pointer (some ⟨b, o + k, none⟩) : Value)), (fun (x : Value) (_ : World) => x = (.pointer (some ⟨b, o + k, none⟩) : Value)), (fun (x : Value) (_ : World) => x = (.slice Ai nl ci : Value))] [⟨some 11, .fieldAddr 24 (.tmp 3) 0, none, []⟩, ⟨some 12, .load 22 (.tmp 11), none, [(11, 0)]⟩, ⟨some 13, .move (.tmp 0), none, []⟩, ⟨some 14, .move (.tmp 4), none, []⟩, ⟨some 15, .indexAddr 31 (.tmp 13) (.tmp 14), none, [(13, 2), (14, 3)]⟩, ⟨some 16, .fieldAddr 24 (.tmp 15) 0, none, [(15, 4)]⟩, ⟨some 17, .load 22 (.tmp 16), none, [(16, 5)]⟩] [some 11, some 12, some 13, some 14, some 15, some 16, some 17] [] [] (by kernel_rfl) (by kernel_rfl) (by kernel_rfl) (by kernel_rfl) (by kernel_rfl) (by kernel_rfl) (by kernel_rfl) (by kernel_rfl) ?hrun ?hold ?hS ?hmono ?hsteps ?hfin
      case hrun => exact fun p hp => by cases hp
      case hold => exact fun p hp => by cases hp
      case hS => exact hS
      case hmono =>
        refine MonoL.cons (fun x w1 w2 _ _ _ hx => hx) ?_
        refine MonoL.cons (fun x w1 w2 _ _ _ hx => hx) ?_
        refine MonoL.cons (fun x w1 w2 _ _ _ hx => hx) ?_
        refine MonoL.cons (fun x w1 w2 _ _ _ hx => hx) ?_
        refine MonoL.cons (fun x w1 w2 _ _ _ hx => hx) ?_
        refine MonoL.cons (fun x w1 w2 _ _ _ hx => hx) ?_
        refine MonoL.cons (fun x w1 w2 _ _ _ hx => hx) ?_
        exact MonoL.nil
      case hsteps =>
        refine StepsT.cons (fun (x : Value) (_ : World) => x = (.pointer (some ⟨w.heap.size + 1, 0, none⟩) : Value)) [] rfl rfl (fun oq hop _ wq hQS => ?_) ?_
        · exact StepFrom.fieldAddr hop (p := (.pointer (some ⟨w.heap.size + 1, 0, none⟩) : Value)) (by kernel_rfl) (parts_addr_at) (by kernel_rfl) hQS (Below.refl _ _) rfl
        refine StepsT.cons (fun (x : Value) (_ : World) => x = (.slice Al nv cv : Value)) [(11, (fun (x : Value) (_ : World) => x = (.pointer (some ⟨w.heap.size + 1, 0, none⟩) : Value)))] rfl rfl (fun oq hop _ wq hQS => ?_) ?_
        · refine StepFrom.more_eq ((.pointer (some ⟨w.heap.size + 1, 0, none⟩) : Value)) ?_
          exact StepFrom.load hop (p := (.pointer (some ⟨w.heap.size + 1, 0, none⟩) : Value)) (by kernel_rfl) (load_lv_at ((hQS.cell (p := ⟨w.heap.size + 1, 0, none⟩) g1).trans f0)) (by kernel_rfl) hQS (Below.refl _ _) rfl
        refine StepsT.cons (fun (x : Value) (_ : World) => x = (.slice (some ⟨b, o, none⟩) n c : Value)) [] rfl rfl (fun oq hop _ wq hQS => ?_) ?_
        · exact StepFrom.move hop (v := (.slice (some ⟨b, o, none⟩) n c : Value)) (by kernel_rfl) (by kernel_rfl) hQS (Below.refl _ _) rfl
        refine StepsT.cons (fun (x : Value) (_ : World) => x = (.int .i64 (k : Int) : Value)) [] rfl rfl (fun oq hop _ wq hQS => ?_) ?_
        · exact StepFrom.move hop (v := (.int .i64 (k : Int) : Value)) (by kernel_rfl) (by kernel_rfl) hQS (Below.refl _ _) rfl
        refine StepsT.cons (fun (x : Value) (_ : World) => x = (.pointer (some ⟨b, o + k, none⟩) : Value)) [(13, (fun (x : Value) (_ : World) => x = (.slice (some ⟨b, o, none⟩) n c : Value))), (14, (fun (x : Value) (_ : World) => x = (.int .i64 (k : Int) : Value)))] rfl rfl (fun oq hop _ wq hQS => ?_) ?_
        · refine StepFrom.more_eq ((.slice (some ⟨b, o, none⟩) n c : Value)) ?_
          refine StepFrom.more_eq ((.int .i64 (k : Int) : Value)) ?_
          exact StepFrom.indexAddr hop (p := (.slice (some ⟨b, o, none⟩) n c : Value)) (q := (.int .i64 (k : Int) : Value)) (by kernel_rfl) (by kernel_rfl) (lev_addr_o ij0 ij1) (by kernel_rfl) hQS (Below.refl _ _) rfl
        refine StepsT.cons (fun (x : Value) (_ : World) => x = (.pointer (some ⟨b, o + k, none⟩) : Value)) [(15, (fun (x : Value) (_ : World) => x = (.pointer (some ⟨b, o + k, none⟩) : Value)))] rfl rfl (fun oq hop _ wq hQS => ?_) ?_
        · refine StepFrom.more_eq ((.pointer (some ⟨b, o + k, none⟩) : Value)) ?_
          exact StepFrom.fieldAddr hop (p := (.pointer (some ⟨b, o + k, none⟩) : Value)) (by kernel_rfl) (parts_addr_at) (by kernel_rfl) hQS (Below.refl _ _) rfl
        refine StepsT.cons (fun (x : Value) (_ : World) => x = (.slice Ai nl ci : Value)) [(16, (fun (x : Value) (_ : World) => x = (.pointer (some ⟨b, o + k, none⟩) : Value)))] rfl rfl (fun oq hop _ wq hQS => ?_) ?_
        · refine StepFrom.more_eq ((.pointer (some ⟨b, o + k, none⟩) : Value)) ?_
          exact StepFrom.load hop (p := (.pointer (some ⟨b, o + k, none⟩) : Value)) (by kernel_rfl) (load_lv_at ((hQS.cell (p := ⟨b, o + k, none⟩) hbw).trans c0)) (by kernel_rfl) hQS (Below.refl _ _) rfl
        exact StepsT.nil
      case hfin =>
        intro wf hFS
        refine FinalFrom.more fun x11 h11 => ?_
        refine FinalFrom.more fun x12 h12 => ?_
        refine FinalFrom.more fun x13 h13 => ?_
        refine FinalFrom.more fun x14 h14 => ?_
        refine FinalFrom.more fun x15 h15 => ?_
        refine FinalFrom.more fun x16 h16 => ?_
        refine FinalFrom.more fun x17 h17 => ?_
        refine FinalFrom.done ?_
        obtain rfl : x12 = (.slice Al nv cv : Value) := h12
        obtain rfl : x17 = (.slice Ai nl ci : Value) := h17
        intro _
        simp only [Act.put, List.setIfInBounds_toArray, List.set_cons_zero, List.set_cons_succ, List.drop_succ_cons, List.drop_zero]
        have hwf := hFS.size
        have hw4 := HW.out.keep g2 hFS
        have hL := hw4.cell
        have fL0 := cell_of_one hL
        have fF0 := free_of_one hL
        have HAG := Lib.hid (HW.out.again g2 hFS)
        have HW4 := Lib.hid hw4
        have HQ4 := Lib.hid ((HQ1.out.below hFS).more hFS.size)
        have hg4 : w.heap.size + 1 < wf.heap.size := by omega
        clear hS hFS hw4 hL f0 c0
        rcases Ai with _ | a
        · obtain rfl := Q2.out rfl
          obtain rfl : l = [] := by
            rcases l with _ | ⟨p, l⟩
            · rfl
            · obtain ⟨b, o, e, _⟩ := HQ4.out (by simp)
              cases e
          obtain rfl : nl = 0 := HNL.out.symm
          refine wpList_append_own_none rfl _ _ 22 rfl W.heap.size 47 i0 2 Tryz.underlying22 hi (.slice Al nv cv) m (cells acc) rfl HW4.out.row rfl ?_
          have HF2 : Hid (LoopW W (wf.setCell ⟨w.heap.size + 1, 0, none⟩ (.slice Al nv cv)) (w.heap.size + 1) (.slice Al nv cv) m (flat (ls.take (k + 1)))) := by
            rw [HT.out, List.append_nil]; exact HAG.out
          have hm3 : Hid (m = (flat (ls.take (k + 1))).length) := by rw [HT.out, List.append_nil]; exact hm2
          clear HAG HW4
          go_wp2
          go_roundw
          case rel => exact ⟨k + 1, m, _, by omega, hm3.out, by go_num, HF2.out⟩
          case measure => simp [intOf]; omega
        · have hsrc : ∀ j u, (cells l)[j]? = some u → wf.cell? (a.add j) = some u := by
            intro j u hu
            have hpos : 0 < l.length := by
              have := List.getElem?_eq_some_iff.1 hu
              obtain ⟨h1, _⟩ := this
              rw [cells_length] at h1
              omega
            obtain ⟨b', o', e, _, hc'⟩ := HQ4.out hpos
            injection e with e
            subst e
            exact Lev.src hc' j u hu
          refine wpList_append_own wf rfl _ _ 22 rfl W.heap.size 47 i0 (.agg #[.int .i64 0, .int .i64 0]) 2 16 Tryz.underlying22 hi hz0 hz1 hz2 rfl (by decide) (.slice Al nv cv) m (cells acc) rfl HW4.out.row a nl ci (cells l) rfl (by rw [cells_length, HNL.out]) hsrc (cells_one l) ?c1 ?c2 ?c3 ?_
          case c1 => unfold maxLen; omega
          case c2 => omega
          case c3 => first | omega | (simp; omega)
          intro v w3 ho hg _
          obtain ⟨Av, nw, cw, rfl⟩ := own_slice ho
          obtain ⟨l1, l2⟩ := loop_app_any (news := l) HW4.out g2 ho hg
          have f8 := cell_of_one l1
          have f9 := free_of_one l1
          have HF2 : Hid (LoopW W (w3.setCell ⟨w.heap.size + 1, 0, none⟩ (.slice Av nw cw)) (w.heap.size + 1) (.slice Av nw cw) (m + nl) (flat (ls.take (k + 1)))) := by
            rw [HT.out]; exact l2
          have hm3 : Hid (m + nl = (flat (ls.take (k + 1))).length) := by
            rw [HT.out, List.length_append, HNL.out]
            show m + nl = acc.length + nl
            omega
          clear HAG HW4 l1 l2 ho hg
          go_wp2
          go_roundw
          case rel => exact ⟨k + 1, m + nl, _, by omega, hm3.out, by go_num, HF2.out⟩
          case measure => simp [intOf]; omega
    · have hq : ls.take k = ls := List.take_of_length_le (by rw [HN.out]; omega)
      rw [hq] at hw hm2
      have hrow := hw.row
      rw [hm2] at hrow
      obtain ⟨hn3, hl3, hc3⟩ := own_lev hrow
      have HGN := Lib.hid (rnorm_any Al (flat ls) cv wr HF.out hl3 hc3)
      rw [← hn3] at HGN
      have HE4 := Lib.hid ((hw.grown.block w.heap.size (by omega) (fun e => by injection e with e; omega)).trans X1.out)
      have HBB := Lib.hid hB
      have f0 := cell_of_one hw.cell
      have hwr2 : w.heap.size + 2 ≤ wr.heap.size := by omega
      clear hw hrow hl3 hc3 hB hm2 hn3
      go_wp2_with (fail)
      refine HGN.out.mono ?_
      rintro e w5 ⟨A5, m5, rfl, hl5, hb5⟩
      obtain ⟨n5, hn5⟩ : ∃ n, (nfA (flat ls)).length = n := ⟨_, rfl⟩
      have e5 := (hb5.block w.heap.size (by omega)).trans HE4.out
      have f7 := cell_of_one e5
      have f8 := free_of_one e5
      have hs : (w5.setCell ⟨w.heap.size, 0, none⟩ (.slice A5 n5 m5)).cell? ⟨w.heap.size, 0, none⟩ = some (.slice A5 n5 m5) := World.cell?_setCell_same _ _ _ f7
      have HFF : Hid (LOut w (nfA (flat ls)) (.returned (.agg #[.slice A5 n5 m5])) (w5.setCell ⟨w.heap.size, 0, none⟩ (.slice A5 n5 m5))) :=
        ⟨A5, m5, by rw [hn5], hl5.box e5, (HBB.out.trans (hb5.mono (by omega))).setCell (Nat.le_refl _) _⟩
      rw [hn5]
      clear hl5 hb5 hn5 e5
      go_wp2
      exact bodyPost_ret (v := .agg #[.slice A5 n5 m5]) (by simp [results, Tryz.results18, go_sem, hs]) rfl HFF.out
end Go.Proofs.YtldalfikpklfdaaGreat
