/- What the reference's Succ answers, of any parts. -/
import Derived.Test.YtldalfikpklfdaaGreatLvRefLeq
import Derived.Test.YtldalfikpklfdaaGreatLvKinds
import Derived.Deep.AppendLies
import Derived.Deep.RegionLaw
import Derived.Deep.RegionHeld3
namespace Go.Proofs.YtldalfikpklfdaaGreat
open Go.RowKit Go.Maps

set_option maxRecDepth 100000 in
set_option maxHeartbeats 8000000 in
theorem rsucc_any (A : Option Addr) (ps : List (Int × Int)) (c : Nat) (w : World) (hm : ps.length ≤ 900000) (h : Lev w w.heap.size A ps) (hc : A = none → c = 0) :
    Calls Tryz.prog 33 #[.agg #[.slice A ps.length c]] w (LOut w (succA ps)) := by
  have hfd := field_parts
  obtain ⟨i0, hi, hz0, hz1, hz2⟩ := info_parts infoP
  obtain ⟨x1, x2, x3⟩ := two_allocs w (.cells #[.slice A ps.length c] 24) (.cells #[.slice none 0 0] 24)
  have hb0 : Below w.heap.size w ((w.alloc (.cells #[.slice A ps.length c] 24)).alloc (.cells #[.slice none 0 0] 24)) := ((Below.refl _ _).alloc (Nat.le_refl _) _).alloc (by simp) _
  have HG := Lib.hid (rnorm_any A ps c ((w.alloc (.cells #[.slice A ps.length c] 24)).alloc (.cells #[.slice none 0 0] 24)) hm ((h.below hb0).more (by simp; omega)) hc)
  have X1 := Lib.hid x1
  have X2 := Lib.hid x2
  have HB0 := Lib.hid hb0
  have HLN : Hid ((nfA ps).length ≤ 900000) := by have := nfA_len ps; unfold Hid; omega
  have HOK : Hid (∀ p ∈ nfA ps, okPart p) := nfA_ok ps
  obtain ⟨qs, hqs⟩ : ∃ qs, nfA ps = qs := ⟨_, rfl⟩
  have HS : Hid (succA ps = if qs = [] then nfA [(0, 1)] else nfA (qs.map up1)) := by rw [← hqs]; rfl
  rw [hqs] at HG HLN HOK
  clear x1 x2 x3 hb0 h hc hqs
  go_enter Tryz.func33, Tryz.ntmps33
  go_wp2_with (fail)
  refine HG.out.mono ?_
  rintro e w1 ⟨A1, m1, rfl, hl1, hb1⟩
  obtain ⟨n1, hn1⟩ : ∃ n, qs.length = n := ⟨_, rfl⟩
  have e1 := (hb1.block w.heap.size (by simp; omega)).trans X1.out
  have e2 := (hb1.block (w.heap.size + 1) (by simp)).trans X2.out
  have f5 := cell_of_one e1
  have f6 := free_of_one e1
  have hs1 : w.heap.size + 2 ≤ w1.heap.size := by have := hb1.size; simp at this; omega
  obtain ⟨w2, hw2⟩ : ∃ w2, w1.setCell ⟨w.heap.size, 0, none⟩ (.slice A1 n1 m1) = w2 := ⟨_, rfl⟩
  have LA := Lib.hid (hl1.box (u := .slice A1 n1 m1) e1)
  have BA : Hid (Below w.heap.size w w2) := by rw [← hw2]; exact (HB0.out.trans (hb1.mono (by simp; omega))).setCell (Nat.le_refl _) _
  have Y1 : Hid (w2.heap[w.heap.size]? = some (.cells #[.slice A1 n1 m1] 24 (0, 0))) := by rw [← hw2]; exact (heap_setCell_same w1 w.heap.size 0 _ _ (.slice A1 n1 m1) e1).trans (by simp)
  have Y2 : Hid (w2.heap[w.heap.size + 1]? = some (.cells #[.slice none 0 0] 24 (0, 0))) := by rw [← hw2]; exact (Below.heap_setCell w1 _ _ _ (by show w.heap.size + 1 ≠ w.heap.size; omega)).trans e2
  have hz2' : w.heap.size + 2 ≤ w2.heap.size := by rw [← hw2]; exact Nat.le_trans hs1 (set_size _ _ _)
  have g5 := cell_of_one Y1.out
  rw [hn1, hw2] at LA
  rw [hn1]
  have HNL := Lib.hid hn1
  clear hl1 hb1 e1 e2 hn1
  by_cases hq0 : n1 = 0
  · subst hq0
    have hnil : qs = [] := List.eq_nil_of_length_eq_zero HNL.out
    have HN := Lib.hid (rnum_any 1 w2)
    have HS2 : Hid (succA ps = nfA [(0, 1)]) := by rw [HS.out, if_pos hnil]; exact rfl
    clear hnil
    go_wp2_with (fail)
    clear hw2 f5 f6 g5
    refine HN.out.mono ?_
    rintro e w3 ⟨A3, m3, rfl, hl3, hb3⟩
    obtain ⟨n3, hn3⟩ : ∃ n, (nfA [(0, 1)]).length = n := ⟨_, rfl⟩
    have e3 := (hb3.block (w.heap.size + 1) (by omega)).trans Y2.out
    have f7 := cell_of_one e3
    have f8 := free_of_one e3
    have hs : (w3.setCell ⟨w.heap.size + 1, 0, none⟩ (.slice A3 n3 m3)).cell? ⟨w.heap.size + 1, 0, none⟩ = some (.slice A3 n3 m3) := World.cell?_setCell_same _ _ _ f7
    have HF : Hid (LOut w (succA ps) (.returned (.agg #[.slice A3 n3 m3])) (w3.setCell ⟨w.heap.size + 1, 0, none⟩ (.slice A3 n3 m3))) := by
      rw [HS2.out]
      exact ⟨A3, m3, by rw [hn3], hl3.box e3, (BA.out.trans (hb3.mono (by omega))).setCell (by show w.heap.size ≤ w.heap.size + 1; omega) _⟩
    rw [hn3]
    clear hl3 hb3 hn3 e3
    go_wp2
    exact bodyPost_ret (v := .agg #[.slice A3 n3 m3]) (by simp [results, Tryz.results33, go_sem, hs]) rfl HF.out
  · have hne : ((n1 : Int) == 0) = false := by simpa using hq0
    have hnne : qs ≠ [] := fun e => hq0 (by rw [← HNL.out, e]; rfl)
    have HS2 : Hid (succA ps = nfA (qs.map up1)) := by rw [HS.out, if_neg hnne]; exact rfl
    clear hnne
    obtain ⟨b, o, hA1, hbB, hcell⟩ := LA.out.2.1 (by rw [HNL.out]; omega)
    subst hA1
    have HC := Lib.hid hcell
    have hln : n1 ≤ 900000 := by have := HLN.out; rw [HNL.out] at this; exact this
    have X3 := Lib.hid (heap_alloc_new w2 (.cells #[.slice none 0 0] 24))
    clear hcell
    go_wp2
    clear hw2 f5 f6 g5
    go_loopw [4] (fun i wr => ∃ (k : Nat) (lv : Value), k ≤ n1 ∧ i = .int .i64 (k : Int) ∧ LoopW (w2.alloc (.cells #[.slice none 0 0] 24)) wr w2.heap.size lv k ((qs.map up1).take k)) (fun i _ => n1 - (intOf i).toNat)
    case atStart => exact ⟨0, _, by omega, rfl, ⟨World.grownBy.refl _ _, X3.out, ⟨rfl, Or.inl ⟨rfl, rfl⟩⟩⟩⟩
    case round =>
      obtain ⟨k, lv, hk, rfl, hw⟩ := hrel
      have HW := Lib.hid hw
      have hwz := hw.grown.size
      simp at hwz
      have f0 := cell_of_one hw.cell
      have f3 := free_of_one hw.cell
      have hblk : ∀ p, p < w2.heap.size → wr.heap[p]? = w2.heap[p]? := fun p hp => (hw.grown.block p (by simp; omega) (by simp; omega)).trans (Below.heap_alloc _ _ _ hp)
      have c9 := cell_of_one ((hblk w.heap.size (by omega)).trans Y1.out)
      by_cases hlt : k < n1
      · have hbc : ∀ a : Addr, a.block = b → wr.cell? a = w2.cell? a := fun a ha => World.cell?_of_block (by rw [ha]; exact hblk b hbB)
        have c0 := (hbc ⟨b, o + k * 2, none⟩ rfl).trans (HC.out k (by rw [HNL.out]; exact hlt)).1
        have c1 := (hbc ⟨b, o + k * 2 + 1, none⟩ rfl).trans (HC.out k (by rw [HNL.out]; exact hlt)).2
        have hkq : k < qs.length := by rw [HNL.out]; exact hlt
        have hok := HOK.out (qs.getD k (0, 0)) (by rw [List.getD_eq_getElem?_getD, List.getElem?_eq_getElem hkq]; exact List.getElem_mem hkq)
        obtain ⟨vx, hx⟩ : ∃ x, x = (qs.getD k (0, 0)).1 := ⟨_, rfl⟩
        obtain ⟨vy, hy⟩ : ∃ y, y = (qs.getD k (0, 0)).2 := ⟨_, rfl⟩
        have hp : (qs.map up1)[k]? = some (vx, vy + 1) := by
          rw [List.getElem?_map, List.getElem?_eq_getElem hkq, hx, hy, List.getD_eq_getElem?_getD, List.getElem?_eq_getElem hkq]
          rfl
        have hy0 : 0 ≤ vy ∧ vy ≤ 1048576 := by rw [hy]; exact ⟨hok.2.1, hok.2.2.2⟩
        rw [← hx] at c0
        rw [← hy] at c1
        have HP := Lib.hid (take_snoc_ hp)
        have Hrw := Lib.hid hw.row
        have ag : lv.ownBlock ≠ some w2.heap.size := fun e => by have := (hw.row.lt _ e).1; simp at this; omega
        have hbw : b < wr.heap.size := by omega
        have g1 : w2.heap.size < wr.heap.size := by omega
        have AG := Lib.hid ag
        obtain ⟨y0, y1⟩ := hy0
        clear hblk hbc hp hx hy hw ag hok hkq
        have q0 : (0 : Int) ≤ (k : Int) := by omega
        have q1 : (k : Int) < (n1 : Int) := by omega
        have q3 : IntKind.i64.wrap (vy + 1) = vy + 1 := IntWalk.i64_in _ (by omega)
        have hww : w.heap.size < wr.heap.size := by omega
        have hlow : ∀ p, lv.ownBlock = some p → (w2.alloc (.cells #[.slice none 0 0] 24)).heap.size ≤ p := fun p e => (Hrw.out.lt _ e).1
        have HLOW := Lib.hid hlow
        have hS : Below wr.heap.size wr wr.drew := (Below.refl _ _).drew
        clear hlow
        go_upto_region 8 with (fail)
        refine wp_region_tail 17 (fun w' => Below wr.heap.size wr w') (fun w1 w2 : World => Below w1.heap.size w1 w2) [(fun (x : Value) (_ : World) => x = (.pointer (some ⟨w2.heap.size, 0, none⟩) : Value)), (fun (x : Value) (_ : World) => x = (lv : Value)), (fun (x : Value) (_ : World) => x = (.pointer (some ⟨w.heap.size, 0, none⟩) : Value)), (fun (x : Value) (_ : World) => x = (.slice (some ⟨b, o, none⟩) n1 m1 : Value)), (fun (x : Value) (_ : World) => x = (.int .i64 (k : Int) : Value)), (fun (x : Value) (_ : World) => x = (.pointer (some ⟨b, o + k * 2, none⟩) : Value)), (fun (x : Value) (_ : World) => x = (.pointer (some ⟨b, o + k * 2, none⟩) : Value)), (fun (x : Value) (_ : World) => x = (.int .i64 vx : Value)), (fun (x : Value) (_ : World) => x = (.pointer (some ⟨w.heap.size, 0, none⟩) : Value)), (fun (x : Value) (_ : World) => x = (.slice (some ⟨b, o, none⟩) n1 m1 : Value)), (fun (x : Value) (_ : World) => x = (.int .i64 (k : Int) : Value)), (fun (x : Value) (_ : World) => x = (.pointer (some ⟨b, o + k * 2, none⟩) : Value)), (fun (x : Value) (_ : World) => x = (.pointer (some ⟨b, o + k * 2 + 1, none⟩) : Value)), (fun (x : Value) (_ : World) => x = (.int .i64 vy : Value)), (fun (x : Value) (_ : World) => x = (.int .i64 (vy + 1) : Value)), (fun (x : Value) (_ : World) => x = (.agg #[.int .i64 vx, .int .i64 (vy + 1)] : Value)), (fun (x : Value) (w : World) => ∃ g, x = .slice (some ⟨g, 0, none⟩) 1 1 ∧ wr.heap.size ≤ g ∧ w.heap[g]? = some (.cells #[.int .i64 vx, .int .i64 (vy + 1)] 47 (0, 0)))] [⟨some 19, .fieldAddr 24 (.tmp 3) 0, none, []⟩, ⟨some 20, .load 22 (.tmp 19), none, [(19, 0)]⟩, ⟨some 21, .fieldAddr 24 (.tmp 1) 0, none, []⟩, ⟨some 22, .load 22 (.tmp 21), none, [(21, 2)]⟩, ⟨some 23, .move (.tmp 4), none, []⟩, ⟨some 24, .indexAddr 22 (.tmp 22) (.tmp 23), none, [(22, 3), (23, 4)]⟩, ⟨some 25, .fieldAddr 47 (.tmp 24) 0, none, [(24, 5)]⟩, ⟨some 26, .load 3 (.tmp 25), none, [(25, 6)]⟩, ⟨some 27, .fieldAddr 24 (.tmp 1) 0, none, []⟩, ⟨some 28, .load 22 (.tmp 27), none, [(27, 8)]⟩, ⟨some 29, .move (.tmp 4), none, []⟩, ⟨some 30, .indexAddr 22 (.tmp 28) (.tmp 29), none, [(28, 9), (29, 10)]⟩, ⟨some 31, .fieldAddr 47 (.tmp 30) 1, none, [(30, 11)]⟩, ⟨some 32, .load 3 (.tmp 31), none, [(31, 12)]⟩, ⟨some 33, .binOp .add 3 (.tmp 32) (.const (.int .i64 1)) 3, none, [(32, 13)]⟩, ⟨some 34, .build 47 #[(0, .tmp 26), (1, .tmp 33)], none, [(26, 7), (33, 14)]⟩, ⟨some 35, .buildSlice 22 1 #[(0, .tmp 34)], none, [(34, 15)]⟩] [some 19, some 20, some 21, some 22, some 23, some 24, some 25, some 26, some 27, some 28, some 29, some 30, some 31, some 32, some 33, some 34, some 35] [] [] (by kernel_rfl) (by kernel_rfl) (by kernel_rfl) (by kernel_rfl) (by kernel_rfl) (by kernel_rfl) (by kernel_rfl) (by kernel_rfl) ?hrun ?hold ?hS ?hmono ?hsteps ?hfin
        case hrun => exact fun p hp => by cases hp
        case hold => exact fun p hp => by cases hp
        case hS => exact hS
        case hmono =>
          refine MonoL.cons (fun x w1 w2 _ _ _ hx => hx) ?_
          refine MonoL.cons (fun x w1 w2 _ _ _ hx => hx) ?_
          refine MonoL.cons (fun x w1 w2 _ _ _ hx => hx) ?_
          refine MonoL.cons (fun x w1 w2 _ _ _ hx => hx) ?_
          refine MonoL.cons (fun x w1 w2 _ _ _ hx => hx) ?_
          refine MonoL.cons (fun x w1 w2 _ _ _ hx => hx) ?_
          refine MonoL.cons (fun x w1 w2 _ _ _ hx => hx) ?_
          refine MonoL.cons (fun x w1 w2 _ _ _ hx => hx) ?_
          refine MonoL.cons (fun x w1 w2 _ _ _ hx => hx) ?_
          refine MonoL.cons (fun x w1 w2 _ _ _ hx => hx) ?_
          refine MonoL.cons (fun x w1 w2 _ _ _ hx => hx) ?_
          refine MonoL.cons (fun x w1 w2 _ _ _ hx => hx) ?_
          refine MonoL.cons (fun x w1 w2 _ _ _ hx => hx) ?_
          refine MonoL.cons (fun x w1 w2 _ _ _ hx => hx) ?_
          refine MonoL.cons (fun x w1 w2 _ _ _ hx => hx) ?_
          refine MonoL.cons (fun x w1 w2 _ _ _ hx => hx) ?_
          refine MonoL.cons (fun x w1 w2 _ _ hR hx => ?_) ?_
          · obtain ⟨g, h1, h2, h3⟩ := hx; exact ⟨g, h1, h2, (hR.block g (heap_some_lt h3)).trans h3⟩
          exact MonoL.nil
        case hsteps =>
          refine StepsT.cons (fun (x : Value) (_ : World) => x = (.pointer (some ⟨w2.heap.size, 0, none⟩) : Value)) [] rfl rfl (fun oq hop _ wq hQS => ?_) ?_
          · exact StepFrom.fieldAddr hop (p := (.pointer (some ⟨w2.heap.size, 0, none⟩) : Value)) (by kernel_rfl) (parts_addr) (by kernel_rfl) hQS (Below.refl _ _) rfl
          refine StepsT.cons (fun (x : Value) (_ : World) => x = (lv : Value)) [(19, (fun (x : Value) (_ : World) => x = (.pointer (some ⟨w2.heap.size, 0, none⟩) : Value)))] rfl rfl (fun oq hop _ wq hQS => ?_) ?_
          · refine StepFrom.more_eq ((.pointer (some ⟨w2.heap.size, 0, none⟩) : Value)) ?_
            exact StepFrom.load hop (p := (.pointer (some ⟨w2.heap.size, 0, none⟩) : Value)) (by kernel_rfl) (load_lv ((hQS.cell (p := ⟨w2.heap.size, 0, none⟩) g1).trans f0)) (by kernel_rfl) hQS (Below.refl _ _) rfl
          refine StepsT.cons (fun (x : Value) (_ : World) => x = (.pointer (some ⟨w.heap.size, 0, none⟩) : Value)) [] rfl rfl (fun oq hop _ wq hQS => ?_) ?_
          · exact StepFrom.fieldAddr hop (p := (.pointer (some ⟨w.heap.size, 0, none⟩) : Value)) (by kernel_rfl) (parts_addr) (by kernel_rfl) hQS (Below.refl _ _) rfl
          refine StepsT.cons (fun (x : Value) (_ : World) => x = (.slice (some ⟨b, o, none⟩) n1 m1 : Value)) [(21, (fun (x : Value) (_ : World) => x = (.pointer (some ⟨w.heap.size, 0, none⟩) : Value)))] rfl rfl (fun oq hop _ wq hQS => ?_) ?_
          · refine StepFrom.more_eq ((.pointer (some ⟨w.heap.size, 0, none⟩) : Value)) ?_
            exact StepFrom.load hop (p := (.pointer (some ⟨w.heap.size, 0, none⟩) : Value)) (by kernel_rfl) (load_parts ((hQS.cell (p := ⟨w.heap.size, 0, none⟩) hww).trans c9)) (by kernel_rfl) hQS (Below.refl _ _) rfl
          refine StepsT.cons (fun (x : Value) (_ : World) => x = (.int .i64 (k : Int) : Value)) [] rfl rfl (fun oq hop _ wq hQS => ?_) ?_
          · exact StepFrom.move hop (v := (.int .i64 (k : Int) : Value)) (by kernel_rfl) (by kernel_rfl) hQS (Below.refl _ _) rfl
          refine StepsT.cons (fun (x : Value) (_ : World) => x = (.pointer (some ⟨b, o + k * 2, none⟩) : Value)) [(22, (fun (x : Value) (_ : World) => x = (.slice (some ⟨b, o, none⟩) n1 m1 : Value))), (23, (fun (x : Value) (_ : World) => x = (.int .i64 (k : Int) : Value)))] rfl rfl (fun oq hop _ wq hQS => ?_) ?_
          · refine StepFrom.more_eq ((.slice (some ⟨b, o, none⟩) n1 m1 : Value)) ?_
            refine StepFrom.more_eq ((.int .i64 (k : Int) : Value)) ?_
            exact StepFrom.indexAddr hop (p := (.slice (some ⟨b, o, none⟩) n1 m1 : Value)) (q := (.int .i64 (k : Int) : Value)) (by kernel_rfl) (by kernel_rfl) (part_addr q0 q1) (by kernel_rfl) hQS (Below.refl _ _) rfl
          refine StepsT.cons (fun (x : Value) (_ : World) => x = (.pointer (some ⟨b, o + k * 2, none⟩) : Value)) [(24, (fun (x : Value) (_ : World) => x = (.pointer (some ⟨b, o + k * 2, none⟩) : Value)))] rfl rfl (fun oq hop _ wq hQS => ?_) ?_
          · refine StepFrom.more_eq ((.pointer (some ⟨b, o + k * 2, none⟩) : Value)) ?_
            exact StepFrom.fieldAddr hop (p := (.pointer (some ⟨b, o + k * 2, none⟩) : Value)) (by kernel_rfl) (var_addr) (by kernel_rfl) hQS (Below.refl _ _) rfl
          refine StepsT.cons (fun (x : Value) (_ : World) => x = (.int .i64 vx : Value)) [(25, (fun (x : Value) (_ : World) => x = (.pointer (some ⟨b, o + k * 2, none⟩) : Value)))] rfl rfl (fun oq hop _ wq hQS => ?_) ?_
          · refine StepFrom.more_eq ((.pointer (some ⟨b, o + k * 2, none⟩) : Value)) ?_
            exact StepFrom.load hop (p := (.pointer (some ⟨b, o + k * 2, none⟩) : Value)) (by kernel_rfl) (load_int ((hQS.cell (p := ⟨b, o + k * 2, none⟩) hbw).trans c0)) (by kernel_rfl) hQS (Below.refl _ _) rfl
          refine StepsT.cons (fun (x : Value) (_ : World) => x = (.pointer (some ⟨w.heap.size, 0, none⟩) : Value)) [] rfl rfl (fun oq hop _ wq hQS => ?_) ?_
          · exact StepFrom.fieldAddr hop (p := (.pointer (some ⟨w.heap.size, 0, none⟩) : Value)) (by kernel_rfl) (parts_addr) (by kernel_rfl) hQS (Below.refl _ _) rfl
          refine StepsT.cons (fun (x : Value) (_ : World) => x = (.slice (some ⟨b, o, none⟩) n1 m1 : Value)) [(27, (fun (x : Value) (_ : World) => x = (.pointer (some ⟨w.heap.size, 0, none⟩) : Value)))] rfl rfl (fun oq hop _ wq hQS => ?_) ?_
          · refine StepFrom.more_eq ((.pointer (some ⟨w.heap.size, 0, none⟩) : Value)) ?_
            exact StepFrom.load hop (p := (.pointer (some ⟨w.heap.size, 0, none⟩) : Value)) (by kernel_rfl) (load_parts ((hQS.cell (p := ⟨w.heap.size, 0, none⟩) hww).trans c9)) (by kernel_rfl) hQS (Below.refl _ _) rfl
          refine StepsT.cons (fun (x : Value) (_ : World) => x = (.int .i64 (k : Int) : Value)) [] rfl rfl (fun oq hop _ wq hQS => ?_) ?_
          · exact StepFrom.move hop (v := (.int .i64 (k : Int) : Value)) (by kernel_rfl) (by kernel_rfl) hQS (Below.refl _ _) rfl
          refine StepsT.cons (fun (x : Value) (_ : World) => x = (.pointer (some ⟨b, o + k * 2, none⟩) : Value)) [(28, (fun (x : Value) (_ : World) => x = (.slice (some ⟨b, o, none⟩) n1 m1 : Value))), (29, (fun (x : Value) (_ : World) => x = (.int .i64 (k : Int) : Value)))] rfl rfl (fun oq hop _ wq hQS => ?_) ?_
          · refine StepFrom.more_eq ((.slice (some ⟨b, o, none⟩) n1 m1 : Value)) ?_
            refine StepFrom.more_eq ((.int .i64 (k : Int) : Value)) ?_
            exact StepFrom.indexAddr hop (p := (.slice (some ⟨b, o, none⟩) n1 m1 : Value)) (q := (.int .i64 (k : Int) : Value)) (by kernel_rfl) (by kernel_rfl) (part_addr q0 q1) (by kernel_rfl) hQS (Below.refl _ _) rfl
          refine StepsT.cons (fun (x : Value) (_ : World) => x = (.pointer (some ⟨b, o + k * 2 + 1, none⟩) : Value)) [(30, (fun (x : Value) (_ : World) => x = (.pointer (some ⟨b, o + k * 2, none⟩) : Value)))] rfl rfl (fun oq hop _ wq hQS => ?_) ?_
          · refine StepFrom.more_eq ((.pointer (some ⟨b, o + k * 2, none⟩) : Value)) ?_
            exact StepFrom.fieldAddr hop (p := (.pointer (some ⟨b, o + k * 2, none⟩) : Value)) (by kernel_rfl) (plus_addr) (by kernel_rfl) hQS (Below.refl _ _) rfl
          refine StepsT.cons (fun (x : Value) (_ : World) => x = (.int .i64 vy : Value)) [(31, (fun (x : Value) (_ : World) => x = (.pointer (some ⟨b, o + k * 2 + 1, none⟩) : Value)))] rfl rfl (fun oq hop _ wq hQS => ?_) ?_
          · refine StepFrom.more_eq ((.pointer (some ⟨b, o + k * 2 + 1, none⟩) : Value)) ?_
            exact StepFrom.load hop (p := (.pointer (some ⟨b, o + k * 2 + 1, none⟩) : Value)) (by kernel_rfl) (load_int ((hQS.cell (p := ⟨b, o + k * 2 + 1, none⟩) hbw).trans c1)) (by kernel_rfl) hQS (Below.refl _ _) rfl
          refine StepsT.cons (fun (x : Value) (_ : World) => x = (.int .i64 (vy + 1) : Value)) [(32, (fun (x : Value) (_ : World) => x = (.int .i64 vy : Value)))] rfl rfl (fun oq hop _ wq hQS => ?_) ?_
          · refine StepFrom.more_eq ((.int .i64 vy : Value)) ?_
            exact StepFrom.bin hop (vx := (.int .i64 vy : Value)) (vy := (.int .i64 1 : Value)) (by kernel_rfl) (by kernel_rfl) (add_int _ _ _ _ _ q3) (by kernel_rfl) hQS (Below.refl _ _) rfl
          refine StepsT.cons (fun (x : Value) (_ : World) => x = (.agg #[.int .i64 vx, .int .i64 (vy + 1)] : Value)) [(26, (fun (x : Value) (_ : World) => x = (.int .i64 vx : Value))), (33, (fun (x : Value) (_ : World) => x = (.int .i64 (vy + 1) : Value)))] rfl rfl (fun oq hop _ wq hQS => ?_) ?_
          · refine StepFrom.more_eq ((.int .i64 vx : Value)) ?_
            refine StepFrom.more_eq ((.int .i64 (vy + 1) : Value)) ?_
            exact StepFrom.build hop (vs := [(0, .int .i64 vx), (1, .int .i64 (vy + 1))]) (by kernel_rfl) (build_part _ _ _) (by kernel_rfl) hQS (Below.refl _ _) rfl
          refine StepsT.cons (fun (x : Value) (w : World) => ∃ g, x = .slice (some ⟨g, 0, none⟩) 1 1 ∧ wr.heap.size ≤ g ∧ w.heap[g]? = some (.cells #[.int .i64 vx, .int .i64 (vy + 1)] 47 (0, 0))) [(34, (fun (x : Value) (_ : World) => x = (.agg #[.int .i64 vx, .int .i64 (vy + 1)] : Value)))] rfl rfl (fun oq hop _ wq hQS => ?_) ?_
          · refine StepFrom.more_eq ((.agg #[.int .i64 vx, .int .i64 (vy + 1)] : Value)) ?_
            exact StepFrom.slice hop (vs := [(0, .agg #[.int .i64 vx, .int .i64 (vy + 1)])]) (by kernel_rfl) (slice_part _ _ _) (by kernel_rfl) (hQS.alloc hQS.size _) ((Below.refl _ _).alloc (Nat.le_refl _) _) ⟨_, rfl, hQS.size, heap_alloc_new wq _⟩
          exact StepsT.nil
        case hfin =>
          intro wf hFS
          refine FinalFrom.more fun x19 h19 => ?_
          refine FinalFrom.more fun x20 h20 => ?_
          refine FinalFrom.more fun x21 h21 => ?_
          refine FinalFrom.more fun x22 h22 => ?_
          refine FinalFrom.more fun x23 h23 => ?_
          refine FinalFrom.more fun x24 h24 => ?_
          refine FinalFrom.more fun x25 h25 => ?_
          refine FinalFrom.more fun x26 h26 => ?_
          refine FinalFrom.more fun x27 h27 => ?_
          refine FinalFrom.more fun x28 h28 => ?_
          refine FinalFrom.more fun x29 h29 => ?_
          refine FinalFrom.more fun x30 h30 => ?_
          refine FinalFrom.more fun x31 h31 => ?_
          refine FinalFrom.more fun x32 h32 => ?_
          refine FinalFrom.more fun x33 h33 => ?_
          refine FinalFrom.more fun x34 h34 => ?_
          refine FinalFrom.more fun x35 h35 => ?_
          refine FinalFrom.done ?_
          obtain rfl : x20 = lv := h20
          obtain ⟨g35, rfl, hg35, hl35⟩ := h35
          intro _
          simp only [Act.put, List.setIfInBounds_toArray, List.set_cons_zero, List.set_cons_succ, List.drop_succ_cons, List.drop_zero]
          have hwf := hFS.size
          have hrow := own_kept (Hrw.out) hFS
          refine wpList_append_lies wf rfl _ _ 22 rfl (w2.alloc (.cells #[.slice none 0 0] 24)).heap.size 47 i0 _ 2 16 Tryz.underlying22 hi hz0 hz1 hz2 rfl (by omega) x20 k (cells ((qs.map up1).take k)) rfl hrow
              ⟨g35, 0, none⟩ 1 1 [.int .i64 vx, .int .i64 (vy + 1)] rfl rfl (World.news_of_block (cs := #[.int .i64 vx, .int .i64 (vy + 1)]) (t := 47) (fr := (0, 0)) hl35) (by simp [Value.oneCell'])
              (by omega) (by unfold maxLen; omega) (by omega) (by simp; omega) wf.heap.size rfl ?_
          intro gg cap w3 hown1 hgrow hat hlt1
          have hL : w3.heap[w2.heap.size]? = some (.cells #[x20] 24 (0, 0)) := (hgrow.block _ (by omega) (Ne.symm AG.out)).trans ((hFS.block _ g1).trans HW.out.cell)
          have fL := cell_of_one hL
          have fF := free_of_one hL
          have HF : Hid (LoopW (w2.alloc (.cells #[.slice none 0 0] 24)) (w3.setCell ⟨w2.heap.size, 0, none⟩ (.slice (some ⟨gg, 0, none⟩) (k + 1) cap)) w2.heap.size (.slice (some ⟨gg, 0, none⟩) (k + 1) cap) (k + 1) ((qs.map up1).take (k + 1))) := by
            refine ⟨⟨hgrow.os.trans (hFS.os.trans HW.out.grown.os), hgrow.tape.trans (hFS.tape.trans HW.out.grown.tape), hgrow.output.trans (hFS.output.trans HW.out.grown.output), Nat.le_trans HW.out.grown.size (Nat.le_trans hwf (Nat.le_trans hgrow.size (set_size _ _ _))), fun p hp hne => ?_⟩, one_setCell hL, ?_⟩
            · have hpw : p < wr.heap.size := Nat.lt_of_lt_of_le hp HW.out.grown.size
              refine (Below.heap_setCell w3 _ _ p (fun e => hne (by rw [e]))).trans ((hgrow.block p (by omega) (fun e => by have := HLOW.out p e.symm; omega)).trans ((hFS.block p hpw).trans (HW.out.grown.block p hp hne)))
            · rw [HP.out, cells_append]
              exact ownsRow_setCell_below hown1 (by simp) _
          clear hown1 hgrow hat hlt1 hFS hrow hl35 hL hS
          go_wp2
          go_roundw
          case rel => exact ⟨k + 1, _, by omega, by go_num, HF.out⟩
          case measure => simp [intOf]; omega
      · obtain rfl : k = n1 := by omega
        have hq : (qs.map up1).take k = qs.map up1 := List.take_of_length_le (by rw [List.length_map, HNL.out]; exact Nat.le_refl _)
        obtain ⟨A3, n3, m3, rfl⟩ := own_slice hw.row
        have hrow := hw.row
        rw [hq, show k = (qs.map up1).length by rw [List.length_map, HNL.out]] at hrow
        obtain ⟨hn3, hl3, hc3⟩ := own_lev hrow
        have hn3k : n3 = k := by rw [hn3, List.length_map, HNL.out]
        have HGN := Lib.hid (rnorm_any A3 (qs.map up1) m3 wr (by rw [List.length_map, HNL.out]; exact hln) hl3 hc3)
        rw [← hn3, hn3k] at HGN
        have e4 := (hblk (w.heap.size + 1) (by omega)).trans Y2.out
        have BR : Hid (Below w.heap.size w wr) := ⟨hw.grown.os.trans (BA.out.os), hw.grown.tape.trans (BA.out.tape), hw.grown.output.trans (BA.out.output), Nat.le_trans (by omega) hwz, fun p hp => (hblk p (by omega)).trans (BA.out.block p hp)⟩
        have HE4 := Lib.hid e4
        subst hn3k
        clear hw hrow hq hl3 hc3 hn3 hblk e4 HW
        go_wp2_with (fail)
        refine HGN.out.mono ?_
        rintro e w5 ⟨A5, m5, rfl, hl5, hb5⟩
        obtain ⟨n5, hn5⟩ : ∃ n, (nfA (qs.map up1)).length = n := ⟨_, rfl⟩
        have e5 := (hb5.block (w.heap.size + 1) (by omega)).trans HE4.out
        have f7 := cell_of_one e5
        have f8 := free_of_one e5
        have hs : (w5.setCell ⟨w.heap.size + 1, 0, none⟩ (.slice A5 n5 m5)).cell? ⟨w.heap.size + 1, 0, none⟩ = some (.slice A5 n5 m5) := World.cell?_setCell_same _ _ _ f7
        have HF : Hid (LOut w (succA ps) (.returned (.agg #[.slice A5 n5 m5])) (w5.setCell ⟨w.heap.size + 1, 0, none⟩ (.slice A5 n5 m5))) := by
          rw [HS2.out]
          exact ⟨A5, m5, by rw [hn5], hl5.box e5, (BR.out.trans (hb5.mono (by omega))).setCell (by show w.heap.size ≤ w.heap.size + 1; omega) _⟩
        rw [hn5]
        clear hl5 hb5 hn5 e5
        go_wp2
        exact bodyPost_ret (v := .agg #[.slice A5 n5 m5]) (by simp [results, Tryz.results33, go_sem, hs]) rfl HF.out
end Go.Proofs.YtldalfikpklfdaaGreat
