/- Laws. -/
import Derived.Test.YtafgmndlbbjphaaGreatDoorPuis
import Derived.Test.YtafgmndlbbjphaaGreatDoorPubb
set_option maxRecDepth 100000
namespace Go.Proofs.YtafgmndlbbjphaaGreatDoor
open Go.RowKit Go.Maps
def KeptTm (t : Tm) : Prop := ∀ (va vb : Value) (w : World) (B : Nat), t.count ≤ 100000 → t.fit → LentAt w B t va → TmAt w w.heap.size t vb → Calls Tryz.prog 17 #[va, vb] w (HasPost w true)
theorem enter_keptTerm (vs : Array Value) (w : World) : (callFunc 17 vs).run Tryz.prog w = .ok (.enter 17 vs) w := by go_simp
set_option maxHeartbeats 4000000 in
theorem keptTerms_of (ts : List Tm) (ih : ∀ t ∈ ts, KeptTm t) (A : Option Addr) (c n g cap B : Nat) (w : World) (hn : ts.length = n) (hc : Tm.countL ts ≤ 100000) (hf : Tm.fitL ts) (h : Tms w w.heap.size A c ts) (hk : LentRow w B ts n g cap) :
  Calls Tryz.prog 18 #[.slice (some ⟨g, 0, none⟩) n cap, .slice A n c] w (HasPost w true) := by
 have hm : n ≤ 100000 := by have := Tm.countL_length ts; omega
 have q1 : IntKind.i64.wrap ((n : Int) + 12) = (n : Int) + 12 := IntWalk.i64_in _ (by omega)
 have q2 : ((n : Int) != (n : Int)) = false := by simp
 have q3 : (0 : Int) ≤ (n : Int) + 12 := by omega
 obtain ⟨ys, hrow, hls⟩ := hk
 have hcap := (own_cap hrow).1
 have q4 : (n : Int) + 12 ≤ (cap : Int) := by omega
 have q5 : ((n : Int) + 12).toNat = n + 12 := by omega
 have hgw : g < w.heap.size := (hrow.lt g rfl).2
 have HYL : Hid (ys.length = n * 5) := by rw [← hn]; exact hls.length
 have HL := Lib.hid h
 have HN := Lib.hid hn
 have HC := Lib.hid hc
 have HF := Lib.hid ((Tm.fitL_iff ts).1 hf)
 have HR := Lib.hid hrow
 have HLS := Lib.hid hls
 have IH := Lib.hid ih
 clear h hn hc hf hrow hls ih
 go_enter Tryz.func18, Tryz.ntmps18
 go_wp2
 go_loopw [6] (fun i wr => ∃ k : Nat, k ≤ n + 12 ∧ i = .int .i64 (k : Int) ∧ Below w.heap.size w wr) (fun i _ => n + 12 - (intOf i).toNat)
 case atStart => exact ⟨0, by omega, rfl, Below.refl _ _⟩
 case round =>
  obtain ⟨k, hk, rfl, hb⟩ := hrel
  have hbz := hb.size
  have HB := Lib.hid hb
  by_cases hlt : k < n + 12
  ·have hgr : g < wr.heap.size := by omega
   have ij0 : (0 : Int) ≤ (k : Int) := by omega
   have ij1 : (k : Int) < ((n + 12 : Nat) : Int) := by omega
   have ij5 : (k : Int) < (n : Int) + 12 := by omega
   have hS : Below wr.heap.size wr wr.drew := (Below.refl _ _).drew
   by_cases hin : k < n
   ·have ij2 : (k : Int) < (n : Int) := by omega
    obtain ⟨t, ht⟩ : ∃ t, ts[k]? = some t := ⟨_, List.getElem?_eq_getElem (by rw [HN.out]; exact hin)⟩
    obtain ⟨b, o, k1, n1, a1, A1, p1, c1, A2, p2, c2, e, hbB, hv, d0, d1, d2, d3, d4⟩ := HL.out.at HB.out ht
    subst e
    have hm1 := Tm.countL_mem (List.mem_of_getElem? ht)
    have hcc := HC.out
    have hyl := HYL.out
    obtain ⟨e0, e1, e2, e3, e4, s0, s1, s2, s3, s4, s5⟩ := HLS.out.get k t ht
    have x0 : wr.cell? ⟨g, 0 + k * 5, none⟩ = some e0 := by rw [show 0 + k * 5 = k * 5 by omega]; exact (HB.out.cell (p := ⟨g, k * 5, none⟩) hgw).trans (by rw [HR.out.cellAt (k * 5) (by omega), List.getElem?_append_left (by omega)]; exact s0)
    have x1 : wr.cell? ⟨g, 0 + k * 5 + 1, none⟩ = some e1 := by rw [show 0 + k * 5 + 1 = k * 5 + 1 by omega]; exact (HB.out.cell (p := ⟨g, k * 5 + 1, none⟩) hgw).trans (by rw [HR.out.cellAt (k * 5 + 1) (by omega), List.getElem?_append_left (by omega)]; exact s1)
    have x2 : wr.cell? ⟨g, 0 + k * 5 + 2, none⟩ = some e2 := by rw [show 0 + k * 5 + 2 = k * 5 + 2 by omega]; exact (HB.out.cell (p := ⟨g, k * 5 + 2, none⟩) hgw).trans (by rw [HR.out.cellAt (k * 5 + 2) (by omega), List.getElem?_append_left (by omega)]; exact s2)
    have x3 : wr.cell? ⟨g, 0 + k * 5 + 3, none⟩ = some e3 := by rw [show 0 + k * 5 + 3 = k * 5 + 3 by omega]; exact (HB.out.cell (p := ⟨g, k * 5 + 3, none⟩) hgw).trans (by rw [HR.out.cellAt (k * 5 + 3) (by omega), List.getElem?_append_left (by omega)]; exact s3)
    have x4 : wr.cell? ⟨g, 0 + k * 5 + 4, none⟩ = some e4 := by rw [show 0 + k * 5 + 4 = k * 5 + 4 by omega]; exact (HB.out.cell (p := ⟨g, k * 5 + 4, none⟩) hgw).trans (by rw [HR.out.cellAt (k * 5 + 4) (by omega), List.getElem?_append_left (by omega)]; exact s4)
    obtain ⟨k7, n7, a7, B3, m3, h3, B4, m4, h4, ev⟩ : ∃ (k7 n7 a7 : Int) (B3 : Option Addr) (m3 h3 : Nat) (B4 : Option Addr) (m4 h4 : Nat), (Value.agg #[e0, e1, e2, e3, e4]) = .agg #[.int .i64 k7, .int .i64 n7, .int .i64 a7, .slice B3 m3 h3, .slice B4 m4 h4] := by
     obtain ⟨kk, nn, aa, lv, ks⟩ := t
     obtain ⟨_, _, _, _, _, ev, _⟩ := s5.open
     exact ⟨_, _, _, _, _, _, _, _, _, ev⟩
    injection ev with ev
    injection ev with ev
    injection ev with v0 ev
    injection ev with v1 ev
    injection ev with v2 ev
    injection ev with v3 ev
    injection ev with v4 _
    subst v0 v1 v2 v3 v4
    have CK : Hid (∀ w', Below wr.heap.size wr w' → Calls Tryz.prog 17 #[.agg #[.int .i64 k7, .int .i64 n7, .int .i64 a7, .slice B3 m3 h3, .slice B4 m4 h4], .agg #[.int .i64 k1, .int .i64 n1, .int .i64 a1, .slice A1 p1 c1, .slice A2 p2 c2]] w' (HasPost w' true)) := fun w' hx => by
     have hx2 : Below w.heap.size w w' := HB.out.trans (hx.mono hbz)
     exact IH.out t (List.mem_of_getElem? ht) _ _ w' B (by omega) (HF.out t (List.mem_of_getElem? ht)) (s5.below hx2) (hv.below hx2 hx2.size)
    have hbr : b < wr.heap.size := by omega
    clear hb hv s0 s1 s2 s3 s4 s5 ht hm1 hcc hyl
    go_upto_region 7 with (fail)
    refine wp_region_tab (fun w' => Below wr.heap.size wr w') BR [(Is (.int .i64 (k : Int))), (Is (.slice (some ⟨b, o, none⟩) n c)), (Is (.int .i64 (n : Int))), (Is (.bool true)), (Is (.bool true)), (Is (.slice (some ⟨g, 0, none⟩) (n + 12) cap)), (Is (.int .i64 (k : Int))), (Is (.pointer (some ⟨g, 0 + k * 5, none⟩))), (Is (.agg #[.int .i64 k7, .int .i64 n7, .int .i64 a7, .slice B3 m3 h3, .slice B4 m4 h4])), (Is (.slice (some ⟨b, o, none⟩) n c)), (Is (.int .i64 (k : Int))), (Is (.pointer (some ⟨b, o + k * 5, none⟩))), (Is (.agg #[.int .i64 k1, .int .i64 n1, .int .i64 a1, .slice A1 p1 c1, .slice A2 p2 c2])), (Is (.bool true)), (Is (.bool false)), (Is (.bool false)), (Is (.bool false)), (Is (.int .i64 (k : Int))), (Is (.slice (some ⟨b, o, none⟩) n c)), (Is (.int .i64 (n : Int))), (Is (.bool false)), (Is (.bool false)), (Is undef), (Is undef), (Is undef), (Is undef), (Is undef), (Is undef), (Is undef), (Is undef), (Is undef), (Is undef), (Is undef), (Is (.bool false)), (Is (.bool false))] [⟨some 23, .move (.tmp 6), none, []⟩, ⟨some 24, .move (.tmp 1), none, []⟩, ⟨some 25, .call { callee := .builtin .len, args := #[.tmp 24], argTypes := #[24] }, none, [(24, 1)]⟩, ⟨some 26, .binOp .lss 3 (.tmp 23) (.tmp 25) 3, none, [(23, 0), (25, 2)]⟩, ⟨some 27, .move (.tmp 26), none, [(26, 3)]⟩, ⟨some 28, .move (.tmp 5), some (some 27, true), [(27, 4)]⟩, ⟨some 29, .move (.tmp 6), some (some 27, true), [(27, 4)]⟩, ⟨some 30, .indexAddr 24 (.tmp 28) (.tmp 29), some (some 27, true), [(27, 4), (28, 5), (29, 6)]⟩, ⟨some 31, .load 26 (.tmp 30), some (some 27, true), [(27, 4), (30, 7)]⟩, ⟨some 32, .move (.tmp 1), some (some 27, true), [(27, 4)]⟩, ⟨some 33, .move (.tmp 6), some (some 27, true), [(27, 4)]⟩, ⟨some 34, .indexAddr 24 (.tmp 32) (.tmp 33), some (some 27, true), [(27, 4), (32, 9), (33, 10)]⟩, ⟨some 35, .load 26 (.tmp 34), some (some 27, true), [(27, 4), (34, 11)]⟩, ⟨some 36, .call { callee := .value (.func 17), args := #[.tmp 31, .tmp 35], argTypes := #[26, 26] }, some (some 27, true), [(27, 4), (31, 8), (35, 12)]⟩, ⟨some 37, .unOp .not 4 (.tmp 36), some (some 27, true), [(27, 4), (36, 13)]⟩, ⟨some 38, .pick (.tmp 27) (.tmp 37) (.const (Value.bool false)), none, [(27, 4), (37, 14)]⟩, ⟨some 39, .move (.tmp 38), none, [(38, 15)]⟩, ⟨some 40, .move (.tmp 6), some (some 39, false), [(39, 16)]⟩, ⟨some 41, .move (.tmp 1), some (some 39, false), [(39, 16)]⟩, ⟨some 42, .call { callee := .builtin .len, args := #[.tmp 41], argTypes := #[24] }, some (some 39, false), [(39, 16), (41, 18)]⟩, ⟨some 43, .binOp .geq 3 (.tmp 40) (.tmp 42) 3, some (some 39, false), [(39, 16), (40, 17), (42, 19)]⟩, ⟨some 44, .move (.tmp 43), some (some 39, false), [(39, 16), (43, 20)]⟩, ⟨some 45, .move (.tmp 5), some (some 44, true), [(44, 21)]⟩, ⟨some 46, .move (.tmp 6), some (some 44, true), [(44, 21)]⟩, ⟨some 47, .indexAddr 24 (.tmp 45) (.tmp 46), some (some 44, true), [(44, 21), (45, 22), (46, 23)]⟩, ⟨some 48, .load 26 (.tmp 47), some (some 44, true), [(44, 21), (47, 24)]⟩, ⟨some 49, .move (.tmp 6), some (some 44, true), [(44, 21)]⟩, ⟨some 50, .move (.tmp 1), some (some 44, true), [(44, 21)]⟩, ⟨some 51, .call { callee := .builtin .len, args := #[.tmp 50], argTypes := #[24] }, some (some 44, true), [(44, 21), (50, 27)]⟩, ⟨some 52, .binOp .sub 3 (.tmp 49) (.tmp 51) 3, some (some 44, true), [(44, 21), (49, 26), (51, 28)]⟩, ⟨some 53, .call { callee := .value (.func 27), args := #[.const (.int .i64 1), .tmp 52], argTypes := #[3, 3] }, some (some 44, true), [(44, 21), (52, 29)]⟩, ⟨some 54, .call { callee := .value (.func 38), args := #[.tmp 48, .tmp 53], argTypes := #[26, 26] }, some (some 44, true), [(44, 21), (48, 25), (53, 30)]⟩, ⟨some 55, .unOp .not 4 (.tmp 54), some (some 44, true), [(44, 21), (54, 31)]⟩, ⟨some 56, .pick (.tmp 44) (.tmp 55) (.const (Value.bool false)), some (some 39, false), [(39, 16), (44, 21), (55, 32)]⟩, ⟨some 57, .pick (.tmp 39) (.const (Value.bool true)) (.tmp 56), none, [(39, 16), (56, 33)]⟩] [some 23, some 24, some 25, some 26, some 27, some 28, some 29, some 30, some 31, some 32, some 33, some 34, some 35, some 36, some 37, some 38, some 39, some 40, some 41, some 42, some 43, some 44, some 45, some 46, some 47, some 48, some 49, some 50, some 51, some 52, some 53, some 54, some 55, some 56, some 57] (by kernel_rfl) (by kernel_rfl) (by kernel_rfl) (by kernel_rfl) (by kernel_rfl) ?hS ?hmono ?hsteps ?hfin
    case hS => exact hS
    case hmono =>
     iterate 35 refine .cons (fun x w1 w2 _ _ _ hx => hx) ?_
     exact .nil
    case hsteps =>
     refine .cons (Is (.int .i64 (k : Int))) [] rfl rfl (fun oq hop _ wq hQS => ?_) ?_
     ·exact .move hop (v := (.int .i64 (k : Int))) (by kernel_rfl) (by kernel_rfl) hQS (.refl _ _) rfl
     refine .cons (Is (.slice (some ⟨b, o, none⟩) n c)) [] rfl rfl (fun oq hop _ wq hQS => ?_) ?_
     ·exact .move hop (v := (.slice (some ⟨b, o, none⟩) n c)) (by kernel_rfl) (by kernel_rfl) hQS (.refl _ _) rfl
     refine .cons (Is (.int .i64 (n : Int))) _ rfl rfl (fun oq hop _ wq hQS => ?_) ?_
     ·refine .more_eq (.slice (some ⟨b, o, none⟩) n c) ?_
      exact .lenT2 hop (show _ = (.slice (some ⟨b, o, none⟩) n c : Value) by kernel_rfl) (by kernel_rfl) hQS (.refl _ _) rfl
     refine .cons (Is (.bool true)) _ rfl rfl (fun oq hop _ wq hQS => ?_) ?_
     ·refine .more_eq (.int .i64 (k : Int)) (.more_eq (.int .i64 (n : Int)) ?_)
      exact .bin hop (vx := (.int .i64 (k : Int))) (vy := (.int .i64 (n : Int))) (by kernel_rfl) (by kernel_rfl) (lss_yes _ _ _ _ _ ij2) (by kernel_rfl) hQS (.refl _ _) rfl
     refine .cons (Is (.bool true)) _ rfl rfl (fun oq hop _ wq hQS => ?_) ?_
     ·refine .more_eq (.bool true) ?_
      exact .move hop (v := (.bool true)) (by kernel_rfl) (by kernel_rfl) hQS (.refl _ _) rfl
     refine .cons (Is (.slice (some ⟨g, 0, none⟩) (n + 12) cap)) _ rfl rfl (fun oq hop _ wq hQS => ?_) ?_
     ·refine .more_eq (.bool true) ?_
      exact .move hop (v := (.slice (some ⟨g, 0, none⟩) (n + 12) cap)) (by kernel_rfl) (by kernel_rfl) hQS (.refl _ _) rfl
     refine .cons (Is (.int .i64 (k : Int))) _ rfl rfl (fun oq hop _ wq hQS => ?_) ?_
     ·refine .more_eq (.bool true) ?_
      exact .move hop (v := (.int .i64 (k : Int))) (by kernel_rfl) (by kernel_rfl) hQS (.refl _ _) rfl
     refine .cons (Is (.pointer (some ⟨g, 0 + k * 5, none⟩))) _ rfl rfl (fun oq hop _ wq hQS => ?_) ?_
     ·refine .more_eq (.bool true) (.more_eq (.slice (some ⟨g, 0, none⟩) (n + 12) cap) (.more_eq (.int .i64 (k : Int)) ?_))
      exact .indexAddr hop (p := (.slice (some ⟨g, 0, none⟩) (n + 12) cap)) (q := (.int .i64 (k : Int))) (by kernel_rfl) (by kernel_rfl) (term_addr ij0 ij1) (by kernel_rfl) hQS (.refl _ _) rfl
     refine .cons (Is (.agg #[.int .i64 k7, .int .i64 n7, .int .i64 a7, .slice B3 m3 h3, .slice B4 m4 h4])) _ rfl rfl (fun oq hop _ wq hQS => ?_) ?_
     ·refine .more_eq (.bool true) (.more_eq (.pointer (some ⟨g, 0 + k * 5, none⟩)) ?_)
      exact .load hop (p := (.pointer (some ⟨g, 0 + k * 5, none⟩))) (by kernel_rfl) (load_term ((hQS.cell (p := ⟨g, 0 + k * 5, none⟩) hgr).trans x0) ((hQS.cell (p := ⟨g, 0 + k * 5 + 1, none⟩) hgr).trans x1) ((hQS.cell (p := ⟨g, 0 + k * 5 + 2, none⟩) hgr).trans x2) ((hQS.cell (p := ⟨g, 0 + k * 5 + 3, none⟩) hgr).trans x3) ((hQS.cell (p := ⟨g, 0 + k * 5 + 4, none⟩) hgr).trans x4)) (by kernel_rfl) hQS (.refl _ _) rfl
     refine .cons (Is (.slice (some ⟨b, o, none⟩) n c)) _ rfl rfl (fun oq hop _ wq hQS => ?_) ?_
     ·refine .more_eq (.bool true) ?_
      exact .move hop (v := (.slice (some ⟨b, o, none⟩) n c)) (by kernel_rfl) (by kernel_rfl) hQS (.refl _ _) rfl
     refine .cons (Is (.int .i64 (k : Int))) _ rfl rfl (fun oq hop _ wq hQS => ?_) ?_
     ·refine .more_eq (.bool true) ?_
      exact .move hop (v := (.int .i64 (k : Int))) (by kernel_rfl) (by kernel_rfl) hQS (.refl _ _) rfl
     refine .cons (Is (.pointer (some ⟨b, o + k * 5, none⟩))) _ rfl rfl (fun oq hop _ wq hQS => ?_) ?_
     ·refine .more_eq (.bool true) (.more_eq (.slice (some ⟨b, o, none⟩) n c) (.more_eq (.int .i64 (k : Int)) ?_))
      exact .indexAddr hop (p := (.slice (some ⟨b, o, none⟩) n c)) (q := (.int .i64 (k : Int))) (by kernel_rfl) (by kernel_rfl) (term_addr ij0 ij2) (by kernel_rfl) hQS (.refl _ _) rfl
     refine .cons (Is (.agg #[.int .i64 k1, .int .i64 n1, .int .i64 a1, .slice A1 p1 c1, .slice A2 p2 c2])) _ rfl rfl (fun oq hop _ wq hQS => ?_) ?_
     ·refine .more_eq (.bool true) (.more_eq (.pointer (some ⟨b, o + k * 5, none⟩)) ?_)
      exact .load hop (p := (.pointer (some ⟨b, o + k * 5, none⟩))) (by kernel_rfl) (load_term ((hQS.cell (p := ⟨b, o + k * 5, none⟩) hbr).trans d0) ((hQS.cell (p := ⟨b, o + k * 5 + 1, none⟩) hbr).trans d1) ((hQS.cell (p := ⟨b, o + k * 5 + 2, none⟩) hbr).trans d2) ((hQS.cell (p := ⟨b, o + k * 5 + 3, none⟩) hbr).trans d3) ((hQS.cell (p := ⟨b, o + k * 5 + 4, none⟩) hbr).trans d4)) (by kernel_rfl) hQS (.refl _ _) rfl
     refine .cons (Is (.bool true)) _ rfl rfl (fun oq hop _ wq hQS => ?_) ?_
     ·refine .more_eq (.bool true) (.more_eq (.agg #[.int .i64 k7, .int .i64 n7, .int .i64 a7, .slice B3 m3 h3, .slice B4 m4 h4]) (.more_eq (.agg #[.int .i64 k1, .int .i64 n1, .int .i64 a1, .slice A1 p1 c1, .slice A2 p2 c2]) ?_))
      exact .call hop (vs := [(.agg #[.int .i64 k7, .int .i64 n7, .int .i64 a7, .slice B3 m3 h3, .slice B4 m4 h4]), (.agg #[.int .i64 k1, .int .i64 n1, .int .i64 a1, .slice A1 p1 c1, .slice A2 p2 c2])]) (by kernel_rfl) (fun w => enter_keptTerm _ w) (by kernel_rfl) ((CK.out wq hQS).mono fun e w9 h9 => ⟨_, h9.1, hQS.trans (h9.2.mono hQS.size), h9.2, rfl⟩)
     refine .cons (Is (.bool false)) _ rfl rfl (fun oq hop _ wq hQS => ?_) ?_
     ·refine .more_eq (.bool true) (.more_eq (.bool true) ?_)
      exact .not hop (b := true) (by kernel_rfl) (by kernel_rfl) hQS (.refl _ _) rfl
     refine .cons (Is (.bool false)) _ rfl rfl (fun oq hop _ wq hQS => ?_) ?_
     ·refine .more_eq (.bool true) (.more_eq (.bool false) ?_)
      exact .pick hop (b := true) (vx := (.bool false)) (vy := (.bool false)) (by kernel_rfl) (by kernel_rfl) (by kernel_rfl) (by kernel_rfl) hQS (.refl _ _) rfl
     refine .cons (Is (.bool false)) _ rfl rfl (fun oq hop _ wq hQS => ?_) ?_
     ·refine .more_eq (.bool false) ?_
      exact .move hop (v := (.bool false)) (by kernel_rfl) (by kernel_rfl) hQS (.refl _ _) rfl
     refine .cons (Is (.int .i64 (k : Int))) _ rfl rfl (fun oq hop _ wq hQS => ?_) ?_
     ·refine .more_eq (.bool false) ?_
      exact .move hop (v := (.int .i64 (k : Int))) (by kernel_rfl) (by kernel_rfl) hQS (.refl _ _) rfl
     refine .cons (Is (.slice (some ⟨b, o, none⟩) n c)) _ rfl rfl (fun oq hop _ wq hQS => ?_) ?_
     ·refine .more_eq (.bool false) ?_
      exact .move hop (v := (.slice (some ⟨b, o, none⟩) n c)) (by kernel_rfl) (by kernel_rfl) hQS (.refl _ _) rfl
     refine .cons (Is (.int .i64 (n : Int))) _ rfl rfl (fun oq hop _ wq hQS => ?_) ?_
     ·refine .more_eq (.bool false) (.more_eq (.slice (some ⟨b, o, none⟩) n c) ?_)
      exact .lenT2 hop (show _ = (.slice (some ⟨b, o, none⟩) n c : Value) by kernel_rfl) (by kernel_rfl) hQS (.refl _ _) rfl
     refine .cons (Is (.bool false)) _ rfl rfl (fun oq hop _ wq hQS => ?_) ?_
     ·refine .more_eq (.bool false) (.more_eq (.int .i64 (k : Int)) (.more_eq (.int .i64 (n : Int)) ?_))
      exact .bin hop (vx := (.int .i64 (k : Int))) (vy := (.int .i64 (n : Int))) (by kernel_rfl) (by kernel_rfl) (geq_no _ _ _ _ _ ij2) (by kernel_rfl) hQS (.refl _ _) rfl
     refine .cons (Is (.bool false)) _ rfl rfl (fun oq hop _ wq hQS => ?_) ?_
     ·refine .more_eq (.bool false) (.more_eq (.bool false) ?_)
      exact .move hop (v := (.bool false)) (by kernel_rfl) (by kernel_rfl) hQS (.refl _ _) rfl
     refine .cons (Is undef) _ rfl rfl (fun oq hop _ wq hQS => ?_) ?_
     ·refine .more_eq (.bool false) ?_
      exact .off (by kernel_rfl) hQS (.refl _ _) rfl
     refine .cons (Is undef) _ rfl rfl (fun oq hop _ wq hQS => ?_) ?_
     ·refine .more_eq (.bool false) ?_
      exact .off (by kernel_rfl) hQS (.refl _ _) rfl
     refine .cons (Is undef) _ rfl rfl (fun oq hop _ wq hQS => ?_) ?_
     ·refine .more_eq (.bool false) (.more_eq (undef) (.more_eq (undef) ?_))
      exact .off (by kernel_rfl) hQS (.refl _ _) rfl
     refine .cons (Is undef) _ rfl rfl (fun oq hop _ wq hQS => ?_) ?_
     ·refine .more_eq (.bool false) (.more_eq (undef) ?_)
      exact .off (by kernel_rfl) hQS (.refl _ _) rfl
     refine .cons (Is undef) _ rfl rfl (fun oq hop _ wq hQS => ?_) ?_
     ·refine .more_eq (.bool false) ?_
      exact .off (by kernel_rfl) hQS (.refl _ _) rfl
     refine .cons (Is undef) _ rfl rfl (fun oq hop _ wq hQS => ?_) ?_
     ·refine .more_eq (.bool false) ?_
      exact .off (by kernel_rfl) hQS (.refl _ _) rfl
     refine .cons (Is undef) _ rfl rfl (fun oq hop _ wq hQS => ?_) ?_
     ·refine .more_eq (.bool false) (.more_eq (undef) ?_)
      exact .off (by kernel_rfl) hQS (.refl _ _) rfl
     refine .cons (Is undef) _ rfl rfl (fun oq hop _ wq hQS => ?_) ?_
     ·refine .more_eq (.bool false) (.more_eq (undef) (.more_eq (undef) ?_))
      exact .off (by kernel_rfl) hQS (.refl _ _) rfl
     refine .cons (Is undef) _ rfl rfl (fun oq hop _ wq hQS => ?_) ?_
     ·refine .more_eq (.bool false) (.more_eq (undef) ?_)
      exact .off (by kernel_rfl) hQS (.refl _ _) rfl
     refine .cons (Is undef) _ rfl rfl (fun oq hop _ wq hQS => ?_) ?_
     ·refine .more_eq (.bool false) (.more_eq (undef) (.more_eq (undef) ?_))
      exact .off (by kernel_rfl) hQS (.refl _ _) rfl
     refine .cons (Is undef) _ rfl rfl (fun oq hop _ wq hQS => ?_) ?_
     ·refine .more_eq (.bool false) (.more_eq (undef) ?_)
      exact .off (by kernel_rfl) hQS (.refl _ _) rfl
     refine .cons (Is (.bool false)) _ rfl rfl (fun oq hop _ wq hQS => ?_) ?_
     ·refine .more_eq (.bool false) (.more_eq (.bool false) (.more_eq (undef) ?_))
      exact .pick hop (b := false) (vx := undef) (vy := (.bool false)) (by kernel_rfl) (by kernel_rfl) (by kernel_rfl) (by kernel_rfl) hQS (.refl _ _) rfl
     refine .cons (Is (.bool false)) _ rfl rfl (fun oq hop _ wq hQS => ?_) ?_
     ·refine .more_eq (.bool false) (.more_eq (.bool false) ?_)
      exact .pick hop (b := false) (vx := (.bool true)) (vy := (.bool false)) (by kernel_rfl) (by kernel_rfl) (by kernel_rfl) (by kernel_rfl) hQS (.refl _ _) rfl
     exact .nil
    case hfin =>
     intro wf hFS
     iterate 34 refine .more fun _ _ => ?_
     refine .more fun x57 h57 => ?_
     refine .done ?_
     obtain rfl : x57 = (.bool false) := h57
     have hsf := hFS.size
     have HB2 : Hid (Below w.heap.size w wf) := HB.out.trans (hFS.mono hbz)
     clear hS hFS x0 x1 x2 x3 x4 d0 d1 d2 d3 d4
     simp only [Act.put, List.setIfInBounds_toArray, List.set_cons_zero, List.set_cons_succ]
     go_wp2
     go_roundw
     case rel => exact ⟨k + 1, by omega, by go_num, HB2.out⟩
     case measure => simp [intOf]; omega
   ·have ij2 : (n : Int) ≤ (k : Int) := by omega
    obtain ⟨m, hm8⟩ : ∃ m, 1000003 * (((1 : Nat) : Int) + 7) + ((k - n : Nat) : Int) = m := ⟨_, rfl⟩
    have hyl := HYL.out
    have hg5 := mt_get 1 12 (k - n) (by omega)
    rw [hm8] at hg5
    have hat : ∀ i, i < 5 → wr.cell? ⟨g, 0 + k * 5 + i, none⟩ = (mt 1 12)[(k - n) * 5 + i]? := fun i hi => by
     rw [show 0 + k * 5 + i = k * 5 + i by omega]
     refine (HB.out.cell (p := ⟨g, k * 5 + i, none⟩) hgw).trans ?_
     rw [HR.out.cellAt (k * 5 + i) (by omega), List.getElem?_append_right (by omega), show k * 5 + i - ys.length = (k - n) * 5 + i by omega]
    have x0 : wr.cell? ⟨g, 0 + k * 5, none⟩ = some (.int .i64 0) := (hat 0 (by omega)).trans hg5.1
    have x1 := (hat 1 (by omega)).trans hg5.2.1
    have x2 := (hat 2 (by omega)).trans hg5.2.2.1
    have x3 := (hat 3 (by omega)).trans hg5.2.2.2.1
    have x4 := (hat 4 (by omega)).trans hg5.2.2.2.2
    have q6 : IntKind.i64.wrap ((k : Int) - (n : Int)) = (k : Int) - (n : Int) := IntWalk.i64_in _ (by omega)
    have HMR : Hid (Rng m) := by
     show -9223372036854775808 ≤ m ∧ m ≤ 9223372036854775807
     rw [← hm8]
     omega
    have HM : Hid (∀ wq, Calls Tryz.prog 27 #[.int .i64 1, .int .i64 ((k : Int) - (n : Int))] wq (MarkTPost wq m)) := fun wq => by
     have := markTerm_any 1 ((k : Int) - (n : Int)) wq (by omega) (by omega)
     rwa [show (1000003 : Int) * (1 + 7) + ((k : Int) - (n : Int)) = m by rw [← hm8]; omega] at this
    clear hb hm8 hat hg5 hyl
    go_upto_region 7 with (fail)
    refine wp_region_tab (fun w' => Below wr.heap.size wr w') BR [(Is (.int .i64 (k : Int))), (Is (.slice A n c)), (Is (.int .i64 (n : Int))), (Is (.bool false)), (Is (.bool false)), (Is undef), (Is undef), (Is undef), (Is undef), (Is undef), (Is undef), (Is undef), (Is undef), (Is undef), (Is undef), (Is (.bool false)), (Is (.bool false)), (Is (.int .i64 (k : Int))), (Is (.slice A n c)), (Is (.int .i64 (n : Int))), (Is (.bool true)), (Is (.bool true)), (Is (.slice (some ⟨g, 0, none⟩) (n + 12) cap)), (Is (.int .i64 (k : Int))), (Is (.pointer (some ⟨g, 0 + k * 5, none⟩))), (Is (.agg #[.int .i64 0, .int .i64 m, .int .i64 0, .slice none 0 0, .slice none 0 0])), (Is (.int .i64 (k : Int))), (Is (.slice A n c)), (Is (.int .i64 (n : Int))), (Is (.int .i64 ((k : Int) - (n : Int)))), (Is (.agg #[.int .i64 0, .int .i64 m, .int .i64 0, .slice none 0 0, .slice none 0 0])), (Is (.bool true)), (Is (.bool false)), (Is (.bool false)), (Is (.bool false))] [⟨some 23, .move (.tmp 6), none, []⟩, ⟨some 24, .move (.tmp 1), none, []⟩, ⟨some 25, .call { callee := .builtin .len, args := #[.tmp 24], argTypes := #[24] }, none, [(24, 1)]⟩, ⟨some 26, .binOp .lss 3 (.tmp 23) (.tmp 25) 3, none, [(23, 0), (25, 2)]⟩, ⟨some 27, .move (.tmp 26), none, [(26, 3)]⟩, ⟨some 28, .move (.tmp 5), some (some 27, true), [(27, 4)]⟩, ⟨some 29, .move (.tmp 6), some (some 27, true), [(27, 4)]⟩, ⟨some 30, .indexAddr 24 (.tmp 28) (.tmp 29), some (some 27, true), [(27, 4), (28, 5), (29, 6)]⟩, ⟨some 31, .load 26 (.tmp 30), some (some 27, true), [(27, 4), (30, 7)]⟩, ⟨some 32, .move (.tmp 1), some (some 27, true), [(27, 4)]⟩, ⟨some 33, .move (.tmp 6), some (some 27, true), [(27, 4)]⟩, ⟨some 34, .indexAddr 24 (.tmp 32) (.tmp 33), some (some 27, true), [(27, 4), (32, 9), (33, 10)]⟩, ⟨some 35, .load 26 (.tmp 34), some (some 27, true), [(27, 4), (34, 11)]⟩, ⟨some 36, .call { callee := .value (.func 17), args := #[.tmp 31, .tmp 35], argTypes := #[26, 26] }, some (some 27, true), [(27, 4), (31, 8), (35, 12)]⟩, ⟨some 37, .unOp .not 4 (.tmp 36), some (some 27, true), [(27, 4), (36, 13)]⟩, ⟨some 38, .pick (.tmp 27) (.tmp 37) (.const (Value.bool false)), none, [(27, 4), (37, 14)]⟩, ⟨some 39, .move (.tmp 38), none, [(38, 15)]⟩, ⟨some 40, .move (.tmp 6), some (some 39, false), [(39, 16)]⟩, ⟨some 41, .move (.tmp 1), some (some 39, false), [(39, 16)]⟩, ⟨some 42, .call { callee := .builtin .len, args := #[.tmp 41], argTypes := #[24] }, some (some 39, false), [(39, 16), (41, 18)]⟩, ⟨some 43, .binOp .geq 3 (.tmp 40) (.tmp 42) 3, some (some 39, false), [(39, 16), (40, 17), (42, 19)]⟩, ⟨some 44, .move (.tmp 43), some (some 39, false), [(39, 16), (43, 20)]⟩, ⟨some 45, .move (.tmp 5), some (some 44, true), [(44, 21)]⟩, ⟨some 46, .move (.tmp 6), some (some 44, true), [(44, 21)]⟩, ⟨some 47, .indexAddr 24 (.tmp 45) (.tmp 46), some (some 44, true), [(44, 21), (45, 22), (46, 23)]⟩, ⟨some 48, .load 26 (.tmp 47), some (some 44, true), [(44, 21), (47, 24)]⟩, ⟨some 49, .move (.tmp 6), some (some 44, true), [(44, 21)]⟩, ⟨some 50, .move (.tmp 1), some (some 44, true), [(44, 21)]⟩, ⟨some 51, .call { callee := .builtin .len, args := #[.tmp 50], argTypes := #[24] }, some (some 44, true), [(44, 21), (50, 27)]⟩, ⟨some 52, .binOp .sub 3 (.tmp 49) (.tmp 51) 3, some (some 44, true), [(44, 21), (49, 26), (51, 28)]⟩, ⟨some 53, .call { callee := .value (.func 27), args := #[.const (.int .i64 1), .tmp 52], argTypes := #[3, 3] }, some (some 44, true), [(44, 21), (52, 29)]⟩, ⟨some 54, .call { callee := .value (.func 38), args := #[.tmp 48, .tmp 53], argTypes := #[26, 26] }, some (some 44, true), [(44, 21), (48, 25), (53, 30)]⟩, ⟨some 55, .unOp .not 4 (.tmp 54), some (some 44, true), [(44, 21), (54, 31)]⟩, ⟨some 56, .pick (.tmp 44) (.tmp 55) (.const (Value.bool false)), some (some 39, false), [(39, 16), (44, 21), (55, 32)]⟩, ⟨some 57, .pick (.tmp 39) (.const (Value.bool true)) (.tmp 56), none, [(39, 16), (56, 33)]⟩] [some 23, some 24, some 25, some 26, some 27, some 28, some 29, some 30, some 31, some 32, some 33, some 34, some 35, some 36, some 37, some 38, some 39, some 40, some 41, some 42, some 43, some 44, some 45, some 46, some 47, some 48, some 49, some 50, some 51, some 52, some 53, some 54, some 55, some 56, some 57] (by kernel_rfl) (by kernel_rfl) (by kernel_rfl) (by kernel_rfl) (by kernel_rfl) ?hS ?hmono ?hsteps ?hfin
    case hS => exact hS
    case hmono =>
     iterate 35 refine .cons (fun x w1 w2 _ _ _ hx => hx) ?_
     exact .nil
    case hsteps =>
     refine .cons (Is (.int .i64 (k : Int))) [] rfl rfl (fun oq hop _ wq hQS => ?_) ?_
     ·exact .move hop (v := (.int .i64 (k : Int))) (by kernel_rfl) (by kernel_rfl) hQS (.refl _ _) rfl
     refine .cons (Is (.slice A n c)) [] rfl rfl (fun oq hop _ wq hQS => ?_) ?_
     ·exact .move hop (v := (.slice A n c)) (by kernel_rfl) (by kernel_rfl) hQS (.refl _ _) rfl
     refine .cons (Is (.int .i64 (n : Int))) _ rfl rfl (fun oq hop _ wq hQS => ?_) ?_
     ·refine .more_eq (.slice A n c) ?_
      exact .lenT2 hop (show _ = (.slice A n c : Value) by kernel_rfl) (by kernel_rfl) hQS (.refl _ _) rfl
     refine .cons (Is (.bool false)) _ rfl rfl (fun oq hop _ wq hQS => ?_) ?_
     ·refine .more_eq (.int .i64 (k : Int)) (.more_eq (.int .i64 (n : Int)) ?_)
      exact .bin hop (vx := (.int .i64 (k : Int))) (vy := (.int .i64 (n : Int))) (by kernel_rfl) (by kernel_rfl) (lss_no _ _ _ _ _ ij2) (by kernel_rfl) hQS (.refl _ _) rfl
     refine .cons (Is (.bool false)) _ rfl rfl (fun oq hop _ wq hQS => ?_) ?_
     ·refine .more_eq (.bool false) ?_
      exact .move hop (v := (.bool false)) (by kernel_rfl) (by kernel_rfl) hQS (.refl _ _) rfl
     refine .cons (Is undef) _ rfl rfl (fun oq hop _ wq hQS => ?_) ?_
     ·refine .more_eq (.bool false) ?_
      exact .off (by kernel_rfl) hQS (.refl _ _) rfl
     refine .cons (Is undef) _ rfl rfl (fun oq hop _ wq hQS => ?_) ?_
     ·refine .more_eq (.bool false) ?_
      exact .off (by kernel_rfl) hQS (.refl _ _) rfl
     refine .cons (Is undef) _ rfl rfl (fun oq hop _ wq hQS => ?_) ?_
     ·refine .more_eq (.bool false) (.more_eq (undef) (.more_eq (undef) ?_))
      exact .off (by kernel_rfl) hQS (.refl _ _) rfl
     refine .cons (Is undef) _ rfl rfl (fun oq hop _ wq hQS => ?_) ?_
     ·refine .more_eq (.bool false) (.more_eq (undef) ?_)
      exact .off (by kernel_rfl) hQS (.refl _ _) rfl
     refine .cons (Is undef) _ rfl rfl (fun oq hop _ wq hQS => ?_) ?_
     ·refine .more_eq (.bool false) ?_
      exact .off (by kernel_rfl) hQS (.refl _ _) rfl
     refine .cons (Is undef) _ rfl rfl (fun oq hop _ wq hQS => ?_) ?_
     ·refine .more_eq (.bool false) ?_
      exact .off (by kernel_rfl) hQS (.refl _ _) rfl
     refine .cons (Is undef) _ rfl rfl (fun oq hop _ wq hQS => ?_) ?_
     ·refine .more_eq (.bool false) (.more_eq (undef) (.more_eq (undef) ?_))
      exact .off (by kernel_rfl) hQS (.refl _ _) rfl
     refine .cons (Is undef) _ rfl rfl (fun oq hop _ wq hQS => ?_) ?_
     ·refine .more_eq (.bool false) (.more_eq (undef) ?_)
      exact .off (by kernel_rfl) hQS (.refl _ _) rfl
     refine .cons (Is undef) _ rfl rfl (fun oq hop _ wq hQS => ?_) ?_
     ·refine .more_eq (.bool false) (.more_eq (undef) (.more_eq (undef) ?_))
      exact .off (by kernel_rfl) hQS (.refl _ _) rfl
     refine .cons (Is undef) _ rfl rfl (fun oq hop _ wq hQS => ?_) ?_
     ·refine .more_eq (.bool false) (.more_eq (undef) ?_)
      exact .off (by kernel_rfl) hQS (.refl _ _) rfl
     refine .cons (Is (.bool false)) _ rfl rfl (fun oq hop _ wq hQS => ?_) ?_
     ·refine .more_eq (.bool false) (.more_eq (undef) ?_)
      exact .pick hop (b := false) (vx := undef) (vy := (.bool false)) (by kernel_rfl) (by kernel_rfl) (by kernel_rfl) (by kernel_rfl) hQS (.refl _ _) rfl
     refine .cons (Is (.bool false)) _ rfl rfl (fun oq hop _ wq hQS => ?_) ?_
     ·refine .more_eq (.bool false) ?_
      exact .move hop (v := (.bool false)) (by kernel_rfl) (by kernel_rfl) hQS (.refl _ _) rfl
     refine .cons (Is (.int .i64 (k : Int))) _ rfl rfl (fun oq hop _ wq hQS => ?_) ?_
     ·refine .more_eq (.bool false) ?_
      exact .move hop (v := (.int .i64 (k : Int))) (by kernel_rfl) (by kernel_rfl) hQS (.refl _ _) rfl
     refine .cons (Is (.slice A n c)) _ rfl rfl (fun oq hop _ wq hQS => ?_) ?_
     ·refine .more_eq (.bool false) ?_
      exact .move hop (v := (.slice A n c)) (by kernel_rfl) (by kernel_rfl) hQS (.refl _ _) rfl
     refine .cons (Is (.int .i64 (n : Int))) _ rfl rfl (fun oq hop _ wq hQS => ?_) ?_
     ·refine .more_eq (.bool false) (.more_eq (.slice A n c) ?_)
      exact .lenT2 hop (show _ = (.slice A n c : Value) by kernel_rfl) (by kernel_rfl) hQS (.refl _ _) rfl
     refine .cons (Is (.bool true)) _ rfl rfl (fun oq hop _ wq hQS => ?_) ?_
     ·refine .more_eq (.bool false) (.more_eq (.int .i64 (k : Int)) (.more_eq (.int .i64 (n : Int)) ?_))
      exact .bin hop (vx := (.int .i64 (k : Int))) (vy := (.int .i64 (n : Int))) (by kernel_rfl) (by kernel_rfl) (geq_yes _ _ _ _ _ ij2) (by kernel_rfl) hQS (.refl _ _) rfl
     refine .cons (Is (.bool true)) _ rfl rfl (fun oq hop _ wq hQS => ?_) ?_
     ·refine .more_eq (.bool false) (.more_eq (.bool true) ?_)
      exact .move hop (v := (.bool true)) (by kernel_rfl) (by kernel_rfl) hQS (.refl _ _) rfl
     refine .cons (Is (.slice (some ⟨g, 0, none⟩) (n + 12) cap)) _ rfl rfl (fun oq hop _ wq hQS => ?_) ?_
     ·refine .more_eq (.bool true) ?_
      exact .move hop (v := (.slice (some ⟨g, 0, none⟩) (n + 12) cap)) (by kernel_rfl) (by kernel_rfl) hQS (.refl _ _) rfl
     refine .cons (Is (.int .i64 (k : Int))) _ rfl rfl (fun oq hop _ wq hQS => ?_) ?_
     ·refine .more_eq (.bool true) ?_
      exact .move hop (v := (.int .i64 (k : Int))) (by kernel_rfl) (by kernel_rfl) hQS (.refl _ _) rfl
     refine .cons (Is (.pointer (some ⟨g, 0 + k * 5, none⟩))) _ rfl rfl (fun oq hop _ wq hQS => ?_) ?_
     ·refine .more_eq (.bool true) (.more_eq (.slice (some ⟨g, 0, none⟩) (n + 12) cap) (.more_eq (.int .i64 (k : Int)) ?_))
      exact .indexAddr hop (p := (.slice (some ⟨g, 0, none⟩) (n + 12) cap)) (q := (.int .i64 (k : Int))) (by kernel_rfl) (by kernel_rfl) (term_addr ij0 ij1) (by kernel_rfl) hQS (.refl _ _) rfl
     refine .cons (Is (.agg #[.int .i64 0, .int .i64 m, .int .i64 0, .slice none 0 0, .slice none 0 0])) _ rfl rfl (fun oq hop _ wq hQS => ?_) ?_
     ·refine .more_eq (.bool true) (.more_eq (.pointer (some ⟨g, 0 + k * 5, none⟩)) ?_)
      exact .load hop (p := (.pointer (some ⟨g, 0 + k * 5, none⟩))) (by kernel_rfl) (load_term ((hQS.cell (p := ⟨g, 0 + k * 5, none⟩) hgr).trans x0) ((hQS.cell (p := ⟨g, 0 + k * 5 + 1, none⟩) hgr).trans x1) ((hQS.cell (p := ⟨g, 0 + k * 5 + 2, none⟩) hgr).trans x2) ((hQS.cell (p := ⟨g, 0 + k * 5 + 3, none⟩) hgr).trans x3) ((hQS.cell (p := ⟨g, 0 + k * 5 + 4, none⟩) hgr).trans x4)) (by kernel_rfl) hQS (.refl _ _) rfl
     refine .cons (Is (.int .i64 (k : Int))) _ rfl rfl (fun oq hop _ wq hQS => ?_) ?_
     ·refine .more_eq (.bool true) ?_
      exact .move hop (v := (.int .i64 (k : Int))) (by kernel_rfl) (by kernel_rfl) hQS (.refl _ _) rfl
     refine .cons (Is (.slice A n c)) _ rfl rfl (fun oq hop _ wq hQS => ?_) ?_
     ·refine .more_eq (.bool true) ?_
      exact .move hop (v := (.slice A n c)) (by kernel_rfl) (by kernel_rfl) hQS (.refl _ _) rfl
     refine .cons (Is (.int .i64 (n : Int))) _ rfl rfl (fun oq hop _ wq hQS => ?_) ?_
     ·refine .more_eq (.bool true) (.more_eq (.slice A n c) ?_)
      exact .lenT2 hop (show _ = (.slice A n c : Value) by kernel_rfl) (by kernel_rfl) hQS (.refl _ _) rfl
     refine .cons (Is (.int .i64 ((k : Int) - (n : Int)))) _ rfl rfl (fun oq hop _ wq hQS => ?_) ?_
     ·refine .more_eq (.bool true) (.more_eq (.int .i64 (k : Int)) (.more_eq (.int .i64 (n : Int)) ?_))
      exact .bin hop (vx := (.int .i64 (k : Int))) (vy := (.int .i64 (n : Int))) (by kernel_rfl) (by kernel_rfl) (sub_int _ _ _ _ _ q6) (by kernel_rfl) hQS (.refl _ _) rfl
     refine .cons (Is (.agg #[.int .i64 0, .int .i64 m, .int .i64 0, .slice none 0 0, .slice none 0 0])) _ rfl rfl (fun oq hop _ wq hQS => ?_) ?_
     ·refine .more_eq (.bool true) (.more_eq (.int .i64 ((k : Int) - (n : Int))) ?_)
      exact .call hop (vs := [(.int .i64 1), (.int .i64 ((k : Int) - (n : Int)))]) (by kernel_rfl) (fun w => enter_markTerm _ w) (by kernel_rfl) ((HM.out wq).mono fun e w9 h9 => ⟨_, h9.1, hQS.trans (h9.2.mono hQS.size), h9.2, rfl⟩)
     refine .cons (Is (.bool true)) _ rfl rfl (fun oq hop _ wq hQS => ?_) ?_
     ·refine .more_eq (.bool true) (.more_eq (.agg #[.int .i64 0, .int .i64 m, .int .i64 0, .slice none 0 0, .slice none 0 0]) (.more_eq (.agg #[.int .i64 0, .int .i64 m, .int .i64 0, .slice none 0 0, .slice none 0 0]) ?_))
      exact .call hop (vs := [(.agg #[.int .i64 0, .int .i64 m, .int .i64 0, .slice none 0 0, .slice none 0 0]), (.agg #[.int .i64 0, .int .i64 m, .int .i64 0, .slice none 0 0, .slice none 0 0])]) (by kernel_rfl) (fun w => enter_sameTm _ w) (by kernel_rfl) ((sameMT HMR.out).mono fun e w9 h9 => ⟨_, h9.1, hQS.trans (h9.2.mono hQS.size), h9.2, rfl⟩)
     refine .cons (Is (.bool false)) _ rfl rfl (fun oq hop _ wq hQS => ?_) ?_
     ·refine .more_eq (.bool true) (.more_eq (.bool true) ?_)
      exact .not hop (b := true) (by kernel_rfl) (by kernel_rfl) hQS (.refl _ _) rfl
     refine .cons (Is (.bool false)) _ rfl rfl (fun oq hop _ wq hQS => ?_) ?_
     ·refine .more_eq (.bool false) (.more_eq (.bool true) (.more_eq (.bool false) ?_))
      exact .pick hop (b := true) (vx := (.bool false)) (vy := (.bool false)) (by kernel_rfl) (by kernel_rfl) (by kernel_rfl) (by kernel_rfl) hQS (.refl _ _) rfl
     refine .cons (Is (.bool false)) _ rfl rfl (fun oq hop _ wq hQS => ?_) ?_
     ·refine .more_eq (.bool false) (.more_eq (.bool false) ?_)
      exact .pick hop (b := false) (vx := (.bool true)) (vy := (.bool false)) (by kernel_rfl) (by kernel_rfl) (by kernel_rfl) (by kernel_rfl) hQS (.refl _ _) rfl
     exact .nil
    case hfin =>
     intro wf hFS
     iterate 34 refine .more fun _ _ => ?_
     refine .more fun x57 h57 => ?_
     refine .done ?_
     obtain rfl : x57 = (.bool false) := h57
     have hsf := hFS.size
     have HB2 : Hid (Below w.heap.size w wf) := HB.out.trans (hFS.mono hbz)
     clear hS hFS x0 x1 x2 x3 x4
     simp only [Act.put, List.setIfInBounds_toArray, List.set_cons_zero, List.set_cons_succ]
     go_wp2
     go_roundw
     case rel => exact ⟨k + 1, by omega, by go_num, HB2.out⟩
     case measure => simp [intOf]; omega
  ·have HF : Hid (HasPost w true (.returned (.bool true)) wr) := ⟨rfl, hb⟩
   clear hb
   go_wp2
   go_ret
   exact HF.out
set_option maxHeartbeats 4000000 in
theorem keptTerm_of (k n a : Int) (lv : List (List (Int × Int))) (kids : List Tm) (ih : ∀ t ∈ kids, KeptTm t) : KeptTm (.mk k n a lv kids) := by
 intro va vb w B hc hf hl hv
 obtain ⟨gl, cl, gk, ck, ys, rfl, l1, l2, l3⟩ := hl.open
 obtain ⟨Al, c1, Ak, c2, rfl, h2, h3, h4⟩ := hv.open
 have htm := hl.tm _ (by omega)
 have hf' := hf
 rw [Tm.fit_mk] at hf'
 have hc' := hc
 rw [Tm.count_mk] at hc'
 have h6 : ∀ l ∈ lv, l.length ≤ 100000 := fun l hl => by have := lensSum_mem lv l hl; omega
 have h7 : lv.length ≤ 100000 := by have := lensSum_length lv; omega
 have CS : Hid (∀ w', Below w.heap.size w w' → Calls Tryz.prog 38 #[.agg #[.int .i64 k, .int .i64 n, .int .i64 a, .slice (some ⟨gl, 0, none⟩) lv.length cl, .slice (some ⟨gk, 0, none⟩) kids.length ck], .agg #[.int .i64 k, .int .i64 n, .int .i64 a, .slice Al lv.length c1, .slice Ak kids.length c2]] w' (HasPost w' true)) := fun w' hx =>
  sameTerm_any _ hf _ _ _ w' true hf (htm.below hx hx.size) (hv.below hx hx.size) (by simp)
 have CL : Hid (∀ w', Below w.heap.size w w' → Calls Tryz.prog 19 #[.slice (some ⟨gl, 0, none⟩) lv.length cl, .slice Al lv.length c1] w' (HasPost w' true)) := fun w' hx =>
  keptLevels_any Al lv c1 lv.length gl cl B w' rfl h7 h6 ((h3.below hx).more hx.size) (l1.below hx)
 have CT : Hid (∀ w', Below w.heap.size w w' → Calls Tryz.prog 18 #[.slice (some ⟨gk, 0, none⟩) kids.length ck, .slice Ak kids.length c2] w' (HasPost w' true)) := fun w' hx =>
  keptTerms_of kids ih Ak c2 kids.length gk ck B w' rfl (by omega) hf'.2.2.2 (h4.below hx hx.size) ⟨ys, own_below l2 hx, l3.below hx⟩
 obtain ⟨pl, hpl⟩ : ∃ p, lv.length = p := ⟨_, rfl⟩
 obtain ⟨pk, hpk⟩ : ∃ p, kids.length = p := ⟨_, rfl⟩
 rw [hpl, hpk] at CS ⊢
 rw [hpl] at CL
 rw [hpk] at CT
 obtain ⟨w1, hw1⟩ : ∃ x, (w.alloc (.cells #[.int .i64 k, .int .i64 n, .int .i64 a, .slice (some ⟨gl, 0, none⟩) pl cl, .slice (some ⟨gk, 0, none⟩) pk ck] 26)).alloc (.cells #[.int .i64 k, .int .i64 n, .int .i64 a, .slice Al pl c1, .slice Ak pk c2] 26) = x := ⟨_, rfl⟩
 obtain ⟨x0, x1, _⟩ := two_allocs w (.cells #[.int .i64 k, .int .i64 n, .int .i64 a, .slice (some ⟨gl, 0, none⟩) pl cl, .slice (some ⟨gk, 0, none⟩) pk ck] 26) (.cells #[.int .i64 k, .int .i64 n, .int .i64 a, .slice Al pl c1, .slice Ak pk c2] 26)
 have hb1 : Below w.heap.size w w1 := by rw [← hw1]; exact ((Below.refl _ _).alloc (Nat.le_refl _) _).alloc (by simp) _
 rw [hw1] at x0 x1
 have hs1 : w1.heap.size = w.heap.size + 2 := by rw [← hw1]; simp
 have HC1 := Lib.hid (CS.out w1 hb1)
 have X0 := Lib.hid x0
 have X1 := Lib.hid x1
 have HB1 := Lib.hid hb1
 have y0 := cell_of_row _ _ 0 _ _ (0, 0) x0
 have y1 := cell_of_row _ _ 1 _ _ (0, 0) x0
 have y2 := cell_of_row _ _ 2 _ _ (0, 0) x0
 have y3 := cell_of_row _ _ 3 _ _ (0, 0) x0
 have y4 := cell_of_row _ _ 4 _ _ (0, 0) x0
 have z0 := cell_of_row _ _ 0 _ _ (0, 0) x1
 have z1 := cell_of_row _ _ 1 _ _ (0, 0) x1
 have z2 := cell_of_row _ _ 2 _ _ (0, 0) x1
 have z3 := cell_of_row _ _ 3 _ _ (0, 0) x1
 have z4 := cell_of_row _ _ 4 _ _ (0, 0) x1
 clear hc hf hl hv l1 l2 l3 h2 h3 h4 htm hf' hc' h6 h7 hpl hpk x0 x1 hb1 CS ih
 go_enter Tryz.func17, Tryz.ntmps17
 go_wp2_with (fail)
 refine HC1.out.mono ?_
 rintro e w2 ⟨rfl, hb2⟩
 have hs2 := hb2.size
 have e0 := (hb2.block w.heap.size (by omega)).trans X0.out
 have e1 := (hb2.block (w.heap.size + 1) (by omega)).trans X1.out
 have E0 := Lib.hid e0
 have E1 := Lib.hid e1
 have r3 := cell_of_row _ _ 3 _ _ (0, 0) e0
 have s3 := cell_of_row _ _ 3 _ _ (0, 0) e1
 have HB2 : Hid (Below w.heap.size w w2) := HB1.out.trans (hb2.mono (by omega))
 have HC2 := Lib.hid (CL.out w2 HB2.out)
 clear hb2 e0 e1 y0 y1 y2 y3 y4 z0 z1 z2 z3 z4 HC1 X0 X1
 go_wp2_with (fail)
 refine HC2.out.mono ?_
 rintro e w3 ⟨rfl, hb3⟩
 have hs3 := hb3.size
 have r4 := cell_of_row _ _ 4 _ _ (0, 0) ((hb3.block w.heap.size (by omega)).trans E0.out)
 have s4 := cell_of_row _ _ 4 _ _ (0, 0) ((hb3.block (w.heap.size + 1) (by omega)).trans E1.out)
 have HB3 : Hid (Below w.heap.size w w3) := HB2.out.trans (hb3.mono (by omega))
 have HC3 := Lib.hid (CT.out w3 HB3.out)
 clear hb3 r3 s3 HC2
 go_wp2_with (fail)
 refine HC3.out.mono ?_
 rintro e w4 ⟨rfl, hb4⟩
 have HFIN : Hid (HasPost w true (.returned (.bool true)) w4) := ⟨rfl, HB3.out.trans (hb4.mono (by omega))⟩
 clear hb4 r4 s4 HC3
 go_wp2
 go_ret
 exact HFIN.out
theorem keptTerm_any : ∀ t : Tm, KeptTm t := by
 intro t
 induction t using Tm.ind with
 | h k n a lv kids ih => exact keptTerm_of k n a lv kids ih
theorem keptTerms_any (ts : List Tm) (A : Option Addr) (c n g cap B : Nat) (w : World) (hn : ts.length = n) (hc : Tm.countL ts ≤ 100000) (hf : Tm.fitL ts) (h : Tms w w.heap.size A c ts) (hk : LentRow w B ts n g cap) :
  Calls Tryz.prog 18 #[.slice (some ⟨g, 0, none⟩) n cap, .slice A n c] w (HasPost w true) := keptTerms_of ts (fun t _ => keptTerm_any t) A c n g cap B w hn hc hf h hk
end Go.Proofs.YtafgmndlbbjphaaGreatDoor
