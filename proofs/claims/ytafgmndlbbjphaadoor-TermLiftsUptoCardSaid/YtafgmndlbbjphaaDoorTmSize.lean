/- What Size, tame, great, times, same answer. -/
import Derived.Test.YtafgmndlbbjphaaDoorTmSame
namespace Go.Proofs.YtafgmndlbbjphaaDoor
open Go.RowKit Go.Maps

/-- TermOf's count of a term, asked for up to M -/
def CountTm (t : Tm) : Prop := t.count ≤ 1048576 → ∀ (M : Nat) (v : Value) (w : World), M ≤ 1048576 → TmAt w w.heap.size t v → Calls Tryd.prog 34 #[v, .int .i64 (M : Int)] w (CountPost w t.count M)
set_option maxRecDepth 100000 in
theorem enter_levelsOf (vs : Array Value) (w : World) : (callFunc 44 vs).run Tryd.prog w = .ok (.enter 44 vs) w := by go_simp
set_option maxRecDepth 100000 in
theorem enter_termsOf (vs : Array Value) (w : World) : (callFunc 20 vs).run Tryd.prog w = .ok (.enter 20 vs) w := by go_simp
set_option maxRecDepth 100000 in
theorem term_field {b o : Nat} {w : World} (i : Nat) (hi : i < 5) : (Instr.fieldAt 26 (.pointer (some ⟨b, o, none⟩)) i).run Tryd.prog w = .ok (.pointer (some ⟨b, o + i, none⟩)) w := by
  match i, hi with
  | 0, _ => go_simp
  | 1, _ => go_simp
  | 2, _ => go_simp
  | 3, _ => go_simp
  | 4, _ => go_simp
set_option maxRecDepth 100000 in
theorem load_levels {b o n c : Nat} {w : World} {A : Option Addr} (h : w.cell? ⟨b, o, none⟩ = some (.slice A n c)) : (Instr.loadAt 23 (.pointer (some ⟨b, o, none⟩))).run Tryd.prog w = .ok (.slice A n c) w := by go_simp
set_option maxRecDepth 100000 in
theorem load_terms {b o n c : Nat} {w : World} {A : Option Addr} (h : w.cell? ⟨b, o, none⟩ = some (.slice A n c)) : (Instr.loadAt 24 (.pointer (some ⟨b, o, none⟩))).run Tryd.prog w = .ok (.slice A n c) w := by go_simp
theorem Five.agg {w : World} {b o : Nat} {c0 c1 c2 c3 c4 : Value} (h : Five w b o (.agg #[c0, c1, c2, c3, c4])) : w.cell? ⟨b, o, none⟩ = some c0 ∧ w.cell? ⟨b, o + 1, none⟩ = some c1 ∧ w.cell? ⟨b, o + 2, none⟩ = some c2 ∧ w.cell? ⟨b, o + 3, none⟩ = some c3 ∧ w.cell? ⟨b, o + 4, none⟩ = some c4 := by
  obtain ⟨d0, d1, d2, d3, d4, ed, f0, f1, f2, f3, f4⟩ := h
  injection ed with ed
  injection ed with ed
  injection ed with e0 ed
  injection ed with e1 ed
  injection ed with e2 ed
  injection ed with e3 ed
  injection ed with e4 _
  subst e0 e1 e2 e3 e4
  exact ⟨f0, f1, f2, f3, f4⟩
/-- a row's term, read out -/
theorem Tms.at {w w' : World} {B : Nat} {A : Option Addr} {c : Nat} {ts : List Tm} (h : Tms w B A c ts) (hw : Below B w w') {k : Nat} {t : Tm} (ht : ts[k]? = some t) :
    ∃ b o k1 n1 a1 A1 p1 c1 A2 p2 c2, A = some ⟨b, o, none⟩ ∧ b < B ∧ TmAt w B t (.agg #[.int .i64 k1, .int .i64 n1, .int .i64 a1, .slice A1 p1 c1, .slice A2 p2 c2]) ∧
      w'.cell? ⟨b, o + k * 5, none⟩ = some (.int .i64 k1) ∧ w'.cell? ⟨b, o + k * 5 + 1, none⟩ = some (.int .i64 n1) ∧ w'.cell? ⟨b, o + k * 5 + 2, none⟩ = some (.int .i64 a1) ∧ w'.cell? ⟨b, o + k * 5 + 3, none⟩ = some (.slice A1 p1 c1) ∧ w'.cell? ⟨b, o + k * 5 + 4, none⟩ = some (.slice A2 p2 c2) := by
  have hk : k < ts.length := (List.getElem?_eq_some_iff.1 ht).1
  obtain ⟨b, o, e, hb, hr⟩ := h.2 (by omega)
  obtain ⟨v, h5, hv⟩ := hr.get k t ht
  obtain ⟨k1, n1, a1, lv, kids⟩ := t
  obtain ⟨A1, c1, A2, c2, rfl, q1, q2, q3⟩ := hv.open
  obtain ⟨f0, f1, f2, f3, f4⟩ := h5.agg
  exact ⟨b, o, k1, n1, a1, A1, _, c1, A2, _, c2, e, hb, hv, (hw.cell (p := ⟨b, _, none⟩) hb).trans f0, (hw.cell (p := ⟨b, _, none⟩) hb).trans f1, (hw.cell (p := ⟨b, _, none⟩) hb).trans f2, (hw.cell (p := ⟨b, _, none⟩) hb).trans f3, (hw.cell (p := ⟨b, _, none⟩) hb).trans f4⟩

set_option maxRecDepth 100000 in
set_option maxHeartbeats 1000000 in
theorem termsOf_of (ts : List Tm) (ih : ∀ t ∈ ts, CountTm t) (A : Option Addr) (c M n : Nat) (w : World) (hn : ts.length = n) (hs : Tm.countL ts ≤ 1048576) (hM : M ≤ 1048576) (h : Tms w w.heap.size A c ts) :
    Calls Tryd.prog 20 #[.slice A n c, .int .i64 (M : Int)] w (CountPost w (Tm.countL ts) M) := by
  have hn9 := Tm.countL_length ts
  have hn8 : n ≤ 1048576 := by omega
  have HL := Lib.hid h
  have HN := Lib.hid hn
  have HS := Lib.hid hs
  have IH := Lib.hid ih
  clear h hn hs hn9 ih
  go_enter Tryd.func20, Tryd.ntmps20
  go_wp2
  go_loopw [5, 6] (fun u i wr => ∃ (k r : Nat), k ≤ n ∧ i = .int .i64 (k : Int) ∧ u = .int .i64 (r : Int) ∧ Below w.heap.size w wr ∧ r ≤ Tm.countL (ts.take k) ∧ (r ≤ M → r = Tm.countL (ts.take k))) (fun _ i _ => n - (intOf i).toNat)
  case atStart => exact ⟨0, 0, Nat.zero_le _, rfl, rfl, Below.refl _ _, by simp, fun _ => by simp [Tm.countL]⟩
  case round =>
    obtain ⟨k, r, hk, rfl, rfl, hb, h1, h2⟩ := hrel
    have hbz := hb.size
    have hle := Tm.countL_le ts k
    have hs9 := HS.out
    have hr9 : r ≤ 1048576 := by omega
    by_cases hlt : k < n
    · by_cases hu : r ≤ M
      · obtain ⟨t, ht⟩ : ∃ t, ts[k]? = some t := ⟨_, List.getElem?_eq_getElem (by rw [HN.out]; exact hlt)⟩
        obtain ⟨b, o, k1, n1, a1, A1, p1, c1, A2, p2, c2, e, hbB, hv, f0, f1, f2, f3, f4⟩ := HL.out.at hb ht
        subst e
        have hct := Tm.countL_take ts k t ht
        have hle1 := Tm.countL_le ts (k + 1)
        have hm := Tm.countL_mem (List.mem_of_getElem? ht)
        have HC := Lib.hid (IH.out t (List.mem_of_getElem? ht) (by omega) (M - r) _ wr (by omega) (hv.below hb hbz))
        have HT := Lib.hid hct
        have H2 := Lib.hid h2
        have HB := Lib.hid hb
        have HCL : Hid (t.count ≤ 1048576) := by show _ ≤ _; omega
        have ws0 : IntKind.i64.wrap ((M : Int) - (r : Int)) = ((M - r : Nat) : Int) := by rw [IntWalk.i64_in _ (by omega)]; omega
        have ij0 : (0 : Int) ≤ (k : Int) := by omega
        have ij1 : (k : Int) < (n : Int) := by omega
        have ij2 : (r : Int) ≤ (M : Int) := by omega
        clear hb hv h2 hct ht hm
        go_wp2_with (fail)
        refine HC.out.mono ?_
        rintro e w1 ⟨s, rfl, hs1, hs2, hb1⟩
        have hcl := HCL.out
        have ws : IntKind.i64.wrap ((r : Int) + (s : Int)) = ((r + s : Nat) : Int) := by rw [IntWalk.i64_in _ (by omega)]; omega
        have HF : Hid (r + s ≤ Tm.countL (ts.take (k + 1)) ∧ (r + s ≤ M → r + s = Tm.countL (ts.take (k + 1)))) := by
          rw [HT.out]
          refine ⟨by omega, fun h => ?_⟩
          have := hs2 (by omega)
          have := H2.out hu
          omega
        have HB1 : Hid (Below w.heap.size w w1) := HB.out.trans (hb1.mono hbz)
        clear hb1 hs2
        go_wp2
        go_roundw
        case rel => exact ⟨k + 1, r + s, by omega, by go_num, rfl, HB1.out, HF.out⟩
        case measure => simp [intOf]; omega
      · have ij2 : ¬ (r : Int) ≤ (M : Int) := by omega
        have HF : Hid (CountPost w (Tm.countL ts) M (.returned (.int .i64 (r : Int))) wr) := ⟨r, rfl, by omega, fun h => absurd h hu, hb⟩
        clear hb h2
        go_wp2
        go_ret
        exact HF.out
    · have hq : ts.take k = ts := List.take_of_length_le (by rw [HN.out]; omega)
      rw [hq] at h1 h2
      have HF : Hid (CountPost w (Tm.countL ts) M (.returned (.int .i64 (r : Int))) wr) := ⟨r, rfl, h1, h2, hb⟩
      clear hb h2 hq
      go_wp2
      go_ret
      exact HF.out

set_option maxRecDepth 100000 in
set_option maxHeartbeats 4000000 in
theorem termOf_of (k1 n1 a1 : Int) (lv : List (List (Int × Int))) (kids : List Tm) (ih : ∀ t ∈ kids, CountTm t) (A1 A2 : Option Addr) (c1 c2 p1 p2 M : Nat) (w : World) (hp1 : lv.length = p1) (hp2 : kids.length = p2) (hc : 1 + lensSum lv + Tm.countL kids ≤ 1048576) (hM : M ≤ 1048576)
    (h1 : Levs w w.heap.size A1 lv) (h2 : Tms w w.heap.size A2 c2 kids) :
    Calls Tryd.prog 34 #[.agg #[.int .i64 k1, .int .i64 n1, .int .i64 a1, .slice A1 p1 c1, .slice A2 p2 c2], .int .i64 (M : Int)] w (CountPost w (1 + lensSum lv + Tm.countL kids) M) := by
  obtain ⟨sl, hsl⟩ : ∃ s, lensSum lv = s := ⟨_, rfl⟩
  obtain ⟨sk, hsk⟩ : ∃ s, Tm.countL kids = s := ⟨_, rfl⟩
  have x1 : (w.alloc (.cells #[.int .i64 k1, .int .i64 n1, .int .i64 a1, .slice A1 p1 c1, .slice A2 p2 c2] 26)).heap[w.heap.size]? = some (.cells #[.int .i64 k1, .int .i64 n1, .int .i64 a1, .slice A1 p1 c1, .slice A2 p2 c2] 26 (0, 0)) := heap_alloc_new w _
  have hb0 : Below w.heap.size w (w.alloc (.cells #[.int .i64 k1, .int .i64 n1, .int .i64 a1, .slice A1 p1 c1, .slice A2 p2 c2] 26)) := (Below.refl _ _).alloc (Nat.le_refl _) _
  have HL : Hid (∀ w', Below w.heap.size w w' → Calls Tryd.prog 44 #[.slice A1 p1 c1, .int .i64 (M : Int)] w' (CountPost w' sl M)) := fun w' hx => by
    rw [← hsl]; exact levelsOf_m A1 lv c1 M p1 w' hp1 (by omega) hM ((h1.below hx).more hx.size)
  have HK : Hid (∀ w', Below w.heap.size w w' → Calls Tryd.prog 20 #[.slice A2 p2 c2, .int .i64 (M : Int)] w' (CountPost w' sk M)) := fun w' hx => by
    rw [← hsk]; exact termsOf_of kids ih A2 c2 M p2 w' hp2 (by omega) hM (h2.below hx hx.size)
  rw [hsl, hsk] at hc ⊢
  have f3 := cell_of_row _ _ 3 _ _ (0, 0) x1
  have f4 := cell_of_row _ _ 4 _ _ (0, 0) x1
  have hb1 : w.heap.size < (w.alloc (.cells #[.int .i64 k1, .int .i64 n1, .int .i64 a1, .slice A1 p1 c1, .slice A2 p2 c2] 26)).heap.size := by simp
  clear x1 h1 h2 hp1 hp2 ih hsl hsk
  have HB0 := Lib.hid hb0
  clear hb0
  go_enter Tryd.func34, Tryd.ntmps34
  go_upto_region 1 with (fail)
  obtain ⟨w1, hw1⟩ : ∃ x, w.alloc (.cells #[.int .i64 k1, .int .i64 n1, .int .i64 a1, .slice A1 p1 c1, .slice A2 p2 c2] 26) = x := ⟨_, rfl⟩
  rw [hw1] at HB0 f3 f4 hb1 ⊢
  clear hw1
  have hS : Below w1.heap.size w1 w1.drew := (Below.refl _ _).drew
  refine wp_region_tab (fun w' => Below w1.heap.size w1 w') (fun w1 w2 : World => Below w1.heap.size w1 w2) [(fun (x : Value) (_ : World) => x = (.pointer (some ⟨w.heap.size, 0 + 3, none⟩) : Value)), (fun (x : Value) (_ : World) => x = (.slice A1 p1 c1 : Value)), (fun (x : Value) (_ : World) => x = (.int .i64 (M : Int) : Value)), (fun (x : Value) (w : World) => ∃ s : Nat, x = .int .i64 (s : Int) ∧ s ≤ sl ∧ (s ≤ M → s = sl)), (fun (x : Value) (w : World) => ∃ s : Nat, x = .int .i64 (s : Int) ∧ s ≤ (1 + sl) ∧ (s ≤ M → s = (1 + sl))), (fun (x : Value) (_ : World) => x = (.pointer (some ⟨w.heap.size, 0 + 4, none⟩) : Value)), (fun (x : Value) (_ : World) => x = (.slice A2 p2 c2 : Value)), (fun (x : Value) (_ : World) => x = (.int .i64 (M : Int) : Value)), (fun (x : Value) (w : World) => ∃ s : Nat, x = .int .i64 (s : Int) ∧ s ≤ sk ∧ (s ≤ M → s = sk)), (fun (x : Value) (w : World) => ∃ s : Nat, x = .int .i64 (s : Int) ∧ s ≤ (1 + sl + sk) ∧ (s ≤ M → s = (1 + sl + sk))), (fun (x : Value) (w : World) => ∃ s : Nat, x = .int .i64 (s : Int) ∧ s ≤ (1 + sl + sk) ∧ (s ≤ M → s = (1 + sl + sk)))] [⟨some 5, .fieldAddr 26 (.tmp 2) 3, none, []⟩, ⟨some 6, .load 23 (.tmp 5), none, [(5, 0)]⟩, ⟨some 7, .move (.tmp 1), none, []⟩, ⟨some 8, .call { callee := .value (.func 44), args := #[.tmp 6, .tmp 7], argTypes := #[23, 3] }, none, [(6, 1), (7, 2)]⟩, ⟨some 9, .binOp .add 3 (.const (.int .i64 1)) (.tmp 8) 3, none, [(8, 3)]⟩, ⟨some 10, .fieldAddr 26 (.tmp 2) 4, none, []⟩, ⟨some 11, .load 24 (.tmp 10), none, [(10, 5)]⟩, ⟨some 12, .move (.tmp 1), none, []⟩, ⟨some 13, .call { callee := .value (.func 20), args := #[.tmp 11, .tmp 12], argTypes := #[24, 3] }, none, [(11, 6), (12, 7)]⟩, ⟨some 14, .binOp .add 3 (.tmp 9) (.tmp 13) 3, none, [(9, 4), (13, 8)]⟩, ⟨some 4, .assign (.tmp 14), none, [(14, 9)]⟩] [some 5, some 6, some 7, some 8, some 9, some 10, some 11, some 12, some 13, some 14, some 4] (by kernel_rfl) (by kernel_rfl) (by kernel_rfl) (by kernel_rfl) (by kernel_rfl) ?hS ?hmono ?hsteps ?hfin
  case hS => exact hS
  case hmono =>
    refine MonoL.cons (fun x w1 w2 _ _ _ hx => hx) ?_
    refine MonoL.cons (fun x w1 w2 _ _ _ hx => hx) ?_
    refine MonoL.cons (fun x w1 w2 _ _ _ hx => hx) ?_
    refine MonoL.cons (fun x w1 w2 _ _ hR hx => ?_) ?_
    · exact hx
    refine MonoL.cons (fun x w1 w2 _ _ hR hx => ?_) ?_
    · exact hx
    refine MonoL.cons (fun x w1 w2 _ _ _ hx => hx) ?_
    refine MonoL.cons (fun x w1 w2 _ _ _ hx => hx) ?_
    refine MonoL.cons (fun x w1 w2 _ _ _ hx => hx) ?_
    refine MonoL.cons (fun x w1 w2 _ _ hR hx => ?_) ?_
    · exact hx
    refine MonoL.cons (fun x w1 w2 _ _ hR hx => ?_) ?_
    · exact hx
    refine MonoL.cons (fun x w1 w2 _ _ hR hx => ?_) ?_
    · exact hx
    exact MonoL.nil
  case hsteps =>
    refine StepsT.cons (fun (x : Value) (_ : World) => x = (.pointer (some ⟨w.heap.size, 0 + 3, none⟩) : Value)) [] rfl rfl (fun oq hop _ wq hQS => ?_) ?_
    · exact StepFrom.fieldAddr hop (p := (.pointer (some ⟨w.heap.size, 0, none⟩) : Value)) (by kernel_rfl) (term_field 3 (by decide)) (by kernel_rfl) hQS (Below.refl _ _) rfl
    refine StepsT.cons (fun (x : Value) (_ : World) => x = (.slice A1 p1 c1 : Value)) [(5, (fun (x : Value) (_ : World) => x = (.pointer (some ⟨w.heap.size, 0 + 3, none⟩) : Value)))] rfl rfl (fun oq hop _ wq hQS => ?_) ?_
    · refine StepFrom.more_eq ((.pointer (some ⟨w.heap.size, 0 + 3, none⟩) : Value)) ?_
      exact StepFrom.load hop (p := (.pointer (some ⟨w.heap.size, 0 + 3, none⟩) : Value)) (by kernel_rfl) (load_levels ((hQS.cell (p := ⟨w.heap.size, 0 + 3, none⟩) hb1).trans f3)) (by kernel_rfl) hQS (Below.refl _ _) rfl
    refine StepsT.cons (fun (x : Value) (_ : World) => x = (.int .i64 (M : Int) : Value)) [] rfl rfl (fun oq hop _ wq hQS => ?_) ?_
    · exact StepFrom.move hop (v := (.int .i64 (M : Int) : Value)) (by kernel_rfl) (by kernel_rfl) hQS (Below.refl _ _) rfl
    refine StepsT.cons (fun (x : Value) (w : World) => ∃ s : Nat, x = .int .i64 (s : Int) ∧ s ≤ sl ∧ (s ≤ M → s = sl)) [(6, (fun (x : Value) (_ : World) => x = (.slice A1 p1 c1 : Value))), (7, (fun (x : Value) (_ : World) => x = (.int .i64 (M : Int) : Value)))] rfl rfl (fun oq hop _ wq hQS => ?_) ?_
    · refine StepFrom.more_eq ((.slice A1 p1 c1 : Value)) ?_
      refine StepFrom.more_eq ((.int .i64 (M : Int) : Value)) ?_
      exact StepFrom.call hop (vs := [(.slice A1 p1 c1 : Value), (.int .i64 (M : Int) : Value)]) (by kernel_rfl) (fun w => enter_levelsOf _ w) (by kernel_rfl) ((HL.out wq (HB0.out.trans (hQS.mono HB0.out.size))).mono fun e w9 h9 => by obtain ⟨s, q1, q2, q3, q4⟩ := h9; exact ⟨_, q1, hQS.trans (q4.mono hQS.size), q4, s, rfl, q2, q3⟩)
    refine StepsT.cons (fun (x : Value) (w : World) => ∃ s : Nat, x = .int .i64 (s : Int) ∧ s ≤ (1 + sl) ∧ (s ≤ M → s = (1 + sl))) [(8, (fun (x : Value) (w : World) => ∃ s : Nat, x = .int .i64 (s : Int) ∧ s ≤ sl ∧ (s ≤ M → s = sl)))] rfl rfl (fun oq hop _ wq hQS => ?_) ?_
    · refine StepFrom.more fun x8 h8 => ?_
      obtain ⟨s8, rfl, hs8, ht8⟩ := h8
      exact StepFrom.bin hop (vx := (.int .i64 1 : Value)) (vy := (.int .i64 (s8 : Int) : Value)) (by kernel_rfl) (by kernel_rfl) (add_int _ _ _ _ _ (IntWalk.i64_in _ (by omega))) (by kernel_rfl) hQS (Below.refl _ _) (by exact ⟨1 + s8, congrArg (Value.int .i64) (by omega), by omega, fun h => by have := ht8 (by omega); omega⟩)
    refine StepsT.cons (fun (x : Value) (_ : World) => x = (.pointer (some ⟨w.heap.size, 0 + 4, none⟩) : Value)) [] rfl rfl (fun oq hop _ wq hQS => ?_) ?_
    · exact StepFrom.fieldAddr hop (p := (.pointer (some ⟨w.heap.size, 0, none⟩) : Value)) (by kernel_rfl) (term_field 4 (by decide)) (by kernel_rfl) hQS (Below.refl _ _) rfl
    refine StepsT.cons (fun (x : Value) (_ : World) => x = (.slice A2 p2 c2 : Value)) [(10, (fun (x : Value) (_ : World) => x = (.pointer (some ⟨w.heap.size, 0 + 4, none⟩) : Value)))] rfl rfl (fun oq hop _ wq hQS => ?_) ?_
    · refine StepFrom.more_eq ((.pointer (some ⟨w.heap.size, 0 + 4, none⟩) : Value)) ?_
      exact StepFrom.load hop (p := (.pointer (some ⟨w.heap.size, 0 + 4, none⟩) : Value)) (by kernel_rfl) (load_terms ((hQS.cell (p := ⟨w.heap.size, 0 + 4, none⟩) hb1).trans f4)) (by kernel_rfl) hQS (Below.refl _ _) rfl
    refine StepsT.cons (fun (x : Value) (_ : World) => x = (.int .i64 (M : Int) : Value)) [] rfl rfl (fun oq hop _ wq hQS => ?_) ?_
    · exact StepFrom.move hop (v := (.int .i64 (M : Int) : Value)) (by kernel_rfl) (by kernel_rfl) hQS (Below.refl _ _) rfl
    refine StepsT.cons (fun (x : Value) (w : World) => ∃ s : Nat, x = .int .i64 (s : Int) ∧ s ≤ sk ∧ (s ≤ M → s = sk)) [(11, (fun (x : Value) (_ : World) => x = (.slice A2 p2 c2 : Value))), (12, (fun (x : Value) (_ : World) => x = (.int .i64 (M : Int) : Value)))] rfl rfl (fun oq hop _ wq hQS => ?_) ?_
    · refine StepFrom.more_eq ((.slice A2 p2 c2 : Value)) ?_
      refine StepFrom.more_eq ((.int .i64 (M : Int) : Value)) ?_
      exact StepFrom.call hop (vs := [(.slice A2 p2 c2 : Value), (.int .i64 (M : Int) : Value)]) (by kernel_rfl) (fun w => enter_termsOf _ w) (by kernel_rfl) ((HK.out wq (HB0.out.trans (hQS.mono HB0.out.size))).mono fun e w9 h9 => by obtain ⟨s, q1, q2, q3, q4⟩ := h9; exact ⟨_, q1, hQS.trans (q4.mono hQS.size), q4, s, rfl, q2, q3⟩)
    refine StepsT.cons (fun (x : Value) (w : World) => ∃ s : Nat, x = .int .i64 (s : Int) ∧ s ≤ (1 + sl + sk) ∧ (s ≤ M → s = (1 + sl + sk))) [(9, (fun (x : Value) (w : World) => ∃ s : Nat, x = .int .i64 (s : Int) ∧ s ≤ (1 + sl) ∧ (s ≤ M → s = (1 + sl)))), (13, (fun (x : Value) (w : World) => ∃ s : Nat, x = .int .i64 (s : Int) ∧ s ≤ sk ∧ (s ≤ M → s = sk)))] rfl rfl (fun oq hop _ wq hQS => ?_) ?_
    · refine StepFrom.more fun x9 h9 => ?_
      obtain ⟨s9, rfl, hs9, ht9⟩ := h9
      refine StepFrom.more fun x13 h13 => ?_
      obtain ⟨s13, rfl, hs13, ht13⟩ := h13
      exact StepFrom.bin hop (vx := (.int .i64 (s9 : Int) : Value)) (vy := (.int .i64 (s13 : Int) : Value)) (by kernel_rfl) (by kernel_rfl) (add_int _ _ _ _ _ (IntWalk.i64_in _ (by omega))) (by kernel_rfl) hQS (Below.refl _ _) (by exact ⟨s9 + s13, congrArg (Value.int .i64) (by omega), by omega, fun h => by have := ht9 (by omega); have := ht13 (by omega); omega⟩)
    refine StepsT.cons (fun (x : Value) (w : World) => ∃ s : Nat, x = .int .i64 (s : Int) ∧ s ≤ (1 + sl + sk) ∧ (s ≤ M → s = (1 + sl + sk))) [(14, (fun (x : Value) (w : World) => ∃ s : Nat, x = .int .i64 (s : Int) ∧ s ≤ (1 + sl + sk) ∧ (s ≤ M → s = (1 + sl + sk))))] rfl rfl (fun oq hop _ wq hQS => ?_) ?_
    · refine StepFrom.more fun x14 h14 => ?_
      obtain ⟨s14, rfl, hs14, ht14⟩ := h14
      exact StepFrom.assign hop (v := (.int .i64 (s14 : Int) : Value)) (by kernel_rfl) (by kernel_rfl) hQS (Below.refl _ _) ⟨s14, rfl, hs14, ht14⟩
    exact StepsT.nil
  case hfin =>
    intro wf hFS
    refine FinalFrom.more fun x5 h5 => ?_
    refine FinalFrom.more fun x6 h6 => ?_
    refine FinalFrom.more fun x7 h7 => ?_
    refine FinalFrom.more fun x8 h8 => ?_
    refine FinalFrom.more fun x9 h9 => ?_
    refine FinalFrom.more fun x10 h10 => ?_
    refine FinalFrom.more fun x11 h11 => ?_
    refine FinalFrom.more fun x12 h12 => ?_
    refine FinalFrom.more fun x13 h13 => ?_
    refine FinalFrom.more fun x14 h14 => ?_
    refine FinalFrom.more fun x4 h4 => ?_
    refine FinalFrom.done ?_
    obtain ⟨s4, rfl, q1, q2⟩ := h4
    have HF : Hid (CountPost w (1 + sl + sk) M (.returned (.int .i64 (s4 : Int))) wf) := ⟨s4, rfl, q1, q2, HB0.out.trans (hFS.mono HB0.out.size)⟩
    clear hS hFS f3 f4 q1 q2
    simp only [Act.put, List.setIfInBounds_toArray, List.set_cons_zero, List.set_cons_succ]
    go_wp2
    go_ret
    exact HF.out
/-- TermOf counts a term's nodes, levels and parts, up to a bound. -/
theorem termOf_any : ∀ t : Tm, CountTm t := by
  intro t
  induction t using Tm.ind with
  | h k n a lv kids ih =>
    intro hc M v w hM h
    obtain ⟨A1, c1, A2, c2, rfl, _, h1, h2⟩ := h.open
    rw [Tm.count_mk] at hc ⊢
    exact termOf_of k n a lv kids ih A1 A2 c1 c2 _ _ M w rfl rfl hc hM h1 h2
/-- TermsOf counts a row of terms, up to a bound. -/
theorem termsOf_any (ts : List Tm) (A : Option Addr) (c M n : Nat) (w : World) (hn : ts.length = n) (hs : Tm.countL ts ≤ 1048576) (hM : M ≤ 1048576) (h : Tms w w.heap.size A c ts) :
    Calls Tryd.prog 20 #[.slice A n c, .int .i64 (M : Int)] w (CountPost w (Tm.countL ts) M) := termsOf_of ts (fun t _ => termOf_any t) A c M n w hn hs hM h
end Go.Proofs.YtafgmndlbbjphaaDoor
namespace Go.Proofs.YtafgmndlbbjphaaDoor
open Go.RowKit Go.Maps

mutual
/-- a term's nodes -/
def Tm.size : Tm → Nat
  | .mk _ _ _ _ kids => 1 + Tm.sizeL kids
def Tm.sizeL : List Tm → Nat
  | [] => 0
  | t :: ts => t.size + Tm.sizeL ts
end
theorem Tm.size_mk (k n a : Int) (lv : List (List (Int × Int))) (kids : List Tm) : (Tm.mk k n a lv kids).size = 1 + Tm.sizeL kids := by rw [Tm.size]
theorem Tm.sizeL_take : ∀ (ts : List Tm) (i : Nat) (t : Tm), ts[i]? = some t → Tm.sizeL (ts.take (i + 1)) = Tm.sizeL (ts.take i) + t.size
  | [], i, t, h => by simp at h
  | s :: ts, 0, t, h => by
    injection h with h
    subst h
    simp [Tm.sizeL]
  | s :: ts, i + 1, t, h => by
    have := Tm.sizeL_take ts i t (by simpa using h)
    rw [List.take_succ_cons, List.take_succ_cons]
    simp only [Tm.sizeL, this]
    omega
theorem Tm.sizeL_le : ∀ (ts : List Tm) (k : Nat), Tm.sizeL (ts.take k) ≤ Tm.sizeL ts
  | [], k => by simp
  | t :: ts, 0 => by simp [Tm.sizeL]
  | t :: ts, k + 1 => by
    have := Tm.sizeL_le ts k
    rw [List.take_succ_cons]
    simp only [Tm.sizeL]
    omega
theorem Tm.sizeL_mem {ts : List Tm} {t : Tm} (h : t ∈ ts) : t.size ≤ Tm.sizeL ts := by
  obtain ⟨i, hi⟩ := List.getElem?_of_mem h
  have h1 := Tm.sizeL_take ts i t hi
  have h2 := Tm.sizeL_le ts (i + 1)
  omega
theorem Tm.sizeL_length : ∀ ts : List Tm, ts.length ≤ Tm.sizeL ts
  | [] => by simp
  | .mk k n a lv kids :: ts => by
    have := Tm.sizeL_length ts
    simp only [Tm.sizeL, Tm.size_mk, List.length_cons]
    omega
/-- what Size answers of a term of no more than this many nodes -/
def SizeTm (t : Tm) : Prop := t.size ≤ 1073741824 → ∀ (v : Value) (w : World), TmAt w w.heap.size t v → Calls Tryd.prog 12 #[v] w (fun e w' => e = .returned (.int .i64 (t.size : Int)) ∧ Below w.heap.size w w')

set_option maxRecDepth 100000 in
set_option maxHeartbeats 1000000 in
theorem size_of (k1 n1 a1 : Int) (kids : List Tm) (ih : ∀ t ∈ kids, SizeTm t) (A1 A2 : Option Addr) (c1 c2 p1 p2 : Nat) (w : World) (hp2 : kids.length = p2) (hc : 1 + Tm.sizeL kids ≤ 1073741824) (h2 : Tms w w.heap.size A2 c2 kids) :
    Calls Tryd.prog 12 #[.agg #[.int .i64 k1, .int .i64 n1, .int .i64 a1, .slice A1 p1 c1, .slice A2 p2 c2]] w (fun e w' => e = .returned (.int .i64 ((1 + Tm.sizeL kids : Nat) : Int)) ∧ Below w.heap.size w w') := by
  have hl := Tm.sizeL_length kids
  have hp9 : p2 ≤ 1073741824 := by omega
  have HL := Lib.hid h2
  have HN := Lib.hid hp2
  have HS := Lib.hid hc
  have IH := Lib.hid ih
  have HB0 : Hid (Below w.heap.size w (w.alloc (.cells #[.int .i64 k1, .int .i64 n1, .int .i64 a1, .slice A1 p1 c1, .slice A2 p2 c2] 26))) := (Below.refl _ _).alloc (Nat.le_refl _) _
  clear h2 hp2 hc ih hl
  go_enter Tryd.func12, Tryd.ntmps12
  go_wp2
  go_loopw [3, 9] (fun u i wr => ∃ (k : Nat), k ≤ p2 ∧ i = .int .i64 (k : Int) ∧ u = .int .i64 ((1 + Tm.sizeL (kids.take k) : Nat) : Int) ∧ Below w.heap.size w wr) (fun _ i _ => p2 - (intOf i).toNat)
  case atStart => exact ⟨0, Nat.zero_le _, rfl, by simp [Tm.sizeL], HB0.out⟩
  case round =>
    obtain ⟨k, hk, rfl, rfl, hb⟩ := hrel
    have hbz := hb.size
    have hle := Tm.sizeL_le kids k
    have hs9 := HS.out
    by_cases hlt : k < p2
    · obtain ⟨t, ht⟩ : ∃ t, kids[k]? = some t := ⟨_, List.getElem?_eq_getElem (by rw [HN.out]; exact hlt)⟩
      obtain ⟨b, o, k2, n2, a2, A3, p3, c3, A4, p4, c4, e, hbB, hv, f0, f1, f2, f3, f4⟩ := HL.out.at hb ht
      subst e
      have hct := Tm.sizeL_take kids k t ht
      have hle1 := Tm.sizeL_le kids (k + 1)
      have hm := Tm.sizeL_mem (List.mem_of_getElem? ht)
      have HC : Hid (∀ w', Below wr.heap.size wr w' → Calls Tryd.prog 12 #[.agg #[.int .i64 k2, .int .i64 n2, .int .i64 a2, .slice A3 p3 c3, .slice A4 p4 c4]] w' (fun e w9 => e = .returned (.int .i64 (t.size : Int)) ∧ Below w'.heap.size w' w9)) := fun w' hx => by
        have hx2 := hb.trans (hx.mono hbz)
        exact IH.out t (List.mem_of_getElem? ht) (by omega) _ w' (hv.below hx2 hx2.size)
      have ws : IntKind.i64.wrap (((1 + Tm.sizeL (kids.take k) : Nat) : Int) + (t.size : Int)) = ((1 + Tm.sizeL (kids.take (k + 1)) : Nat) : Int) := by rw [IntWalk.i64_in _ (by omega)]; omega
      have HB := Lib.hid hb
      have ij0 : (0 : Int) ≤ (k : Int) := by omega
      have ij1 : (k : Int) < (p2 : Int) := by omega
      obtain ⟨u, hu⟩ : ∃ u : Int, ((1 + Tm.sizeL (kids.take k) : Nat) : Int) = u := ⟨_, rfl⟩
      obtain ⟨s, hs⟩ : ∃ s : Int, (t.size : Int) = s := ⟨_, rfl⟩
      obtain ⟨u', hu'⟩ : ∃ u : Int, ((1 + Tm.sizeL (kids.take (k + 1)) : Nat) : Int) = u := ⟨_, rfl⟩
      rw [hu, hs, hu'] at ws
      rw [hs] at HC
      rw [hu]
      have HU := Lib.hid hu'
      clear hb hv hct ht hm hu hs hu' hle hle1 hs9
      go_wp2_with (fail)
      refine (HC.out _ ((Below.refl _ _).alloc (Nat.le_refl _) _)).mono ?_
      rintro e w1 ⟨rfl, hb1⟩
      have HB1 : Hid (Below w.heap.size w w1) := HB.out.trans ((((Below.refl _ _).alloc (Nat.le_refl _) _).trans (hb1.mono (by simp))).mono hbz)
      clear hb1
      go_wp2
      go_roundw
      case rel => exact ⟨k + 1, by omega, by go_num, by rw [HU.out], HB1.out⟩
      case measure => simp [intOf]; omega
    · have hq : kids.take k = kids := List.take_of_length_le (by rw [HN.out]; omega)
      rw [hq]
      have HB := Lib.hid hb
      clear hb hq
      go_wp2
      go_ret
      exact ⟨rfl, HB.out⟩
/-- Size tells how many nodes a term has. -/
theorem size_any : ∀ t : Tm, SizeTm t := by
  intro t
  induction t using Tm.ind with
  | h k n a lv kids ih =>
    intro hc v w h
    obtain ⟨A1, c1, A2, c2, rfl, _, h1, h2⟩ := h.open
    rw [Tm.size_mk] at hc ⊢
    exact size_of k n a kids ih A1 A2 c1 c2 _ _ w rfl hc h2

mutual
/-- are all variables from 0 to 1000? -/
def Tm.tame : Tm → Bool
  | .mk k n _ _ kids => (!(decide (k = 1) && (decide (n < 0) || decide (1000 < n)))) && Tm.tameL kids
def Tm.tameL : List Tm → Bool
  | [] => true
  | t :: ts => t.tame && Tm.tameL ts
end
theorem Tm.tame_mk (k n a : Int) (lv : List (List (Int × Int))) (kids : List Tm) : (Tm.mk k n a lv kids).tame = ((!(decide (k = 1) && (decide (n < 0) || decide (1000 < n)))) && Tm.tameL kids) := by rw [Tm.tame]
theorem Tm.tameL_iff : ∀ ts : List Tm, Tm.tameL ts = true ↔ ∀ t ∈ ts, t.tame = true
  | [] => by simp [Tm.tameL]
  | t :: ts => by
    have := Tm.tameL_iff ts
    simp [Tm.tameL, this]
def Tm.kids : Tm → List Tm
  | .mk _ _ _ _ kids => kids
/-- what tame answers of a term's kids -/
def TameTm (t : Tm) : Prop := t.size ≤ 1073741824 → ∀ (A : Option Addr) (c n : Nat) (w : World), t.kids.length = n → Tms w w.heap.size A c t.kids → Calls Tryd.prog 7 #[.slice A n c] w (HasPost w (Tm.tameL t.kids))
set_option maxRecDepth 100000 in
set_option maxHeartbeats 1000000 in
theorem tame_of (ts : List Tm) (ih : ∀ t ∈ ts, TameTm t) (A : Option Addr) (c n : Nat) (w : World) (hn : ts.length = n) (hs : Tm.sizeL ts ≤ 1073741824) (h : Tms w w.heap.size A c ts) :
    Calls Tryd.prog 7 #[.slice A n c] w (HasPost w (Tm.tameL ts)) := by
  have hn9 := Tm.sizeL_length ts
  have hn8 : n ≤ 1073741824 := by omega
  have HL := Lib.hid h
  have HN := Lib.hid hn
  have HS := Lib.hid hs
  have IH := Lib.hid ih
  clear h hn hs hn9 ih
  go_enter Tryd.func7, Tryd.ntmps7
  go_wp2
  go_loopw [3] (fun i wr => ∃ (k : Nat), k ≤ n ∧ i = .int .i64 (k : Int) ∧ Below w.heap.size w wr ∧ ∀ j t, j < k → ts[j]? = some t → t.tame = true) (fun i _ => n - (intOf i).toNat)
  case atStart => exact ⟨0, Nat.zero_le _, rfl, Below.refl _ _, fun j _ h => by omega⟩
  case round =>
    obtain ⟨k, hk, rfl, hb, hso⟩ := hrel
    have hbz := hb.size
    by_cases hlt : k < n
    · obtain ⟨t, ht⟩ : ∃ t, ts[k]? = some t := ⟨_, List.getElem?_eq_getElem (by rw [HN.out]; exact hlt)⟩
      obtain ⟨b, o, k2, n2, a2, A3, p3, c3, A4, p4, c4, e, hbB, hv, f0, f1, f2, f3, f4⟩ := HL.out.at hb ht
      subst e
      have hm := Tm.sizeL_mem (List.mem_of_getElem? ht)
      have hs9 := HS.out
      have HB := Lib.hid hb
      have ij0 : (0 : Int) ≤ (k : Int) := by omega
      have ij1 : (k : Int) < (n : Int) := by omega
      obtain ⟨kk, nn, aa, lv, kids⟩ := t
      have HBAD : Hid ((Tm.mk kk nn aa lv kids).tame = false → Tm.tameL ts = false) := fun hf => by
        cases e : Tm.tameL ts with
        | false => rfl
        | true =>
          have := (Tm.tameL_iff ts).1 e _ (List.mem_of_getElem? ht)
          rw [hf] at this
          cases this
      have HGOOD : Hid ((Tm.mk kk nn aa lv kids).tame = true → ∀ j t, j < k + 1 → ts[j]? = some t → t.tame = true) := fun hf j t hj e => by
        rcases Nat.lt_succ_iff_lt_or_eq.1 hj with hj | rfl
        · exact hso j t hj e
        · rw [ht] at e
          injection e with e
          rw [← e]; exact hf
      obtain ⟨A5, c5, A6, c6, ev, _, q1, q2⟩ := hv.open
      injection ev with ev
      injection ev with ev
      injection ev with e0 ev
      injection ev with e1 ev
      injection ev with e2 ev
      injection ev with e3 ev
      injection ev with e4 _
      injection e0 with _ e0
      injection e1 with _ e1
      injection e4 with e4 e5 e6
      subst e0 e1 e4 e6
      have HC : Hid (Calls Tryd.prog 7 #[.slice A4 p4 c4] wr (HasPost wr (Tm.tameL kids))) := IH.out _ (List.mem_of_getElem? ht) (by omega) A4 c4 p4 wr e5.symm (q2.below hb hbz)
      have HT := Lib.hid (Tm.tame_mk k2 n2 aa lv kids)
      clear hb hso ht hv q1 q2 e5 hm e3
      have post : ∀ (b : Bool) (wf : World), Hid (Below wr.heap.size wr wf) → Hid (Below w.heap.size w wf) := fun b wf h => HB.out.trans (h.out.mono hbz)
      by_cases g : k2 = 1 ∧ (n2 < 0 ∨ 1000 < n2)
      · have hf : Hid (Tm.tameL ts = false) := HBAD.out (by rw [HT.out]; obtain ⟨g1, g2 | g2⟩ := g <;> simp [g1, g2])
        obtain ⟨g1, g2⟩ := g
        subst g1
        clear HC HT HBAD HGOOD
        by_cases g3 : n2 < 0
        · go_wp2
          go_ret
          exact ⟨by rw [hf.out]; rfl, HB.out⟩
        · have g4 : 1000 < n2 := by omega
          go_wp2
          go_ret
          exact ⟨by rw [hf.out]; rfl, HB.out⟩
      · obtain ⟨tk, htk⟩ : ∃ b, Tm.tameL kids = b := ⟨_, rfl⟩
        rw [htk] at HC
        have HT2 : Hid ((Tm.mk k2 n2 aa lv kids).tame = tk) := by
          show _ = _
          rw [HT.out, htk]
          by_cases g1 : k2 = 1
          · simp [g1, show ¬ n2 < 0 by omega, show ¬ 1000 < n2 by omega]
          · simp [g1]
        clear HT htk
        have fin : ∀ wf, Hid (Below wr.heap.size wr wf) → tk = false → Hid (HasPost w (Tm.tameL ts) (.returned (.bool false)) wf) := fun wf h e => ⟨by rw [HBAD.out (by rw [HT2.out, e])], HB.out.trans (h.out.mono hbz)⟩
        have go : tk = true → Hid (∀ j t, j < k + 1 → ts[j]? = some t → t.tame = true) := fun e => HGOOD.out (by rw [HT2.out, e])
        clear HBAD HGOOD HT2
        by_cases g1 : k2 = 1
        · have g3 : ¬ n2 < 0 := by omega
          have g4 : ¬ 1000 < n2 := by omega
          subst g1
          clear g
          go_wp2_with (fail)
          refine HC.out.mono ?_
          rintro e w1 ⟨rfl, hb1⟩
          have HB1 := Lib.hid hb1
          clear hb1
          cases tk with
          | true =>
            have HG := go rfl
            clear go fin
            go_wp2
            go_roundw
            case rel => exact ⟨k + 1, by omega, by go_num, (post true _ HB1).out, HG.out⟩
            case measure => simp [intOf]; omega
          | false =>
            have HF := fin _ HB1 rfl
            clear go fin
            go_wp2
            go_ret
            exact HF.out
        · have g2 : (k2 == 1) = false := by simpa using g1
          clear g
          go_wp2_with (fail)
          refine HC.out.mono ?_
          rintro e w1 ⟨rfl, hb1⟩
          have HB1 := Lib.hid hb1
          clear hb1
          cases tk with
          | true =>
            have HG := go rfl
            clear go fin
            go_wp2
            go_roundw
            case rel => exact ⟨k + 1, by omega, by go_num, (post true _ HB1).out, HG.out⟩
            case measure => simp [intOf]; omega
          | false =>
            have HF := fin _ HB1 rfl
            clear go fin
            go_wp2
            go_ret
            exact HF.out
    · have HF : Hid (Tm.tameL ts = true) := (Tm.tameL_iff ts).2 fun t h => by
        obtain ⟨i, hi⟩ := List.getElem?_of_mem h
        have := (List.getElem?_eq_some_iff.1 hi).1
        rw [HN.out] at this
        exact hso i t (by omega) hi
      have HB := Lib.hid hb
      clear hb hso
      go_wp2
      go_ret
      exact ⟨by rw [HF.out]; rfl, HB.out⟩
theorem tame_ind : ∀ t : Tm, TameTm t := by
  intro t
  induction t using Tm.ind with
  | h k n a lv kids ih =>
    intro hc A c m w hm h
    rw [Tm.size_mk] at hc
    exact tame_of kids ih A c m w hm (by omega) h
/-- tame: are all variables of these terms from 0 to 1000? -/
theorem tame_any (ts : List Tm) (A : Option Addr) (c n : Nat) (w : World) (hn : ts.length = n) (hs : Tm.sizeL ts ≤ 1073741824) (h : Tms w w.heap.size A c ts) :
    Calls Tryd.prog 7 #[.slice A n c] w (HasPost w (Tm.tameL ts)) := tame_of ts (fun t _ => tame_ind t) A c n w hn hs h

set_option maxRecDepth 100000 in
set_option maxHeartbeats 1000000 in
/-- great: are these terms more than 600? -/
theorem great_any (ts : List Tm) (A : Option Addr) (c n : Nat) (w : World) (hn : ts.length = n) (hs : Tm.countL ts ≤ 1048576) (h : Tms w w.heap.size A c ts) :
    Calls Tryd.prog 6 #[.slice A n c] w (HasPost w (decide (600 < Tm.countL ts))) := by
  have HC := Lib.hid (termsOf_any ts A c 600 n w hn hs (by decide) h)
  obtain ⟨s, hs⟩ : ∃ s, Tm.countL ts = s := ⟨_, rfl⟩
  rw [hs] at HC ⊢
  clear h hn hs
  go_enter Tryd.func6, Tryd.ntmps6
  go_wp2_with (fail)
  refine HC.out.mono ?_
  rintro e w1 ⟨r, rfl, q1, q2, hb⟩
  have HF : Hid (HasPost w (decide (600 < s)) (.returned (.bool (decide ((600 : Int) < (r : Int))))) w1) := ⟨by
    congr 2
    by_cases g : 600 < r
    · rw [decide_eq_true (show 600 < s by omega), decide_eq_true (by omega)]
    · rw [decide_eq_false (show ¬ 600 < s by have := q2 (by omega); omega), decide_eq_false (by omega)], hb⟩
  clear hb q2
  go_wp2
  go_ret
  exact HF.out

set_option maxRecDepth 100000 in
set_option maxHeartbeats 1000000 in
/-- same: are two terms one, node by node? -/
theorem same2_any (t u : Tm) (va vb : Value) (w : World) (r : Bool) (hc : t.fit) (hc' : u.fit) (ha : TmAt w w.heap.size t va) (hb : TmAt w w.heap.size u vb) (hr : r = true ↔ t = u) :
    Calls Tryd.prog 9 #[va, vb] w (HasPost w r) := by
  obtain ⟨k1, n1, a1, lv1, kids1⟩ := t
  obtain ⟨k2, n2, a2, lv2, kids2⟩ := u
  obtain ⟨A1, c1, A2, c2, rfl, p1, h1, h2⟩ := ha.open
  obtain ⟨A3, c3, A4, c4, rfl, p2, h3, h4⟩ := hb.open
  have HC : Hid (∀ w', Below w.heap.size w w' → Calls Tryd.prog 21 #[.agg #[.int .i64 k1, .int .i64 n1, .int .i64 a1, .slice A1 lv1.length c1, .slice A2 kids1.length c2], .agg #[.int .i64 k2, .int .i64 n2, .int .i64 a2, .slice A3 lv2.length c3, .slice A4 kids2.length c4]] w' (HasPost w' r)) := fun w' hx =>
    sameTerm_any _ hc _ _ _ w' r hc' (ha.below hx hx.size) (hb.below hx hx.size) hr
  obtain ⟨l1, e1⟩ : ∃ l, lv1.length = l := ⟨_, rfl⟩
  obtain ⟨l2, e2⟩ : ∃ l, kids1.length = l := ⟨_, rfl⟩
  obtain ⟨l3, e3⟩ : ∃ l, lv2.length = l := ⟨_, rfl⟩
  obtain ⟨l4, e4⟩ : ∃ l, kids2.length = l := ⟨_, rfl⟩
  rw [e1, e2, e3, e4] at HC ⊢
  have HB0 : Hid (Below w.heap.size w ((w.alloc (.cells #[.int .i64 k1, .int .i64 n1, .int .i64 a1, .slice A1 l1 c1, .slice A2 l2 c2] 26)).alloc (.cells #[.int .i64 k2, .int .i64 n2, .int .i64 a2, .slice A3 l3 c3, .slice A4 l4 c4] 26))) := ((Below.refl _ _).alloc (Nat.le_refl _) _).alloc (by simp) _
  clear ha hb h1 h2 h3 h4 hr e1 e2 e3 e4 hc hc' p1 p2
  go_enter Tryd.func9, Tryd.ntmps9
  go_wp2_with (fail)
  refine (HC.out _ HB0.out).mono ?_
  rintro e w1 ⟨rfl, hb1⟩
  have HB1 : Hid (Below w.heap.size w w1) := HB0.out.trans (hb1.mono HB0.out.size)
  clear hb1
  go_wp2
  go_ret
  exact ⟨rfl, HB1.out⟩
end Go.Proofs.YtafgmndlbbjphaaDoor
