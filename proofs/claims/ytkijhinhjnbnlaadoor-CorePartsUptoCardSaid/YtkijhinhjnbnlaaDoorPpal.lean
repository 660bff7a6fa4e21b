/- Laws. -/
import Derived.Test.YtkijhinhjnbnlaaDoorPpag
import Derived.Test.YtkijhinhjnbnlaaDoorPpaj
import Derived.Test.YtkijhinhjnbnlaaDoorPpak
namespace Go.Proofs.YtkijhinhjnbnlaaDoor
open Go.RowKit Go.Maps
set_option maxRecDepth 100000 in
theorem enter_asks (vs : Array Value) (w : World) : (callFunc 21 vs).run Tryd.prog w = .ok (.enter 21 vs) w := by go_simp
set_option maxRecDepth 100000 in
theorem enter_right1 (vs : Array Value) (w : World) : (callFunc 19 vs).run Tryd.prog w = .ok (.enter 19 vs) w := by go_simp
set_option maxRecDepth 100000 in
theorem build_scope (x : Int) (w : World) : (Instr.build 51 [(0, Value.int .i64 x)].toArray).run Tryd.prog w = .ok (.agg #[.int .i64 x, .int .i64 0]) w := by go_simp
set_option maxRecDepth 100000 in
theorem build_wk (sc n : Int) (A : Option Addr) (nc cc m : Nat) (w : World) : (Instr.build 55 [(0, Value.agg #[.int .i64 sc, .int .i64 0]), (1, .int .i64 n), (2, .slice A nc cc), (3, .map (some m))].toArray).run Tryd.prog w = .ok (WK sc 0 n A nc cc m) w := by
  unfold WK
  go_simp
set_option maxRecDepth 100000 in
set_option maxHeartbeats 4000000 in
theorem right1_any (g0 g1 g2 g3 : Nat) (n sc : Int) (cs : List Int) (A : Option Addr) (nc cc : Nat) (t : Tm) (c0 c1 c2 c3 c4 : Value) (w : World) (hK : KindsAt w) (hnc : cs.length = nc) (hcs : Ints w w.heap.size A cs) (hf : t.fit) (hd : t.size ≤ 1073741824) (ht : TmAt w w.heap.size t (.agg #[c0, c1, c2, c3, c4]))
    (h0 : w.heap[g0]? = some (.cells #[.int .i64 n] 3 (0, 0))) (h1 : w.heap[g1]? = some (.cells #[.int .i64 sc] 3 (0, 0))) (h2 : w.heap[g2]? = some (.cells #[.slice A nc cc] 22 (0, 0))) (h3 : w.heap[g3]? = some (.cells #[c0, c1, c2, c3, c4] 27 (0, 0))) :
    Calls Tryd.prog 19 #[.pointer (some ⟨g0, 0, none⟩), .pointer (some ⟨g1, 0, none⟩), .pointer (some ⟨g2, 0, none⟩), .pointer (some ⟨g3, 0, none⟩)] w (MustPost w 6 (rightCB n sc cs t)) := by
  obtain ⟨r, hr⟩ : ∃ r, rightCB n sc cs t = r := ⟨_, rfl⟩
  have hrr : r = true ↔ 0 ≤ n ∧ 0 ≤ sc ∧ t.core n sc cs 0 := by rw [← hr, rightCB_iff]; rfl
  rw [hr]
  have hw0 : 0 < w.heap.size := cell_lt (hK 0 (by decide))
  have f0 := cell_of_one h0
  have f1 := cell_of_one h1
  have HRR := Lib.hid hrr
  have H0 := Lib.hid h0
  have H1 := Lib.hid h1
  have H2 := Lib.hid h2
  have H3 := Lib.hid h3
  have HK := Lib.hid hK
  have HNC := Lib.hid hnc
  have HCS := Lib.hid hcs
  have HF := Lib.hid hf
  have HT := Lib.hid ht
  have hno : ¬ (0 ≤ n ∧ 0 ≤ sc) → Hid (r = false) := fun hn => by
    cases r with
    | false => exact rfl
    | true => exact absurd ⟨(hrr.1 rfl).1, (hrr.1 rfl).2.1⟩ hn
  clear hr hrr h0 h1 h2 h3 hK hnc hcs hf ht
  by_cases hn0 : 0 ≤ n
  · by_cases hs0 : 0 ≤ sc
    · clear hno
      go_enter Tryd.func19, Tryd.ntmps19
      go_wp2_with (fail)
      refine (must_any true _).mono ?_
      rintro e w2 h
      obtain ⟨rfl, hb2⟩ := h.1 rfl
      have k0 := heap_some_lt ((hb2.block _ (heap_some_lt H0.out)).trans H0.out)
      have k1 := heap_some_lt ((hb2.block _ (heap_some_lt H1.out)).trans H1.out)
      have k2 := heap_some_lt ((hb2.block _ (heap_some_lt H2.out)).trans H2.out)
      have f0 := cell_of_one ((hb2.block _ (heap_some_lt H0.out)).trans H0.out)
      have f1 := cell_of_one ((hb2.block _ (heap_some_lt H1.out)).trans H1.out)
      have f2 := cell_of_one ((hb2.block _ (heap_some_lt H2.out)).trans H2.out)
      have X3 := Lib.hid ((hb2.block _ (heap_some_lt H3.out)).trans H3.out)
      have HB2 := Lib.hid hb2
      have hS : Below w2.heap.size w2 w2.drew := (Below.refl _ _).drew
      clear h hb2
      go_upto_region 1 with (fail)
      refine wp_region_tail 7 (fun w' => Below w2.heap.size w2 w') (fun w1 w2 : World => Below w1.heap.size w1 w2) [(fun (x : Value) (_ : World) => x = (.int .i64 sc : Value)), (fun (x : Value) (_ : World) => x = (.agg #[.int .i64 sc, .int .i64 0] : Value)), (fun (x : Value) (_ : World) => x = (.int .i64 n : Value)), (fun (x : Value) (_ : World) => x = (.slice A nc cc : Value)), (fun (x : Value) (w : World) => ∃ m, x = .map (some m) ∧ m < w.heap.size ∧ AsksAt w m), (fun (x : Value) (w : World) => ∃ m, x = WK sc 0 n A nc cc m ∧ m < w.heap.size ∧ AsksAt w m), (fun (x : Value) (_ : World) => x = (.agg #[c0, c1, c2, c3, c4] : Value))] [⟨some 11, .load 3 (.tmp 1), none, []⟩, ⟨some 12, .build 51 #[(0, .tmp 11)], none, [(11, 0)]⟩, ⟨some 13, .load 3 (.tmp 0), none, []⟩, ⟨some 14, .load 22 (.tmp 2), none, []⟩, ⟨some 15, .call { callee := .value (.func 21), args := #[], argTypes := #[] }, none, []⟩, ⟨some 16, .build 55 #[(0, .tmp 12), (1, .tmp 13), (2, .tmp 14), (3, .tmp 15)], none, [(12, 1), (13, 2), (14, 3), (15, 4)]⟩, ⟨some 17, .load 27 (.tmp 3), none, []⟩] [some 11, some 12, some 13, some 14, some 15, some 16, some 17] [] [] (by kernel_rfl) (by kernel_rfl) (by kernel_rfl) (by kernel_rfl) (by kernel_rfl) (by kernel_rfl) (by kernel_rfl) (by kernel_rfl) ?hrun ?hold ?hS ?hmono ?hsteps ?hfin
      case hrun => exact fun p hp => by cases hp
      case hold => exact fun p hp => by cases hp
      case hS => exact hS
      case hmono =>
        refine MonoL.cons (fun x w1 w2 _ _ _ hx => hx) ?_
        refine MonoL.cons (fun x w1 w2 _ _ _ hx => hx) ?_
        refine MonoL.cons (fun x w1 w2 _ _ _ hx => hx) ?_
        refine MonoL.cons (fun x w1 w2 _ _ _ hx => hx) ?_
        refine MonoL.cons (fun x w1 w2 _ _ hR hx => ?_) ?_
        · obtain ⟨m, q1, q2, q3⟩ := hx; exact ⟨m, q1, by have := hR.size; omega, q3.below hR q2⟩
        refine MonoL.cons (fun x w1 w2 _ _ hR hx => ?_) ?_
        · obtain ⟨m, q1, q2, q3⟩ := hx; exact ⟨m, q1, by have := hR.size; omega, q3.below hR q2⟩
        refine MonoL.cons (fun x w1 w2 _ _ _ hx => hx) ?_
        exact MonoL.nil
      case hsteps =>
        refine StepsT.cons (fun (x : Value) (_ : World) => x = (.int .i64 sc : Value)) [] rfl rfl (fun oq hop _ wq hQS => ?_) ?_
        · exact StepFrom.load hop (p := (.pointer (some ⟨g1, 0, none⟩) : Value)) (by kernel_rfl) (load_int ((hQS.cell (p := ⟨g1, 0, none⟩) k1).trans f1)) (by kernel_rfl) hQS (Below.refl _ _) rfl
        refine StepsT.cons (fun (x : Value) (_ : World) => x = (.agg #[.int .i64 sc, .int .i64 0] : Value)) [(11, (fun (x : Value) (_ : World) => x = (.int .i64 sc : Value)))] rfl rfl (fun oq hop _ wq hQS => ?_) ?_
        · refine StepFrom.more_eq ((.int .i64 sc : Value)) ?_
          exact StepFrom.build hop (vs := [(0, .int .i64 sc)]) (by kernel_rfl) (build_scope _ _) (by kernel_rfl) hQS (Below.refl _ _) rfl
        refine StepsT.cons (fun (x : Value) (_ : World) => x = (.int .i64 n : Value)) [] rfl rfl (fun oq hop _ wq hQS => ?_) ?_
        · exact StepFrom.load hop (p := (.pointer (some ⟨g0, 0, none⟩) : Value)) (by kernel_rfl) (load_int ((hQS.cell (p := ⟨g0, 0, none⟩) k0).trans f0)) (by kernel_rfl) hQS (Below.refl _ _) rfl
        refine StepsT.cons (fun (x : Value) (_ : World) => x = (.slice A nc cc : Value)) [] rfl rfl (fun oq hop _ wq hQS => ?_) ?_
        · exact StepFrom.load hop (p := (.pointer (some ⟨g2, 0, none⟩) : Value)) (by kernel_rfl) (load_ints ((hQS.cell (p := ⟨g2, 0, none⟩) k2).trans f2)) (by kernel_rfl) hQS (Below.refl _ _) rfl
        refine StepsT.cons (fun (x : Value) (w : World) => ∃ m, x = .map (some m) ∧ m < w.heap.size ∧ AsksAt w m) [] rfl rfl (fun oq hop _ wq hQS => ?_) ?_
        · exact StepFrom.call hop (vs := []) (by kernel_rfl) (fun w => enter_asks _ w) (by kernel_rfl) ((asks_any wq).mono fun e w9 h9 => by obtain ⟨m, q1, q2, q3, q4⟩ := h9; exact ⟨_, q1, hQS.trans (q4.mono hQS.size), q4, ⟨m, rfl, q2, q3⟩⟩)
        refine StepsT.cons (fun (x : Value) (w : World) => ∃ m, x = WK sc 0 n A nc cc m ∧ m < w.heap.size ∧ AsksAt w m) [(12, (fun (x : Value) (_ : World) => x = (.agg #[.int .i64 sc, .int .i64 0] : Value))), (13, (fun (x : Value) (_ : World) => x = (.int .i64 n : Value))), (14, (fun (x : Value) (_ : World) => x = (.slice A nc cc : Value))), (15, (fun (x : Value) (w : World) => ∃ m, x = .map (some m) ∧ m < w.heap.size ∧ AsksAt w m))] rfl rfl (fun oq hop _ wq hQS => ?_) ?_
        · refine StepFrom.more_eq ((.agg #[.int .i64 sc, .int .i64 0] : Value)) ?_
          refine StepFrom.more_eq ((.int .i64 n : Value)) ?_
          refine StepFrom.more_eq ((.slice A nc cc : Value)) ?_
          refine StepFrom.more fun x15 h15 => ?_
          obtain ⟨m15, rfl, hm15, ha15⟩ := h15
          exact StepFrom.build hop (vs := [(0, .agg #[.int .i64 sc, .int .i64 0]), (1, .int .i64 n), (2, .slice A nc cc), (3, .map (some m15))]) (by kernel_rfl) (build_wk _ _ _ _ _ _ _) (by kernel_rfl) hQS (Below.refl _ _) ⟨m15, rfl, hm15, ha15⟩
        refine StepsT.cons (fun (x : Value) (_ : World) => x = (.agg #[c0, c1, c2, c3, c4] : Value)) [] rfl rfl (fun oq hop _ wq hQS => ?_) ?_
        · exact StepFrom.load hop (p := (.pointer (some ⟨g3, 0, none⟩) : Value)) (by kernel_rfl) (load_box X3.out hQS) (by kernel_rfl) hQS (Below.refl _ _) rfl
        exact StepsT.nil
      case hfin =>
        intro wf hFS
        refine FinalFrom.more fun x11 h11 => ?_
        refine FinalFrom.more fun x12 h12 => ?_
        refine FinalFrom.more fun x13 h13 => ?_
        refine FinalFrom.more fun x14 h14 => ?_
        refine FinalFrom.more fun x15 h15 => ?_
        refine FinalFrom.more fun x16 h16 => ?_
        refine FinalFrom.more fun x17 h17 => ?_
        refine FinalFrom.done ?_
        intro _
        obtain rfl : x17 = (.agg #[c0, c1, c2, c3, c4] : Value) := h17
        obtain ⟨m, rfl, hm, ha⟩ := h16
        simp only [Act.put, List.setIfInBounds_toArray, List.set_cons_zero, List.set_cons_succ, List.drop_succ_cons, List.drop_zero]
        obtain ⟨rb, hrb⟩ : ∃ x, coreB n sc cs 0 t = x := ⟨_, rfl⟩
        have hbf : Below w.heap.size w wf := HB2.out.trans (hFS.mono HB2.out.size)
        have HCR : Hid (Calls Tryd.prog 22 #[WK sc 0 n A nc cc m, .agg #[c0, c1, c2, c3, c4]] wf (MustPost wf 6 rb)) := by
          have h := core_any wf wf.heap.size m n sc cs A nc cc (by have := hbf.size; omega) (Nat.le_refl _) (HK.out.below hbf hw0) ha hm HNC.out (ints_more (HCS.out.below hbf) hbf.size) t HF.out 0 _ wf (by omega) (Below.refl _ _) (HT.out.below hbf hbf.size)
          rw [← hrb]
          exact h
        have HRB := Lib.hid hrb
        have HBF := Lib.hid hbf
        clear hS hFS ha f0 f1 f2 hbf hrb
        unfold WK at HCR ⊢
        go_wp2_with (fail)
        refine HCR.out.mono ?_
        rintro e w5 h
        cases rb with
        | true =>
          obtain ⟨rfl, hb⟩ := h.1 rfl
          have HFF : Hid (MustPost w 6 r (.returned (.tuple #[])) w5) := by
            have hrt : r = true := HRR.out.2 ⟨hn0, hs0, (coreB_iff ..).1 HRB.out⟩
            rw [hrt]
            exact MustPost.yes rfl (HBF.out.trans (hb.mono HBF.out.size))
          clear h hb
          go_wp2
          go_end0
          exact HFF.out
        | false =>
          obtain ⟨rfl, hb⟩ := h.2 rfl
          have HFF : Hid (MustPost w 6 r (.panicked [{ v := .iface 73 (.int .i64 6), recovered := false }]) w5) := by
            have hrf : r = false := by
              cases r with
              | false => rfl
              | true =>
                have h1 := (HRR.out.1 rfl).2.2
                rw [← coreB_iff, HRB.out] at h1
                cases h1
            rw [hrf]
            exact MustPost.no ⟨rfl, HBF.out.trans (hb.mono HBF.out.size)⟩
          clear h hb
          go_wp2
          exact ⟨rfl, HFF.out⟩
    · have e0 : decide (0 ≤ sc) = false := by simpa using hs0
      have HNO := hno (fun h => hs0 h.2)
      clear hno
      go_enter Tryd.func19, Tryd.ntmps19
      go_wp2_with (fail)
      refine (must_any false _).mono ?_
      rintro e w2 h
      obtain ⟨rfl, hb2⟩ := h.2 rfl
      have HFF : Hid (MustPost w 6 r (.panicked [{ v := .iface 73 (.int .i64 6), recovered := false }]) w2) := by
        rw [HNO.out]
        exact MustPost.no ⟨rfl, hb2⟩
      clear h hb2
      go_wp2
      exact ⟨rfl, HFF.out⟩
  · have e0 : decide (0 ≤ n) = false := by simpa using hn0
    have HNO := hno (fun h => hn0 h.1)
    clear hno
    go_enter Tryd.func19, Tryd.ntmps19
    go_wp2_with (fail)
    refine (must_any false _).mono ?_
    rintro e w2 h
    obtain ⟨rfl, hb2⟩ := h.2 rfl
    have HFF : Hid (MustPost w 6 r (.panicked [{ v := .iface 73 (.int .i64 6), recovered := false }]) w2) := by
      rw [HNO.out]
      exact MustPost.no ⟨rfl, hb2⟩
    clear h hb2
    go_wp2
    exact ⟨rfl, HFF.out⟩
set_option maxRecDepth 100000 in
set_option maxHeartbeats 2000000 in
/-- Right says whether a term is right in the core. -/
theorem rightC_any (n sc : Int) (cs : List Int) (A : Option Addr) (nc cc : Nat) (t : Tm) (v : Value) (w : World) (hK : KindsAt w) (hnc : cs.length = nc) (hcs : Ints w w.heap.size A cs) (hf : t.fit) (hd : t.size ≤ 1073741824) (ht : TmAt w w.heap.size t v) :
    Calls Tryd.prog 7 #[.int .i64 n, .int .i64 sc, .slice A nc cc, v] w (HasPost w (rightCB n sc cs t)) := by
  obtain ⟨c0, c1, c2, c3, c4, rfl⟩ := ht.cells
  have hw0 : 0 < w.heap.size := cell_lt (hK 0 (by decide))
  obtain ⟨wa, hwa⟩ : ∃ x, (w.alloc (.cells #[.int .i64 n] 3)).alloc (.cells #[.int .i64 sc] 3) = x := ⟨_, rfl⟩
  obtain ⟨w1, hw1⟩ : ∃ x, (wa.alloc (.cells #[.slice A nc cc] 22)).alloc (.cells #[c0, c1, c2, c3, c4] 27) = x := ⟨_, rfl⟩
  have hsa : wa.heap.size = w.heap.size + 1 + 1 := by rw [← hwa]; simp
  have hba : Below w.heap.size w wa := by rw [← hwa]; exact two_below w _ _
  have hb1a : Below wa.heap.size wa w1 := by rw [← hw1]; exact two_below wa _ _
  have hb1 := hba.trans (hb1a.mono (by omega))
  obtain ⟨z1, z2, _⟩ := two_allocs w (.cells #[.int .i64 n] 3) (.cells #[.int .i64 sc] 3)
  obtain ⟨z3, z4, _⟩ := two_allocs wa (.cells #[.slice A nc cc] 22) (.cells #[c0, c1, c2, c3, c4] 27)
  rw [hwa] at z1 z2
  rw [hw1, hsa] at z3 z4
  have z1 := (hb1a.block _ (heap_some_lt z1)).trans z1
  have z2 := (hb1a.block _ (heap_some_lt z2)).trans z2
  have HH : Hid (Calls Tryd.prog 18 #[.func (.func 19) #[] #[.pointer (some ⟨w.heap.size, 0, none⟩), .pointer (some ⟨w.heap.size + 1, 0, none⟩), .pointer (some ⟨w.heap.size + 1 + 1, 0, none⟩), .pointer (some ⟨w.heap.size + 1 + 1 + 1, 0, none⟩)]] w1 (HasPost w1 (rightCB n sc cs t))) :=
    holds_any _ _ 6 (by decide) _ w1 enter_right1 fun w' hw' => by
      have hb' := hb1.trans (hw'.mono hb1.size)
      exact right1_any _ _ _ _ n sc cs A nc cc t _ _ _ _ _ w' (hK.below hb' hw0) hnc (ints_more (hcs.below hb') hb'.size) hf hd (ht.below hb' hb'.size) ((hw'.block _ (heap_some_lt z1)).trans z1) ((hw'.block _ (heap_some_lt z2)).trans z2) ((hw'.block _ (heap_some_lt z3)).trans z3) ((hw'.block _ (heap_some_lt z4)).trans z4)
  have hmf : ∀ (W : World), (Instr.makeFunc (.func 19) #[] #[.pointer (some ⟨w.heap.size, 0, none⟩), .pointer (some ⟨w.heap.size + 1, 0, none⟩), .pointer (some ⟨w.heap.size + 1 + 1, 0, none⟩), .pointer (some ⟨w.heap.size + 1 + 1 + 1, 0, none⟩)]).run Tryd.prog W = .ok (.func (.func 19) #[] #[.pointer (some ⟨w.heap.size, 0, none⟩), .pointer (some ⟨w.heap.size + 1, 0, none⟩), .pointer (some ⟨w.heap.size + 1 + 1, 0, none⟩), .pointer (some ⟨w.heap.size + 1 + 1 + 1, 0, none⟩)]) W := fun _ => rfl
  have HB1 := Lib.hid hb1
  obtain ⟨r, hr⟩ : ∃ r, rightCB n sc cs t = r := ⟨_, rfl⟩
  rw [hr] at HH ⊢
  clear hb1 hb1a hba z1 z2 z3 z4 hK hnc hcs hf hd ht hr hw0
  go_enter Tryd.func7, Tryd.ntmps7
  go_wp2_with (fail)
  refine HH.out.mono ?_
  rintro e w2 ⟨rfl, hb⟩
  have HFF := Lib.hid (HB1.out.trans (hb.mono HB1.out.size))
  clear hb HH
  go_wp2
  go_ret
  exact ⟨rfl, HFF.out⟩
end Go.Proofs.YtkijhinhjnbnlaaDoor
namespace Go.Proofs.YtkijhinhjnbnlaaDoor
open Go.RowKit Go.Maps
def DeepTm (t : Tm) : Prop := ∀ (most : Int) (v : Value) (w : World), t.size ≤ 1073741824 → Rng most → TmAt w w.heap.size t v →
  Calls Tryd.prog 16 #[v, .int .i64 most] w (fun e w' => ∃ r : Nat, e = .returned (.int .i64 (r : Int)) ∧ r ≤ t.size ∧ Below w.heap.size w w')
set_option maxRecDepth 100000 in
set_option maxHeartbeats 2000000 in
theorem deep_of (k1 n1 a1 : Int) (kids : List Tm) (ih : ∀ t ∈ kids, DeepTm t) (A1 A2 : Option Addr) (p1 c1 p2 c2 : Nat) (most : Int) (w : World) (hp2 : kids.length = p2) (hc : 1 + Tm.sizeL kids ≤ 1073741824) (hm : Rng most) (h2 : Tms w w.heap.size A2 c2 kids) :
    Calls Tryd.prog 16 #[.agg #[.int .i64 k1, .int .i64 n1, .int .i64 a1, .slice A1 p1 c1, .slice A2 p2 c2], .int .i64 most] w (fun e w' => ∃ r : Nat, e = .returned (.int .i64 (r : Int)) ∧ r ≤ 1 + Tm.sizeL kids ∧ Below w.heap.size w w') := by
  have hl := Tm.sizeL_length kids
  have hp9 : p2 ≤ 1073741824 := by omega
  have X0 := Lib.hid (heap_alloc_new w (.cells #[.int .i64 k1, .int .i64 n1, .int .i64 a1, .slice A1 p1 c1, .slice A2 p2 c2] 27))
  have HL := Lib.hid h2
  have HN := Lib.hid hp2
  have HS := Lib.hid hc
  have HM := Lib.hid hm
  have IH := Lib.hid ih
  obtain ⟨w0, hw0⟩ : ∃ x, w.alloc (.cells #[.int .i64 k1, .int .i64 n1, .int .i64 a1, .slice A1 p1 c1, .slice A2 p2 c2] 27) = x := ⟨_, rfl⟩
  have HB0 : Hid (Below w.heap.size w w0) := by rw [← hw0]; exact (Below.refl _ _).alloc (Nat.le_refl _) _
  have hz0 : w.heap.size + 1 ≤ w0.heap.size := by rw [← hw0]; simp
  rw [hw0] at X0
  have HZ0 := Lib.hid hz0
  clear h2 hp2 hc ih hl hm hz0
  go_enter Tryd.func16, Tryd.ntmps16
  go_wp2
  go_loopw [5, 6] (fun u i wr => ∃ (k m : Nat), k ≤ p2 ∧ i = .int .i64 (k : Int) ∧ u = .int .i64 (m : Int) ∧ m ≤ Tm.sizeL kids ∧ Below w0.heap.size w0 wr) (fun _ i _ => p2 - (intOf i).toNat)
  case atStart => exact ⟨0, 0, Nat.zero_le _, rfl, rfl, Nat.zero_le _, Below.refl _ _⟩
  case round =>
    obtain ⟨k, m, hk, rfl, rfl, hms, hb⟩ := hrel
    have hbz := hb.size
    have hz0 := HZ0.out
    have f4 := cell_of_row _ _ 4 _ _ (0, 0) ((hb.block w.heap.size (by omega)).trans X0.out)
    have hs9 := HS.out
    have HBR : Hid (Below w.heap.size w wr) := HB0.out.trans (hb.mono (by omega))
    have HFIN : Hid (∃ r : Nat, ((m : Int) + 1) = (r : Int) ∧ r ≤ 1 + Tm.sizeL kids) := ⟨m + 1, by omega, by omega⟩
    have hw1 : IntKind.i64.wrap ((m : Int) + 1) = (m : Int) + 1 := IntWalk.i64_in _ (by omega)
    by_cases hlt : k < p2
    · by_cases hmo : 0 < most
      · obtain ⟨t, ht⟩ : ∃ t, kids[k]? = some t := ⟨_, List.getElem?_eq_getElem (by rw [HN.out]; exact hlt)⟩
        obtain ⟨b, o, k2, n2, a2, A3, p3, c3, A4, p4, c4, e, hbB, hv, f0', f1', f2', f3', f4'⟩ := HL.out.at HBR.out ht
        subst e
        have hsz := Tm.sizeL_mem (List.mem_of_getElem? ht)
        have hwm : IntKind.i64.wrap (most - 1) = most - 1 := IntWalk.i64_in _ (by have := HM.out; unfold Rng at this; omega)
        have HC : Hid (∀ w', Below wr.heap.size wr w' → Calls Tryd.prog 16 #[.agg #[.int .i64 k2, .int .i64 n2, .int .i64 a2, .slice A3 p3 c3, .slice A4 p4 c4], .int .i64 (most - 1)] w' (fun e w9 => ∃ r : Nat, e = .returned (.int .i64 (r : Int)) ∧ r ≤ Tm.sizeL kids ∧ Below w'.heap.size w' w9)) := fun w' hx => by
          have hx2 := HBR.out.trans (hx.mono HBR.out.size)
          refine (IH.out t (List.mem_of_getElem? ht) (most - 1) _ w' (by omega) (by have := HM.out; unfold Rng at this ⊢; omega) (hv.below hx2 hx2.size)).mono ?_
          rintro e w9 ⟨r, q1, q2, q3⟩
          exact ⟨r, q1, by omega, q3⟩
        have HB := Lib.hid hb
        have ij0 : (0 : Int) ≤ (k : Int) := by omega
        have ij1 : (k : Int) < (p2 : Int) := by omega
        clear hb hv ht hsz hs9
        go_wp2_with (fail)
        refine (HC.out _ (by first | exact Below.refl _ _ | exact (Below.refl _ _).alloc (Nat.le_refl _) _)).mono ?_
        rintro e w1 ⟨r, rfl, hr, hb1⟩
        have hmx : max (m : Int) (r : Int) = ((max m r : Nat) : Int) := by omega
        have HB1 : Hid (Below w0.heap.size w0 w1) := HB.out.trans (Below.trans (by first | exact Below.refl _ _ | exact (Below.refl _ _).alloc (Nat.le_refl _) _) (hb1.mono (by first | exact Nat.le_refl _ | simp)) |>.mono hbz)
        have hmr : max m r ≤ Tm.sizeL kids := Nat.max_le.2 ⟨hms, hr⟩
        obtain ⟨mr, hmr2⟩ : ∃ x, max m r = x := ⟨_, rfl⟩
        rw [hmr2] at hmx hmr
        clear hb1 hr hmr2 HC
        go_wp2
        go_roundw
        case rel => exact ⟨k + 1, mr, by omega, by go_num, by first | rfl | simp [hmx], hmr, HB1.out⟩
        case measure => simp [intOf]; omega
      · have hmo2 : decide ((0 : Int) < most) = false := by simpa using hmo
        obtain ⟨r, hr1, hr2⟩ := HFIN.out
        clear hb
        go_wp2
        go_ret
        exact ⟨r, rfl, hr2, HBR.out⟩
    · obtain ⟨r, hr1, hr2⟩ := HFIN.out
      clear hb
      go_wp2
      go_ret
      exact ⟨r, rfl, hr2, HBR.out⟩
theorem deep_any : ∀ t : Tm, DeepTm t := by
  intro t
  induction t using Tm.ind with
  | h k n a lv kids ih =>
    intro most v w hc hm h
    obtain ⟨A1, c1, A2, c2, rfl, _, h1, h2⟩ := h.open
    rw [Tm.size_mk] at hc ⊢
    exact deep_of k n a kids ih A1 A2 _ c1 _ c2 most w rfl hc hm h2
set_option maxRecDepth 100000 in
set_option maxHeartbeats 2000000 in
/-- great: whether terms are more than is gone through -/
theorem great5_any (ts : List Tm) (A : Option Addr) (c n : Nat) (w : World) (hn : ts.length = n) (hs : Tm.countL ts ≤ 1048576) (h : Tms w w.heap.size A c ts) :
    Calls Tryd.prog 6 #[.slice A n c] w (fun e w' => ∃ b : Bool, e = .returned (.bool b) ∧ (b = false → Tm.countL ts ≤ 3000) ∧ Below w.heap.size w w') := by
  have hn9 : n ≤ 1048576 := by have := Tm.countL_length ts; omega
  have HN := Lib.hid hn
  have HL := Lib.hid h
  have HS := Lib.hid hs
  clear hn h hs
  go_enter Tryd.func6, Tryd.ntmps6
  go_wp2
  go_loopw [3] (fun i wr => ∃ k : Nat, k ≤ n ∧ i = .int .i64 (k : Int) ∧ Below w.heap.size w wr) (fun i _ => n - (intOf i).toNat)
  case atStart => exact ⟨0, Nat.zero_le _, rfl, Below.refl _ _⟩
  case round =>
    obtain ⟨k, hk, rfl, hb⟩ := hrel
    have hbz := hb.size
    by_cases hlt : k < n
    · obtain ⟨t, ht⟩ : ∃ t, ts[k]? = some t := ⟨_, List.getElem?_eq_getElem (by rw [HN.out]; exact hlt)⟩
      obtain ⟨b, o, k2, n2, a2, A3, p3, c3, A4, p4, c4, e, hbB, hv, f0', f1', f2', f3', f4'⟩ := HL.out.at hb ht
      subst e
      have hsz : t.size ≤ 1073741824 := by
        have h1 := Tm.size_le_count t
        have h2 := Tm.countL_mem (List.mem_of_getElem? ht)
        have := HS.out
        omega
      have HC : Hid (Calls Tryd.prog 16 #[.agg #[.int .i64 k2, .int .i64 n2, .int .i64 a2, .slice A3 p3 c3, .slice A4 p4 c4], .int .i64 400] wr (fun e w9 => ∃ r : Nat, e = .returned (.int .i64 (r : Int)) ∧ r ≤ t.size ∧ Below wr.heap.size wr w9)) :=
        deep_any t 400 _ wr hsz (by unfold Rng; omega) (hv.below hb hb.size)
      have HB := Lib.hid hb
      have ij0 : (0 : Int) ≤ (k : Int) := by omega
      have ij1 : (k : Int) < (n : Int) := by omega
      clear hb hv ht hsz
      go_wp2_with (fail)
      refine HC.out.mono ?_
      rintro e w1 ⟨r, rfl, hr, hb1⟩
      have HB1 : Hid (Below w.heap.size w w1) := HB.out.trans (hb1.mono hbz)
      clear hb1 hr HC
      by_cases h4 : (400 : Int) < (r : Int)
      · go_wp2
        go_ret
        exact ⟨true, rfl, fun h => (by cases h), HB1.out⟩
      · have d4 : decide ((400 : Int) < (r : Int)) = false := by simpa using h4
        go_wp2
        go_roundw
        case rel => exact ⟨k + 1, by omega, by go_num, HB1.out⟩
        case measure => simp [intOf]; omega
    · have HT := Lib.hid (termsOf_any ts A c 3000 n wr HN.out HS.out (by decide) (HL.out.below hb hb.size))
      have HB := Lib.hid hb
      clear hb
      go_wp2_with (fail)
      refine HT.out.mono ?_
      rintro e w1 ⟨r, rfl, q1, q2, hb1⟩
      have HB1 : Hid (Below w.heap.size w w1) := HB.out.trans (hb1.mono hbz)
      have HQ : Hid (decide ((3000 : Int) < (r : Int)) = false → Tm.countL ts ≤ 3000) := fun h => by
        have h := of_decide_eq_false h
        have := q2 (by omega)
        omega
      clear hb1 q1 q2 HT
      go_wp2
      go_ret
      exact ⟨_, rfl, HQ.out, HB1.out⟩
/-- a term of no levels and no kids -/
def bareV (k n : Int) : Value := .agg #[.int .i64 k, .int .i64 n, .int .i64 0, .slice none 0 0, .slice none 0 0]
theorem bareV_at (w : World) (B : Nat) (k n : Int) : TmAt w B (.mk k n 0 [] []) (bareV k n) := TmAt.make (lv := []) (kids := []) (fun _ => rfl) (levs_nil _ _ _) (tms_nil _ _)
set_option maxRecDepth 100000 in
theorem v5_any (n : Int) (w : World) : Calls Tryd.prog 14 #[.int .i64 n] w (fun e w' => e = .returned (bareV 1 n) ∧ Below w.heap.size w w') := by
  have HF : Hid (Below w.heap.size w (w.alloc (.cells #[.int .i64 1, .int .i64 n, .int .i64 0, .slice none 0 0, .slice none 0 0] 27))) := (Below.refl _ _).alloc (Nat.le_refl _) _
  unfold bareV
  go_enter Tryd.func14, Tryd.ntmps14
  go_wp2
  exact bodyPost_ret (v := .agg #[.int .i64 1, .int .i64 n, .int .i64 0, .slice none 0 0, .slice none 0 0]) (by simp [results, Tryd.results14, go_sem]) rfl ⟨rfl, HF.out⟩
set_option maxRecDepth 100000 in
theorem of5_any (k : Int) (A : Option Addr) (n c : Nat) (w : World) : Calls Tryd.prog 15 #[.int .i64 k, .slice A n c] w (fun e w' => e = .returned (.agg #[.int .i64 k, .int .i64 0, .int .i64 0, .slice none 0 0, .slice A n c]) ∧ Below w.heap.size w w') := by
  have HF : Hid (Below w.heap.size w (w.alloc (.cells #[.int .i64 k, .int .i64 0, .int .i64 0, .slice none 0 0, .slice A n c] 27))) := (Below.refl _ _).alloc (Nat.le_refl _) _
  go_enter Tryd.func15, Tryd.ntmps15
  go_wp2
  exact bodyPost_ret (v := .agg #[.int .i64 k, .int .i64 0, .int .i64 0, .slice none 0 0, .slice A n c]) (by simp [results, Tryd.results15, go_sem]) rfl ⟨rfl, HF.out⟩
def idT : Tm := .mk 5 0 0 [] [.mk 22 2 0 [] [], .mk 1 0 0 [] []]
theorem idT_right : rightCB 0 0 [] idT = true := by
  rw [rightCB_iff]
  refine ⟨by decide, by decide, ?_⟩
  unfold idT
  rw [Tm.core_mk, Tm.coreL, Tm.coreL, Tm.coreL, Tm.core_mk, Tm.core_mk, Tm.coreL, Tm.coreL]
  have hu : under 5 (0 + 1) = 1 := by decide
  have hp : plainK 5 = 2 := by decide
  unfold AskC
  rw [hu, hp]
  refine ⟨?_, ⟨?_, trivial⟩, ⟨?_, trivial⟩, trivial⟩ <;> simp
theorem v_right (sc : Int) : rightCB 0 sc [] (.mk 1 0 0 [] []) = decide (0 < sc) := by
  have h : rightCB 0 sc [] (.mk 1 0 0 [] []) = true ↔ 0 < sc := by
    rw [rightCB_iff]
    unfold RightC
    have hp : plainK 1 = -1 := by decide
    rw [Tm.core_mk, Tm.coreL]
    unfold AskC
    rw [hp]
    simp
    omega
  by_cases h0 : 0 < sc
  · rw [h.2 h0, decide_eq_true h0]
  · rw [decide_eq_false h0]
    cases e : rightCB 0 sc [] (.mk 1 0 0 [] []) with
    | false => rfl
    | true => exact absurd (h.1 e) h0
theorem ints_nil (w : World) (B : Nat) : Ints w B none [] := fun h => by simp at h
theorem fit_bare (k n : Int) (h : Rng n) : (Tm.mk k n 0 [] []).fit := (Tm.fit_mk ..).2 ⟨h, ⟨by simp, by simp⟩, by simp, by rw [Tm.fitL]; trivial⟩
set_option maxRecDepth 100000 in
set_option maxHeartbeats 4000000 in
/-- awake: the chapter's examples are as they are said. -/
theorem awake5_any (w : World) (hK : KindsAt w) : Calls Tryd.prog 5 #[] w (HasPost w true) := by
  have h0 : 0 < w.heap.size := cell_lt (hK 0 (by decide))
  have HK := Lib.hid hK
  clear hK
  have HV := Lib.hid v5_any
  unfold bareV at HV
  go_enter Tryd.func5, Tryd.ntmps5
  go_wp2_with (fail)
  refine (HV.out 0 w).mono ?_
  rintro e w1 ⟨rfl, hb1⟩
  obtain ⟨w2, hw2⟩ : ∃ x, w1.alloc (.cells #[.int .i64 22, .int .i64 2, .int .i64 0, .slice none 0 0, .slice none 0 0, .int .i64 1, .int .i64 0, .int .i64 0, .slice none 0 0, .slice none 0 0] 27) = x := ⟨_, rfl⟩
  have hb2 : Below w1.heap.size w1 w2 := by rw [← hw2]; exact (Below.refl _ _).alloc (Nat.le_refl _) _
  have HFU : Hid (TmsFull [.mk 22 2 0 [] [], .mk 1 0 0 [] []] (.slice (some ⟨w1.heap.size, 0, none⟩) 2 2) w2) := by
    rw [← hw2]
    exact full_two (bareV_at _ _ 22 2) (bareV_at _ _ 1 0)
  have HB2 : Hid (Below w.heap.size w w2) := hb1.trans (hb2.mono hb1.size)
  clear hb1 hb2
  go_wp2_with (fail)
  refine (of5_any 5 _ 2 2 w2).mono ?_
  rintro e w3 ⟨rfl, hb3⟩
  have HB3 : Hid (Below w.heap.size w w3) := HB2.out.trans (hb3.mono HB2.out.size)
  obtain ⟨w4, hw4⟩ : ∃ x, w3.alloc (.cells #[.int .i64 5, .int .i64 0, .int .i64 0, .slice none 0 0, .slice (some ⟨w1.heap.size, 0, none⟩) 2 2] 27) = x := ⟨_, rfl⟩
  have hb4 : Below w3.heap.size w3 w4 := by rw [← hw4]; exact (Below.refl _ _).alloc (Nat.le_refl _) _
  have x4 : w4.heap[w3.heap.size]? = some (.cells #[.int .i64 5, .int .i64 0, .int .i64 0, .slice none 0 0, .slice (some ⟨w1.heap.size, 0, none⟩) 2 2] 27 (0, 0)) := by rw [← hw4]; exact heap_alloc_new w3 _
  have HB4 : Hid (Below w.heap.size w w4) := HB3.out.trans (hb4.mono HB3.out.size)
  have HID : Hid (TmAt w4 w4.heap.size idT (.agg #[.int .i64 5, .int .i64 0, .int .i64 0, .slice none 0 0, .slice (some ⟨w1.heap.size, 0, none⟩) 2 2])) := by
    obtain ⟨A, c, e, h⟩ := ((HFU.out.mono hb3).mono hb4).row
    injection e with e1 e2 e3
    subst e1 e3
    exact TmAt.make (lv := []) (kids := [.mk 22 2 0 [] [], .mk 1 0 0 [] []]) (fun _ => rfl) (levs_nil _ _ _) h
  have y0 := cell_of_row _ _ 0 _ _ (0, 0) x4
  have y1 := cell_of_row _ _ 1 _ _ (0, 0) x4
  have y2 := cell_of_row _ _ 2 _ _ (0, 0) x4
  have y3 := cell_of_row _ _ 3 _ _ (0, 0) x4
  have y4 := cell_of_row _ _ 4 _ _ (0, 0) x4
  have hfid : idT.fit := by
    unfold idT
    rw [Tm.fit_mk, Tm.fitL, Tm.fitL, Tm.fitL]
    exact ⟨by unfold Rng; omega, ⟨by simp, by simp⟩, by simp, fit_bare _ _ (by unfold Rng; omega), fit_bare _ _ (by unfold Rng; omega), trivial⟩
  have HR4 : Hid (Calls Tryd.prog 7 #[.int .i64 0, .int .i64 0, .slice none 0 0, .agg #[.int .i64 5, .int .i64 0, .int .i64 0, .slice none 0 0, .slice (some ⟨w1.heap.size, 0, none⟩) 2 2]] w4 (HasPost w4 true)) := by
    rw [← idT_right]
    exact rightC_any 0 0 [] none 0 0 idT _ w4 (HK.out.below HB4.out h0) rfl (ints_nil _ _) hfid (by decide) HID.out
  clear hb3 hb4 x4 hfid
  go_wp2_with (fail)
  refine HR4.out.mono ?_
  rintro e w5 ⟨rfl, hb5⟩
  have HB5 : Hid (Below w.heap.size w w5) := HB4.out.trans (hb5.mono HB4.out.size)
  clear hb5 HR4 y0 y1 y2 y3 y4
  go_wp2_with (fail)
  refine (HV.out 0 w5).mono ?_
  rintro e w6 ⟨rfl, hb6⟩
  have HB6 : Hid (Below w.heap.size w w6) := HB5.out.trans (hb6.mono HB5.out.size)
  have HR6 : Hid (Calls Tryd.prog 7 #[.int .i64 0, .int .i64 0, .slice none 0 0, .agg #[.int .i64 1, .int .i64 0, .int .i64 0, .slice none 0 0, .slice none 0 0]] w6 (HasPost w6 false)) := by
    have h := rightC_any 0 0 [] none 0 0 (.mk 1 0 0 [] []) _ w6 (HK.out.below HB6.out h0) rfl (ints_nil _ _) (fit_bare _ _ (by unfold Rng; omega)) (by decide) (bareV_at _ _ 1 0)
    rw [v_right 0] at h
    exact h
  clear hb6
  go_wp2_with (fail)
  refine HR6.out.mono ?_
  rintro e w7 ⟨rfl, hb7⟩
  have HB7 : Hid (Below w.heap.size w w7) := HB6.out.trans (hb7.mono HB6.out.size)
  clear hb7 HR6
  go_wp2_with (fail)
  refine (HV.out 0 w7).mono ?_
  rintro e w8 ⟨rfl, hb8⟩
  have HB8 : Hid (Below w.heap.size w w8) := HB7.out.trans (hb8.mono HB7.out.size)
  have HR8 : Hid (Calls Tryd.prog 7 #[.int .i64 0, .int .i64 1, .slice none 0 0, .agg #[.int .i64 1, .int .i64 0, .int .i64 0, .slice none 0 0, .slice none 0 0]] w8 (HasPost w8 true)) := by
    have h := rightC_any 0 1 [] none 0 0 (.mk 1 0 0 [] []) _ w8 (HK.out.below HB8.out h0) rfl (ints_nil _ _) (fit_bare _ _ (by unfold Rng; omega)) (by decide) (bareV_at _ _ 1 0)
    rw [v_right 1] at h
    exact h
  clear hb8
  go_wp2_with (fail)
  refine HR8.out.mono ?_
  rintro e w9 ⟨rfl, hb9⟩
  have HB9 : Hid (Below w.heap.size w w9) := HB8.out.trans (hb9.mono HB8.out.size)
  clear hb9 HR8
  go_wp2
  go_ret
  exact ⟨rfl, HB9.out⟩
end Go.Proofs.YtkijhinhjnbnlaaDoor
