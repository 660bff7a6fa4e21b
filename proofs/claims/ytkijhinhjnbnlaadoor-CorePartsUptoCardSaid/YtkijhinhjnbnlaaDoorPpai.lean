/- Laws. -/
import Derived.Test.YtkijhinhjnbnlaaDoorPpaf
import Derived.Test.YtkijhinhjnbnlaaDoorPpag
import Derived.Test.YtkijhinhjnbnlaaDoorPpah
namespace Go.Proofs.YtkijhinhjnbnlaaDoor
open Go.RowKit Go.Maps
set_option maxRecDepth 100000 in
theorem load_ints {b o n c : Nat} {w : World} {A : Option Addr} (h : w.cell? ⟨b, o, none⟩ = some (.slice A n c)) : (Instr.loadAt 22 (.pointer (some ⟨b, o, none⟩))).run Tryd.prog w = .ok (.slice A n c) w := by go_simp
set_option maxRecDepth 100000 in
theorem wk_consts {b : Nat} {w : World} : (Instr.fieldAt 55 (.pointer (some ⟨b, 0, none⟩)) 2).run Tryd.prog w = .ok (.pointer (some ⟨b, 3, none⟩)) w := by go_simp
set_option maxRecDepth 100000 in
theorem int_addr_o {b o n c k : Nat} {w : World} (h0 : (0 : Int) ≤ (k : Int)) (h1 : (k : Int) < (n : Int)) : (Instr.indexAt 22 (.slice (some ⟨b, o, none⟩) n c) (.int .i64 (k : Int))).run Tryd.prog w = .ok (.pointer (some ⟨b, o + k, none⟩)) w := by go_simp
set_option maxRecDepth 100000 in
theorem tm_field {b : Nat} {w : World} (i : Nat) (hi : i < 5) : (Instr.fieldAt 27 (.pointer (some ⟨b, 0, none⟩)) i).run Tryd.prog w = .ok (.pointer (some ⟨b, i, none⟩)) w := by
  have h := term_field (b := b) (o := 0) (w := w) i hi
  rwa [Nat.zero_add] at h
set_option maxRecDepth 100000 in
theorem eql_to {x y : Int} {b : Bool} (p q : Operand) (w : World) (h : (x == y) = b) : ((do eqGuard .eql 3 p q (.int .i64 x) (.int .i64 y); binOp .eql 3 (.int .i64 x) (.int .i64 y) : Sem Value)).run Tryd.prog w = .ok (.bool b) w := by
  rw [← h]
  go_simp
set_option maxRecDepth 100000 in
theorem geq_to {x y : Int} {b : Bool} (p q : Operand) (w : World) (h : decide (y ≤ x) = b) : ((do eqGuard .geq 3 p q (.int .i64 x) (.int .i64 y); binOp .geq 3 (.int .i64 x) (.int .i64 y) : Sem Value)).run Tryd.prog w = .ok (.bool b) w := by
  rw [← h]
  go_simp
set_option maxRecDepth 100000 in
theorem lss_to {x y : Int} {b : Bool} (p q : Operand) (w : World) (h : decide (x < y) = b) : ((do eqGuard .lss 3 p q (.int .i64 x) (.int .i64 y); binOp .lss 3 (.int .i64 x) (.int .i64 y) : Sem Value)).run Tryd.prog w = .ok (.bool b) w := by
  rw [← h]
  go_simp
section
variable {S : World → Prop} {R : World → World → Prop} {o : Oper} {V : Value → World → Prop} {g : Option (Option Tmp × Bool)} {a : Act} {w : World}
theorem StepFrom.lenI {x : Operand} (hop : o.op = .call { callee := .builtin .len, args := #[x], argTypes := #[22] }) {A : Option Addr} {n c : Nat} (hx : a.eval x = .slice A n c)
    (hg : gOn g a = true) (hS : S w) (hR : R w w) (hV : V (.int .i64 (n : Int)) w) : StepFrom Tryd.prog S R o V g [] a w :=
  StepFrom.ran (v := .int .i64 (n : Int)) (by
    have hm : (#[x] : Array Operand).map a.eval = #[.slice A n c] := by rw [List.map_toArray, List.map_cons, List.map_nil, hx]
    unfold execOp
    simp only [hop, resolve, hm]
    simp [go_sem]) hg hS hR hV
end
set_option maxRecDepth 100000 in
set_option maxHeartbeats 4000000 in
theorem constant_any (outer n : Int) (d : Nat) (A : Option Addr) (nc cc m : Nat) (k num pos : Int) (A1 : Option Addr) (p1 c1 : Nat) (A2 : Option Addr) (p2 c2 : Nat) (w : World) (cs : List Int) (lv : List (List (Int × Int))) (hnc : cs.length = nc) (hcs : Ints w w.heap.size A cs) (hnl : lv.length = p1) (hp1 : p1 ≤ 1048576) (hl : Levs w w.heap.size A1 lv) (h6 : ∀ l ∈ lv, l.length ≤ 1000000) : Calls Tryd.prog 38 #[WK outer (d : Int) n A nc cc m, .agg #[.int .i64 k, .int .i64 num, .int .i64 pos, .slice A1 p1 c1, .slice A2 p2 c2]] w (MustPost w 6 (decide (pos = 0) && decide (p2 = 0) && decide (0 ≤ num) && decide (num < cs.length) && decide ((p1 : Int) = cs.getD num.toNat 0) && lv.all (fun l => rlB l n))) := by
  obtain ⟨r, hr⟩ : ∃ r, (decide (pos = 0) && decide (p2 = 0) && decide (0 ≤ num) && decide (num < cs.length) && decide ((p1 : Int) = cs.getD num.toNat 0) && lv.all (fun l => rlB l n)) = r := ⟨_, rfl⟩
  rw [hr]
  obtain ⟨w1, hw1⟩ : ∃ x, (w.alloc (.cells #[.int .i64 outer, .int .i64 (d : Int), .int .i64 n, .slice A nc cc, .map (some m)] 55)).alloc (.cells #[.int .i64 k, .int .i64 num, .int .i64 pos, .slice A1 p1 c1, .slice A2 p2 c2] 27) = x := ⟨_, rfl⟩
  have hb1 : Below w.heap.size w w1 := by rw [← hw1]; exact two_below w _ _
  have hs1 : w.heap.size + 2 ≤ w1.heap.size := by rw [← hw1]; simp
  obtain ⟨z1, z2, _⟩ := two_allocs w (.cells #[.int .i64 outer, .int .i64 (d : Int), .int .i64 n, .slice A nc cc, .map (some m)] 55) (.cells #[.int .i64 k, .int .i64 num, .int .i64 pos, .slice A1 p1 c1, .slice A2 p2 c2] 27)
  rw [hw1] at z1 z2
  have X0 := Lib.hid z1
  have X1 := Lib.hid z2
  have HB := Lib.hid hb1
  have HS := Lib.hid hs1
  have HN := Lib.hid hnl
  have HNC := Lib.hid hnc
  have HL := Lib.hid hl
  have HCS := Lib.hid hcs
  have H6 := Lib.hid h6
  have HDR : Hid (Below w1.heap.size w1 w1.drew) := (Below.refl _ _).drew
  have y0 := cell_of_row _ _ 0 _ _ (0, 0) z1
  have y2 := cell_of_row _ _ 2 _ _ (0, 0) z1
  have y3 := cell_of_row _ _ 3 _ _ (0, 0) z1
  have x1 := cell_of_row _ _ 1 _ _ (0, 0) z2
  have x2 := cell_of_row _ _ 2 _ _ (0, 0) z2
  have x3 := cell_of_row _ _ 3 _ _ (0, 0) z2
  have x4 := cell_of_row _ _ 4 _ _ (0, 0) z2
  clear hb1 hs1 z1 z2 hnl hnc hl hcs h6 y0
  unfold WK
  by_cases h0 : pos = 0
  · subst h0
    by_cases h1 : p2 = 0
    · subst h1
      by_cases h2 : 0 ≤ num
      · obtain ⟨j, rfl⟩ := Int.eq_ofNat_of_zero_le h2
        by_cases h3 : (j : Int) < (nc : Int)
        · obtain ⟨b, o, rfl, hbB, hc⟩ := HCS.out (by have := HNC.out; omega)
          have hcj := (HB.out.cell (p := ⟨b, o + j, none⟩) hbB).trans (hc j (by have := HNC.out; omega))
          obtain ⟨cj, hcj2⟩ : ∃ x, cs.getD j 0 = x := ⟨_, rfl⟩
          rw [hcj2] at hcj
          clear hc
          by_cases h4 : (p1 : Int) = cj
          · have hr3 : lv.all (fun l => rlB l n) = r := by have hnc2 := HNC.out; rw [← hr]; simp_all
            have ee : ((p1 : Int) == cj) = true := by simpa using h4
            clear hr
            have HR := Lib.hid hr3
            clear hr3
            go_enter Tryd.func38, Tryd.ntmps38
            have g0 : w.heap.size < w1.heap.size := by have := HS.out; omega
            have g1 : w.heap.size + 1 < w1.heap.size := by have := HS.out; omega
            have gb : b < w1.heap.size := by have := HB.out.size; omega
            have gj0 : (0 : Int) ≤ (j : Int) := by omega
            have gj1 : (j : Int) < (nc : Int) := h3
            have hS := HDR.out
            go_upto_region 1 with (fail)
            refine wp_region_tail 34 (fun w' => Below w1.heap.size w1 w') (fun w1 w2 : World => Below w1.heap.size w1 w2) [(fun (x : Value) (_ : World) => x = (.pointer (some ⟨w.heap.size + 1, 2, none⟩) : Value)), (fun (x : Value) (_ : World) => x = (.int .i64 0 : Value)), (fun (x : Value) (_ : World) => x = (.bool true : Value)), (fun (x : Value) (_ : World) => x = (.bool true : Value)), (fun (x : Value) (_ : World) => x = (.pointer (some ⟨w.heap.size + 1, 4, none⟩) : Value)), (fun (x : Value) (_ : World) => x = (.slice A2 0 c2 : Value)), (fun (x : Value) (_ : World) => x = (.int .i64 (0 : Int) : Value)), (fun (x : Value) (_ : World) => x = (.bool true : Value)), (fun (x : Value) (_ : World) => x = (.bool true : Value)), (fun (x : Value) (_ : World) => x = (.bool true : Value)), (fun (x : Value) (_ : World) => x = (.pointer (some ⟨w.heap.size + 1, 1, none⟩) : Value)), (fun (x : Value) (_ : World) => x = (.int .i64 (j : Int) : Value)), (fun (x : Value) (_ : World) => x = (.bool true : Value)), (fun (x : Value) (_ : World) => x = (.bool true : Value)), (fun (x : Value) (_ : World) => x = (.bool true : Value)), (fun (x : Value) (_ : World) => x = (.pointer (some ⟨w.heap.size + 1, 1, none⟩) : Value)), (fun (x : Value) (_ : World) => x = (.int .i64 (j : Int) : Value)), (fun (x : Value) (_ : World) => x = (.pointer (some ⟨w.heap.size, 3, none⟩) : Value)), (fun (x : Value) (_ : World) => x = (.slice (some ⟨b, o, none⟩) nc cc : Value)), (fun (x : Value) (_ : World) => x = (.int .i64 (nc : Int) : Value)), (fun (x : Value) (_ : World) => x = (.bool true : Value)), (fun (x : Value) (_ : World) => x = (.bool true : Value)), (fun (x : Value) (_ : World) => x = (.bool true : Value)), (fun (x : Value) (_ : World) => x = (.pointer (some ⟨w.heap.size + 1, 3, none⟩) : Value)), (fun (x : Value) (_ : World) => x = (.slice A1 p1 c1 : Value)), (fun (x : Value) (_ : World) => x = (.int .i64 (p1 : Int) : Value)), (fun (x : Value) (_ : World) => x = (.pointer (some ⟨w.heap.size, 3, none⟩) : Value)), (fun (x : Value) (_ : World) => x = (.slice (some ⟨b, o, none⟩) nc cc : Value)), (fun (x : Value) (_ : World) => x = (.pointer (some ⟨w.heap.size + 1, 1, none⟩) : Value)), (fun (x : Value) (_ : World) => x = (.int .i64 (j : Int) : Value)), (fun (x : Value) (_ : World) => x = (.pointer (some ⟨b, o + j, none⟩) : Value)), (fun (x : Value) (_ : World) => x = (.int .i64 cj : Value)), (fun (x : Value) (_ : World) => x = (.bool true : Value)), (fun (x : Value) (_ : World) => x = (.bool true : Value))] [⟨some 6, .fieldAddr 27 (.tmp 3) 2, none, []⟩, ⟨some 7, .load 3 (.tmp 6), none, [(6, 0)]⟩, ⟨some 8, .binOp .eql 3 (.tmp 7) (.const (.int .i64 0)) 3, none, [(7, 1)]⟩, ⟨some 9, .move (.tmp 8), none, [(8, 2)]⟩, ⟨some 10, .fieldAddr 27 (.tmp 3) 4, some (some 9, true), [(9, 3)]⟩, ⟨some 11, .load 25 (.tmp 10), some (some 9, true), [(9, 3), (10, 4)]⟩, ⟨some 12, .call { callee := .builtin .len, args := #[.tmp 11], argTypes := #[25] }, some (some 9, true), [(9, 3), (11, 5)]⟩, ⟨some 13, .binOp .eql 3 (.tmp 12) (.const (.int .i64 0)) 3, some (some 9, true), [(9, 3), (12, 6)]⟩, ⟨some 14, .pick (.tmp 9) (.tmp 13) (.const (Value.bool false)), none, [(9, 3), (13, 7)]⟩, ⟨some 15, .move (.tmp 14), none, [(14, 8)]⟩, ⟨some 16, .fieldAddr 27 (.tmp 3) 1, some (some 15, true), [(15, 9)]⟩, ⟨some 17, .load 3 (.tmp 16), some (some 15, true), [(15, 9), (16, 10)]⟩, ⟨some 18, .binOp .geq 3 (.tmp 17) (.const (.int .i64 0)) 3, some (some 15, true), [(15, 9), (17, 11)]⟩, ⟨some 19, .pick (.tmp 15) (.tmp 18) (.const (Value.bool false)), none, [(15, 9), (18, 12)]⟩, ⟨some 20, .move (.tmp 19), none, [(19, 13)]⟩, ⟨some 21, .fieldAddr 27 (.tmp 3) 1, some (some 20, true), [(20, 14)]⟩, ⟨some 22, .load 3 (.tmp 21), some (some 20, true), [(20, 14), (21, 15)]⟩, ⟨some 23, .fieldAddr 55 (.tmp 2) 2, some (some 20, true), [(20, 14)]⟩, ⟨some 24, .load 22 (.tmp 23), some (some 20, true), [(20, 14), (23, 17)]⟩, ⟨some 25, .call { callee := .builtin .len, args := #[.tmp 24], argTypes := #[22] }, some (some 20, true), [(20, 14), (24, 18)]⟩, ⟨some 26, .binOp .lss 3 (.tmp 22) (.tmp 25) 3, some (some 20, true), [(20, 14), (22, 16), (25, 19)]⟩, ⟨some 27, .pick (.tmp 20) (.tmp 26) (.const (Value.bool false)), none, [(20, 14), (26, 20)]⟩, ⟨some 28, .move (.tmp 27), none, [(27, 21)]⟩, ⟨some 29, .fieldAddr 27 (.tmp 3) 3, some (some 28, true), [(28, 22)]⟩, ⟨some 30, .load 24 (.tmp 29), some (some 28, true), [(28, 22), (29, 23)]⟩, ⟨some 31, .call { callee := .builtin .len, args := #[.tmp 30], argTypes := #[24] }, some (some 28, true), [(28, 22), (30, 24)]⟩, ⟨some 32, .fieldAddr 55 (.tmp 2) 2, some (some 28, true), [(28, 22)]⟩, ⟨some 33, .load 22 (.tmp 32), some (some 28, true), [(28, 22), (32, 26)]⟩, ⟨some 34, .fieldAddr 27 (.tmp 3) 1, some (some 28, true), [(28, 22)]⟩, ⟨some 35, .load 3 (.tmp 34), some (some 28, true), [(28, 22), (34, 28)]⟩, ⟨some 36, .indexAddr 22 (.tmp 33) (.tmp 35), some (some 28, true), [(28, 22), (33, 27), (35, 29)]⟩, ⟨some 37, .load 3 (.tmp 36), some (some 28, true), [(28, 22), (36, 30)]⟩, ⟨some 38, .binOp .eql 3 (.tmp 31) (.tmp 37) 3, some (some 28, true), [(28, 22), (31, 25), (37, 31)]⟩, ⟨some 39, .pick (.tmp 28) (.tmp 38) (.const (Value.bool false)), none, [(28, 22), (38, 32)]⟩] [some 6, some 7, some 8, some 9, some 10, some 11, some 12, some 13, some 14, some 15, some 16, some 17, some 18, some 19, some 20, some 21, some 22, some 23, some 24, some 25, some 26, some 27, some 28, some 29, some 30, some 31, some 32, some 33, some 34, some 35, some 36, some 37, some 38, some 39] [] [] (by kernel_rfl) (by kernel_rfl) (by kernel_rfl) (by kernel_rfl) (by kernel_rfl) (by kernel_rfl) (by kernel_rfl) (by kernel_rfl) ?hrun ?hold ?hS ?hmono ?hsteps ?hfin
            case hrun => exact fun p hp => by cases hp
            case hold => exact fun p hp => by cases hp
            case hS => exact hS
            case hmono =>
              refine MonoL.cons (fun x w1 w2 _ _ _ hx => hx) ?_
              refine MonoL.cons (fun x w1 w2 _ _ _ hx => hx) ?_
              refine MonoL.cons (fun x w1 w2 _ _ _ hx => hx) ?_
              refine MonoL.cons (fun x w1 w2 _ _ _ hx => hx) ?_
              refine MonoL.cons (fun x w1 w2 _ _ _ hx => hx) ?_
              refine MonoL.cons (fun x w1 w2 _ _ _ hx => hx) ?_
              refine MonoL.cons (fun x w1 w2 _ _ _ hx => hx) ?_
              refine MonoL.cons (fun x w1 w2 _ _ _ hx => hx) ?_
              refine MonoL.cons (fun x w1 w2 _ _ _ hx => hx) ?_
              refine MonoL.cons (fun x w1 w2 _ _ _ hx => hx) ?_
              refine MonoL.cons (fun x w1 w2 _ _ _ hx => hx) ?_
              refine MonoL.cons (fun x w1 w2 _ _ _ hx => hx) ?_
              refine MonoL.cons (fun x w1 w2 _ _ _ hx => hx) ?_
              refine MonoL.cons (fun x w1 w2 _ _ _ hx => hx) ?_
              refine MonoL.cons (fun x w1 w2 _ _ _ hx => hx) ?_
              refine MonoL.cons (fun x w1 w2 _ _ _ hx => hx) ?_
              refine MonoL.cons (fun x w1 w2 _ _ _ hx => hx) ?_
              refine MonoL.cons (fun x w1 w2 _ _ _ hx => hx) ?_
              refine MonoL.cons (fun x w1 w2 _ _ _ hx => hx) ?_
              refine MonoL.cons (fun x w1 w2 _ _ _ hx => hx) ?_
              refine MonoL.cons (fun x w1 w2 _ _ _ hx => hx) ?_
              refine MonoL.cons (fun x w1 w2 _ _ _ hx => hx) ?_
              refine MonoL.cons (fun x w1 w2 _ _ _ hx => hx) ?_
              refine MonoL.cons (fun x w1 w2 _ _ _ hx => hx) ?_
              refine MonoL.cons (fun x w1 w2 _ _ _ hx => hx) ?_
              refine MonoL.cons (fun x w1 w2 _ _ _ hx => hx) ?_
              refine MonoL.cons (fun x w1 w2 _ _ _ hx => hx) ?_
              refine MonoL.cons (fun x w1 w2 _ _ _ hx => hx) ?_
              refine MonoL.cons (fun x w1 w2 _ _ _ hx => hx) ?_
              refine MonoL.cons (fun x w1 w2 _ _ _ hx => hx) ?_
              refine MonoL.cons (fun x w1 w2 _ _ _ hx => hx) ?_
              refine MonoL.cons (fun x w1 w2 _ _ _ hx => hx) ?_
              refine MonoL.cons (fun x w1 w2 _ _ _ hx => hx) ?_
              refine MonoL.cons (fun x w1 w2 _ _ _ hx => hx) ?_
              exact MonoL.nil
            case hsteps =>
              refine StepsT.cons (fun (x : Value) (_ : World) => x = (.pointer (some ⟨w.heap.size + 1, 2, none⟩) : Value)) [] rfl rfl (fun oq hop _ wq hQS => ?_) ?_
              · exact StepFrom.fieldAddr hop (p := (.pointer (some ⟨w.heap.size + 1, 0, none⟩) : Value)) (by kernel_rfl) (tm_field 2 (by decide)) (by kernel_rfl) hQS (Below.refl _ _) rfl
              refine StepsT.cons (fun (x : Value) (_ : World) => x = (.int .i64 0 : Value)) [(6, (fun (x : Value) (_ : World) => x = (.pointer (some ⟨w.heap.size + 1, 2, none⟩) : Value)))] rfl rfl (fun oq hop _ wq hQS => ?_) ?_
              · refine StepFrom.more_eq ((.pointer (some ⟨w.heap.size + 1, 2, none⟩) : Value)) ?_
                exact StepFrom.load hop (p := (.pointer (some ⟨w.heap.size + 1, 2, none⟩) : Value)) (by kernel_rfl) (load_int ((hQS.cell (p := ⟨w.heap.size + 1, 2, none⟩) g1).trans x2)) (by kernel_rfl) hQS (Below.refl _ _) rfl
              refine StepsT.cons (fun (x : Value) (_ : World) => x = (.bool true : Value)) [(7, (fun (x : Value) (_ : World) => x = (.int .i64 0 : Value)))] rfl rfl (fun oq hop _ wq hQS => ?_) ?_
              · refine StepFrom.more_eq ((.int .i64 0 : Value)) ?_
                exact StepFrom.bin hop (vx := (.int .i64 0 : Value)) (vy := (.int .i64 0 : Value)) (by kernel_rfl) (by kernel_rfl) (eql_to _ _ _ (by first | assumption | rfl | (simp; done) | (simp; omega))) (by kernel_rfl) hQS (Below.refl _ _) rfl
              refine StepsT.cons (fun (x : Value) (_ : World) => x = (.bool true : Value)) [(8, (fun (x : Value) (_ : World) => x = (.bool true : Value)))] rfl rfl (fun oq hop _ wq hQS => ?_) ?_
              · refine StepFrom.more_eq ((.bool true : Value)) ?_
                exact StepFrom.move hop (v := (.bool true : Value)) (by kernel_rfl) (by kernel_rfl) hQS (Below.refl _ _) rfl
              refine StepsT.cons (fun (x : Value) (_ : World) => x = (.pointer (some ⟨w.heap.size + 1, 4, none⟩) : Value)) [(9, (fun (x : Value) (_ : World) => x = (.bool true : Value)))] rfl rfl (fun oq hop _ wq hQS => ?_) ?_
              · refine StepFrom.more_eq ((.bool true : Value)) ?_
                exact StepFrom.fieldAddr hop (p := (.pointer (some ⟨w.heap.size + 1, 0, none⟩) : Value)) (by kernel_rfl) (tm_field 4 (by decide)) (by kernel_rfl) hQS (Below.refl _ _) rfl
              refine StepsT.cons (fun (x : Value) (_ : World) => x = (.slice A2 0 c2 : Value)) [(9, (fun (x : Value) (_ : World) => x = (.bool true : Value))), (10, (fun (x : Value) (_ : World) => x = (.pointer (some ⟨w.heap.size + 1, 4, none⟩) : Value)))] rfl rfl (fun oq hop _ wq hQS => ?_) ?_
              · refine StepFrom.more_eq ((.bool true : Value)) ?_
                refine StepFrom.more_eq ((.pointer (some ⟨w.heap.size + 1, 4, none⟩) : Value)) ?_
                exact StepFrom.load hop (p := (.pointer (some ⟨w.heap.size + 1, 4, none⟩) : Value)) (by kernel_rfl) (load_terms ((hQS.cell (p := ⟨w.heap.size + 1, 4, none⟩) g1).trans x4)) (by kernel_rfl) hQS (Below.refl _ _) rfl
              refine StepsT.cons (fun (x : Value) (_ : World) => x = (.int .i64 (0 : Int) : Value)) [(9, (fun (x : Value) (_ : World) => x = (.bool true : Value))), (11, (fun (x : Value) (_ : World) => x = (.slice A2 0 c2 : Value)))] rfl rfl (fun oq hop _ wq hQS => ?_) ?_
              · refine StepFrom.more_eq ((.bool true : Value)) ?_
                refine StepFrom.more_eq ((.slice A2 0 c2 : Value)) ?_
                exact StepFrom.lenT hop (show _ = (.slice A2 0 c2 : Value) by kernel_rfl) (by kernel_rfl) hQS (Below.refl _ _) rfl
              refine StepsT.cons (fun (x : Value) (_ : World) => x = (.bool true : Value)) [(9, (fun (x : Value) (_ : World) => x = (.bool true : Value))), (12, (fun (x : Value) (_ : World) => x = (.int .i64 (0 : Int) : Value)))] rfl rfl (fun oq hop _ wq hQS => ?_) ?_
              · refine StepFrom.more_eq ((.bool true : Value)) ?_
                refine StepFrom.more_eq ((.int .i64 (0 : Int) : Value)) ?_
                exact StepFrom.bin hop (vx := (.int .i64 (0 : Int) : Value)) (vy := (.int .i64 0 : Value)) (by kernel_rfl) (by kernel_rfl) (eql_to _ _ _ (by first | assumption | rfl | (simp; done) | (simp; omega))) (by kernel_rfl) hQS (Below.refl _ _) rfl
              refine StepsT.cons (fun (x : Value) (_ : World) => x = (.bool true : Value)) [(9, (fun (x : Value) (_ : World) => x = (.bool true : Value))), (13, (fun (x : Value) (_ : World) => x = (.bool true : Value)))] rfl rfl (fun oq hop _ wq hQS => ?_) ?_
              · refine StepFrom.more_eq ((.bool true : Value)) ?_
                refine StepFrom.more_eq ((.bool true : Value)) ?_
                exact StepFrom.pick hop (b := true) (vx := (.bool true : Value)) (vy := (Value.bool false : Value)) (by kernel_rfl) (by kernel_rfl) (by kernel_rfl) (by kernel_rfl) hQS (Below.refl _ _) rfl
              refine StepsT.cons (fun (x : Value) (_ : World) => x = (.bool true : Value)) [(14, (fun (x : Value) (_ : World) => x = (.bool true : Value)))] rfl rfl (fun oq hop _ wq hQS => ?_) ?_
              · refine StepFrom.more_eq ((.bool true : Value)) ?_
                exact StepFrom.move hop (v := (.bool true : Value)) (by kernel_rfl) (by kernel_rfl) hQS (Below.refl _ _) rfl
              refine StepsT.cons (fun (x : Value) (_ : World) => x = (.pointer (some ⟨w.heap.size + 1, 1, none⟩) : Value)) [(15, (fun (x : Value) (_ : World) => x = (.bool true : Value)))] rfl rfl (fun oq hop _ wq hQS => ?_) ?_
              · refine StepFrom.more_eq ((.bool true : Value)) ?_
                exact StepFrom.fieldAddr hop (p := (.pointer (some ⟨w.heap.size + 1, 0, none⟩) : Value)) (by kernel_rfl) (tm_field 1 (by decide)) (by kernel_rfl) hQS (Below.refl _ _) rfl
              refine StepsT.cons (fun (x : Value) (_ : World) => x = (.int .i64 (j : Int) : Value)) [(15, (fun (x : Value) (_ : World) => x = (.bool true : Value))), (16, (fun (x : Value) (_ : World) => x = (.pointer (some ⟨w.heap.size + 1, 1, none⟩) : Value)))] rfl rfl (fun oq hop _ wq hQS => ?_) ?_
              · refine StepFrom.more_eq ((.bool true : Value)) ?_
                refine StepFrom.more_eq ((.pointer (some ⟨w.heap.size + 1, 1, none⟩) : Value)) ?_
                exact StepFrom.load hop (p := (.pointer (some ⟨w.heap.size + 1, 1, none⟩) : Value)) (by kernel_rfl) (load_int ((hQS.cell (p := ⟨w.heap.size + 1, 1, none⟩) g1).trans x1)) (by kernel_rfl) hQS (Below.refl _ _) rfl
              refine StepsT.cons (fun (x : Value) (_ : World) => x = (.bool true : Value)) [(15, (fun (x : Value) (_ : World) => x = (.bool true : Value))), (17, (fun (x : Value) (_ : World) => x = (.int .i64 (j : Int) : Value)))] rfl rfl (fun oq hop _ wq hQS => ?_) ?_
              · refine StepFrom.more_eq ((.bool true : Value)) ?_
                refine StepFrom.more_eq ((.int .i64 (j : Int) : Value)) ?_
                exact StepFrom.bin hop (vx := (.int .i64 (j : Int) : Value)) (vy := (.int .i64 0 : Value)) (by kernel_rfl) (by kernel_rfl) (geq_to _ _ _ (by first | assumption | rfl | (simp; done) | (simp; omega))) (by kernel_rfl) hQS (Below.refl _ _) rfl
              refine StepsT.cons (fun (x : Value) (_ : World) => x = (.bool true : Value)) [(15, (fun (x : Value) (_ : World) => x = (.bool true : Value))), (18, (fun (x : Value) (_ : World) => x = (.bool true : Value)))] rfl rfl (fun oq hop _ wq hQS => ?_) ?_
              · refine StepFrom.more_eq ((.bool true : Value)) ?_
                refine StepFrom.more_eq ((.bool true : Value)) ?_
                exact StepFrom.pick hop (b := true) (vx := (.bool true : Value)) (vy := (Value.bool false : Value)) (by kernel_rfl) (by kernel_rfl) (by kernel_rfl) (by kernel_rfl) hQS (Below.refl _ _) rfl
              refine StepsT.cons (fun (x : Value) (_ : World) => x = (.bool true : Value)) [(19, (fun (x : Value) (_ : World) => x = (.bool true : Value)))] rfl rfl (fun oq hop _ wq hQS => ?_) ?_
              · refine StepFrom.more_eq ((.bool true : Value)) ?_
                exact StepFrom.move hop (v := (.bool true : Value)) (by kernel_rfl) (by kernel_rfl) hQS (Below.refl _ _) rfl
              refine StepsT.cons (fun (x : Value) (_ : World) => x = (.pointer (some ⟨w.heap.size + 1, 1, none⟩) : Value)) [(20, (fun (x : Value) (_ : World) => x = (.bool true : Value)))] rfl rfl (fun oq hop _ wq hQS => ?_) ?_
              · refine StepFrom.more_eq ((.bool true : Value)) ?_
                exact StepFrom.fieldAddr hop (p := (.pointer (some ⟨w.heap.size + 1, 0, none⟩) : Value)) (by kernel_rfl) (tm_field 1 (by decide)) (by kernel_rfl) hQS (Below.refl _ _) rfl
              refine StepsT.cons (fun (x : Value) (_ : World) => x = (.int .i64 (j : Int) : Value)) [(20, (fun (x : Value) (_ : World) => x = (.bool true : Value))), (21, (fun (x : Value) (_ : World) => x = (.pointer (some ⟨w.heap.size + 1, 1, none⟩) : Value)))] rfl rfl (fun oq hop _ wq hQS => ?_) ?_
              · refine StepFrom.more_eq ((.bool true : Value)) ?_
                refine StepFrom.more_eq ((.pointer (some ⟨w.heap.size + 1, 1, none⟩) : Value)) ?_
                exact StepFrom.load hop (p := (.pointer (some ⟨w.heap.size + 1, 1, none⟩) : Value)) (by kernel_rfl) (load_int ((hQS.cell (p := ⟨w.heap.size + 1, 1, none⟩) g1).trans x1)) (by kernel_rfl) hQS (Below.refl _ _) rfl
              refine StepsT.cons (fun (x : Value) (_ : World) => x = (.pointer (some ⟨w.heap.size, 3, none⟩) : Value)) [(20, (fun (x : Value) (_ : World) => x = (.bool true : Value)))] rfl rfl (fun oq hop _ wq hQS => ?_) ?_
              · refine StepFrom.more_eq ((.bool true : Value)) ?_
                exact StepFrom.fieldAddr hop (p := (.pointer (some ⟨w.heap.size, 0, none⟩) : Value)) (by kernel_rfl) (wk_consts) (by kernel_rfl) hQS (Below.refl _ _) rfl
              refine StepsT.cons (fun (x : Value) (_ : World) => x = (.slice (some ⟨b, o, none⟩) nc cc : Value)) [(20, (fun (x : Value) (_ : World) => x = (.bool true : Value))), (23, (fun (x : Value) (_ : World) => x = (.pointer (some ⟨w.heap.size, 3, none⟩) : Value)))] rfl rfl (fun oq hop _ wq hQS => ?_) ?_
              · refine StepFrom.more_eq ((.bool true : Value)) ?_
                refine StepFrom.more_eq ((.pointer (some ⟨w.heap.size, 3, none⟩) : Value)) ?_
                exact StepFrom.load hop (p := (.pointer (some ⟨w.heap.size, 3, none⟩) : Value)) (by kernel_rfl) (load_ints ((hQS.cell (p := ⟨w.heap.size, 3, none⟩) g0).trans y3)) (by kernel_rfl) hQS (Below.refl _ _) rfl
              refine StepsT.cons (fun (x : Value) (_ : World) => x = (.int .i64 (nc : Int) : Value)) [(20, (fun (x : Value) (_ : World) => x = (.bool true : Value))), (24, (fun (x : Value) (_ : World) => x = (.slice (some ⟨b, o, none⟩) nc cc : Value)))] rfl rfl (fun oq hop _ wq hQS => ?_) ?_
              · refine StepFrom.more_eq ((.bool true : Value)) ?_
                refine StepFrom.more_eq ((.slice (some ⟨b, o, none⟩) nc cc : Value)) ?_
                exact StepFrom.lenI hop (show _ = (.slice (some ⟨b, o, none⟩) nc cc : Value) by kernel_rfl) (by kernel_rfl) hQS (Below.refl _ _) rfl
              refine StepsT.cons (fun (x : Value) (_ : World) => x = (.bool true : Value)) [(20, (fun (x : Value) (_ : World) => x = (.bool true : Value))), (22, (fun (x : Value) (_ : World) => x = (.int .i64 (j : Int) : Value))), (25, (fun (x : Value) (_ : World) => x = (.int .i64 (nc : Int) : Value)))] rfl rfl (fun oq hop _ wq hQS => ?_) ?_
              · refine StepFrom.more_eq ((.bool true : Value)) ?_
                refine StepFrom.more_eq ((.int .i64 (j : Int) : Value)) ?_
                refine StepFrom.more_eq ((.int .i64 (nc : Int) : Value)) ?_
                exact StepFrom.bin hop (vx := (.int .i64 (j : Int) : Value)) (vy := (.int .i64 (nc : Int) : Value)) (by kernel_rfl) (by kernel_rfl) (lss_to _ _ _ (by first | assumption | rfl | (simp; done) | (simp; omega))) (by kernel_rfl) hQS (Below.refl _ _) rfl
              refine StepsT.cons (fun (x : Value) (_ : World) => x = (.bool true : Value)) [(20, (fun (x : Value) (_ : World) => x = (.bool true : Value))), (26, (fun (x : Value) (_ : World) => x = (.bool true : Value)))] rfl rfl (fun oq hop _ wq hQS => ?_) ?_
              · refine StepFrom.more_eq ((.bool true : Value)) ?_
                refine StepFrom.more_eq ((.bool true : Value)) ?_
                exact StepFrom.pick hop (b := true) (vx := (.bool true : Value)) (vy := (Value.bool false : Value)) (by kernel_rfl) (by kernel_rfl) (by kernel_rfl) (by kernel_rfl) hQS (Below.refl _ _) rfl
              refine StepsT.cons (fun (x : Value) (_ : World) => x = (.bool true : Value)) [(27, (fun (x : Value) (_ : World) => x = (.bool true : Value)))] rfl rfl (fun oq hop _ wq hQS => ?_) ?_
              · refine StepFrom.more_eq ((.bool true : Value)) ?_
                exact StepFrom.move hop (v := (.bool true : Value)) (by kernel_rfl) (by kernel_rfl) hQS (Below.refl _ _) rfl
              refine StepsT.cons (fun (x : Value) (_ : World) => x = (.pointer (some ⟨w.heap.size + 1, 3, none⟩) : Value)) [(28, (fun (x : Value) (_ : World) => x = (.bool true : Value)))] rfl rfl (fun oq hop _ wq hQS => ?_) ?_
              · refine StepFrom.more_eq ((.bool true : Value)) ?_
                exact StepFrom.fieldAddr hop (p := (.pointer (some ⟨w.heap.size + 1, 0, none⟩) : Value)) (by kernel_rfl) (tm_field 3 (by decide)) (by kernel_rfl) hQS (Below.refl _ _) rfl
              refine StepsT.cons (fun (x : Value) (_ : World) => x = (.slice A1 p1 c1 : Value)) [(28, (fun (x : Value) (_ : World) => x = (.bool true : Value))), (29, (fun (x : Value) (_ : World) => x = (.pointer (some ⟨w.heap.size + 1, 3, none⟩) : Value)))] rfl rfl (fun oq hop _ wq hQS => ?_) ?_
              · refine StepFrom.more_eq ((.bool true : Value)) ?_
                refine StepFrom.more_eq ((.pointer (some ⟨w.heap.size + 1, 3, none⟩) : Value)) ?_
                exact StepFrom.load hop (p := (.pointer (some ⟨w.heap.size + 1, 3, none⟩) : Value)) (by kernel_rfl) (load_levels ((hQS.cell (p := ⟨w.heap.size + 1, 3, none⟩) g1).trans x3)) (by kernel_rfl) hQS (Below.refl _ _) rfl
              refine StepsT.cons (fun (x : Value) (_ : World) => x = (.int .i64 (p1 : Int) : Value)) [(28, (fun (x : Value) (_ : World) => x = (.bool true : Value))), (30, (fun (x : Value) (_ : World) => x = (.slice A1 p1 c1 : Value)))] rfl rfl (fun oq hop _ wq hQS => ?_) ?_
              · refine StepFrom.more_eq ((.bool true : Value)) ?_
                refine StepFrom.more_eq ((.slice A1 p1 c1 : Value)) ?_
                exact StepFrom.len hop (show _ = (.slice A1 p1 c1 : Value) by kernel_rfl) (by kernel_rfl) hQS (Below.refl _ _) rfl
              refine StepsT.cons (fun (x : Value) (_ : World) => x = (.pointer (some ⟨w.heap.size, 3, none⟩) : Value)) [(28, (fun (x : Value) (_ : World) => x = (.bool true : Value)))] rfl rfl (fun oq hop _ wq hQS => ?_) ?_
              · refine StepFrom.more_eq ((.bool true : Value)) ?_
                exact StepFrom.fieldAddr hop (p := (.pointer (some ⟨w.heap.size, 0, none⟩) : Value)) (by kernel_rfl) (wk_consts) (by kernel_rfl) hQS (Below.refl _ _) rfl
              refine StepsT.cons (fun (x : Value) (_ : World) => x = (.slice (some ⟨b, o, none⟩) nc cc : Value)) [(28, (fun (x : Value) (_ : World) => x = (.bool true : Value))), (32, (fun (x : Value) (_ : World) => x = (.pointer (some ⟨w.heap.size, 3, none⟩) : Value)))] rfl rfl (fun oq hop _ wq hQS => ?_) ?_
              · refine StepFrom.more_eq ((.bool true : Value)) ?_
                refine StepFrom.more_eq ((.pointer (some ⟨w.heap.size, 3, none⟩) : Value)) ?_
                exact StepFrom.load hop (p := (.pointer (some ⟨w.heap.size, 3, none⟩) : Value)) (by kernel_rfl) (load_ints ((hQS.cell (p := ⟨w.heap.size, 3, none⟩) g0).trans y3)) (by kernel_rfl) hQS (Below.refl _ _) rfl
              refine StepsT.cons (fun (x : Value) (_ : World) => x = (.pointer (some ⟨w.heap.size + 1, 1, none⟩) : Value)) [(28, (fun (x : Value) (_ : World) => x = (.bool true : Value)))] rfl rfl (fun oq hop _ wq hQS => ?_) ?_
              · refine StepFrom.more_eq ((.bool true : Value)) ?_
                exact StepFrom.fieldAddr hop (p := (.pointer (some ⟨w.heap.size + 1, 0, none⟩) : Value)) (by kernel_rfl) (tm_field 1 (by decide)) (by kernel_rfl) hQS (Below.refl _ _) rfl
              refine StepsT.cons (fun (x : Value) (_ : World) => x = (.int .i64 (j : Int) : Value)) [(28, (fun (x : Value) (_ : World) => x = (.bool true : Value))), (34, (fun (x : Value) (_ : World) => x = (.pointer (some ⟨w.heap.size + 1, 1, none⟩) : Value)))] rfl rfl (fun oq hop _ wq hQS => ?_) ?_
              · refine StepFrom.more_eq ((.bool true : Value)) ?_
                refine StepFrom.more_eq ((.pointer (some ⟨w.heap.size + 1, 1, none⟩) : Value)) ?_
                exact StepFrom.load hop (p := (.pointer (some ⟨w.heap.size + 1, 1, none⟩) : Value)) (by kernel_rfl) (load_int ((hQS.cell (p := ⟨w.heap.size + 1, 1, none⟩) g1).trans x1)) (by kernel_rfl) hQS (Below.refl _ _) rfl
              refine StepsT.cons (fun (x : Value) (_ : World) => x = (.pointer (some ⟨b, o + j, none⟩) : Value)) [(28, (fun (x : Value) (_ : World) => x = (.bool true : Value))), (33, (fun (x : Value) (_ : World) => x = (.slice (some ⟨b, o, none⟩) nc cc : Value))), (35, (fun (x : Value) (_ : World) => x = (.int .i64 (j : Int) : Value)))] rfl rfl (fun oq hop _ wq hQS => ?_) ?_
              · refine StepFrom.more_eq ((.bool true : Value)) ?_
                refine StepFrom.more_eq ((.slice (some ⟨b, o, none⟩) nc cc : Value)) ?_
                refine StepFrom.more_eq ((.int .i64 (j : Int) : Value)) ?_
                exact StepFrom.indexAddr hop (p := (.slice (some ⟨b, o, none⟩) nc cc : Value)) (q := (.int .i64 (j : Int) : Value)) (by kernel_rfl) (by kernel_rfl) (int_addr_o gj0 gj1) (by kernel_rfl) hQS (Below.refl _ _) rfl
              refine StepsT.cons (fun (x : Value) (_ : World) => x = (.int .i64 cj : Value)) [(28, (fun (x : Value) (_ : World) => x = (.bool true : Value))), (36, (fun (x : Value) (_ : World) => x = (.pointer (some ⟨b, o + j, none⟩) : Value)))] rfl rfl (fun oq hop _ wq hQS => ?_) ?_
              · refine StepFrom.more_eq ((.bool true : Value)) ?_
                refine StepFrom.more_eq ((.pointer (some ⟨b, o + j, none⟩) : Value)) ?_
                exact StepFrom.load hop (p := (.pointer (some ⟨b, o + j, none⟩) : Value)) (by kernel_rfl) (load_int ((hQS.cell (p := ⟨b, o + j, none⟩) gb).trans hcj)) (by kernel_rfl) hQS (Below.refl _ _) rfl
              refine StepsT.cons (fun (x : Value) (_ : World) => x = (.bool true : Value)) [(28, (fun (x : Value) (_ : World) => x = (.bool true : Value))), (31, (fun (x : Value) (_ : World) => x = (.int .i64 (p1 : Int) : Value))), (37, (fun (x : Value) (_ : World) => x = (.int .i64 cj : Value)))] rfl rfl (fun oq hop _ wq hQS => ?_) ?_
              · refine StepFrom.more_eq ((.bool true : Value)) ?_
                refine StepFrom.more_eq ((.int .i64 (p1 : Int) : Value)) ?_
                refine StepFrom.more_eq ((.int .i64 cj : Value)) ?_
                exact StepFrom.bin hop (vx := (.int .i64 (p1 : Int) : Value)) (vy := (.int .i64 cj : Value)) (by kernel_rfl) (by kernel_rfl) (eql_to _ _ _ (by first | assumption | rfl | (simp; done) | (simp; omega))) (by kernel_rfl) hQS (Below.refl _ _) rfl
              refine StepsT.cons (fun (x : Value) (_ : World) => x = (.bool true : Value)) [(28, (fun (x : Value) (_ : World) => x = (.bool true : Value))), (38, (fun (x : Value) (_ : World) => x = (.bool true : Value)))] rfl rfl (fun oq hop _ wq hQS => ?_) ?_
              · refine StepFrom.more_eq ((.bool true : Value)) ?_
                refine StepFrom.more_eq ((.bool true : Value)) ?_
                exact StepFrom.pick hop (b := true) (vx := (.bool true : Value)) (vy := (Value.bool false : Value)) (by kernel_rfl) (by kernel_rfl) (by kernel_rfl) (by kernel_rfl) hQS (Below.refl _ _) rfl
              exact StepsT.nil
            case hfin =>
              intro wf hFS
              refine FinalFrom.more fun x6 h6 => ?_
              refine FinalFrom.more fun x7 h7 => ?_
              refine FinalFrom.more fun x8 h8 => ?_
              refine FinalFrom.more fun x9 h9 => ?_
              refine FinalFrom.more fun x10 h10 => ?_
              refine FinalFrom.more fun x11 h11 => ?_
              refine FinalFrom.more fun x12 h12 => ?_
              refine FinalFrom.more fun x13 h13 => ?_
              refine FinalFrom.more fun x14 h14 => ?_
              refine FinalFrom.more fun x15 h15 => ?_
              refine FinalFrom.more fun x16 h16 => ?_
              refine FinalFrom.more fun x17 h17 => ?_
              refine FinalFrom.more fun x18 h18 => ?_
              refine FinalFrom.more fun x19 h19 => ?_
              refine FinalFrom.more fun x20 h20 => ?_
              refine FinalFrom.more fun x21 h21 => ?_
              refine FinalFrom.more fun x22 h22 => ?_
              refine FinalFrom.more fun x23 h23 => ?_
              refine FinalFrom.more fun x24 h24 => ?_
              refine FinalFrom.more fun x25 h25 => ?_
              refine FinalFrom.more fun x26 h26 => ?_
              refine FinalFrom.more fun x27 h27 => ?_
              refine FinalFrom.more fun x28 h28 => ?_
              refine FinalFrom.more fun x29 h29 => ?_
              refine FinalFrom.more fun x30 h30 => ?_
              refine FinalFrom.more fun x31 h31 => ?_
              refine FinalFrom.more fun x32 h32 => ?_
              refine FinalFrom.more fun x33 h33 => ?_
              refine FinalFrom.more fun x34 h34 => ?_
              refine FinalFrom.more fun x35 h35 => ?_
              refine FinalFrom.more fun x36 h36 => ?_
              refine FinalFrom.more fun x37 h37 => ?_
              refine FinalFrom.more fun x38 h38 => ?_
              refine FinalFrom.more fun x39 h39 => ?_
              refine FinalFrom.done ?_
              intro _
              obtain rfl : x39 = (.bool true : Value) := h39
              simp only [Act.put, List.setIfInBounds_toArray, List.set_cons_zero, List.set_cons_succ, List.drop_succ_cons, List.drop_zero]
              have HDR := Lib.hid hFS
              clear y2 y3 x1 x2 x3 x4 hS hFS g0 g1
              go_wp2_with (fail)
              refine (must_any true _).mono ?_
              rintro e w4 h
              obtain ⟨rfl, hb⟩ := h.1 rfl
              have HB4 : Hid (Below w1.heap.size w1 w4) := HDR.out.trans (hb.mono HDR.out.size)
              have x3 := cell_of_row _ _ 3 _ _ (0, 0) ((HB4.out.block _ (by have := HS.out; omega)).trans X1.out)
              clear h hb HDR
              go_wp2_with (fail)
              go_loopw [44] (fun i wr => ∃ q : Nat, q ≤ p1 ∧ i = .int .i64 q ∧ Below w1.heap.size w1 wr ∧ ∀ j, j < q → rlB (lv.getD j []) n = true) (fun i _ => p1 - (intOf i).toNat)
              case atStart => exact ⟨0, Nat.zero_le _, rfl, HB4.out, fun j hj => absurd hj (by omega)⟩
              case round =>
                obtain ⟨q, hq, rfl, hbq, hall⟩ := hrel
                have hbz := hbq.size
                by_cases hlt : q < p1
                · obtain ⟨b2, o2, rfl, hb2B, hc2⟩ := HL.out (by have := HN.out; omega)
                  obtain ⟨Ai, ci, q1, q2, _, q4⟩ := hc2 q (by have := HN.out; omega)
                  obtain ⟨ps, hps⟩ : ∃ ps, lv.getD q [] = ps := ⟨_, rfl⟩
                  rw [hps] at q1 q2 q4
                  obtain ⟨pl, hpl⟩ : ∃ pl, ps.length = pl := ⟨_, rfl⟩
                  have hB : Below w.heap.size w wr := HB.out.trans (hbq.mono (by have := HS.out; omega))
                  have q1 := (hB.cell (p := ⟨b2, o2 + q, none⟩) hb2B).trans q1
                  have hx := (hbq.block w.heap.size (by have := HS.out; omega)).trans X0.out
                  obtain ⟨rb, hrb⟩ : ∃ rb, rlB ps n = rb := ⟨_, rfl⟩
                  obtain ⟨w5, hw5⟩ : ∃ x, wr.alloc (.cells #[.slice Ai pl ci] 37) = x := ⟨_, rfl⟩
                  have hb5 : Below wr.heap.size wr w5 := by rw [← hw5]; exact (Below.refl _ _).alloc (Nat.le_refl _) _
                  have z5 := heap_alloc_new wr (.cells #[.slice Ai pl ci] 37)
                  rw [hw5] at z5
                  have f5 := cell_of_one z5
                  have HR5 : Hid (Calls Tryd.prog 11 #[.agg #[.slice Ai pl ci], .int .i64 n] w5 (HasPost w5 rb)) := by
                    have hB5 : Below w.heap.size w w5 := hB.trans (hb5.mono hB.size)
                    have h66 := H6.out ps (by rw [← hps, List.getD_eq_getElem?_getD, List.getElem?_eq_getElem (by have := HN.out; omega)]; exact List.getElem_mem _)
                    rw [← hpl]
                    exact right_any Ai ps ci n w5 (by unfold maxLen; omega) ((q2.below hB5).more hB5.size) rb (by rw [← hrb]; exact rlB_iff ps n)
                  have y2 := cell_of_row _ _ 2 _ _ (0, 0) ((hb5.block w.heap.size (by have := HS.out; omega)).trans hx)
                  have HB5 : Hid (Below w1.heap.size w1 w5) := hbq.trans (hb5.mono hbz)
                  have HRB : Hid (rlB (lv.getD q []) n = rb) := by rw [hps]; exact hrb
                  rw [hpl] at q1
                  clear hbq hb5 hb2B hc2 q2 q4 hB hx z5 hps hpl hrb
                  go_wp2_with (fail)
                  refine HR5.out.mono ?_
                  rintro e w6 ⟨rfl, hb6⟩
                  have HB6 := Lib.hid (HB5.out.trans (hb6.mono HB5.out.size))
                  clear hb6 HR5 y2 f5
                  go_wp2_with (fail)
                  refine (must_any rb _).mono ?_
                  rintro e w7 h
                  cases rb with
                  | true =>
                    obtain ⟨rfl, hb⟩ := h.1 rfl
                    have HB7 := Lib.hid (HB6.out.trans (hb.mono HB6.out.size))
                    have HAL : Hid (∀ j, j < q + 1 → rlB (lv.getD j []) n = true) := fun j hj => by
                      rcases Nat.lt_succ_iff_lt_or_eq.1 hj with hj | rfl
                      · exact hall j hj
                      · exact HRB.out
                    clear h hb hall
                    go_wp2
                    go_roundw
                    case rel => exact ⟨q + 1, by omega, by go_num, HB7.out, HAL.out⟩
                    case measure => simp [intOf]; omega
                  | false =>
                    obtain ⟨rfl, hb⟩ := h.2 rfl
                    have HF : Hid (MustPost w 6 r (.panicked [{ v := .iface 73 (.int .i64 6), recovered := false }]) w7) := by
                      have hrf : r = false := by
                        rw [← HR.out, List.all_eq_false]
                        exact ⟨lv.getD q [], by rw [List.getD_eq_getElem?_getD, List.getElem?_eq_getElem (by have := HN.out; omega)]; exact List.getElem_mem _, by rw [HRB.out]; decide⟩
                      rw [hrf]
                      exact MustPost.no ⟨rfl, HB.out.trans ((HB6.out.trans (hb.mono HB6.out.size)).mono (by have := HS.out; omega))⟩
                    clear h hb hall
                    go_wp2
                    exact ⟨rfl, HF.out⟩
                · obtain rfl : q = p1 := by omega
                  have HF : Hid (MustPost w 6 r (.returned (.tuple #[])) wr) := by
                    have hrt : r = true := by
                      rw [← HR.out, List.all_eq_true]
                      intro l hl
                      obtain ⟨i, hi, rfl⟩ := List.getElem_of_mem hl
                      have := hall i (by have := HN.out; omega)
                      rwa [List.getD_eq_getElem?_getD, List.getElem?_eq_getElem hi] at this
                    rw [hrt]
                    exact MustPost.yes rfl (HB.out.trans (hbq.mono (by have := HS.out; omega)))
                  clear hall hbq
                  go_wp2
                  go_end0
                  exact HF.out
          · have e4 : ((p1 : Int) == cj) = false := by simpa using h4
            have hnc2 := HNC.out
            have hr2 : r = false := by rw [← hr]; simp_all <;> omega
            subst hr2
            clear hnc2
            clear hr
            go_enter Tryd.func38, Tryd.ntmps38
            have g0 : w.heap.size < w1.heap.size := by have := HS.out; omega
            have g1 : w.heap.size + 1 < w1.heap.size := by have := HS.out; omega
            have hS := HDR.out
            go_upto_region 1 with (fail)
            have gb : b < w1.heap.size := by have := HB.out.size; omega
            have gj0 : (0 : Int) ≤ (j : Int) := by omega
            have gj1 : (j : Int) < (nc : Int) := h3
            refine wp_region_tail 34 (fun w' => Below w1.heap.size w1 w') (fun w1 w2 : World => Below w1.heap.size w1 w2) [(fun (x : Value) (_ : World) => x = (.pointer (some ⟨w.heap.size + 1, 2, none⟩) : Value)), (fun (x : Value) (_ : World) => x = (.int .i64 0 : Value)), (fun (x : Value) (_ : World) => x = (.bool true : Value)), (fun (x : Value) (_ : World) => x = (.bool true : Value)), (fun (x : Value) (_ : World) => x = (.pointer (some ⟨w.heap.size + 1, 4, none⟩) : Value)), (fun (x : Value) (_ : World) => x = (.slice A2 0 c2 : Value)), (fun (x : Value) (_ : World) => x = (.int .i64 (0 : Int) : Value)), (fun (x : Value) (_ : World) => x = (.bool true : Value)), (fun (x : Value) (_ : World) => x = (.bool true : Value)), (fun (x : Value) (_ : World) => x = (.bool true : Value)), (fun (x : Value) (_ : World) => x = (.pointer (some ⟨w.heap.size + 1, 1, none⟩) : Value)), (fun (x : Value) (_ : World) => x = (.int .i64 (j : Int) : Value)), (fun (x : Value) (_ : World) => x = (.bool true : Value)), (fun (x : Value) (_ : World) => x = (.bool true : Value)), (fun (x : Value) (_ : World) => x = (.bool true : Value)), (fun (x : Value) (_ : World) => x = (.pointer (some ⟨w.heap.size + 1, 1, none⟩) : Value)), (fun (x : Value) (_ : World) => x = (.int .i64 (j : Int) : Value)), (fun (x : Value) (_ : World) => x = (.pointer (some ⟨w.heap.size, 3, none⟩) : Value)), (fun (x : Value) (_ : World) => x = (.slice (some ⟨b, o, none⟩) nc cc : Value)), (fun (x : Value) (_ : World) => x = (.int .i64 (nc : Int) : Value)), (fun (x : Value) (_ : World) => x = (.bool true : Value)), (fun (x : Value) (_ : World) => x = (.bool true : Value)), (fun (x : Value) (_ : World) => x = (.bool true : Value)), (fun (x : Value) (_ : World) => x = (.pointer (some ⟨w.heap.size + 1, 3, none⟩) : Value)), (fun (x : Value) (_ : World) => x = (.slice A1 p1 c1 : Value)), (fun (x : Value) (_ : World) => x = (.int .i64 (p1 : Int) : Value)), (fun (x : Value) (_ : World) => x = (.pointer (some ⟨w.heap.size, 3, none⟩) : Value)), (fun (x : Value) (_ : World) => x = (.slice (some ⟨b, o, none⟩) nc cc : Value)), (fun (x : Value) (_ : World) => x = (.pointer (some ⟨w.heap.size + 1, 1, none⟩) : Value)), (fun (x : Value) (_ : World) => x = (.int .i64 (j : Int) : Value)), (fun (x : Value) (_ : World) => x = (.pointer (some ⟨b, o + j, none⟩) : Value)), (fun (x : Value) (_ : World) => x = (.int .i64 cj : Value)), (fun (x : Value) (_ : World) => x = (.bool false : Value)), (fun (x : Value) (_ : World) => x = (.bool false : Value))] [⟨some 6, .fieldAddr 27 (.tmp 3) 2, none, []⟩, ⟨some 7, .load 3 (.tmp 6), none, [(6, 0)]⟩, ⟨some 8, .binOp .eql 3 (.tmp 7) (.const (.int .i64 0)) 3, none, [(7, 1)]⟩, ⟨some 9, .move (.tmp 8), none, [(8, 2)]⟩, ⟨some 10, .fieldAddr 27 (.tmp 3) 4, some (some 9, true), [(9, 3)]⟩, ⟨some 11, .load 25 (.tmp 10), some (some 9, true), [(9, 3), (10, 4)]⟩, ⟨some 12, .call { callee := .builtin .len, args := #[.tmp 11], argTypes := #[25] }, some (some 9, true), [(9, 3), (11, 5)]⟩, ⟨some 13, .binOp .eql 3 (.tmp 12) (.const (.int .i64 0)) 3, some (some 9, true), [(9, 3), (12, 6)]⟩, ⟨some 14, .pick (.tmp 9) (.tmp 13) (.const (Value.bool false)), none, [(9, 3), (13, 7)]⟩, ⟨some 15, .move (.tmp 14), none, [(14, 8)]⟩, ⟨some 16, .fieldAddr 27 (.tmp 3) 1, some (some 15, true), [(15, 9)]⟩, ⟨some 17, .load 3 (.tmp 16), some (some 15, true), [(15, 9), (16, 10)]⟩, ⟨some 18, .binOp .geq 3 (.tmp 17) (.const (.int .i64 0)) 3, some (some 15, true), [(15, 9), (17, 11)]⟩, ⟨some 19, .pick (.tmp 15) (.tmp 18) (.const (Value.bool false)), none, [(15, 9), (18, 12)]⟩, ⟨some 20, .move (.tmp 19), none, [(19, 13)]⟩, ⟨some 21, .fieldAddr 27 (.tmp 3) 1, some (some 20, true), [(20, 14)]⟩, ⟨some 22, .load 3 (.tmp 21), some (some 20, true), [(20, 14), (21, 15)]⟩, ⟨some 23, .fieldAddr 55 (.tmp 2) 2, some (some 20, true), [(20, 14)]⟩, ⟨some 24, .load 22 (.tmp 23), some (some 20, true), [(20, 14), (23, 17)]⟩, ⟨some 25, .call { callee := .builtin .len, args := #[.tmp 24], argTypes := #[22] }, some (some 20, true), [(20, 14), (24, 18)]⟩, ⟨some 26, .binOp .lss 3 (.tmp 22) (.tmp 25) 3, some (some 20, true), [(20, 14), (22, 16), (25, 19)]⟩, ⟨some 27, .pick (.tmp 20) (.tmp 26) (.const (Value.bool false)), none, [(20, 14), (26, 20)]⟩, ⟨some 28, .move (.tmp 27), none, [(27, 21)]⟩, ⟨some 29, .fieldAddr 27 (.tmp 3) 3, some (some 28, true), [(28, 22)]⟩, ⟨some 30, .load 24 (.tmp 29), some (some 28, true), [(28, 22), (29, 23)]⟩, ⟨some 31, .call { callee := .builtin .len, args := #[.tmp 30], argTypes := #[24] }, some (some 28, true), [(28, 22), (30, 24)]⟩, ⟨some 32, .fieldAddr 55 (.tmp 2) 2, some (some 28, true), [(28, 22)]⟩, ⟨some 33, .load 22 (.tmp 32), some (some 28, true), [(28, 22), (32, 26)]⟩, ⟨some 34, .fieldAddr 27 (.tmp 3) 1, some (some 28, true), [(28, 22)]⟩, ⟨some 35, .load 3 (.tmp 34), some (some 28, true), [(28, 22), (34, 28)]⟩, ⟨some 36, .indexAddr 22 (.tmp 33) (.tmp 35), some (some 28, true), [(28, 22), (33, 27), (35, 29)]⟩, ⟨some 37, .load 3 (.tmp 36), some (some 28, true), [(28, 22), (36, 30)]⟩, ⟨some 38, .binOp .eql 3 (.tmp 31) (.tmp 37) 3, some (some 28, true), [(28, 22), (31, 25), (37, 31)]⟩, ⟨some 39, .pick (.tmp 28) (.tmp 38) (.const (Value.bool false)), none, [(28, 22), (38, 32)]⟩] [some 6, some 7, some 8, some 9, some 10, some 11, some 12, some 13, some 14, some 15, some 16, some 17, some 18, some 19, some 20, some 21, some 22, some 23, some 24, some 25, some 26, some 27, some 28, some 29, some 30, some 31, some 32, some 33, some 34, some 35, some 36, some 37, some 38, some 39] [] [] (by kernel_rfl) (by kernel_rfl) (by kernel_rfl) (by kernel_rfl) (by kernel_rfl) (by kernel_rfl) (by kernel_rfl) (by kernel_rfl) ?hrun ?hold ?hS ?hmono ?hsteps ?hfin
            case hrun => exact fun p hp => by cases hp
            case hold => exact fun p hp => by cases hp
            case hS => exact hS
            case hmono =>
              refine MonoL.cons (fun x w1 w2 _ _ _ hx => hx) ?_
              refine MonoL.cons (fun x w1 w2 _ _ _ hx => hx) ?_
              refine MonoL.cons (fun x w1 w2 _ _ _ hx => hx) ?_
              refine MonoL.cons (fun x w1 w2 _ _ _ hx => hx) ?_
              refine MonoL.cons (fun x w1 w2 _ _ _ hx => hx) ?_
              refine MonoL.cons (fun x w1 w2 _ _ _ hx => hx) ?_
              refine MonoL.cons (fun x w1 w2 _ _ _ hx => hx) ?_
              refine MonoL.cons (fun x w1 w2 _ _ _ hx => hx) ?_
              refine MonoL.cons (fun x w1 w2 _ _ _ hx => hx) ?_
              refine MonoL.cons (fun x w1 w2 _ _ _ hx => hx) ?_
              refine MonoL.cons (fun x w1 w2 _ _ _ hx => hx) ?_
              refine MonoL.cons (fun x w1 w2 _ _ _ hx => hx) ?_
              refine MonoL.cons (fun x w1 w2 _ _ _ hx => hx) ?_
              refine MonoL.cons (fun x w1 w2 _ _ _ hx => hx) ?_
              refine MonoL.cons (fun x w1 w2 _ _ _ hx => hx) ?_
              refine MonoL.cons (fun x w1 w2 _ _ _ hx => hx) ?_
              refine MonoL.cons (fun x w1 w2 _ _ _ hx => hx) ?_
              refine MonoL.cons (fun x w1 w2 _ _ _ hx => hx) ?_
              refine MonoL.cons (fun x w1 w2 _ _ _ hx => hx) ?_
              refine MonoL.cons (fun x w1 w2 _ _ _ hx => hx) ?_
              refine MonoL.cons (fun x w1 w2 _ _ _ hx => hx) ?_
              refine MonoL.cons (fun x w1 w2 _ _ _ hx => hx) ?_
              refine MonoL.cons (fun x w1 w2 _ _ _ hx => hx) ?_
              refine MonoL.cons (fun x w1 w2 _ _ _ hx => hx) ?_
              refine MonoL.cons (fun x w1 w2 _ _ _ hx => hx) ?_
              refine MonoL.cons (fun x w1 w2 _ _ _ hx => hx) ?_
              refine MonoL.cons (fun x w1 w2 _ _ _ hx => hx) ?_
              refine MonoL.cons (fun x w1 w2 _ _ _ hx => hx) ?_
              refine MonoL.cons (fun x w1 w2 _ _ _ hx => hx) ?_
              refine MonoL.cons (fun x w1 w2 _ _ _ hx => hx) ?_
              refine MonoL.cons (fun x w1 w2 _ _ _ hx => hx) ?_
              refine MonoL.cons (fun x w1 w2 _ _ _ hx => hx) ?_
              refine MonoL.cons (fun x w1 w2 _ _ _ hx => hx) ?_
              refine MonoL.cons (fun x w1 w2 _ _ _ hx => hx) ?_
              exact MonoL.nil
            case hsteps =>
              refine StepsT.cons (fun (x : Value) (_ : World) => x = (.pointer (some ⟨w.heap.size + 1, 2, none⟩) : Value)) [] rfl rfl (fun oq hop _ wq hQS => ?_) ?_
              · exact StepFrom.fieldAddr hop (p := (.pointer (some ⟨w.heap.size + 1, 0, none⟩) : Value)) (by kernel_rfl) (tm_field 2 (by decide)) (by kernel_rfl) hQS (Below.refl _ _) rfl
              refine StepsT.cons (fun (x : Value) (_ : World) => x = (.int .i64 0 : Value)) [(6, (fun (x : Value) (_ : World) => x = (.pointer (some ⟨w.heap.size + 1, 2, none⟩) : Value)))] rfl rfl (fun oq hop _ wq hQS => ?_) ?_
              · refine StepFrom.more_eq ((.pointer (some ⟨w.heap.size + 1, 2, none⟩) : Value)) ?_
                exact StepFrom.load hop (p := (.pointer (some ⟨w.heap.size + 1, 2, none⟩) : Value)) (by kernel_rfl) (load_int ((hQS.cell (p := ⟨w.heap.size + 1, 2, none⟩) g1).trans x2)) (by kernel_rfl) hQS (Below.refl _ _) rfl
              refine StepsT.cons (fun (x : Value) (_ : World) => x = (.bool true : Value)) [(7, (fun (x : Value) (_ : World) => x = (.int .i64 0 : Value)))] rfl rfl (fun oq hop _ wq hQS => ?_) ?_
              · refine StepFrom.more_eq ((.int .i64 0 : Value)) ?_
                exact StepFrom.bin hop (vx := (.int .i64 0 : Value)) (vy := (.int .i64 0 : Value)) (by kernel_rfl) (by kernel_rfl) (eql_to _ _ _ (by first | assumption | rfl | (simp; done) | (simp; omega))) (by kernel_rfl) hQS (Below.refl _ _) rfl
              refine StepsT.cons (fun (x : Value) (_ : World) => x = (.bool true : Value)) [(8, (fun (x : Value) (_ : World) => x = (.bool true : Value)))] rfl rfl (fun oq hop _ wq hQS => ?_) ?_
              · refine StepFrom.more_eq ((.bool true : Value)) ?_
                exact StepFrom.move hop (v := (.bool true : Value)) (by kernel_rfl) (by kernel_rfl) hQS (Below.refl _ _) rfl
              refine StepsT.cons (fun (x : Value) (_ : World) => x = (.pointer (some ⟨w.heap.size + 1, 4, none⟩) : Value)) [(9, (fun (x : Value) (_ : World) => x = (.bool true : Value)))] rfl rfl (fun oq hop _ wq hQS => ?_) ?_
              · refine StepFrom.more_eq ((.bool true : Value)) ?_
                exact StepFrom.fieldAddr hop (p := (.pointer (some ⟨w.heap.size + 1, 0, none⟩) : Value)) (by kernel_rfl) (tm_field 4 (by decide)) (by kernel_rfl) hQS (Below.refl _ _) rfl
              refine StepsT.cons (fun (x : Value) (_ : World) => x = (.slice A2 0 c2 : Value)) [(9, (fun (x : Value) (_ : World) => x = (.bool true : Value))), (10, (fun (x : Value) (_ : World) => x = (.pointer (some ⟨w.heap.size + 1, 4, none⟩) : Value)))] rfl rfl (fun oq hop _ wq hQS => ?_) ?_
              · refine StepFrom.more_eq ((.bool true : Value)) ?_
                refine StepFrom.more_eq ((.pointer (some ⟨w.heap.size + 1, 4, none⟩) : Value)) ?_
                exact StepFrom.load hop (p := (.pointer (some ⟨w.heap.size + 1, 4, none⟩) : Value)) (by kernel_rfl) (load_terms ((hQS.cell (p := ⟨w.heap.size + 1, 4, none⟩) g1).trans x4)) (by kernel_rfl) hQS (Below.refl _ _) rfl
              refine StepsT.cons (fun (x : Value) (_ : World) => x = (.int .i64 (0 : Int) : Value)) [(9, (fun (x : Value) (_ : World) => x = (.bool true : Value))), (11, (fun (x : Value) (_ : World) => x = (.slice A2 0 c2 : Value)))] rfl rfl (fun oq hop _ wq hQS => ?_) ?_
              · refine StepFrom.more_eq ((.bool true : Value)) ?_
                refine StepFrom.more_eq ((.slice A2 0 c2 : Value)) ?_
                exact StepFrom.lenT hop (show _ = (.slice A2 0 c2 : Value) by kernel_rfl) (by kernel_rfl) hQS (Below.refl _ _) rfl
              refine StepsT.cons (fun (x : Value) (_ : World) => x = (.bool true : Value)) [(9, (fun (x : Value) (_ : World) => x = (.bool true : Value))), (12, (fun (x : Value) (_ : World) => x = (.int .i64 (0 : Int) : Value)))] rfl rfl (fun oq hop _ wq hQS => ?_) ?_
              · refine StepFrom.more_eq ((.bool true : Value)) ?_
                refine StepFrom.more_eq ((.int .i64 (0 : Int) : Value)) ?_
                exact StepFrom.bin hop (vx := (.int .i64 (0 : Int) : Value)) (vy := (.int .i64 0 : Value)) (by kernel_rfl) (by kernel_rfl) (eql_to _ _ _ (by first | assumption | rfl | (simp; done) | (simp; omega))) (by kernel_rfl) hQS (Below.refl _ _) rfl
              refine StepsT.cons (fun (x : Value) (_ : World) => x = (.bool true : Value)) [(9, (fun (x : Value) (_ : World) => x = (.bool true : Value))), (13, (fun (x : Value) (_ : World) => x = (.bool true : Value)))] rfl rfl (fun oq hop _ wq hQS => ?_) ?_
              · refine StepFrom.more_eq ((.bool true : Value)) ?_
                refine StepFrom.more_eq ((.bool true : Value)) ?_
                exact StepFrom.pick hop (b := true) (vx := (.bool true : Value)) (vy := (Value.bool false : Value)) (by kernel_rfl) (by kernel_rfl) (by kernel_rfl) (by kernel_rfl) hQS (Below.refl _ _) rfl
              refine StepsT.cons (fun (x : Value) (_ : World) => x = (.bool true : Value)) [(14, (fun (x : Value) (_ : World) => x = (.bool true : Value)))] rfl rfl (fun oq hop _ wq hQS => ?_) ?_
              · refine StepFrom.more_eq ((.bool true : Value)) ?_
                exact StepFrom.move hop (v := (.bool true : Value)) (by kernel_rfl) (by kernel_rfl) hQS (Below.refl _ _) rfl
              refine StepsT.cons (fun (x : Value) (_ : World) => x = (.pointer (some ⟨w.heap.size + 1, 1, none⟩) : Value)) [(15, (fun (x : Value) (_ : World) => x = (.bool true : Value)))] rfl rfl (fun oq hop _ wq hQS => ?_) ?_
              · refine StepFrom.more_eq ((.bool true : Value)) ?_
                exact StepFrom.fieldAddr hop (p := (.pointer (some ⟨w.heap.size + 1, 0, none⟩) : Value)) (by kernel_rfl) (tm_field 1 (by decide)) (by kernel_rfl) hQS (Below.refl _ _) rfl
              refine StepsT.cons (fun (x : Value) (_ : World) => x = (.int .i64 (j : Int) : Value)) [(15, (fun (x : Value) (_ : World) => x = (.bool true : Value))), (16, (fun (x : Value) (_ : World) => x = (.pointer (some ⟨w.heap.size + 1, 1, none⟩) : Value)))] rfl rfl (fun oq hop _ wq hQS => ?_) ?_
              · refine StepFrom.more_eq ((.bool true : Value)) ?_
                refine StepFrom.more_eq ((.pointer (some ⟨w.heap.size + 1, 1, none⟩) : Value)) ?_
                exact StepFrom.load hop (p := (.pointer (some ⟨w.heap.size + 1, 1, none⟩) : Value)) (by kernel_rfl) (load_int ((hQS.cell (p := ⟨w.heap.size + 1, 1, none⟩) g1).trans x1)) (by kernel_rfl) hQS (Below.refl _ _) rfl
              refine StepsT.cons (fun (x : Value) (_ : World) => x = (.bool true : Value)) [(15, (fun (x : Value) (_ : World) => x = (.bool true : Value))), (17, (fun (x : Value) (_ : World) => x = (.int .i64 (j : Int) : Value)))] rfl rfl (fun oq hop _ wq hQS => ?_) ?_
              · refine StepFrom.more_eq ((.bool true : Value)) ?_
                refine StepFrom.more_eq ((.int .i64 (j : Int) : Value)) ?_
                exact StepFrom.bin hop (vx := (.int .i64 (j : Int) : Value)) (vy := (.int .i64 0 : Value)) (by kernel_rfl) (by kernel_rfl) (geq_to _ _ _ (by first | assumption | rfl | (simp; done) | (simp; omega))) (by kernel_rfl) hQS (Below.refl _ _) rfl
              refine StepsT.cons (fun (x : Value) (_ : World) => x = (.bool true : Value)) [(15, (fun (x : Value) (_ : World) => x = (.bool true : Value))), (18, (fun (x : Value) (_ : World) => x = (.bool true : Value)))] rfl rfl (fun oq hop _ wq hQS => ?_) ?_
              · refine StepFrom.more_eq ((.bool true : Value)) ?_
                refine StepFrom.more_eq ((.bool true : Value)) ?_
                exact StepFrom.pick hop (b := true) (vx := (.bool true : Value)) (vy := (Value.bool false : Value)) (by kernel_rfl) (by kernel_rfl) (by kernel_rfl) (by kernel_rfl) hQS (Below.refl _ _) rfl
              refine StepsT.cons (fun (x : Value) (_ : World) => x = (.bool true : Value)) [(19, (fun (x : Value) (_ : World) => x = (.bool true : Value)))] rfl rfl (fun oq hop _ wq hQS => ?_) ?_
              · refine StepFrom.more_eq ((.bool true : Value)) ?_
                exact StepFrom.move hop (v := (.bool true : Value)) (by kernel_rfl) (by kernel_rfl) hQS (Below.refl _ _) rfl
              refine StepsT.cons (fun (x : Value) (_ : World) => x = (.pointer (some ⟨w.heap.size + 1, 1, none⟩) : Value)) [(20, (fun (x : Value) (_ : World) => x = (.bool true : Value)))] rfl rfl (fun oq hop _ wq hQS => ?_) ?_
              · refine StepFrom.more_eq ((.bool true : Value)) ?_
                exact StepFrom.fieldAddr hop (p := (.pointer (some ⟨w.heap.size + 1, 0, none⟩) : Value)) (by kernel_rfl) (tm_field 1 (by decide)) (by kernel_rfl) hQS (Below.refl _ _) rfl
              refine StepsT.cons (fun (x : Value) (_ : World) => x = (.int .i64 (j : Int) : Value)) [(20, (fun (x : Value) (_ : World) => x = (.bool true : Value))), (21, (fun (x : Value) (_ : World) => x = (.pointer (some ⟨w.heap.size + 1, 1, none⟩) : Value)))] rfl rfl (fun oq hop _ wq hQS => ?_) ?_
              · refine StepFrom.more_eq ((.bool true : Value)) ?_
                refine StepFrom.more_eq ((.pointer (some ⟨w.heap.size + 1, 1, none⟩) : Value)) ?_
                exact StepFrom.load hop (p := (.pointer (some ⟨w.heap.size + 1, 1, none⟩) : Value)) (by kernel_rfl) (load_int ((hQS.cell (p := ⟨w.heap.size + 1, 1, none⟩) g1).trans x1)) (by kernel_rfl) hQS (Below.refl _ _) rfl
              refine StepsT.cons (fun (x : Value) (_ : World) => x = (.pointer (some ⟨w.heap.size, 3, none⟩) : Value)) [(20, (fun (x : Value) (_ : World) => x = (.bool true : Value)))] rfl rfl (fun oq hop _ wq hQS => ?_) ?_
              · refine StepFrom.more_eq ((.bool true : Value)) ?_
                exact StepFrom.fieldAddr hop (p := (.pointer (some ⟨w.heap.size, 0, none⟩) : Value)) (by kernel_rfl) (wk_consts) (by kernel_rfl) hQS (Below.refl _ _) rfl
              refine StepsT.cons (fun (x : Value) (_ : World) => x = (.slice (some ⟨b, o, none⟩) nc cc : Value)) [(20, (fun (x : Value) (_ : World) => x = (.bool true : Value))), (23, (fun (x : Value) (_ : World) => x = (.pointer (some ⟨w.heap.size, 3, none⟩) : Value)))] rfl rfl (fun oq hop _ wq hQS => ?_) ?_
              · refine StepFrom.more_eq ((.bool true : Value)) ?_
                refine StepFrom.more_eq ((.pointer (some ⟨w.heap.size, 3, none⟩) : Value)) ?_
                exact StepFrom.load hop (p := (.pointer (some ⟨w.heap.size, 3, none⟩) : Value)) (by kernel_rfl) (load_ints ((hQS.cell (p := ⟨w.heap.size, 3, none⟩) g0).trans y3)) (by kernel_rfl) hQS (Below.refl _ _) rfl
              refine StepsT.cons (fun (x : Value) (_ : World) => x = (.int .i64 (nc : Int) : Value)) [(20, (fun (x : Value) (_ : World) => x = (.bool true : Value))), (24, (fun (x : Value) (_ : World) => x = (.slice (some ⟨b, o, none⟩) nc cc : Value)))] rfl rfl (fun oq hop _ wq hQS => ?_) ?_
              · refine StepFrom.more_eq ((.bool true : Value)) ?_
                refine StepFrom.more_eq ((.slice (some ⟨b, o, none⟩) nc cc : Value)) ?_
                exact StepFrom.lenI hop (show _ = (.slice (some ⟨b, o, none⟩) nc cc : Value) by kernel_rfl) (by kernel_rfl) hQS (Below.refl _ _) rfl
              refine StepsT.cons (fun (x : Value) (_ : World) => x = (.bool true : Value)) [(20, (fun (x : Value) (_ : World) => x = (.bool true : Value))), (22, (fun (x : Value) (_ : World) => x = (.int .i64 (j : Int) : Value))), (25, (fun (x : Value) (_ : World) => x = (.int .i64 (nc : Int) : Value)))] rfl rfl (fun oq hop _ wq hQS => ?_) ?_
              · refine StepFrom.more_eq ((.bool true : Value)) ?_
                refine StepFrom.more_eq ((.int .i64 (j : Int) : Value)) ?_
                refine StepFrom.more_eq ((.int .i64 (nc : Int) : Value)) ?_
                exact StepFrom.bin hop (vx := (.int .i64 (j : Int) : Value)) (vy := (.int .i64 (nc : Int) : Value)) (by kernel_rfl) (by kernel_rfl) (lss_to _ _ _ (by first | assumption | rfl | (simp; done) | (simp; omega))) (by kernel_rfl) hQS (Below.refl _ _) rfl
              refine StepsT.cons (fun (x : Value) (_ : World) => x = (.bool true : Value)) [(20, (fun (x : Value) (_ : World) => x = (.bool true : Value))), (26, (fun (x : Value) (_ : World) => x = (.bool true : Value)))] rfl rfl (fun oq hop _ wq hQS => ?_) ?_
              · refine StepFrom.more_eq ((.bool true : Value)) ?_
                refine StepFrom.more_eq ((.bool true : Value)) ?_
                exact StepFrom.pick hop (b := true) (vx := (.bool true : Value)) (vy := (Value.bool false : Value)) (by kernel_rfl) (by kernel_rfl) (by kernel_rfl) (by kernel_rfl) hQS (Below.refl _ _) rfl
              refine StepsT.cons (fun (x : Value) (_ : World) => x = (.bool true : Value)) [(27, (fun (x : Value) (_ : World) => x = (.bool true : Value)))] rfl rfl (fun oq hop _ wq hQS => ?_) ?_
              · refine StepFrom.more_eq ((.bool true : Value)) ?_
                exact StepFrom.move hop (v := (.bool true : Value)) (by kernel_rfl) (by kernel_rfl) hQS (Below.refl _ _) rfl
              refine StepsT.cons (fun (x : Value) (_ : World) => x = (.pointer (some ⟨w.heap.size + 1, 3, none⟩) : Value)) [(28, (fun (x : Value) (_ : World) => x = (.bool true : Value)))] rfl rfl (fun oq hop _ wq hQS => ?_) ?_
              · refine StepFrom.more_eq ((.bool true : Value)) ?_
                exact StepFrom.fieldAddr hop (p := (.pointer (some ⟨w.heap.size + 1, 0, none⟩) : Value)) (by kernel_rfl) (tm_field 3 (by decide)) (by kernel_rfl) hQS (Below.refl _ _) rfl
              refine StepsT.cons (fun (x : Value) (_ : World) => x = (.slice A1 p1 c1 : Value)) [(28, (fun (x : Value) (_ : World) => x = (.bool true : Value))), (29, (fun (x : Value) (_ : World) => x = (.pointer (some ⟨w.heap.size + 1, 3, none⟩) : Value)))] rfl rfl (fun oq hop _ wq hQS => ?_) ?_
              · refine StepFrom.more_eq ((.bool true : Value)) ?_
                refine StepFrom.more_eq ((.pointer (some ⟨w.heap.size + 1, 3, none⟩) : Value)) ?_
                exact StepFrom.load hop (p := (.pointer (some ⟨w.heap.size + 1, 3, none⟩) : Value)) (by kernel_rfl) (load_levels ((hQS.cell (p := ⟨w.heap.size + 1, 3, none⟩) g1).trans x3)) (by kernel_rfl) hQS (Below.refl _ _) rfl
              refine StepsT.cons (fun (x : Value) (_ : World) => x = (.int .i64 (p1 : Int) : Value)) [(28, (fun (x : Value) (_ : World) => x = (.bool true : Value))), (30, (fun (x : Value) (_ : World) => x = (.slice A1 p1 c1 : Value)))] rfl rfl (fun oq hop _ wq hQS => ?_) ?_
              · refine StepFrom.more_eq ((.bool true : Value)) ?_
                refine StepFrom.more_eq ((.slice A1 p1 c1 : Value)) ?_
                exact StepFrom.len hop (show _ = (.slice A1 p1 c1 : Value) by kernel_rfl) (by kernel_rfl) hQS (Below.refl _ _) rfl
              refine StepsT.cons (fun (x : Value) (_ : World) => x = (.pointer (some ⟨w.heap.size, 3, none⟩) : Value)) [(28, (fun (x : Value) (_ : World) => x = (.bool true : Value)))] rfl rfl (fun oq hop _ wq hQS => ?_) ?_
              · refine StepFrom.more_eq ((.bool true : Value)) ?_
                exact StepFrom.fieldAddr hop (p := (.pointer (some ⟨w.heap.size, 0, none⟩) : Value)) (by kernel_rfl) (wk_consts) (by kernel_rfl) hQS (Below.refl _ _) rfl
              refine StepsT.cons (fun (x : Value) (_ : World) => x = (.slice (some ⟨b, o, none⟩) nc cc : Value)) [(28, (fun (x : Value) (_ : World) => x = (.bool true : Value))), (32, (fun (x : Value) (_ : World) => x = (.pointer (some ⟨w.heap.size, 3, none⟩) : Value)))] rfl rfl (fun oq hop _ wq hQS => ?_) ?_
              · refine StepFrom.more_eq ((.bool true : Value)) ?_
                refine StepFrom.more_eq ((.pointer (some ⟨w.heap.size, 3, none⟩) : Value)) ?_
                exact StepFrom.load hop (p := (.pointer (some ⟨w.heap.size, 3, none⟩) : Value)) (by kernel_rfl) (load_ints ((hQS.cell (p := ⟨w.heap.size, 3, none⟩) g0).trans y3)) (by kernel_rfl) hQS (Below.refl _ _) rfl
              refine StepsT.cons (fun (x : Value) (_ : World) => x = (.pointer (some ⟨w.heap.size + 1, 1, none⟩) : Value)) [(28, (fun (x : Value) (_ : World) => x = (.bool true : Value)))] rfl rfl (fun oq hop _ wq hQS => ?_) ?_
              · refine StepFrom.more_eq ((.bool true : Value)) ?_
                exact StepFrom.fieldAddr hop (p := (.pointer (some ⟨w.heap.size + 1, 0, none⟩) : Value)) (by kernel_rfl) (tm_field 1 (by decide)) (by kernel_rfl) hQS (Below.refl _ _) rfl
              refine StepsT.cons (fun (x : Value) (_ : World) => x = (.int .i64 (j : Int) : Value)) [(28, (fun (x : Value) (_ : World) => x = (.bool true : Value))), (34, (fun (x : Value) (_ : World) => x = (.pointer (some ⟨w.heap.size + 1, 1, none⟩) : Value)))] rfl rfl (fun oq hop _ wq hQS => ?_) ?_
              · refine StepFrom.more_eq ((.bool true : Value)) ?_
                refine StepFrom.more_eq ((.pointer (some ⟨w.heap.size + 1, 1, none⟩) : Value)) ?_
                exact StepFrom.load hop (p := (.pointer (some ⟨w.heap.size + 1, 1, none⟩) : Value)) (by kernel_rfl) (load_int ((hQS.cell (p := ⟨w.heap.size + 1, 1, none⟩) g1).trans x1)) (by kernel_rfl) hQS (Below.refl _ _) rfl
              refine StepsT.cons (fun (x : Value) (_ : World) => x = (.pointer (some ⟨b, o + j, none⟩) : Value)) [(28, (fun (x : Value) (_ : World) => x = (.bool true : Value))), (33, (fun (x : Value) (_ : World) => x = (.slice (some ⟨b, o, none⟩) nc cc : Value))), (35, (fun (x : Value) (_ : World) => x = (.int .i64 (j : Int) : Value)))] rfl rfl (fun oq hop _ wq hQS => ?_) ?_
              · refine StepFrom.more_eq ((.bool true : Value)) ?_
                refine StepFrom.more_eq ((.slice (some ⟨b, o, none⟩) nc cc : Value)) ?_
                refine StepFrom.more_eq ((.int .i64 (j : Int) : Value)) ?_
                exact StepFrom.indexAddr hop (p := (.slice (some ⟨b, o, none⟩) nc cc : Value)) (q := (.int .i64 (j : Int) : Value)) (by kernel_rfl) (by kernel_rfl) (int_addr_o gj0 gj1) (by kernel_rfl) hQS (Below.refl _ _) rfl
              refine StepsT.cons (fun (x : Value) (_ : World) => x = (.int .i64 cj : Value)) [(28, (fun (x : Value) (_ : World) => x = (.bool true : Value))), (36, (fun (x : Value) (_ : World) => x = (.pointer (some ⟨b, o + j, none⟩) : Value)))] rfl rfl (fun oq hop _ wq hQS => ?_) ?_
              · refine StepFrom.more_eq ((.bool true : Value)) ?_
                refine StepFrom.more_eq ((.pointer (some ⟨b, o + j, none⟩) : Value)) ?_
                exact StepFrom.load hop (p := (.pointer (some ⟨b, o + j, none⟩) : Value)) (by kernel_rfl) (load_int ((hQS.cell (p := ⟨b, o + j, none⟩) gb).trans hcj)) (by kernel_rfl) hQS (Below.refl _ _) rfl
              refine StepsT.cons (fun (x : Value) (_ : World) => x = (.bool false : Value)) [(28, (fun (x : Value) (_ : World) => x = (.bool true : Value))), (31, (fun (x : Value) (_ : World) => x = (.int .i64 (p1 : Int) : Value))), (37, (fun (x : Value) (_ : World) => x = (.int .i64 cj : Value)))] rfl rfl (fun oq hop _ wq hQS => ?_) ?_
              · refine StepFrom.more_eq ((.bool true : Value)) ?_
                refine StepFrom.more_eq ((.int .i64 (p1 : Int) : Value)) ?_
                refine StepFrom.more_eq ((.int .i64 cj : Value)) ?_
                exact StepFrom.bin hop (vx := (.int .i64 (p1 : Int) : Value)) (vy := (.int .i64 cj : Value)) (by kernel_rfl) (by kernel_rfl) (eql_to _ _ _ (by first | assumption | rfl | (simp; done) | (simp; omega))) (by kernel_rfl) hQS (Below.refl _ _) rfl
              refine StepsT.cons (fun (x : Value) (_ : World) => x = (.bool false : Value)) [(28, (fun (x : Value) (_ : World) => x = (.bool true : Value))), (38, (fun (x : Value) (_ : World) => x = (.bool false : Value)))] rfl rfl (fun oq hop _ wq hQS => ?_) ?_
              · refine StepFrom.more_eq ((.bool true : Value)) ?_
                refine StepFrom.more_eq ((.bool false : Value)) ?_
                exact StepFrom.pick hop (b := true) (vx := (.bool false : Value)) (vy := (Value.bool false : Value)) (by kernel_rfl) (by kernel_rfl) (by kernel_rfl) (by kernel_rfl) hQS (Below.refl _ _) rfl
              exact StepsT.nil
            case hfin =>
              intro wf hFS
              refine FinalFrom.more fun x6 h6 => ?_
              refine FinalFrom.more fun x7 h7 => ?_
              refine FinalFrom.more fun x8 h8 => ?_
              refine FinalFrom.more fun x9 h9 => ?_
              refine FinalFrom.more fun x10 h10 => ?_
              refine FinalFrom.more fun x11 h11 => ?_
              refine FinalFrom.more fun x12 h12 => ?_
              refine FinalFrom.more fun x13 h13 => ?_
              refine FinalFrom.more fun x14 h14 => ?_
              refine FinalFrom.more fun x15 h15 => ?_
              refine FinalFrom.more fun x16 h16 => ?_
              refine FinalFrom.more fun x17 h17 => ?_
              refine FinalFrom.more fun x18 h18 => ?_
              refine FinalFrom.more fun x19 h19 => ?_
              refine FinalFrom.more fun x20 h20 => ?_
              refine FinalFrom.more fun x21 h21 => ?_
              refine FinalFrom.more fun x22 h22 => ?_
              refine FinalFrom.more fun x23 h23 => ?_
              refine FinalFrom.more fun x24 h24 => ?_
              refine FinalFrom.more fun x25 h25 => ?_
              refine FinalFrom.more fun x26 h26 => ?_
              refine FinalFrom.more fun x27 h27 => ?_
              refine FinalFrom.more fun x28 h28 => ?_
              refine FinalFrom.more fun x29 h29 => ?_
              refine FinalFrom.more fun x30 h30 => ?_
              refine FinalFrom.more fun x31 h31 => ?_
              refine FinalFrom.more fun x32 h32 => ?_
              refine FinalFrom.more fun x33 h33 => ?_
              refine FinalFrom.more fun x34 h34 => ?_
              refine FinalFrom.more fun x35 h35 => ?_
              refine FinalFrom.more fun x36 h36 => ?_
              refine FinalFrom.more fun x37 h37 => ?_
              refine FinalFrom.more fun x38 h38 => ?_
              refine FinalFrom.more fun x39 h39 => ?_
              refine FinalFrom.done ?_
              intro _
              have HB3 := Lib.hid (HB.out.trans (hFS.mono HB.out.size))
              obtain rfl : x39 = (.bool false : Value) := h39
              simp only [Act.put, List.setIfInBounds_toArray, List.set_cons_zero, List.set_cons_succ, List.drop_succ_cons, List.drop_zero]
              clear HDR y2 y3 x1 x2 x3 x4 hS hFS g0 g1
              go_wp2_with (fail)
              refine (must_any false _).mono ?_
              rintro e w5 h
              obtain ⟨rfl, hb⟩ := h.2 rfl
              have HF := Lib.hid (HB3.out.trans (hb.mono HB3.out.size))
              clear h hb
              go_wp2
              exact ⟨rfl, MustPost.no ⟨rfl, HF.out⟩⟩
        · have e3 : decide ((j : Int) < (nc : Int)) = false := by simpa using h3
          have hnc2 := HNC.out
          have hr2 : r = false := by rw [← hr]; simp_all <;> omega
          subst hr2
          clear hnc2
          clear hr
          go_enter Tryd.func38, Tryd.ntmps38
          have g0 : w.heap.size < w1.heap.size := by have := HS.out; omega
          have g1 : w.heap.size + 1 < w1.heap.size := by have := HS.out; omega
          have hS := HDR.out
          go_upto_region 1 with (fail)
          refine wp_region_tail 34 (fun w' => Below w1.heap.size w1 w') (fun w1 w2 : World => Below w1.heap.size w1 w2) [(fun (x : Value) (_ : World) => x = (.pointer (some ⟨w.heap.size + 1, 2, none⟩) : Value)), (fun (x : Value) (_ : World) => x = (.int .i64 0 : Value)), (fun (x : Value) (_ : World) => x = (.bool true : Value)), (fun (x : Value) (_ : World) => x = (.bool true : Value)), (fun (x : Value) (_ : World) => x = (.pointer (some ⟨w.heap.size + 1, 4, none⟩) : Value)), (fun (x : Value) (_ : World) => x = (.slice A2 0 c2 : Value)), (fun (x : Value) (_ : World) => x = (.int .i64 (0 : Int) : Value)), (fun (x : Value) (_ : World) => x = (.bool true : Value)), (fun (x : Value) (_ : World) => x = (.bool true : Value)), (fun (x : Value) (_ : World) => x = (.bool true : Value)), (fun (x : Value) (_ : World) => x = (.pointer (some ⟨w.heap.size + 1, 1, none⟩) : Value)), (fun (x : Value) (_ : World) => x = (.int .i64 (j : Int) : Value)), (fun (x : Value) (_ : World) => x = (.bool true : Value)), (fun (x : Value) (_ : World) => x = (.bool true : Value)), (fun (x : Value) (_ : World) => x = (.bool true : Value)), (fun (x : Value) (_ : World) => x = (.pointer (some ⟨w.heap.size + 1, 1, none⟩) : Value)), (fun (x : Value) (_ : World) => x = (.int .i64 (j : Int) : Value)), (fun (x : Value) (_ : World) => x = (.pointer (some ⟨w.heap.size, 3, none⟩) : Value)), (fun (x : Value) (_ : World) => x = (.slice A nc cc : Value)), (fun (x : Value) (_ : World) => x = (.int .i64 (nc : Int) : Value)), (fun (x : Value) (_ : World) => x = (.bool false : Value)), (fun (x : Value) (_ : World) => x = (.bool false : Value)), (fun (x : Value) (_ : World) => x = (.bool false : Value)), (fun (x : Value) (_ : World) => x = undef), (fun (x : Value) (_ : World) => x = undef), (fun (x : Value) (_ : World) => x = undef), (fun (x : Value) (_ : World) => x = undef), (fun (x : Value) (_ : World) => x = undef), (fun (x : Value) (_ : World) => x = undef), (fun (x : Value) (_ : World) => x = undef), (fun (x : Value) (_ : World) => x = undef), (fun (x : Value) (_ : World) => x = undef), (fun (x : Value) (_ : World) => x = undef), (fun (x : Value) (_ : World) => x = (.bool false : Value))] [⟨some 6, .fieldAddr 27 (.tmp 3) 2, none, []⟩, ⟨some 7, .load 3 (.tmp 6), none, [(6, 0)]⟩, ⟨some 8, .binOp .eql 3 (.tmp 7) (.const (.int .i64 0)) 3, none, [(7, 1)]⟩, ⟨some 9, .move (.tmp 8), none, [(8, 2)]⟩, ⟨some 10, .fieldAddr 27 (.tmp 3) 4, some (some 9, true), [(9, 3)]⟩, ⟨some 11, .load 25 (.tmp 10), some (some 9, true), [(9, 3), (10, 4)]⟩, ⟨some 12, .call { callee := .builtin .len, args := #[.tmp 11], argTypes := #[25] }, some (some 9, true), [(9, 3), (11, 5)]⟩, ⟨some 13, .binOp .eql 3 (.tmp 12) (.const (.int .i64 0)) 3, some (some 9, true), [(9, 3), (12, 6)]⟩, ⟨some 14, .pick (.tmp 9) (.tmp 13) (.const (Value.bool false)), none, [(9, 3), (13, 7)]⟩, ⟨some 15, .move (.tmp 14), none, [(14, 8)]⟩, ⟨some 16, .fieldAddr 27 (.tmp 3) 1, some (some 15, true), [(15, 9)]⟩, ⟨some 17, .load 3 (.tmp 16), some (some 15, true), [(15, 9), (16, 10)]⟩, ⟨some 18, .binOp .geq 3 (.tmp 17) (.const (.int .i64 0)) 3, some (some 15, true), [(15, 9), (17, 11)]⟩, ⟨some 19, .pick (.tmp 15) (.tmp 18) (.const (Value.bool false)), none, [(15, 9), (18, 12)]⟩, ⟨some 20, .move (.tmp 19), none, [(19, 13)]⟩, ⟨some 21, .fieldAddr 27 (.tmp 3) 1, some (some 20, true), [(20, 14)]⟩, ⟨some 22, .load 3 (.tmp 21), some (some 20, true), [(20, 14), (21, 15)]⟩, ⟨some 23, .fieldAddr 55 (.tmp 2) 2, some (some 20, true), [(20, 14)]⟩, ⟨some 24, .load 22 (.tmp 23), some (some 20, true), [(20, 14), (23, 17)]⟩, ⟨some 25, .call { callee := .builtin .len, args := #[.tmp 24], argTypes := #[22] }, some (some 20, true), [(20, 14), (24, 18)]⟩, ⟨some 26, .binOp .lss 3 (.tmp 22) (.tmp 25) 3, some (some 20, true), [(20, 14), (22, 16), (25, 19)]⟩, ⟨some 27, .pick (.tmp 20) (.tmp 26) (.const (Value.bool false)), none, [(20, 14), (26, 20)]⟩, ⟨some 28, .move (.tmp 27), none, [(27, 21)]⟩, ⟨some 29, .fieldAddr 27 (.tmp 3) 3, some (some 28, true), [(28, 22)]⟩, ⟨some 30, .load 24 (.tmp 29), some (some 28, true), [(28, 22), (29, 23)]⟩, ⟨some 31, .call { callee := .builtin .len, args := #[.tmp 30], argTypes := #[24] }, some (some 28, true), [(28, 22), (30, 24)]⟩, ⟨some 32, .fieldAddr 55 (.tmp 2) 2, some (some 28, true), [(28, 22)]⟩, ⟨some 33, .load 22 (.tmp 32), some (some 28, true), [(28, 22), (32, 26)]⟩, ⟨some 34, .fieldAddr 27 (.tmp 3) 1, some (some 28, true), [(28, 22)]⟩, ⟨some 35, .load 3 (.tmp 34), some (some 28, true), [(28, 22), (34, 28)]⟩, ⟨some 36, .indexAddr 22 (.tmp 33) (.tmp 35), some (some 28, true), [(28, 22), (33, 27), (35, 29)]⟩, ⟨some 37, .load 3 (.tmp 36), some (some 28, true), [(28, 22), (36, 30)]⟩, ⟨some 38, .binOp .eql 3 (.tmp 31) (.tmp 37) 3, some (some 28, true), [(28, 22), (31, 25), (37, 31)]⟩, ⟨some 39, .pick (.tmp 28) (.tmp 38) (.const (Value.bool false)), none, [(28, 22), (38, 32)]⟩] [some 6, some 7, some 8, some 9, some 10, some 11, some 12, some 13, some 14, some 15, some 16, some 17, some 18, some 19, some 20, some 21, some 22, some 23, some 24, some 25, some 26, some 27, some 28, some 29, some 30, some 31, some 32, some 33, some 34, some 35, some 36, some 37, some 38, some 39] [] [] (by kernel_rfl) (by kernel_rfl) (by kernel_rfl) (by kernel_rfl) (by kernel_rfl) (by kernel_rfl) (by kernel_rfl) (by kernel_rfl) ?hrun ?hold ?hS ?hmono ?hsteps ?hfin
          case hrun => exact fun p hp => by cases hp
          case hold => exact fun p hp => by cases hp
          case hS => exact hS
          case hmono =>
            refine MonoL.cons (fun x w1 w2 _ _ _ hx => hx) ?_
            refine MonoL.cons (fun x w1 w2 _ _ _ hx => hx) ?_
            refine MonoL.cons (fun x w1 w2 _ _ _ hx => hx) ?_
            refine MonoL.cons (fun x w1 w2 _ _ _ hx => hx) ?_
            refine MonoL.cons (fun x w1 w2 _ _ _ hx => hx) ?_
            refine MonoL.cons (fun x w1 w2 _ _ _ hx => hx) ?_
            refine MonoL.cons (fun x w1 w2 _ _ _ hx => hx) ?_
            refine MonoL.cons (fun x w1 w2 _ _ _ hx => hx) ?_
            refine MonoL.cons (fun x w1 w2 _ _ _ hx => hx) ?_
            refine MonoL.cons (fun x w1 w2 _ _ _ hx => hx) ?_
            refine MonoL.cons (fun x w1 w2 _ _ _ hx => hx) ?_
            refine MonoL.cons (fun x w1 w2 _ _ _ hx => hx) ?_
            refine MonoL.cons (fun x w1 w2 _ _ _ hx => hx) ?_
            refine MonoL.cons (fun x w1 w2 _ _ _ hx => hx) ?_
            refine MonoL.cons (fun x w1 w2 _ _ _ hx => hx) ?_
            refine MonoL.cons (fun x w1 w2 _ _ _ hx => hx) ?_
            refine MonoL.cons (fun x w1 w2 _ _ _ hx => hx) ?_
            refine MonoL.cons (fun x w1 w2 _ _ _ hx => hx) ?_
            refine MonoL.cons (fun x w1 w2 _ _ _ hx => hx) ?_
            refine MonoL.cons (fun x w1 w2 _ _ _ hx => hx) ?_
            refine MonoL.cons (fun x w1 w2 _ _ _ hx => hx) ?_
            refine MonoL.cons (fun x w1 w2 _ _ _ hx => hx) ?_
            refine MonoL.cons (fun x w1 w2 _ _ _ hx => hx) ?_
            refine MonoL.cons (fun x w1 w2 _ _ _ hx => hx) ?_
            refine MonoL.cons (fun x w1 w2 _ _ _ hx => hx) ?_
            refine MonoL.cons (fun x w1 w2 _ _ _ hx => hx) ?_
            refine MonoL.cons (fun x w1 w2 _ _ _ hx => hx) ?_
            refine MonoL.cons (fun x w1 w2 _ _ _ hx => hx) ?_
            refine MonoL.cons (fun x w1 w2 _ _ _ hx => hx) ?_
            refine MonoL.cons (fun x w1 w2 _ _ _ hx => hx) ?_
            refine MonoL.cons (fun x w1 w2 _ _ _ hx => hx) ?_
            refine MonoL.cons (fun x w1 w2 _ _ _ hx => hx) ?_
            refine MonoL.cons (fun x w1 w2 _ _ _ hx => hx) ?_
            refine MonoL.cons (fun x w1 w2 _ _ _ hx => hx) ?_
            exact MonoL.nil
          case hsteps =>
            refine StepsT.cons (fun (x : Value) (_ : World) => x = (.pointer (some ⟨w.heap.size + 1, 2, none⟩) : Value)) [] rfl rfl (fun oq hop _ wq hQS => ?_) ?_
            · exact StepFrom.fieldAddr hop (p := (.pointer (some ⟨w.heap.size + 1, 0, none⟩) : Value)) (by kernel_rfl) (tm_field 2 (by decide)) (by kernel_rfl) hQS (Below.refl _ _) rfl
            refine StepsT.cons (fun (x : Value) (_ : World) => x = (.int .i64 0 : Value)) [(6, (fun (x : Value) (_ : World) => x = (.pointer (some ⟨w.heap.size + 1, 2, none⟩) : Value)))] rfl rfl (fun oq hop _ wq hQS => ?_) ?_
            · refine StepFrom.more_eq ((.pointer (some ⟨w.heap.size + 1, 2, none⟩) : Value)) ?_
              exact StepFrom.load hop (p := (.pointer (some ⟨w.heap.size + 1, 2, none⟩) : Value)) (by kernel_rfl) (load_int ((hQS.cell (p := ⟨w.heap.size + 1, 2, none⟩) g1).trans x2)) (by kernel_rfl) hQS (Below.refl _ _) rfl
            refine StepsT.cons (fun (x : Value) (_ : World) => x = (.bool true : Value)) [(7, (fun (x : Value) (_ : World) => x = (.int .i64 0 : Value)))] rfl rfl (fun oq hop _ wq hQS => ?_) ?_
            · refine StepFrom.more_eq ((.int .i64 0 : Value)) ?_
              exact StepFrom.bin hop (vx := (.int .i64 0 : Value)) (vy := (.int .i64 0 : Value)) (by kernel_rfl) (by kernel_rfl) (eql_to _ _ _ (by first | assumption | rfl | (simp; done) | (simp; omega))) (by kernel_rfl) hQS (Below.refl _ _) rfl
            refine StepsT.cons (fun (x : Value) (_ : World) => x = (.bool true : Value)) [(8, (fun (x : Value) (_ : World) => x = (.bool true : Value)))] rfl rfl (fun oq hop _ wq hQS => ?_) ?_
            · refine StepFrom.more_eq ((.bool true : Value)) ?_
              exact StepFrom.move hop (v := (.bool true : Value)) (by kernel_rfl) (by kernel_rfl) hQS (Below.refl _ _) rfl
            refine StepsT.cons (fun (x : Value) (_ : World) => x = (.pointer (some ⟨w.heap.size + 1, 4, none⟩) : Value)) [(9, (fun (x : Value) (_ : World) => x = (.bool true : Value)))] rfl rfl (fun oq hop _ wq hQS => ?_) ?_
            · refine StepFrom.more_eq ((.bool true : Value)) ?_
              exact StepFrom.fieldAddr hop (p := (.pointer (some ⟨w.heap.size + 1, 0, none⟩) : Value)) (by kernel_rfl) (tm_field 4 (by decide)) (by kernel_rfl) hQS (Below.refl _ _) rfl
            refine StepsT.cons (fun (x : Value) (_ : World) => x = (.slice A2 0 c2 : Value)) [(9, (fun (x : Value) (_ : World) => x = (.bool true : Value))), (10, (fun (x : Value) (_ : World) => x = (.pointer (some ⟨w.heap.size + 1, 4, none⟩) : Value)))] rfl rfl (fun oq hop _ wq hQS => ?_) ?_
            · refine StepFrom.more_eq ((.bool true : Value)) ?_
              refine StepFrom.more_eq ((.pointer (some ⟨w.heap.size + 1, 4, none⟩) : Value)) ?_
              exact StepFrom.load hop (p := (.pointer (some ⟨w.heap.size + 1, 4, none⟩) : Value)) (by kernel_rfl) (load_terms ((hQS.cell (p := ⟨w.heap.size + 1, 4, none⟩) g1).trans x4)) (by kernel_rfl) hQS (Below.refl _ _) rfl
            refine StepsT.cons (fun (x : Value) (_ : World) => x = (.int .i64 (0 : Int) : Value)) [(9, (fun (x : Value) (_ : World) => x = (.bool true : Value))), (11, (fun (x : Value) (_ : World) => x = (.slice A2 0 c2 : Value)))] rfl rfl (fun oq hop _ wq hQS => ?_) ?_
            · refine StepFrom.more_eq ((.bool true : Value)) ?_
              refine StepFrom.more_eq ((.slice A2 0 c2 : Value)) ?_
              exact StepFrom.lenT hop (show _ = (.slice A2 0 c2 : Value) by kernel_rfl) (by kernel_rfl) hQS (Below.refl _ _) rfl
            refine StepsT.cons (fun (x : Value) (_ : World) => x = (.bool true : Value)) [(9, (fun (x : Value) (_ : World) => x = (.bool true : Value))), (12, (fun (x : Value) (_ : World) => x = (.int .i64 (0 : Int) : Value)))] rfl rfl (fun oq hop _ wq hQS => ?_) ?_
            · refine StepFrom.more_eq ((.bool true : Value)) ?_
              refine StepFrom.more_eq ((.int .i64 (0 : Int) : Value)) ?_
              exact StepFrom.bin hop (vx := (.int .i64 (0 : Int) : Value)) (vy := (.int .i64 0 : Value)) (by kernel_rfl) (by kernel_rfl) (eql_to _ _ _ (by first | assumption | rfl | (simp; done) | (simp; omega))) (by kernel_rfl) hQS (Below.refl _ _) rfl
            refine StepsT.cons (fun (x : Value) (_ : World) => x = (.bool true : Value)) [(9, (fun (x : Value) (_ : World) => x = (.bool true : Value))), (13, (fun (x : Value) (_ : World) => x = (.bool true : Value)))] rfl rfl (fun oq hop _ wq hQS => ?_) ?_
            · refine StepFrom.more_eq ((.bool true : Value)) ?_
              refine StepFrom.more_eq ((.bool true : Value)) ?_
              exact StepFrom.pick hop (b := true) (vx := (.bool true : Value)) (vy := (Value.bool false : Value)) (by kernel_rfl) (by kernel_rfl) (by kernel_rfl) (by kernel_rfl) hQS (Below.refl _ _) rfl
            refine StepsT.cons (fun (x : Value) (_ : World) => x = (.bool true : Value)) [(14, (fun (x : Value) (_ : World) => x = (.bool true : Value)))] rfl rfl (fun oq hop _ wq hQS => ?_) ?_
            · refine StepFrom.more_eq ((.bool true : Value)) ?_
              exact StepFrom.move hop (v := (.bool true : Value)) (by kernel_rfl) (by kernel_rfl) hQS (Below.refl _ _) rfl
            refine StepsT.cons (fun (x : Value) (_ : World) => x = (.pointer (some ⟨w.heap.size + 1, 1, none⟩) : Value)) [(15, (fun (x : Value) (_ : World) => x = (.bool true : Value)))] rfl rfl (fun oq hop _ wq hQS => ?_) ?_
            · refine StepFrom.more_eq ((.bool true : Value)) ?_
              exact StepFrom.fieldAddr hop (p := (.pointer (some ⟨w.heap.size + 1, 0, none⟩) : Value)) (by kernel_rfl) (tm_field 1 (by decide)) (by kernel_rfl) hQS (Below.refl _ _) rfl
            refine StepsT.cons (fun (x : Value) (_ : World) => x = (.int .i64 (j : Int) : Value)) [(15, (fun (x : Value) (_ : World) => x = (.bool true : Value))), (16, (fun (x : Value) (_ : World) => x = (.pointer (some ⟨w.heap.size + 1, 1, none⟩) : Value)))] rfl rfl (fun oq hop _ wq hQS => ?_) ?_
            · refine StepFrom.more_eq ((.bool true : Value)) ?_
              refine StepFrom.more_eq ((.pointer (some ⟨w.heap.size + 1, 1, none⟩) : Value)) ?_
              exact StepFrom.load hop (p := (.pointer (some ⟨w.heap.size + 1, 1, none⟩) : Value)) (by kernel_rfl) (load_int ((hQS.cell (p := ⟨w.heap.size + 1, 1, none⟩) g1).trans x1)) (by kernel_rfl) hQS (Below.refl _ _) rfl
            refine StepsT.cons (fun (x : Value) (_ : World) => x = (.bool true : Value)) [(15, (fun (x : Value) (_ : World) => x = (.bool true : Value))), (17, (fun (x : Value) (_ : World) => x = (.int .i64 (j : Int) : Value)))] rfl rfl (fun oq hop _ wq hQS => ?_) ?_
            · refine StepFrom.more_eq ((.bool true : Value)) ?_
              refine StepFrom.more_eq ((.int .i64 (j : Int) : Value)) ?_
              exact StepFrom.bin hop (vx := (.int .i64 (j : Int) : Value)) (vy := (.int .i64 0 : Value)) (by kernel_rfl) (by kernel_rfl) (geq_to _ _ _ (by first | assumption | rfl | (simp; done) | (simp; omega))) (by kernel_rfl) hQS (Below.refl _ _) rfl
            refine StepsT.cons (fun (x : Value) (_ : World) => x = (.bool true : Value)) [(15, (fun (x : Value) (_ : World) => x = (.bool true : Value))), (18, (fun (x : Value) (_ : World) => x = (.bool true : Value)))] rfl rfl (fun oq hop _ wq hQS => ?_) ?_
            · refine StepFrom.more_eq ((.bool true : Value)) ?_
              refine StepFrom.more_eq ((.bool true : Value)) ?_
              exact StepFrom.pick hop (b := true) (vx := (.bool true : Value)) (vy := (Value.bool false : Value)) (by kernel_rfl) (by kernel_rfl) (by kernel_rfl) (by kernel_rfl) hQS (Below.refl _ _) rfl
            refine StepsT.cons (fun (x : Value) (_ : World) => x = (.bool true : Value)) [(19, (fun (x : Value) (_ : World) => x = (.bool true : Value)))] rfl rfl (fun oq hop _ wq hQS => ?_) ?_
            · refine StepFrom.more_eq ((.bool true : Value)) ?_
              exact StepFrom.move hop (v := (.bool true : Value)) (by kernel_rfl) (by kernel_rfl) hQS (Below.refl _ _) rfl
            refine StepsT.cons (fun (x : Value) (_ : World) => x = (.pointer (some ⟨w.heap.size + 1, 1, none⟩) : Value)) [(20, (fun (x : Value) (_ : World) => x = (.bool true : Value)))] rfl rfl (fun oq hop _ wq hQS => ?_) ?_
            · refine StepFrom.more_eq ((.bool true : Value)) ?_
              exact StepFrom.fieldAddr hop (p := (.pointer (some ⟨w.heap.size + 1, 0, none⟩) : Value)) (by kernel_rfl) (tm_field 1 (by decide)) (by kernel_rfl) hQS (Below.refl _ _) rfl
            refine StepsT.cons (fun (x : Value) (_ : World) => x = (.int .i64 (j : Int) : Value)) [(20, (fun (x : Value) (_ : World) => x = (.bool true : Value))), (21, (fun (x : Value) (_ : World) => x = (.pointer (some ⟨w.heap.size + 1, 1, none⟩) : Value)))] rfl rfl (fun oq hop _ wq hQS => ?_) ?_
            · refine StepFrom.more_eq ((.bool true : Value)) ?_
              refine StepFrom.more_eq ((.pointer (some ⟨w.heap.size + 1, 1, none⟩) : Value)) ?_
              exact StepFrom.load hop (p := (.pointer (some ⟨w.heap.size + 1, 1, none⟩) : Value)) (by kernel_rfl) (load_int ((hQS.cell (p := ⟨w.heap.size + 1, 1, none⟩) g1).trans x1)) (by kernel_rfl) hQS (Below.refl _ _) rfl
            refine StepsT.cons (fun (x : Value) (_ : World) => x = (.pointer (some ⟨w.heap.size, 3, none⟩) : Value)) [(20, (fun (x : Value) (_ : World) => x = (.bool true : Value)))] rfl rfl (fun oq hop _ wq hQS => ?_) ?_
            · refine StepFrom.more_eq ((.bool true : Value)) ?_
              exact StepFrom.fieldAddr hop (p := (.pointer (some ⟨w.heap.size, 0, none⟩) : Value)) (by kernel_rfl) (wk_consts) (by kernel_rfl) hQS (Below.refl _ _) rfl
            refine StepsT.cons (fun (x : Value) (_ : World) => x = (.slice A nc cc : Value)) [(20, (fun (x : Value) (_ : World) => x = (.bool true : Value))), (23, (fun (x : Value) (_ : World) => x = (.pointer (some ⟨w.heap.size, 3, none⟩) : Value)))] rfl rfl (fun oq hop _ wq hQS => ?_) ?_
            · refine StepFrom.more_eq ((.bool true : Value)) ?_
              refine StepFrom.more_eq ((.pointer (some ⟨w.heap.size, 3, none⟩) : Value)) ?_
              exact StepFrom.load hop (p := (.pointer (some ⟨w.heap.size, 3, none⟩) : Value)) (by kernel_rfl) (load_ints ((hQS.cell (p := ⟨w.heap.size, 3, none⟩) g0).trans y3)) (by kernel_rfl) hQS (Below.refl _ _) rfl
            refine StepsT.cons (fun (x : Value) (_ : World) => x = (.int .i64 (nc : Int) : Value)) [(20, (fun (x : Value) (_ : World) => x = (.bool true : Value))), (24, (fun (x : Value) (_ : World) => x = (.slice A nc cc : Value)))] rfl rfl (fun oq hop _ wq hQS => ?_) ?_
            · refine StepFrom.more_eq ((.bool true : Value)) ?_
              refine StepFrom.more_eq ((.slice A nc cc : Value)) ?_
              exact StepFrom.lenI hop (show _ = (.slice A nc cc : Value) by kernel_rfl) (by kernel_rfl) hQS (Below.refl _ _) rfl
            refine StepsT.cons (fun (x : Value) (_ : World) => x = (.bool false : Value)) [(20, (fun (x : Value) (_ : World) => x = (.bool true : Value))), (22, (fun (x : Value) (_ : World) => x = (.int .i64 (j : Int) : Value))), (25, (fun (x : Value) (_ : World) => x = (.int .i64 (nc : Int) : Value)))] rfl rfl (fun oq hop _ wq hQS => ?_) ?_
            · refine StepFrom.more_eq ((.bool true : Value)) ?_
              refine StepFrom.more_eq ((.int .i64 (j : Int) : Value)) ?_
              refine StepFrom.more_eq ((.int .i64 (nc : Int) : Value)) ?_
              exact StepFrom.bin hop (vx := (.int .i64 (j : Int) : Value)) (vy := (.int .i64 (nc : Int) : Value)) (by kernel_rfl) (by kernel_rfl) (lss_to _ _ _ (by first | assumption | rfl | (simp; done) | (simp; omega))) (by kernel_rfl) hQS (Below.refl _ _) rfl
            refine StepsT.cons (fun (x : Value) (_ : World) => x = (.bool false : Value)) [(20, (fun (x : Value) (_ : World) => x = (.bool true : Value))), (26, (fun (x : Value) (_ : World) => x = (.bool false : Value)))] rfl rfl (fun oq hop _ wq hQS => ?_) ?_
            · refine StepFrom.more_eq ((.bool true : Value)) ?_
              refine StepFrom.more_eq ((.bool false : Value)) ?_
              exact StepFrom.pick hop (b := true) (vx := (.bool false : Value)) (vy := (Value.bool false : Value)) (by kernel_rfl) (by kernel_rfl) (by kernel_rfl) (by kernel_rfl) hQS (Below.refl _ _) rfl
            refine StepsT.cons (fun (x : Value) (_ : World) => x = (.bool false : Value)) [(27, (fun (x : Value) (_ : World) => x = (.bool false : Value)))] rfl rfl (fun oq hop _ wq hQS => ?_) ?_
            · refine StepFrom.more_eq ((.bool false : Value)) ?_
              exact StepFrom.move hop (v := (.bool false : Value)) (by kernel_rfl) (by kernel_rfl) hQS (Below.refl _ _) rfl
            refine StepsT.cons (fun (x : Value) (_ : World) => x = undef) [(28, (fun (x : Value) (_ : World) => x = (.bool false : Value)))] rfl rfl (fun oq hop _ wq hQS => ?_) ?_
            · refine StepFrom.more_eq ((.bool false : Value)) ?_
              exact StepFrom.off (by kernel_rfl) hQS (Below.refl _ _) rfl
            refine StepsT.cons (fun (x : Value) (_ : World) => x = undef) [(28, (fun (x : Value) (_ : World) => x = (.bool false : Value))), (29, (fun (x : Value) (_ : World) => x = undef))] rfl rfl (fun oq hop _ wq hQS => ?_) ?_
            · refine StepFrom.more_eq ((.bool false : Value)) ?_
              refine StepFrom.more_eq (undef) ?_
              exact StepFrom.off (by kernel_rfl) hQS (Below.refl _ _) rfl
            refine StepsT.cons (fun (x : Value) (_ : World) => x = undef) [(28, (fun (x : Value) (_ : World) => x = (.bool false : Value))), (30, (fun (x : Value) (_ : World) => x = undef))] rfl rfl (fun oq hop _ wq hQS => ?_) ?_
            · refine StepFrom.more_eq ((.bool false : Value)) ?_
              refine StepFrom.more_eq (undef) ?_
              exact StepFrom.off (by kernel_rfl) hQS (Below.refl _ _) rfl
            refine StepsT.cons (fun (x : Value) (_ : World) => x = undef) [(28, (fun (x : Value) (_ : World) => x = (.bool false : Value)))] rfl rfl (fun oq hop _ wq hQS => ?_) ?_
            · refine StepFrom.more_eq ((.bool false : Value)) ?_
              exact StepFrom.off (by kernel_rfl) hQS (Below.refl _ _) rfl
            refine StepsT.cons (fun (x : Value) (_ : World) => x = undef) [(28, (fun (x : Value) (_ : World) => x = (.bool false : Value))), (32, (fun (x : Value) (_ : World) => x = undef))] rfl rfl (fun oq hop _ wq hQS => ?_) ?_
            · refine StepFrom.more_eq ((.bool false : Value)) ?_
              refine StepFrom.more_eq (undef) ?_
              exact StepFrom.off (by kernel_rfl) hQS (Below.refl _ _) rfl
            refine StepsT.cons (fun (x : Value) (_ : World) => x = undef) [(28, (fun (x : Value) (_ : World) => x = (.bool false : Value)))] rfl rfl (fun oq hop _ wq hQS => ?_) ?_
            · refine StepFrom.more_eq ((.bool false : Value)) ?_
              exact StepFrom.off (by kernel_rfl) hQS (Below.refl _ _) rfl
            refine StepsT.cons (fun (x : Value) (_ : World) => x = undef) [(28, (fun (x : Value) (_ : World) => x = (.bool false : Value))), (34, (fun (x : Value) (_ : World) => x = undef))] rfl rfl (fun oq hop _ wq hQS => ?_) ?_
            · refine StepFrom.more_eq ((.bool false : Value)) ?_
              refine StepFrom.more_eq (undef) ?_
              exact StepFrom.off (by kernel_rfl) hQS (Below.refl _ _) rfl
            refine StepsT.cons (fun (x : Value) (_ : World) => x = undef) [(28, (fun (x : Value) (_ : World) => x = (.bool false : Value))), (33, (fun (x : Value) (_ : World) => x = undef)), (35, (fun (x : Value) (_ : World) => x = undef))] rfl rfl (fun oq hop _ wq hQS => ?_) ?_
            · refine StepFrom.more_eq ((.bool false : Value)) ?_
              refine StepFrom.more_eq (undef) ?_
              refine StepFrom.more_eq (undef) ?_
              exact StepFrom.off (by kernel_rfl) hQS (Below.refl _ _) rfl
            refine StepsT.cons (fun (x : Value) (_ : World) => x = undef) [(28, (fun (x : Value) (_ : World) => x = (.bool false : Value))), (36, (fun (x : Value) (_ : World) => x = undef))] rfl rfl (fun oq hop _ wq hQS => ?_) ?_
            · refine StepFrom.more_eq ((.bool false : Value)) ?_
              refine StepFrom.more_eq (undef) ?_
              exact StepFrom.off (by kernel_rfl) hQS (Below.refl _ _) rfl
            refine StepsT.cons (fun (x : Value) (_ : World) => x = undef) [(28, (fun (x : Value) (_ : World) => x = (.bool false : Value))), (31, (fun (x : Value) (_ : World) => x = undef)), (37, (fun (x : Value) (_ : World) => x = undef))] rfl rfl (fun oq hop _ wq hQS => ?_) ?_
            · refine StepFrom.more_eq ((.bool false : Value)) ?_
              refine StepFrom.more_eq (undef) ?_
              refine StepFrom.more_eq (undef) ?_
              exact StepFrom.off (by kernel_rfl) hQS (Below.refl _ _) rfl
            refine StepsT.cons (fun (x : Value) (_ : World) => x = (.bool false : Value)) [(28, (fun (x : Value) (_ : World) => x = (.bool false : Value))), (38, (fun (x : Value) (_ : World) => x = undef))] rfl rfl (fun oq hop _ wq hQS => ?_) ?_
            · refine StepFrom.more_eq ((.bool false : Value)) ?_
              refine StepFrom.more_eq (undef) ?_
              exact StepFrom.pick hop (b := false) (vx := undef) (vy := (Value.bool false : Value)) (by kernel_rfl) (by kernel_rfl) (by kernel_rfl) (by kernel_rfl) hQS (Below.refl _ _) rfl
            exact StepsT.nil
          case hfin =>
            intro wf hFS
            refine FinalFrom.more fun x6 h6 => ?_
            refine FinalFrom.more fun x7 h7 => ?_
            refine FinalFrom.more fun x8 h8 => ?_
            refine FinalFrom.more fun x9 h9 => ?_
            refine FinalFrom.more fun x10 h10 => ?_
            refine FinalFrom.more fun x11 h11 => ?_
            refine FinalFrom.more fun x12 h12 => ?_
            refine FinalFrom.more fun x13 h13 => ?_
            refine FinalFrom.more fun x14 h14 => ?_
            refine FinalFrom.more fun x15 h15 => ?_
            refine FinalFrom.more fun x16 h16 => ?_
            refine FinalFrom.more fun x17 h17 => ?_
            refine FinalFrom.more fun x18 h18 => ?_
            refine FinalFrom.more fun x19 h19 => ?_
            refine FinalFrom.more fun x20 h20 => ?_
            refine FinalFrom.more fun x21 h21 => ?_
            refine FinalFrom.more fun x22 h22 => ?_
            refine FinalFrom.more fun x23 h23 => ?_
            refine FinalFrom.more fun x24 h24 => ?_
            refine FinalFrom.more fun x25 h25 => ?_
            refine FinalFrom.more fun x26 h26 => ?_
            refine FinalFrom.more fun x27 h27 => ?_
            refine FinalFrom.more fun x28 h28 => ?_
            refine FinalFrom.more fun x29 h29 => ?_
            refine FinalFrom.more fun x30 h30 => ?_
            refine FinalFrom.more fun x31 h31 => ?_
            refine FinalFrom.more fun x32 h32 => ?_
            refine FinalFrom.more fun x33 h33 => ?_
            refine FinalFrom.more fun x34 h34 => ?_
            refine FinalFrom.more fun x35 h35 => ?_
            refine FinalFrom.more fun x36 h36 => ?_
            refine FinalFrom.more fun x37 h37 => ?_
            refine FinalFrom.more fun x38 h38 => ?_
            refine FinalFrom.more fun x39 h39 => ?_
            refine FinalFrom.done ?_
            intro _
            have HB3 := Lib.hid (HB.out.trans (hFS.mono HB.out.size))
            obtain rfl : x39 = (.bool false : Value) := h39
            simp only [Act.put, List.setIfInBounds_toArray, List.set_cons_zero, List.set_cons_succ, List.drop_succ_cons, List.drop_zero]
            clear HDR y2 y3 x1 x2 x3 x4 hS hFS g0 g1
            go_wp2_with (fail)
            refine (must_any false _).mono ?_
            rintro e w5 h
            obtain ⟨rfl, hb⟩ := h.2 rfl
            have HF := Lib.hid (HB3.out.trans (hb.mono HB3.out.size))
            clear h hb
            go_wp2
            exact ⟨rfl, MustPost.no ⟨rfl, HF.out⟩⟩
      · have e2 : decide (0 ≤ num) = false := by simpa using h2
        have hr2 : r = false := by rw [← hr]; simp_all <;> omega
        subst hr2
        clear hr
        go_enter Tryd.func38, Tryd.ntmps38
        have g0 : w.heap.size < w1.heap.size := by have := HS.out; omega
        have g1 : w.heap.size + 1 < w1.heap.size := by have := HS.out; omega
        have hS := HDR.out
        go_upto_region 1 with (fail)
        refine wp_region_tail 34 (fun w' => Below w1.heap.size w1 w') (fun w1 w2 : World => Below w1.heap.size w1 w2) [(fun (x : Value) (_ : World) => x = (.pointer (some ⟨w.heap.size + 1, 2, none⟩) : Value)), (fun (x : Value) (_ : World) => x = (.int .i64 0 : Value)), (fun (x : Value) (_ : World) => x = (.bool true : Value)), (fun (x : Value) (_ : World) => x = (.bool true : Value)), (fun (x : Value) (_ : World) => x = (.pointer (some ⟨w.heap.size + 1, 4, none⟩) : Value)), (fun (x : Value) (_ : World) => x = (.slice A2 0 c2 : Value)), (fun (x : Value) (_ : World) => x = (.int .i64 (0 : Int) : Value)), (fun (x : Value) (_ : World) => x = (.bool true : Value)), (fun (x : Value) (_ : World) => x = (.bool true : Value)), (fun (x : Value) (_ : World) => x = (.bool true : Value)), (fun (x : Value) (_ : World) => x = (.pointer (some ⟨w.heap.size + 1, 1, none⟩) : Value)), (fun (x : Value) (_ : World) => x = (.int .i64 num : Value)), (fun (x : Value) (_ : World) => x = (.bool false : Value)), (fun (x : Value) (_ : World) => x = (.bool false : Value)), (fun (x : Value) (_ : World) => x = (.bool false : Value)), (fun (x : Value) (_ : World) => x = undef), (fun (x : Value) (_ : World) => x = undef), (fun (x : Value) (_ : World) => x = undef), (fun (x : Value) (_ : World) => x = undef), (fun (x : Value) (_ : World) => x = undef), (fun (x : Value) (_ : World) => x = undef), (fun (x : Value) (_ : World) => x = (.bool false : Value)), (fun (x : Value) (_ : World) => x = (.bool false : Value)), (fun (x : Value) (_ : World) => x = undef), (fun (x : Value) (_ : World) => x = undef), (fun (x : Value) (_ : World) => x = undef), (fun (x : Value) (_ : World) => x = undef), (fun (x : Value) (_ : World) => x = undef), (fun (x : Value) (_ : World) => x = undef), (fun (x : Value) (_ : World) => x = undef), (fun (x : Value) (_ : World) => x = undef), (fun (x : Value) (_ : World) => x = undef), (fun (x : Value) (_ : World) => x = undef), (fun (x : Value) (_ : World) => x = (.bool false : Value))] [⟨some 6, .fieldAddr 27 (.tmp 3) 2, none, []⟩, ⟨some 7, .load 3 (.tmp 6), none, [(6, 0)]⟩, ⟨some 8, .binOp .eql 3 (.tmp 7) (.const (.int .i64 0)) 3, none, [(7, 1)]⟩, ⟨some 9, .move (.tmp 8), none, [(8, 2)]⟩, ⟨some 10, .fieldAddr 27 (.tmp 3) 4, some (some 9, true), [(9, 3)]⟩, ⟨some 11, .load 25 (.tmp 10), some (some 9, true), [(9, 3), (10, 4)]⟩, ⟨some 12, .call { callee := .builtin .len, args := #[.tmp 11], argTypes := #[25] }, some (some 9, true), [(9, 3), (11, 5)]⟩, ⟨some 13, .binOp .eql 3 (.tmp 12) (.const (.int .i64 0)) 3, some (some 9, true), [(9, 3), (12, 6)]⟩, ⟨some 14, .pick (.tmp 9) (.tmp 13) (.const (Value.bool false)), none, [(9, 3), (13, 7)]⟩, ⟨some 15, .move (.tmp 14), none, [(14, 8)]⟩, ⟨some 16, .fieldAddr 27 (.tmp 3) 1, some (some 15, true), [(15, 9)]⟩, ⟨some 17, .load 3 (.tmp 16), some (some 15, true), [(15, 9), (16, 10)]⟩, ⟨some 18, .binOp .geq 3 (.tmp 17) (.const (.int .i64 0)) 3, some (some 15, true), [(15, 9), (17, 11)]⟩, ⟨some 19, .pick (.tmp 15) (.tmp 18) (.const (Value.bool false)), none, [(15, 9), (18, 12)]⟩, ⟨some 20, .move (.tmp 19), none, [(19, 13)]⟩, ⟨some 21, .fieldAddr 27 (.tmp 3) 1, some (some 20, true), [(20, 14)]⟩, ⟨some 22, .load 3 (.tmp 21), some (some 20, true), [(20, 14), (21, 15)]⟩, ⟨some 23, .fieldAddr 55 (.tmp 2) 2, some (some 20, true), [(20, 14)]⟩, ⟨some 24, .load 22 (.tmp 23), some (some 20, true), [(20, 14), (23, 17)]⟩, ⟨some 25, .call { callee := .builtin .len, args := #[.tmp 24], argTypes := #[22] }, some (some 20, true), [(20, 14), (24, 18)]⟩, ⟨some 26, .binOp .lss 3 (.tmp 22) (.tmp 25) 3, some (some 20, true), [(20, 14), (22, 16), (25, 19)]⟩, ⟨some 27, .pick (.tmp 20) (.tmp 26) (.const (Value.bool false)), none, [(20, 14), (26, 20)]⟩, ⟨some 28, .move (.tmp 27), none, [(27, 21)]⟩, ⟨some 29, .fieldAddr 27 (.tmp 3) 3, some (some 28, true), [(28, 22)]⟩, ⟨some 30, .load 24 (.tmp 29), some (some 28, true), [(28, 22), (29, 23)]⟩, ⟨some 31, .call { callee := .builtin .len, args := #[.tmp 30], argTypes := #[24] }, some (some 28, true), [(28, 22), (30, 24)]⟩, ⟨some 32, .fieldAddr 55 (.tmp 2) 2, some (some 28, true), [(28, 22)]⟩, ⟨some 33, .load 22 (.tmp 32), some (some 28, true), [(28, 22), (32, 26)]⟩, ⟨some 34, .fieldAddr 27 (.tmp 3) 1, some (some 28, true), [(28, 22)]⟩, ⟨some 35, .load 3 (.tmp 34), some (some 28, true), [(28, 22), (34, 28)]⟩, ⟨some 36, .indexAddr 22 (.tmp 33) (.tmp 35), some (some 28, true), [(28, 22), (33, 27), (35, 29)]⟩, ⟨some 37, .load 3 (.tmp 36), some (some 28, true), [(28, 22), (36, 30)]⟩, ⟨some 38, .binOp .eql 3 (.tmp 31) (.tmp 37) 3, some (some 28, true), [(28, 22), (31, 25), (37, 31)]⟩, ⟨some 39, .pick (.tmp 28) (.tmp 38) (.const (Value.bool false)), none, [(28, 22), (38, 32)]⟩] [some 6, some 7, some 8, some 9, some 10, some 11, some 12, some 13, some 14, some 15, some 16, some 17, some 18, some 19, some 20, some 21, some 22, some 23, some 24, some 25, some 26, some 27, some 28, some 29, some 30, some 31, some 32, some 33, some 34, some 35, some 36, some 37, some 38, some 39] [] [] (by kernel_rfl) (by kernel_rfl) (by kernel_rfl) (by kernel_rfl) (by kernel_rfl) (by kernel_rfl) (by kernel_rfl) (by kernel_rfl) ?hrun ?hold ?hS ?hmono ?hsteps ?hfin
        case hrun => exact fun p hp => by cases hp
        case hold => exact fun p hp => by cases hp
        case hS => exact hS
        case hmono =>
          refine MonoL.cons (fun x w1 w2 _ _ _ hx => hx) ?_
          refine MonoL.cons (fun x w1 w2 _ _ _ hx => hx) ?_
          refine MonoL.cons (fun x w1 w2 _ _ _ hx => hx) ?_
          refine MonoL.cons (fun x w1 w2 _ _ _ hx => hx) ?_
          refine MonoL.cons (fun x w1 w2 _ _ _ hx => hx) ?_
          refine MonoL.cons (fun x w1 w2 _ _ _ hx => hx) ?_
          refine MonoL.cons (fun x w1 w2 _ _ _ hx => hx) ?_
          refine MonoL.cons (fun x w1 w2 _ _ _ hx => hx) ?_
          refine MonoL.cons (fun x w1 w2 _ _ _ hx => hx) ?_
          refine MonoL.cons (fun x w1 w2 _ _ _ hx => hx) ?_
          refine MonoL.cons (fun x w1 w2 _ _ _ hx => hx) ?_
          refine MonoL.cons (fun x w1 w2 _ _ _ hx => hx) ?_
          refine MonoL.cons (fun x w1 w2 _ _ _ hx => hx) ?_
          refine MonoL.cons (fun x w1 w2 _ _ _ hx => hx) ?_
          refine MonoL.cons (fun x w1 w2 _ _ _ hx => hx) ?_
          refine MonoL.cons (fun x w1 w2 _ _ _ hx => hx) ?_
          refine MonoL.cons (fun x w1 w2 _ _ _ hx => hx) ?_
          refine MonoL.cons (fun x w1 w2 _ _ _ hx => hx) ?_
          refine MonoL.cons (fun x w1 w2 _ _ _ hx => hx) ?_
          refine MonoL.cons (fun x w1 w2 _ _ _ hx => hx) ?_
          refine MonoL.cons (fun x w1 w2 _ _ _ hx => hx) ?_
          refine MonoL.cons (fun x w1 w2 _ _ _ hx => hx) ?_
          refine MonoL.cons (fun x w1 w2 _ _ _ hx => hx) ?_
          refine MonoL.cons (fun x w1 w2 _ _ _ hx => hx) ?_
          refine MonoL.cons (fun x w1 w2 _ _ _ hx => hx) ?_
          refine MonoL.cons (fun x w1 w2 _ _ _ hx => hx) ?_
          refine MonoL.cons (fun x w1 w2 _ _ _ hx => hx) ?_
          refine MonoL.cons (fun x w1 w2 _ _ _ hx => hx) ?_
          refine MonoL.cons (fun x w1 w2 _ _ _ hx => hx) ?_
          refine MonoL.cons (fun x w1 w2 _ _ _ hx => hx) ?_
          refine MonoL.cons (fun x w1 w2 _ _ _ hx => hx) ?_
          refine MonoL.cons (fun x w1 w2 _ _ _ hx => hx) ?_
          refine MonoL.cons (fun x w1 w2 _ _ _ hx => hx) ?_
          refine MonoL.cons (fun x w1 w2 _ _ _ hx => hx) ?_
          exact MonoL.nil
        case hsteps =>
          refine StepsT.cons (fun (x : Value) (_ : World) => x = (.pointer (some ⟨w.heap.size + 1, 2, none⟩) : Value)) [] rfl rfl (fun oq hop _ wq hQS => ?_) ?_
          · exact StepFrom.fieldAddr hop (p := (.pointer (some ⟨w.heap.size + 1, 0, none⟩) : Value)) (by kernel_rfl) (tm_field 2 (by decide)) (by kernel_rfl) hQS (Below.refl _ _) rfl
          refine StepsT.cons (fun (x : Value) (_ : World) => x = (.int .i64 0 : Value)) [(6, (fun (x : Value) (_ : World) => x = (.pointer (some ⟨w.heap.size + 1, 2, none⟩) : Value)))] rfl rfl (fun oq hop _ wq hQS => ?_) ?_
          · refine StepFrom.more_eq ((.pointer (some ⟨w.heap.size + 1, 2, none⟩) : Value)) ?_
            exact StepFrom.load hop (p := (.pointer (some ⟨w.heap.size + 1, 2, none⟩) : Value)) (by kernel_rfl) (load_int ((hQS.cell (p := ⟨w.heap.size + 1, 2, none⟩) g1).trans x2)) (by kernel_rfl) hQS (Below.refl _ _) rfl
          refine StepsT.cons (fun (x : Value) (_ : World) => x = (.bool true : Value)) [(7, (fun (x : Value) (_ : World) => x = (.int .i64 0 : Value)))] rfl rfl (fun oq hop _ wq hQS => ?_) ?_
          · refine StepFrom.more_eq ((.int .i64 0 : Value)) ?_
            exact StepFrom.bin hop (vx := (.int .i64 0 : Value)) (vy := (.int .i64 0 : Value)) (by kernel_rfl) (by kernel_rfl) (eql_to _ _ _ (by first | assumption | rfl | (simp; done) | (simp; omega))) (by kernel_rfl) hQS (Below.refl _ _) rfl
          refine StepsT.cons (fun (x : Value) (_ : World) => x = (.bool true : Value)) [(8, (fun (x : Value) (_ : World) => x = (.bool true : Value)))] rfl rfl (fun oq hop _ wq hQS => ?_) ?_
          · refine StepFrom.more_eq ((.bool true : Value)) ?_
            exact StepFrom.move hop (v := (.bool true : Value)) (by kernel_rfl) (by kernel_rfl) hQS (Below.refl _ _) rfl
          refine StepsT.cons (fun (x : Value) (_ : World) => x = (.pointer (some ⟨w.heap.size + 1, 4, none⟩) : Value)) [(9, (fun (x : Value) (_ : World) => x = (.bool true : Value)))] rfl rfl (fun oq hop _ wq hQS => ?_) ?_
          · refine StepFrom.more_eq ((.bool true : Value)) ?_
            exact StepFrom.fieldAddr hop (p := (.pointer (some ⟨w.heap.size + 1, 0, none⟩) : Value)) (by kernel_rfl) (tm_field 4 (by decide)) (by kernel_rfl) hQS (Below.refl _ _) rfl
          refine StepsT.cons (fun (x : Value) (_ : World) => x = (.slice A2 0 c2 : Value)) [(9, (fun (x : Value) (_ : World) => x = (.bool true : Value))), (10, (fun (x : Value) (_ : World) => x = (.pointer (some ⟨w.heap.size + 1, 4, none⟩) : Value)))] rfl rfl (fun oq hop _ wq hQS => ?_) ?_
          · refine StepFrom.more_eq ((.bool true : Value)) ?_
            refine StepFrom.more_eq ((.pointer (some ⟨w.heap.size + 1, 4, none⟩) : Value)) ?_
            exact StepFrom.load hop (p := (.pointer (some ⟨w.heap.size + 1, 4, none⟩) : Value)) (by kernel_rfl) (load_terms ((hQS.cell (p := ⟨w.heap.size + 1, 4, none⟩) g1).trans x4)) (by kernel_rfl) hQS (Below.refl _ _) rfl
          refine StepsT.cons (fun (x : Value) (_ : World) => x = (.int .i64 (0 : Int) : Value)) [(9, (fun (x : Value) (_ : World) => x = (.bool true : Value))), (11, (fun (x : Value) (_ : World) => x = (.slice A2 0 c2 : Value)))] rfl rfl (fun oq hop _ wq hQS => ?_) ?_
          · refine StepFrom.more_eq ((.bool true : Value)) ?_
            refine StepFrom.more_eq ((.slice A2 0 c2 : Value)) ?_
            exact StepFrom.lenT hop (show _ = (.slice A2 0 c2 : Value) by kernel_rfl) (by kernel_rfl) hQS (Below.refl _ _) rfl
          refine StepsT.cons (fun (x : Value) (_ : World) => x = (.bool true : Value)) [(9, (fun (x : Value) (_ : World) => x = (.bool true : Value))), (12, (fun (x : Value) (_ : World) => x = (.int .i64 (0 : Int) : Value)))] rfl rfl (fun oq hop _ wq hQS => ?_) ?_
          · refine StepFrom.more_eq ((.bool true : Value)) ?_
            refine StepFrom.more_eq ((.int .i64 (0 : Int) : Value)) ?_
            exact StepFrom.bin hop (vx := (.int .i64 (0 : Int) : Value)) (vy := (.int .i64 0 : Value)) (by kernel_rfl) (by kernel_rfl) (eql_to _ _ _ (by first | assumption | rfl | (simp; done) | (simp; omega))) (by kernel_rfl) hQS (Below.refl _ _) rfl
          refine StepsT.cons (fun (x : Value) (_ : World) => x = (.bool true : Value)) [(9, (fun (x : Value) (_ : World) => x = (.bool true : Value))), (13, (fun (x : Value) (_ : World) => x = (.bool true : Value)))] rfl rfl (fun oq hop _ wq hQS => ?_) ?_
          · refine StepFrom.more_eq ((.bool true : Value)) ?_
            refine StepFrom.more_eq ((.bool true : Value)) ?_
            exact StepFrom.pick hop (b := true) (vx := (.bool true : Value)) (vy := (Value.bool false : Value)) (by kernel_rfl) (by kernel_rfl) (by kernel_rfl) (by kernel_rfl) hQS (Below.refl _ _) rfl
          refine StepsT.cons (fun (x : Value) (_ : World) => x = (.bool true : Value)) [(14, (fun (x : Value) (_ : World) => x = (.bool true : Value)))] rfl rfl (fun oq hop _ wq hQS => ?_) ?_
          · refine StepFrom.more_eq ((.bool true : Value)) ?_
            exact StepFrom.move hop (v := (.bool true : Value)) (by kernel_rfl) (by kernel_rfl) hQS (Below.refl _ _) rfl
          refine StepsT.cons (fun (x : Value) (_ : World) => x = (.pointer (some ⟨w.heap.size + 1, 1, none⟩) : Value)) [(15, (fun (x : Value) (_ : World) => x = (.bool true : Value)))] rfl rfl (fun oq hop _ wq hQS => ?_) ?_
          · refine StepFrom.more_eq ((.bool true : Value)) ?_
            exact StepFrom.fieldAddr hop (p := (.pointer (some ⟨w.heap.size + 1, 0, none⟩) : Value)) (by kernel_rfl) (tm_field 1 (by decide)) (by kernel_rfl) hQS (Below.refl _ _) rfl
          refine StepsT.cons (fun (x : Value) (_ : World) => x = (.int .i64 num : Value)) [(15, (fun (x : Value) (_ : World) => x = (.bool true : Value))), (16, (fun (x : Value) (_ : World) => x = (.pointer (some ⟨w.heap.size + 1, 1, none⟩) : Value)))] rfl rfl (fun oq hop _ wq hQS => ?_) ?_
          · refine StepFrom.more_eq ((.bool true : Value)) ?_
            refine StepFrom.more_eq ((.pointer (some ⟨w.heap.size + 1, 1, none⟩) : Value)) ?_
            exact StepFrom.load hop (p := (.pointer (some ⟨w.heap.size + 1, 1, none⟩) : Value)) (by kernel_rfl) (load_int ((hQS.cell (p := ⟨w.heap.size + 1, 1, none⟩) g1).trans x1)) (by kernel_rfl) hQS (Below.refl _ _) rfl
          refine StepsT.cons (fun (x : Value) (_ : World) => x = (.bool false : Value)) [(15, (fun (x : Value) (_ : World) => x = (.bool true : Value))), (17, (fun (x : Value) (_ : World) => x = (.int .i64 num : Value)))] rfl rfl (fun oq hop _ wq hQS => ?_) ?_
          · refine StepFrom.more_eq ((.bool true : Value)) ?_
            refine StepFrom.more_eq ((.int .i64 num : Value)) ?_
            exact StepFrom.bin hop (vx := (.int .i64 num : Value)) (vy := (.int .i64 0 : Value)) (by kernel_rfl) (by kernel_rfl) (geq_to _ _ _ (by first | assumption | rfl | (simp; done) | (simp; omega))) (by kernel_rfl) hQS (Below.refl _ _) rfl
          refine StepsT.cons (fun (x : Value) (_ : World) => x = (.bool false : Value)) [(15, (fun (x : Value) (_ : World) => x = (.bool true : Value))), (18, (fun (x : Value) (_ : World) => x = (.bool false : Value)))] rfl rfl (fun oq hop _ wq hQS => ?_) ?_
          · refine StepFrom.more_eq ((.bool true : Value)) ?_
            refine StepFrom.more_eq ((.bool false : Value)) ?_
            exact StepFrom.pick hop (b := true) (vx := (.bool false : Value)) (vy := (Value.bool false : Value)) (by kernel_rfl) (by kernel_rfl) (by kernel_rfl) (by kernel_rfl) hQS (Below.refl _ _) rfl
          refine StepsT.cons (fun (x : Value) (_ : World) => x = (.bool false : Value)) [(19, (fun (x : Value) (_ : World) => x = (.bool false : Value)))] rfl rfl (fun oq hop _ wq hQS => ?_) ?_
          · refine StepFrom.more_eq ((.bool false : Value)) ?_
            exact StepFrom.move hop (v := (.bool false : Value)) (by kernel_rfl) (by kernel_rfl) hQS (Below.refl _ _) rfl
          refine StepsT.cons (fun (x : Value) (_ : World) => x = undef) [(20, (fun (x : Value) (_ : World) => x = (.bool false : Value)))] rfl rfl (fun oq hop _ wq hQS => ?_) ?_
          · refine StepFrom.more_eq ((.bool false : Value)) ?_
            exact StepFrom.off (by kernel_rfl) hQS (Below.refl _ _) rfl
          refine StepsT.cons (fun (x : Value) (_ : World) => x = undef) [(20, (fun (x : Value) (_ : World) => x = (.bool false : Value))), (21, (fun (x : Value) (_ : World) => x = undef))] rfl rfl (fun oq hop _ wq hQS => ?_) ?_
          · refine StepFrom.more_eq ((.bool false : Value)) ?_
            refine StepFrom.more_eq (undef) ?_
            exact StepFrom.off (by kernel_rfl) hQS (Below.refl _ _) rfl
          refine StepsT.cons (fun (x : Value) (_ : World) => x = undef) [(20, (fun (x : Value) (_ : World) => x = (.bool false : Value)))] rfl rfl (fun oq hop _ wq hQS => ?_) ?_
          · refine StepFrom.more_eq ((.bool false : Value)) ?_
            exact StepFrom.off (by kernel_rfl) hQS (Below.refl _ _) rfl
          refine StepsT.cons (fun (x : Value) (_ : World) => x = undef) [(20, (fun (x : Value) (_ : World) => x = (.bool false : Value))), (23, (fun (x : Value) (_ : World) => x = undef))] rfl rfl (fun oq hop _ wq hQS => ?_) ?_
          · refine StepFrom.more_eq ((.bool false : Value)) ?_
            refine StepFrom.more_eq (undef) ?_
            exact StepFrom.off (by kernel_rfl) hQS (Below.refl _ _) rfl
          refine StepsT.cons (fun (x : Value) (_ : World) => x = undef) [(20, (fun (x : Value) (_ : World) => x = (.bool false : Value))), (24, (fun (x : Value) (_ : World) => x = undef))] rfl rfl (fun oq hop _ wq hQS => ?_) ?_
          · refine StepFrom.more_eq ((.bool false : Value)) ?_
            refine StepFrom.more_eq (undef) ?_
            exact StepFrom.off (by kernel_rfl) hQS (Below.refl _ _) rfl
          refine StepsT.cons (fun (x : Value) (_ : World) => x = undef) [(20, (fun (x : Value) (_ : World) => x = (.bool false : Value))), (22, (fun (x : Value) (_ : World) => x = undef)), (25, (fun (x : Value) (_ : World) => x = undef))] rfl rfl (fun oq hop _ wq hQS => ?_) ?_
          · refine StepFrom.more_eq ((.bool false : Value)) ?_
            refine StepFrom.more_eq (undef) ?_
            refine StepFrom.more_eq (undef) ?_
            exact StepFrom.off (by kernel_rfl) hQS (Below.refl _ _) rfl
          refine StepsT.cons (fun (x : Value) (_ : World) => x = (.bool false : Value)) [(20, (fun (x : Value) (_ : World) => x = (.bool false : Value))), (26, (fun (x : Value) (_ : World) => x = undef))] rfl rfl (fun oq hop _ wq hQS => ?_) ?_
          · refine StepFrom.more_eq ((.bool false : Value)) ?_
            refine StepFrom.more_eq (undef) ?_
            exact StepFrom.pick hop (b := false) (vx := undef) (vy := (Value.bool false : Value)) (by kernel_rfl) (by kernel_rfl) (by kernel_rfl) (by kernel_rfl) hQS (Below.refl _ _) rfl
          refine StepsT.cons (fun (x : Value) (_ : World) => x = (.bool false : Value)) [(27, (fun (x : Value) (_ : World) => x = (.bool false : Value)))] rfl rfl (fun oq hop _ wq hQS => ?_) ?_
          · refine StepFrom.more_eq ((.bool false : Value)) ?_
            exact StepFrom.move hop (v := (.bool false : Value)) (by kernel_rfl) (by kernel_rfl) hQS (Below.refl _ _) rfl
          refine StepsT.cons (fun (x : Value) (_ : World) => x = undef) [(28, (fun (x : Value) (_ : World) => x = (.bool false : Value)))] rfl rfl (fun oq hop _ wq hQS => ?_) ?_
          · refine StepFrom.more_eq ((.bool false : Value)) ?_
            exact StepFrom.off (by kernel_rfl) hQS (Below.refl _ _) rfl
          refine StepsT.cons (fun (x : Value) (_ : World) => x = undef) [(28, (fun (x : Value) (_ : World) => x = (.bool false : Value))), (29, (fun (x : Value) (_ : World) => x = undef))] rfl rfl (fun oq hop _ wq hQS => ?_) ?_
          · refine StepFrom.more_eq ((.bool false : Value)) ?_
            refine StepFrom.more_eq (undef) ?_
            exact StepFrom.off (by kernel_rfl) hQS (Below.refl _ _) rfl
          refine StepsT.cons (fun (x : Value) (_ : World) => x = undef) [(28, (fun (x : Value) (_ : World) => x = (.bool false : Value))), (30, (fun (x : Value) (_ : World) => x = undef))] rfl rfl (fun oq hop _ wq hQS => ?_) ?_
          · refine StepFrom.more_eq ((.bool false : Value)) ?_
            refine StepFrom.more_eq (undef) ?_
            exact StepFrom.off (by kernel_rfl) hQS (Below.refl _ _) rfl
          refine StepsT.cons (fun (x : Value) (_ : World) => x = undef) [(28, (fun (x : Value) (_ : World) => x = (.bool false : Value)))] rfl rfl (fun oq hop _ wq hQS => ?_) ?_
          · refine StepFrom.more_eq ((.bool false : Value)) ?_
            exact StepFrom.off (by kernel_rfl) hQS (Below.refl _ _) rfl
          refine StepsT.cons (fun (x : Value) (_ : World) => x = undef) [(28, (fun (x : Value) (_ : World) => x = (.bool false : Value))), (32, (fun (x : Value) (_ : World) => x = undef))] rfl rfl (fun oq hop _ wq hQS => ?_) ?_
          · refine StepFrom.more_eq ((.bool false : Value)) ?_
            refine StepFrom.more_eq (undef) ?_
            exact StepFrom.off (by kernel_rfl) hQS (Below.refl _ _) rfl
          refine StepsT.cons (fun (x : Value) (_ : World) => x = undef) [(28, (fun (x : Value) (_ : World) => x = (.bool false : Value)))] rfl rfl (fun oq hop _ wq hQS => ?_) ?_
          · refine StepFrom.more_eq ((.bool false : Value)) ?_
            exact StepFrom.off (by kernel_rfl) hQS (Below.refl _ _) rfl
          refine StepsT.cons (fun (x : Value) (_ : World) => x = undef) [(28, (fun (x : Value) (_ : World) => x = (.bool false : Value))), (34, (fun (x : Value) (_ : World) => x = undef))] rfl rfl (fun oq hop _ wq hQS => ?_) ?_
          · refine StepFrom.more_eq ((.bool false : Value)) ?_
            refine StepFrom.more_eq (undef) ?_
            exact StepFrom.off (by kernel_rfl) hQS (Below.refl _ _) rfl
          refine StepsT.cons (fun (x : Value) (_ : World) => x = undef) [(28, (fun (x : Value) (_ : World) => x = (.bool false : Value))), (33, (fun (x : Value) (_ : World) => x = undef)), (35, (fun (x : Value) (_ : World) => x = undef))] rfl rfl (fun oq hop _ wq hQS => ?_) ?_
          · refine StepFrom.more_eq ((.bool false : Value)) ?_
            refine StepFrom.more_eq (undef) ?_
            refine StepFrom.more_eq (undef) ?_
            exact StepFrom.off (by kernel_rfl) hQS (Below.refl _ _) rfl
          refine StepsT.cons (fun (x : Value) (_ : World) => x = undef) [(28, (fun (x : Value) (_ : World) => x = (.bool false : Value))), (36, (fun (x : Value) (_ : World) => x = undef))] rfl rfl (fun oq hop _ wq hQS => ?_) ?_
          · refine StepFrom.more_eq ((.bool false : Value)) ?_
            refine StepFrom.more_eq (undef) ?_
            exact StepFrom.off (by kernel_rfl) hQS (Below.refl _ _) rfl
          refine StepsT.cons (fun (x : Value) (_ : World) => x = undef) [(28, (fun (x : Value) (_ : World) => x = (.bool false : Value))), (31, (fun (x : Value) (_ : World) => x = undef)), (37, (fun (x : Value) (_ : World) => x = undef))] rfl rfl (fun oq hop _ wq hQS => ?_) ?_
          · refine StepFrom.more_eq ((.bool false : Value)) ?_
            refine StepFrom.more_eq (undef) ?_
            refine StepFrom.more_eq (undef) ?_
            exact StepFrom.off (by kernel_rfl) hQS (Below.refl _ _) rfl
          refine StepsT.cons (fun (x : Value) (_ : World) => x = (.bool false : Value)) [(28, (fun (x : Value) (_ : World) => x = (.bool false : Value))), (38, (fun (x : Value) (_ : World) => x = undef))] rfl rfl (fun oq hop _ wq hQS => ?_) ?_
          · refine StepFrom.more_eq ((.bool false : Value)) ?_
            refine StepFrom.more_eq (undef) ?_
            exact StepFrom.pick hop (b := false) (vx := undef) (vy := (Value.bool false : Value)) (by kernel_rfl) (by kernel_rfl) (by kernel_rfl) (by kernel_rfl) hQS (Below.refl _ _) rfl
          exact StepsT.nil
        case hfin =>
          intro wf hFS
          refine FinalFrom.more fun x6 h6 => ?_
          refine FinalFrom.more fun x7 h7 => ?_
          refine FinalFrom.more fun x8 h8 => ?_
          refine FinalFrom.more fun x9 h9 => ?_
          refine FinalFrom.more fun x10 h10 => ?_
          refine FinalFrom.more fun x11 h11 => ?_
          refine FinalFrom.more fun x12 h12 => ?_
          refine FinalFrom.more fun x13 h13 => ?_
          refine FinalFrom.more fun x14 h14 => ?_
          refine FinalFrom.more fun x15 h15 => ?_
          refine FinalFrom.more fun x16 h16 => ?_
          refine FinalFrom.more fun x17 h17 => ?_
          refine FinalFrom.more fun x18 h18 => ?_
          refine FinalFrom.more fun x19 h19 => ?_
          refine FinalFrom.more fun x20 h20 => ?_
          refine FinalFrom.more fun x21 h21 => ?_
          refine FinalFrom.more fun x22 h22 => ?_
          refine FinalFrom.more fun x23 h23 => ?_
          refine FinalFrom.more fun x24 h24 => ?_
          refine FinalFrom.more fun x25 h25 => ?_
          refine FinalFrom.more fun x26 h26 => ?_
          refine FinalFrom.more fun x27 h27 => ?_
          refine FinalFrom.more fun x28 h28 => ?_
          refine FinalFrom.more fun x29 h29 => ?_
          refine FinalFrom.more fun x30 h30 => ?_
          refine FinalFrom.more fun x31 h31 => ?_
          refine FinalFrom.more fun x32 h32 => ?_
          refine FinalFrom.more fun x33 h33 => ?_
          refine FinalFrom.more fun x34 h34 => ?_
          refine FinalFrom.more fun x35 h35 => ?_
          refine FinalFrom.more fun x36 h36 => ?_
          refine FinalFrom.more fun x37 h37 => ?_
          refine FinalFrom.more fun x38 h38 => ?_
          refine FinalFrom.more fun x39 h39 => ?_
          refine FinalFrom.done ?_
          intro _
          have HB3 := Lib.hid (HB.out.trans (hFS.mono HB.out.size))
          obtain rfl : x39 = (.bool false : Value) := h39
          simp only [Act.put, List.setIfInBounds_toArray, List.set_cons_zero, List.set_cons_succ, List.drop_succ_cons, List.drop_zero]
          clear HDR y2 y3 x1 x2 x3 x4 hS hFS g0 g1
          go_wp2_with (fail)
          refine (must_any false _).mono ?_
          rintro e w5 h
          obtain ⟨rfl, hb⟩ := h.2 rfl
          have HF := Lib.hid (HB3.out.trans (hb.mono HB3.out.size))
          clear h hb
          go_wp2
          exact ⟨rfl, MustPost.no ⟨rfl, HF.out⟩⟩
    · have e1 : ((p2 : Int) == 0) = false := by simpa using (by omega : ¬ (p2 : Int) = 0)
      have hr2 : r = false := by rw [← hr]; simp_all <;> omega
      subst hr2
      clear hr
      go_enter Tryd.func38, Tryd.ntmps38
      have g0 : w.heap.size < w1.heap.size := by have := HS.out; omega
      have g1 : w.heap.size + 1 < w1.heap.size := by have := HS.out; omega
      have hS := HDR.out
      go_upto_region 1 with (fail)
      refine wp_region_tail 34 (fun w' => Below w1.heap.size w1 w') (fun w1 w2 : World => Below w1.heap.size w1 w2) [(fun (x : Value) (_ : World) => x = (.pointer (some ⟨w.heap.size + 1, 2, none⟩) : Value)), (fun (x : Value) (_ : World) => x = (.int .i64 0 : Value)), (fun (x : Value) (_ : World) => x = (.bool true : Value)), (fun (x : Value) (_ : World) => x = (.bool true : Value)), (fun (x : Value) (_ : World) => x = (.pointer (some ⟨w.heap.size + 1, 4, none⟩) : Value)), (fun (x : Value) (_ : World) => x = (.slice A2 p2 c2 : Value)), (fun (x : Value) (_ : World) => x = (.int .i64 (p2 : Int) : Value)), (fun (x : Value) (_ : World) => x = (.bool false : Value)), (fun (x : Value) (_ : World) => x = (.bool false : Value)), (fun (x : Value) (_ : World) => x = (.bool false : Value)), (fun (x : Value) (_ : World) => x = undef), (fun (x : Value) (_ : World) => x = undef), (fun (x : Value) (_ : World) => x = undef), (fun (x : Value) (_ : World) => x = (.bool false : Value)), (fun (x : Value) (_ : World) => x = (.bool false : Value)), (fun (x : Value) (_ : World) => x = undef), (fun (x : Value) (_ : World) => x = undef), (fun (x : Value) (_ : World) => x = undef), (fun (x : Value) (_ : World) => x = undef), (fun (x : Value) (_ : World) => x = undef), (fun (x : Value) (_ : World) => x = undef), (fun (x : Value) (_ : World) => x = (.bool false : Value)), (fun (x : Value) (_ : World) => x = (.bool false : Value)), (fun (x : Value) (_ : World) => x = undef), (fun (x : Value) (_ : World) => x = undef), (fun (x : Value) (_ : World) => x = undef), (fun (x : Value) (_ : World) => x = undef), (fun (x : Value) (_ : World) => x = undef), (fun (x : Value) (_ : World) => x = undef), (fun (x : Value) (_ : World) => x = undef), (fun (x : Value) (_ : World) => x = undef), (fun (x : Value) (_ : World) => x = undef), (fun (x : Value) (_ : World) => x = undef), (fun (x : Value) (_ : World) => x = (.bool false : Value))] [⟨some 6, .fieldAddr 27 (.tmp 3) 2, none, []⟩, ⟨some 7, .load 3 (.tmp 6), none, [(6, 0)]⟩, ⟨some 8, .binOp .eql 3 (.tmp 7) (.const (.int .i64 0)) 3, none, [(7, 1)]⟩, ⟨some 9, .move (.tmp 8), none, [(8, 2)]⟩, ⟨some 10, .fieldAddr 27 (.tmp 3) 4, some (some 9, true), [(9, 3)]⟩, ⟨some 11, .load 25 (.tmp 10), some (some 9, true), [(9, 3), (10, 4)]⟩, ⟨some 12, .call { callee := .builtin .len, args := #[.tmp 11], argTypes := #[25] }, some (some 9, true), [(9, 3), (11, 5)]⟩, ⟨some 13, .binOp .eql 3 (.tmp 12) (.const (.int .i64 0)) 3, some (some 9, true), [(9, 3), (12, 6)]⟩, ⟨some 14, .pick (.tmp 9) (.tmp 13) (.const (Value.bool false)), none, [(9, 3), (13, 7)]⟩, ⟨some 15, .move (.tmp 14), none, [(14, 8)]⟩, ⟨some 16, .fieldAddr 27 (.tmp 3) 1, some (some 15, true), [(15, 9)]⟩, ⟨some 17, .load 3 (.tmp 16), some (some 15, true), [(15, 9), (16, 10)]⟩, ⟨some 18, .binOp .geq 3 (.tmp 17) (.const (.int .i64 0)) 3, some (some 15, true), [(15, 9), (17, 11)]⟩, ⟨some 19, .pick (.tmp 15) (.tmp 18) (.const (Value.bool false)), none, [(15, 9), (18, 12)]⟩, ⟨some 20, .move (.tmp 19), none, [(19, 13)]⟩, ⟨some 21, .fieldAddr 27 (.tmp 3) 1, some (some 20, true), [(20, 14)]⟩, ⟨some 22, .load 3 (.tmp 21), some (some 20, true), [(20, 14), (21, 15)]⟩, ⟨some 23, .fieldAddr 55 (.tmp 2) 2, some (some 20, true), [(20, 14)]⟩, ⟨some 24, .load 22 (.tmp 23), some (some 20, true), [(20, 14), (23, 17)]⟩, ⟨some 25, .call { callee := .builtin .len, args := #[.tmp 24], argTypes := #[22] }, some (some 20, true), [(20, 14), (24, 18)]⟩, ⟨some 26, .binOp .lss 3 (.tmp 22) (.tmp 25) 3, some (some 20, true), [(20, 14), (22, 16), (25, 19)]⟩, ⟨some 27, .pick (.tmp 20) (.tmp 26) (.const (Value.bool false)), none, [(20, 14), (26, 20)]⟩, ⟨some 28, .move (.tmp 27), none, [(27, 21)]⟩, ⟨some 29, .fieldAddr 27 (.tmp 3) 3, some (some 28, true), [(28, 22)]⟩, ⟨some 30, .load 24 (.tmp 29), some (some 28, true), [(28, 22), (29, 23)]⟩, ⟨some 31, .call { callee := .builtin .len, args := #[.tmp 30], argTypes := #[24] }, some (some 28, true), [(28, 22), (30, 24)]⟩, ⟨some 32, .fieldAddr 55 (.tmp 2) 2, some (some 28, true), [(28, 22)]⟩, ⟨some 33, .load 22 (.tmp 32), some (some 28, true), [(28, 22), (32, 26)]⟩, ⟨some 34, .fieldAddr 27 (.tmp 3) 1, some (some 28, true), [(28, 22)]⟩, ⟨some 35, .load 3 (.tmp 34), some (some 28, true), [(28, 22), (34, 28)]⟩, ⟨some 36, .indexAddr 22 (.tmp 33) (.tmp 35), some (some 28, true), [(28, 22), (33, 27), (35, 29)]⟩, ⟨some 37, .load 3 (.tmp 36), some (some 28, true), [(28, 22), (36, 30)]⟩, ⟨some 38, .binOp .eql 3 (.tmp 31) (.tmp 37) 3, some (some 28, true), [(28, 22), (31, 25), (37, 31)]⟩, ⟨some 39, .pick (.tmp 28) (.tmp 38) (.const (Value.bool false)), none, [(28, 22), (38, 32)]⟩] [some 6, some 7, some 8, some 9, some 10, some 11, some 12, some 13, some 14, some 15, some 16, some 17, some 18, some 19, some 20, some 21, some 22, some 23, some 24, some 25, some 26, some 27, some 28, some 29, some 30, some 31, some 32, some 33, some 34, some 35, some 36, some 37, some 38, some 39] [] [] (by kernel_rfl) (by kernel_rfl) (by kernel_rfl) (by kernel_rfl) (by kernel_rfl) (by kernel_rfl) (by kernel_rfl) (by kernel_rfl) ?hrun ?hold ?hS ?hmono ?hsteps ?hfin
      case hrun => exact fun p hp => by cases hp
      case hold => exact fun p hp => by cases hp
      case hS => exact hS
      case hmono =>
        refine MonoL.cons (fun x w1 w2 _ _ _ hx => hx) ?_
        refine MonoL.cons (fun x w1 w2 _ _ _ hx => hx) ?_
        refine MonoL.cons (fun x w1 w2 _ _ _ hx => hx) ?_
        refine MonoL.cons (fun x w1 w2 _ _ _ hx => hx) ?_
        refine MonoL.cons (fun x w1 w2 _ _ _ hx => hx) ?_
        refine MonoL.cons (fun x w1 w2 _ _ _ hx => hx) ?_
        refine MonoL.cons (fun x w1 w2 _ _ _ hx => hx) ?_
        refine MonoL.cons (fun x w1 w2 _ _ _ hx => hx) ?_
        refine MonoL.cons (fun x w1 w2 _ _ _ hx => hx) ?_
        refine MonoL.cons (fun x w1 w2 _ _ _ hx => hx) ?_
        refine MonoL.cons (fun x w1 w2 _ _ _ hx => hx) ?_
        refine MonoL.cons (fun x w1 w2 _ _ _ hx => hx) ?_
        refine MonoL.cons (fun x w1 w2 _ _ _ hx => hx) ?_
        refine MonoL.cons (fun x w1 w2 _ _ _ hx => hx) ?_
        refine MonoL.cons (fun x w1 w2 _ _ _ hx => hx) ?_
        refine MonoL.cons (fun x w1 w2 _ _ _ hx => hx) ?_
        refine MonoL.cons (fun x w1 w2 _ _ _ hx => hx) ?_
        refine MonoL.cons (fun x w1 w2 _ _ _ hx => hx) ?_
        refine MonoL.cons (fun x w1 w2 _ _ _ hx => hx) ?_
        refine MonoL.cons (fun x w1 w2 _ _ _ hx => hx) ?_
        refine MonoL.cons (fun x w1 w2 _ _ _ hx => hx) ?_
        refine MonoL.cons (fun x w1 w2 _ _ _ hx => hx) ?_
        refine MonoL.cons (fun x w1 w2 _ _ _ hx => hx) ?_
        refine MonoL.cons (fun x w1 w2 _ _ _ hx => hx) ?_
        refine MonoL.cons (fun x w1 w2 _ _ _ hx => hx) ?_
        refine MonoL.cons (fun x w1 w2 _ _ _ hx => hx) ?_
        refine MonoL.cons (fun x w1 w2 _ _ _ hx => hx) ?_
        refine MonoL.cons (fun x w1 w2 _ _ _ hx => hx) ?_
        refine MonoL.cons (fun x w1 w2 _ _ _ hx => hx) ?_
        refine MonoL.cons (fun x w1 w2 _ _ _ hx => hx) ?_
        refine MonoL.cons (fun x w1 w2 _ _ _ hx => hx) ?_
        refine MonoL.cons (fun x w1 w2 _ _ _ hx => hx) ?_
        refine MonoL.cons (fun x w1 w2 _ _ _ hx => hx) ?_
        refine MonoL.cons (fun x w1 w2 _ _ _ hx => hx) ?_
        exact MonoL.nil
      case hsteps =>
        refine StepsT.cons (fun (x : Value) (_ : World) => x = (.pointer (some ⟨w.heap.size + 1, 2, none⟩) : Value)) [] rfl rfl (fun oq hop _ wq hQS => ?_) ?_
        · exact StepFrom.fieldAddr hop (p := (.pointer (some ⟨w.heap.size + 1, 0, none⟩) : Value)) (by kernel_rfl) (tm_field 2 (by decide)) (by kernel_rfl) hQS (Below.refl _ _) rfl
        refine StepsT.cons (fun (x : Value) (_ : World) => x = (.int .i64 0 : Value)) [(6, (fun (x : Value) (_ : World) => x = (.pointer (some ⟨w.heap.size + 1, 2, none⟩) : Value)))] rfl rfl (fun oq hop _ wq hQS => ?_) ?_
        · refine StepFrom.more_eq ((.pointer (some ⟨w.heap.size + 1, 2, none⟩) : Value)) ?_
          exact StepFrom.load hop (p := (.pointer (some ⟨w.heap.size + 1, 2, none⟩) : Value)) (by kernel_rfl) (load_int ((hQS.cell (p := ⟨w.heap.size + 1, 2, none⟩) g1).trans x2)) (by kernel_rfl) hQS (Below.refl _ _) rfl
        refine StepsT.cons (fun (x : Value) (_ : World) => x = (.bool true : Value)) [(7, (fun (x : Value) (_ : World) => x = (.int .i64 0 : Value)))] rfl rfl (fun oq hop _ wq hQS => ?_) ?_
        · refine StepFrom.more_eq ((.int .i64 0 : Value)) ?_
          exact StepFrom.bin hop (vx := (.int .i64 0 : Value)) (vy := (.int .i64 0 : Value)) (by kernel_rfl) (by kernel_rfl) (eql_to _ _ _ (by first | assumption | rfl | (simp; done) | (simp; omega))) (by kernel_rfl) hQS (Below.refl _ _) rfl
        refine StepsT.cons (fun (x : Value) (_ : World) => x = (.bool true : Value)) [(8, (fun (x : Value) (_ : World) => x = (.bool true : Value)))] rfl rfl (fun oq hop _ wq hQS => ?_) ?_
        · refine StepFrom.more_eq ((.bool true : Value)) ?_
          exact StepFrom.move hop (v := (.bool true : Value)) (by kernel_rfl) (by kernel_rfl) hQS (Below.refl _ _) rfl
        refine StepsT.cons (fun (x : Value) (_ : World) => x = (.pointer (some ⟨w.heap.size + 1, 4, none⟩) : Value)) [(9, (fun (x : Value) (_ : World) => x = (.bool true : Value)))] rfl rfl (fun oq hop _ wq hQS => ?_) ?_
        · refine StepFrom.more_eq ((.bool true : Value)) ?_
          exact StepFrom.fieldAddr hop (p := (.pointer (some ⟨w.heap.size + 1, 0, none⟩) : Value)) (by kernel_rfl) (tm_field 4 (by decide)) (by kernel_rfl) hQS (Below.refl _ _) rfl
        refine StepsT.cons (fun (x : Value) (_ : World) => x = (.slice A2 p2 c2 : Value)) [(9, (fun (x : Value) (_ : World) => x = (.bool true : Value))), (10, (fun (x : Value) (_ : World) => x = (.pointer (some ⟨w.heap.size + 1, 4, none⟩) : Value)))] rfl rfl (fun oq hop _ wq hQS => ?_) ?_
        · refine StepFrom.more_eq ((.bool true : Value)) ?_
          refine StepFrom.more_eq ((.pointer (some ⟨w.heap.size + 1, 4, none⟩) : Value)) ?_
          exact StepFrom.load hop (p := (.pointer (some ⟨w.heap.size + 1, 4, none⟩) : Value)) (by kernel_rfl) (load_terms ((hQS.cell (p := ⟨w.heap.size + 1, 4, none⟩) g1).trans x4)) (by kernel_rfl) hQS (Below.refl _ _) rfl
        refine StepsT.cons (fun (x : Value) (_ : World) => x = (.int .i64 (p2 : Int) : Value)) [(9, (fun (x : Value) (_ : World) => x = (.bool true : Value))), (11, (fun (x : Value) (_ : World) => x = (.slice A2 p2 c2 : Value)))] rfl rfl (fun oq hop _ wq hQS => ?_) ?_
        · refine StepFrom.more_eq ((.bool true : Value)) ?_
          refine StepFrom.more_eq ((.slice A2 p2 c2 : Value)) ?_
          exact StepFrom.lenT hop (show _ = (.slice A2 p2 c2 : Value) by kernel_rfl) (by kernel_rfl) hQS (Below.refl _ _) rfl
        refine StepsT.cons (fun (x : Value) (_ : World) => x = (.bool false : Value)) [(9, (fun (x : Value) (_ : World) => x = (.bool true : Value))), (12, (fun (x : Value) (_ : World) => x = (.int .i64 (p2 : Int) : Value)))] rfl rfl (fun oq hop _ wq hQS => ?_) ?_
        · refine StepFrom.more_eq ((.bool true : Value)) ?_
          refine StepFrom.more_eq ((.int .i64 (p2 : Int) : Value)) ?_
          exact StepFrom.bin hop (vx := (.int .i64 (p2 : Int) : Value)) (vy := (.int .i64 0 : Value)) (by kernel_rfl) (by kernel_rfl) (eql_to _ _ _ (by first | assumption | rfl | (simp; done) | (simp; omega))) (by kernel_rfl) hQS (Below.refl _ _) rfl
        refine StepsT.cons (fun (x : Value) (_ : World) => x = (.bool false : Value)) [(9, (fun (x : Value) (_ : World) => x = (.bool true : Value))), (13, (fun (x : Value) (_ : World) => x = (.bool false : Value)))] rfl rfl (fun oq hop _ wq hQS => ?_) ?_
        · refine StepFrom.more_eq ((.bool true : Value)) ?_
          refine StepFrom.more_eq ((.bool false : Value)) ?_
          exact StepFrom.pick hop (b := true) (vx := (.bool false : Value)) (vy := (Value.bool false : Value)) (by kernel_rfl) (by kernel_rfl) (by kernel_rfl) (by kernel_rfl) hQS (Below.refl _ _) rfl
        refine StepsT.cons (fun (x : Value) (_ : World) => x = (.bool false : Value)) [(14, (fun (x : Value) (_ : World) => x = (.bool false : Value)))] rfl rfl (fun oq hop _ wq hQS => ?_) ?_
        · refine StepFrom.more_eq ((.bool false : Value)) ?_
          exact StepFrom.move hop (v := (.bool false : Value)) (by kernel_rfl) (by kernel_rfl) hQS (Below.refl _ _) rfl
        refine StepsT.cons (fun (x : Value) (_ : World) => x = undef) [(15, (fun (x : Value) (_ : World) => x = (.bool false : Value)))] rfl rfl (fun oq hop _ wq hQS => ?_) ?_
        · refine StepFrom.more_eq ((.bool false : Value)) ?_
          exact StepFrom.off (by kernel_rfl) hQS (Below.refl _ _) rfl
        refine StepsT.cons (fun (x : Value) (_ : World) => x = undef) [(15, (fun (x : Value) (_ : World) => x = (.bool false : Value))), (16, (fun (x : Value) (_ : World) => x = undef))] rfl rfl (fun oq hop _ wq hQS => ?_) ?_
        · refine StepFrom.more_eq ((.bool false : Value)) ?_
          refine StepFrom.more_eq (undef) ?_
          exact StepFrom.off (by kernel_rfl) hQS (Below.refl _ _) rfl
        refine StepsT.cons (fun (x : Value) (_ : World) => x = undef) [(15, (fun (x : Value) (_ : World) => x = (.bool false : Value))), (17, (fun (x : Value) (_ : World) => x = undef))] rfl rfl (fun oq hop _ wq hQS => ?_) ?_
        · refine StepFrom.more_eq ((.bool false : Value)) ?_
          refine StepFrom.more_eq (undef) ?_
          exact StepFrom.off (by kernel_rfl) hQS (Below.refl _ _) rfl
        refine StepsT.cons (fun (x : Value) (_ : World) => x = (.bool false : Value)) [(15, (fun (x : Value) (_ : World) => x = (.bool false : Value))), (18, (fun (x : Value) (_ : World) => x = undef))] rfl rfl (fun oq hop _ wq hQS => ?_) ?_
        · refine StepFrom.more_eq ((.bool false : Value)) ?_
          refine StepFrom.more_eq (undef) ?_
          exact StepFrom.pick hop (b := false) (vx := undef) (vy := (Value.bool false : Value)) (by kernel_rfl) (by kernel_rfl) (by kernel_rfl) (by kernel_rfl) hQS (Below.refl _ _) rfl
        refine StepsT.cons (fun (x : Value) (_ : World) => x = (.bool false : Value)) [(19, (fun (x : Value) (_ : World) => x = (.bool false : Value)))] rfl rfl (fun oq hop _ wq hQS => ?_) ?_
        · refine StepFrom.more_eq ((.bool false : Value)) ?_
          exact StepFrom.move hop (v := (.bool false : Value)) (by kernel_rfl) (by kernel_rfl) hQS (Below.refl _ _) rfl
        refine StepsT.cons (fun (x : Value) (_ : World) => x = undef) [(20, (fun (x : Value) (_ : World) => x = (.bool false : Value)))] rfl rfl (fun oq hop _ wq hQS => ?_) ?_
        · refine StepFrom.more_eq ((.bool false : Value)) ?_
          exact StepFrom.off (by kernel_rfl) hQS (Below.refl _ _) rfl
        refine StepsT.cons (fun (x : Value) (_ : World) => x = undef) [(20, (fun (x : Value) (_ : World) => x = (.bool false : Value))), (21, (fun (x : Value) (_ : World) => x = undef))] rfl rfl (fun oq hop _ wq hQS => ?_) ?_
        · refine StepFrom.more_eq ((.bool false : Value)) ?_
          refine StepFrom.more_eq (undef) ?_
          exact StepFrom.off (by kernel_rfl) hQS (Below.refl _ _) rfl
        refine StepsT.cons (fun (x : Value) (_ : World) => x = undef) [(20, (fun (x : Value) (_ : World) => x = (.bool false : Value)))] rfl rfl (fun oq hop _ wq hQS => ?_) ?_
        · refine StepFrom.more_eq ((.bool false : Value)) ?_
          exact StepFrom.off (by kernel_rfl) hQS (Below.refl _ _) rfl
        refine StepsT.cons (fun (x : Value) (_ : World) => x = undef) [(20, (fun (x : Value) (_ : World) => x = (.bool false : Value))), (23, (fun (x : Value) (_ : World) => x = undef))] rfl rfl (fun oq hop _ wq hQS => ?_) ?_
        · refine StepFrom.more_eq ((.bool false : Value)) ?_
          refine StepFrom.more_eq (undef) ?_
          exact StepFrom.off (by kernel_rfl) hQS (Below.refl _ _) rfl
        refine StepsT.cons (fun (x : Value) (_ : World) => x = undef) [(20, (fun (x : Value) (_ : World) => x = (.bool false : Value))), (24, (fun (x : Value) (_ : World) => x = undef))] rfl rfl (fun oq hop _ wq hQS => ?_) ?_
        · refine StepFrom.more_eq ((.bool false : Value)) ?_
          refine StepFrom.more_eq (undef) ?_
          exact StepFrom.off (by kernel_rfl) hQS (Below.refl _ _) rfl
        refine StepsT.cons (fun (x : Value) (_ : World) => x = undef) [(20, (fun (x : Value) (_ : World) => x = (.bool false : Value))), (22, (fun (x : Value) (_ : World) => x = undef)), (25, (fun (x : Value) (_ : World) => x = undef))] rfl rfl (fun oq hop _ wq hQS => ?_) ?_
        · refine StepFrom.more_eq ((.bool false : Value)) ?_
          refine StepFrom.more_eq (undef) ?_
          refine StepFrom.more_eq (undef) ?_
          exact StepFrom.off (by kernel_rfl) hQS (Below.refl _ _) rfl
        refine StepsT.cons (fun (x : Value) (_ : World) => x = (.bool false : Value)) [(20, (fun (x : Value) (_ : World) => x = (.bool false : Value))), (26, (fun (x : Value) (_ : World) => x = undef))] rfl rfl (fun oq hop _ wq hQS => ?_) ?_
        · refine StepFrom.more_eq ((.bool false : Value)) ?_
          refine StepFrom.more_eq (undef) ?_
          exact StepFrom.pick hop (b := false) (vx := undef) (vy := (Value.bool false : Value)) (by kernel_rfl) (by kernel_rfl) (by kernel_rfl) (by kernel_rfl) hQS (Below.refl _ _) rfl
        refine StepsT.cons (fun (x : Value) (_ : World) => x = (.bool false : Value)) [(27, (fun (x : Value) (_ : World) => x = (.bool false : Value)))] rfl rfl (fun oq hop _ wq hQS => ?_) ?_
        · refine StepFrom.more_eq ((.bool false : Value)) ?_
          exact StepFrom.move hop (v := (.bool false : Value)) (by kernel_rfl) (by kernel_rfl) hQS (Below.refl _ _) rfl
        refine StepsT.cons (fun (x : Value) (_ : World) => x = undef) [(28, (fun (x : Value) (_ : World) => x = (.bool false : Value)))] rfl rfl (fun oq hop _ wq hQS => ?_) ?_
        · refine StepFrom.more_eq ((.bool false : Value)) ?_
          exact StepFrom.off (by kernel_rfl) hQS (Below.refl _ _) rfl
        refine StepsT.cons (fun (x : Value) (_ : World) => x = undef) [(28, (fun (x : Value) (_ : World) => x = (.bool false : Value))), (29, (fun (x : Value) (_ : World) => x = undef))] rfl rfl (fun oq hop _ wq hQS => ?_) ?_
        · refine StepFrom.more_eq ((.bool false : Value)) ?_
          refine StepFrom.more_eq (undef) ?_
          exact StepFrom.off (by kernel_rfl) hQS (Below.refl _ _) rfl
        refine StepsT.cons (fun (x : Value) (_ : World) => x = undef) [(28, (fun (x : Value) (_ : World) => x = (.bool false : Value))), (30, (fun (x : Value) (_ : World) => x = undef))] rfl rfl (fun oq hop _ wq hQS => ?_) ?_
        · refine StepFrom.more_eq ((.bool false : Value)) ?_
          refine StepFrom.more_eq (undef) ?_
          exact StepFrom.off (by kernel_rfl) hQS (Below.refl _ _) rfl
        refine StepsT.cons (fun (x : Value) (_ : World) => x = undef) [(28, (fun (x : Value) (_ : World) => x = (.bool false : Value)))] rfl rfl (fun oq hop _ wq hQS => ?_) ?_
        · refine StepFrom.more_eq ((.bool false : Value)) ?_
          exact StepFrom.off (by kernel_rfl) hQS (Below.refl _ _) rfl
        refine StepsT.cons (fun (x : Value) (_ : World) => x = undef) [(28, (fun (x : Value) (_ : World) => x = (.bool false : Value))), (32, (fun (x : Value) (_ : World) => x = undef))] rfl rfl (fun oq hop _ wq hQS => ?_) ?_
        · refine StepFrom.more_eq ((.bool false : Value)) ?_
          refine StepFrom.more_eq (undef) ?_
          exact StepFrom.off (by kernel_rfl) hQS (Below.refl _ _) rfl
        refine StepsT.cons (fun (x : Value) (_ : World) => x = undef) [(28, (fun (x : Value) (_ : World) => x = (.bool false : Value)))] rfl rfl (fun oq hop _ wq hQS => ?_) ?_
        · refine StepFrom.more_eq ((.bool false : Value)) ?_
          exact StepFrom.off (by kernel_rfl) hQS (Below.refl _ _) rfl
        refine StepsT.cons (fun (x : Value) (_ : World) => x = undef) [(28, (fun (x : Value) (_ : World) => x = (.bool false : Value))), (34, (fun (x : Value) (_ : World) => x = undef))] rfl rfl (fun oq hop _ wq hQS => ?_) ?_
        · refine StepFrom.more_eq ((.bool false : Value)) ?_
          refine StepFrom.more_eq (undef) ?_
          exact StepFrom.off (by kernel_rfl) hQS (Below.refl _ _) rfl
        refine StepsT.cons (fun (x : Value) (_ : World) => x = undef) [(28, (fun (x : Value) (_ : World) => x = (.bool false : Value))), (33, (fun (x : Value) (_ : World) => x = undef)), (35, (fun (x : Value) (_ : World) => x = undef))] rfl rfl (fun oq hop _ wq hQS => ?_) ?_
        · refine StepFrom.more_eq ((.bool false : Value)) ?_
          refine StepFrom.more_eq (undef) ?_
          refine StepFrom.more_eq (undef) ?_
          exact StepFrom.off (by kernel_rfl) hQS (Below.refl _ _) rfl
        refine StepsT.cons (fun (x : Value) (_ : World) => x = undef) [(28, (fun (x : Value) (_ : World) => x = (.bool false : Value))), (36, (fun (x : Value) (_ : World) => x = undef))] rfl rfl (fun oq hop _ wq hQS => ?_) ?_
        · refine StepFrom.more_eq ((.bool false : Value)) ?_
          refine StepFrom.more_eq (undef) ?_
          exact StepFrom.off (by kernel_rfl) hQS (Below.refl _ _) rfl
        refine StepsT.cons (fun (x : Value) (_ : World) => x = undef) [(28, (fun (x : Value) (_ : World) => x = (.bool false : Value))), (31, (fun (x : Value) (_ : World) => x = undef)), (37, (fun (x : Value) (_ : World) => x = undef))] rfl rfl (fun oq hop _ wq hQS => ?_) ?_
        · refine StepFrom.more_eq ((.bool false : Value)) ?_
          refine StepFrom.more_eq (undef) ?_
          refine StepFrom.more_eq (undef) ?_
          exact StepFrom.off (by kernel_rfl) hQS (Below.refl _ _) rfl
        refine StepsT.cons (fun (x : Value) (_ : World) => x = (.bool false : Value)) [(28, (fun (x : Value) (_ : World) => x = (.bool false : Value))), (38, (fun (x : Value) (_ : World) => x = undef))] rfl rfl (fun oq hop _ wq hQS => ?_) ?_
        · refine StepFrom.more_eq ((.bool false : Value)) ?_
          refine StepFrom.more_eq (undef) ?_
          exact StepFrom.pick hop (b := false) (vx := undef) (vy := (Value.bool false : Value)) (by kernel_rfl) (by kernel_rfl) (by kernel_rfl) (by kernel_rfl) hQS (Below.refl _ _) rfl
        exact StepsT.nil
      case hfin =>
        intro wf hFS
        refine FinalFrom.more fun x6 h6 => ?_
        refine FinalFrom.more fun x7 h7 => ?_
        refine FinalFrom.more fun x8 h8 => ?_
        refine FinalFrom.more fun x9 h9 => ?_
        refine FinalFrom.more fun x10 h10 => ?_
        refine FinalFrom.more fun x11 h11 => ?_
        refine FinalFrom.more fun x12 h12 => ?_
        refine FinalFrom.more fun x13 h13 => ?_
        refine FinalFrom.more fun x14 h14 => ?_
        refine FinalFrom.more fun x15 h15 => ?_
        refine FinalFrom.more fun x16 h16 => ?_
        refine FinalFrom.more fun x17 h17 => ?_
        refine FinalFrom.more fun x18 h18 => ?_
        refine FinalFrom.more fun x19 h19 => ?_
        refine FinalFrom.more fun x20 h20 => ?_
        refine FinalFrom.more fun x21 h21 => ?_
        refine FinalFrom.more fun x22 h22 => ?_
        refine FinalFrom.more fun x23 h23 => ?_
        refine FinalFrom.more fun x24 h24 => ?_
        refine FinalFrom.more fun x25 h25 => ?_
        refine FinalFrom.more fun x26 h26 => ?_
        refine FinalFrom.more fun x27 h27 => ?_
        refine FinalFrom.more fun x28 h28 => ?_
        refine FinalFrom.more fun x29 h29 => ?_
        refine FinalFrom.more fun x30 h30 => ?_
        refine FinalFrom.more fun x31 h31 => ?_
        refine FinalFrom.more fun x32 h32 => ?_
        refine FinalFrom.more fun x33 h33 => ?_
        refine FinalFrom.more fun x34 h34 => ?_
        refine FinalFrom.more fun x35 h35 => ?_
        refine FinalFrom.more fun x36 h36 => ?_
        refine FinalFrom.more fun x37 h37 => ?_
        refine FinalFrom.more fun x38 h38 => ?_
        refine FinalFrom.more fun x39 h39 => ?_
        refine FinalFrom.done ?_
        intro _
        have HB3 := Lib.hid (HB.out.trans (hFS.mono HB.out.size))
        obtain rfl : x39 = (.bool false : Value) := h39
        simp only [Act.put, List.setIfInBounds_toArray, List.set_cons_zero, List.set_cons_succ, List.drop_succ_cons, List.drop_zero]
        clear HDR y2 y3 x1 x2 x3 x4 hS hFS g0 g1
        go_wp2_with (fail)
        refine (must_any false _).mono ?_
        rintro e w5 h
        obtain ⟨rfl, hb⟩ := h.2 rfl
        have HF := Lib.hid (HB3.out.trans (hb.mono HB3.out.size))
        clear h hb
        go_wp2
        exact ⟨rfl, MustPost.no ⟨rfl, HF.out⟩⟩
  · have e0 : (pos == 0) = false := by simpa using h0
    have hr2 : r = false := by rw [← hr]; simp_all <;> omega
    subst hr2
    clear hr
    go_enter Tryd.func38, Tryd.ntmps38
    have g0 : w.heap.size < w1.heap.size := by have := HS.out; omega
    have g1 : w.heap.size + 1 < w1.heap.size := by have := HS.out; omega
    have hS := HDR.out
    go_upto_region 1 with (fail)
    refine wp_region_tail 34 (fun w' => Below w1.heap.size w1 w') (fun w1 w2 : World => Below w1.heap.size w1 w2) [(fun (x : Value) (_ : World) => x = (.pointer (some ⟨w.heap.size + 1, 2, none⟩) : Value)), (fun (x : Value) (_ : World) => x = (.int .i64 pos : Value)), (fun (x : Value) (_ : World) => x = (.bool false : Value)), (fun (x : Value) (_ : World) => x = (.bool false : Value)), (fun (x : Value) (_ : World) => x = undef), (fun (x : Value) (_ : World) => x = undef), (fun (x : Value) (_ : World) => x = undef), (fun (x : Value) (_ : World) => x = undef), (fun (x : Value) (_ : World) => x = (.bool false : Value)), (fun (x : Value) (_ : World) => x = (.bool false : Value)), (fun (x : Value) (_ : World) => x = undef), (fun (x : Value) (_ : World) => x = undef), (fun (x : Value) (_ : World) => x = undef), (fun (x : Value) (_ : World) => x = (.bool false : Value)), (fun (x : Value) (_ : World) => x = (.bool false : Value)), (fun (x : Value) (_ : World) => x = undef), (fun (x : Value) (_ : World) => x = undef), (fun (x : Value) (_ : World) => x = undef), (fun (x : Value) (_ : World) => x = undef), (fun (x : Value) (_ : World) => x = undef), (fun (x : Value) (_ : World) => x = undef), (fun (x : Value) (_ : World) => x = (.bool false : Value)), (fun (x : Value) (_ : World) => x = (.bool false : Value)), (fun (x : Value) (_ : World) => x = undef), (fun (x : Value) (_ : World) => x = undef), (fun (x : Value) (_ : World) => x = undef), (fun (x : Value) (_ : World) => x = undef), (fun (x : Value) (_ : World) => x = undef), (fun (x : Value) (_ : World) => x = undef), (fun (x : Value) (_ : World) => x = undef), (fun (x : Value) (_ : World) => x = undef), (fun (x : Value) (_ : World) => x = undef), (fun (x : Value) (_ : World) => x = undef), (fun (x : Value) (_ : World) => x = (.bool false : Value))] [⟨some 6, .fieldAddr 27 (.tmp 3) 2, none, []⟩, ⟨some 7, .load 3 (.tmp 6), none, [(6, 0)]⟩, ⟨some 8, .binOp .eql 3 (.tmp 7) (.const (.int .i64 0)) 3, none, [(7, 1)]⟩, ⟨some 9, .move (.tmp 8), none, [(8, 2)]⟩, ⟨some 10, .fieldAddr 27 (.tmp 3) 4, some (some 9, true), [(9, 3)]⟩, ⟨some 11, .load 25 (.tmp 10), some (some 9, true), [(9, 3), (10, 4)]⟩, ⟨some 12, .call { callee := .builtin .len, args := #[.tmp 11], argTypes := #[25] }, some (some 9, true), [(9, 3), (11, 5)]⟩, ⟨some 13, .binOp .eql 3 (.tmp 12) (.const (.int .i64 0)) 3, some (some 9, true), [(9, 3), (12, 6)]⟩, ⟨some 14, .pick (.tmp 9) (.tmp 13) (.const (Value.bool false)), none, [(9, 3), (13, 7)]⟩, ⟨some 15, .move (.tmp 14), none, [(14, 8)]⟩, ⟨some 16, .fieldAddr 27 (.tmp 3) 1, some (some 15, true), [(15, 9)]⟩, ⟨some 17, .load 3 (.tmp 16), some (some 15, true), [(15, 9), (16, 10)]⟩, ⟨some 18, .binOp .geq 3 (.tmp 17) (.const (.int .i64 0)) 3, some (some 15, true), [(15, 9), (17, 11)]⟩, ⟨some 19, .pick (.tmp 15) (.tmp 18) (.const (Value.bool false)), none, [(15, 9), (18, 12)]⟩, ⟨some 20, .move (.tmp 19), none, [(19, 13)]⟩, ⟨some 21, .fieldAddr 27 (.tmp 3) 1, some (some 20, true), [(20, 14)]⟩, ⟨some 22, .load 3 (.tmp 21), some (some 20, true), [(20, 14), (21, 15)]⟩, ⟨some 23, .fieldAddr 55 (.tmp 2) 2, some (some 20, true), [(20, 14)]⟩, ⟨some 24, .load 22 (.tmp 23), some (some 20, true), [(20, 14), (23, 17)]⟩, ⟨some 25, .call { callee := .builtin .len, args := #[.tmp 24], argTypes := #[22] }, some (some 20, true), [(20, 14), (24, 18)]⟩, ⟨some 26, .binOp .lss 3 (.tmp 22) (.tmp 25) 3, some (some 20, true), [(20, 14), (22, 16), (25, 19)]⟩, ⟨some 27, .pick (.tmp 20) (.tmp 26) (.const (Value.bool false)), none, [(20, 14), (26, 20)]⟩, ⟨some 28, .move (.tmp 27), none, [(27, 21)]⟩, ⟨some 29, .fieldAddr 27 (.tmp 3) 3, some (some 28, true), [(28, 22)]⟩, ⟨some 30, .load 24 (.tmp 29), some (some 28, true), [(28, 22), (29, 23)]⟩, ⟨some 31, .call { callee := .builtin .len, args := #[.tmp 30], argTypes := #[24] }, some (some 28, true), [(28, 22), (30, 24)]⟩, ⟨some 32, .fieldAddr 55 (.tmp 2) 2, some (some 28, true), [(28, 22)]⟩, ⟨some 33, .load 22 (.tmp 32), some (some 28, true), [(28, 22), (32, 26)]⟩, ⟨some 34, .fieldAddr 27 (.tmp 3) 1, some (some 28, true), [(28, 22)]⟩, ⟨some 35, .load 3 (.tmp 34), some (some 28, true), [(28, 22), (34, 28)]⟩, ⟨some 36, .indexAddr 22 (.tmp 33) (.tmp 35), some (some 28, true), [(28, 22), (33, 27), (35, 29)]⟩, ⟨some 37, .load 3 (.tmp 36), some (some 28, true), [(28, 22), (36, 30)]⟩, ⟨some 38, .binOp .eql 3 (.tmp 31) (.tmp 37) 3, some (some 28, true), [(28, 22), (31, 25), (37, 31)]⟩, ⟨some 39, .pick (.tmp 28) (.tmp 38) (.const (Value.bool false)), none, [(28, 22), (38, 32)]⟩] [some 6, some 7, some 8, some 9, some 10, some 11, some 12, some 13, some 14, some 15, some 16, some 17, some 18, some 19, some 20, some 21, some 22, some 23, some 24, some 25, some 26, some 27, some 28, some 29, some 30, some 31, some 32, some 33, some 34, some 35, some 36, some 37, some 38, some 39] [] [] (by kernel_rfl) (by kernel_rfl) (by kernel_rfl) (by kernel_rfl) (by kernel_rfl) (by kernel_rfl) (by kernel_rfl) (by kernel_rfl) ?hrun ?hold ?hS ?hmono ?hsteps ?hfin
    case hrun => exact fun p hp => by cases hp
    case hold => exact fun p hp => by cases hp
    case hS => exact hS
    case hmono =>
      refine MonoL.cons (fun x w1 w2 _ _ _ hx => hx) ?_
      refine MonoL.cons (fun x w1 w2 _ _ _ hx => hx) ?_
      refine MonoL.cons (fun x w1 w2 _ _ _ hx => hx) ?_
      refine MonoL.cons (fun x w1 w2 _ _ _ hx => hx) ?_
      refine MonoL.cons (fun x w1 w2 _ _ _ hx => hx) ?_
      refine MonoL.cons (fun x w1 w2 _ _ _ hx => hx) ?_
      refine MonoL.cons (fun x w1 w2 _ _ _ hx => hx) ?_
      refine MonoL.cons (fun x w1 w2 _ _ _ hx => hx) ?_
      refine MonoL.cons (fun x w1 w2 _ _ _ hx => hx) ?_
      refine MonoL.cons (fun x w1 w2 _ _ _ hx => hx) ?_
      refine MonoL.cons (fun x w1 w2 _ _ _ hx => hx) ?_
      refine MonoL.cons (fun x w1 w2 _ _ _ hx => hx) ?_
      refine MonoL.cons (fun x w1 w2 _ _ _ hx => hx) ?_
      refine MonoL.cons (fun x w1 w2 _ _ _ hx => hx) ?_
      refine MonoL.cons (fun x w1 w2 _ _ _ hx => hx) ?_
      refine MonoL.cons (fun x w1 w2 _ _ _ hx => hx) ?_
      refine MonoL.cons (fun x w1 w2 _ _ _ hx => hx) ?_
      refine MonoL.cons (fun x w1 w2 _ _ _ hx => hx) ?_
      refine MonoL.cons (fun x w1 w2 _ _ _ hx => hx) ?_
      refine MonoL.cons (fun x w1 w2 _ _ _ hx => hx) ?_
      refine MonoL.cons (fun x w1 w2 _ _ _ hx => hx) ?_
      refine MonoL.cons (fun x w1 w2 _ _ _ hx => hx) ?_
      refine MonoL.cons (fun x w1 w2 _ _ _ hx => hx) ?_
      refine MonoL.cons (fun x w1 w2 _ _ _ hx => hx) ?_
      refine MonoL.cons (fun x w1 w2 _ _ _ hx => hx) ?_
      refine MonoL.cons (fun x w1 w2 _ _ _ hx => hx) ?_
      refine MonoL.cons (fun x w1 w2 _ _ _ hx => hx) ?_
      refine MonoL.cons (fun x w1 w2 _ _ _ hx => hx) ?_
      refine MonoL.cons (fun x w1 w2 _ _ _ hx => hx) ?_
      refine MonoL.cons (fun x w1 w2 _ _ _ hx => hx) ?_
      refine MonoL.cons (fun x w1 w2 _ _ _ hx => hx) ?_
      refine MonoL.cons (fun x w1 w2 _ _ _ hx => hx) ?_
      refine MonoL.cons (fun x w1 w2 _ _ _ hx => hx) ?_
      refine MonoL.cons (fun x w1 w2 _ _ _ hx => hx) ?_
      exact MonoL.nil
    case hsteps =>
      refine StepsT.cons (fun (x : Value) (_ : World) => x = (.pointer (some ⟨w.heap.size + 1, 2, none⟩) : Value)) [] rfl rfl (fun oq hop _ wq hQS => ?_) ?_
      · exact StepFrom.fieldAddr hop (p := (.pointer (some ⟨w.heap.size + 1, 0, none⟩) : Value)) (by kernel_rfl) (tm_field 2 (by decide)) (by kernel_rfl) hQS (Below.refl _ _) rfl
      refine StepsT.cons (fun (x : Value) (_ : World) => x = (.int .i64 pos : Value)) [(6, (fun (x : Value) (_ : World) => x = (.pointer (some ⟨w.heap.size + 1, 2, none⟩) : Value)))] rfl rfl (fun oq hop _ wq hQS => ?_) ?_
      · refine StepFrom.more_eq ((.pointer (some ⟨w.heap.size + 1, 2, none⟩) : Value)) ?_
        exact StepFrom.load hop (p := (.pointer (some ⟨w.heap.size + 1, 2, none⟩) : Value)) (by kernel_rfl) (load_int ((hQS.cell (p := ⟨w.heap.size + 1, 2, none⟩) g1).trans x2)) (by kernel_rfl) hQS (Below.refl _ _) rfl
      refine StepsT.cons (fun (x : Value) (_ : World) => x = (.bool false : Value)) [(7, (fun (x : Value) (_ : World) => x = (.int .i64 pos : Value)))] rfl rfl (fun oq hop _ wq hQS => ?_) ?_
      · refine StepFrom.more_eq ((.int .i64 pos : Value)) ?_
        exact StepFrom.bin hop (vx := (.int .i64 pos : Value)) (vy := (.int .i64 0 : Value)) (by kernel_rfl) (by kernel_rfl) (eql_to _ _ _ (by first | assumption | rfl | (simp; done) | (simp; omega))) (by kernel_rfl) hQS (Below.refl _ _) rfl
      refine StepsT.cons (fun (x : Value) (_ : World) => x = (.bool false : Value)) [(8, (fun (x : Value) (_ : World) => x = (.bool false : Value)))] rfl rfl (fun oq hop _ wq hQS => ?_) ?_
      · refine StepFrom.more_eq ((.bool false : Value)) ?_
        exact StepFrom.move hop (v := (.bool false : Value)) (by kernel_rfl) (by kernel_rfl) hQS (Below.refl _ _) rfl
      refine StepsT.cons (fun (x : Value) (_ : World) => x = undef) [(9, (fun (x : Value) (_ : World) => x = (.bool false : Value)))] rfl rfl (fun oq hop _ wq hQS => ?_) ?_
      · refine StepFrom.more_eq ((.bool false : Value)) ?_
        exact StepFrom.off (by kernel_rfl) hQS (Below.refl _ _) rfl
      refine StepsT.cons (fun (x : Value) (_ : World) => x = undef) [(9, (fun (x : Value) (_ : World) => x = (.bool false : Value))), (10, (fun (x : Value) (_ : World) => x = undef))] rfl rfl (fun oq hop _ wq hQS => ?_) ?_
      · refine StepFrom.more_eq ((.bool false : Value)) ?_
        refine StepFrom.more_eq (undef) ?_
        exact StepFrom.off (by kernel_rfl) hQS (Below.refl _ _) rfl
      refine StepsT.cons (fun (x : Value) (_ : World) => x = undef) [(9, (fun (x : Value) (_ : World) => x = (.bool false : Value))), (11, (fun (x : Value) (_ : World) => x = undef))] rfl rfl (fun oq hop _ wq hQS => ?_) ?_
      · refine StepFrom.more_eq ((.bool false : Value)) ?_
        refine StepFrom.more_eq (undef) ?_
        exact StepFrom.off (by kernel_rfl) hQS (Below.refl _ _) rfl
      refine StepsT.cons (fun (x : Value) (_ : World) => x = undef) [(9, (fun (x : Value) (_ : World) => x = (.bool false : Value))), (12, (fun (x : Value) (_ : World) => x = undef))] rfl rfl (fun oq hop _ wq hQS => ?_) ?_
      · refine StepFrom.more_eq ((.bool false : Value)) ?_
        refine StepFrom.more_eq (undef) ?_
        exact StepFrom.off (by kernel_rfl) hQS (Below.refl _ _) rfl
      refine StepsT.cons (fun (x : Value) (_ : World) => x = (.bool false : Value)) [(9, (fun (x : Value) (_ : World) => x = (.bool false : Value))), (13, (fun (x : Value) (_ : World) => x = undef))] rfl rfl (fun oq hop _ wq hQS => ?_) ?_
      · refine StepFrom.more_eq ((.bool false : Value)) ?_
        refine StepFrom.more_eq (undef) ?_
        exact StepFrom.pick hop (b := false) (vx := undef) (vy := (Value.bool false : Value)) (by kernel_rfl) (by kernel_rfl) (by kernel_rfl) (by kernel_rfl) hQS (Below.refl _ _) rfl
      refine StepsT.cons (fun (x : Value) (_ : World) => x = (.bool false : Value)) [(14, (fun (x : Value) (_ : World) => x = (.bool false : Value)))] rfl rfl (fun oq hop _ wq hQS => ?_) ?_
      · refine StepFrom.more_eq ((.bool false : Value)) ?_
        exact StepFrom.move hop (v := (.bool false : Value)) (by kernel_rfl) (by kernel_rfl) hQS (Below.refl _ _) rfl
      refine StepsT.cons (fun (x : Value) (_ : World) => x = undef) [(15, (fun (x : Value) (_ : World) => x = (.bool false : Value)))] rfl rfl (fun oq hop _ wq hQS => ?_) ?_
      · refine StepFrom.more_eq ((.bool false : Value)) ?_
        exact StepFrom.off (by kernel_rfl) hQS (Below.refl _ _) rfl
      refine StepsT.cons (fun (x : Value) (_ : World) => x = undef) [(15, (fun (x : Value) (_ : World) => x = (.bool false : Value))), (16, (fun (x : Value) (_ : World) => x = undef))] rfl rfl (fun oq hop _ wq hQS => ?_) ?_
      · refine StepFrom.more_eq ((.bool false : Value)) ?_
        refine StepFrom.more_eq (undef) ?_
        exact StepFrom.off (by kernel_rfl) hQS (Below.refl _ _) rfl
      refine StepsT.cons (fun (x : Value) (_ : World) => x = undef) [(15, (fun (x : Value) (_ : World) => x = (.bool false : Value))), (17, (fun (x : Value) (_ : World) => x = undef))] rfl rfl (fun oq hop _ wq hQS => ?_) ?_
      · refine StepFrom.more_eq ((.bool false : Value)) ?_
        refine StepFrom.more_eq (undef) ?_
        exact StepFrom.off (by kernel_rfl) hQS (Below.refl _ _) rfl
      refine StepsT.cons (fun (x : Value) (_ : World) => x = (.bool false : Value)) [(15, (fun (x : Value) (_ : World) => x = (.bool false : Value))), (18, (fun (x : Value) (_ : World) => x = undef))] rfl rfl (fun oq hop _ wq hQS => ?_) ?_
      · refine StepFrom.more_eq ((.bool false : Value)) ?_
        refine StepFrom.more_eq (undef) ?_
        exact StepFrom.pick hop (b := false) (vx := undef) (vy := (Value.bool false : Value)) (by kernel_rfl) (by kernel_rfl) (by kernel_rfl) (by kernel_rfl) hQS (Below.refl _ _) rfl
      refine StepsT.cons (fun (x : Value) (_ : World) => x = (.bool false : Value)) [(19, (fun (x : Value) (_ : World) => x = (.bool false : Value)))] rfl rfl (fun oq hop _ wq hQS => ?_) ?_
      · refine StepFrom.more_eq ((.bool false : Value)) ?_
        exact StepFrom.move hop (v := (.bool false : Value)) (by kernel_rfl) (by kernel_rfl) hQS (Below.refl _ _) rfl
      refine StepsT.cons (fun (x : Value) (_ : World) => x = undef) [(20, (fun (x : Value) (_ : World) => x = (.bool false : Value)))] rfl rfl (fun oq hop _ wq hQS => ?_) ?_
      · refine StepFrom.more_eq ((.bool false : Value)) ?_
        exact StepFrom.off (by kernel_rfl) hQS (Below.refl _ _) rfl
      refine StepsT.cons (fun (x : Value) (_ : World) => x = undef) [(20, (fun (x : Value) (_ : World) => x = (.bool false : Value))), (21, (fun (x : Value) (_ : World) => x = undef))] rfl rfl (fun oq hop _ wq hQS => ?_) ?_
      · refine StepFrom.more_eq ((.bool false : Value)) ?_
        refine StepFrom.more_eq (undef) ?_
        exact StepFrom.off (by kernel_rfl) hQS (Below.refl _ _) rfl
      refine StepsT.cons (fun (x : Value) (_ : World) => x = undef) [(20, (fun (x : Value) (_ : World) => x = (.bool false : Value)))] rfl rfl (fun oq hop _ wq hQS => ?_) ?_
      · refine StepFrom.more_eq ((.bool false : Value)) ?_
        exact StepFrom.off (by kernel_rfl) hQS (Below.refl _ _) rfl
      refine StepsT.cons (fun (x : Value) (_ : World) => x = undef) [(20, (fun (x : Value) (_ : World) => x = (.bool false : Value))), (23, (fun (x : Value) (_ : World) => x = undef))] rfl rfl (fun oq hop _ wq hQS => ?_) ?_
      · refine StepFrom.more_eq ((.bool false : Value)) ?_
        refine StepFrom.more_eq (undef) ?_
        exact StepFrom.off (by kernel_rfl) hQS (Below.refl _ _) rfl
      refine StepsT.cons (fun (x : Value) (_ : World) => x = undef) [(20, (fun (x : Value) (_ : World) => x = (.bool false : Value))), (24, (fun (x : Value) (_ : World) => x = undef))] rfl rfl (fun oq hop _ wq hQS => ?_) ?_
      · refine StepFrom.more_eq ((.bool false : Value)) ?_
        refine StepFrom.more_eq (undef) ?_
        exact StepFrom.off (by kernel_rfl) hQS (Below.refl _ _) rfl
      refine StepsT.cons (fun (x : Value) (_ : World) => x = undef) [(20, (fun (x : Value) (_ : World) => x = (.bool false : Value))), (22, (fun (x : Value) (_ : World) => x = undef)), (25, (fun (x : Value) (_ : World) => x = undef))] rfl rfl (fun oq hop _ wq hQS => ?_) ?_
      · refine StepFrom.more_eq ((.bool false : Value)) ?_
        refine StepFrom.more_eq (undef) ?_
        refine StepFrom.more_eq (undef) ?_
        exact StepFrom.off (by kernel_rfl) hQS (Below.refl _ _) rfl
      refine StepsT.cons (fun (x : Value) (_ : World) => x = (.bool false : Value)) [(20, (fun (x : Value) (_ : World) => x = (.bool false : Value))), (26, (fun (x : Value) (_ : World) => x = undef))] rfl rfl (fun oq hop _ wq hQS => ?_) ?_
      · refine StepFrom.more_eq ((.bool false : Value)) ?_
        refine StepFrom.more_eq (undef) ?_
        exact StepFrom.pick hop (b := false) (vx := undef) (vy := (Value.bool false : Value)) (by kernel_rfl) (by kernel_rfl) (by kernel_rfl) (by kernel_rfl) hQS (Below.refl _ _) rfl
      refine StepsT.cons (fun (x : Value) (_ : World) => x = (.bool false : Value)) [(27, (fun (x : Value) (_ : World) => x = (.bool false : Value)))] rfl rfl (fun oq hop _ wq hQS => ?_) ?_
      · refine StepFrom.more_eq ((.bool false : Value)) ?_
        exact StepFrom.move hop (v := (.bool false : Value)) (by kernel_rfl) (by kernel_rfl) hQS (Below.refl _ _) rfl
      refine StepsT.cons (fun (x : Value) (_ : World) => x = undef) [(28, (fun (x : Value) (_ : World) => x = (.bool false : Value)))] rfl rfl (fun oq hop _ wq hQS => ?_) ?_
      · refine StepFrom.more_eq ((.bool false : Value)) ?_
        exact StepFrom.off (by kernel_rfl) hQS (Below.refl _ _) rfl
      refine StepsT.cons (fun (x : Value) (_ : World) => x = undef) [(28, (fun (x : Value) (_ : World) => x = (.bool false : Value))), (29, (fun (x : Value) (_ : World) => x = undef))] rfl rfl (fun oq hop _ wq hQS => ?_) ?_
      · refine StepFrom.more_eq ((.bool false : Value)) ?_
        refine StepFrom.more_eq (undef) ?_
        exact StepFrom.off (by kernel_rfl) hQS (Below.refl _ _) rfl
      refine StepsT.cons (fun (x : Value) (_ : World) => x = undef) [(28, (fun (x : Value) (_ : World) => x = (.bool false : Value))), (30, (fun (x : Value) (_ : World) => x = undef))] rfl rfl (fun oq hop _ wq hQS => ?_) ?_
      · refine StepFrom.more_eq ((.bool false : Value)) ?_
        refine StepFrom.more_eq (undef) ?_
        exact StepFrom.off (by kernel_rfl) hQS (Below.refl _ _) rfl
      refine StepsT.cons (fun (x : Value) (_ : World) => x = undef) [(28, (fun (x : Value) (_ : World) => x = (.bool false : Value)))] rfl rfl (fun oq hop _ wq hQS => ?_) ?_
      · refine StepFrom.more_eq ((.bool false : Value)) ?_
        exact StepFrom.off (by kernel_rfl) hQS (Below.refl _ _) rfl
      refine StepsT.cons (fun (x : Value) (_ : World) => x = undef) [(28, (fun (x : Value) (_ : World) => x = (.bool false : Value))), (32, (fun (x : Value) (_ : World) => x = undef))] rfl rfl (fun oq hop _ wq hQS => ?_) ?_
      · refine StepFrom.more_eq ((.bool false : Value)) ?_
        refine StepFrom.more_eq (undef) ?_
        exact StepFrom.off (by kernel_rfl) hQS (Below.refl _ _) rfl
      refine StepsT.cons (fun (x : Value) (_ : World) => x = undef) [(28, (fun (x : Value) (_ : World) => x = (.bool false : Value)))] rfl rfl (fun oq hop _ wq hQS => ?_) ?_
      · refine StepFrom.more_eq ((.bool false : Value)) ?_
        exact StepFrom.off (by kernel_rfl) hQS (Below.refl _ _) rfl
      refine StepsT.cons (fun (x : Value) (_ : World) => x = undef) [(28, (fun (x : Value) (_ : World) => x = (.bool false : Value))), (34, (fun (x : Value) (_ : World) => x = undef))] rfl rfl (fun oq hop _ wq hQS => ?_) ?_
      · refine StepFrom.more_eq ((.bool false : Value)) ?_
        refine StepFrom.more_eq (undef) ?_
        exact StepFrom.off (by kernel_rfl) hQS (Below.refl _ _) rfl
      refine StepsT.cons (fun (x : Value) (_ : World) => x = undef) [(28, (fun (x : Value) (_ : World) => x = (.bool false : Value))), (33, (fun (x : Value) (_ : World) => x = undef)), (35, (fun (x : Value) (_ : World) => x = undef))] rfl rfl (fun oq hop _ wq hQS => ?_) ?_
      · refine StepFrom.more_eq ((.bool false : Value)) ?_
        refine StepFrom.more_eq (undef) ?_
        refine StepFrom.more_eq (undef) ?_
        exact StepFrom.off (by kernel_rfl) hQS (Below.refl _ _) rfl
      refine StepsT.cons (fun (x : Value) (_ : World) => x = undef) [(28, (fun (x : Value) (_ : World) => x = (.bool false : Value))), (36, (fun (x : Value) (_ : World) => x = undef))] rfl rfl (fun oq hop _ wq hQS => ?_) ?_
      · refine StepFrom.more_eq ((.bool false : Value)) ?_
        refine StepFrom.more_eq (undef) ?_
        exact StepFrom.off (by kernel_rfl) hQS (Below.refl _ _) rfl
      refine StepsT.cons (fun (x : Value) (_ : World) => x = undef) [(28, (fun (x : Value) (_ : World) => x = (.bool false : Value))), (31, (fun (x : Value) (_ : World) => x = undef)), (37, (fun (x : Value) (_ : World) => x = undef))] rfl rfl (fun oq hop _ wq hQS => ?_) ?_
      · refine StepFrom.more_eq ((.bool false : Value)) ?_
        refine StepFrom.more_eq (undef) ?_
        refine StepFrom.more_eq (undef) ?_
        exact StepFrom.off (by kernel_rfl) hQS (Below.refl _ _) rfl
      refine StepsT.cons (fun (x : Value) (_ : World) => x = (.bool false : Value)) [(28, (fun (x : Value) (_ : World) => x = (.bool false : Value))), (38, (fun (x : Value) (_ : World) => x = undef))] rfl rfl (fun oq hop _ wq hQS => ?_) ?_
      · refine StepFrom.more_eq ((.bool false : Value)) ?_
        refine StepFrom.more_eq (undef) ?_
        exact StepFrom.pick hop (b := false) (vx := undef) (vy := (Value.bool false : Value)) (by kernel_rfl) (by kernel_rfl) (by kernel_rfl) (by kernel_rfl) hQS (Below.refl _ _) rfl
      exact StepsT.nil
    case hfin =>
      intro wf hFS
      refine FinalFrom.more fun x6 h6 => ?_
      refine FinalFrom.more fun x7 h7 => ?_
      refine FinalFrom.more fun x8 h8 => ?_
      refine FinalFrom.more fun x9 h9 => ?_
      refine FinalFrom.more fun x10 h10 => ?_
      refine FinalFrom.more fun x11 h11 => ?_
      refine FinalFrom.more fun x12 h12 => ?_
      refine FinalFrom.more fun x13 h13 => ?_
      refine FinalFrom.more fun x14 h14 => ?_
      refine FinalFrom.more fun x15 h15 => ?_
      refine FinalFrom.more fun x16 h16 => ?_
      refine FinalFrom.more fun x17 h17 => ?_
      refine FinalFrom.more fun x18 h18 => ?_
      refine FinalFrom.more fun x19 h19 => ?_
      refine FinalFrom.more fun x20 h20 => ?_
      refine FinalFrom.more fun x21 h21 => ?_
      refine FinalFrom.more fun x22 h22 => ?_
      refine FinalFrom.more fun x23 h23 => ?_
      refine FinalFrom.more fun x24 h24 => ?_
      refine FinalFrom.more fun x25 h25 => ?_
      refine FinalFrom.more fun x26 h26 => ?_
      refine FinalFrom.more fun x27 h27 => ?_
      refine FinalFrom.more fun x28 h28 => ?_
      refine FinalFrom.more fun x29 h29 => ?_
      refine FinalFrom.more fun x30 h30 => ?_
      refine FinalFrom.more fun x31 h31 => ?_
      refine FinalFrom.more fun x32 h32 => ?_
      refine FinalFrom.more fun x33 h33 => ?_
      refine FinalFrom.more fun x34 h34 => ?_
      refine FinalFrom.more fun x35 h35 => ?_
      refine FinalFrom.more fun x36 h36 => ?_
      refine FinalFrom.more fun x37 h37 => ?_
      refine FinalFrom.more fun x38 h38 => ?_
      refine FinalFrom.more fun x39 h39 => ?_
      refine FinalFrom.done ?_
      intro _
      have HB3 := Lib.hid (HB.out.trans (hFS.mono HB.out.size))
      obtain rfl : x39 = (.bool false : Value) := h39
      simp only [Act.put, List.setIfInBounds_toArray, List.set_cons_zero, List.set_cons_succ, List.drop_succ_cons, List.drop_zero]
      clear HDR y2 y3 x1 x2 x3 x4 hS hFS g0 g1
      go_wp2_with (fail)
      refine (must_any false _).mono ?_
      rintro e w5 h
      obtain ⟨rfl, hb⟩ := h.2 rfl
      have HF := Lib.hid (HB3.out.trans (hb.mono HB3.out.size))
      clear h hb
      go_wp2
      exact ⟨rfl, MustPost.no ⟨rfl, HF.out⟩⟩
end Go.Proofs.YtkijhinhjnbnlaaDoor
