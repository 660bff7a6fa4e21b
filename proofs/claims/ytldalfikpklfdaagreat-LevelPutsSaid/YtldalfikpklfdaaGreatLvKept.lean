/- What KeptParts and KeptLevel answer of what was lent and is as it was: yes. -/
import Derived.Test.YtldalfikpklfdaaGreatLvLentL
import Derived.Test.YtldalfikpklfdaaGreatLvKindsB
namespace Go.Proofs.YtldalfikpklfdaaGreat
open Go.RowKit Go.Maps

section
variable {S : World → Prop} {R : World → World → Prop} {o : Oper} {V : Value → World → Prop} {g : Option (Option Tmp × Bool)} {a : Act} {w w' : World}
set_option maxRecDepth 100000 in
theorem StepFrom.lenP {x : Operand} (hop : o.op = .call { callee := .builtin .len, args := #[x], argTypes := #[22] }) {A : Option Addr} {n c : Nat} (hx : a.eval x = .slice A n c)
    (hg : gOn g a = true) (hS : S w) (hR : R w w) (hV : V (.int .i64 (n : Int)) w) : StepFrom Tryz.prog S R o V g [] a w :=
  StepFrom.ran (v := .int .i64 (n : Int)) (by
    have hm : (#[x] : Array Operand).map a.eval = #[.slice A n c] := by rw [List.map_toArray, List.map_cons, List.map_nil, hx]
    unfold execOp
    simp only [hop, resolve, hm]
    simp [go_sem]) hg hS hR hV
set_option maxRecDepth 100000 in
theorem StepFrom.lenPP {x : Operand} (hop : o.op = .call { callee := .builtin .len, args := #[x], argTypes := #[58] }) {A : Option Addr} {n c : Nat} (hx : a.eval x = .slice A n c)
    (hg : gOn g a = true) (hS : S w) (hR : R w w) (hV : V (.int .i64 (n : Int)) w) : StepFrom Tryz.prog S R o V g [] a w :=
  StepFrom.ran (v := .int .i64 (n : Int)) (by
    have hm : (#[x] : Array Operand).map a.eval = #[.slice A n c] := by rw [List.map_toArray, List.map_cons, List.map_nil, hx]
    unfold execOp
    simp only [hop, resolve, hm]
    simp [go_sem]) hg hS hR hV
end
set_option maxRecDepth 100000 in
theorem lss_yes (x y : Int) (p q : Operand) (w : World) (h : x < y) : ((do eqGuard .lss 3 p q (.int .i64 x) (.int .i64 y); binOp .lss 3 (.int .i64 x) (.int .i64 y) : Sem Value)).run Tryz.prog w = .ok (.bool true) w := by go_simp
set_option maxRecDepth 100000 in
theorem lss_no (x y : Int) (p q : Operand) (w : World) (h : y ≤ x) : ((do eqGuard .lss 3 p q (.int .i64 x) (.int .i64 y); binOp .lss 3 (.int .i64 x) (.int .i64 y) : Sem Value)).run Tryz.prog w = .ok (.bool false) w := by go_simp
set_option maxRecDepth 100000 in
theorem geq_yes (x y : Int) (p q : Operand) (w : World) (h : y ≤ x) : ((do eqGuard .geq 3 p q (.int .i64 x) (.int .i64 y); binOp .geq 3 (.int .i64 x) (.int .i64 y) : Sem Value)).run Tryz.prog w = .ok (.bool true) w := by go_simp
set_option maxRecDepth 100000 in
theorem geq_no (x y : Int) (p q : Operand) (w : World) (h : x < y) : ((do eqGuard .geq 3 p q (.int .i64 x) (.int .i64 y); binOp .geq 3 (.int .i64 x) (.int .i64 y) : Sem Value)).run Tryz.prog w = .ok (.bool false) w := by go_simp
set_option maxRecDepth 100000 in
theorem sub_int (x y : Int) (p q : Operand) (w : World) (h : IntKind.i64.wrap (x - y) = x - y) : ((do eqGuard .sub 3 p q (.int .i64 x) (.int .i64 y); binOp .sub 3 (.int .i64 x) (.int .i64 y) : Sem Value)).run Tryz.prog w = .ok (.int .i64 (x - y)) w := by go_simp
set_option maxRecDepth 100000 in
theorem eql_part (x y : Int) (p q : Operand) (w : World) : ((do eqGuard .eql 47 p q (.agg #[.int .i64 x, .int .i64 y]) (.agg #[.int .i64 x, .int .i64 y]); binOp .eql 47 (.agg #[.int .i64 x, .int .i64 y]) (.agg #[.int .i64 x, .int .i64 y]) : Sem Value)).run Tryz.prog w = .ok (.bool true) w := by go_simp
set_option maxRecDepth 100000 in
theorem load_part {b o : Nat} {w : World} {x y : Int} (h : w.cell? ⟨b, o, none⟩ = some (.int .i64 x)) (h2 : w.cell? ⟨b, o + 1, none⟩ = some (.int .i64 y)) : (Instr.loadAt 47 (.pointer (some ⟨b, o, none⟩))).run Tryz.prog w = .ok (.agg #[.int .i64 x, .int .i64 y]) w := by go_simp
set_option maxRecDepth 100000 in
theorem enter_markPart (vs : Array Value) (w : World) : (callFunc 49 vs).run Tryz.prog w = .ok (.enter 49 vs) w := by go_simp

theorem marks_length (k : Int) (j : Nat) : (marks k j).length = j := by simp [marks]
theorem marks_get {k : Int} {j i : Nat} (h : i < j) : (marks k j).getD i (0, 0) = (0, 1000003 * (k + 7) + (i : Int)) := by
  rw [List.getD_eq_getElem?_getD, List.getElem?_eq_getElem (by rw [marks_length]; exact h)]
  simp [marks]

set_option maxRecDepth 100000 in
set_option maxHeartbeats 4000000 in
theorem keptParts_any (A : Option Addr) (ps : List (Int × Int)) (c n g cap : Nat) (w : World) (hn : ps.length = n) (hm : n ≤ 900000) (hc1 : n + 12 ≤ cap) (h : Lev w w.heap.size A ps) (hk : Lev w w.heap.size (some ⟨g, 0, none⟩) (ps ++ marks 1 12)) :
    Calls Tryz.prog 39 #[.slice (some ⟨g, 0, none⟩) n cap, .slice A n c] w (HasPost w true) := by
  have q1 : IntKind.i64.wrap ((n : Int) + 12) = (n : Int) + 12 := IntWalk.i64_in _ (by omega)
  have q2 : ((n : Int) != (n : Int)) = false := by simp
  have q3 : (0 : Int) ≤ (n : Int) + 12 := by omega
  have q4 : (n : Int) + 12 ≤ (cap : Int) := by omega
  have q5 : ((n : Int) + 12).toNat = n + 12 := by omega
  have HL := Lib.hid h
  have HN := Lib.hid hn
  have HK : Hid (g < w.heap.size ∧ ∀ i, i < n + 12 → w.cell? ⟨g, 0 + i * 2, none⟩ = some (.int .i64 ((ps ++ marks 1 12).getD i (0, 0)).1) ∧ w.cell? ⟨g, 0 + i * 2 + 1, none⟩ = some (.int .i64 ((ps ++ marks 1 12).getD i (0, 0)).2)) := by
    have hl : (ps ++ marks 1 12).length = n + 12 := by rw [List.length_append, marks_length, hn]
    obtain ⟨b, o, e, hb, hcell⟩ := hk (by omega)
    injection e with e
    injection e with e1 e2
    subst e1 e2
    exact ⟨hb, fun i hi => hcell i (by omega)⟩
  clear h hn hk
  go_enter Tryz.func39, Tryz.ntmps39
  go_wp2
  go_loopw [6] (fun i wr => ∃ k : Nat, k ≤ n + 12 ∧ i = .int .i64 (k : Int) ∧ Below w.heap.size w wr) (fun i _ => n + 12 - (intOf i).toNat)
  case atStart => exact ⟨0, by omega, rfl, Below.refl _ _⟩
  case round =>
    obtain ⟨k, hk, rfl, hb⟩ := hrel
    have hbz := hb.size
    have HB := Lib.hid hb
    by_cases hlt : k < n + 12
    · obtain ⟨hg, hcell⟩ := HK.out
      have hgr : g < wr.heap.size := by omega
      obtain ⟨c0, c1⟩ := hcell k hlt
      replace c0 := (HB.out.cell (p := ⟨g, 0 + k * 2, none⟩) hg).trans c0
      replace c1 := (HB.out.cell (p := ⟨g, 0 + k * 2 + 1, none⟩) hg).trans c1
      have ij0 : (0 : Int) ≤ (k : Int) := by omega
      have ij1 : (k : Int) < ((n + 12 : Nat) : Int) := by omega
      have ij5 : (k : Int) < (n : Int) + 12 := by omega
      clear hcell hb
      have hS : Below wr.heap.size wr wr.drew := (Below.refl _ _).drew
      by_cases hin : k < n
      · have ij2 : (k : Int) < (n : Int) := by omega
        obtain ⟨b, o, e, hbB, hcell'⟩ := HL.out (by rw [HN.out]; omega)
        subst e
        obtain ⟨d0, d1⟩ := hcell' k (by rw [HN.out]; exact hin)
        have ep : (ps ++ marks 1 12).getD k (0, 0) = ps.getD k (0, 0) := by
          rw [List.getD_eq_getElem?_getD, List.getElem?_append_left (by rw [HN.out]; exact hin), ← List.getD_eq_getElem?_getD]
        rw [ep] at c0 c1
        obtain ⟨px, hx⟩ : ∃ x, (ps.getD k (0, 0)).1 = x := ⟨_, rfl⟩
        obtain ⟨py, hy⟩ : ∃ y, (ps.getD k (0, 0)).2 = y := ⟨_, rfl⟩
        rw [hx] at c0 d0
        rw [hy] at c1 d1
        replace d0 := (HB.out.cell (p := ⟨b, o + k * 2, none⟩) hbB).trans d0
        replace d1 := (HB.out.cell (p := ⟨b, o + k * 2 + 1, none⟩) hbB).trans d1
        have hbr : b < wr.heap.size := by omega
        clear hcell' ep hx hy
        go_upto_region 7 with (fail)
        refine wp_region_tab (fun w' => Below wr.heap.size wr w') (fun w1 w2 : World => Below w1.heap.size w1 w2) [(fun (x : Value) (_ : World) => x = (.int .i64 (k : Int) : Value)), (fun (x : Value) (_ : World) => x = (.slice (some ⟨b, o, none⟩) n c : Value)), (fun (x : Value) (_ : World) => x = (.int .i64 (n : Int) : Value)), (fun (x : Value) (_ : World) => x = (.bool true : Value)), (fun (x : Value) (_ : World) => x = (.bool true : Value)), (fun (x : Value) (_ : World) => x = (.slice (some ⟨g, 0, none⟩) (n + 12) cap : Value)), (fun (x : Value) (_ : World) => x = (.int .i64 (k : Int) : Value)), (fun (x : Value) (_ : World) => x = (.pointer (some ⟨g, 0 + k * 2, none⟩) : Value)), (fun (x : Value) (_ : World) => x = (.agg #[.int .i64 px, .int .i64 py] : Value)), (fun (x : Value) (_ : World) => x = (.slice (some ⟨b, o, none⟩) n c : Value)), (fun (x : Value) (_ : World) => x = (.int .i64 (k : Int) : Value)), (fun (x : Value) (_ : World) => x = (.pointer (some ⟨b, o + k * 2, none⟩) : Value)), (fun (x : Value) (_ : World) => x = (.agg #[.int .i64 px, .int .i64 py] : Value)), (fun (x : Value) (_ : World) => x = (.bool true : Value)), (fun (x : Value) (_ : World) => x = (.bool false : Value)), (fun (x : Value) (_ : World) => x = (.bool false : Value)), (fun (x : Value) (_ : World) => x = (.bool false : Value)), (fun (x : Value) (_ : World) => x = (.int .i64 (k : Int) : Value)), (fun (x : Value) (_ : World) => x = (.slice (some ⟨b, o, none⟩) n c : Value)), (fun (x : Value) (_ : World) => x = (.int .i64 (n : Int) : Value)), (fun (x : Value) (_ : World) => x = (.bool false : Value)), (fun (x : Value) (_ : World) => x = (.bool false : Value)), (fun (x : Value) (_ : World) => x = undef), (fun (x : Value) (_ : World) => x = undef), (fun (x : Value) (_ : World) => x = undef), (fun (x : Value) (_ : World) => x = undef), (fun (x : Value) (_ : World) => x = undef), (fun (x : Value) (_ : World) => x = undef), (fun (x : Value) (_ : World) => x = undef), (fun (x : Value) (_ : World) => x = undef), (fun (x : Value) (_ : World) => x = undef), (fun (x : Value) (_ : World) => x = undef), (fun (x : Value) (_ : World) => x = undef), (fun (x : Value) (_ : World) => x = (.bool false : Value)), (fun (x : Value) (_ : World) => x = (.bool false : Value))] [⟨some 23, .move (.tmp 6), none, []⟩, ⟨some 24, .move (.tmp 1), none, []⟩, ⟨some 25, .call { callee := .builtin .len, args := #[.tmp 24], argTypes := #[22] }, none, [(24, 1)]⟩, ⟨some 26, .binOp .lss 3 (.tmp 23) (.tmp 25) 3, none, [(23, 0), (25, 2)]⟩, ⟨some 27, .move (.tmp 26), none, [(26, 3)]⟩, ⟨some 28, .move (.tmp 5), some (some 27, true), [(27, 4)]⟩, ⟨some 29, .move (.tmp 6), some (some 27, true), [(27, 4)]⟩, ⟨some 30, .indexAddr 22 (.tmp 28) (.tmp 29), some (some 27, true), [(27, 4), (28, 5), (29, 6)]⟩, ⟨some 31, .load 47 (.tmp 30), some (some 27, true), [(27, 4), (30, 7)]⟩, ⟨some 32, .move (.tmp 1), some (some 27, true), [(27, 4)]⟩, ⟨some 33, .move (.tmp 6), some (some 27, true), [(27, 4)]⟩, ⟨some 34, .indexAddr 22 (.tmp 32) (.tmp 33), some (some 27, true), [(27, 4), (32, 9), (33, 10)]⟩, ⟨some 35, .load 47 (.tmp 34), some (some 27, true), [(27, 4), (34, 11)]⟩, ⟨some 36, .binOp .eql 47 (.tmp 31) (.tmp 35) 47, some (some 27, true), [(27, 4), (31, 8), (35, 12)]⟩, ⟨some 37, .unOp .not 4 (.tmp 36), some (some 27, true), [(27, 4), (36, 13)]⟩, ⟨some 38, .pick (.tmp 27) (.tmp 37) (.const (Value.bool false)), none, [(27, 4), (37, 14)]⟩, ⟨some 39, .move (.tmp 38), none, [(38, 15)]⟩, ⟨some 40, .move (.tmp 6), some (some 39, false), [(39, 16)]⟩, ⟨some 41, .move (.tmp 1), some (some 39, false), [(39, 16)]⟩, ⟨some 42, .call { callee := .builtin .len, args := #[.tmp 41], argTypes := #[22] }, some (some 39, false), [(39, 16), (41, 18)]⟩, ⟨some 43, .binOp .geq 3 (.tmp 40) (.tmp 42) 3, some (some 39, false), [(39, 16), (40, 17), (42, 19)]⟩, ⟨some 44, .move (.tmp 43), some (some 39, false), [(39, 16), (43, 20)]⟩, ⟨some 45, .move (.tmp 5), some (some 44, true), [(44, 21)]⟩, ⟨some 46, .move (.tmp 6), some (some 44, true), [(44, 21)]⟩, ⟨some 47, .indexAddr 22 (.tmp 45) (.tmp 46), some (some 44, true), [(44, 21), (45, 22), (46, 23)]⟩, ⟨some 48, .load 47 (.tmp 47), some (some 44, true), [(44, 21), (47, 24)]⟩, ⟨some 49, .move (.tmp 6), some (some 44, true), [(44, 21)]⟩, ⟨some 50, .move (.tmp 1), some (some 44, true), [(44, 21)]⟩, ⟨some 51, .call { callee := .builtin .len, args := #[.tmp 50], argTypes := #[22] }, some (some 44, true), [(44, 21), (50, 27)]⟩, ⟨some 52, .binOp .sub 3 (.tmp 49) (.tmp 51) 3, some (some 44, true), [(44, 21), (49, 26), (51, 28)]⟩, ⟨some 53, .call { callee := .value (.func 49), args := #[.const (.int .i64 1), .tmp 52], argTypes := #[3, 3] }, some (some 44, true), [(44, 21), (52, 29)]⟩, ⟨some 54, .binOp .eql 47 (.tmp 48) (.tmp 53) 47, some (some 44, true), [(44, 21), (48, 25), (53, 30)]⟩, ⟨some 55, .unOp .not 4 (.tmp 54), some (some 44, true), [(44, 21), (54, 31)]⟩, ⟨some 56, .pick (.tmp 44) (.tmp 55) (.const (Value.bool false)), some (some 39, false), [(39, 16), (44, 21), (55, 32)]⟩, ⟨some 57, .pick (.tmp 39) (.const (Value.bool true)) (.tmp 56), none, [(39, 16), (56, 33)]⟩] [some 23, some 24, some 25, some 26, some 27, some 28, some 29, some 30, some 31, some 32, some 33, some 34, some 35, some 36, some 37, some 38, some 39, some 40, some 41, some 42, some 43, some 44, some 45, some 46, some 47, some 48, some 49, some 50, some 51, some 52, some 53, some 54, some 55, some 56, some 57] (by kernel_rfl) (by kernel_rfl) (by kernel_rfl) (by kernel_rfl) (by kernel_rfl) ?hS ?hmono ?hsteps ?hfin
        case hS => exact hS
        case hmono =>
          refine MonoL.cons (fun x w1 w2 _ _ _ hx => hx) ?_
          refine MonoL.cons (fun x w1 w2 _ _ _ hx => hx) ?_
          refine MonoL.cons (fun x w1 w2 _ _ _ hx => hx) ?_
          refine MonoL.cons (fun x w1 w2 _ _ _ hx => hx) ?_
          refine MonoL.cons (fun x w1 w2 _ _ _ hx => hx) ?_
          refine MonoL.cons (fun x w1 w2 _ _ _ hx => hx) ?_
          refine MonoL.cons (fun x w1 w2 _ _ _ hx => hx) ?_
          refine MonoL.cons (fun x w1 w2 _ _ _ hx => hx) ?_
          refine MonoL.cons (fun x w1 w2 _ _ _ hx => hx) ?_
          refine MonoL.cons (fun x w1 w2 _ _ _ hx => hx) ?_
          refine MonoL.cons (fun x w1 w2 _ _ _ hx => hx) ?_
          refine MonoL.cons (fun x w1 w2 _ _ _ hx => hx) ?_
          refine MonoL.cons (fun x w1 w2 _ _ _ hx => hx) ?_
          refine MonoL.cons (fun x w1 w2 _ _ _ hx => hx) ?_
          refine MonoL.cons (fun x w1 w2 _ _ _ hx => hx) ?_
          refine MonoL.cons (fun x w1 w2 _ _ _ hx => hx) ?_
          refine MonoL.cons (fun x w1 w2 _ _ _ hx => hx) ?_
          refine MonoL.cons (fun x w1 w2 _ _ _ hx => hx) ?_
          refine MonoL.cons (fun x w1 w2 _ _ _ hx => hx) ?_
          refine MonoL.cons (fun x w1 w2 _ _ _ hx => hx) ?_
          refine MonoL.cons (fun x w1 w2 _ _ _ hx => hx) ?_
          refine MonoL.cons (fun x w1 w2 _ _ _ hx => hx) ?_
          refine MonoL.cons (fun x w1 w2 _ _ _ hx => hx) ?_
          refine MonoL.cons (fun x w1 w2 _ _ _ hx => hx) ?_
          refine MonoL.cons (fun x w1 w2 _ _ _ hx => hx) ?_
          refine MonoL.cons (fun x w1 w2 _ _ _ hx => hx) ?_
          refine MonoL.cons (fun x w1 w2 _ _ _ hx => hx) ?_
          refine MonoL.cons (fun x w1 w2 _ _ _ hx => hx) ?_
          refine MonoL.cons (fun x w1 w2 _ _ _ hx => hx) ?_
          refine MonoL.cons (fun x w1 w2 _ _ _ hx => hx) ?_
          refine MonoL.cons (fun x w1 w2 _ _ _ hx => hx) ?_
          refine MonoL.cons (fun x w1 w2 _ _ _ hx => hx) ?_
          refine MonoL.cons (fun x w1 w2 _ _ _ hx => hx) ?_
          refine MonoL.cons (fun x w1 w2 _ _ _ hx => hx) ?_
          refine MonoL.cons (fun x w1 w2 _ _ _ hx => hx) ?_
          exact MonoL.nil
        case hsteps =>
          refine StepsT.cons (fun (x : Value) (_ : World) => x = (.int .i64 (k : Int) : Value)) [] rfl rfl (fun oq hop _ wq hQS => ?_) ?_
          · exact StepFrom.move hop (v := (.int .i64 (k : Int) : Value)) (by kernel_rfl) (by kernel_rfl) hQS (Below.refl _ _) rfl
          refine StepsT.cons (fun (x : Value) (_ : World) => x = (.slice (some ⟨b, o, none⟩) n c : Value)) [] rfl rfl (fun oq hop _ wq hQS => ?_) ?_
          · exact StepFrom.move hop (v := (.slice (some ⟨b, o, none⟩) n c : Value)) (by kernel_rfl) (by kernel_rfl) hQS (Below.refl _ _) rfl
          refine StepsT.cons (fun (x : Value) (_ : World) => x = (.int .i64 (n : Int) : Value)) [(24, (fun (x : Value) (_ : World) => x = (.slice (some ⟨b, o, none⟩) n c : Value)))] rfl rfl (fun oq hop _ wq hQS => ?_) ?_
          · refine StepFrom.more_eq ((.slice (some ⟨b, o, none⟩) n c : Value)) ?_
            exact StepFrom.lenP hop (show _ = (.slice (some ⟨b, o, none⟩) n c : Value) by kernel_rfl) (by kernel_rfl) hQS (Below.refl _ _) rfl
          refine StepsT.cons (fun (x : Value) (_ : World) => x = (.bool true : Value)) [(23, (fun (x : Value) (_ : World) => x = (.int .i64 (k : Int) : Value))), (25, (fun (x : Value) (_ : World) => x = (.int .i64 (n : Int) : Value)))] rfl rfl (fun oq hop _ wq hQS => ?_) ?_
          · refine StepFrom.more_eq ((.int .i64 (k : Int) : Value)) ?_
            refine StepFrom.more_eq ((.int .i64 (n : Int) : Value)) ?_
            exact StepFrom.bin hop (vx := (.int .i64 (k : Int) : Value)) (vy := (.int .i64 (n : Int) : Value)) (by kernel_rfl) (by kernel_rfl) (lss_yes _ _ _ _ _ ij2) (by kernel_rfl) hQS (Below.refl _ _) rfl
          refine StepsT.cons (fun (x : Value) (_ : World) => x = (.bool true : Value)) [(26, (fun (x : Value) (_ : World) => x = (.bool true : Value)))] rfl rfl (fun oq hop _ wq hQS => ?_) ?_
          · refine StepFrom.more_eq ((.bool true : Value)) ?_
            exact StepFrom.move hop (v := (.bool true : Value)) (by kernel_rfl) (by kernel_rfl) hQS (Below.refl _ _) rfl
          refine StepsT.cons (fun (x : Value) (_ : World) => x = (.slice (some ⟨g, 0, none⟩) (n + 12) cap : Value)) [(27, (fun (x : Value) (_ : World) => x = (.bool true : Value)))] rfl rfl (fun oq hop _ wq hQS => ?_) ?_
          · refine StepFrom.more_eq ((.bool true : Value)) ?_
            exact StepFrom.move hop (v := (.slice (some ⟨g, 0, none⟩) (n + 12) cap : Value)) (by kernel_rfl) (by kernel_rfl) hQS (Below.refl _ _) rfl
          refine StepsT.cons (fun (x : Value) (_ : World) => x = (.int .i64 (k : Int) : Value)) [(27, (fun (x : Value) (_ : World) => x = (.bool true : Value)))] rfl rfl (fun oq hop _ wq hQS => ?_) ?_
          · refine StepFrom.more_eq ((.bool true : Value)) ?_
            exact StepFrom.move hop (v := (.int .i64 (k : Int) : Value)) (by kernel_rfl) (by kernel_rfl) hQS (Below.refl _ _) rfl
          refine StepsT.cons (fun (x : Value) (_ : World) => x = (.pointer (some ⟨g, 0 + k * 2, none⟩) : Value)) [(27, (fun (x : Value) (_ : World) => x = (.bool true : Value))), (28, (fun (x : Value) (_ : World) => x = (.slice (some ⟨g, 0, none⟩) (n + 12) cap : Value))), (29, (fun (x : Value) (_ : World) => x = (.int .i64 (k : Int) : Value)))] rfl rfl (fun oq hop _ wq hQS => ?_) ?_
          · refine StepFrom.more_eq ((.bool true : Value)) ?_
            refine StepFrom.more_eq ((.slice (some ⟨g, 0, none⟩) (n + 12) cap : Value)) ?_
            refine StepFrom.more_eq ((.int .i64 (k : Int) : Value)) ?_
            exact StepFrom.indexAddr hop (p := (.slice (some ⟨g, 0, none⟩) (n + 12) cap : Value)) (q := (.int .i64 (k : Int) : Value)) (by kernel_rfl) (by kernel_rfl) (part_addr ij0 ij1) (by kernel_rfl) hQS (Below.refl _ _) rfl
          refine StepsT.cons (fun (x : Value) (_ : World) => x = (.agg #[.int .i64 px, .int .i64 py] : Value)) [(27, (fun (x : Value) (_ : World) => x = (.bool true : Value))), (30, (fun (x : Value) (_ : World) => x = (.pointer (some ⟨g, 0 + k * 2, none⟩) : Value)))] rfl rfl (fun oq hop _ wq hQS => ?_) ?_
          · refine StepFrom.more_eq ((.bool true : Value)) ?_
            refine StepFrom.more_eq ((.pointer (some ⟨g, 0 + k * 2, none⟩) : Value)) ?_
            exact StepFrom.load hop (p := (.pointer (some ⟨g, 0 + k * 2, none⟩) : Value)) (by kernel_rfl) (load_part ((hQS.cell (p := ⟨g, 0 + k * 2, none⟩) hgr).trans c0) ((hQS.cell (p := ⟨g, 0 + k * 2 + 1, none⟩) hgr).trans c1)) (by kernel_rfl) hQS (Below.refl _ _) rfl
          refine StepsT.cons (fun (x : Value) (_ : World) => x = (.slice (some ⟨b, o, none⟩) n c : Value)) [(27, (fun (x : Value) (_ : World) => x = (.bool true : Value)))] rfl rfl (fun oq hop _ wq hQS => ?_) ?_
          · refine StepFrom.more_eq ((.bool true : Value)) ?_
            exact StepFrom.move hop (v := (.slice (some ⟨b, o, none⟩) n c : Value)) (by kernel_rfl) (by kernel_rfl) hQS (Below.refl _ _) rfl
          refine StepsT.cons (fun (x : Value) (_ : World) => x = (.int .i64 (k : Int) : Value)) [(27, (fun (x : Value) (_ : World) => x = (.bool true : Value)))] rfl rfl (fun oq hop _ wq hQS => ?_) ?_
          · refine StepFrom.more_eq ((.bool true : Value)) ?_
            exact StepFrom.move hop (v := (.int .i64 (k : Int) : Value)) (by kernel_rfl) (by kernel_rfl) hQS (Below.refl _ _) rfl
          refine StepsT.cons (fun (x : Value) (_ : World) => x = (.pointer (some ⟨b, o + k * 2, none⟩) : Value)) [(27, (fun (x : Value) (_ : World) => x = (.bool true : Value))), (32, (fun (x : Value) (_ : World) => x = (.slice (some ⟨b, o, none⟩) n c : Value))), (33, (fun (x : Value) (_ : World) => x = (.int .i64 (k : Int) : Value)))] rfl rfl (fun oq hop _ wq hQS => ?_) ?_
          · refine StepFrom.more_eq ((.bool true : Value)) ?_
            refine StepFrom.more_eq ((.slice (some ⟨b, o, none⟩) n c : Value)) ?_
            refine StepFrom.more_eq ((.int .i64 (k : Int) : Value)) ?_
            exact StepFrom.indexAddr hop (p := (.slice (some ⟨b, o, none⟩) n c : Value)) (q := (.int .i64 (k : Int) : Value)) (by kernel_rfl) (by kernel_rfl) (part_addr ij0 ij2) (by kernel_rfl) hQS (Below.refl _ _) rfl
          refine StepsT.cons (fun (x : Value) (_ : World) => x = (.agg #[.int .i64 px, .int .i64 py] : Value)) [(27, (fun (x : Value) (_ : World) => x = (.bool true : Value))), (34, (fun (x : Value) (_ : World) => x = (.pointer (some ⟨b, o + k * 2, none⟩) : Value)))] rfl rfl (fun oq hop _ wq hQS => ?_) ?_
          · refine StepFrom.more_eq ((.bool true : Value)) ?_
            refine StepFrom.more_eq ((.pointer (some ⟨b, o + k * 2, none⟩) : Value)) ?_
            exact StepFrom.load hop (p := (.pointer (some ⟨b, o + k * 2, none⟩) : Value)) (by kernel_rfl) (load_part ((hQS.cell (p := ⟨b, o + k * 2, none⟩) hbr).trans d0) ((hQS.cell (p := ⟨b, o + k * 2 + 1, none⟩) hbr).trans d1)) (by kernel_rfl) hQS (Below.refl _ _) rfl
          refine StepsT.cons (fun (x : Value) (_ : World) => x = (.bool true : Value)) [(27, (fun (x : Value) (_ : World) => x = (.bool true : Value))), (31, (fun (x : Value) (_ : World) => x = (.agg #[.int .i64 px, .int .i64 py] : Value))), (35, (fun (x : Value) (_ : World) => x = (.agg #[.int .i64 px, .int .i64 py] : Value)))] rfl rfl (fun oq hop _ wq hQS => ?_) ?_
          · refine StepFrom.more_eq ((.bool true : Value)) ?_
            refine StepFrom.more_eq ((.agg #[.int .i64 px, .int .i64 py] : Value)) ?_
            refine StepFrom.more_eq ((.agg #[.int .i64 px, .int .i64 py] : Value)) ?_
            exact StepFrom.bin hop (vx := (.agg #[.int .i64 px, .int .i64 py] : Value)) (vy := (.agg #[.int .i64 px, .int .i64 py] : Value)) (by kernel_rfl) (by kernel_rfl) (eql_part _ _ _ _ _) (by kernel_rfl) hQS (Below.refl _ _) rfl
          refine StepsT.cons (fun (x : Value) (_ : World) => x = (.bool false : Value)) [(27, (fun (x : Value) (_ : World) => x = (.bool true : Value))), (36, (fun (x : Value) (_ : World) => x = (.bool true : Value)))] rfl rfl (fun oq hop _ wq hQS => ?_) ?_
          · refine StepFrom.more_eq ((.bool true : Value)) ?_
            refine StepFrom.more_eq ((.bool true : Value)) ?_
            exact StepFrom.not hop (b := true) (by kernel_rfl) (by kernel_rfl) hQS (Below.refl _ _) rfl
          refine StepsT.cons (fun (x : Value) (_ : World) => x = (.bool false : Value)) [(27, (fun (x : Value) (_ : World) => x = (.bool true : Value))), (37, (fun (x : Value) (_ : World) => x = (.bool false : Value)))] rfl rfl (fun oq hop _ wq hQS => ?_) ?_
          · refine StepFrom.more_eq ((.bool true : Value)) ?_
            refine StepFrom.more_eq ((.bool false : Value)) ?_
            exact StepFrom.pick hop (b := true) (vx := (.bool false : Value)) (vy := (Value.bool false : Value)) (by kernel_rfl) (by kernel_rfl) (by kernel_rfl) (by kernel_rfl) hQS (Below.refl _ _) rfl
          refine StepsT.cons (fun (x : Value) (_ : World) => x = (.bool false : Value)) [(38, (fun (x : Value) (_ : World) => x = (.bool false : Value)))] rfl rfl (fun oq hop _ wq hQS => ?_) ?_
          · refine StepFrom.more_eq ((.bool false : Value)) ?_
            exact StepFrom.move hop (v := (.bool false : Value)) (by kernel_rfl) (by kernel_rfl) hQS (Below.refl _ _) rfl
          refine StepsT.cons (fun (x : Value) (_ : World) => x = (.int .i64 (k : Int) : Value)) [(39, (fun (x : Value) (_ : World) => x = (.bool false : Value)))] rfl rfl (fun oq hop _ wq hQS => ?_) ?_
          · refine StepFrom.more_eq ((.bool false : Value)) ?_
            exact StepFrom.move hop (v := (.int .i64 (k : Int) : Value)) (by kernel_rfl) (by kernel_rfl) hQS (Below.refl _ _) rfl
          refine StepsT.cons (fun (x : Value) (_ : World) => x = (.slice (some ⟨b, o, none⟩) n c : Value)) [(39, (fun (x : Value) (_ : World) => x = (.bool false : Value)))] rfl rfl (fun oq hop _ wq hQS => ?_) ?_
          · refine StepFrom.more_eq ((.bool false : Value)) ?_
            exact StepFrom.move hop (v := (.slice (some ⟨b, o, none⟩) n c : Value)) (by kernel_rfl) (by kernel_rfl) hQS (Below.refl _ _) rfl
          refine StepsT.cons (fun (x : Value) (_ : World) => x = (.int .i64 (n : Int) : Value)) [(39, (fun (x : Value) (_ : World) => x = (.bool false : Value))), (41, (fun (x : Value) (_ : World) => x = (.slice (some ⟨b, o, none⟩) n c : Value)))] rfl rfl (fun oq hop _ wq hQS => ?_) ?_
          · refine StepFrom.more_eq ((.bool false : Value)) ?_
            refine StepFrom.more_eq ((.slice (some ⟨b, o, none⟩) n c : Value)) ?_
            exact StepFrom.lenP hop (show _ = (.slice (some ⟨b, o, none⟩) n c : Value) by kernel_rfl) (by kernel_rfl) hQS (Below.refl _ _) rfl
          refine StepsT.cons (fun (x : Value) (_ : World) => x = (.bool false : Value)) [(39, (fun (x : Value) (_ : World) => x = (.bool false : Value))), (40, (fun (x : Value) (_ : World) => x = (.int .i64 (k : Int) : Value))), (42, (fun (x : Value) (_ : World) => x = (.int .i64 (n : Int) : Value)))] rfl rfl (fun oq hop _ wq hQS => ?_) ?_
          · refine StepFrom.more_eq ((.bool false : Value)) ?_
            refine StepFrom.more_eq ((.int .i64 (k : Int) : Value)) ?_
            refine StepFrom.more_eq ((.int .i64 (n : Int) : Value)) ?_
            exact StepFrom.bin hop (vx := (.int .i64 (k : Int) : Value)) (vy := (.int .i64 (n : Int) : Value)) (by kernel_rfl) (by kernel_rfl) (geq_no _ _ _ _ _ ij2) (by kernel_rfl) hQS (Below.refl _ _) rfl
          refine StepsT.cons (fun (x : Value) (_ : World) => x = (.bool false : Value)) [(39, (fun (x : Value) (_ : World) => x = (.bool false : Value))), (43, (fun (x : Value) (_ : World) => x = (.bool false : Value)))] rfl rfl (fun oq hop _ wq hQS => ?_) ?_
          · refine StepFrom.more_eq ((.bool false : Value)) ?_
            refine StepFrom.more_eq ((.bool false : Value)) ?_
            exact StepFrom.move hop (v := (.bool false : Value)) (by kernel_rfl) (by kernel_rfl) hQS (Below.refl _ _) rfl
          refine StepsT.cons (fun (x : Value) (_ : World) => x = undef) [(44, (fun (x : Value) (_ : World) => x = (.bool false : Value)))] rfl rfl (fun oq hop _ wq hQS => ?_) ?_
          · refine StepFrom.more_eq ((.bool false : Value)) ?_
            exact StepFrom.off (by kernel_rfl) hQS (Below.refl _ _) rfl
          refine StepsT.cons (fun (x : Value) (_ : World) => x = undef) [(44, (fun (x : Value) (_ : World) => x = (.bool false : Value)))] rfl rfl (fun oq hop _ wq hQS => ?_) ?_
          · refine StepFrom.more_eq ((.bool false : Value)) ?_
            exact StepFrom.off (by kernel_rfl) hQS (Below.refl _ _) rfl
          refine StepsT.cons (fun (x : Value) (_ : World) => x = undef) [(44, (fun (x : Value) (_ : World) => x = (.bool false : Value))), (45, (fun (x : Value) (_ : World) => x = undef)), (46, (fun (x : Value) (_ : World) => x = undef))] rfl rfl (fun oq hop _ wq hQS => ?_) ?_
          · refine StepFrom.more_eq ((.bool false : Value)) ?_
            refine StepFrom.more_eq (undef) ?_
            refine StepFrom.more_eq (undef) ?_
            exact StepFrom.off (by kernel_rfl) hQS (Below.refl _ _) rfl
          refine StepsT.cons (fun (x : Value) (_ : World) => x = undef) [(44, (fun (x : Value) (_ : World) => x = (.bool false : Value))), (47, (fun (x : Value) (_ : World) => x = undef))] rfl rfl (fun oq hop _ wq hQS => ?_) ?_
          · refine StepFrom.more_eq ((.bool false : Value)) ?_
            refine StepFrom.more_eq (undef) ?_
            exact StepFrom.off (by kernel_rfl) hQS (Below.refl _ _) rfl
          refine StepsT.cons (fun (x : Value) (_ : World) => x = undef) [(44, (fun (x : Value) (_ : World) => x = (.bool false : Value)))] rfl rfl (fun oq hop _ wq hQS => ?_) ?_
          · refine StepFrom.more_eq ((.bool false : Value)) ?_
            exact StepFrom.off (by kernel_rfl) hQS (Below.refl _ _) rfl
          refine StepsT.cons (fun (x : Value) (_ : World) => x = undef) [(44, (fun (x : Value) (_ : World) => x = (.bool false : Value)))] rfl rfl (fun oq hop _ wq hQS => ?_) ?_
          · refine StepFrom.more_eq ((.bool false : Value)) ?_
            exact StepFrom.off (by kernel_rfl) hQS (Below.refl _ _) rfl
          refine StepsT.cons (fun (x : Value) (_ : World) => x = undef) [(44, (fun (x : Value) (_ : World) => x = (.bool false : Value))), (50, (fun (x : Value) (_ : World) => x = undef))] rfl rfl (fun oq hop _ wq hQS => ?_) ?_
          · refine StepFrom.more_eq ((.bool false : Value)) ?_
            refine StepFrom.more_eq (undef) ?_
            exact StepFrom.off (by kernel_rfl) hQS (Below.refl _ _) rfl
          refine StepsT.cons (fun (x : Value) (_ : World) => x = undef) [(44, (fun (x : Value) (_ : World) => x = (.bool false : Value))), (49, (fun (x : Value) (_ : World) => x = undef)), (51, (fun (x : Value) (_ : World) => x = undef))] rfl rfl (fun oq hop _ wq hQS => ?_) ?_
          · refine StepFrom.more_eq ((.bool false : Value)) ?_
            refine StepFrom.more_eq (undef) ?_
            refine StepFrom.more_eq (undef) ?_
            exact StepFrom.off (by kernel_rfl) hQS (Below.refl _ _) rfl
          refine StepsT.cons (fun (x : Value) (_ : World) => x = undef) [(44, (fun (x : Value) (_ : World) => x = (.bool false : Value))), (52, (fun (x : Value) (_ : World) => x = undef))] rfl rfl (fun oq hop _ wq hQS => ?_) ?_
          · refine StepFrom.more_eq ((.bool false : Value)) ?_
            refine StepFrom.more_eq (undef) ?_
            exact StepFrom.off (by kernel_rfl) hQS (Below.refl _ _) rfl
          refine StepsT.cons (fun (x : Value) (_ : World) => x = undef) [(44, (fun (x : Value) (_ : World) => x = (.bool false : Value))), (48, (fun (x : Value) (_ : World) => x = undef)), (53, (fun (x : Value) (_ : World) => x = undef))] rfl rfl (fun oq hop _ wq hQS => ?_) ?_
          · refine StepFrom.more_eq ((.bool false : Value)) ?_
            refine StepFrom.more_eq (undef) ?_
            refine StepFrom.more_eq (undef) ?_
            exact StepFrom.off (by kernel_rfl) hQS (Below.refl _ _) rfl
          refine StepsT.cons (fun (x : Value) (_ : World) => x = undef) [(44, (fun (x : Value) (_ : World) => x = (.bool false : Value))), (54, (fun (x : Value) (_ : World) => x = undef))] rfl rfl (fun oq hop _ wq hQS => ?_) ?_
          · refine StepFrom.more_eq ((.bool false : Value)) ?_
            refine StepFrom.more_eq (undef) ?_
            exact StepFrom.off (by kernel_rfl) hQS (Below.refl _ _) rfl
          refine StepsT.cons (fun (x : Value) (_ : World) => x = (.bool false : Value)) [(39, (fun (x : Value) (_ : World) => x = (.bool false : Value))), (44, (fun (x : Value) (_ : World) => x = (.bool false : Value))), (55, (fun (x : Value) (_ : World) => x = undef))] rfl rfl (fun oq hop _ wq hQS => ?_) ?_
          · refine StepFrom.more_eq ((.bool false : Value)) ?_
            refine StepFrom.more_eq ((.bool false : Value)) ?_
            refine StepFrom.more_eq (undef) ?_
            exact StepFrom.pick hop (b := false) (vx := undef) (vy := (Value.bool false : Value)) (by kernel_rfl) (by kernel_rfl) (by kernel_rfl) (by kernel_rfl) hQS (Below.refl _ _) rfl
          refine StepsT.cons (fun (x : Value) (_ : World) => x = (.bool false : Value)) [(39, (fun (x : Value) (_ : World) => x = (.bool false : Value))), (56, (fun (x : Value) (_ : World) => x = (.bool false : Value)))] rfl rfl (fun oq hop _ wq hQS => ?_) ?_
          · refine StepFrom.more_eq ((.bool false : Value)) ?_
            refine StepFrom.more_eq ((.bool false : Value)) ?_
            exact StepFrom.pick hop (b := false) (vx := (Value.bool true : Value)) (vy := (.bool false : Value)) (by kernel_rfl) (by kernel_rfl) (by kernel_rfl) (by kernel_rfl) hQS (Below.refl _ _) rfl
          exact StepsT.nil
        case hfin =>
          intro wf hFS
          refine FinalFrom.more fun x23 h23 => ?_
          refine FinalFrom.more fun x24 h24 => ?_
          refine FinalFrom.more fun x25 h25 => ?_
          refine FinalFrom.more fun x26 h26 => ?_
          refine FinalFrom.more fun x27 h27 => ?_
          refine FinalFrom.more fun x28 h28 => ?_
          refine FinalFrom.more fun x29 h29 => ?_
          refine FinalFrom.more fun x30 h30 => ?_
          refine FinalFrom.more fun x31 h31 => ?_
          refine FinalFrom.more fun x32 h32 => ?_
          refine FinalFrom.more fun x33 h33 => ?_
          refine FinalFrom.more fun x34 h34 => ?_
          refine FinalFrom.more fun x35 h35 => ?_
          refine FinalFrom.more fun x36 h36 => ?_
          refine FinalFrom.more fun x37 h37 => ?_
          refine FinalFrom.more fun x38 h38 => ?_
          refine FinalFrom.more fun x39 h39 => ?_
          refine FinalFrom.more fun x40 h40 => ?_
          refine FinalFrom.more fun x41 h41 => ?_
          refine FinalFrom.more fun x42 h42 => ?_
          refine FinalFrom.more fun x43 h43 => ?_
          refine FinalFrom.more fun x44 h44 => ?_
          refine FinalFrom.more fun x45 h45 => ?_
          refine FinalFrom.more fun x46 h46 => ?_
          refine FinalFrom.more fun x47 h47 => ?_
          refine FinalFrom.more fun x48 h48 => ?_
          refine FinalFrom.more fun x49 h49 => ?_
          refine FinalFrom.more fun x50 h50 => ?_
          refine FinalFrom.more fun x51 h51 => ?_
          refine FinalFrom.more fun x52 h52 => ?_
          refine FinalFrom.more fun x53 h53 => ?_
          refine FinalFrom.more fun x54 h54 => ?_
          refine FinalFrom.more fun x55 h55 => ?_
          refine FinalFrom.more fun x56 h56 => ?_
          refine FinalFrom.more fun x57 h57 => ?_
          refine FinalFrom.done ?_
          obtain rfl : x57 = (.bool false : Value) := h57
          have hsf := hFS.size
          have HB2 : Hid (Below w.heap.size w wf) := HB.out.trans (hFS.mono hbz)
          clear hS hFS c0 c1
          simp only [Act.put, List.setIfInBounds_toArray, List.set_cons_zero, List.set_cons_succ]
          go_wp2
          go_roundw
          case rel => exact ⟨k + 1, by omega, by go_num, HB2.out⟩
          case measure => simp [intOf]; omega
      · have ij2 : (n : Int) ≤ (k : Int) := by omega
        obtain ⟨m, hm8⟩ : ∃ m, 8000024 + ((k : Int) - (n : Int)) = m := ⟨_, rfl⟩
        have ep : (ps ++ marks 1 12).getD k (0, 0) = (0, m) := by
          rw [List.getD_eq_getElem?_getD, List.getElem?_append_right (by rw [HN.out]; omega), ← List.getD_eq_getElem?_getD, HN.out, marks_get (by omega), ← hm8]
          congr 1
          omega
        rw [ep] at c0 c1
        have q6 : IntKind.i64.wrap ((k : Int) - (n : Int)) = (k : Int) - (n : Int) := IntWalk.i64_in _ (by omega)
        have HM : Hid (∀ wq, Calls Tryz.prog 49 #[.int .i64 1, .int .i64 ((k : Int) - (n : Int))] wq (PartPost wq 0 m)) := fun wq => by
          have := markPart_any 1 ((k : Int) - (n : Int)) wq (by omega) (by omega)
          rwa [show (1000003 : Int) * (1 + 7) + ((k : Int) - (n : Int)) = m by rw [← hm8]; omega] at this
        clear ep hm8
        go_upto_region 7 with (fail)
        refine wp_region_tab (fun w' => Below wr.heap.size wr w') (fun w1 w2 : World => Below w1.heap.size w1 w2) [(fun (x : Value) (_ : World) => x = (.int .i64 (k : Int) : Value)), (fun (x : Value) (_ : World) => x = (.slice A n c : Value)), (fun (x : Value) (_ : World) => x = (.int .i64 (n : Int) : Value)), (fun (x : Value) (_ : World) => x = (.bool false : Value)), (fun (x : Value) (_ : World) => x = (.bool false : Value)), (fun (x : Value) (_ : World) => x = undef), (fun (x : Value) (_ : World) => x = undef), (fun (x : Value) (_ : World) => x = undef), (fun (x : Value) (_ : World) => x = undef), (fun (x : Value) (_ : World) => x = undef), (fun (x : Value) (_ : World) => x = undef), (fun (x : Value) (_ : World) => x = undef), (fun (x : Value) (_ : World) => x = undef), (fun (x : Value) (_ : World) => x = undef), (fun (x : Value) (_ : World) => x = undef), (fun (x : Value) (_ : World) => x = (.bool false : Value)), (fun (x : Value) (_ : World) => x = (.bool false : Value)), (fun (x : Value) (_ : World) => x = (.int .i64 (k : Int) : Value)), (fun (x : Value) (_ : World) => x = (.slice A n c : Value)), (fun (x : Value) (_ : World) => x = (.int .i64 (n : Int) : Value)), (fun (x : Value) (_ : World) => x = (.bool true : Value)), (fun (x : Value) (_ : World) => x = (.bool true : Value)), (fun (x : Value) (_ : World) => x = (.slice (some ⟨g, 0, none⟩) (n + 12) cap : Value)), (fun (x : Value) (_ : World) => x = (.int .i64 (k : Int) : Value)), (fun (x : Value) (_ : World) => x = (.pointer (some ⟨g, 0 + k * 2, none⟩) : Value)), (fun (x : Value) (_ : World) => x = (.agg #[.int .i64 0, .int .i64 m] : Value)), (fun (x : Value) (_ : World) => x = (.int .i64 (k : Int) : Value)), (fun (x : Value) (_ : World) => x = (.slice A n c : Value)), (fun (x : Value) (_ : World) => x = (.int .i64 (n : Int) : Value)), (fun (x : Value) (_ : World) => x = (.int .i64 ((k : Int) - (n : Int)) : Value)), (fun (x : Value) (_ : World) => x = (.agg #[.int .i64 0, .int .i64 m] : Value)), (fun (x : Value) (_ : World) => x = (.bool true : Value)), (fun (x : Value) (_ : World) => x = (.bool false : Value)), (fun (x : Value) (_ : World) => x = (.bool false : Value)), (fun (x : Value) (_ : World) => x = (.bool false : Value))] [⟨some 23, .move (.tmp 6), none, []⟩, ⟨some 24, .move (.tmp 1), none, []⟩, ⟨some 25, .call { callee := .builtin .len, args := #[.tmp 24], argTypes := #[22] }, none, [(24, 1)]⟩, ⟨some 26, .binOp .lss 3 (.tmp 23) (.tmp 25) 3, none, [(23, 0), (25, 2)]⟩, ⟨some 27, .move (.tmp 26), none, [(26, 3)]⟩, ⟨some 28, .move (.tmp 5), some (some 27, true), [(27, 4)]⟩, ⟨some 29, .move (.tmp 6), some (some 27, true), [(27, 4)]⟩, ⟨some 30, .indexAddr 22 (.tmp 28) (.tmp 29), some (some 27, true), [(27, 4), (28, 5), (29, 6)]⟩, ⟨some 31, .load 47 (.tmp 30), some (some 27, true), [(27, 4), (30, 7)]⟩, ⟨some 32, .move (.tmp 1), some (some 27, true), [(27, 4)]⟩, ⟨some 33, .move (.tmp 6), some (some 27, true), [(27, 4)]⟩, ⟨some 34, .indexAddr 22 (.tmp 32) (.tmp 33), some (some 27, true), [(27, 4), (32, 9), (33, 10)]⟩, ⟨some 35, .load 47 (.tmp 34), some (some 27, true), [(27, 4), (34, 11)]⟩, ⟨some 36, .binOp .eql 47 (.tmp 31) (.tmp 35) 47, some (some 27, true), [(27, 4), (31, 8), (35, 12)]⟩, ⟨some 37, .unOp .not 4 (.tmp 36), some (some 27, true), [(27, 4), (36, 13)]⟩, ⟨some 38, .pick (.tmp 27) (.tmp 37) (.const (Value.bool false)), none, [(27, 4), (37, 14)]⟩, ⟨some 39, .move (.tmp 38), none, [(38, 15)]⟩, ⟨some 40, .move (.tmp 6), some (some 39, false), [(39, 16)]⟩, ⟨some 41, .move (.tmp 1), some (some 39, false), [(39, 16)]⟩, ⟨some 42, .call { callee := .builtin .len, args := #[.tmp 41], argTypes := #[22] }, some (some 39, false), [(39, 16), (41, 18)]⟩, ⟨some 43, .binOp .geq 3 (.tmp 40) (.tmp 42) 3, some (some 39, false), [(39, 16), (40, 17), (42, 19)]⟩, ⟨some 44, .move (.tmp 43), some (some 39, false), [(39, 16), (43, 20)]⟩, ⟨some 45, .move (.tmp 5), some (some 44, true), [(44, 21)]⟩, ⟨some 46, .move (.tmp 6), some (some 44, true), [(44, 21)]⟩, ⟨some 47, .indexAddr 22 (.tmp 45) (.tmp 46), some (some 44, true), [(44, 21), (45, 22), (46, 23)]⟩, ⟨some 48, .load 47 (.tmp 47), some (some 44, true), [(44, 21), (47, 24)]⟩, ⟨some 49, .move (.tmp 6), some (some 44, true), [(44, 21)]⟩, ⟨some 50, .move (.tmp 1), some (some 44, true), [(44, 21)]⟩, ⟨some 51, .call { callee := .builtin .len, args := #[.tmp 50], argTypes := #[22] }, some (some 44, true), [(44, 21), (50, 27)]⟩, ⟨some 52, .binOp .sub 3 (.tmp 49) (.tmp 51) 3, some (some 44, true), [(44, 21), (49, 26), (51, 28)]⟩, ⟨some 53, .call { callee := .value (.func 49), args := #[.const (.int .i64 1), .tmp 52], argTypes := #[3, 3] }, some (some 44, true), [(44, 21), (52, 29)]⟩, ⟨some 54, .binOp .eql 47 (.tmp 48) (.tmp 53) 47, some (some 44, true), [(44, 21), (48, 25), (53, 30)]⟩, ⟨some 55, .unOp .not 4 (.tmp 54), some (some 44, true), [(44, 21), (54, 31)]⟩, ⟨some 56, .pick (.tmp 44) (.tmp 55) (.const (Value.bool false)), some (some 39, false), [(39, 16), (44, 21), (55, 32)]⟩, ⟨some 57, .pick (.tmp 39) (.const (Value.bool true)) (.tmp 56), none, [(39, 16), (56, 33)]⟩] [some 23, some 24, some 25, some 26, some 27, some 28, some 29, some 30, some 31, some 32, some 33, some 34, some 35, some 36, some 37, some 38, some 39, some 40, some 41, some 42, some 43, some 44, some 45, some 46, some 47, some 48, some 49, some 50, some 51, some 52, some 53, some 54, some 55, some 56, some 57] (by kernel_rfl) (by kernel_rfl) (by kernel_rfl) (by kernel_rfl) (by kernel_rfl) ?hS ?hmono ?hsteps ?hfin
        case hS => exact hS
        case hmono =>
          refine MonoL.cons (fun x w1 w2 _ _ _ hx => hx) ?_
          refine MonoL.cons (fun x w1 w2 _ _ _ hx => hx) ?_
          refine MonoL.cons (fun x w1 w2 _ _ _ hx => hx) ?_
          refine MonoL.cons (fun x w1 w2 _ _ _ hx => hx) ?_
          refine MonoL.cons (fun x w1 w2 _ _ _ hx => hx) ?_
          refine MonoL.cons (fun x w1 w2 _ _ _ hx => hx) ?_
          refine MonoL.cons (fun x w1 w2 _ _ _ hx => hx) ?_
          refine MonoL.cons (fun x w1 w2 _ _ _ hx => hx) ?_
          refine MonoL.cons (fun x w1 w2 _ _ _ hx => hx) ?_
          refine MonoL.cons (fun x w1 w2 _ _ _ hx => hx) ?_
          refine MonoL.cons (fun x w1 w2 _ _ _ hx => hx) ?_
          refine MonoL.cons (fun x w1 w2 _ _ _ hx => hx) ?_
          refine MonoL.cons (fun x w1 w2 _ _ _ hx => hx) ?_
          refine MonoL.cons (fun x w1 w2 _ _ _ hx => hx) ?_
          refine MonoL.cons (fun x w1 w2 _ _ _ hx => hx) ?_
          refine MonoL.cons (fun x w1 w2 _ _ _ hx => hx) ?_
          refine MonoL.cons (fun x w1 w2 _ _ _ hx => hx) ?_
          refine MonoL.cons (fun x w1 w2 _ _ _ hx => hx) ?_
          refine MonoL.cons (fun x w1 w2 _ _ _ hx => hx) ?_
          refine MonoL.cons (fun x w1 w2 _ _ _ hx => hx) ?_
          refine MonoL.cons (fun x w1 w2 _ _ _ hx => hx) ?_
          refine MonoL.cons (fun x w1 w2 _ _ _ hx => hx) ?_
          refine MonoL.cons (fun x w1 w2 _ _ _ hx => hx) ?_
          refine MonoL.cons (fun x w1 w2 _ _ _ hx => hx) ?_
          refine MonoL.cons (fun x w1 w2 _ _ _ hx => hx) ?_
          refine MonoL.cons (fun x w1 w2 _ _ _ hx => hx) ?_
          refine MonoL.cons (fun x w1 w2 _ _ _ hx => hx) ?_
          refine MonoL.cons (fun x w1 w2 _ _ _ hx => hx) ?_
          refine MonoL.cons (fun x w1 w2 _ _ _ hx => hx) ?_
          refine MonoL.cons (fun x w1 w2 _ _ _ hx => hx) ?_
          refine MonoL.cons (fun x w1 w2 _ _ _ hx => hx) ?_
          refine MonoL.cons (fun x w1 w2 _ _ _ hx => hx) ?_
          refine MonoL.cons (fun x w1 w2 _ _ _ hx => hx) ?_
          refine MonoL.cons (fun x w1 w2 _ _ _ hx => hx) ?_
          refine MonoL.cons (fun x w1 w2 _ _ _ hx => hx) ?_
          exact MonoL.nil
        case hsteps =>
          refine StepsT.cons (fun (x : Value) (_ : World) => x = (.int .i64 (k : Int) : Value)) [] rfl rfl (fun oq hop _ wq hQS => ?_) ?_
          · exact StepFrom.move hop (v := (.int .i64 (k : Int) : Value)) (by kernel_rfl) (by kernel_rfl) hQS (Below.refl _ _) rfl
          refine StepsT.cons (fun (x : Value) (_ : World) => x = (.slice A n c : Value)) [] rfl rfl (fun oq hop _ wq hQS => ?_) ?_
          · exact StepFrom.move hop (v := (.slice A n c : Value)) (by kernel_rfl) (by kernel_rfl) hQS (Below.refl _ _) rfl
          refine StepsT.cons (fun (x : Value) (_ : World) => x = (.int .i64 (n : Int) : Value)) [(24, (fun (x : Value) (_ : World) => x = (.slice A n c : Value)))] rfl rfl (fun oq hop _ wq hQS => ?_) ?_
          · refine StepFrom.more_eq ((.slice A n c : Value)) ?_
            exact StepFrom.lenP hop (show _ = (.slice A n c : Value) by kernel_rfl) (by kernel_rfl) hQS (Below.refl _ _) rfl
          refine StepsT.cons (fun (x : Value) (_ : World) => x = (.bool false : Value)) [(23, (fun (x : Value) (_ : World) => x = (.int .i64 (k : Int) : Value))), (25, (fun (x : Value) (_ : World) => x = (.int .i64 (n : Int) : Value)))] rfl rfl (fun oq hop _ wq hQS => ?_) ?_
          · refine StepFrom.more_eq ((.int .i64 (k : Int) : Value)) ?_
            refine StepFrom.more_eq ((.int .i64 (n : Int) : Value)) ?_
            exact StepFrom.bin hop (vx := (.int .i64 (k : Int) : Value)) (vy := (.int .i64 (n : Int) : Value)) (by kernel_rfl) (by kernel_rfl) (lss_no _ _ _ _ _ ij2) (by kernel_rfl) hQS (Below.refl _ _) rfl
          refine StepsT.cons (fun (x : Value) (_ : World) => x = (.bool false : Value)) [(26, (fun (x : Value) (_ : World) => x = (.bool false : Value)))] rfl rfl (fun oq hop _ wq hQS => ?_) ?_
          · refine StepFrom.more_eq ((.bool false : Value)) ?_
            exact StepFrom.move hop (v := (.bool false : Value)) (by kernel_rfl) (by kernel_rfl) hQS (Below.refl _ _) rfl
          refine StepsT.cons (fun (x : Value) (_ : World) => x = undef) [(27, (fun (x : Value) (_ : World) => x = (.bool false : Value)))] rfl rfl (fun oq hop _ wq hQS => ?_) ?_
          · refine StepFrom.more_eq ((.bool false : Value)) ?_
            exact StepFrom.off (by kernel_rfl) hQS (Below.refl _ _) rfl
          refine StepsT.cons (fun (x : Value) (_ : World) => x = undef) [(27, (fun (x : Value) (_ : World) => x = (.bool false : Value)))] rfl rfl (fun oq hop _ wq hQS => ?_) ?_
          · refine StepFrom.more_eq ((.bool false : Value)) ?_
            exact StepFrom.off (by kernel_rfl) hQS (Below.refl _ _) rfl
          refine StepsT.cons (fun (x : Value) (_ : World) => x = undef) [(27, (fun (x : Value) (_ : World) => x = (.bool false : Value))), (28, (fun (x : Value) (_ : World) => x = undef)), (29, (fun (x : Value) (_ : World) => x = undef))] rfl rfl (fun oq hop _ wq hQS => ?_) ?_
          · refine StepFrom.more_eq ((.bool false : Value)) ?_
            refine StepFrom.more_eq (undef) ?_
            refine StepFrom.more_eq (undef) ?_
            exact StepFrom.off (by kernel_rfl) hQS (Below.refl _ _) rfl
          refine StepsT.cons (fun (x : Value) (_ : World) => x = undef) [(27, (fun (x : Value) (_ : World) => x = (.bool false : Value))), (30, (fun (x : Value) (_ : World) => x = undef))] rfl rfl (fun oq hop _ wq hQS => ?_) ?_
          · refine StepFrom.more_eq ((.bool false : Value)) ?_
            refine StepFrom.more_eq (undef) ?_
            exact StepFrom.off (by kernel_rfl) hQS (Below.refl _ _) rfl
          refine StepsT.cons (fun (x : Value) (_ : World) => x = undef) [(27, (fun (x : Value) (_ : World) => x = (.bool false : Value)))] rfl rfl (fun oq hop _ wq hQS => ?_) ?_
          · refine StepFrom.more_eq ((.bool false : Value)) ?_
            exact StepFrom.off (by kernel_rfl) hQS (Below.refl _ _) rfl
          refine StepsT.cons (fun (x : Value) (_ : World) => x = undef) [(27, (fun (x : Value) (_ : World) => x = (.bool false : Value)))] rfl rfl (fun oq hop _ wq hQS => ?_) ?_
          · refine StepFrom.more_eq ((.bool false : Value)) ?_
            exact StepFrom.off (by kernel_rfl) hQS (Below.refl _ _) rfl
          refine StepsT.cons (fun (x : Value) (_ : World) => x = undef) [(27, (fun (x : Value) (_ : World) => x = (.bool false : Value))), (32, (fun (x : Value) (_ : World) => x = undef)), (33, (fun (x : Value) (_ : World) => x = undef))] rfl rfl (fun oq hop _ wq hQS => ?_) ?_
          · refine StepFrom.more_eq ((.bool false : Value)) ?_
            refine StepFrom.more_eq (undef) ?_
            refine StepFrom.more_eq (undef) ?_
            exact StepFrom.off (by kernel_rfl) hQS (Below.refl _ _) rfl
          refine StepsT.cons (fun (x : Value) (_ : World) => x = undef) [(27, (fun (x : Value) (_ : World) => x = (.bool false : Value))), (34, (fun (x : Value) (_ : World) => x = undef))] rfl rfl (fun oq hop _ wq hQS => ?_) ?_
          · refine StepFrom.more_eq ((.bool false : Value)) ?_
            refine StepFrom.more_eq (undef) ?_
            exact StepFrom.off (by kernel_rfl) hQS (Below.refl _ _) rfl
          refine StepsT.cons (fun (x : Value) (_ : World) => x = undef) [(27, (fun (x : Value) (_ : World) => x = (.bool false : Value))), (31, (fun (x : Value) (_ : World) => x = undef)), (35, (fun (x : Value) (_ : World) => x = undef))] rfl rfl (fun oq hop _ wq hQS => ?_) ?_
          · refine StepFrom.more_eq ((.bool false : Value)) ?_
            refine StepFrom.more_eq (undef) ?_
            refine StepFrom.more_eq (undef) ?_
            exact StepFrom.off (by kernel_rfl) hQS (Below.refl _ _) rfl
          refine StepsT.cons (fun (x : Value) (_ : World) => x = undef) [(27, (fun (x : Value) (_ : World) => x = (.bool false : Value))), (36, (fun (x : Value) (_ : World) => x = undef))] rfl rfl (fun oq hop _ wq hQS => ?_) ?_
          · refine StepFrom.more_eq ((.bool false : Value)) ?_
            refine StepFrom.more_eq (undef) ?_
            exact StepFrom.off (by kernel_rfl) hQS (Below.refl _ _) rfl
          refine StepsT.cons (fun (x : Value) (_ : World) => x = (.bool false : Value)) [(27, (fun (x : Value) (_ : World) => x = (.bool false : Value))), (37, (fun (x : Value) (_ : World) => x = undef))] rfl rfl (fun oq hop _ wq hQS => ?_) ?_
          · refine StepFrom.more_eq ((.bool false : Value)) ?_
            refine StepFrom.more_eq (undef) ?_
            exact StepFrom.pick hop (b := false) (vx := undef) (vy := (Value.bool false : Value)) (by kernel_rfl) (by kernel_rfl) (by kernel_rfl) (by kernel_rfl) hQS (Below.refl _ _) rfl
          refine StepsT.cons (fun (x : Value) (_ : World) => x = (.bool false : Value)) [(38, (fun (x : Value) (_ : World) => x = (.bool false : Value)))] rfl rfl (fun oq hop _ wq hQS => ?_) ?_
          · refine StepFrom.more_eq ((.bool false : Value)) ?_
            exact StepFrom.move hop (v := (.bool false : Value)) (by kernel_rfl) (by kernel_rfl) hQS (Below.refl _ _) rfl
          refine StepsT.cons (fun (x : Value) (_ : World) => x = (.int .i64 (k : Int) : Value)) [(39, (fun (x : Value) (_ : World) => x = (.bool false : Value)))] rfl rfl (fun oq hop _ wq hQS => ?_) ?_
          · refine StepFrom.more_eq ((.bool false : Value)) ?_
            exact StepFrom.move hop (v := (.int .i64 (k : Int) : Value)) (by kernel_rfl) (by kernel_rfl) hQS (Below.refl _ _) rfl
          refine StepsT.cons (fun (x : Value) (_ : World) => x = (.slice A n c : Value)) [(39, (fun (x : Value) (_ : World) => x = (.bool false : Value)))] rfl rfl (fun oq hop _ wq hQS => ?_) ?_
          · refine StepFrom.more_eq ((.bool false : Value)) ?_
            exact StepFrom.move hop (v := (.slice A n c : Value)) (by kernel_rfl) (by kernel_rfl) hQS (Below.refl _ _) rfl
          refine StepsT.cons (fun (x : Value) (_ : World) => x = (.int .i64 (n : Int) : Value)) [(39, (fun (x : Value) (_ : World) => x = (.bool false : Value))), (41, (fun (x : Value) (_ : World) => x = (.slice A n c : Value)))] rfl rfl (fun oq hop _ wq hQS => ?_) ?_
          · refine StepFrom.more_eq ((.bool false : Value)) ?_
            refine StepFrom.more_eq ((.slice A n c : Value)) ?_
            exact StepFrom.lenP hop (show _ = (.slice A n c : Value) by kernel_rfl) (by kernel_rfl) hQS (Below.refl _ _) rfl
          refine StepsT.cons (fun (x : Value) (_ : World) => x = (.bool true : Value)) [(39, (fun (x : Value) (_ : World) => x = (.bool false : Value))), (40, (fun (x : Value) (_ : World) => x = (.int .i64 (k : Int) : Value))), (42, (fun (x : Value) (_ : World) => x = (.int .i64 (n : Int) : Value)))] rfl rfl (fun oq hop _ wq hQS => ?_) ?_
          · refine StepFrom.more_eq ((.bool false : Value)) ?_
            refine StepFrom.more_eq ((.int .i64 (k : Int) : Value)) ?_
            refine StepFrom.more_eq ((.int .i64 (n : Int) : Value)) ?_
            exact StepFrom.bin hop (vx := (.int .i64 (k : Int) : Value)) (vy := (.int .i64 (n : Int) : Value)) (by kernel_rfl) (by kernel_rfl) (geq_yes _ _ _ _ _ ij2) (by kernel_rfl) hQS (Below.refl _ _) rfl
          refine StepsT.cons (fun (x : Value) (_ : World) => x = (.bool true : Value)) [(39, (fun (x : Value) (_ : World) => x = (.bool false : Value))), (43, (fun (x : Value) (_ : World) => x = (.bool true : Value)))] rfl rfl (fun oq hop _ wq hQS => ?_) ?_
          · refine StepFrom.more_eq ((.bool false : Value)) ?_
            refine StepFrom.more_eq ((.bool true : Value)) ?_
            exact StepFrom.move hop (v := (.bool true : Value)) (by kernel_rfl) (by kernel_rfl) hQS (Below.refl _ _) rfl
          refine StepsT.cons (fun (x : Value) (_ : World) => x = (.slice (some ⟨g, 0, none⟩) (n + 12) cap : Value)) [(44, (fun (x : Value) (_ : World) => x = (.bool true : Value)))] rfl rfl (fun oq hop _ wq hQS => ?_) ?_
          · refine StepFrom.more_eq ((.bool true : Value)) ?_
            exact StepFrom.move hop (v := (.slice (some ⟨g, 0, none⟩) (n + 12) cap : Value)) (by kernel_rfl) (by kernel_rfl) hQS (Below.refl _ _) rfl
          refine StepsT.cons (fun (x : Value) (_ : World) => x = (.int .i64 (k : Int) : Value)) [(44, (fun (x : Value) (_ : World) => x = (.bool true : Value)))] rfl rfl (fun oq hop _ wq hQS => ?_) ?_
          · refine StepFrom.more_eq ((.bool true : Value)) ?_
            exact StepFrom.move hop (v := (.int .i64 (k : Int) : Value)) (by kernel_rfl) (by kernel_rfl) hQS (Below.refl _ _) rfl
          refine StepsT.cons (fun (x : Value) (_ : World) => x = (.pointer (some ⟨g, 0 + k * 2, none⟩) : Value)) [(44, (fun (x : Value) (_ : World) => x = (.bool true : Value))), (45, (fun (x : Value) (_ : World) => x = (.slice (some ⟨g, 0, none⟩) (n + 12) cap : Value))), (46, (fun (x : Value) (_ : World) => x = (.int .i64 (k : Int) : Value)))] rfl rfl (fun oq hop _ wq hQS => ?_) ?_
          · refine StepFrom.more_eq ((.bool true : Value)) ?_
            refine StepFrom.more_eq ((.slice (some ⟨g, 0, none⟩) (n + 12) cap : Value)) ?_
            refine StepFrom.more_eq ((.int .i64 (k : Int) : Value)) ?_
            exact StepFrom.indexAddr hop (p := (.slice (some ⟨g, 0, none⟩) (n + 12) cap : Value)) (q := (.int .i64 (k : Int) : Value)) (by kernel_rfl) (by kernel_rfl) (part_addr ij0 ij1) (by kernel_rfl) hQS (Below.refl _ _) rfl
          refine StepsT.cons (fun (x : Value) (_ : World) => x = (.agg #[.int .i64 0, .int .i64 m] : Value)) [(44, (fun (x : Value) (_ : World) => x = (.bool true : Value))), (47, (fun (x : Value) (_ : World) => x = (.pointer (some ⟨g, 0 + k * 2, none⟩) : Value)))] rfl rfl (fun oq hop _ wq hQS => ?_) ?_
          · refine StepFrom.more_eq ((.bool true : Value)) ?_
            refine StepFrom.more_eq ((.pointer (some ⟨g, 0 + k * 2, none⟩) : Value)) ?_
            exact StepFrom.load hop (p := (.pointer (some ⟨g, 0 + k * 2, none⟩) : Value)) (by kernel_rfl) (load_part ((hQS.cell (p := ⟨g, 0 + k * 2, none⟩) hgr).trans c0) ((hQS.cell (p := ⟨g, 0 + k * 2 + 1, none⟩) hgr).trans c1)) (by kernel_rfl) hQS (Below.refl _ _) rfl
          refine StepsT.cons (fun (x : Value) (_ : World) => x = (.int .i64 (k : Int) : Value)) [(44, (fun (x : Value) (_ : World) => x = (.bool true : Value)))] rfl rfl (fun oq hop _ wq hQS => ?_) ?_
          · refine StepFrom.more_eq ((.bool true : Value)) ?_
            exact StepFrom.move hop (v := (.int .i64 (k : Int) : Value)) (by kernel_rfl) (by kernel_rfl) hQS (Below.refl _ _) rfl
          refine StepsT.cons (fun (x : Value) (_ : World) => x = (.slice A n c : Value)) [(44, (fun (x : Value) (_ : World) => x = (.bool true : Value)))] rfl rfl (fun oq hop _ wq hQS => ?_) ?_
          · refine StepFrom.more_eq ((.bool true : Value)) ?_
            exact StepFrom.move hop (v := (.slice A n c : Value)) (by kernel_rfl) (by kernel_rfl) hQS (Below.refl _ _) rfl
          refine StepsT.cons (fun (x : Value) (_ : World) => x = (.int .i64 (n : Int) : Value)) [(44, (fun (x : Value) (_ : World) => x = (.bool true : Value))), (50, (fun (x : Value) (_ : World) => x = (.slice A n c : Value)))] rfl rfl (fun oq hop _ wq hQS => ?_) ?_
          · refine StepFrom.more_eq ((.bool true : Value)) ?_
            refine StepFrom.more_eq ((.slice A n c : Value)) ?_
            exact StepFrom.lenP hop (show _ = (.slice A n c : Value) by kernel_rfl) (by kernel_rfl) hQS (Below.refl _ _) rfl
          refine StepsT.cons (fun (x : Value) (_ : World) => x = (.int .i64 ((k : Int) - (n : Int)) : Value)) [(44, (fun (x : Value) (_ : World) => x = (.bool true : Value))), (49, (fun (x : Value) (_ : World) => x = (.int .i64 (k : Int) : Value))), (51, (fun (x : Value) (_ : World) => x = (.int .i64 (n : Int) : Value)))] rfl rfl (fun oq hop _ wq hQS => ?_) ?_
          · refine StepFrom.more_eq ((.bool true : Value)) ?_
            refine StepFrom.more_eq ((.int .i64 (k : Int) : Value)) ?_
            refine StepFrom.more_eq ((.int .i64 (n : Int) : Value)) ?_
            exact StepFrom.bin hop (vx := (.int .i64 (k : Int) : Value)) (vy := (.int .i64 (n : Int) : Value)) (by kernel_rfl) (by kernel_rfl) (sub_int _ _ _ _ _ q6) (by kernel_rfl) hQS (Below.refl _ _) rfl
          refine StepsT.cons (fun (x : Value) (_ : World) => x = (.agg #[.int .i64 0, .int .i64 m] : Value)) [(44, (fun (x : Value) (_ : World) => x = (.bool true : Value))), (52, (fun (x : Value) (_ : World) => x = (.int .i64 ((k : Int) - (n : Int)) : Value)))] rfl rfl (fun oq hop _ wq hQS => ?_) ?_
          · refine StepFrom.more_eq ((.bool true : Value)) ?_
            refine StepFrom.more_eq ((.int .i64 ((k : Int) - (n : Int)) : Value)) ?_
            exact StepFrom.call hop (vs := [(.int .i64 1 : Value), (.int .i64 ((k : Int) - (n : Int)) : Value)]) (by kernel_rfl) (fun w => enter_markPart _ w) (by kernel_rfl) ((HM.out wq).mono fun e w9 h9 => ⟨_, h9.1, hQS.trans (h9.2.mono hQS.size), h9.2, rfl⟩)
          refine StepsT.cons (fun (x : Value) (_ : World) => x = (.bool true : Value)) [(44, (fun (x : Value) (_ : World) => x = (.bool true : Value))), (48, (fun (x : Value) (_ : World) => x = (.agg #[.int .i64 0, .int .i64 m] : Value))), (53, (fun (x : Value) (_ : World) => x = (.agg #[.int .i64 0, .int .i64 m] : Value)))] rfl rfl (fun oq hop _ wq hQS => ?_) ?_
          · refine StepFrom.more_eq ((.bool true : Value)) ?_
            refine StepFrom.more_eq ((.agg #[.int .i64 0, .int .i64 m] : Value)) ?_
            refine StepFrom.more_eq ((.agg #[.int .i64 0, .int .i64 m] : Value)) ?_
            exact StepFrom.bin hop (vx := (.agg #[.int .i64 0, .int .i64 m] : Value)) (vy := (.agg #[.int .i64 0, .int .i64 m] : Value)) (by kernel_rfl) (by kernel_rfl) (eql_part _ _ _ _ _) (by kernel_rfl) hQS (Below.refl _ _) rfl
          refine StepsT.cons (fun (x : Value) (_ : World) => x = (.bool false : Value)) [(44, (fun (x : Value) (_ : World) => x = (.bool true : Value))), (54, (fun (x : Value) (_ : World) => x = (.bool true : Value)))] rfl rfl (fun oq hop _ wq hQS => ?_) ?_
          · refine StepFrom.more_eq ((.bool true : Value)) ?_
            refine StepFrom.more_eq ((.bool true : Value)) ?_
            exact StepFrom.not hop (b := true) (by kernel_rfl) (by kernel_rfl) hQS (Below.refl _ _) rfl
          refine StepsT.cons (fun (x : Value) (_ : World) => x = (.bool false : Value)) [(39, (fun (x : Value) (_ : World) => x = (.bool false : Value))), (44, (fun (x : Value) (_ : World) => x = (.bool true : Value))), (55, (fun (x : Value) (_ : World) => x = (.bool false : Value)))] rfl rfl (fun oq hop _ wq hQS => ?_) ?_
          · refine StepFrom.more_eq ((.bool false : Value)) ?_
            refine StepFrom.more_eq ((.bool true : Value)) ?_
            refine StepFrom.more_eq ((.bool false : Value)) ?_
            exact StepFrom.pick hop (b := true) (vx := (.bool false : Value)) (vy := (Value.bool false : Value)) (by kernel_rfl) (by kernel_rfl) (by kernel_rfl) (by kernel_rfl) hQS (Below.refl _ _) rfl
          refine StepsT.cons (fun (x : Value) (_ : World) => x = (.bool false : Value)) [(39, (fun (x : Value) (_ : World) => x = (.bool false : Value))), (56, (fun (x : Value) (_ : World) => x = (.bool false : Value)))] rfl rfl (fun oq hop _ wq hQS => ?_) ?_
          · refine StepFrom.more_eq ((.bool false : Value)) ?_
            refine StepFrom.more_eq ((.bool false : Value)) ?_
            exact StepFrom.pick hop (b := false) (vx := (Value.bool true : Value)) (vy := (.bool false : Value)) (by kernel_rfl) (by kernel_rfl) (by kernel_rfl) (by kernel_rfl) hQS (Below.refl _ _) rfl
          exact StepsT.nil
        case hfin =>
          intro wf hFS
          refine FinalFrom.more fun x23 h23 => ?_
          refine FinalFrom.more fun x24 h24 => ?_
          refine FinalFrom.more fun x25 h25 => ?_
          refine FinalFrom.more fun x26 h26 => ?_
          refine FinalFrom.more fun x27 h27 => ?_
          refine FinalFrom.more fun x28 h28 => ?_
          refine FinalFrom.more fun x29 h29 => ?_
          refine FinalFrom.more fun x30 h30 => ?_
          refine FinalFrom.more fun x31 h31 => ?_
          refine FinalFrom.more fun x32 h32 => ?_
          refine FinalFrom.more fun x33 h33 => ?_
          refine FinalFrom.more fun x34 h34 => ?_
          refine FinalFrom.more fun x35 h35 => ?_
          refine FinalFrom.more fun x36 h36 => ?_
          refine FinalFrom.more fun x37 h37 => ?_
          refine FinalFrom.more fun x38 h38 => ?_
          refine FinalFrom.more fun x39 h39 => ?_
          refine FinalFrom.more fun x40 h40 => ?_
          refine FinalFrom.more fun x41 h41 => ?_
          refine FinalFrom.more fun x42 h42 => ?_
          refine FinalFrom.more fun x43 h43 => ?_
          refine FinalFrom.more fun x44 h44 => ?_
          refine FinalFrom.more fun x45 h45 => ?_
          refine FinalFrom.more fun x46 h46 => ?_
          refine FinalFrom.more fun x47 h47 => ?_
          refine FinalFrom.more fun x48 h48 => ?_
          refine FinalFrom.more fun x49 h49 => ?_
          refine FinalFrom.more fun x50 h50 => ?_
          refine FinalFrom.more fun x51 h51 => ?_
          refine FinalFrom.more fun x52 h52 => ?_
          refine FinalFrom.more fun x53 h53 => ?_
          refine FinalFrom.more fun x54 h54 => ?_
          refine FinalFrom.more fun x55 h55 => ?_
          refine FinalFrom.more fun x56 h56 => ?_
          refine FinalFrom.more fun x57 h57 => ?_
          refine FinalFrom.done ?_
          obtain rfl : x57 = (.bool false : Value) := h57
          have hsf := hFS.size
          have HB2 : Hid (Below w.heap.size w wf) := HB.out.trans (hFS.mono hbz)
          clear hS hFS c0 c1
          simp only [Act.put, List.setIfInBounds_toArray, List.set_cons_zero, List.set_cons_succ]
          go_wp2
          go_roundw
          case rel => exact ⟨k + 1, by omega, by go_num, HB2.out⟩
          case measure => simp [intOf]; omega
    · have HF : Hid (HasPost w true (.returned (.bool true)) wr) := ⟨rfl, hb⟩
      clear hb
      go_wp2
      go_ret
      exact HF.out

set_option maxRecDepth 100000 in
set_option maxHeartbeats 2000000 in
theorem keptLevel_any (A : Option Addr) (ps : List (Int × Int)) (c n g cap : Nat) (w : World) (hn : ps.length = n) (hm : n ≤ 900000) (hc1 : n + 12 ≤ cap) (h : Lev w w.heap.size A ps) (hk : Lev w w.heap.size (some ⟨g, 0, none⟩) (ps ++ marks 1 12)) :
    Calls Tryz.prog 11 #[.agg #[.slice (some ⟨g, 0, none⟩) n cap], .agg #[.slice A n c]] w (HasPost w true) := by
  have hfd := field_parts
  obtain ⟨x1, x2, x3⟩ := two_allocs w (.cells #[.slice (some ⟨g, 0, none⟩) n cap] 24) (.cells #[.slice A n c] 24)
  have hb0 : Below w.heap.size w ((w.alloc (.cells #[.slice (some ⟨g, 0, none⟩) n cap] 24)).alloc (.cells #[.slice A n c] 24)) := ((Below.refl _ _).alloc (Nat.le_refl _) _).alloc (by simp) _
  have hz : ((w.alloc (.cells #[.slice (some ⟨g, 0, none⟩) n cap] 24)).alloc (.cells #[.slice A n c] 24)).heap.size = w.heap.size + 2 := by simp
  have hk' : Lev w w.heap.size (some ⟨g, 0, none⟩) ps := fun hp => by
    obtain ⟨b, o, e, hb, hcell⟩ := hk (by rw [List.length_append]; omega)
    refine ⟨b, o, e, hb, fun i hi => ?_⟩
    have := hcell i (by rw [List.length_append]; omega)
    rwa [List.getD_eq_getElem?_getD, List.getElem?_append_left hi, ← List.getD_eq_getElem?_getD] at this
  have HS := Lib.hid (sameLevel_any (some ⟨g, 0, none⟩) A ps ps cap c _ (by unfold maxLen; omega) (by unfold maxLen; omega) ((hk'.below hb0).more hb0.size) ((h.below hb0).more hb0.size) true (by simp))
  rw [hn] at HS
  have HP : Hid (∀ w1, Below w.heap.size w w1 → Calls Tryz.prog 39 #[.slice (some ⟨g, 0, none⟩) n cap, .slice A n c] w1 (HasPost w1 true)) := fun w1 hb => keptParts_any A ps c n g cap w1 hn hm hc1 ((h.below hb).more hb.size) ((hk.below hb).more hb.size)
  have X1 := Lib.hid x1
  have X2 := Lib.hid x2
  have HB0 := Lib.hid hb0
  have f1 := cell_of_one x1
  have f2 := cell_of_one x2
  clear x1 x2 x3 hb0 h hk hk' hn hc1
  go_enter Tryz.func11, Tryz.ntmps11
  go_wp2_with (fail)
  refine HS.out.mono ?_
  rintro e w1 ⟨rfl, hb1⟩
  have e1 := (hb1.block w.heap.size (by omega)).trans X1.out
  have e2 := (hb1.block (w.heap.size + 1) (by omega)).trans X2.out
  have g1 := cell_of_one e1
  have g3 := cell_of_one e2
  have HB1 : Hid (Below w.heap.size w w1) := HB0.out.trans (hb1.mono (by omega))
  have HP1 := Lib.hid (HP.out w1 HB1.out)
  have hz1 := hb1.size
  clear hb1 e1 e2 HS
  go_wp2_with (fail)
  refine HP1.out.mono ?_
  rintro e w2 ⟨rfl, hb2⟩
  have HF : Hid (HasPost w true (.returned (.bool true)) w2) := ⟨rfl, HB1.out.trans (hb2.mono (by omega))⟩
  clear hb2
  go_wp2
  go_ret
  exact HF.out
end Go.Proofs.YtldalfikpklfdaaGreat
