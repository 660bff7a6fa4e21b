/- Laws. -/
import Derived.Test.YtafgmndlbbjphaaGreatDoorPuis
import Derived.Test.YtafgmndlbbjphaaGreatDoorPuaa
import Derived.Test.YtafgmndlbbjphaaGreatDoorPuak
import Derived.Test.YtafgmndlbbjphaaGreatDoorPual
set_option maxRecDepth 100000
namespace Go.Proofs.YtafgmndlbbjphaaGreatDoor
open Go.RowKit Go.Maps
theorem heap_some_lt {w : World} {g : Nat} {o : Obj} (h : w.heap[g]? = some o) : g < w.heap.size := (Array.getElem?_eq_some_iff.1 h).1
section
variable {P : Program} {S : World → Prop} {R : World → World → Prop} {o : Oper} {V : Value → World → Prop} {g : Option (Option Tmp × Bool)} {a : Act} {w w' : World}
theorem StepFrom.slice {t : TypeId} {n : Nat} {ps : List (Nat × Operand)} (hop : o.op = .buildSlice t n ps.toArray) {vs : List (Nat × Value)} (hx : ps.map (fun p => (p.1, a.eval p.2)) = vs) {v : Value}
  (hrun : (Instr.buildSlice t n vs.toArray).run P w = .ok v w') (hg : gOn g a = true) (hS : S w') (hR : R w w') (hV : V v w') : StepFrom P S R o V g [] a w :=
 StepFrom.made (v := v) (w' := w') (by
   have e : (ps.toArray.map fun x => (x.1, a.eval x.2)) = vs.toArray := by rw [List.map_toArray, hx]
   unfold execOp
   simp only [hop, e]
   simp only [Sem.run_bind, hrun]
   rfl) hg hS hR hV
end
section
variable {P : Program} {S : World → Prop} {R : World → World → Prop} {o : Oper} {V : Value → World → Prop} {g : Option (Option Tmp × Bool)} {a : Act} {w w' : World}
theorem StepFrom.fieldAddr {x : Operand} {t : TypeId} {i : Nat} (hop : o.op = .fieldAddr t x i) {p v : Value} (hx : a.eval x = p) (hrun : (Instr.fieldAt t p i).run P w = .ok v w) (hg : gOn g a = true) (hS : S w) (hR : R w w)
  (hV : V v w) : StepFrom P S R o V g [] a w :=
 StepFrom.ran (v := v) (by unfold execOp; simp only [hop, hx]; simp only [Sem.run_bind, hrun]; rfl) hg hS hR hV
theorem StepFrom.indexAddr {x y : Operand} {t : TypeId} (hop : o.op = .indexAddr t x y) {p q v : Value} (hx : a.eval x = p) (hy : a.eval y = q) (hrun : (Instr.indexAt t p q).run P w = .ok v w) (hg : gOn g a = true) (hS : S w) (hR : R w w)
  (hV : V v w) : StepFrom P S R o V g [] a w :=
 StepFrom.ran (v := v) (by unfold execOp; simp only [hop, hx, hy]; simp only [Sem.run_bind, hrun]; rfl) hg hS hR hV
theorem StepFrom.build {t : TypeId} {ps : List (Nat × Operand)} (hop : o.op = .build t ps.toArray) {vs : List (Nat × Value)} (hx : ps.map (fun p => (p.1, a.eval p.2)) = vs) {v : Value}
  (hrun : (Instr.build t vs.toArray).run P w = .ok v w) (hg : gOn g a = true) (hS : S w) (hR : R w w) (hV : V v w) : StepFrom P S R o V g [] a w :=
 StepFrom.ran (v := v) (by
   have e : (ps.toArray.map fun x => (x.1, a.eval x.2)) = vs.toArray := by rw [List.map_toArray, hx]
   unfold execOp
   simp only [hop, e]
   simp only [Sem.run_bind, hrun]
   rfl) hg hS hR hV
end
theorem parts_addr {b : Nat} {w : World} : (Instr.fieldAt 47 (.pointer (some ⟨b, 0, none⟩)) 0).run Tryz.prog w = .ok (.pointer (some ⟨b, 0, none⟩)) w := by go_simp
theorem var_addr {b o : Nat} {w : World} : (Instr.fieldAt 95 (.pointer (some ⟨b, o, none⟩)) 0).run Tryz.prog w = .ok (.pointer (some ⟨b, o, none⟩)) w := by go_simp
theorem plus_addr {b o : Nat} {w : World} : (Instr.fieldAt 95 (.pointer (some ⟨b, o, none⟩)) 1).run Tryz.prog w = .ok (.pointer (some ⟨b, o + 1, none⟩)) w := by go_simp
theorem load_parts {b : Nat} {w : World} {A : Option Addr} {n c : Nat} (h : w.cell? ⟨b, 0, none⟩ = some (.slice A n c)) : (Instr.loadAt 45 (.pointer (some ⟨b, 0, none⟩))).run Tryz.prog w = .ok (.slice A n c) w := by go_simp
theorem load_lv {b : Nat} {w : World} {v : Value} (h : w.cell? ⟨b, 0, none⟩ = some v) : (Instr.loadAt 45 (.pointer (some ⟨b, 0, none⟩))).run Tryz.prog w = .ok v w := by go_simp
theorem load_int {b o : Nat} {w : World} {x : Int} (h : w.cell? ⟨b, o, none⟩ = some (.int .i64 x)) : (Instr.loadAt 3 (.pointer (some ⟨b, o, none⟩))).run Tryz.prog w = .ok (.int .i64 x) w := by go_simp
theorem part_addr {b o n c k : Nat} {w : World} (h0 : (0 : Int) ≤ (k : Int)) (h1 : (k : Int) < (n : Int)) : (Instr.indexAt 45 (.slice (some ⟨b, o, none⟩) n c) (.int .i64 (k : Int))).run Tryz.prog w = .ok (.pointer (some ⟨b, o + k * 2, none⟩)) w := by go_simp
theorem add_int (x y : Int) (p q : Operand) (w : World) (h : IntKind.i64.wrap (x + y) = x + y) : ((do eqGuard .add 3 p q (.int .i64 x) (.int .i64 y); binOp .add 3 (.int .i64 x) (.int .i64 y) : Sem Value)).run Tryz.prog w = .ok (.int .i64 (x + y)) w := by go_simp
theorem build_part (x y : Int) (w : World) : (Instr.build 95 [(0, Value.int .i64 x), (1, Value.int .i64 y)].toArray).run Tryz.prog w = .ok (.agg #[.int .i64 x, .int .i64 y]) w := by go_simp
theorem slice_part (x y : Int) (w : World) : (Instr.buildSlice 45 1 [(0, Value.agg #[.int .i64 x, .int .i64 y])].toArray).run Tryz.prog w = .ok (.slice (some ⟨w.heap.size, 0, none⟩) 1 1) (w.alloc (.cells #[.int .i64 x, .int .i64 y] 95)) := by go_simp
section
variable {P : Program} {S : World → Prop} {R : World → World → Prop} {o : Oper} {V : Value → World → Prop} {g : Option (Option Tmp × Bool)} {a : Act} {w w' : World}
theorem StepFrom.len {x : Operand} (hop : o.op = .call { callee := .builtin .len, args := #[x], argTypes := #[23] }) {A : Option Addr} {n c : Nat} (hx : a.eval x = .slice A n c)
  (hg : gOn g a = true) (hS : S w) (hR : R w w) (hV : V (.int .i64 (n : Int)) w) : StepFrom Tryz.prog S R o V g [] a w :=
 StepFrom.ran (v := .int .i64 (n : Int)) (by
   have hm : (#[x] : Array Operand).map a.eval = #[.slice A n c] := by rw [List.map_toArray, List.map_cons, List.map_nil, hx]
   unfold execOp
   simp only [hop, resolve, hm]
   simp [go_sem]) hg hS hR hV
end
theorem lev_addr {b n c k : Nat} {w : World} (h0 : (0 : Int) ≤ (k : Int)) (h1 : (k : Int) < (n : Int)) : (Instr.indexAt 23 (.slice (some ⟨b, 0, none⟩) n c) (.int .i64 (k : Int))).run Tryz.prog w = .ok (.pointer (some ⟨b, k, none⟩)) w := by go_simp
theorem load_lev_at {b o : Nat} {w : World} {A : Option Addr} {n c : Nat} (h : w.cell? ⟨b, o, none⟩ = some (.slice A n c)) : (Instr.loadAt 47 (.pointer (some ⟨b, o, none⟩))).run Tryz.prog w = .ok (.agg #[.slice A n c]) w := by go_simp
theorem load_lv_at {b o : Nat} {w : World} {v : Value} (h : w.cell? ⟨b, o, none⟩ = some v) : (Instr.loadAt 45 (.pointer (some ⟨b, o, none⟩))).run Tryz.prog w = .ok v w := by go_simp
theorem lev_addr_o {b o n c k : Nat} {w : World} (h0 : (0 : Int) ≤ (k : Int)) (h1 : (k : Int) < (n : Int)) : (Instr.indexAt 23 (.slice (some ⟨b, o, none⟩) n c) (.int .i64 (k : Int))).run Tryz.prog w = .ok (.pointer (some ⟨b, o + k, none⟩)) w := by go_simp
section
variable {S : World → Prop} {R : World → World → Prop} {o : Oper} {V : Value → World → Prop} {g : Option (Option Tmp × Bool)} {a : Act} {w w' : World}
theorem StepFrom.lenP {x : Operand} (hop : o.op = .call { callee := .builtin .len, args := #[x], argTypes := #[45] }) {A : Option Addr} {n c : Nat} (hx : a.eval x = .slice A n c)
  (hg : gOn g a = true) (hS : S w) (hR : R w w) (hV : V (.int .i64 (n : Int)) w) : StepFrom Tryz.prog S R o V g [] a w :=
 StepFrom.ran (v := .int .i64 (n : Int)) (by
   have hm : (#[x] : Array Operand).map a.eval = #[.slice A n c] := by rw [List.map_toArray, List.map_cons, List.map_nil, hx]
   unfold execOp
   simp only [hop, resolve, hm]
   simp [go_sem]) hg hS hR hV
end
theorem lss_yes (x y : Int) (p q : Operand) (w : World) (h : x < y) : ((do eqGuard .lss 3 p q (.int .i64 x) (.int .i64 y); binOp .lss 3 (.int .i64 x) (.int .i64 y) : Sem Value)).run Tryz.prog w = .ok (.bool true) w := by go_simp
theorem lss_no (x y : Int) (p q : Operand) (w : World) (h : y ≤ x) : ((do eqGuard .lss 3 p q (.int .i64 x) (.int .i64 y); binOp .lss 3 (.int .i64 x) (.int .i64 y) : Sem Value)).run Tryz.prog w = .ok (.bool false) w := by go_simp
theorem geq_yes (x y : Int) (p q : Operand) (w : World) (h : y ≤ x) : ((do eqGuard .geq 3 p q (.int .i64 x) (.int .i64 y); binOp .geq 3 (.int .i64 x) (.int .i64 y) : Sem Value)).run Tryz.prog w = .ok (.bool true) w := by go_simp
theorem geq_no (x y : Int) (p q : Operand) (w : World) (h : x < y) : ((do eqGuard .geq 3 p q (.int .i64 x) (.int .i64 y); binOp .geq 3 (.int .i64 x) (.int .i64 y) : Sem Value)).run Tryz.prog w = .ok (.bool false) w := by go_simp
theorem sub_int (x y : Int) (p q : Operand) (w : World) (h : IntKind.i64.wrap (x - y) = x - y) : ((do eqGuard .sub 3 p q (.int .i64 x) (.int .i64 y); binOp .sub 3 (.int .i64 x) (.int .i64 y) : Sem Value)).run Tryz.prog w = .ok (.int .i64 (x - y)) w := by go_simp
theorem eql_part (x y : Int) (p q : Operand) (w : World) : ((do eqGuard .eql 95 p q (.agg #[.int .i64 x, .int .i64 y]) (.agg #[.int .i64 x, .int .i64 y]); binOp .eql 95 (.agg #[.int .i64 x, .int .i64 y]) (.agg #[.int .i64 x, .int .i64 y]) : Sem Value)).run Tryz.prog w = .ok (.bool true) w := by go_simp
theorem load_part {b o : Nat} {w : World} {x y : Int} (h : w.cell? ⟨b, o, none⟩ = some (.int .i64 x)) (h2 : w.cell? ⟨b, o + 1, none⟩ = some (.int .i64 y)) : (Instr.loadAt 95 (.pointer (some ⟨b, o, none⟩))).run Tryz.prog w = .ok (.agg #[.int .i64 x, .int .i64 y]) w := by go_simp
theorem enter_markPart (vs : Array Value) (w : World) : (callFunc 79 vs).run Tryz.prog w = .ok (.enter 79 vs) w := by go_simp
theorem marks_length (k : Int) (j : Nat) : (marks k j).length = j := by simp [marks]
theorem marks_get {k : Int} {j i : Nat} (h : i < j) : (marks k j).getD i (0, 0) = (0, 1000003 * (k + 7) + (i : Int)) := by
 rw [List.getD_eq_getElem?_getD, List.getElem?_eq_getElem (by rw [marks_length]; exact h)]
 simp [marks]
set_option maxHeartbeats 4000000 in
theorem keptParts_any (A : Option Addr) (ps : List (Int × Int)) (c n g cap : Nat) (w : World) (hn : ps.length = n) (hm : n ≤ 900000) (hc1 : n + 12 ≤ cap) (h : Lev w w.heap.size A ps) (hk : Lev w w.heap.size (some ⟨g, 0, none⟩) (ps ++ marks 1 12)) :
  Calls Tryz.prog 58 #[.slice (some ⟨g, 0, none⟩) n cap, .slice A n c] w (HasPost w true) := by
 have q1 : IntKind.i64.wrap ((n : Int) + 12) = (n : Int) + 12 := IntWalk.i64_in _ (by omega)
 have q2 : ((n : Int) != (n : Int)) = false := by simp
 have q3 : (0 : Int) ≤ (n : Int) + 12 := by omega
 have q4 : (n : Int) + 12 ≤ (cap : Int) := by omega
 have q5 : ((n : Int) + 12).toNat = n + 12 := by omega
 have HL := Lib.hid h
 have HN := Lib.hid hn
 have HK : Hid (g < w.heap.size ∧ ∀ i, i < n + 12 → w.cell? ⟨g, 0 + i * 2, none⟩ = some (.int .i64 ((ps ++ marks 1 12).getD i (0, 0)).1) ∧ w.cell? ⟨g, 0 + i * 2 + 1, none⟩ = some (.int .i64 ((ps ++ marks 1 12).getD i (0, 0)).2)) := by
  have hl : (ps ++ marks 1 12).length = n + 12 := by rw [List.length_append, marks_length, hn]
  obtain ⟨b, o, e, hb, hcell⟩ := hk (by omega)
  injection e with e
  injection e with e1 e2
  subst e1 e2
  exact ⟨hb, fun i hi => hcell i (by omega)⟩
 clear h hn hk
 go_enter Tryz.func58, Tryz.ntmps58
 go_wp2
 go_loopw [6] (fun i wr => ∃ k : Nat, k ≤ n + 12 ∧ i = .int .i64 (k : Int) ∧ Below w.heap.size w wr) (fun i _ => n + 12 - (intOf i).toNat)
 case atStart => exact ⟨0, by omega, rfl, Below.refl _ _⟩
 case round =>
  obtain ⟨k, hk, rfl, hb⟩ := hrel
  have hbz := hb.size
  have HB := Lib.hid hb
  by_cases hlt : k < n + 12
  ·obtain ⟨hg, hcell⟩ := HK.out
   have hgr : g < wr.heap.size := by omega
   obtain ⟨c0, c1⟩ := hcell k hlt
   replace c0 := (HB.out.cell (p := ⟨g, 0 + k * 2, none⟩) hg).trans c0
   replace c1 := (HB.out.cell (p := ⟨g, 0 + k * 2 + 1, none⟩) hg).trans c1
   have ij0 : (0 : Int) ≤ (k : Int) := by omega
   have ij1 : (k : Int) < ((n + 12 : Nat) : Int) := by omega
   have ij5 : (k : Int) < (n : Int) + 12 := by omega
   clear hcell hb
   have hS : Below wr.heap.size wr wr.drew := (Below.refl _ _).drew
   by_cases hin : k < n
   ·have ij2 : (k : Int) < (n : Int) := by omega
    obtain ⟨b, o, e, hbB, hcell'⟩ := HL.out (by rw [HN.out]; omega)
    subst e
    obtain ⟨d0, d1⟩ := hcell' k (by rw [HN.out]; exact hin)
    have ep : (ps ++ marks 1 12).getD k (0, 0) = ps.getD k (0, 0) := by
     rw [List.getD_eq_getElem?_getD, List.getElem?_append_left (by rw [HN.out]; exact hin), ← List.getD_eq_getElem?_getD]
    rw [ep] at c0 c1
    obtain ⟨px, hx⟩ : ∃ x, (ps.getD k (0, 0)).1 = x := ⟨_, rfl⟩
    obtain ⟨py, hy⟩ : ∃ y, (ps.getD k (0, 0)).2 = y := ⟨_, rfl⟩
    rw [hx] at c0 d0
    rw [hy] at c1 d1
    replace d0 := (HB.out.cell (p := ⟨b, o + k * 2, none⟩) hbB).trans d0
    replace d1 := (HB.out.cell (p := ⟨b, o + k * 2 + 1, none⟩) hbB).trans d1
    have hbr : b < wr.heap.size := by omega
    clear hcell' ep hx hy
    go_upto_region 7 with (fail)
    refine wp_region_tab (fun w' => Below wr.heap.size wr w') BR [(Is (.int .i64 (k : Int))), (Is (.slice (some ⟨b, o, none⟩) n c)), (Is (.int .i64 (n : Int))), (Is (.bool true)), (Is (.bool true)), (Is (.slice (some ⟨g, 0, none⟩) (n + 12) cap)), (Is (.int .i64 (k : Int))), (Is (.pointer (some ⟨g, 0 + k * 2, none⟩))), (Is (.agg #[.int .i64 px, .int .i64 py])), (Is (.slice (some ⟨b, o, none⟩) n c)), (Is (.int .i64 (k : Int))), (Is (.pointer (some ⟨b, o + k * 2, none⟩))), (Is (.agg #[.int .i64 px, .int .i64 py])), (Is (.bool true)), (Is (.bool false)), (Is (.bool false)), (Is (.bool false)), (Is (.int .i64 (k : Int))), (Is (.slice (some ⟨b, o, none⟩) n c)), (Is (.int .i64 (n : Int))), (Is (.bool false)), (Is (.bool false)), (Is undef), (Is undef), (Is undef), (Is undef), (Is undef), (Is undef), (Is undef), (Is undef), (Is undef), (Is undef), (Is undef), (Is (.bool false)), (Is (.bool false))] [⟨some 23, .move (.tmp 6), none, []⟩, ⟨some 24, .move (.tmp 1), none, []⟩, ⟨some 25, .call { callee := .builtin .len, args := #[.tmp 24], argTypes := #[45] }, none, [(24, 1)]⟩, ⟨some 26, .binOp .lss 3 (.tmp 23) (.tmp 25) 3, none, [(23, 0), (25, 2)]⟩, ⟨some 27, .move (.tmp 26), none, [(26, 3)]⟩, ⟨some 28, .move (.tmp 5), some (some 27, true), [(27, 4)]⟩, ⟨some 29, .move (.tmp 6), some (some 27, true), [(27, 4)]⟩, ⟨some 30, .indexAddr 45 (.tmp 28) (.tmp 29), some (some 27, true), [(27, 4), (28, 5), (29, 6)]⟩, ⟨some 31, .load 95 (.tmp 30), some (some 27, true), [(27, 4), (30, 7)]⟩, ⟨some 32, .move (.tmp 1), some (some 27, true), [(27, 4)]⟩, ⟨some 33, .move (.tmp 6), some (some 27, true), [(27, 4)]⟩, ⟨some 34, .indexAddr 45 (.tmp 32) (.tmp 33), some (some 27, true), [(27, 4), (32, 9), (33, 10)]⟩, ⟨some 35, .load 95 (.tmp 34), some (some 27, true), [(27, 4), (34, 11)]⟩, ⟨some 36, .binOp .eql 95 (.tmp 31) (.tmp 35) 95, some (some 27, true), [(27, 4), (31, 8), (35, 12)]⟩, ⟨some 37, .unOp .not 4 (.tmp 36), some (some 27, true), [(27, 4), (36, 13)]⟩, ⟨some 38, .pick (.tmp 27) (.tmp 37) (.const (Value.bool false)), none, [(27, 4), (37, 14)]⟩, ⟨some 39, .move (.tmp 38), none, [(38, 15)]⟩, ⟨some 40, .move (.tmp 6), some (some 39, false), [(39, 16)]⟩, ⟨some 41, .move (.tmp 1), some (some 39, false), [(39, 16)]⟩, ⟨some 42, .call { callee := .builtin .len, args := #[.tmp 41], argTypes := #[45] }, some (some 39, false), [(39, 16), (41, 18)]⟩, ⟨some 43, .binOp .geq 3 (.tmp 40) (.tmp 42) 3, some (some 39, false), [(39, 16), (40, 17), (42, 19)]⟩, ⟨some 44, .move (.tmp 43), some (some 39, false), [(39, 16), (43, 20)]⟩, ⟨some 45, .move (.tmp 5), some (some 44, true), [(44, 21)]⟩, ⟨some 46, .move (.tmp 6), some (some 44, true), [(44, 21)]⟩, ⟨some 47, .indexAddr 45 (.tmp 45) (.tmp 46), some (some 44, true), [(44, 21), (45, 22), (46, 23)]⟩, ⟨some 48, .load 95 (.tmp 47), some (some 44, true), [(44, 21), (47, 24)]⟩, ⟨some 49, .move (.tmp 6), some (some 44, true), [(44, 21)]⟩, ⟨some 50, .move (.tmp 1), some (some 44, true), [(44, 21)]⟩, ⟨some 51, .call { callee := .builtin .len, args := #[.tmp 50], argTypes := #[45] }, some (some 44, true), [(44, 21), (50, 27)]⟩, ⟨some 52, .binOp .sub 3 (.tmp 49) (.tmp 51) 3, some (some 44, true), [(44, 21), (49, 26), (51, 28)]⟩, ⟨some 53, .call { callee := .value (.func 79), args := #[.const (.int .i64 1), .tmp 52], argTypes := #[3, 3] }, some (some 44, true), [(44, 21), (52, 29)]⟩, ⟨some 54, .binOp .eql 95 (.tmp 48) (.tmp 53) 95, some (some 44, true), [(44, 21), (48, 25), (53, 30)]⟩, ⟨some 55, .unOp .not 4 (.tmp 54), some (some 44, true), [(44, 21), (54, 31)]⟩, ⟨some 56, .pick (.tmp 44) (.tmp 55) (.const (Value.bool false)), some (some 39, false), [(39, 16), (44, 21), (55, 32)]⟩, ⟨some 57, .pick (.tmp 39) (.const (Value.bool true)) (.tmp 56), none, [(39, 16), (56, 33)]⟩] [some 23, some 24, some 25, some 26, some 27, some 28, some 29, some 30, some 31, some 32, some 33, some 34, some 35, some 36, some 37, some 38, some 39, some 40, some 41, some 42, some 43, some 44, some 45, some 46, some 47, some 48, some 49, some 50, some 51, some 52, some 53, some 54, some 55, some 56, some 57] (by kernel_rfl) (by kernel_rfl) (by kernel_rfl) (by kernel_rfl) (by kernel_rfl) ?hS ?hmono ?hsteps ?hfin
    case hS => exact hS
    case hmono =>
     iterate 35 refine .cons (fun x w1 w2 _ _ _ hx => hx) ?_
     exact .nil
    case hsteps =>
     refine .cons (Is (.int .i64 (k : Int))) [] rfl rfl (fun oq hop _ wq hQS => ?_) ?_
     ·exact .move hop (v := (.int .i64 (k : Int))) (by kernel_rfl) (by kernel_rfl) hQS (.refl _ _) rfl
     refine .cons (Is (.slice (some ⟨b, o, none⟩) n c)) [] rfl rfl (fun oq hop _ wq hQS => ?_) ?_
     ·exact .move hop (v := (.slice (some ⟨b, o, none⟩) n c)) (by kernel_rfl) (by kernel_rfl) hQS (.refl _ _) rfl
     refine .cons (Is (.int .i64 (n : Int))) _ rfl rfl (fun oq hop _ wq hQS => ?_) ?_
     ·refine .more_eq (.slice (some ⟨b, o, none⟩) n c) ?_
      exact .lenP hop (show _ = (.slice (some ⟨b, o, none⟩) n c : Value) by kernel_rfl) (by kernel_rfl) hQS (.refl _ _) rfl
     refine .cons (Is (.bool true)) _ rfl rfl (fun oq hop _ wq hQS => ?_) ?_
     ·refine .more_eq (.int .i64 (k : Int)) (.more_eq (.int .i64 (n : Int)) ?_)
      exact .bin hop (vx := (.int .i64 (k : Int))) (vy := (.int .i64 (n : Int))) (by kernel_rfl) (by kernel_rfl) (lss_yes _ _ _ _ _ ij2) (by kernel_rfl) hQS (.refl _ _) rfl
     refine .cons (Is (.bool true)) _ rfl rfl (fun oq hop _ wq hQS => ?_) ?_
     ·refine .more_eq (.bool true) ?_
      exact .move hop (v := (.bool true)) (by kernel_rfl) (by kernel_rfl) hQS (.refl _ _) rfl
     refine .cons (Is (.slice (some ⟨g, 0, none⟩) (n + 12) cap)) _ rfl rfl (fun oq hop _ wq hQS => ?_) ?_
     ·refine .more_eq (.bool true) ?_
      exact .move hop (v := (.slice (some ⟨g, 0, none⟩) (n + 12) cap)) (by kernel_rfl) (by kernel_rfl) hQS (.refl _ _) rfl
     refine .cons (Is (.int .i64 (k : Int))) _ rfl rfl (fun oq hop _ wq hQS => ?_) ?_
     ·refine .more_eq (.bool true) ?_
      exact .move hop (v := (.int .i64 (k : Int))) (by kernel_rfl) (by kernel_rfl) hQS (.refl _ _) rfl
     refine .cons (Is (.pointer (some ⟨g, 0 + k * 2, none⟩))) _ rfl rfl (fun oq hop _ wq hQS => ?_) ?_
     ·refine .more_eq (.bool true) (.more_eq (.slice (some ⟨g, 0, none⟩) (n + 12) cap) (.more_eq (.int .i64 (k : Int)) ?_))
      exact .indexAddr hop (p := (.slice (some ⟨g, 0, none⟩) (n + 12) cap)) (q := (.int .i64 (k : Int))) (by kernel_rfl) (by kernel_rfl) (part_addr ij0 ij1) (by kernel_rfl) hQS (.refl _ _) rfl
     refine .cons (Is (.agg #[.int .i64 px, .int .i64 py])) _ rfl rfl (fun oq hop _ wq hQS => ?_) ?_
     ·refine .more_eq (.bool true) (.more_eq (.pointer (some ⟨g, 0 + k * 2, none⟩)) ?_)
      exact .load hop (p := (.pointer (some ⟨g, 0 + k * 2, none⟩))) (by kernel_rfl) (load_part ((hQS.cell (p := ⟨g, 0 + k * 2, none⟩) hgr).trans c0) ((hQS.cell (p := ⟨g, 0 + k * 2 + 1, none⟩) hgr).trans c1)) (by kernel_rfl) hQS (.refl _ _) rfl
     refine .cons (Is (.slice (some ⟨b, o, none⟩) n c)) _ rfl rfl (fun oq hop _ wq hQS => ?_) ?_
     ·refine .more_eq (.bool true) ?_
      exact .move hop (v := (.slice (some ⟨b, o, none⟩) n c)) (by kernel_rfl) (by kernel_rfl) hQS (.refl _ _) rfl
     refine .cons (Is (.int .i64 (k : Int))) _ rfl rfl (fun oq hop _ wq hQS => ?_) ?_
     ·refine .more_eq (.bool true) ?_
      exact .move hop (v := (.int .i64 (k : Int))) (by kernel_rfl) (by kernel_rfl) hQS (.refl _ _) rfl
     refine .cons (Is (.pointer (some ⟨b, o + k * 2, none⟩))) _ rfl rfl (fun oq hop _ wq hQS => ?_) ?_
     ·refine .more_eq (.bool true) (.more_eq (.slice (some ⟨b, o, none⟩) n c) (.more_eq (.int .i64 (k : Int)) ?_))
      exact .indexAddr hop (p := (.slice (some ⟨b, o, none⟩) n c)) (q := (.int .i64 (k : Int))) (by kernel_rfl) (by kernel_rfl) (part_addr ij0 ij2) (by kernel_rfl) hQS (.refl _ _) rfl
     refine .cons (Is (.agg #[.int .i64 px, .int .i64 py])) _ rfl rfl (fun oq hop _ wq hQS => ?_) ?_
     ·refine .more_eq (.bool true) (.more_eq (.pointer (some ⟨b, o + k * 2, none⟩)) ?_)
      exact .load hop (p := (.pointer (some ⟨b, o + k * 2, none⟩))) (by kernel_rfl) (load_part ((hQS.cell (p := ⟨b, o + k * 2, none⟩) hbr).trans d0) ((hQS.cell (p := ⟨b, o + k * 2 + 1, none⟩) hbr).trans d1)) (by kernel_rfl) hQS (.refl _ _) rfl
     refine .cons (Is (.bool true)) _ rfl rfl (fun oq hop _ wq hQS => ?_) ?_
     ·refine .more_eq (.bool true) (.more_eq (.agg #[.int .i64 px, .int .i64 py]) (.more_eq (.agg #[.int .i64 px, .int .i64 py]) ?_))
      exact .bin hop (vx := (.agg #[.int .i64 px, .int .i64 py])) (vy := (.agg #[.int .i64 px, .int .i64 py])) (by kernel_rfl) (by kernel_rfl) (eql_part _ _ _ _ _) (by kernel_rfl) hQS (.refl _ _) rfl
     refine .cons (Is (.bool false)) _ rfl rfl (fun oq hop _ wq hQS => ?_) ?_
     ·refine .more_eq (.bool true) (.more_eq (.bool true) ?_)
      exact .not hop (b := true) (by kernel_rfl) (by kernel_rfl) hQS (.refl _ _) rfl
     refine .cons (Is (.bool false)) _ rfl rfl (fun oq hop _ wq hQS => ?_) ?_
     ·refine .more_eq (.bool true) (.more_eq (.bool false) ?_)
      exact .pick hop (b := true) (vx := (.bool false)) (vy := (.bool false)) (by kernel_rfl) (by kernel_rfl) (by kernel_rfl) (by kernel_rfl) hQS (.refl _ _) rfl
     refine .cons (Is (.bool false)) _ rfl rfl (fun oq hop _ wq hQS => ?_) ?_
     ·refine .more_eq (.bool false) ?_
      exact .move hop (v := (.bool false)) (by kernel_rfl) (by kernel_rfl) hQS (.refl _ _) rfl
     refine .cons (Is (.int .i64 (k : Int))) _ rfl rfl (fun oq hop _ wq hQS => ?_) ?_
     ·refine .more_eq (.bool false) ?_
      exact .move hop (v := (.int .i64 (k : Int))) (by kernel_rfl) (by kernel_rfl) hQS (.refl _ _) rfl
     refine .cons (Is (.slice (some ⟨b, o, none⟩) n c)) _ rfl rfl (fun oq hop _ wq hQS => ?_) ?_
     ·refine .more_eq (.bool false) ?_
      exact .move hop (v := (.slice (some ⟨b, o, none⟩) n c)) (by kernel_rfl) (by kernel_rfl) hQS (.refl _ _) rfl
     refine .cons (Is (.int .i64 (n : Int))) _ rfl rfl (fun oq hop _ wq hQS => ?_) ?_
     ·refine .more_eq (.bool false) (.more_eq (.slice (some ⟨b, o, none⟩) n c) ?_)
      exact .lenP hop (show _ = (.slice (some ⟨b, o, none⟩) n c : Value) by kernel_rfl) (by kernel_rfl) hQS (.refl _ _) rfl
     refine .cons (Is (.bool false)) _ rfl rfl (fun oq hop _ wq hQS => ?_) ?_
     ·refine .more_eq (.bool false) (.more_eq (.int .i64 (k : Int)) (.more_eq (.int .i64 (n : Int)) ?_))
      exact .bin hop (vx := (.int .i64 (k : Int))) (vy := (.int .i64 (n : Int))) (by kernel_rfl) (by kernel_rfl) (geq_no _ _ _ _ _ ij2) (by kernel_rfl) hQS (.refl _ _) rfl
     refine .cons (Is (.bool false)) _ rfl rfl (fun oq hop _ wq hQS => ?_) ?_
     ·refine .more_eq (.bool false) (.more_eq (.bool false) ?_)
      exact .move hop (v := (.bool false)) (by kernel_rfl) (by kernel_rfl) hQS (.refl _ _) rfl
     refine .cons (Is undef) _ rfl rfl (fun oq hop _ wq hQS => ?_) ?_
     ·refine .more_eq (.bool false) ?_
      exact .off (by kernel_rfl) hQS (.refl _ _) rfl
     refine .cons (Is undef) _ rfl rfl (fun oq hop _ wq hQS => ?_) ?_
     ·refine .more_eq (.bool false) ?_
      exact .off (by kernel_rfl) hQS (.refl _ _) rfl
     refine .cons (Is undef) _ rfl rfl (fun oq hop _ wq hQS => ?_) ?_
     ·refine .more_eq (.bool false) (.more_eq (undef) (.more_eq (undef) ?_))
      exact .off (by kernel_rfl) hQS (.refl _ _) rfl
     refine .cons (Is undef) _ rfl rfl (fun oq hop _ wq hQS => ?_) ?_
     ·refine .more_eq (.bool false) (.more_eq (undef) ?_)
      exact .off (by kernel_rfl) hQS (.refl _ _) rfl
     refine .cons (Is undef) _ rfl rfl (fun oq hop _ wq hQS => ?_) ?_
     ·refine .more_eq (.bool false) ?_
      exact .off (by kernel_rfl) hQS (.refl _ _) rfl
     refine .cons (Is undef) _ rfl rfl (fun oq hop _ wq hQS => ?_) ?_
     ·refine .more_eq (.bool false) ?_
      exact .off (by kernel_rfl) hQS (.refl _ _) rfl
     refine .cons (Is undef) _ rfl rfl (fun oq hop _ wq hQS => ?_) ?_
     ·refine .more_eq (.bool false) (.more_eq (undef) ?_)
      exact .off (by kernel_rfl) hQS (.refl _ _) rfl
     refine .cons (Is undef) _ rfl rfl (fun oq hop _ wq hQS => ?_) ?_
     ·refine .more_eq (.bool false) (.more_eq (undef) (.more_eq (undef) ?_))
      exact .off (by kernel_rfl) hQS (.refl _ _) rfl
     refine .cons (Is undef) _ rfl rfl (fun oq hop _ wq hQS => ?_) ?_
     ·refine .more_eq (.bool false) (.more_eq (undef) ?_)
      exact .off (by kernel_rfl) hQS (.refl _ _) rfl
     refine .cons (Is undef) _ rfl rfl (fun oq hop _ wq hQS => ?_) ?_
     ·refine .more_eq (.bool false) (.more_eq (undef) (.more_eq (undef) ?_))
      exact .off (by kernel_rfl) hQS (.refl _ _) rfl
     refine .cons (Is undef) _ rfl rfl (fun oq hop _ wq hQS => ?_) ?_
     ·refine .more_eq (.bool false) (.more_eq (undef) ?_)
      exact .off (by kernel_rfl) hQS (.refl _ _) rfl
     refine .cons (Is (.bool false)) _ rfl rfl (fun oq hop _ wq hQS => ?_) ?_
     ·refine .more_eq (.bool false) (.more_eq (.bool false) (.more_eq (undef) ?_))
      exact .pick hop (b := false) (vx := undef) (vy := (.bool false)) (by kernel_rfl) (by kernel_rfl) (by kernel_rfl) (by kernel_rfl) hQS (.refl _ _) rfl
     refine .cons (Is (.bool false)) _ rfl rfl (fun oq hop _ wq hQS => ?_) ?_
     ·refine .more_eq (.bool false) (.more_eq (.bool false) ?_)
      exact .pick hop (b := false) (vx := (.bool true)) (vy := (.bool false)) (by kernel_rfl) (by kernel_rfl) (by kernel_rfl) (by kernel_rfl) hQS (.refl _ _) rfl
     exact .nil
    case hfin =>
     intro wf hFS
     iterate 34 refine .more fun _ _ => ?_
     refine .more fun x57 h57 => ?_
     refine .done ?_
     obtain rfl : x57 = (.bool false) := h57
     have hsf := hFS.size
     have HB2 : Hid (Below w.heap.size w wf) := HB.out.trans (hFS.mono hbz)
     clear hS hFS c0 c1
     simp only [Act.put, List.setIfInBounds_toArray, List.set_cons_zero, List.set_cons_succ]
     go_wp2
     go_roundw
     case rel => exact ⟨k + 1, by omega, by go_num, HB2.out⟩
     case measure => simp [intOf]; omega
   ·have ij2 : (n : Int) ≤ (k : Int) := by omega
    obtain ⟨m, hm8⟩ : ∃ m, 8000024 + ((k : Int) - (n : Int)) = m := ⟨_, rfl⟩
    have ep : (ps ++ marks 1 12).getD k (0, 0) = (0, m) := by
     rw [List.getD_eq_getElem?_getD, List.getElem?_append_right (by rw [HN.out]; omega), ← List.getD_eq_getElem?_getD, HN.out, marks_get (by omega), ← hm8]
     congr 1
     omega
    rw [ep] at c0 c1
    have q6 : IntKind.i64.wrap ((k : Int) - (n : Int)) = (k : Int) - (n : Int) := IntWalk.i64_in _ (by omega)
    have HM : Hid (∀ wq, Calls Tryz.prog 79 #[.int .i64 1, .int .i64 ((k : Int) - (n : Int))] wq (PartPost wq 0 m)) := fun wq => by
     have := markPart_any 1 ((k : Int) - (n : Int)) wq (by omega) (by omega)
     rwa [show (1000003 : Int) * (1 + 7) + ((k : Int) - (n : Int)) = m by rw [← hm8]; omega] at this
    clear ep hm8
    go_upto_region 7 with (fail)
    refine wp_region_tab (fun w' => Below wr.heap.size wr w') BR [(Is (.int .i64 (k : Int))), (Is (.slice A n c)), (Is (.int .i64 (n : Int))), (Is (.bool false)), (Is (.bool false)), (Is undef), (Is undef), (Is undef), (Is undef), (Is undef), (Is undef), (Is undef), (Is undef), (Is undef), (Is undef), (Is (.bool false)), (Is (.bool false)), (Is (.int .i64 (k : Int))), (Is (.slice A n c)), (Is (.int .i64 (n : Int))), (Is (.bool true)), (Is (.bool true)), (Is (.slice (some ⟨g, 0, none⟩) (n + 12) cap)), (Is (.int .i64 (k : Int))), (Is (.pointer (some ⟨g, 0 + k * 2, none⟩))), (Is (.agg #[.int .i64 0, .int .i64 m])), (Is (.int .i64 (k : Int))), (Is (.slice A n c)), (Is (.int .i64 (n : Int))), (Is (.int .i64 ((k : Int) - (n : Int)))), (Is (.agg #[.int .i64 0, .int .i64 m])), (Is (.bool true)), (Is (.bool false)), (Is (.bool false)), (Is (.bool false))] [⟨some 23, .move (.tmp 6), none, []⟩, ⟨some 24, .move (.tmp 1), none, []⟩, ⟨some 25, .call { callee := .builtin .len, args := #[.tmp 24], argTypes := #[45] }, none, [(24, 1)]⟩, ⟨some 26, .binOp .lss 3 (.tmp 23) (.tmp 25) 3, none, [(23, 0), (25, 2)]⟩, ⟨some 27, .move (.tmp 26), none, [(26, 3)]⟩, ⟨some 28, .move (.tmp 5), some (some 27, true), [(27, 4)]⟩, ⟨some 29, .move (.tmp 6), some (some 27, true), [(27, 4)]⟩, ⟨some 30, .indexAddr 45 (.tmp 28) (.tmp 29), some (some 27, true), [(27, 4), (28, 5), (29, 6)]⟩, ⟨some 31, .load 95 (.tmp 30), some (some 27, true), [(27, 4), (30, 7)]⟩, ⟨some 32, .move (.tmp 1), some (some 27, true), [(27, 4)]⟩, ⟨some 33, .move (.tmp 6), some (some 27, true), [(27, 4)]⟩, ⟨some 34, .indexAddr 45 (.tmp 32) (.tmp 33), some (some 27, true), [(27, 4), (32, 9), (33, 10)]⟩, ⟨some 35, .load 95 (.tmp 34), some (some 27, true), [(27, 4), (34, 11)]⟩, ⟨some 36, .binOp .eql 95 (.tmp 31) (.tmp 35) 95, some (some 27, true), [(27, 4), (31, 8), (35, 12)]⟩, ⟨some 37, .unOp .not 4 (.tmp 36), some (some 27, true), [(27, 4), (36, 13)]⟩, ⟨some 38, .pick (.tmp 27) (.tmp 37) (.const (Value.bool false)), none, [(27, 4), (37, 14)]⟩, ⟨some 39, .move (.tmp 38), none, [(38, 15)]⟩, ⟨some 40, .move (.tmp 6), some (some 39, false), [(39, 16)]⟩, ⟨some 41, .move (.tmp 1), some (some 39, false), [(39, 16)]⟩, ⟨some 42, .call { callee := .builtin .len, args := #[.tmp 41], argTypes := #[45] }, some (some 39, false), [(39, 16), (41, 18)]⟩, ⟨some 43, .binOp .geq 3 (.tmp 40) (.tmp 42) 3, some (some 39, false), [(39, 16), (40, 17), (42, 19)]⟩, ⟨some 44, .move (.tmp 43), some (some 39, false), [(39, 16), (43, 20)]⟩, ⟨some 45, .move (.tmp 5), some (some 44, true), [(44, 21)]⟩, ⟨some 46, .move (.tmp 6), some (some 44, true), [(44, 21)]⟩, ⟨some 47, .indexAddr 45 (.tmp 45) (.tmp 46), some (some 44, true), [(44, 21), (45, 22), (46, 23)]⟩, ⟨some 48, .load 95 (.tmp 47), some (some 44, true), [(44, 21), (47, 24)]⟩, ⟨some 49, .move (.tmp 6), some (some 44, true), [(44, 21)]⟩, ⟨some 50, .move (.tmp 1), some (some 44, true), [(44, 21)]⟩, ⟨some 51, .call { callee := .builtin .len, args := #[.tmp 50], argTypes := #[45] }, some (some 44, true), [(44, 21), (50, 27)]⟩, ⟨some 52, .binOp .sub 3 (.tmp 49) (.tmp 51) 3, some (some 44, true), [(44, 21), (49, 26), (51, 28)]⟩, ⟨some 53, .call { callee := .value (.func 79), args := #[.const (.int .i64 1), .tmp 52], argTypes := #[3, 3] }, some (some 44, true), [(44, 21), (52, 29)]⟩, ⟨some 54, .binOp .eql 95 (.tmp 48) (.tmp 53) 95, some (some 44, true), [(44, 21), (48, 25), (53, 30)]⟩, ⟨some 55, .unOp .not 4 (.tmp 54), some (some 44, true), [(44, 21), (54, 31)]⟩, ⟨some 56, .pick (.tmp 44) (.tmp 55) (.const (Value.bool false)), some (some 39, false), [(39, 16), (44, 21), (55, 32)]⟩, ⟨some 57, .pick (.tmp 39) (.const (Value.bool true)) (.tmp 56), none, [(39, 16), (56, 33)]⟩] [some 23, some 24, some 25, some 26, some 27, some 28, some 29, some 30, some 31, some 32, some 33, some 34, some 35, some 36, some 37, some 38, some 39, some 40, some 41, some 42, some 43, some 44, some 45, some 46, some 47, some 48, some 49, some 50, some 51, some 52, some 53, some 54, some 55, some 56, some 57] (by kernel_rfl) (by kernel_rfl) (by kernel_rfl) (by kernel_rfl) (by kernel_rfl) ?hS ?hmono ?hsteps ?hfin
    case hS => exact hS
    case hmono =>
     iterate 35 refine .cons (fun x w1 w2 _ _ _ hx => hx) ?_
     exact .nil
    case hsteps =>
     refine .cons (Is (.int .i64 (k : Int))) [] rfl rfl (fun oq hop _ wq hQS => ?_) ?_
     ·exact .move hop (v := (.int .i64 (k : Int))) (by kernel_rfl) (by kernel_rfl) hQS (.refl _ _) rfl
     refine .cons (Is (.slice A n c)) [] rfl rfl (fun oq hop _ wq hQS => ?_) ?_
     ·exact .move hop (v := (.slice A n c)) (by kernel_rfl) (by kernel_rfl) hQS (.refl _ _) rfl
     refine .cons (Is (.int .i64 (n : Int))) _ rfl rfl (fun oq hop _ wq hQS => ?_) ?_
     ·refine .more_eq (.slice A n c) ?_
      exact .lenP hop (show _ = (.slice A n c : Value) by kernel_rfl) (by kernel_rfl) hQS (.refl _ _) rfl
     refine .cons (Is (.bool false)) _ rfl rfl (fun oq hop _ wq hQS => ?_) ?_
     ·refine .more_eq (.int .i64 (k : Int)) (.more_eq (.int .i64 (n : Int)) ?_)
      exact .bin hop (vx := (.int .i64 (k : Int))) (vy := (.int .i64 (n : Int))) (by kernel_rfl) (by kernel_rfl) (lss_no _ _ _ _ _ ij2) (by kernel_rfl) hQS (.refl _ _) rfl
     refine .cons (Is (.bool false)) _ rfl rfl (fun oq hop _ wq hQS => ?_) ?_
     ·refine .more_eq (.bool false) ?_
      exact .move hop (v := (.bool false)) (by kernel_rfl) (by kernel_rfl) hQS (.refl _ _) rfl
     refine .cons (Is undef) _ rfl rfl (fun oq hop _ wq hQS => ?_) ?_
     ·refine .more_eq (.bool false) ?_
      exact .off (by kernel_rfl) hQS (.refl _ _) rfl
     refine .cons (Is undef) _ rfl rfl (fun oq hop _ wq hQS => ?_) ?_
     ·refine .more_eq (.bool false) ?_
      exact .off (by kernel_rfl) hQS (.refl _ _) rfl
     refine .cons (Is undef) _ rfl rfl (fun oq hop _ wq hQS => ?_) ?_
     ·refine .more_eq (.bool false) (.more_eq (undef) (.more_eq (undef) ?_))
      exact .off (by kernel_rfl) hQS (.refl _ _) rfl
     refine .cons (Is undef) _ rfl rfl (fun oq hop _ wq hQS => ?_) ?_
     ·refine .more_eq (.bool false) (.more_eq (undef) ?_)
      exact .off (by kernel_rfl) hQS (.refl _ _) rfl
     refine .cons (Is undef) _ rfl rfl (fun oq hop _ wq hQS => ?_) ?_
     ·refine .more_eq (.bool false) ?_
      exact .off (by kernel_rfl) hQS (.refl _ _) rfl
     refine .cons (Is undef) _ rfl rfl (fun oq hop _ wq hQS => ?_) ?_
     ·refine .more_eq (.bool false) ?_
      exact .off (by kernel_rfl) hQS (.refl _ _) rfl
     refine .cons (Is undef) _ rfl rfl (fun oq hop _ wq hQS => ?_) ?_
     ·refine .more_eq (.bool false) (.more_eq (undef) (.more_eq (undef) ?_))
      exact .off (by kernel_rfl) hQS (.refl _ _) rfl
     refine .cons (Is undef) _ rfl rfl (fun oq hop _ wq hQS => ?_) ?_
     ·refine .more_eq (.bool false) (.more_eq (undef) ?_)
      exact .off (by kernel_rfl) hQS (.refl _ _) rfl
     refine .cons (Is undef) _ rfl rfl (fun oq hop _ wq hQS => ?_) ?_
     ·refine .more_eq (.bool false) (.more_eq (undef) (.more_eq (undef) ?_))
      exact .off (by kernel_rfl) hQS (.refl _ _) rfl
     refine .cons (Is undef) _ rfl rfl (fun oq hop _ wq hQS => ?_) ?_
     ·refine .more_eq (.bool false) (.more_eq (undef) ?_)
      exact .off (by kernel_rfl) hQS (.refl _ _) rfl
     refine .cons (Is (.bool false)) _ rfl rfl (fun oq hop _ wq hQS => ?_) ?_
     ·refine .more_eq (.bool false) (.more_eq (undef) ?_)
      exact .pick hop (b := false) (vx := undef) (vy := (.bool false)) (by kernel_rfl) (by kernel_rfl) (by kernel_rfl) (by kernel_rfl) hQS (.refl _ _) rfl
     refine .cons (Is (.bool false)) _ rfl rfl (fun oq hop _ wq hQS => ?_) ?_
     ·refine .more_eq (.bool false) ?_
      exact .move hop (v := (.bool false)) (by kernel_rfl) (by kernel_rfl) hQS (.refl _ _) rfl
     refine .cons (Is (.int .i64 (k : Int))) _ rfl rfl (fun oq hop _ wq hQS => ?_) ?_
     ·refine .more_eq (.bool false) ?_
      exact .move hop (v := (.int .i64 (k : Int))) (by kernel_rfl) (by kernel_rfl) hQS (.refl _ _) rfl
     refine .cons (Is (.slice A n c)) _ rfl rfl (fun oq hop _ wq hQS => ?_) ?_
     ·refine .more_eq (.bool false) ?_
      exact .move hop (v := (.slice A n c)) (by kernel_rfl) (by kernel_rfl) hQS (.refl _ _) rfl
     refine .cons (Is (.int .i64 (n : Int))) _ rfl rfl (fun oq hop _ wq hQS => ?_) ?_
     ·refine .more_eq (.bool false) (.more_eq (.slice A n c) ?_)
      exact .lenP hop (show _ = (.slice A n c : Value) by kernel_rfl) (by kernel_rfl) hQS (.refl _ _) rfl
     refine .cons (Is (.bool true)) _ rfl rfl (fun oq hop _ wq hQS => ?_) ?_
     ·refine .more_eq (.bool false) (.more_eq (.int .i64 (k : Int)) (.more_eq (.int .i64 (n : Int)) ?_))
      exact .bin hop (vx := (.int .i64 (k : Int))) (vy := (.int .i64 (n : Int))) (by kernel_rfl) (by kernel_rfl) (geq_yes _ _ _ _ _ ij2) (by kernel_rfl) hQS (.refl _ _) rfl
     refine .cons (Is (.bool true)) _ rfl rfl (fun oq hop _ wq hQS => ?_) ?_
     ·refine .more_eq (.bool false) (.more_eq (.bool true) ?_)
      exact .move hop (v := (.bool true)) (by kernel_rfl) (by kernel_rfl) hQS (.refl _ _) rfl
     refine .cons (Is (.slice (some ⟨g, 0, none⟩) (n + 12) cap)) _ rfl rfl (fun oq hop _ wq hQS => ?_) ?_
     ·refine .more_eq (.bool true) ?_
      exact .move hop (v := (.slice (some ⟨g, 0, none⟩) (n + 12) cap)) (by kernel_rfl) (by kernel_rfl) hQS (.refl _ _) rfl
     refine .cons (Is (.int .i64 (k : Int))) _ rfl rfl (fun oq hop _ wq hQS => ?_) ?_
     ·refine .more_eq (.bool true) ?_
      exact .move hop (v := (.int .i64 (k : Int))) (by kernel_rfl) (by kernel_rfl) hQS (.refl _ _) rfl
     refine .cons (Is (.pointer (some ⟨g, 0 + k * 2, none⟩))) _ rfl rfl (fun oq hop _ wq hQS => ?_) ?_
     ·refine .more_eq (.bool true) (.more_eq (.slice (some ⟨g, 0, none⟩) (n + 12) cap) (.more_eq (.int .i64 (k : Int)) ?_))
      exact .indexAddr hop (p := (.slice (some ⟨g, 0, none⟩) (n + 12) cap)) (q := (.int .i64 (k : Int))) (by kernel_rfl) (by kernel_rfl) (part_addr ij0 ij1) (by kernel_rfl) hQS (.refl _ _) rfl
     refine .cons (Is (.agg #[.int .i64 0, .int .i64 m])) _ rfl rfl (fun oq hop _ wq hQS => ?_) ?_
     ·refine .more_eq (.bool true) (.more_eq (.pointer (some ⟨g, 0 + k * 2, none⟩)) ?_)
      exact .load hop (p := (.pointer (some ⟨g, 0 + k * 2, none⟩))) (by kernel_rfl) (load_part ((hQS.cell (p := ⟨g, 0 + k * 2, none⟩) hgr).trans c0) ((hQS.cell (p := ⟨g, 0 + k * 2 + 1, none⟩) hgr).trans c1)) (by kernel_rfl) hQS (.refl _ _) rfl
     refine .cons (Is (.int .i64 (k : Int))) _ rfl rfl (fun oq hop _ wq hQS => ?_) ?_
     ·refine .more_eq (.bool true) ?_
      exact .move hop (v := (.int .i64 (k : Int))) (by kernel_rfl) (by kernel_rfl) hQS (.refl _ _) rfl
     refine .cons (Is (.slice A n c)) _ rfl rfl (fun oq hop _ wq hQS => ?_) ?_
     ·refine .more_eq (.bool true) ?_
      exact .move hop (v := (.slice A n c)) (by kernel_rfl) (by kernel_rfl) hQS (.refl _ _) rfl
     refine .cons (Is (.int .i64 (n : Int))) _ rfl rfl (fun oq hop _ wq hQS => ?_) ?_
     ·refine .more_eq (.bool true) (.more_eq (.slice A n c) ?_)
      exact .lenP hop (show _ = (.slice A n c : Value) by kernel_rfl) (by kernel_rfl) hQS (.refl _ _) rfl
     refine .cons (Is (.int .i64 ((k : Int) - (n : Int)))) _ rfl rfl (fun oq hop _ wq hQS => ?_) ?_
     ·refine .more_eq (.bool true) (.more_eq (.int .i64 (k : Int)) (.more_eq (.int .i64 (n : Int)) ?_))
      exact .bin hop (vx := (.int .i64 (k : Int))) (vy := (.int .i64 (n : Int))) (by kernel_rfl) (by kernel_rfl) (sub_int _ _ _ _ _ q6) (by kernel_rfl) hQS (.refl _ _) rfl
     refine .cons (Is (.agg #[.int .i64 0, .int .i64 m])) _ rfl rfl (fun oq hop _ wq hQS => ?_) ?_
     ·refine .more_eq (.bool true) (.more_eq (.int .i64 ((k : Int) - (n : Int))) ?_)
      exact .call hop (vs := [(.int .i64 1), (.int .i64 ((k : Int) - (n : Int)))]) (by kernel_rfl) (fun w => enter_markPart _ w) (by kernel_rfl) ((HM.out wq).mono fun e w9 h9 => ⟨_, h9.1, hQS.trans (h9.2.mono hQS.size), h9.2, rfl⟩)
     refine .cons (Is (.bool true)) _ rfl rfl (fun oq hop _ wq hQS => ?_) ?_
     ·refine .more_eq (.bool true) (.more_eq (.agg #[.int .i64 0, .int .i64 m]) (.more_eq (.agg #[.int .i64 0, .int .i64 m]) ?_))
      exact .bin hop (vx := (.agg #[.int .i64 0, .int .i64 m])) (vy := (.agg #[.int .i64 0, .int .i64 m])) (by kernel_rfl) (by kernel_rfl) (eql_part _ _ _ _ _) (by kernel_rfl) hQS (.refl _ _) rfl
     refine .cons (Is (.bool false)) _ rfl rfl (fun oq hop _ wq hQS => ?_) ?_
     ·refine .more_eq (.bool true) (.more_eq (.bool true) ?_)
      exact .not hop (b := true) (by kernel_rfl) (by kernel_rfl) hQS (.refl _ _) rfl
     refine .cons (Is (.bool false)) _ rfl rfl (fun oq hop _ wq hQS => ?_) ?_
     ·refine .more_eq (.bool false) (.more_eq (.bool true) (.more_eq (.bool false) ?_))
      exact .pick hop (b := true) (vx := (.bool false)) (vy := (.bool false)) (by kernel_rfl) (by kernel_rfl) (by kernel_rfl) (by kernel_rfl) hQS (.refl _ _) rfl
     refine .cons (Is (.bool false)) _ rfl rfl (fun oq hop _ wq hQS => ?_) ?_
     ·refine .more_eq (.bool false) (.more_eq (.bool false) ?_)
      exact .pick hop (b := false) (vx := (.bool true)) (vy := (.bool false)) (by kernel_rfl) (by kernel_rfl) (by kernel_rfl) (by kernel_rfl) hQS (.refl _ _) rfl
     exact .nil
    case hfin =>
     intro wf hFS
     iterate 34 refine .more fun _ _ => ?_
     refine .more fun x57 h57 => ?_
     refine .done ?_
     obtain rfl : x57 = (.bool false) := h57
     have hsf := hFS.size
     have HB2 : Hid (Below w.heap.size w wf) := HB.out.trans (hFS.mono hbz)
     clear hS hFS c0 c1
     simp only [Act.put, List.setIfInBounds_toArray, List.set_cons_zero, List.set_cons_succ]
     go_wp2
     go_roundw
     case rel => exact ⟨k + 1, by omega, by go_num, HB2.out⟩
     case measure => simp [intOf]; omega
  ·have HF : Hid (HasPost w true (.returned (.bool true)) wr) := ⟨rfl, hb⟩
   clear hb
   go_wp2
   go_ret
   exact HF.out
set_option maxHeartbeats 2000000 in
theorem keptLevel_any (A : Option Addr) (ps : List (Int × Int)) (c n g cap : Nat) (w : World) (hn : ps.length = n) (hm : n ≤ 900000) (hc1 : n + 12 ≤ cap) (h : Lev w w.heap.size A ps) (hk : Lev w w.heap.size (some ⟨g, 0, none⟩) (ps ++ marks 1 12)) :
  Calls Tryz.prog 41 #[.agg #[.slice (some ⟨g, 0, none⟩) n cap], .agg #[.slice A n c]] w (HasPost w true) := by
 have hfd := field_parts
 obtain ⟨x1, x2, x3⟩ := two_allocs w (.cells #[.slice (some ⟨g, 0, none⟩) n cap] 47) (.cells #[.slice A n c] 47)
 have hb0 : Below w.heap.size w ((w.alloc (.cells #[.slice (some ⟨g, 0, none⟩) n cap] 47)).alloc (.cells #[.slice A n c] 47)) := ((Below.refl _ _).alloc (Nat.le_refl _) _).alloc (by simp) _
 have hz : ((w.alloc (.cells #[.slice (some ⟨g, 0, none⟩) n cap] 47)).alloc (.cells #[.slice A n c] 47)).heap.size = w.heap.size + 2 := by simp
 have hk' : Lev w w.heap.size (some ⟨g, 0, none⟩) ps := fun hp => by
  obtain ⟨b, o, e, hb, hcell⟩ := hk (by rw [List.length_append]; omega)
  refine ⟨b, o, e, hb, fun i hi => ?_⟩
  have := hcell i (by rw [List.length_append]; omega)
  rwa [List.getD_eq_getElem?_getD, List.getElem?_append_left hi, ← List.getD_eq_getElem?_getD] at this
 have HS := Lib.hid (sameLevel_any (some ⟨g, 0, none⟩) A ps ps cap c _ (by unfold maxLen; omega) (by unfold maxLen; omega) ((hk'.below hb0).more hb0.size) ((h.below hb0).more hb0.size) true (by simp))
 rw [hn] at HS
 have HP : Hid (∀ w1, Below w.heap.size w w1 → Calls Tryz.prog 58 #[.slice (some ⟨g, 0, none⟩) n cap, .slice A n c] w1 (HasPost w1 true)) := fun w1 hb => keptParts_any A ps c n g cap w1 hn hm hc1 ((h.below hb).more hb.size) ((hk.below hb).more hb.size)
 have X1 := Lib.hid x1
 have X2 := Lib.hid x2
 have HB0 := Lib.hid hb0
 have f1 := cell_of_one x1
 have f2 := cell_of_one x2
 clear x1 x2 x3 hb0 h hk hk' hn hc1
 go_enter Tryz.func41, Tryz.ntmps41
 go_wp2_with (fail)
 refine HS.out.mono ?_
 rintro e w1 ⟨rfl, hb1⟩
 have e1 := (hb1.block w.heap.size (by omega)).trans X1.out
 have e2 := (hb1.block (w.heap.size + 1) (by omega)).trans X2.out
 have g1 := cell_of_one e1
 have g3 := cell_of_one e2
 have HB1 : Hid (Below w.heap.size w w1) := HB0.out.trans (hb1.mono (by omega))
 have HP1 := Lib.hid (HP.out w1 HB1.out)
 have hz1 := hb1.size
 clear hb1 e1 e2 HS
 go_wp2_with (fail)
 refine HP1.out.mono ?_
 rintro e w2 ⟨rfl, hb2⟩
 have HF : Hid (HasPost w true (.returned (.bool true)) w2) := ⟨rfl, HB1.out.trans (hb2.mono (by omega))⟩
 clear hb2
 go_wp2
 go_ret
 exact HF.out
end Go.Proofs.YtafgmndlbbjphaaGreatDoor
