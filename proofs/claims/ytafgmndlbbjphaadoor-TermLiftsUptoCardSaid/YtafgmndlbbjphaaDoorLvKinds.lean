/- More kinds of operations of a drawn region: addresses, structs; and what they yield at level's types. -/
import Derived.Test.YtafgmndlbbjphaaDoorLvFacts
import Derived.Test.YtafgmndlbbjphaaDoorLvTail
namespace Go.Proofs.YtafgmndlbbjphaaDoor
open Go.RowKit Go.Maps
section
variable {P : Program} {S : World → Prop} {R : World → World → Prop} {o : Oper} {V : Value → World → Prop} {g : Option (Option Tmp × Bool)} {a : Act} {w w' : World}
theorem StepFrom.fieldAddr {x : Operand} {t : TypeId} {i : Nat} (hop : o.op = .fieldAddr t x i) {p v : Value} (hx : a.eval x = p) (hrun : (Instr.fieldAt t p i).run P w = .ok v w) (hg : gOn g a = true) (hS : S w) (hR : R w w)
    (hV : V v w) : StepFrom P S R o V g [] a w :=
  StepFrom.ran (v := v) (by unfold execOp; simp only [hop, hx]; simp only [Sem.run_bind, hrun]; rfl) hg hS hR hV
theorem StepFrom.indexAddr {x y : Operand} {t : TypeId} (hop : o.op = .indexAddr t x y) {p q v : Value} (hx : a.eval x = p) (hy : a.eval y = q) (hrun : (Instr.indexAt t p q).run P w = .ok v w) (hg : gOn g a = true) (hS : S w) (hR : R w w)
    (hV : V v w) : StepFrom P S R o V g [] a w :=
  StepFrom.ran (v := v) (by unfold execOp; simp only [hop, hx, hy]; simp only [Sem.run_bind, hrun]; rfl) hg hS hR hV
theorem StepFrom.build {t : TypeId} {ps : List (Nat × Operand)} (hop : o.op = .build t ps.toArray) {vs : List (Nat × Value)} (hx : ps.map (fun p => (p.1, a.eval p.2)) = vs) {v : Value}
    (hrun : (Instr.build t vs.toArray).run P w = .ok v w) (hg : gOn g a = true) (hS : S w) (hR : R w w) (hV : V v w) : StepFrom P S R o V g [] a w :=
  StepFrom.ran (v := v) (by
    have e : (ps.toArray.map fun x => (x.1, a.eval x.2)) = vs.toArray := by rw [List.map_toArray, hx]
    unfold execOp
    simp only [hop, e]
    simp only [Sem.run_bind, hrun]
    rfl) hg hS hR hV
end
set_option maxRecDepth 100000 in
theorem parts_addr {b : Nat} {w : World} : (Instr.fieldAt 56 (.pointer (some ⟨b, 0, none⟩)) 0).run Tryd.prog w = .ok (.pointer (some ⟨b, 0, none⟩)) w := by go_simp
set_option maxRecDepth 100000 in
theorem var_addr {b o : Nat} {w : World} : (Instr.fieldAt 71 (.pointer (some ⟨b, o, none⟩)) 0).run Tryd.prog w = .ok (.pointer (some ⟨b, o, none⟩)) w := by go_simp
set_option maxRecDepth 100000 in
theorem plus_addr {b o : Nat} {w : World} : (Instr.fieldAt 71 (.pointer (some ⟨b, o, none⟩)) 1).run Tryd.prog w = .ok (.pointer (some ⟨b, o + 1, none⟩)) w := by go_simp
set_option maxRecDepth 100000 in
theorem load_parts {b : Nat} {w : World} {A : Option Addr} {n c : Nat} (h : w.cell? ⟨b, 0, none⟩ = some (.slice A n c)) : (Instr.loadAt 54 (.pointer (some ⟨b, 0, none⟩))).run Tryd.prog w = .ok (.slice A n c) w := by go_simp
set_option maxRecDepth 100000 in
theorem load_lv {b : Nat} {w : World} {v : Value} (h : w.cell? ⟨b, 0, none⟩ = some v) : (Instr.loadAt 54 (.pointer (some ⟨b, 0, none⟩))).run Tryd.prog w = .ok v w := by go_simp
set_option maxRecDepth 100000 in
theorem load_int {b o : Nat} {w : World} {x : Int} (h : w.cell? ⟨b, o, none⟩ = some (.int .i64 x)) : (Instr.loadAt 3 (.pointer (some ⟨b, o, none⟩))).run Tryd.prog w = .ok (.int .i64 x) w := by go_simp
set_option maxRecDepth 100000 in
theorem part_addr {b o n c k : Nat} {w : World} (h0 : (0 : Int) ≤ (k : Int)) (h1 : (k : Int) < (n : Int)) : (Instr.indexAt 54 (.slice (some ⟨b, o, none⟩) n c) (.int .i64 (k : Int))).run Tryd.prog w = .ok (.pointer (some ⟨b, o + k * 2, none⟩)) w := by go_simp
set_option maxRecDepth 100000 in
theorem add_int (x y : Int) (p q : Operand) (w : World) (h : IntKind.i64.wrap (x + y) = x + y) : ((do eqGuard .add 3 p q (.int .i64 x) (.int .i64 y); binOp .add 3 (.int .i64 x) (.int .i64 y) : Sem Value)).run Tryd.prog w = .ok (.int .i64 (x + y)) w := by go_simp
set_option maxRecDepth 100000 in
theorem build_part (x y : Int) (w : World) : (Instr.build 71 [(0, Value.int .i64 x), (1, Value.int .i64 y)].toArray).run Tryd.prog w = .ok (.agg #[.int .i64 x, .int .i64 y]) w := by go_simp
set_option maxRecDepth 100000 in
theorem slice_part (x y : Int) (w : World) : (Instr.buildSlice 54 1 [(0, Value.agg #[.int .i64 x, .int .i64 y])].toArray).run Tryd.prog w = .ok (.slice (some ⟨w.heap.size, 0, none⟩) 1 1) (w.alloc (.cells #[.int .i64 x, .int .i64 y] 71)) := by go_simp
end Go.Proofs.YtafgmndlbbjphaaDoor
