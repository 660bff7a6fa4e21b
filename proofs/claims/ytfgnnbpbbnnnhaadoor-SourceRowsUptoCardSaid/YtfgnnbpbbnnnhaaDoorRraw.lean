/- Laws. -/
import Derived.Test.YtfgnnbpbbnnnhaaDoorRraf
import Derived.Test.YtfgnnbpbbnnnhaaDoorRrag
import Derived.Test.YtfgnnbpbbnnnhaaDoorRran
namespace Go.Proofs.YtfgnnbpbbnnnhaaDoor
open Go.RowKit Go.Maps
set_option maxRecDepth 100000 in
theorem add_wrap9 (x y : Int) (p q : Operand) (w : World) : ((do eqGuard .add 3 p q (.int .i64 x) (.int .i64 y); binOp .add 3 (.int .i64 x) (.int .i64 y) : Sem Value)).run Tryd.prog w = .ok (.int .i64 (IntKind.i64.wrap (x + y))) w := by go_simp
theorem infoT59 : (Tryd.prog.info? 27).map (·.size) = some 5 := by kernel_rfl
set_option maxRecDepth 100000 in
theorem load_tm_at {w : World} {cs : Array Value} {g o : Nat} {a0 a1 a2 a3 a4 : Value} {t : TypeId} (h : w.heap[g]? = some (.cells cs t (0, 0))) (h0 : cs[o]? = some a0) (h1 : cs[o + 1]? = some a1) (h2 : cs[o + 2]? = some a2) (h3 : cs[o + 3]? = some a3) (h4 : cs[o + 4]? = some a4) : (Instr.loadAt 27 (.pointer (some ⟨g, o, none⟩))).run Tryd.prog w = .ok (.agg #[a0, a1, a2, a3, a4]) w :=
  run_loadAt_cells Tryd.underlying27 rfl infoT59 rfl fun j hj => by
    rw [cell_of_row _ _ _ _ _ (0, 0) h]
    match j, hj with
    | 0, _ => exact h0
    | 1, _ => exact h1
    | 2, _ => exact h2
    | 3, _ => exact h3
    | 4, _ => exact h4
set_option maxRecDepth 100000 in
theorem load_lev_in {b o n c : Nat} {w : World} {A : Option Addr} (h : w.cell? ⟨b, o, none⟩ = some (.slice A n c)) : (Instr.loadAt 39 (.pointer (some ⟨b, o, none⟩))).run Tryd.prog w = .ok (.agg #[.slice A n c]) w := by go_simp
set_option maxRecDepth 100000 in
theorem load_mems {b o n c : Nat} {w : World} {A : Option Addr} (h : w.cell? ⟨b, o, none⟩ = some (.slice A n c)) : (Instr.loadAt 40 (.pointer (some ⟨b, o, none⟩))).run Tryd.prog w = .ok (.slice A n c) w := by go_simp
set_option maxRecDepth 100000 in
theorem load_ctors {b o n c : Nat} {w : World} {A : Option Addr} (h : w.cell? ⟨b, o, none⟩ = some (.slice A n c)) : (Instr.loadAt 41 (.pointer (some ⟨b, o, none⟩))).run Tryd.prog w = .ok (.slice A n c) w := by go_simp
set_option maxRecDepth 100000 in
theorem dc_field2 {b : Nat} {w : World} : (Instr.fieldAt 43 (.pointer (some ⟨b, 0, none⟩)) 2).run Tryd.prog w = .ok (.pointer (some ⟨b, 2, none⟩)) w := by go_simp
set_option maxRecDepth 100000 in
theorem dc_field3 {b : Nat} {w : World} : (Instr.fieldAt 43 (.pointer (some ⟨b, 0, none⟩)) 3).run Tryd.prog w = .ok (.pointer (some ⟨b, 7, none⟩)) w := by go_simp
set_option maxRecDepth 100000 in
theorem dc_field4 {b : Nat} {w : World} : (Instr.fieldAt 43 (.pointer (some ⟨b, 0, none⟩)) 4).run Tryd.prog w = .ok (.pointer (some ⟨b, 12, none⟩)) w := by go_simp
set_option maxRecDepth 100000 in
theorem dc_field5 {b : Nat} {w : World} : (Instr.fieldAt 43 (.pointer (some ⟨b, 0, none⟩)) 5).run Tryd.prog w = .ok (.pointer (some ⟨b, 13, none⟩)) w := by go_simp
set_option maxRecDepth 100000 in
theorem dc_field6 {b : Nat} {w : World} : (Instr.fieldAt 43 (.pointer (some ⟨b, 0, none⟩)) 6).run Tryd.prog w = .ok (.pointer (some ⟨b, 14, none⟩)) w := by go_simp
set_option maxRecDepth 100000 in
theorem dc_field7 {b : Nat} {w : World} : (Instr.fieldAt 43 (.pointer (some ⟨b, 0, none⟩)) 7).run Tryd.prog w = .ok (.pointer (some ⟨b, 15, none⟩)) w := by go_simp
set_option maxRecDepth 100000 in
theorem enter_termOf9 (vs : Array Value) (w : World) : (callFunc 19 vs).run Tryd.prog w = .ok (.enter 19 vs) w := by go_simp
set_option maxRecDepth 100000 in
theorem enter_levelOf9 (vs : Array Value) (w : World) : (callFunc 49 vs).run Tryd.prog w = .ok (.enter 49 vs) w := by go_simp
set_option maxRecDepth 100000 in
theorem enter_membersOf9 (vs : Array Value) (w : World) : (callFunc 75 vs).run Tryd.prog w = .ok (.enter 75 vs) w := by go_simp
set_option maxRecDepth 100000 in
theorem enter_ctorsOf9 (vs : Array Value) (w : World) : (callFunc 76 vs).run Tryd.prog w = .ok (.enter 76 vs) w := by go_simp
/-- what is counted of a declaration is not too great -/
def Dc.ok (d : Dc) : Prop := d.ty.count ≤ 1048576 ∧ d.bo.count ≤ 1048576 ∧ Tm.countL d.pars ≤ 1048576 ∧ d.sort.length ≤ 1048576 ∧ d.mems.length ≤ 1048576 ∧ (∀ m ∈ d.mems, Tm.countL m ≤ 1048576) ∧ d.ctors.length ≤ 1048576 ∧ ∀ m ∈ d.ctors, m.2.count ≤ 1048576
end Go.Proofs.YtfgnnbpbbnnnhaaDoor
