/- What single operations of the level laws yield: a level's load, == of bools and ints, and the entry of each function. -/
import Derived.Test.YtafgmndlbbjphaaDoorLvBase
import Derived.Test.YtafgmndlbbjphaaDoorLvRel
namespace Go.Proofs.YtafgmndlbbjphaaDoor
open Go.RowKit Go.Maps
set_option maxRecDepth 100000 in
theorem load_level {b : Nat} {w : World} {A : Option Addr} {n c : Nat} (h : w.cell? ⟨b, 0, none⟩ = some (.slice A n c)) : (Instr.loadAt 56 (.pointer (some ⟨b, 0, none⟩))).run Tryd.prog w = .ok (.agg #[.slice A n c]) w := by
  go_simp
set_option maxRecDepth 100000 in
theorem neq_bool (a b : Bool) (x y : Operand) (w : World) : ((do eqGuard .neq 4 x y (.bool a) (.bool b); binOp .neq 4 (.bool a) (.bool b) : Sem Value)).run Tryd.prog w = .ok (.bool (a != b)) w := by
  go_simp
  cases a <;> cases b <;> rfl
set_option maxRecDepth 100000 in
theorem eql_bool (a b : Bool) (x y : Operand) (w : World) : ((do eqGuard .eql 4 x y (.bool a) (.bool b); binOp .eql 4 (.bool a) (.bool b) : Sem Value)).run Tryd.prog w = .ok (.bool (a == b)) w := by
  go_simp
set_option maxRecDepth 100000 in
theorem eql_int (a b : Int) (x y : Operand) (w : World) : ((do eqGuard .eql 3 x y (.int .i64 a) (.int .i64 b); binOp .eql 3 (.int .i64 a) (.int .i64 b) : Sem Value)).run Tryd.prog w = .ok (.bool (a == b)) w := by
  go_simp
set_option maxRecDepth 100000 in
theorem enter_leq (vs : Array Value) (w : World) : (callFunc 40 vs).run Tryd.prog w = .ok (.enter 40 vs) w := by go_simp
set_option maxRecDepth 100000 in
theorem enter_lsame (vs : Array Value) (w : World) : (callFunc 28 vs).run Tryd.prog w = .ok (.enter 28 vs) w := by go_simp
set_option maxRecDepth 100000 in
theorem enter_put (vs : Array Value) (w : World) : (callFunc 32 vs).run Tryd.prog w = .ok (.enter 32 vs) w := by go_simp
end Go.Proofs.YtafgmndlbbjphaaDoor
