/- What single operations of the level laws yield: a level's load, == of bools and ints, and the entry of each function. -/
import Derived.Test.YtldalfikpklfdaaGreatLvBase
import Derived.Test.YtldalfikpklfdaaGreatLvRel
namespace Go.Proofs.YtldalfikpklfdaaGreat
open Go.RowKit Go.Maps
set_option maxRecDepth 100000 in
theorem load_level {b : Nat} {w : World} {A : Option Addr} {n c : Nat} (h : w.cell? ⟨b, 0, none⟩ = some (.slice A n c)) : (Instr.loadAt 24 (.pointer (some ⟨b, 0, none⟩))).run Tryz.prog w = .ok (.agg #[.slice A n c]) w := by
  go_simp
set_option maxRecDepth 100000 in
theorem neq_bool (a b : Bool) (x y : Operand) (w : World) : ((do eqGuard .neq 4 x y (.bool a) (.bool b); binOp .neq 4 (.bool a) (.bool b) : Sem Value)).run Tryz.prog w = .ok (.bool (a != b)) w := by
  go_simp
  cases a <;> cases b <;> rfl
set_option maxRecDepth 100000 in
theorem eql_bool (a b : Bool) (x y : Operand) (w : World) : ((do eqGuard .eql 4 x y (.bool a) (.bool b); binOp .eql 4 (.bool a) (.bool b) : Sem Value)).run Tryz.prog w = .ok (.bool (a == b)) w := by
  go_simp
set_option maxRecDepth 100000 in
theorem eql_int (a b : Int) (x y : Operand) (w : World) : ((do eqGuard .eql 3 x y (.int .i64 a) (.int .i64 b); binOp .eql 3 (.int .i64 a) (.int .i64 b) : Sem Value)).run Tryz.prog w = .ok (.bool (a == b)) w := by
  go_simp
set_option maxRecDepth 100000 in
theorem enter_leq (vs : Array Value) (w : World) : (callFunc 26 vs).run Tryz.prog w = .ok (.enter 26 vs) w := by go_simp
set_option maxRecDepth 100000 in
theorem enter_lsame (vs : Array Value) (w : World) : (callFunc 27 vs).run Tryz.prog w = .ok (.enter 27 vs) w := by go_simp
set_option maxRecDepth 100000 in
theorem enter_norm (vs : Array Value) (w : World) : (callFunc 8 vs).run Tryz.prog w = .ok (.enter 8 vs) w := by go_simp
set_option maxRecDepth 100000 in
theorem enter_same (vs : Array Value) (w : World) : (callFunc 16 vs).run Tryz.prog w = .ok (.enter 16 vs) w := by go_simp
set_option maxRecDepth 100000 in
theorem enter_max (vs : Array Value) (w : World) : (callFunc 15 vs).run Tryz.prog w = .ok (.enter 15 vs) w := by go_simp
set_option maxRecDepth 100000 in
theorem enter_succ (vs : Array Value) (w : World) : (callFunc 9 vs).run Tryz.prog w = .ok (.enter 9 vs) w := by go_simp
set_option maxRecDepth 100000 in
theorem enter_put (vs : Array Value) (w : World) : (callFunc 14 vs).run Tryz.prog w = .ok (.enter 14 vs) w := by go_simp
set_option maxRecDepth 100000 in
theorem enter_value (vs : Array Value) (w : World) : (callFunc 19 vs).run Tryz.prog w = .ok (.enter 19 vs) w := by go_simp
end Go.Proofs.YtldalfikpklfdaaGreat
