/- What single operations of the level laws yield: a level's load, == of bools and ints, and the entry of each function. -/
import Derived.Test.YtldalfikpklfdaaLvBase
import Derived.Test.YtldalfikpklfdaaLvRel
namespace Go.Proofs.Ytldalfikpklfdaa
open Go.RowKit Go.Maps
theorem load_level {b : Nat} {w : World} {A : Option Addr} {n c : Nat} (h : w.cell? ⟨b, 0, none⟩ = some (.slice A n c)) : (Instr.loadAt 25 (.pointer (some ⟨b, 0, none⟩))).run Try.prog w = .ok (.agg #[.slice A n c]) w := by
  go_simp
theorem neq_bool (a b : Bool) (x y : Operand) (w : World) : ((do eqGuard .neq 4 x y (.bool a) (.bool b); binOp .neq 4 (.bool a) (.bool b) : Sem Value)).run Try.prog w = .ok (.bool (a != b)) w := by
  go_simp
  cases a <;> cases b <;> rfl
theorem eql_bool (a b : Bool) (x y : Operand) (w : World) : ((do eqGuard .eql 4 x y (.bool a) (.bool b); binOp .eql 4 (.bool a) (.bool b) : Sem Value)).run Try.prog w = .ok (.bool (a == b)) w := by
  go_simp
theorem eql_int (a b : Int) (x y : Operand) (w : World) : ((do eqGuard .eql 3 x y (.int .i64 a) (.int .i64 b); binOp .eql 3 (.int .i64 a) (.int .i64 b) : Sem Value)).run Try.prog w = .ok (.bool (a == b)) w := by
  go_simp
theorem enter_leq (vs : Array Value) (w : World) : (callFunc 16 vs).run Try.prog w = .ok (.enter 16 vs) w := by go_simp
theorem enter_lsame (vs : Array Value) (w : World) : (callFunc 17 vs).run Try.prog w = .ok (.enter 17 vs) w := by go_simp
theorem enter_norm (vs : Array Value) (w : World) : (callFunc 18 vs).run Try.prog w = .ok (.enter 18 vs) w := by go_simp
theorem enter_same (vs : Array Value) (w : World) : (callFunc 8 vs).run Try.prog w = .ok (.enter 8 vs) w := by go_simp
theorem enter_max (vs : Array Value) (w : World) : (callFunc 19 vs).run Try.prog w = .ok (.enter 19 vs) w := by go_simp
theorem enter_succ (vs : Array Value) (w : World) : (callFunc 20 vs).run Try.prog w = .ok (.enter 20 vs) w := by go_simp
theorem enter_put (vs : Array Value) (w : World) : (callFunc 9 vs).run Try.prog w = .ok (.enter 9 vs) w := by go_simp
theorem enter_value (vs : Array Value) (w : World) : (callFunc 11 vs).run Try.prog w = .ok (.enter 11 vs) w := by go_simp
end Go.Proofs.Ytldalfikpklfdaa
