/- Laws. -/
import Derived.Test.YtfgnnbpbbnnnhaaDoorSgay
import Derived.WideShapes
namespace Go.Proofs.YtfgnnbpbbnnnhaaDoor
open Go.ChangeShapes Go.WideShapes Go.ChangeAt Go.RowKit
set_option maxRecDepth 100000 in
theorem int_rng {w : World} {r : Reach} {b : Nat} {n : Int} (h : Value.okWide Tryd.prog w r b 3 (.int .i64 n)) : Rng n := by
  simp only [Value.okWide, Tryd.underlying3, Cell.okWide, Cell.ok, IntKind.has] at h
  unfold Rng
  simp at h
  have e1 : IntKind.i64.min = -9223372036854775808 := by decide
  rw [e1] at h
  omega
set_option maxRecDepth 100000 in
theorem tm_shapeS {w : World} {B : Nat} {t : Tm} {v : Value} (h : TmAt w B t v) : ∃ (i j l : Int) (A C : Option Addr) (n c m d : Nat), v = .agg #[.int .i64 i, .int .i64 j, .int .i64 l, .slice A n c, .slice C m d] := by
  obtain ⟨k, n, a, lv, kids⟩ := t
  obtain ⟨Al, cl, Ak, ck, e, _⟩ := h.open
  exact ⟨_, _, _, _, _, _, _, _, _, e⟩
theorem sumF_append {α : Type} (f : α → Nat) : ∀ a b : List α, sumF f (a ++ b) = sumF f a + sumF f b
  | [], b => by simp [sumF]
  | x :: a, b => by
    have := sumF_append f a b
    simp only [List.cons_append, sumF, this]
    omega
end Go.Proofs.YtfgnnbpbbnnnhaaDoor
