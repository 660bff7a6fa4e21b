/- Laws. -/
import Derived.Test.YtfgnnbpbbnnnhaaDoorSgag
import Derived.Test.YtfgnnbpbbnnnhaaDoorSgah
import Derived.Test.YtfgnnbpbbnnnhaaDoorSgal
import Derived.Maps.AppendAt
namespace Go.Proofs.YtfgnnbpbbnnnhaaDoor
open Go
end Go.Proofs.YtfgnnbpbbnnnhaaDoor
namespace Go.Proofs.YtfgnnbpbbnnnhaaDoor
open Go.RowKit Go.Maps
section
variable {P : Program} {S : World → Prop} {R : World → World → Prop} {o : Oper} {V : Value → World → Prop} {g : Option (Option Tmp × Bool)} {a : Act} {w w' : World}
theorem StepFrom.append {x y : Operand} {t : TypeId} (hop : o.op = .call { callee := .builtin .append, args := #[x, y], argTypes := #[t, t] }) {vx vy v' : Value} (hx : a.eval x = vx) (hy : a.eval y = vy) (hrun : (Builtin.append_ #[t, t] o.type #[vx, vy]).run P w = .ok v' w') (hg : gOn g a = true)
    (hS : S w') (hR : R w w') (hV : V v' w') : StepFrom P S R o V g [] a w :=
  StepFrom.made (v := v') (w' := w') (by
    unfold execOp
    simp only [hop, resolve, invoke, builtin, Sem.run_bind, Sem.run_pure, Result.andThen_ok, List.map_toArray, List.map_cons, List.map_nil, hx, hy, hrun]) hg hS hR hV
end
end Go.Proofs.YtfgnnbpbbnnnhaaDoor
namespace Go.Proofs.YtfgnnbpbbnnnhaaDoor
open Go.RowKit Go.Maps
theorem Tm.sizeL_le_countL : ∀ ts : List Tm, (∀ t ∈ ts, t.size ≤ t.count) → Tm.sizeL ts ≤ Tm.countL ts
  | [], _ => by simp [Tm.sizeL]
  | t :: ts, h => by
    have h1 := h t (by simp)
    have h2 := Tm.sizeL_le_countL ts fun s hs => h s (by simp [hs])
    simp only [Tm.sizeL, Tm.countL]
    omega
theorem Tm.size_le_count : ∀ t : Tm, t.size ≤ t.count := by
  intro t
  induction t using Tm.ind with
  | h k n a lv kids ih =>
    have := Tm.sizeL_le_countL kids ih
    rw [Tm.size_mk, Tm.count_mk]
    omega
set_option maxRecDepth 100000 in
theorem gtr_to {x y : Int} {b : Bool} (p q : Operand) (w : World) (h : decide (y < x) = b) : ((do eqGuard .gtr 3 p q (.int .i64 x) (.int .i64 y); binOp .gtr 3 (.int .i64 x) (.int .i64 y) : Sem Value)).run Tryd.prog w = .ok (.bool b) w := by
  subst h
  go_simp
end Go.Proofs.YtfgnnbpbbnnnhaaDoor
