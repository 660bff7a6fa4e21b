/- More kinds of operations of a drawn region: len, min, a slice of a row; and what they yield at the level laws' types. -/
import Derived.Test.YtafgmndlbbjphaaDoorLvKinds
namespace Go.Proofs.YtafgmndlbbjphaaDoor
open Go.RowKit Go.Maps
section
variable {P : Program} {S : World → Prop} {R : World → World → Prop} {o : Oper} {V : Value → World → Prop} {g : Option (Option Tmp × Bool)} {a : Act} {w w' : World}
set_option maxRecDepth 100000 in
theorem StepFrom.len {x : Operand} (hop : o.op = .call { callee := .builtin .len, args := #[x], argTypes := #[23] }) {A : Option Addr} {n c : Nat} (hx : a.eval x = .slice A n c)
    (hg : gOn g a = true) (hS : S w) (hR : R w w) (hV : V (.int .i64 (n : Int)) w) : StepFrom Tryd.prog S R o V g [] a w :=
  StepFrom.ran (v := .int .i64 (n : Int)) (by
    have hm : (#[x] : Array Operand).map a.eval = #[.slice A n c] := by rw [List.map_toArray, List.map_cons, List.map_nil, hx]
    unfold execOp
    simp only [hop, resolve, hm]
    simp [go_sem]) hg hS hR hV
set_option maxRecDepth 100000 in
theorem StepFrom.min2 {x y : Operand} {ats : Array TypeId} (hop : o.op = .call { callee := .builtin .min, args := #[x, y], argTypes := ats }) {m n : Int} (hx : a.eval x = .int .i64 m) (hy : a.eval y = .int .i64 n)
    (hg : gOn g a = true) (hS : S w) (hR : R w w) (hV : V (.int .i64 (min m n)) w) : StepFrom Tryd.prog S R o V g [] a w :=
  StepFrom.ran (v := .int .i64 (min m n)) (by
    have hm : (#[x, y] : Array Operand).map a.eval = #[.int .i64 m, .int .i64 n] := by rw [List.map_toArray, List.map_cons, List.map_cons, List.map_nil, hx, hy]
    unfold execOp
    simp only [hop, resolve, hm]
    simp [go_sem]) hg hS hR hV
theorem StepFrom.sub {x lo hi : Operand} {t : TypeId} (hop : o.op = .slice t x (some lo) (some hi) none) {vx vl vh v : Value} (hx : a.eval x = vx) (hl : a.eval lo = vl) (hh : a.eval hi = vh)
    (hrun : (Instr.sliceAt t vx (some vl) (some vh) none).run P w = .ok v w) (hg : gOn g a = true) (hS : S w) (hR : R w w) (hV : V v w) : StepFrom P S R o V g [] a w :=
  StepFrom.ran (v := v) (by unfold execOp; simp only [hop, hx, Option.map_some, Option.map_none, hl, hh]; simp only [Sem.run_bind, hrun]; rfl) hg hS hR hV
end
set_option maxRecDepth 100000 in
theorem lev_addr {b n c k : Nat} {w : World} (h0 : (0 : Int) ≤ (k : Int)) (h1 : (k : Int) < (n : Int)) : (Instr.indexAt 23 (.slice (some ⟨b, 0, none⟩) n c) (.int .i64 (k : Int))).run Tryd.prog w = .ok (.pointer (some ⟨b, k, none⟩)) w := by go_simp
set_option maxRecDepth 100000 in
theorem load_lev_at {b o : Nat} {w : World} {A : Option Addr} {n c : Nat} (h : w.cell? ⟨b, o, none⟩ = some (.slice A n c)) : (Instr.loadAt 56 (.pointer (some ⟨b, o, none⟩))).run Tryd.prog w = .ok (.agg #[.slice A n c]) w := by go_simp
set_option maxRecDepth 100000 in
theorem int_addr {b n c k : Nat} {w : World} (h0 : (0 : Int) ≤ (k : Int)) (h1 : (k : Int) < (n : Int)) : (Instr.indexAt 98 (.slice (some ⟨b, 0, none⟩) n c) (.int .i64 (k : Int))).run Tryd.prog w = .ok (.pointer (some ⟨b, k, none⟩)) w := by go_simp
set_option maxRecDepth 100000 in
theorem rem_int (x m : Int) (hm : m ≠ 0) (p q : Operand) (w : World) : ((do eqGuard .rem 3 p q (.int .i64 x) (.int .i64 m); binOp .rem 3 (.int .i64 x) (.int .i64 m) : Sem Value)).run Tryd.prog w = .ok (.int .i64 (x.tmod m)) w := by
  go_simp
set_option maxRecDepth 100000 in
theorem neq_int (a b : Int) (x y : Operand) (w : World) : ((do eqGuard .neq 3 x y (.int .i64 a) (.int .i64 b); binOp .neq 3 (.int .i64 a) (.int .i64 b) : Sem Value)).run Tryd.prog w = .ok (.bool (a != b)) w := by
  go_simp
set_option maxRecDepth 100000 in
theorem sub_levels {b n c j h : Nat} {w : World} (h0 : (j : Int) ≤ (h : Int)) (h1 : (h : Int) ≤ (c : Int)) (h2 : j < c) : (Instr.sliceAt 23 (.slice (some ⟨b, 0, none⟩) n c) (some (.int .i64 (j : Int))) (some (.int .i64 (h : Int))) none).run Tryd.prog w = .ok (.slice (some ⟨b, j, none⟩) (h - j) (c - j)) w := by
  have q0 : (0 : Int) ≤ (j : Int) := by omega
  have q1 : (0 : Int) ≤ (h : Int) := by omega
  go_simp
  omega
set_option maxRecDepth 100000 in
theorem parts_addr_at {b o : Nat} {w : World} : (Instr.fieldAt 56 (.pointer (some ⟨b, o, none⟩)) 0).run Tryd.prog w = .ok (.pointer (some ⟨b, o, none⟩)) w := by go_simp
set_option maxRecDepth 100000 in
theorem load_lv_at {b o : Nat} {w : World} {v : Value} (h : w.cell? ⟨b, o, none⟩ = some v) : (Instr.loadAt 54 (.pointer (some ⟨b, o, none⟩))).run Tryd.prog w = .ok v w := by go_simp
set_option maxRecDepth 100000 in
theorem lev_addr_o {b o n c k : Nat} {w : World} (h0 : (0 : Int) ≤ (k : Int)) (h1 : (k : Int) < (n : Int)) : (Instr.indexAt 23 (.slice (some ⟨b, o, none⟩) n c) (.int .i64 (k : Int))).run Tryd.prog w = .ok (.pointer (some ⟨b, o + k, none⟩)) w := by go_simp
end Go.Proofs.YtafgmndlbbjphaaDoor
