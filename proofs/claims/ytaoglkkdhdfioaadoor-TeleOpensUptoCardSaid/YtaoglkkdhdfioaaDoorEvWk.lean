/- The walk's steps as one word: what is left to show is told by the walk itself. -/
import Derived.Test.YtaoglkkdhdfioaaDoorEvW
import Derived.Test.YtaoglkkdhdfioaaDoorEvAn
import Derived.KernelRfl
namespace Go.Proofs.YtaoglkkdhdfioaaDoor
open Go Go.Proofs
/-- put into order -/
theorem sm {A B : Prop} (k : B) (h : B → A := by
  intro k
  simp only [go_sem, ↓reduceIte, reduceCtorEq]
  exact k) : A := h k
/-- as far as it goes by itself -/
theorem wk {A B : Prop} (k : B) (h : B → A := by
  intro k
  repeat1' first
    | (refine goesL_q (y := .raw (.bool true)) (by rfl) (by rfl) ?_; simp only [go_sem, ↓reduceIte, reduceCtorEq])
    | (refine goesL_q (y := .raw (.bool false)) (by rfl) (by rfl) ?_; simp only [go_sem, ↓reduceIte, reduceCtorEq])
    | (fail_if_success refine goesL_b (by rfl) (by rfl) fun b hb => ?_
       refine goesL_q (by rfl) (by rfl) ?_; simp only [go_sem, ↓reduceIte, reduceCtorEq])
    | (refine goesL_n (by rfl) (by rfl) ?_; simp only [go_sem, ↓reduceIte, reduceCtorEq])
    | (refine goesL_m (by rfl) (by rfl) ?_; simp only [go_sem, ↓reduceIte, reduceCtorEq])
    | (fail_if_success refine goesL_b (by rfl) (by rfl) fun b hb => ?_
       refine goesL_s (by rfl) (qok_rop (by rfl)) ?_; simp only [go_sem, ↓reduceIte, reduceCtorEq])
    | (refine goesL_off (by rfl) ?_; simp only [go_sem, ↓reduceIte, reduceCtorEq])
    | (refine goesL_nil ?_; try simp only [go_sem, ↓reduceIte, reduceCtorEq])
    | (refine goes_seq ?_)
    | (refine goes_region ?_)
    | (refine goes_cond (b := true) (by rfl) (fun _ => ?_) fun h => (by cases h))
    | (refine goes_cond (b := false) (by rfl) (fun h => (by cases h)) fun _ => ?_)
    | (refine goes_block ?_)
    | (refine goes_skip ?_; try simp only [go_sem, ↓reduceIte, reduceCtorEq])
    | (refine goes_exit ?_; try simp only [go_sem, ↓reduceIte, reduceCtorEq])
    | (refine goes_ret ?_; try simp only [go_sem, ↓reduceIte, reduceCtorEq])
  exact k) : A := h k
theorem goesA_nt {P : Program} {ops : Array Oper} {n0 : Nat} {l : List Oper} {f : AF} {h : AH} {o : Oper} {K : List (List Nat × Option (Nat × Bool))} {Q : Ex → AF → AH → Prop} {y : Nat → AV} {c : Cells} {T : List Nat} (ht : touched f o = T) (hg : guardA ops f o = some true) (hq : nop P (h.only T) f o = some (y, c))
    (hc : GoesA P ops n0 l (f.put o.dst (y (n0 + K.length))) { h with blk := h.blk ++ [(n0 + K.length, .cells { c with imm := 0 })] } (K ++ [(T, some (n0 + K.length, true))]) Q) : GoesA P ops n0 (o :: l) f h K Q := goesA_n T hg hq hc
/-- the same in a region whose order is drawn -/
theorem wa {A B : Prop} (k : B) (h : B → A := by
  intro k
  repeat1' first
    | (refine goesA_q [] (y := .raw (.bool true)) (by rfl) (by rfl) ?_; simp only [go_sem, ↓reduceIte, reduceCtorEq])
    | (refine goesA_q [] (y := .raw (.bool false)) (by rfl) (by rfl) ?_; simp only [go_sem, ↓reduceIte, reduceCtorEq])
    | (fail_if_success refine goesA_b (by rfl) (by rfl) fun b hb => ?_
       refine goesA_q [] (by rfl) (by rfl) ?_; simp only [go_sem, ↓reduceIte, reduceCtorEq])
    | (refine goesA_t (by rfl) (by rfl) (by rfl) ?_; simp only [go_sem, ↓reduceIte, reduceCtorEq])
    | (refine goesA_n [] (by rfl) (by rfl) ?_; simp only [go_sem, ↓reduceIte, reduceCtorEq])
    | (refine goesA_nt (by rfl) (by rfl) (by rfl) ?_; simp only [go_sem, ↓reduceIte, reduceCtorEq])
    | (refine goesA_m (by rfl) (by rfl) (by rfl) ?_; simp only [go_sem, ↓reduceIte, reduceCtorEq])
    | (refine goesA_off (by rfl) ?_; simp only [go_sem, ↓reduceIte, reduceCtorEq])
    | (refine goesA_end (by kernel_rfl) ?_; simp only [go_sem, ↓reduceIte, reduceCtorEq])
    | (refine goes_any (by rfl) ?_; simp only [go_sem, ↓reduceIte, reduceCtorEq])
  exact k) : A := h k
section
variable {P : Program} {ops : Array Oper} {f : AF} {h : AH} {o : Oper} {l : List Oper} {Q : Ex → AF → AH → Prop} {c : Call} {x : Operand} {fn : Fn} {first args args' cap cap' : List AV} {z : AV} {n0 : Nat} {K : List (List Nat × Option (Nat × Bool))}
/-- a call, by what it tells -/
theorem tl (hk : Tells P fn args' cap z) (hr : GoesL P ops l (f.put o.dst z) h Q) (hg : guardA ops f o = some true := by rfl) (hc : o.op = .call c := by rfl) (hx : c.callee = .value x := by rfl) (hf : f.ev x = some (.clo fn first cap) := by rfl) (ha : f.evs c.args.toList = some args := by rfl) (he : first ++ args = args' := by rfl) :
    GoesL P ops (o :: l) f h Q := goesL_tells hk hg hc hx hf ha he hr
theorem ta (hk : Tells P fn args' cap' z) (hr : GoesA P ops n0 l (f.put o.dst z) h (K ++ [([], none)]) Q) (hg : guardA ops f o = some true := by rfl) (hc : o.op = .call c := by rfl) (hx : c.callee = .value x := by rfl) (hf : f.ev x = some (.clo fn first cap) := by rfl) (ha : f.evs c.args.toList = some args := by rfl)
    (he : first ++ args ++ cap = args' ++ cap' := by rfl) (hl : (first ++ args).length = args'.length := by rfl) : GoesA P ops n0 (o :: l) f h K Q := goesA_tells hk hg hc hx hf ha he hl hr
end
end Go.Proofs.YtaoglkkdhdfioaaDoor
