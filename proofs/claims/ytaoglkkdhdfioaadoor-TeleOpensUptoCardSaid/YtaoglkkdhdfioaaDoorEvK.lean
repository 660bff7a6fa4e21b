/- An operation sees its operands alone. -/
import Derived.Test.YtaoglkkdhdfioaaDoorEvJ
namespace Go.Proofs.YtaoglkkdhdfioaaDoor
open Go
/-- two frames, alike on these operands -/
def Like (f f' : AF) (l : List Operand) : Prop := ∀ x ∈ l, f.ev x = f'.ev x
section
variable {P : Program} {h : AH} {f f' : AF}
theorem Like.evs : ∀ {l : List Operand}, Like f f' l → f.evs l = f'.evs l
  | [], _ => rfl
  | x :: l, hl => by
    simp only [AF.evs, hl x (List.mem_cons_self ..), Like.evs fun y hy => hl y (List.mem_cons_of_mem _ hy)]
theorem Like.parts : ∀ {l : List (Nat × Operand)}, Like f f' (l.map (·.2)) → f.parts l = f'.parts l
  | [], _ => rfl
  | (i, x) :: l, hl => by
    simp only [AF.parts, hl x (by simp), Like.parts fun y hy => hl y (by simp at hy ⊢; exact .inr hy)]
theorem Like.bound {x : Option Operand} {d : Nat} (hl : Like f f' x.toList) : f.bound x d = f'.bound x d := by
  cases x with
  | none => rfl
  | some x => simp only [AF.bound, hl x (by simp)]
theorem Like.sub {l l' : List Operand} (hl : Like f f' l) (hs : ∀ x ∈ l', x ∈ l) : Like f f' l' := fun x hx => hl x (hs x hx)
theorem rop_like {o : Oper} (hl : Like f f' o.op.operands.toList) : rop P h f o = rop P h f' o := by
  obtain ⟨dst, op, ty, pos, after, guard⟩ := o
  cases op <;> simp only [rop]
  case move x => exact hl x (by simp [Op.operands])
  case assign x => exact hl x (by simp [Op.operands])
  case pick c a b =>
    simp only [rPick, hl c (by simp [Op.operands])]
    split
    · rename_i t _
      cases t
      · exact hl b (by simp [Op.operands])
      · exact hl a (by simp [Op.operands])
    · rfl
  case build t parts => rw [Like.parts (f := f) (f' := f') (hl.sub fun x hx => by simpa [Op.operands] using hx)]
  case load t a => simp only [rLoad, hl a (by simp [Op.operands])]
  case field t x k => simp only [rField, hl x (by simp [Op.operands])]
  case fieldAddr t x k => simp only [rFieldAddr, hl x (by simp [Op.operands])]
  case indexAddr t x i => simp only [rIndexAddr, hl x (by simp [Op.operands]), hl i (by simp [Op.operands])]
  case extract x i => simp only [rExtract, hl x (by simp [Op.operands])]
  case makeFunc fn first cap => simp only [rMakeFunc, Like.evs (hl.sub (l' := first.toList) fun x hx => by simp [Op.operands] at hx ⊢; exact .inl hx), Like.evs (hl.sub (l' := cap.toList) fun x hx => by simp [Op.operands] at hx ⊢; exact .inr hx)]
  case makeInterface t x => simp only [rIface, hl x (by simp [Op.operands])]
  case nilCheck x => simp only [rNil, hl x (by simp [Op.operands])]
  case slice t x lo hi mx =>
    have h1 := hl x (by simp [Op.operands])
    have h2 : ∀ d, f.bound lo d = f'.bound lo d := fun d => Like.bound (hl.sub fun y hy => by simp [Op.operands] at hy ⊢; exact .inr (.inl hy))
    have h3 : ∀ d, f.bound hi d = f'.bound hi d := fun d => Like.bound (hl.sub fun y hy => by simp [Op.operands] at hy ⊢; exact .inr (.inr (.inl hy)))
    have h5 : hi.bind (fun x => f.bound (some x) 0) = hi.bind (fun x => f'.bound (some x) 0) := by
      cases hi with
      | none => rfl
      | some y => exact h3 0
    have h6 : mx.bind (fun x => f.bound (some x) 0) = mx.bind (fun x => f'.bound (some x) 0) := by
      cases mx with
      | none => rfl
      | some m => exact Like.bound (x := some m) (d := 0) (hl.sub fun y hy => by simp [Op.operands] at hy ⊢; exact .inr (.inr (.inr hy)))
    simp only [rSlice, h1, h2, h3, h5, h6]
  case call c =>
    simp only [rCall]
    split
    · rename_i x t h1 h2 h3
      simp only [rLen, hl x (by simp [Op.operands, Call.operands, ← Array.mem_toList_iff, h2])]
    · rfl
theorem gop_like {o : Oper} (hl : Like f f' o.op.operands.toList) : gop P f o = gop P f' o := by
  unfold gop
  split
  · rfl
  · rename_i hs
    have h1 : (o.op.operands.toList.all fun x => ((f.ev x).bind AV.toV).isSome) = (o.op.operands.toList.all fun x => ((f'.ev x).bind AV.toV).isSome) := by
      have : ∀ {l : List Operand}, Like f f' l → (l.all fun x => ((f.ev x).bind AV.toV).isSome) = (l.all fun x => ((f'.ev x).bind AV.toV).isSome) := by
        intro l
        induction l with
        | nil => exact fun _ => rfl
        | cons x l ih => exact fun hl => by rw [List.all_cons, List.all_cons, hl x (List.mem_cons_self ..), ih fun y hy => hl y (List.mem_cons_of_mem _ hy)]
      exact this hl
    have h2 : execOp f.rawAt o = execOp f'.rawAt o := execOp_congr o (fun cs b e => by rw [e] at hs; simp [Op.isSelect] at hs) fun x hx => by
      simp only [AF.rawAt, hl x (by simpa using hx)]
    rw [h1, h2]
theorem src_like {x : Operand} {sz : Nat} (hx : f.ev x = f'.ev x) : srcA h f sz x = srcA h f' sz x := by simp only [srcA, hx]
theorem qop_like {o : Oper} (hl : Like f f' o.op.operands.toList) : qop P h f o = qop P h f' o := by
  have hmv : mvop P f o = mvop P f' o := by
    have hr := rop_like (P := P) (h := h) hl
    obtain ⟨dst, op, ty, pos, after, guard⟩ := o
    cases op <;> first | rfl | exact hr
  unfold qop qold
  rw [rop_like hl, gop_like hl, hmv]
  have : rApp P h f o.op = rApp P h f' o.op := by
    cases ho : o.op <;> simp only [rApp]
    rename_i c
    split
    · rename_i s x ts tx h1 h2 h3
      have m : ∀ y ∈ c.args.toList, y ∈ o.op.operands.toList := fun y hy => by rw [ho]; simp [Op.operands, Call.operands]; exact .inr (by simpa using hy)
      simp only [rAppend, src_like (hl x (m x (by simp [h2]))), hl s (m s (by simp [h2]))]
    · rfl
  rw [this]
theorem nop_like {o : Oper} (hl : Like f f' o.op.operands.toList) : nop P h f o = nop P h f' o := by
  obtain ⟨dst, op, ty, pos, after, guard⟩ := o
  cases op <;> simp only [nop]
  case box e x => rw [hl x (by simp [Op.operands])]
  case buildSlice t len parts => simp only [nBuild, Like.parts (f := f) (f' := f') (hl.sub (l' := (parts.toList.map (·.2))) fun x hx => by simpa [Op.operands] using hx)]
  case makeSlice t l c => simp only [nMake, hl l (by simp [Op.operands]), hl c (by simp [Op.operands])]
  case call c =>
    split
    · rename_i s x ts tx h1 h2 h3
      have m : ∀ y ∈ c.args.toList, y ∈ (Op.call c).operands.toList := fun y hy => by simp [Op.operands, Call.operands]; exact .inr (by simpa using hy)
      simp only [nAppend, src_like (hl x (m x (by simp [h2]))), hl s (m s (by simp [h2]))]
    · rfl
theorem call_like {o : Oper} {c : Call} {x : Operand} (hl : Like f f' o.op.operands.toList) (hc : o.op = .call c) (hx : c.callee = .value x) : f.ev x = f'.ev x ∧ f.evs c.args.toList = f'.evs c.args.toList := by
  rw [hc] at hl
  refine ⟨hl x (by simp [Op.operands, Call.operands, hx]), Like.evs (hl.sub fun y hy => ?_)⟩
  simp [Op.operands, Call.operands]; exact .inr (by simpa using hy)
end
end Go.Proofs.YtaoglkkdhdfioaaDoor
