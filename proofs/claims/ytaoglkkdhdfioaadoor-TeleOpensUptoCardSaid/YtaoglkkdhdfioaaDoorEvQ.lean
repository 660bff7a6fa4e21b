/- Regions whose order is drawn, step by step. -/
import Derived.Test.YtaoglkkdhdfioaaDoorEvP
namespace Go.Proofs.YtaoglkkdhdfioaaDoor
open Go
/-- all that is there is there too -/
def More (h h' : AH) : Prop := ∀ r o, h.get r = some o → h'.get r = some o
theorem More.refl (h : AH) : More h h := fun _ _ e => e
theorem More.now {h h' : AH} (hm : More h h') {r k : Nat} {c : Cells} (e : h.now r k = some c) : h'.now r k = some c := by
  obtain ⟨e1, e2⟩ := AH.now_get e
  unfold AH.now
  rw [hm r _ e1]
  simp [e2]
section
variable {P : Program} {h h' : AH} {f : AF} {y : AV}
theorem rLoad_more {t : TypeId} {a : Operand} (hm : More h h') (e : rLoad P h f t a = some y) : rLoad P h' f t a = some y := by
  unfold rLoad at e ⊢
  split at e
  · rename_i r k off hx
    split at e
    · rename_i c hc
      first | (simp only [hm.now hc]; exact e) | (simp only [hx, hm.now hc]; exact e)
    · cases e
  · rename_i cs hx
    first | exact e | (simp only [hx]; exact e)
  · cases e
theorem rFieldAddr_more {t : TypeId} {x : Operand} {k : Nat} (hm : More h h') (e : rFieldAddr P h f t x k = some y) : rFieldAddr P h' f t x k = some y := by
  unfold rFieldAddr at e ⊢
  cases hu : P.underlying t with
  | none => rw [hu] at e; cases e
  | some d =>
    rw [hu] at e
    cases d <;> simp only at e ⊢ <;> try (cases e; done)
    rename_i fs
    cases hf : fs[k]? with
    | none => rw [hf] at e; cases e
    | some fd =>
      rw [hf] at e
      simp only at e ⊢
      cases hs : szOf P fd.type with
      | none => rw [hs] at e; cases e
      | some n =>
        rw [hs] at e
        cases n with
        | zero => cases e
        | succ n =>
          simp only at e ⊢
          split at e
          · rename_i r j off hx
            split at e
            · rename_i c hc
              first | (simp only [hm.now hc]; exact e) | (simp only [hx, hm.now hc]; exact e)
            · cases e
          · rename_i cs hx
            first | exact e | (simp only [hx]; exact e)
          · cases e
theorem rIndexAddr_more {t : TypeId} {x i : Operand} (hm : More h h') (e : rIndexAddr P h f t x i = some y) : rIndexAddr P h' f t x i = some y := by
  unfold rIndexAddr at e ⊢
  split at e
  · rename_i e0 k n hu hi
    split at e
    · rename_i sz r j off len hs hx
      split at e
      · rename_i c hc
        first | (simp only [hm.now hc]; exact e) | (simp only [hs, hx, hm.now hc]; exact e) | (simp only [hu, hi, hs, hx, hm.now hc]; exact e)
      · cases e
    · rename_i sz s es hs hx
      first | exact e | (simp only [hs, hx]; exact e) | (simp only [hu, hi, hs, hx]; exact e)
    · cases e
  · exact e
  · cases e
theorem rNil_more {x : Operand} (hm : More h h') (e : rNil h f x = some y) : rNil h' f x = some y := by
  unfold rNil at e ⊢
  split at e
  · rename_i cs hx; first | exact e | (simp only [hx]; exact e)
  · rename_i r k off hx
    split at e
    · rename_i c hc
      first | (simp only [hm.now hc]; exact e) | (simp only [hx, hm.now hc]; exact e)
    · cases e
  · rename_i g a b hx; first | exact e | (simp only [hx]; exact e)
  · rename_i cs hx; first | exact e | (simp only [hx]; exact e)
  · cases e
theorem rLen_more {t : TypeId} {x : Operand} (hm : More h h') (e : rLen P h f t x = some y) : rLen P h' f t x = some y := by
  unfold rLen at e ⊢
  split at e
  · rename_i e0 hu
    split at e
    · rename_i r k off len hx
      split at e
      · rename_i c hc
        first | (simp only [hm.now hc]; exact e) | (simp only [hx, hm.now hc]; exact e) | (simp only [hu, hx, hm.now hc]; exact e)
      · cases e
    · rename_i s es hx; first | exact e | (simp only [hx]; exact e) | (simp only [hu, hx]; exact e)
    · rename_i hx; first | exact e | (simp only [hx]; exact e) | (simp only [hu, hx]; exact e)
    · rename_i hx; first | exact e | (simp only [hx]; exact e) | (simp only [hu, hx]; exact e)
    · cases e
  · cases e
theorem rSlice_more {t : TypeId} {x : Operand} {lo hi mx : Option Operand} (hm : More h h') (e : rSlice P h f t x lo hi mx = some y) : rSlice P h' f t x lo hi mx = some y := by
  unfold rSlice at e ⊢
  cases hu : P.underlying t with
  | none => rw [hu] at e; cases e
  | some d =>
    rw [hu] at e
    cases d <;> simp only at e ⊢ <;> try (cases e; done)
    rename_i el
    cases hs : szOf P el with
    | none => rw [hs] at e; simp at e
    | some sz =>
      rw [hs] at e
      cases hx : f.ev x with
      | none => rw [hx] at e; simp at e
      | some a =>
        rw [hx] at e
        cases a <;> cases mx <;> simp only at e ⊢ <;> first
          | exact e
          | (cases e; done)
          | (rename_i r k _ _
             cases hc : h.now r k with
             | none => rw [hc] at e; cases e
             | some c => rw [hc] at e; rw [hm.now hc]; exact e)
          | (rename_i r k _ _ _
             cases hc : h.now r k with
             | none => rw [hc] at e; cases e
             | some c => rw [hc] at e; rw [hm.now hc]; exact e)
theorem rop_more {o : Oper} (hm : More h h') (e : rop P h f o = some y) : rop P h' f o = some y := by
  obtain ⟨dst, op, ty, pos, after, guard⟩ := o
  cases op <;> simp only [rop] at e ⊢ <;> first | exact e | exact rLoad_more hm e | exact rFieldAddr_more hm e | exact rIndexAddr_more hm e | exact rNil_more hm e | exact rSlice_more hm e | skip
  case call c =>
    unfold rCall at e ⊢
    split at e
    · exact rLen_more hm e
    · cases e
theorem src_more {sz : Nat} {x : Operand} {z : Nat × List AV} (hm : More h h') (e : srcA h f sz x = some z) : srcA h' f sz x = some z := by
  unfold srcA at e ⊢
  split at e
  · rename_i c hx; first | exact e | (simp only [hx]; exact e)
  · rename_i hx; first | exact e | (simp only [hx]; exact e)
  · rename_i s es hx; first | exact e | (simp only [hx]; exact e)
  · rename_i r k off len hx
    split at e
    · rename_i c hc
      first | (simp only [hm.now hc]; exact e) | (simp only [hx, hm.now hc]; exact e)
    · cases e
  · cases e
theorem rApp_more {o : Op} (hm : More h h') (e : rApp P h f o = some y) : rApp P h' f o = some y := by
  cases o <;> simp only [rApp] at e ⊢ <;> try (cases e; done)
  split at e
  · rename_i s x ts tx h1 h2 h3
    unfold rAppend at e ⊢
    cases hu : P.underlying ts with
    | none => rw [hu] at e; simp at e
    | some d =>
      cases hk : P.underlying tx with
      | none => rw [hu, hk] at e; cases d <;> first | (cases e; done) | simp at e
      | some d2 =>
        rw [hu, hk] at e
        cases d <;> cases d2 <;> simp only at e ⊢ <;> try (cases e; done)
        rename_i el _
        cases hi : P.info? el with
        | none => rw [hi] at e; cases e
        | some i =>
          rw [hi] at e
          simp only at e ⊢
          cases hs : srcA h f i.size x with
          | none => rw [hs] at e; cases e
          | some z =>
            rw [hs] at e
            rw [src_more hm hs]
            obtain ⟨n, bs⟩ := z
            cases n <;> cases bs <;> simp only at e ⊢ <;> try (cases e; done)
            cases hx : f.ev s with
            | none => rw [hx] at e; cases e
            | some a =>
              rw [hx] at e
              cases a with
              | row r k off len =>
                simp only at e ⊢
                cases hc : h.now r k with
                | none => rw [hc] at e; cases e
                | some c => rw [hc] at e; rw [hm.now hc]; exact e
              | raw v => split at e <;> simp_all
              | _ => exact e
  · cases e
theorem qold_more {o : Oper} (hm : More h h') (e : qold P h f o = some y) : qold P h' f o = some y := by
  unfold qold at e ⊢
  cases hg : gop P f o with
  | some z => rw [hg] at e; exact e
  | none =>
    rw [hg] at e
    simp only at e ⊢
    cases hr : rop P h f o with
    | some z =>
      rw [hr] at e
      rw [rop_more hm hr]; exact e
    | none =>
      rw [hr] at e
      simp only at e
      have h1 := rApp_more hm e
      have h2 : rop P h' f o = none := by
        cases ho : o.op <;> rw [ho] at e <;> simp only [rApp] at e <;> try (cases e; done)
        rename_i c
        split at e
        · rename_i s x ts tx e1 e2 e3
          simp only [rop, ho, rCall, e1]
        · cases e
      rw [h2]; exact h1
theorem qop_more {o : Oper} (hm : More h h') (e : qop P h f o = some y) : qop P h' f o = some y := by
  unfold qop at e ⊢
  cases hg : mvop P f o with
  | some z => rw [hg] at e; exact e
  | none => rw [hg] at e; exact qold_more hm e
theorem nop_more {o : Oper} {z : (Nat → AV) × Cells} (hm : More h h') (e : nop P h f o = some z) : nop P h' f o = some z := by
  obtain ⟨dst, op, ty, pos, after, guard⟩ := o
  cases op <;> simp only [nop] at e ⊢ <;> try exact e
  split at e
  · rename_i s x ts tx h1 h2 h3
    unfold nAppend at e ⊢
    cases hu : P.underlying ts with
    | none => rw [hu] at e; simp at e
    | some d =>
      cases hk : P.underlying tx with
      | none => rw [hu, hk] at e; cases d <;> first | (cases e; done) | simp at e
      | some d2 =>
        rw [hu, hk] at e
        cases d <;> cases d2 <;> simp only at e ⊢ <;> try (cases e; done)
        rename_i el _
        cases hi : P.info? el with
        | none => rw [hi] at e; cases e
        | some i =>
          rw [hi] at e
          simp only at e ⊢
          cases hs : srcA h f i.size x with
          | none => rw [hs] at e; cases hz : i.zero <;> rw [hz] at e <;> cases e
          | some z =>
            rw [hs] at e
            rw [src_more hm hs]; exact e
  · cases e
theorem snap_more {us bs : List AV} {l : List (Nat × Nat)} (hm : More h h') (hs : SnapL h us bs l) : SnapL h' us bs l := by
  induction hs with
  | nil => exact .nil
  | pure hp _ ih => exact .pure hp ih
  | none _ ih => exact .none ih
  | emp _ ih => exact .emp ih
  | row hc hl hz _ hp _ ih1 ih2 => exact .row (hm.now hc) hl hz ih1 hp ih2
  | agg _ _ ih1 ih2 => exact .agg ih1 ih2
  | tup _ _ ih1 ih2 => exact .tup ih1 ih2
  | ifc _ _ ih1 ih2 => exact .ifc ih1 ih2
  | clo _ _ _ ih1 ih2 ih3 => exact .clo ih1 ih2 ih3
  | vptr hc hn _ _ ih1 ih2 => exact .vptr (hm.now hc) hn ih1 ih2
theorem snap_there {us bs : List AV} {l : List (Nat × Nat)} (hs : SnapL h us bs l) : ∀ p ∈ l, ∃ o, h.get p.1 = some o := by
  induction hs with
  | nil => exact fun p hp => (by cases hp)
  | pure _ _ ih => exact ih
  | none _ ih => exact ih
  | emp _ ih => exact ih
  | row hc _ _ _ _ _ ih1 ih2 =>
    intro p hp
    rcases List.mem_cons.1 hp with rfl | hp
    · exact ⟨_, (AH.now_get hc).1⟩
    · rcases List.mem_append.1 hp with hp | hp
      · exact ih1 p hp
      · exact ih2 p hp
  | agg _ _ ih1 ih2 =>
    intro p hp
    rcases List.mem_append.1 hp with hp | hp
    · exact ih1 p hp
    · exact ih2 p hp
  | tup _ _ ih1 ih2 =>
    intro p hp
    rcases List.mem_append.1 hp with hp | hp
    · exact ih1 p hp
    · exact ih2 p hp
  | ifc _ _ ih1 ih2 =>
    intro p hp
    rcases List.mem_append.1 hp with hp | hp
    · exact ih1 p hp
    · exact ih2 p hp
  | clo _ _ _ ih1 ih2 ih3 =>
    intro p hp
    rcases List.mem_append.1 hp with hp | hp
    · exact ih1 p hp
    · rcases List.mem_append.1 hp with hp | hp
      · exact ih2 p hp
      · exact ih3 p hp
  | vptr hc _ _ _ ih1 ih2 =>
    intro p hp
    rcases List.mem_cons.1 hp with rfl | hp
    · exact ⟨_, (AH.now_get hc).1⟩
    · rcases List.mem_append.1 hp with hp | hp
      · exact ih1 p hp
      · exact ih2 p hp
theorem sealed_more {us bs : List AV} {l : List (Nat × Nat)} (hm : More h h') (hs : SnapL h us bs l) (hl : Sealed h l) : Sealed h' l := fun p hp c hc => by
  obtain ⟨o, ho⟩ := snap_there hs p hp
  have := hm _ _ ho
  rw [hc] at this
  injection this with this
  subst this
  exact hl p hp c ho
end
/-- what a function tells of values: whatever there is besides -/
structure Tells (P : Program) (fn : Fn) (args cap : List AV) (z : AV) : Prop where
  pure : ∀ a ∈ args ++ cap, Pure a
  out : Pure z
  run : ∃ y h' l1 l2, Run P (.call fn args cap .zero) (.call (.ret y) h') ∧ SnapL (h'.seals l1) [y] [z] l2 ∧ Sealed (h'.seals l1) l2
theorem Tells.gives {P : Program} {fn : Fn} {args cap : List AV} {z : AV} {h : AH} {R : Res → AH → Prop} (ht : Tells P fn args cap z) (hr : R (.ret z) h) : Gives P fn args cap h R := by
  obtain ⟨y, h', l1, l2, k1, k2, k3⟩ := ht.run
  exact ⟨_, _, .pure (L := []) (snap_pure ht.pure) rfl (fun p hp => (by cases hp)) ht.pure k1 k2 k3 ht.out, hr⟩
theorem tells_of {P : Program} {fn : Fn} {args cap : List AV} {z : AV} (h1 : ∀ a ∈ args ++ cap, Pure a) (h2 : Pure z) (hk : Gives P fn args cap .zero fun r h' => ∃ y l1 l2, r = .ret y ∧ SnapL (h'.seals l1) [y] [z] l2 ∧ Sealed (h'.seals l1) l2) : Tells P fn args cap z := by
  obtain ⟨r, h', k1, y, l1, l2, rfl, k2, k3⟩ := hk
  exact ⟨h1, h2, y, h', l1, l2, k1, k2, k3⟩
theorem tells_raw {P : Program} {fn : Fn} {args cap : List AV} {z : AV} (h1 : ∀ a ∈ args ++ cap, Pure a) (h2 : Pure z) (hk : Gives P fn args cap .zero fun r _ => r = .ret z) : Tells P fn args cap z :=
  tells_of h1 h2 (hk.mono fun r h' e => ⟨z, [], [], e, .pure h2 .nil, fun p hp => (by cases hp)⟩)
end Go.Proofs.YtaoglkkdhdfioaaDoor
