/- Rows that stand for ever are seen as values from here on. -/
import Derived.Test.YtaoglkkdhdfioaaDoorEvS
namespace Go.Proofs.YtaoglkkdhdfioaaDoor
open Go
section
variable {P : Program} {h h' : AH} {V : Mem} {res : Nat → Nat → Prop} {g q : Nat → Nat} {w : World} {f f' f2 : AF} {a : Act}
def Alike (h : AH) (o o2 : Blk) : Prop := o2 = o ∨ ∃ c cs l, o = .cells c ∧ o2 = .cells { c with cs := cs } ∧ SnapL h c.cs cs l ∧ Sealed h l
theorem snapH_find {r : Nat} {o2 : Blk} {us bs : List (Nat × Blk)} (hb : SnapH h us bs) (e : AH.find bs r = some o2) : ∃ o, AH.find us r = some o ∧ Alike h o o2 := by
  induction hb with
  | nil => simp [AH.find] at e
  | @same p us bs _ ih =>
    obtain ⟨s, o⟩ := p
    simp only [AH.find] at e ⊢
    split
    · rename_i hs; rw [if_pos hs] at e; injection e with e; subst e; exact ⟨_, rfl, .inl rfl⟩
    · rename_i hs; rw [if_neg hs] at e; exact ih e
  | cells hs hl _ ih =>
    simp only [AH.find] at e ⊢
    split
    · rename_i h1; rw [if_pos h1] at e; injection e with e; subst e; exact ⟨_, rfl, .inr ⟨_, _, _, rfl, rfl, hs, hl⟩⟩
    · rename_i h1; rw [if_neg h1] at e; exact ih e
theorem snapH_back {r : Nat} {o : Blk} {us bs : List (Nat × Blk)} (hb : SnapH h us bs) (e : AH.find us r = some o) : ∃ o2, AH.find bs r = some o2 ∧ Alike h o o2 := by
  induction hb with
  | nil => simp [AH.find] at e
  | @same p us bs _ ih =>
    obtain ⟨s, o⟩ := p
    simp only [AH.find] at e ⊢
    split
    · rename_i hs; rw [if_pos hs] at e; injection e with e; subst e; exact ⟨_, rfl, .inl rfl⟩
    · rename_i hs; rw [if_neg hs] at e; exact ih e
  | cells hs hl _ ih =>
    simp only [AH.find] at e ⊢
    split
    · rename_i h1; rw [if_pos h1] at e; injection e with e; subst e; exact ⟨_, rfl, .inr ⟨_, _, _, rfl, rfl, hs, hl⟩⟩
    · rename_i h1; rw [if_neg h1] at e; exact ih e
theorem snapS_look {i : Nat} {b : AV} {us bs : List (Nat × AV)} (hs : SnapS h us bs) (e : Slots.look bs i = some b) : ∃ a, Slots.look us i = some a ∧ (b = a ∨ ∃ l, SnapL h [a] [b] l ∧ Sealed h l) := by
  induction hs with
  | nil => simp [Slots.look] at e
  | @same p us bs _ ih =>
    obtain ⟨s, o⟩ := p
    simp only [Slots.look] at e ⊢
    split
    · rename_i hs; rw [if_pos hs] at e; injection e with e; subst e; exact ⟨_, rfl, .inl rfl⟩
    · rename_i hs; rw [if_neg hs] at e; exact ih e
  | snap hs hl _ ih =>
    simp only [Slots.look] at e ⊢
    split
    · rename_i h1; rw [if_pos h1] at e; injection e with e; subst e; exact ⟨_, rfl, .inr ⟨_, hs, hl⟩⟩
    · rename_i h1; rw [if_neg h1] at e; exact ih e
theorem snap_one {us bs : List AV} {l : List (Nat × Nat)} (hs : SnapL h us bs l) (ho : ∀ a ∈ us, a.one = true) : ∀ b ∈ bs, b.one = true := by
  induction hs with
  | nil => exact fun b hb => (by cases hb)
  | pure _ _ ih =>
    intro b hb
    rcases List.mem_cons.1 hb with rfl | hb
    · exact ho _ (List.mem_cons_self ..)
    · exact ih (fun a ha => ho a (List.mem_cons_of_mem _ ha)) b hb
  | none _ ih | emp _ ih | row _ _ _ _ _ _ _ ih | ifc _ _ _ ih | clo _ _ _ _ _ ih | vptr _ _ _ _ _ ih =>
    intro b hb
    rcases List.mem_cons.1 hb with rfl | hb
    · rfl
    · exact ih (fun a ha => ho a (List.mem_cons_of_mem _ ha)) b hb
  | agg _ _ _ _ | tup _ _ _ _ =>
    have := ho _ (List.mem_cons_self ..)
    cases this
theorem snap_to {bs : List (Nat × Blk)} (hV : Rel (h.mem res g q) w) (hb : SnapH h h.blk bs) : To (h.mem res g q) w (AH.mem { h with blk := bs } res g q) w := by
  have fnd : ∀ r o2, AH.find bs r = some o2 → ∃ o, h.get r = some o ∧ Alike h o o2 := fun r o2 e => snapH_find hb e
  have cel : ∀ r c2, AH.find bs r = some (.cells c2) → ∃ c, h.get r = some (.cells c) ∧ c2.ver = c.ver ∧ c2.sz = c.sz ∧ c2.imm = c.imm ∧ c2.elem = c.elem ∧ c2.cs.length = c.cs.length ∧ (c2 = c ∨ ∃ l, SnapL h c.cs c2.cs l ∧ Sealed h l) := fun r c2 e => by
    obtain ⟨o, h1, h2⟩ := fnd r _ e
    rcases h2 with h2 | ⟨c, cs, l, rfl, h3, h4, h5⟩
    · subst h2; exact ⟨c2, h1, rfl, rfl, rfl, rfl, rfl, .inl rfl⟩
    · injection h3 with h3
      subst h3
      exact ⟨c, h1, rfl, rfl, rfl, rfl, h4.length.symm, .inr ⟨l, h4, h5⟩⟩
  have oth : ∀ r o2, AH.find bs r = some o2 → (∀ c, o2 ≠ .cells c) → h.get r = some o2 := fun r o2 e hn => by
    obtain ⟨o, h1, h2⟩ := fnd r _ e
    rcases h2 with h2 | ⟨c, cs, l, rfl, h3, h4, h5⟩
    · subst h2; exact h1
    · exact absurd h3 (hn _)
  have mrk : ∀ r, h.get r = some .mark → AH.find bs r = some .mark := fun r e => by
    obtain ⟨o2, h1, h2⟩ := snapH_back hb e
    rcases h2 with h2 | ⟨c, cs, l, h3, _⟩
    · subst h2; exact h1
    · cases h3
  have hf : Fwd (h.mem res g q) w (AH.mem { h with blk := bs } res g q) w := ⟨fun b i x h1 h2 => ⟨⟨h1.1, h1.2.1, fun r c2 e1 e2 => by
      obtain ⟨c, k1, _, _, k4, _⟩ := cel r c2 e1
      rw [k4]; exact h1.2.2 r c k1 e2⟩, h2⟩, fun r hr => hr, fun r c2 hr e => by
      obtain ⟨c, k1, k2, k3, _, _, k6, _⟩ := cel r c2 e
      exact ⟨c, k1, by omega, fun _ => ⟨rfl, rfl, k3, k6⟩⟩, fun r l hr e => ⟨l, oth r _ e (fun c e => by cases e), rfl⟩, fun r e => ⟨mrk r e, rfl⟩⟩
  refine ⟨⟨hV.bound, fun r o2 e => ?_, fun r o2 e => ?_, fun r s o2 p2 e1 e2 e3 => ?_, fun r c2 e => ?_, fun r l e => ?_, fun r e => hV.mark r (oth r _ e fun c e => by cases e), hV.glob.fwd hf⟩, hf, Keep.refl _ _, fun r o2 e => ?_⟩
  · obtain ⟨o, h1, _⟩ := fnd r o2 e
    exact hV.free r o h1
  · obtain ⟨o, h1, _⟩ := fnd r o2 e
    exact hV.live r o h1
  · obtain ⟨o, h1, _⟩ := fnd r o2 e1
    obtain ⟨p, h2, _⟩ := fnd s p2 e2
    exact hV.apart r s o p h1 h2 e3
  · obtain ⟨c, k1, k2, k3, k4, k5, k6, k7⟩ := cel r c2 e
    obtain ⟨X, j1, j2, j3, j4, j5, j6⟩ := hV.cells r c k1
    refine ⟨X, by rw [k5]; exact j1, j2, by omega, by omega, ?_, fun i x b e1 e2 => ?_⟩
    · rcases k7 with k7 | ⟨l, k7, k8⟩
      · subst k7; exact j5
      · exact snap_one k7 j5
    · rcases k7 with k7 | ⟨l, k7, k8⟩
      · subst k7; exact (j6 i x b e1 e2).fwd hf
      · have hd : DenL (h.mem res g q) w (X.toList.take c.cs.length).toArray c.cs := ⟨by simp; omega, fun i x b e1 e2 => by
          rw [List.getElem?_toArray, List.getElem?_take] at e1
          split at e1
          · exact j6 i x b (by simpa using e1) e2
          · cases e1⟩
        have hd2 := snap_ok k7 hV (Agr.mem _ _ _ _) k8 hd
        refine (hd2.2 i x b ?_ e2).fwd hf
        have hi : i < c.cs.length := by have := (List.getElem?_eq_some_iff.1 e2).1; omega
        rw [List.getElem?_toArray, List.getElem?_take, if_pos hi]
        simpa using e1
  · obtain ⟨k1, fn, T, k2, k3, k4⟩ := hV.loop r l (oth r _ e fun c e => by cases e)
    exact ⟨mrk _ k1, fn, T, k2, k3, fun i b e2 => by obtain ⟨x, e1, e3⟩ := k4 i b e2; exact ⟨x, e1, e3.fwd hf⟩⟩
  · obtain ⟨o, h1, _⟩ := fnd r o2 e
    exact .inr ⟨r, o, h1, rfl⟩
theorem sound_snap {c : Code} {L : List (Nat × Nat)} {sl : List (Nat × AV)} {bs : List (Nat × Blk)} {e : Ex} (hb : SnapH (h.seals L) (h.seals L).blk bs) (hs : SnapS (h.seals L) f.t.l sl) (ih : SoundC P c { f with t := { f.t with l := sl } } { h with blk := bs } e f' h') : SoundC P c f h e f' h' := by
  refine ⟨ih.1, fun F n res g q a w hF hR hV hf => ?_⟩
  obtain ⟨e1, e2⟩ := seals_next L h
  have t1 := seals_to L hV
  have t2 := snap_to t1.rel hb
  have e3 : AH.mem { h.seals L with blk := bs } res g q = AH.mem { h with blk := bs } res g q := by
    have : ({ h.seals L with blk := bs } : AH) = { h with blk := bs } := by
      cases hh : h.seals L with
      | mk nx hd bl => rw [hh] at e1 e2; simp only at e1 e2; subst e1 e2; rfl
    rw [this]
  rw [e3] at t2
  have t := t1.trans t2
  have hf1 := hf.fwd t1.fwd
  refine wpIn_mono (ih.2 F n res g q a w hF (hR.fwd t.fwd rfl) t.rel ⟨⟨hf.tmps.1, fun i b hb2 => ?_⟩, (hf.fwd t.fwd).defers, (hf.fwd t.fwd).marks, hf.nodup, t.rel.glob⟩) fun e1 a1 w1 hp => codePost.up t hp
  obtain ⟨y, k1, k2⟩ := snapS_look hs hb2
  obtain ⟨x, j1, j2⟩ := hf1.tmps.2 i y k1
  refine ⟨x, j1, ?_⟩
  rcases k2 with k2 | ⟨l, k2, k3⟩
  · subst k2; exact j2.fwd t2.fwd
  · have hd : DenL ((h.seals L).mem res g q) w #[x] [y] := ⟨rfl, fun i u v e1 e2 => by
      cases i with
      | zero => simp at e1 e2; subst e1 e2; exact j2
      | succ i => simp at e2⟩
    exact ((snap_ok k2 t1.rel (Agr.mem _ _ _ _) k3 hd).2 0 x b rfl rfl).fwd t2.fwd
end
end Go.Proofs.YtaoglkkdhdfioaaDoor
