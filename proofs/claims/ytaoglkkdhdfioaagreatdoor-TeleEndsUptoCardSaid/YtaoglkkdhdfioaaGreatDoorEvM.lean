/- What was made on the way and is named by nothing is forgotten. -/
/- Rows that stand for ever are seen as values from here on. -/
/- That the model runs so. -/
import Derived.Test.YtaoglkkdhdfioaaGreatDoorEvN
namespace Go.Proofs.YtaoglkkdhdfioaaGreatDoor
open Go
section
variable {P : Program} {h h' : AH} {V : Mem} {res : Nat → Nat → Prop} {g q : Nat → Nat} {w : World} {f f' f2 : AF} {a : Act}
theorem find_filter (p : Nat → Bool) (r : Nat) : ∀ (l : List (Nat × Blk)), AH.find (l.filter fun x => p x.1) r = if p r then AH.find l r else none
  | [] => by simp [AH.find]
  | (s, o) :: l => by
    rw [List.filter_cons]
    by_cases hp : p s = true
    · simp only [hp, if_true, AH.find, find_filter p r l]
      by_cases e : r = s
      · subst e; simp [hp]
      · simp [e]
    · simp only [hp, AH.find]
      by_cases e : r = s
      · subst e
        have hp' : p r = false := by simpa using hp
        simp [hp', find_filter p r l]
      · simp [e, find_filter p r l]
theorem cut_get (r : Nat) : (h'.cut h).get r = if decide (r < h.next) && !h.hid.contains r then h'.get r else none := find_filter (fun r => decide (r < h.next) && !h.hid.contains r) r h'.blk
theorem cut_some {r : Nat} {o : Blk} (e : (h'.cut h).get r = some o) : h.has r ∧ h'.get r = some o := by
  rw [cut_get] at e
  split at e
  · rename_i hc
    simp at hc
    exact ⟨hc, e⟩
  · cases e
theorem cut_has {r : Nat} (hr : h.has r) : (h'.cut h).get r = h'.get r := by
  rw [cut_get, if_pos]
  have := hr.2
  simp [hr.1, this]
theorem find_mem {r : Nat} {o : Blk} : ∀ {l : List (Nat × Blk)}, AH.find l r = some o → (r, o) ∈ l
  | [], e => by simp [AH.find] at e
  | (s, p) :: l, e => by
    simp only [AH.find] at e
    split at e
    · rename_i hs; subst hs; injection e with e; subst e; exact List.mem_cons_self ..
    · exact List.mem_cons_of_mem _ (find_mem e)
theorem ok_cut {b i : Nat} (hk : OkCell (h'.mem res g q) w b i) : OkCell ((h'.cut h).mem res g q) w b i :=
  ⟨hk.1, hk.2.1, fun r c e1 e2 => hk.2.2 r c (cut_some e1).2 e2⟩
theorem den_cut {v : Value} {y : AV} (hd : Den (h'.mem res g q) w v y) (ho : Of h.has y) : Den ((h'.cut h).mem res g q) w v y := by
  induction hd with
  | raw v => exact .raw v
  | agg hl _ ih => cases ho with | agg ho => exact .agg hl fun i x a h1 h2 => ih i x a h1 h2 (ho a (List.mem_of_getElem? h2))
  | tup hl _ ih => cases ho with | tup ho => exact .tup hl fun i x a h1 h2 => ih i x a h1 h2 (ho a (List.mem_of_getElem? h2))
  | vnil => exact .vnil
  | emp => exact .emp
  | vals X hc hs hx _ ih =>
    cases ho with
    | vals ho =>
      refine .vals X hc hs (fun j e i a h1 h2 => ⟨ok_cut (hx j e i a h1 h2).1, (hx j e i a h1 h2).2⟩) fun j e i a h1 h2 => ih j e i a h1 h2 ?_
      have hoe := ho e (List.mem_of_getElem? h1)
      cases hoe with
      | raw v => simp only [AV.cells, List.getElem?_map] at h2; cases hv : v.cells.toList[i]? with
        | none => rw [hv] at h2; cases h2
        | some x => rw [hv] at h2; injection h2 with h2; subst h2; exact .raw x
      | agg hh => exact hh a (List.mem_of_getElem? h2)
      | tup hh => have := List.mem_of_getElem? h2; simp only [AV.cells, List.mem_singleton] at this; subst this; exact .tup hh
      | vals hh => have := List.mem_of_getElem? h2; simp only [AV.cells, List.mem_singleton] at this; subst this; exact .vals hh
      | emp => have := List.mem_of_getElem? h2; simp only [AV.cells, List.mem_singleton] at this; subst this; exact .emp
      | row hh => have := List.mem_of_getElem? h2; simp only [AV.cells, List.mem_singleton] at this; subst this; exact .row hh
      | ptr hh => have := List.mem_of_getElem? h2; simp only [AV.cells, List.mem_singleton] at this; subst this; exact .ptr hh
      | vptr hh => have := List.mem_of_getElem? h2; simp only [AV.cells, List.mem_singleton] at this; subst this; exact .vptr hh
      | clo h1' h2' => have := List.mem_of_getElem? h2; simp only [AV.cells, List.mem_singleton] at this; subst this; exact .clo h1' h2'
      | yld hh => have := List.mem_of_getElem? h2; simp only [AV.cells, List.mem_singleton] at this; subst this; exact .yld hh
      | ifc hh => have := List.mem_of_getElem? h2; simp only [AV.cells, List.mem_singleton] at this; subst this; exact .ifc hh
  | row hv hb hh => cases ho with | row ho => exact .row hv ho fun c hc => hh c (cut_some hc).2
  | ptr hv hb hh => cases ho with | ptr ho => exact .ptr hv ho fun c hc => hh c (cut_some hc).2
  | vptr X hx _ ih => cases ho with | vptr ho => exact .vptr X (fun i a h1 => ⟨ok_cut (hx i a h1).1, (hx i a h1).2⟩) fun i a h1 => ih i a h1 (ho a (List.mem_of_getElem? h1))
  | clo hf hc _ _ ih1 ih2 => cases ho with | clo p1 p2 => exact .clo hf hc (fun i x a k1 k2 => ih1 i x a k1 k2 (p1 a (List.mem_of_getElem? k2))) fun i x a k1 k2 => ih2 i x a k1 k2 (p2 a (List.mem_of_getElem? k2))
  | yld hv hb hh => cases ho with | yld ho => exact .yld hv ho fun l hl => hh l (cut_some hl).2
  | ifc _ ih => cases ho with | ifc ho => exact .ifc (ih ho)
theorem cut_to {g2 q2 : Nat → Nat} {w' : World} (hV : Rel (h.mem res g q) w) (ht : To (h.mem res g q) w (h'.mem res g2 q2) w') (hb : ∀ p ∈ (h'.cut h).blk, OfB h.has p.2) : To (h.mem res g q) w ((h'.cut h).mem res g2 q2) w' := by
  have hR := ht.rel
  have hof : ∀ r o, (h'.cut h).get r = some o → OfB h.has o := fun r o e => hb _ (find_mem e)
  refine ⟨⟨hR.bound, fun r o ho => hR.free r o (cut_some ho).2, fun r o ho => ⟨(cut_some ho).1, (hR.live r o (cut_some ho).2).2⟩, fun r s o p h1 h2 => hR.apart r s o p (cut_some h1).2 (cut_some h2).2, fun r c hc => ?_, fun r l hl => ?_, fun r hr => hR.mark r (cut_some hr).2, fun gg cs e i x hx => ⟨ok_cut (hR.glob gg cs e i x hx).1, (hR.glob gg cs e i x hx).2⟩⟩,
    ⟨fun b i x h1 h2 => ?_, fun r hr => hr, fun r c hr hc => ht.fwd.cells r c hr (cut_some hc).2, fun r l hr hl => ht.fwd.loop r l hr (cut_some hl).2, fun r hr => ?_⟩, ht.keep, fun r o ho => ht.old r o (cut_some ho).2⟩
  · obtain ⟨X, k1, k2, k3, k4, k5, k6⟩ := hR.cells r c (cut_some hc).2
    exact ⟨X, k1, k2, k3, k4, k5, fun i x b e1 e2 => den_cut (k6 i x b e1 e2) (hof r _ hc b (List.mem_of_getElem? e2))⟩
  · obtain ⟨k1, fn, T, k2, k3, k4⟩ := hR.loop r l (cut_some hl).2
    obtain ⟨j1, j2⟩ := hof r _ hl
    exact ⟨(cut_has j1).trans k1, fn, T, k2, k3, fun i b e2 => by obtain ⟨x, e1, e3⟩ := k4 i b e2; exact ⟨x, e1, den_cut e3 (j2 i b e2)⟩⟩
  · obtain ⟨k1, k2⟩ := ht.fwd.ok b i x h1 h2
    exact ⟨ok_cut k1, k2⟩
  · obtain ⟨k1, k2⟩ := ht.fwd.mark r hr
    exact ⟨(cut_has (hV.live r _ hr).1).trans k1, k2⟩
theorem sound_scope {c : Code} {e : Ex} (ih : SoundC P c f h e f' h') (hn : f2.t.n = f'.t.n) (hw : ∀ i y, f2.t.get i = some y → f'.t.get i = some y ∧ Of h.has y) (hm : f2.marks = f'.marks) (hm2 : ∀ m ∈ f'.marks, h.has m)
    (hr : f2.rnd = f'.rnd) (he : ∀ v, e = .pan v → Of h.has v) (hb : ∀ p ∈ (h'.cut h).blk, OfB h.has p.2) : SoundC P c f h e f2 (h'.cut h) := by
  refine ⟨hr.trans ih.1, fun F n res g q a w hF hR hV hf => wpIn_mono (ih.2 F n res g q a w hF hR hV hf) fun e1 a1 w1 hp => ?_⟩
  obtain ⟨g2, q2, ht, hed, hfd⟩ := hp
  have t2 := cut_to hV ht hb
  refine ⟨g2, q2, t2, ?_, ⟨⟨by rw [hfd.tmps.1, hn], fun i b h2 => ?_⟩, by rw [hm]; exact hfd.defers, fun m k => ?_, by rw [hm]; exact hfd.nodup, t2.rel.glob⟩⟩
  · cases e with
    | pan v =>
      cases e1 <;> try exact hed.elim
      obtain ⟨u, e2, hd⟩ := hed
      exact ⟨u, e2, den_cut hd (he v rfl)⟩
    | normal => cases e1 <;> exact hed
    | ret => cases e1 <;> exact hed
    | exit id => cases e1 <;> exact hed
  · obtain ⟨j1, j2⟩ := hw i b h2
    obtain ⟨x, e1, e3⟩ := hfd.tmps.2 i b j1
    exact ⟨x, e1, den_cut e3 j2⟩
  · have k' : m ∈ f'.marks := by rw [← hm]; exact k
    exact (cut_has (hm2 m k')).trans (hfd.marks m k')
end
end Go.Proofs.YtaoglkkdhdfioaaGreatDoor
namespace Go.Proofs.YtaoglkkdhdfioaaGreatDoor
open Go
section
variable {P : Program} {h h' : AH} {V : Mem} {res : Nat → Nat → Prop} {g q : Nat → Nat} {w : World} {f f' f2 : AF} {a : Act}
def Alike (h : AH) (o o2 : Blk) : Prop := o2 = o ∨ ∃ c cs l, o = .cells c ∧ o2 = .cells { c with cs := cs } ∧ SnapL h c.cs cs l ∧ Sealed h l
theorem snapH_find {r : Nat} {o2 : Blk} {us bs : List (Nat × Blk)} (hb : SnapH h us bs) (e : AH.find bs r = some o2) : ∃ o, AH.find us r = some o ∧ Alike h o o2 := by
  induction hb with
  | nil => simp [AH.find] at e
  | @same p us bs _ ih =>
    obtain ⟨s, o⟩ := p
    simp only [AH.find] at e ⊢
    split
    · rename_i hs; rw [if_pos hs] at e; injection e with e; subst e; exact ⟨_, rfl, .inl rfl⟩
    · rename_i hs; rw [if_neg hs] at e; exact ih e
  | cells hs hl _ ih =>
    simp only [AH.find] at e ⊢
    split
    · rename_i h1; rw [if_pos h1] at e; injection e with e; subst e; exact ⟨_, rfl, .inr ⟨_, _, _, rfl, rfl, hs, hl⟩⟩
    · rename_i h1; rw [if_neg h1] at e; exact ih e
theorem snapH_back {r : Nat} {o : Blk} {us bs : List (Nat × Blk)} (hb : SnapH h us bs) (e : AH.find us r = some o) : ∃ o2, AH.find bs r = some o2 ∧ Alike h o o2 := by
  induction hb with
  | nil => simp [AH.find] at e
  | @same p us bs _ ih =>
    obtain ⟨s, o⟩ := p
    simp only [AH.find] at e ⊢
    split
    · rename_i hs; rw [if_pos hs] at e; injection e with e; subst e; exact ⟨_, rfl, .inl rfl⟩
    · rename_i hs; rw [if_neg hs] at e; exact ih e
  | cells hs hl _ ih =>
    simp only [AH.find] at e ⊢
    split
    · rename_i h1; rw [if_pos h1] at e; injection e with e; subst e; exact ⟨_, rfl, .inr ⟨_, _, _, rfl, rfl, hs, hl⟩⟩
    · rename_i h1; rw [if_neg h1] at e; exact ih e
theorem snapS_look {i : Nat} {b : AV} {us bs : List (Nat × AV)} (hs : SnapS h us bs) (e : Slots.look bs i = some b) : ∃ a, Slots.look us i = some a ∧ (b = a ∨ ∃ l, SnapL h [a] [b] l ∧ Sealed h l) := by
  induction hs with
  | nil => simp [Slots.look] at e
  | @same p us bs _ ih =>
    obtain ⟨s, o⟩ := p
    simp only [Slots.look] at e ⊢
    split
    · rename_i hs; rw [if_pos hs] at e; injection e with e; subst e; exact ⟨_, rfl, .inl rfl⟩
    · rename_i hs; rw [if_neg hs] at e; exact ih e
  | snap hs hl _ ih =>
    simp only [Slots.look] at e ⊢
    split
    · rename_i h1; rw [if_pos h1] at e; injection e with e; subst e; exact ⟨_, rfl, .inr ⟨_, hs, hl⟩⟩
    · rename_i h1; rw [if_neg h1] at e; exact ih e
theorem snap_one {us bs : List AV} {l : List (Nat × Nat)} (hs : SnapL h us bs l) (ho : ∀ a ∈ us, a.one = true) : ∀ b ∈ bs, b.one = true := by
  induction hs with
  | nil => exact fun b hb => (by cases hb)
  | pure _ _ ih =>
    intro b hb
    rcases List.mem_cons.1 hb with rfl | hb
    · exact ho _ (List.mem_cons_self ..)
    · exact ih (fun a ha => ho a (List.mem_cons_of_mem _ ha)) b hb
  | none _ ih | emp _ ih | row _ _ _ _ _ _ _ ih | ifc _ _ _ ih | clo _ _ _ _ _ ih | vptr _ _ _ _ _ ih =>
    intro b hb
    rcases List.mem_cons.1 hb with rfl | hb
    · rfl
    · exact ih (fun a ha => ho a (List.mem_cons_of_mem _ ha)) b hb
  | agg _ _ _ _ | tup _ _ _ _ =>
    have := ho _ (List.mem_cons_self ..)
    cases this
theorem snap_to {bs : List (Nat × Blk)} (hV : Rel (h.mem res g q) w) (hb : SnapH h h.blk bs) : To (h.mem res g q) w (AH.mem { h with blk := bs } res g q) w := by
  have fnd : ∀ r o2, AH.find bs r = some o2 → ∃ o, h.get r = some o ∧ Alike h o o2 := fun r o2 e => snapH_find hb e
  have cel : ∀ r c2, AH.find bs r = some (.cells c2) → ∃ c, h.get r = some (.cells c) ∧ c2.ver = c.ver ∧ c2.sz = c.sz ∧ c2.imm = c.imm ∧ c2.elem = c.elem ∧ c2.cs.length = c.cs.length ∧ (c2 = c ∨ ∃ l, SnapL h c.cs c2.cs l ∧ Sealed h l) := fun r c2 e => by
    obtain ⟨o, h1, h2⟩ := fnd r _ e
    rcases h2 with h2 | ⟨c, cs, l, rfl, h3, h4, h5⟩
    · subst h2; exact ⟨c2, h1, rfl, rfl, rfl, rfl, rfl, .inl rfl⟩
    · injection h3 with h3
      subst h3
      exact ⟨c, h1, rfl, rfl, rfl, rfl, h4.length.symm, .inr ⟨l, h4, h5⟩⟩
  have oth : ∀ r o2, AH.find bs r = some o2 → (∀ c, o2 ≠ .cells c) → h.get r = some o2 := fun r o2 e hn => by
    obtain ⟨o, h1, h2⟩ := fnd r _ e
    rcases h2 with h2 | ⟨c, cs, l, rfl, h3, h4, h5⟩
    · subst h2; exact h1
    · exact absurd h3 (hn _)
  have mrk : ∀ r, h.get r = some .mark → AH.find bs r = some .mark := fun r e => by
    obtain ⟨o2, h1, h2⟩ := snapH_back hb e
    rcases h2 with h2 | ⟨c, cs, l, h3, _⟩
    · subst h2; exact h1
    · cases h3
  have hf : Fwd (h.mem res g q) w (AH.mem { h with blk := bs } res g q) w := ⟨fun b i x h1 h2 => ⟨⟨h1.1, h1.2.1, fun r c2 e1 e2 => by
      obtain ⟨c, k1, _, _, k4, _⟩ := cel r c2 e1
      rw [k4]; exact h1.2.2 r c k1 e2⟩, h2⟩, fun r hr => hr, fun r c2 hr e => by
      obtain ⟨c, k1, k2, k3, _, _, k6, _⟩ := cel r c2 e
      exact ⟨c, k1, by omega, fun _ => ⟨rfl, rfl, k3, k6⟩⟩, fun r l hr e => ⟨l, oth r _ e (fun c e => by cases e), rfl⟩, fun r e => ⟨mrk r e, rfl⟩⟩
  refine ⟨⟨hV.bound, fun r o2 e => ?_, fun r o2 e => ?_, fun r s o2 p2 e1 e2 e3 => ?_, fun r c2 e => ?_, fun r l e => ?_, fun r e => hV.mark r (oth r _ e fun c e => by cases e), hV.glob.fwd hf⟩, hf, Keep.refl _ _, fun r o2 e => ?_⟩
  · obtain ⟨o, h1, _⟩ := fnd r o2 e
    exact hV.free r o h1
  · obtain ⟨o, h1, _⟩ := fnd r o2 e
    exact hV.live r o h1
  · obtain ⟨o, h1, _⟩ := fnd r o2 e1
    obtain ⟨p, h2, _⟩ := fnd s p2 e2
    exact hV.apart r s o p h1 h2 e3
  · obtain ⟨c, k1, k2, k3, k4, k5, k6, k7⟩ := cel r c2 e
    obtain ⟨X, j1, j2, j3, j4, j5, j6⟩ := hV.cells r c k1
    refine ⟨X, by rw [k5]; exact j1, j2, by omega, by omega, ?_, fun i x b e1 e2 => ?_⟩
    · rcases k7 with k7 | ⟨l, k7, k8⟩
      · subst k7; exact j5
      · exact snap_one k7 j5
    · rcases k7 with k7 | ⟨l, k7, k8⟩
      · subst k7; exact (j6 i x b e1 e2).fwd hf
      · have hd : DenL (h.mem res g q) w (X.toList.take c.cs.length).toArray c.cs := ⟨by simp; omega, fun i x b e1 e2 => by
          rw [List.getElem?_toArray, List.getElem?_take] at e1
          split at e1
          · exact j6 i x b (by simpa using e1) e2
          · cases e1⟩
        have hd2 := snap_ok k7 hV (Agr.mem _ _ _ _) k8 hd
        refine (hd2.2 i x b ?_ e2).fwd hf
        have hi : i < c.cs.length := by have := (List.getElem?_eq_some_iff.1 e2).1; omega
        rw [List.getElem?_toArray, List.getElem?_take, if_pos hi]
        simpa using e1
  · obtain ⟨k1, fn, T, k2, k3, k4⟩ := hV.loop r l (oth r _ e fun c e => by cases e)
    exact ⟨mrk _ k1, fn, T, k2, k3, fun i b e2 => by obtain ⟨x, e1, e3⟩ := k4 i b e2; exact ⟨x, e1, e3.fwd hf⟩⟩
  · obtain ⟨o, h1, _⟩ := fnd r o2 e
    exact .inr ⟨r, o, h1, rfl⟩
theorem sound_snap {c : Code} {L : List (Nat × Nat)} {sl : List (Nat × AV)} {bs : List (Nat × Blk)} {e : Ex} (hb : SnapH (h.seals L) (h.seals L).blk bs) (hs : SnapS (h.seals L) f.t.l sl) (ih : SoundC P c { f with t := { f.t with l := sl } } { h with blk := bs } e f' h') : SoundC P c f h e f' h' := by
  refine ⟨ih.1, fun F n res g q a w hF hR hV hf => ?_⟩
  obtain ⟨e1, e2⟩ := seals_next L h
  have t1 := seals_to L hV
  have t2 := snap_to t1.rel hb
  have e3 : AH.mem { h.seals L with blk := bs } res g q = AH.mem { h with blk := bs } res g q := by
    have : ({ h.seals L with blk := bs } : AH) = { h with blk := bs } := by
      cases hh : h.seals L with
      | mk nx hd bl => rw [hh] at e1 e2; simp only at e1 e2; subst e1 e2; rfl
    rw [this]
  rw [e3] at t2
  have t := t1.trans t2
  have hf1 := hf.fwd t1.fwd
  refine wpIn_mono (ih.2 F n res g q a w hF (hR.fwd t.fwd rfl) t.rel ⟨⟨hf.tmps.1, fun i b hb2 => ?_⟩, (hf.fwd t.fwd).defers, (hf.fwd t.fwd).marks, hf.nodup, t.rel.glob⟩) fun e1 a1 w1 hp => codePost.up t hp
  obtain ⟨y, k1, k2⟩ := snapS_look hs hb2
  obtain ⟨x, j1, j2⟩ := hf1.tmps.2 i y k1
  refine ⟨x, j1, ?_⟩
  rcases k2 with k2 | ⟨l, k2, k3⟩
  · subst k2; exact j2.fwd t2.fwd
  · have hd : DenL ((h.seals L).mem res g q) w #[x] [y] := ⟨rfl, fun i u v e1 e2 => by
      cases i with
      | zero => simp at e1 e2; subst e1 e2; exact j2
      | succ i => simp at e2⟩
    exact ((snap_ok k2 t1.rel (Agr.mem _ _ _ _) k3 hd).2 0 x b rfl rfl).fwd t2.fwd
end
end Go.Proofs.YtaoglkkdhdfioaaGreatDoor
namespace Go.Proofs.YtaoglkkdhdfioaaGreatDoor
open Go
section
variable {P : Program} {h h' : AH} {V : Mem} {res : Nat → Nat → Prop} {g q : Nat → Nat} {w : World} {f f' : AF} {a : Act} {ops : Array Oper} {ys : List AV} {B : List (Option Cells)}
theorem puts_rnd : ∀ (l : List (AV × Nat)) (f : AF), (l.foldl (fun f p => f.put ((ops[p.2]?).bind (·.dst)) p.1) f).rnd = f.rnd
  | [], _ => rfl
  | p :: l, f => by rw [List.foldl_cons, puts_rnd l, put_rnd]
theorem sound_draw {id n : Nat} {L : List (Nat × Nat)} {f1 : AF} {h1 : AH} {e : Ex} (hm : P.follows .mixedOrders = true) (hk : drawB ops n f.t.n = true) (hy : ys.length = n) (hb : B.length = n)
    (hh : ∀ i ∈ List.range n, HeadOk P ops h.next (f.puts ops ys) ((h.seals L).adds h.next B) ys B i) (hr : Sound P (.ops ops (List.range' n (ops.size - n)) (f.puts ops ys) ((h.seals L).adds h.next B)) (.code e f1 h1)) : SoundC P (.region id ops true) f h e f1 h1 := by
  have hd := drawB_spec hk
  have hch := drawB_chain hk
  have hpr : (f.puts ops ys).rnd = f.rnd := puts_rnd _ f
  refine ⟨hr.1.trans hpr, fun F nn res g q a w hF hR hV hf => wpIn_region_any hm ?_⟩
  have t0 : To (h.mem res g q) w (h.mem res g q) { w with drawn := w.drawn + 1 } := to_same hV rfl rfl rfl (Nat.le_refl _) fun _ _ => rfl
  have t1 := t0.trans (seals_to L t0.rel)
  obtain ⟨en, eh⟩ := seals_next L h
  have live : ∀ r o, (h.seals L).get r = some o → r < (h.seals L).next ∧ r ∉ (h.seals L).hid := fun r o ho => (t1.rel.live r o ho).1
  have hG := adds_grown (h := h.seals L) (B := B) hb fun r o ho => (live r o ho).1
  rw [← en] at hh hr
  have hs := memS_start (res := res) (g := g) (q := q) (ops := ops) hG hd.le live
  refine any_head (res := res) (h := h.seals L) (V0 := h.mem res g q) (w0 := w) hF hd rfl hy hG (fun r o ho hne => live r o (by rw [← hG.old r hne]; exact ho)) (fun i hi => hh i (List.mem_range.2 hi)) (fun g2 q2 a2 w2 t2 f2 fu li l1 l2 l3 l4 => ?_) ops.size _ a _ g q f ⟨by simp, fun i j h1 h2 h3 => ?_, fun k h1 h2 => ?_⟩ (by rw [hs]; exact t1) (by rw [hs]; exact hf.fwd t1.fwd)
    ⟨rfl, rfl, rfl, fun _ _ => rfl, fun j d y j1 j2 _ _ => ?_⟩ ?_
  · exact any_tail hd hch _ n fu li a2 w2 (by have := hd.le; omega) (Nat.le_refl _) l1 l2 l3 l4 (ops_mono (fun e1 a1 w1 k => codePost.up t2 k) (hr.2 F nn res g2 q2 a2 w2 hF (hR.fwd t2.fwd hpr) t2.rel f2))
  · simp [h2] at h1
  · simp [h2]
  · have := hd.le
    have : j < ops.size := by omega
    simp [this] at j2
  · have := hd.le
    have h3 := List.countP_le_length (p := fun i => !(Array.replicate ops.size false).getD i true) (l := List.range n)
    rw [List.length_range] at h3
    omega
theorem sound {t : Task} {o : Out} (hr : Run P t o) : Sound P t o := by
  induction hr with
  | ops_nil => exact ⟨rfl, fun F n res g q a w hF hR hV hf => post_refl hV hf trivial⟩
  | ops_off ho hg _ ih => exact sound_off ho hg ih
  | ops_q ho hg hy _ ih => exact sound_q ho hg hy ih
  | ops_s ho hg hy _ ih => exact sound_s ho hg hy ih
  | ops_n ho hg hy _ ih => exact sound_n ho hg hy ih
  | ops_m ho hg hy _ ih => exact sound_m ho hg hy ih
  | ops_call ho hg hc hx hf ha _ _ ih1 ih2 => exact sound_call ho hg hc hx hf ha ih1 ih2
  | ops_calx ho hg hc hx hf ha _ ih1 => exact sound_calx ho hg hc hx hf ha ih1
  | ops_panic ho hg hc hx => exact sound_panic ho hg hc hx
  | skip => exact sound_skip
  | label => exact sound_label
  | seq _ _ ih1 ih2 =>
    rename_i out _ _
    cases out with
    | call r h' => exact ih2
    | code e f' h' => exact sound_seq ih1 ih2
  | seqx _ he ih1 => exact sound_seqx ih1 he
  | cond hb _ ih =>
    rename_i out _ _
    cases out with
    | call r h' => exact ih
    | code e f' h' => exact sound_cond hb ih
  | block _ he ih => exact sound_block ih he
  | blockx _ ih => exact sound_blockx ih
  | more _ _ ih1 ih2 =>
    rename_i out _ _
    cases out with
    | call r h' => exact ih2
    | code e f' h' => exact ⟨_, _, ih1, ih2⟩
  | last _ he ih => exact ⟨ih, he⟩
  | loop _ ih =>
    rename_i out _
    cases out with
    | call r h' => exact ih
    | code e f' h' => exact sound_loop ih
  | exit => exact sound_exit
  | ret => exact sound_ret
  | region _ ih =>
    rename_i out _
    cases out with
    | call r h' => exact ih
    | code e f' h' => exact sound_region ih
  | enter hf hb hn _ he hy hm hl ih => exact sound_enter hf hb hn ih he hy hm hl
  | enterx hf hb hn _ hm ih => exact sound_enterx hf hb hn ih hm
  | pure ha hal hs hp _ hy hs2 hz ih =>
    refine sound_pure ha hal hs hp ih (fun res g q w e hV hd => ?_) hz
    cases e <;> try exact hd.elim
    exact ⟨_, back_den hV hy hs2 hd⟩
  | purex ha hal hs hp _ hy hs2 hz ih =>
    refine sound_pure ha hal hs hp ih (fun res g q w e hV hd => ?_) hz
    cases e <;> try exact hd.elim
    obtain ⟨v, e1, e2⟩ := hd
    exact ⟨_, v, e1, back_den hV hy hs2 e2⟩
  | heads_nil => exact fun i hi => (by cases hi)
  | heads_off ho hg hy hb _ ih =>
    intro j hj
    rcases List.mem_cons.1 hj with rfl | hj
    · exact head_off ho hg hy hb
    · exact ih j hj
  | heads_q ho hg hq hy hb _ ih =>
    intro j hj
    rcases List.mem_cons.1 hj with rfl | hj
    · exact head_q ho hg hq hy hb
    · exact ih j hj
  | heads_s ho hg hq hy hb _ ih =>
    intro j hj
    rcases List.mem_cons.1 hj with rfl | hj
    · exact head_s ho hg hq hy hb
    · exact ih j hj
  | heads_n ho hg hq hm hy hb _ ih =>
    intro j hj
    rcases List.mem_cons.1 hj with rfl | hj
    · exact head_n ho hg hq hm hy hb
    · exact ih j hj
  | heads_call ho hg hc hx hf ha hs hl hs0 hp _ hz hs2 hpz hy hb _ ih1 ih =>
    intro j hj
    rcases List.mem_cons.1 hj with rfl | hj
    · exact head_call ho hg hc hx hf ha hs hl hs0 hp ih1 hz hs2 hpz hy hb
    · exact ih j hj
  | draw hm hk hy hb _ _ ih1 ih2 =>
    rename_i out _ _
    cases out with
    | call r h' => exact ih2
    | code e f' h' => exact sound_draw hm hk hy hb ih1 ih2
  | ops_yield ho hg hc hx hf ha _ _ ih1 ih2 => exact sound_yield ho hg hc hx hf ha ih1 ih2
  | yld hl hs ha _ hl1 _ hl3 he ih1 ih2 => exact sound_yld hl hs ha ih1 hl1 ih2 hl3 he
  | range hg hf hb hn hr _ hl hs hp ih =>
    refine sound_rangeO hg hf hb hn hr ih hl hs ?_
    rw [hp]
    exact ⟨rfl, rfl, rfl, rfl⟩
  | rangej hg hf hb hn hr _ hl hs hp _ ih1 ih2 =>
    rename_i out _ _
    cases out with
    | call r h' => exact ih2
    | code e f' h' =>
      refine sound_rangeO hg hf hb hn hr ih1 hl hs ?_
      rw [hp]
      exact ⟨ih2.1, ih2⟩
  | rangei hg hf hb hn hr h0 _ hl hs hp ih =>
    refine sound_rangeI hg hf hb hn hr h0 ih hl hs ?_
    rw [hp]
    exact ⟨rfl, rfl, rfl, rfl⟩
  | rangeij hg hf hb hn hr h0 _ hl hs hp _ ih1 ih2 =>
    rename_i out _ _
    cases out with
    | call r h' => exact ih2
    | code e f' h' =>
      refine sound_rangeI hg hf hb hn hr h0 ih1 hl hs ?_
      rw [hp]
      exact ⟨ih2.1, ih2⟩
  | known hs => exact hs
  | knowny hs => exact hs
  | knownc hs => exact hs
  | snap hb hs _ ih =>
    rename_i out _
    cases out with
    | call r h' => exact ih
    | code e f' h' => exact sound_snap hb hs ih
  | scope _ hn hw hm hm2 hr he hb ih => exact sound_scope ih hn hw hm hm2 hr he hb
  | weak h1 h2 h3 h4 _ ih =>
    rename_i out _
    cases out with
    | call r h' => exact ih
    | code e f' h' => exact ⟨ih.1.trans h4, fun F n res g q a w hF hR hV hf => ih.2 F n res g q a w hF (hR.fwd (Fwd.refl _ w) h4) hV ⟨⟨by rw [hf.tmps.1, h1], fun i b hb => hf.tmps.2 i b (h2 i b hb)⟩, by rw [h3]; exact hf.defers, fun m hm => hf.marks m (by rw [← h3]; exact hm), by rw [h3]; exact hf.nodup, hf.glob⟩⟩
end
end Go.Proofs.YtaoglkkdhdfioaaGreatDoor
