/- What was made on the way and is named by nothing is forgotten. -/
import Derived.Test.YtaoglkkdhdfioaaDoorEvN
namespace Go.Proofs.YtaoglkkdhdfioaaDoor
open Go
section
variable {P : Program} {h h' : AH} {V : Mem} {res : Nat → Nat → Prop} {g q : Nat → Nat} {w : World} {f f' f2 : AF} {a : Act}
theorem find_filter (p : Nat → Bool) (r : Nat) : ∀ (l : List (Nat × Blk)), AH.find (l.filter fun x => p x.1) r = if p r then AH.find l r else none
  | [] => by simp [AH.find]
  | (s, o) :: l => by
    rw [List.filter_cons]
    by_cases hp : p s = true
    · simp only [hp, if_true, AH.find, find_filter p r l]
      by_cases e : r = s
      · subst e; simp [hp]
      · simp [e]
    · simp only [hp, AH.find]
      by_cases e : r = s
      · subst e
        have hp' : p r = false := by simpa using hp
        simp [hp', find_filter p r l]
      · simp [e, find_filter p r l]
theorem cut_get (r : Nat) : (h'.cut h).get r = if decide (r < h.next) && !h.hid.contains r then h'.get r else none := find_filter (fun r => decide (r < h.next) && !h.hid.contains r) r h'.blk
theorem cut_some {r : Nat} {o : Blk} (e : (h'.cut h).get r = some o) : h.has r ∧ h'.get r = some o := by
  rw [cut_get] at e
  split at e
  · rename_i hc
    simp at hc
    exact ⟨hc, e⟩
  · cases e
theorem cut_has {r : Nat} (hr : h.has r) : (h'.cut h).get r = h'.get r := by
  rw [cut_get, if_pos]
  have := hr.2
  simp [hr.1, this]
theorem find_mem {r : Nat} {o : Blk} : ∀ {l : List (Nat × Blk)}, AH.find l r = some o → (r, o) ∈ l
  | [], e => by simp [AH.find] at e
  | (s, p) :: l, e => by
    simp only [AH.find] at e
    split at e
    · rename_i hs; subst hs; injection e with e; subst e; exact List.mem_cons_self ..
    · exact List.mem_cons_of_mem _ (find_mem e)
theorem ok_cut {b i : Nat} (hk : OkCell (h'.mem res g q) w b i) : OkCell ((h'.cut h).mem res g q) w b i :=
  ⟨hk.1, hk.2.1, fun r c e1 e2 => hk.2.2 r c (cut_some e1).2 e2⟩
theorem den_cut {v : Value} {y : AV} (hd : Den (h'.mem res g q) w v y) (ho : Of h.has y) : Den ((h'.cut h).mem res g q) w v y := by
  induction hd with
  | raw v => exact .raw v
  | agg hl _ ih => cases ho with | agg ho => exact .agg hl fun i x a h1 h2 => ih i x a h1 h2 (ho a (List.mem_of_getElem? h2))
  | tup hl _ ih => cases ho with | tup ho => exact .tup hl fun i x a h1 h2 => ih i x a h1 h2 (ho a (List.mem_of_getElem? h2))
  | vnil => exact .vnil
  | emp => exact .emp
  | vals X hc hs hx _ ih =>
    cases ho with
    | vals ho =>
      refine .vals X hc hs (fun j e i a h1 h2 => ⟨ok_cut (hx j e i a h1 h2).1, (hx j e i a h1 h2).2⟩) fun j e i a h1 h2 => ih j e i a h1 h2 ?_
      have hoe := ho e (List.mem_of_getElem? h1)
      cases hoe with
      | raw v => simp only [AV.cells, List.getElem?_map] at h2; cases hv : v.cells.toList[i]? with
        | none => rw [hv] at h2; cases h2
        | some x => rw [hv] at h2; injection h2 with h2; subst h2; exact .raw x
      | agg hh => exact hh a (List.mem_of_getElem? h2)
      | tup hh => have := List.mem_of_getElem? h2; simp only [AV.cells, List.mem_singleton] at this; subst this; exact .tup hh
      | vals hh => have := List.mem_of_getElem? h2; simp only [AV.cells, List.mem_singleton] at this; subst this; exact .vals hh
      | emp => have := List.mem_of_getElem? h2; simp only [AV.cells, List.mem_singleton] at this; subst this; exact .emp
      | row hh => have := List.mem_of_getElem? h2; simp only [AV.cells, List.mem_singleton] at this; subst this; exact .row hh
      | ptr hh => have := List.mem_of_getElem? h2; simp only [AV.cells, List.mem_singleton] at this; subst this; exact .ptr hh
      | vptr hh => have := List.mem_of_getElem? h2; simp only [AV.cells, List.mem_singleton] at this; subst this; exact .vptr hh
      | clo h1' h2' => have := List.mem_of_getElem? h2; simp only [AV.cells, List.mem_singleton] at this; subst this; exact .clo h1' h2'
      | yld hh => have := List.mem_of_getElem? h2; simp only [AV.cells, List.mem_singleton] at this; subst this; exact .yld hh
      | ifc hh => have := List.mem_of_getElem? h2; simp only [AV.cells, List.mem_singleton] at this; subst this; exact .ifc hh
  | row hv hb hh => cases ho with | row ho => exact .row hv ho fun c hc => hh c (cut_some hc).2
  | ptr hv hb hh => cases ho with | ptr ho => exact .ptr hv ho fun c hc => hh c (cut_some hc).2
  | vptr X hx _ ih => cases ho with | vptr ho => exact .vptr X (fun i a h1 => ⟨ok_cut (hx i a h1).1, (hx i a h1).2⟩) fun i a h1 => ih i a h1 (ho a (List.mem_of_getElem? h1))
  | clo hf hc _ _ ih1 ih2 => cases ho with | clo p1 p2 => exact .clo hf hc (fun i x a k1 k2 => ih1 i x a k1 k2 (p1 a (List.mem_of_getElem? k2))) fun i x a k1 k2 => ih2 i x a k1 k2 (p2 a (List.mem_of_getElem? k2))
  | yld hv hb hh => cases ho with | yld ho => exact .yld hv ho fun l hl => hh l (cut_some hl).2
  | ifc _ ih => cases ho with | ifc ho => exact .ifc (ih ho)
theorem cut_to {g2 q2 : Nat → Nat} {w' : World} (hV : Rel (h.mem res g q) w) (ht : To (h.mem res g q) w (h'.mem res g2 q2) w') (hb : ∀ p ∈ (h'.cut h).blk, OfB h.has p.2) : To (h.mem res g q) w ((h'.cut h).mem res g2 q2) w' := by
  have hR := ht.rel
  have hof : ∀ r o, (h'.cut h).get r = some o → OfB h.has o := fun r o e => hb _ (find_mem e)
  refine ⟨⟨hR.bound, fun r o ho => hR.free r o (cut_some ho).2, fun r o ho => ⟨(cut_some ho).1, (hR.live r o (cut_some ho).2).2⟩, fun r s o p h1 h2 => hR.apart r s o p (cut_some h1).2 (cut_some h2).2, fun r c hc => ?_, fun r l hl => ?_, fun r hr => hR.mark r (cut_some hr).2, fun gg cs e i x hx => ⟨ok_cut (hR.glob gg cs e i x hx).1, (hR.glob gg cs e i x hx).2⟩⟩,
    ⟨fun b i x h1 h2 => ?_, fun r hr => hr, fun r c hr hc => ht.fwd.cells r c hr (cut_some hc).2, fun r l hr hl => ht.fwd.loop r l hr (cut_some hl).2, fun r hr => ?_⟩, ht.keep, fun r o ho => ht.old r o (cut_some ho).2⟩
  · obtain ⟨X, k1, k2, k3, k4, k5, k6⟩ := hR.cells r c (cut_some hc).2
    exact ⟨X, k1, k2, k3, k4, k5, fun i x b e1 e2 => den_cut (k6 i x b e1 e2) (hof r _ hc b (List.mem_of_getElem? e2))⟩
  · obtain ⟨k1, fn, T, k2, k3, k4⟩ := hR.loop r l (cut_some hl).2
    obtain ⟨j1, j2⟩ := hof r _ hl
    exact ⟨(cut_has j1).trans k1, fn, T, k2, k3, fun i b e2 => by obtain ⟨x, e1, e3⟩ := k4 i b e2; exact ⟨x, e1, den_cut e3 (j2 i b e2)⟩⟩
  · obtain ⟨k1, k2⟩ := ht.fwd.ok b i x h1 h2
    exact ⟨ok_cut k1, k2⟩
  · obtain ⟨k1, k2⟩ := ht.fwd.mark r hr
    exact ⟨(cut_has (hV.live r _ hr).1).trans k1, k2⟩
theorem sound_scope {c : Code} {e : Ex} (ih : SoundC P c f h e f' h') (hn : f2.t.n = f'.t.n) (hw : ∀ i y, f2.t.get i = some y → f'.t.get i = some y ∧ Of h.has y) (hm : f2.marks = f'.marks) (hm2 : ∀ m ∈ f'.marks, h.has m)
    (hr : f2.rnd = f'.rnd) (he : ∀ v, e = .pan v → Of h.has v) (hb : ∀ p ∈ (h'.cut h).blk, OfB h.has p.2) : SoundC P c f h e f2 (h'.cut h) := by
  refine ⟨hr.trans ih.1, fun F n res g q a w hF hR hV hf => wpIn_mono (ih.2 F n res g q a w hF hR hV hf) fun e1 a1 w1 hp => ?_⟩
  obtain ⟨g2, q2, ht, hed, hfd⟩ := hp
  have t2 := cut_to hV ht hb
  refine ⟨g2, q2, t2, ?_, ⟨⟨by rw [hfd.tmps.1, hn], fun i b h2 => ?_⟩, by rw [hm]; exact hfd.defers, fun m k => ?_, by rw [hm]; exact hfd.nodup, t2.rel.glob⟩⟩
  · cases e with
    | pan v =>
      cases e1 <;> try exact hed.elim
      obtain ⟨u, e2, hd⟩ := hed
      exact ⟨u, e2, den_cut hd (he v rfl)⟩
    | normal => cases e1 <;> exact hed
    | ret => cases e1 <;> exact hed
    | exit id => cases e1 <;> exact hed
  · obtain ⟨j1, j2⟩ := hw i b h2
    obtain ⟨x, e1, e3⟩ := hfd.tmps.2 i b j1
    exact ⟨x, e1, den_cut e3 j2⟩
  · have k' : m ∈ f'.marks := by rw [← hm]; exact k
    exact (cut_has (hm2 m k')).trans (hfd.marks m k')
end
end Go.Proofs.YtaoglkkdhdfioaaDoor
