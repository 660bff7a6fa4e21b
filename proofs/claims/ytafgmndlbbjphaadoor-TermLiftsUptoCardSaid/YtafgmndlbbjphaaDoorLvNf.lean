/- The normal form of parts as a plain function, and that it is what a level's map keeps; of parts whose variables are not below 0. -/
import Derived.Test.YtafgmndlbbjphaaDoorLvValue
namespace Go.Proofs.YtafgmndlbbjphaaDoor
open Go.RowKit Go.Maps

def insP : List (Int × Int) → Int × Int → List (Int × Int)
  | [], p => [p]
  | q :: l, p => if q.1 < p.1 then q :: insP l p else if q.1 = p.1 then (p.1, if q.2 < p.2 then p.2 else q.2) :: l else p :: q :: l
def stripL : List (Int × Int) → List (Int × Int)
  | [] => []
  | p :: l => if p.1 = 0 ∧ ¬ (0 < p.2 ∧ ∀ q ∈ l, q.2 < p.2) then l else p :: l
def baseL (ps : List (Int × Int)) : List (Int × Int) := ps.foldl insP []
def nf (ps : List (Int × Int)) : List (Int × Int) := stripL (baseL ps)

def Up (l : List (Int × Int)) : Prop := l.Pairwise (fun p q => p.1 < q.1)
def Says (l : List (Int × Int)) (m : Int → Option Int) : Prop := ∀ k v, (k, v) ∈ l ↔ m k = some v

theorem insP_mem_fst : ∀ (l : List (Int × Int)) (p q : Int × Int), q ∈ insP l p → q.1 = p.1 ∨ q ∈ l
  | [], p, q, h => by simp [insP] at h; exact Or.inl (by rw [h])
  | x :: l, p, q, h => by
    unfold insP at h
    split at h
    · rw [List.mem_cons] at h
      rcases h with rfl | h
      · exact Or.inr (by simp)
      · rcases insP_mem_fst l p q h with e | e
        · exact Or.inl e
        · exact Or.inr (by simp [e])
    · split at h
      · rw [List.mem_cons] at h
        rcases h with rfl | h
        · exact Or.inl rfl
        · exact Or.inr (by simp [h])
      · rw [List.mem_cons] at h
        rcases h with rfl | h
        · exact Or.inl rfl
        · exact Or.inr h
theorem insP_up : ∀ (l : List (Int × Int)) (p : Int × Int), Up l → Up (insP l p)
  | [], p, _ => by simp [insP, Up]
  | x :: l, p, h => by
    have hx := List.pairwise_cons.1 h
    unfold insP
    split
    · rename_i hlt
      refine List.pairwise_cons.2 ⟨fun q hq => ?_, insP_up l p hx.2⟩
      rcases insP_mem_fst l p q hq with e | e
      · omega
      · exact hx.1 q e
    · split
      · rename_i he
        exact List.pairwise_cons.2 ⟨fun q hq => by have := hx.1 q hq; simp only; omega, hx.2⟩
      · rename_i h1 h2
        refine List.pairwise_cons.2 ⟨fun q hq => ?_, h⟩
        rw [List.mem_cons] at hq
        rcases hq with rfl | hq
        · omega
        · have := hx.1 q hq; omega
theorem up_uniq : ∀ {l : List (Int × Int)}, Up l → ∀ {k u v}, (k, u) ∈ l → (k, v) ∈ l → u = v
  | [], _, k, u, v, h, _ => by simp at h
  | x :: l, h, k, u, v, hu, hv => by
    have hx := List.pairwise_cons.1 h
    rw [List.mem_cons] at hu hv
    rcases hu with rfl | hu
    · rcases hv with e | hv
      · simpa using e.symm
      · have := hx.1 _ hv; simp at this
    · rcases hv with rfl | hv
      · have := hx.1 _ hu; simp at this
      · exact up_uniq hx.2 hu hv

theorem insP_says : ∀ (l : List (Int × Int)) (p : Int × Int) (m : Int → Option Int), Up l → Says l m → Says (insP l p) (upd m p.1 p.2)
  | [], p, m, _, hs => by
    intro k v
    have hm : ∀ k, m k = none := fun k => by
      rcases h : m k with _ | u
      · rfl
      · have := (hs k u).2 h; simp at this
    simp only [insP, List.mem_singleton, upd]
    by_cases e : k = p.1
    · subst e; simp [hm, Prod.ext_iff]; exact eq_comm
    · simp only [e, if_false, hm]
      constructor
      · intro h; exact absurd (by rw [← h]) e
      · intro h; cases h
  | x :: l, p, m, hu, hs => by
    have hx := List.pairwise_cons.1 hu
    intro k v
    have hmx : m x.1 = some x.2 := (hs x.1 x.2).1 (by simp)
    unfold insP
    split
    · rename_i hlt
      -- the head stays; the rest by induction, of the map without the head
      have hs' : Says l (fun j => if j = x.1 then none else m j) := fun j u => by
        by_cases e : j = x.1
        · subst e
          simp only [if_true]
          constructor
          · intro h; have := hx.1 _ h; simp at this
          · intro h; cases h
        · simp only [e, if_false]
          rw [← hs j u, List.mem_cons]
          constructor
          · intro h; exact Or.inr h
          · rintro (h | h)
            · exact absurd (by rw [← h]) e
            · exact h
      have ih := insP_says l p _ hx.2 hs' k v
      rw [List.mem_cons, ih]
      unfold upd
      by_cases e : k = p.1
      · subst e
        have hne : ¬ p.1 = x.1 := by omega
        simp only [if_true, hne, if_false]
        constructor
        · rintro (h | h)
          · exact absurd (by rw [← h]) hne
          · exact h
        · intro h; exact Or.inr h
      · simp only [e, if_false]
        by_cases e2 : k = x.1
        · subst e2
          simp only [if_true, hmx]
          constructor
          · rintro (h | h)
            · rw [← h]
            · cases h
          · intro h; injection h with h; exact Or.inl (by rw [← h])
        · simp only [e2, if_false]
          constructor
          · rintro (h | h)
            · exact absurd (by rw [← h]) e2
            · exact h
          · intro h; exact Or.inr h
    · split
      · rename_i he
        unfold upd
        rw [List.mem_cons]
        by_cases e : k = p.1
        · subst e
          simp only [if_true, ← he, hmx]
          constructor
          · rintro (h | h)
            · simp [Prod.ext_iff] at h; rw [h]
            · have := hx.1 _ h; simp [he] at this
          · intro h; injection h with h; exact Or.inl (by rw [← h, he])
        · simp only [e, if_false]
          rw [← hs k v, List.mem_cons]
          constructor
          · rintro (h | h)
            · exact absurd (congrArg Prod.fst h) e
            · exact Or.inr h
          · rintro (h | h)
            · exact absurd ((congrArg Prod.fst h).trans he) e
            · exact Or.inr h
      · rename_i h1 h2
        unfold upd
        rw [List.mem_cons]
        by_cases e : k = p.1
        · subst e
          have hmn : m p.1 = none := by
            rcases h : m p.1 with _ | u
            · rfl
            · have := (hs p.1 u).2 h
              rw [List.mem_cons] at this
              rcases this with h | h
              · exact absurd (by rw [← h]) h2
              · have := hx.1 _ h; simp at this; omega
          simp only [if_true, hmn]
          constructor
          · rintro (h | h)
            · rw [← h]
            · have := (hs p.1 v).1 h; rw [hmn] at this; cases this
          · intro h; injection h with h; exact Or.inl (by rw [← h])
        · simp only [e, if_false]
          rw [← hs k v]
          constructor
          · rintro (h | h)
            · exact absurd (by rw [← h]) e
            · exact h
          · intro h; exact Or.inr h

theorem baseL_snoc (ps : List (Int × Int)) (p : Int × Int) : baseL (ps ++ [p]) = insP (baseL ps) p := by simp [baseL, List.foldl_append]
theorem baseL_spec (ps : List (Int × Int)) : Up (baseL ps) ∧ Says (baseL ps) (mapOf ps) := by
  refine snoc_ind (P := fun ps => Up (baseL ps) ∧ Says (baseL ps) (mapOf ps)) ?_ ?_ ps
  · exact ⟨List.Pairwise.nil, fun k v => by simp [baseL, mapOf]⟩
  · intro ps p ih
    rw [baseL_snoc, mapOf_snoc]
    exact ⟨insP_up _ _ ih.1, insP_says _ _ _ ih.1 ih.2⟩

/-- THE NORMAL FORM IS WHAT THE MAP KEEPS. -/
theorem nf_level {ps : List (Int × Int)} (h0 : ∀ p ∈ ps, 0 ≤ p.1) : IsLevel (mapOf ps) (nf ps) := by
  obtain ⟨hu, hs⟩ := baseL_spec ps
  have hnn : ∀ p ∈ baseL ps, 0 ≤ p.1 := fun p hp => h0 _ (mapOf_mem ps p.1 p.2 ((hs p.1 p.2).1 hp))
  unfold nf
  rcases hb : baseL ps with _ | ⟨x, l⟩
  · rw [hb] at hs
    refine ⟨List.Pairwise.nil, fun p => ?_⟩
    simp only [stripL, List.not_mem_nil, false_iff]
    intro hk
    have := (hs p.1 p.2).2 hk.1
    simp at this
  · rw [hb] at hu hs hnn
    have hx := List.pairwise_cons.1 hu
    have hl0 : ∀ q ∈ l, q.1 ≠ 0 := fun q hq => by have := hx.1 q hq; have := hnn x (by simp); omega
    rw [show stripL (x :: l) = if x.1 = 0 ∧ ¬ (0 < x.2 ∧ ∀ q ∈ l, q.2 < x.2) then l else x :: l from rfl]
    split
    · rename_i hc
      refine ⟨hx.2, fun p => ?_⟩
      unfold Kept
      rw [← hs p.1 p.2]
      constructor
      · intro hp; exact ⟨by simp [hp], fun e => absurd e (hl0 p hp)⟩
      · rintro ⟨hp, hk⟩
        rw [List.mem_cons] at hp
        rcases hp with hp | hp
        · exfalso
          have hp' : p = x := hp
          subst hp'
          have := hk hc.1
          exact hc.2 ⟨this.1, fun q hq => this.2 q.1 q.2 (hl0 q hq) ((hs q.1 q.2).1 (by simp [hq]))⟩
        · exact hp
    · rename_i hc
      refine ⟨hu, fun p => ?_⟩
      unfold Kept
      rw [← hs p.1 p.2]
      refine ⟨fun hp => ⟨hp, fun e => ?_⟩, fun hp => hp.1⟩
      have hp' : p = x := by
        rw [List.mem_cons] at hp
        rcases hp with hp | hp
        · exact hp
        · exact absurd e (hl0 p hp)
      subst hp'
      have hc' : 0 < p.2 ∧ ∀ q ∈ l, q.2 < p.2 := Classical.byContradiction fun hn => hc ⟨e, hn⟩
      refine ⟨hc'.1, fun j u hj hju => ?_⟩
      have := (hs j u).2 hju
      rw [List.mem_cons] at this
      rcases this with h | h
      · exact absurd (by rw [← e, ← h]) hj
      · exact hc'.2 _ h

theorem up_ext : ∀ {l l' : List (Int × Int)}, Up l → Up l' → (∀ p, p ∈ l ↔ p ∈ l') → l = l'
  | [], [], _, _, _ => rfl
  | [], y :: l', _, _, h => by have := (h y).2 (by simp); simp at this
  | x :: l, [], _, _, h => by have := (h x).1 (by simp); simp at this
  | x :: l, y :: l', hu, hv, h => by
    have hx := List.pairwise_cons.1 hu
    have hy := List.pairwise_cons.1 hv
    have hxy : x = y := by
      have h1 := (h x).1 (by simp)
      have h2 := (h y).2 (by simp)
      rw [List.mem_cons] at h1 h2
      rcases h1 with h1 | h1
      · exact h1
      · rcases h2 with h2 | h2
        · exact h2.symm
        · have := hx.1 _ h2; have := hy.1 _ h1; omega
    subst hxy
    rw [up_ext hx.2 hy.2 (fun p => ?_)]
    have hp := h p
    rw [List.mem_cons, List.mem_cons] at hp
    constructor
    · intro hq
      rcases hp.1 (Or.inr hq) with e | e
      · subst e; have := hx.1 _ hq; omega
      · exact e
    · intro hq
      rcases hp.2 (Or.inr hq) with e | e
      · subst e; have := hy.1 _ hq; omega
      · exact e
theorem level_nf {ps qs : List (Int × Int)} (h0 : ∀ p ∈ ps, 0 ≤ p.1) (h : IsLevel (mapOf ps) qs) : qs = nf ps :=
  up_ext h.1 (nf_level h0).1 fun p => by rw [h.2, (nf_level h0).2]

end Go.Proofs.YtafgmndlbbjphaaDoor
