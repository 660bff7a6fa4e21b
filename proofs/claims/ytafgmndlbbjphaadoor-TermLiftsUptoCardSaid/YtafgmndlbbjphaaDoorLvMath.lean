/- Leq of normal forms is what holds of all values; where it says no, all numbers 0, or one variable great, tell the levels apart. -/
import Derived.Test.YtafgmndlbbjphaaDoorLvAwake
namespace Go.Proofs.YtafgmndlbbjphaaDoor
open Go.RowKit Go.Maps

def vec (k : Nat) : List Int := (List.replicate 200 0).set k 524288
theorem vec_length (k : Nat) : (vec k).length = 200 := by unfold vec; rw [List.length_set, List.length_replicate]
theorem vec_get (k j : Nat) (hk : k < 200) (hj : j < 200) : (vec k).getD j 0 = if k = j then 524288 else 0 := by
  unfold vec
  rw [List.getD_eq_getElem?_getD, List.getElem?_set]
  split
  · rw [List.length_replicate, if_pos hk]; rfl
  · rw [List.getElem?_replicate, if_pos hj]; rfl
theorem numS_vec (k : Nat) (hk : k < 200) (v : Int) : numS (vec k) v = if v = (k : Int) + 1 then 524288 else 0 := by
  unfold numS
  rw [vec_length]
  by_cases h : v < 1 ∨ ((200 : Nat) : Int) < v
  · rw [if_pos h, if_neg (by omega)]
  · rw [if_neg h, vec_get k _ hk (by omega)]
    by_cases e : k = (v - 1).toNat
    · rw [if_pos e, if_pos (by omega), if_pos (by omega)]
    · rw [if_neg e, if_neg (show ¬ v = (k : Int) + 1 from by omega)]
      split <;> rfl
theorem numS_nil (v : Int) : numS [] v = 0 := by
  unfold numS
  by_cases h : v < 1
  · rw [if_pos (Or.inl h)]
  · rw [if_pos (Or.inr (by simp; omega))]
theorem numS_zero (ns : List Int) : numS ns 0 = 0 := by unfold numS; rw [if_pos (Or.inl (by omega))]

theorem leq_val {pa pb : List (Int × Int)} (ha : ∀ p ∈ pa, 0 ≤ p.1) (hb : ∀ p ∈ pb, 0 ≤ p.1) (h : LeqS pa pb) (ns : List Int) : valS pa ns ≤ valS pb ns := by
  obtain ⟨_, _, x2⟩ := valS_spec (ns := ns) ha
  obtain ⟨y0, y1, _⟩ := valS_spec (ns := ns) hb
  rcases x2 with x2 | ⟨k, v, hk, x2⟩
  · omega
  · obtain ⟨⟨k', v'⟩, hq, hc⟩ := h (k, v) hk
    have h1 := y1 k' v' hq
    obtain ⟨c1, c2⟩ := hc
    simp only at c1 c2
    have := numS_bd ns k'
    rcases c2 with c2 | c2
    · rw [c2, numS_zero] at x2
      omega
    · rw [c2] at h1
      omega

theorem not_leq {pa pb : List (Int × Int)} (ha : ∀ p ∈ pa, okSmall p) (hb : ∀ p ∈ pb, okSmall p) (h : ¬ LeqS pa pb) (h0 : ¬ valS pb [] < valS pa []) : ∃ k : Nat, k < 200 ∧ valS pb (vec k) < valS pa (vec k) := by
  have ha0 : ∀ p ∈ pa, 0 ≤ p.1 := fun p hp => (ha p hp).1
  have hb0 : ∀ p ∈ pb, 0 ≤ p.1 := fun p hp => (hb p hp).1
  unfold LeqS at h
  obtain ⟨p, hp⟩ := Classical.not_forall.1 h
  obtain ⟨k, u⟩ := p
  obtain ⟨hk, hn⟩ := Classical.not_imp.1 hp
  have hn' : ∀ q : Int × Int, Kept (mapOf pb) q.1 q.2 → ¬ Cov (k, u) q := fun q hq hc => hn ⟨q, hq, hc⟩
  simp only at hk
  have hm := ha _ (mapOf_mem pa k u hk.1)
  obtain ⟨m1, m2, m3, m4⟩ := hm
  simp only at m1 m2 m3 m4
  by_cases e : k = 0
  · subst e
    exfalso
    apply h0
    obtain ⟨x0, x1, _⟩ := valS_spec (ns := []) ha0
    obtain ⟨_, _, y2⟩ := valS_spec (ns := []) hb0
    have h1 := x1 0 u hk
    rw [numS_nil] at h1
    have hu := (hk.2 rfl).1
    rcases y2 with y2 | ⟨j, v, hj, y2⟩
    · omega
    · rw [numS_nil] at y2
      have := hn' (j, v) hj
      unfold Cov at this
      simp only at this
      have : ¬ u ≤ v := fun h => this ⟨h, Or.inl trivial⟩
      omega
  · obtain ⟨i, rfl⟩ : ∃ i : Nat, k = (i : Int) + 1 := ⟨(k - 1).toNat, by omega⟩
    have hi : i < 200 := by omega
    refine ⟨i, hi, ?_⟩
    obtain ⟨x0, x1, _⟩ := valS_spec (ns := vec i) ha0
    obtain ⟨_, _, y2⟩ := valS_spec (ns := vec i) hb0
    have h1 := x1 _ u hk
    rw [numS_vec _ hi, if_pos rfl] at h1
    rcases y2 with y2 | ⟨j, v, hj, y2⟩
    · omega
    · rw [numS_vec _ hi] at y2
      have hv := hb _ (mapOf_mem pb j v hj.1)
      obtain ⟨v1, v2, v3, v4⟩ := hv
      simp only at v1 v2 v3 v4
      have hc := hn' (j, v) hj
      unfold Cov at hc
      simp only at hc
      split at y2
      · have : ¬ u ≤ v := fun h => hc ⟨h, Or.inr (by omega)⟩
        omega
      · omega

theorem okSmall.ok {p : Int × Int} (h : okSmall p) : okPart p := by
  obtain ⟨h1, h2, h3, h4⟩ := h
  unfold okPart
  omega

end Go.Proofs.YtafgmndlbbjphaaDoor
