/- Levels by their values under whatever numbers: Leq is what holds of all of them; what Succ, Max, Put do to them; normal forms are one. -/
import Derived.Test.YtafgmndlbbjphaaDoorLvPut
import Derived.Test.YtafgmndlbbjphaaDoorLvMath
namespace Go.Proofs.YtafgmndlbbjphaaDoor
open Go.RowKit Go.Maps

def valF (ps : List (Int × Int)) (f : Int → Int) : Int := ps.foldl (fun x p => max x (f p.1 + p.2)) 0
def Fn (f : Int → Int) : Prop := f 0 = 0 ∧ ∀ k, 0 ≤ f k
def Nn (ps : List (Int × Int)) : Prop := ∀ p ∈ ps, 0 ≤ p.1 ∧ 0 ≤ p.2
theorem foldF (f : Int → Int) : ∀ (l : List (Int × Int)) (x : Int), (∀ p ∈ l, f p.1 + p.2 ≤ l.foldl (fun x p => max x (f p.1 + p.2)) x) ∧ x ≤ l.foldl (fun x p => max x (f p.1 + p.2)) x ∧
    (l.foldl (fun x p => max x (f p.1 + p.2)) x = x ∨ ∃ p ∈ l, l.foldl (fun x p => max x (f p.1 + p.2)) x = f p.1 + p.2)
  | [], x => by simp
  | q :: l, x => by
    obtain ⟨h1, h2, h3⟩ := foldF f l (max x (f q.1 + q.2))
    simp only [List.foldl_cons]
    refine ⟨fun p hp => ?_, by omega, ?_⟩
    · rw [List.mem_cons] at hp
      rcases hp with rfl | hp
      · omega
      · exact h1 p hp
    · rcases h3 with h3 | ⟨p, hp, h3⟩
      · by_cases e : x ≤ f q.1 + q.2
        · exact Or.inr ⟨q, by simp, by omega⟩
        · exact Or.inl (by omega)
      · exact Or.inr ⟨p, by simp [hp], h3⟩
theorem le_valF {ps : List (Int × Int)} {f : Int → Int} {p : Int × Int} (h : p ∈ ps) : f p.1 + p.2 ≤ valF ps f := (foldF f ps 0).1 p h
theorem valF_nn (ps : List (Int × Int)) (f : Int → Int) : 0 ≤ valF ps f := (foldF f ps 0).2.1
theorem valF_at (ps : List (Int × Int)) (f : Int → Int) : valF ps f = 0 ∨ ∃ p ∈ ps, valF ps f = f p.1 + p.2 := (foldF f ps 0).2.2
theorem valF_le {ps : List (Int × Int)} {f : Int → Int} {B : Int} (h0 : 0 ≤ B) (h : ∀ p ∈ ps, f p.1 + p.2 ≤ B) : valF ps f ≤ B := by
  rcases valF_at ps f with e | ⟨p, hp, e⟩
  · omega
  · rw [e]; exact h p hp
theorem valF_nil (f : Int → Int) : valF [] f = 0 := rfl
theorem valF_one (f : Int → Int) (p : Int × Int) : valF [p] f = max 0 (f p.1 + p.2) := rfl

theorem Nn.fst {ps : List (Int × Int)} (h : Nn ps) : ∀ p ∈ ps, 0 ≤ p.1 := fun p hp => (h p hp).1
theorem Nn.nf {ps : List (Int × Int)} (h : Nn ps) : Nn (nf ps) := fun p hp => h p (nf_mem h.fst hp)
theorem nf_kept {ps : List (Int × Int)} (h : Nn ps) (p : Int × Int) : p ∈ nf ps ↔ Kept (mapOf ps) p.1 p.2 := (nf_level h.fst).2 p

theorem valF_nf {ps : List (Int × Int)} (h : Nn ps) {f : Int → Int} (hf : Fn f) : valF (nf ps) f = valF ps f := by
  apply Int.le_antisymm
  · exact valF_le (valF_nn _ _) (fun p hp => le_valF (nf_mem h.fst hp))
  · refine valF_le (valF_nn _ _) (fun p hp => ?_)
    obtain ⟨u, hu, hle⟩ := mapOf_some ps p.1 p.2 hp
    by_cases hk : Kept (mapOf ps) p.1 u
    · have := le_valF (f := f) ((nf_kept h (p.1, u)).2 hk)
      simp only at this
      omega
    · have hz : p.1 = 0 := Classical.byContradiction fun hne => hk ⟨hu, fun e => absurd e hne⟩
      have hv := valF_nn (nf ps) f
      rw [hz, hf.1]
      by_cases h0 : 0 < u
      · have : ¬ ∀ j w, j ≠ 0 → mapOf ps j = some w → w < u := fun hh => hk ⟨hu, fun _ => ⟨h0, hh⟩⟩
        obtain ⟨j, hj⟩ := Classical.not_forall.1 this
        obtain ⟨w, hw⟩ := Classical.not_forall.1 hj
        obtain ⟨hne, hw⟩ := Classical.not_imp.1 hw
        obtain ⟨hm, hw⟩ := Classical.not_imp.1 hw
        have := le_valF (f := f) ((nf_kept h (j, w)).2 ⟨hm, fun e => absurd e hne⟩)
        have hfj := hf.2 j
        simp only at this
        omega
      · omega

theorem leq_vals {a b : List (Int × Int)} (ha : Nn a) (hb : Nn b) : LeqS a b ↔ ∀ f, Fn f → valF a f ≤ valF b f := by
  constructor
  · intro h f hf
    rw [← valF_nf ha hf, ← valF_nf hb hf]
    refine valF_le (valF_nn _ _) (fun p hp => ?_)
    obtain ⟨q, hq, hc⟩ := h p ((nf_kept ha p).1 hp)
    have h1 := le_valF (f := f) ((nf_kept hb q).2 hq)
    obtain ⟨c1, c2⟩ := hc
    have := hf.2 q.1
    rcases c2 with c2 | c2
    · rw [c2, hf.1]; omega
    · rw [c2] at h1; omega
  · intro h p hp
    apply Classical.byContradiction
    intro hn
    have hn' : ∀ q : Int × Int, Kept (mapOf b) q.1 q.2 → ¬ Cov p q := fun q hq hc => hn ⟨q, hq, hc⟩
    have hpa := ha _ (mapOf_mem a p.1 p.2 hp.1)
    simp only at hpa
    have hF0 : Fn (fun _ => 0) := ⟨rfl, fun _ => Int.le_refl _⟩
    by_cases e : p.1 = 0
    · have h1 := h _ hF0
      rw [← valF_nf ha hF0, ← valF_nf hb hF0] at h1
      have h2 := le_valF (f := fun _ => 0) ((nf_kept ha p).2 hp)
      have hu := (hp.2 e).1
      rcases valF_at (nf b) (fun _ => 0) with hb0 | ⟨q, hq, hb0⟩
      · omega
      · have hq' := hn' q ((nf_kept hb q).1 hq)
        have : ¬ p.2 ≤ q.2 := fun hh => hq' ⟨hh, Or.inl e⟩
        omega
    · have hF : Fn (fun k => if k = p.1 then valF b (fun _ => 0) + 1 else 0) := by
        refine ⟨if_neg (fun e' => e e'.symm), fun k => ?_⟩
        have := valF_nn b (fun _ => 0)
        show 0 ≤ if k = p.1 then valF b (fun _ => 0) + 1 else 0
        split <;> omega
      have h1 := h _ hF
      rw [← valF_nf ha hF, ← valF_nf hb hF] at h1
      have h2 := le_valF (f := fun k => if k = p.1 then valF b (fun _ => 0) + 1 else 0) ((nf_kept ha p).2 hp)
      simp only [if_true] at h2
      have h3 := valF_nn b (fun _ => 0)
      rcases valF_at (nf b) (fun k => if k = p.1 then valF b (fun _ => 0) + 1 else 0) with hb0 | ⟨q, hq, hb0⟩
      · omega
      · have hq' := hn' q ((nf_kept hb q).1 hq)
        have h4 := le_valF (f := fun _ => 0) (nf_mem hb.fst hq)
        by_cases eq : q.1 = p.1
        · rw [if_pos eq] at hb0
          have : ¬ p.2 ≤ q.2 := fun hh => hq' ⟨hh, Or.inr eq⟩
          omega
        · rw [if_neg eq] at hb0
          omega

theorem leq_nf {a b : List (Int × Int)} (ha : Nn a) (hb : Nn b) (h : nf a = nf b) : LeqS a b := (leq_vals ha hb).2 fun f hf => by
  rw [← valF_nf ha hf, ← valF_nf hb hf, h]
  exact Int.le_refl _
theorem nf_one {a b : List (Int × Int)} (ha : Nn a) (hb : Nn b) (hab : LeqS a b) (hba : LeqS b a) : nf a = nf b := by
  have half : ∀ {a b : List (Int × Int)}, Nn a → Nn b → LeqS a b → LeqS b a → ∀ p, p ∈ nf a → p ∈ nf b := by
    intro a b ha hb hab hba p hp
    have kp := (nf_kept ha p).1 hp
    obtain ⟨q, kq, c1, c2⟩ := hab p kp
    obtain ⟨r, kr, d1, d2⟩ := hba q kq
    have hrp : r.1 = p.1 → r.2 = p.2 := fun e => by
      have h1 := kr.1
      rw [e, kp.1] at h1
      injection h1 with h1
      exact h1.symm
    have hq : q = p := by
      by_cases e : p.1 = 0
      · have hlt := (kp.2 e).2
        have hr0 : r.1 = 0 := Classical.byContradiction fun hne => by
          have := hlt r.1 r.2 hne kr.1
          omega
        have h2 := hrp (by omega)
        have hq0 : q.1 = 0 := by
          rcases d2 with d2 | d2
          · exact d2
          · omega
        exact Prod.ext (by omega) (by omega)
      · rcases c2 with c2 | c2
        · exact absurd c2 e
        · rcases d2 with d2 | d2
          · omega
          · have h2 := hrp (by omega)
            exact Prod.ext c2 (by omega)
    rw [← hq]
    exact (nf_kept hb q).2 kq
  exact up_ext (nf_level ha.fst).1 (nf_level hb.fst).1 (fun p => ⟨half ha hb hab hba p, half hb ha hba hab p⟩)
theorem nf_nf {a : List (Int × Int)} (ha : Nn a) : nf (nf a) = nf a :=
  nf_one ha.nf ha ((leq_vals ha.nf ha).2 fun f hf => by rw [valF_nf ha hf]; exact Int.le_refl _) ((leq_vals ha ha.nf).2 fun f hf => by rw [valF_nf ha hf]; exact Int.le_refl _)
theorem same_nf {a b : List (Int × Int)} (ha : Nn a) (hb : Nn b) : SameS a b ↔ nf a = nf b := by
  constructor
  · rintro (rfl | ⟨h1, h2⟩)
    · rfl
    · exact nf_one ha hb h1 h2
  · intro h
    exact Or.inr ⟨leq_nf ha hb h, leq_nf hb ha h.symm⟩
theorem same_both {a b : List (Int × Int)} (ha : Nn a) (hb : Nn b) : SameS a b ↔ LeqS a b ∧ LeqS b a := by
  rw [same_nf ha hb]
  exact ⟨fun h => ⟨leq_nf ha hb h, leq_nf hb ha h.symm⟩, fun h => nf_one ha hb h.1 h.2⟩

theorem valF_app (a b : List (Int × Int)) (f : Int → Int) : valF (a ++ b) f = max (valF a f) (valF b f) := by
  have ha := valF_nn a f
  have hb := valF_nn b f
  apply Int.le_antisymm
  · refine valF_le (by omega) (fun p hp => ?_)
    rw [List.mem_append] at hp
    rcases hp with hp | hp
    · have := le_valF (f := f) hp; omega
    · have := le_valF (f := f) hp; omega
  · have h1 : valF a f ≤ valF (a ++ b) f := valF_le (valF_nn _ _) (fun p hp => le_valF (by simp [hp]))
    have h2 : valF b f ≤ valF (a ++ b) f := valF_le (valF_nn _ _) (fun p hp => le_valF (by simp [hp]))
    omega
theorem valF_up {us : List (Int × Int)} (hu : Nn us) (hne : us ≠ []) (d : Int) (hd : 0 ≤ d) {f : Int → Int} (hf : Fn f) : valF (us.map (upD d)) f = valF us f + d := by
  have h0 := valF_nn us f
  apply Int.le_antisymm
  · refine valF_le (by omega) (fun p hp => ?_)
    obtain ⟨q, hq, rfl⟩ := List.mem_map.1 hp
    have := le_valF (f := f) hq
    unfold upD
    simp only
    omega
  · have hm : ∀ q ∈ us, f q.1 + (q.2 + d) ≤ valF (us.map (upD d)) f := fun q hq => le_valF (f := f) (List.mem_map.2 ⟨q, hq, rfl⟩)
    rcases valF_at us f with e | ⟨q, hq, e⟩
    · obtain ⟨q, hq⟩ := List.exists_mem_of_ne_nil us hne
      have h1 := hm q hq
      have h2 := hf.2 q.1
      have h3 := (hu q hq).2
      omega
    · have h1 := hm q hq
      omega
theorem nn_up {us : List (Int × Int)} (hu : Nn us) (d : Int) (hd : 0 ≤ d) : Nn (us.map (upD d)) := fun p hp => by
  obtain ⟨q, hq, rfl⟩ := List.mem_map.1 hp
  have := hu q hq
  unfold upD
  simp only
  omega
theorem nn_one (d : Int) (hd : 0 ≤ d) : Nn [(0, d)] := fun p hp => by simp at hp; subst hp; simp; omega
theorem up1_upD : up1 = upD 1 := rfl
theorem nn_succ {ps : List (Int × Int)} (h : Nn ps) : Nn (succS ps) := by
  unfold succS
  split
  · exact (nn_one 1 (by omega)).nf
  · rw [up1_upD]; exact (nn_up h.nf 1 (by omega)).nf
theorem valF_succ {ps : List (Int × Int)} (h : Nn ps) {f : Int → Int} (hf : Fn f) : valF (succS ps) f = valF ps f + 1 := by
  unfold succS
  split
  · rename_i e
    rw [valF_nf (nn_one 1 (by omega)) hf, ← valF_nf h hf, e, valF_one, valF_nil, hf.1]
    rfl
  · rename_i e
    rw [up1_upD, valF_nf (nn_up h.nf 1 (by omega)) hf, valF_up h.nf e 1 (by omega) hf, valF_nf h hf]

theorem nn_ok {ps : List (Int × Int)} (h : ∀ p ∈ ps, okPart p) : Nn ps := fun p hp => ⟨(h p hp).1, (h p hp).2.1⟩
theorem nn_forVar (bys : List (List (Int × Int))) (k : Int) : Nn (forVar bys k) := by
  unfold forVar
  split
  · exact nn_ok (nfA_ok _)
  · intro p hp; simp at hp
def sub (bys : List (List (Int × Int))) (f : Int → Int) (k : Int) : Int := valF (forVar bys k) f
theorem fn_sub (bys : List (List (Int × Int))) (f : Int → Int) : Fn (sub bys f) := by
  refine ⟨?_, fun k => valF_nn _ _⟩
  unfold sub forVar
  rw [if_neg (by omega)]
  rfl
theorem valF_raise (bys : List (List (Int × Int))) (p : Int × Int) (hp : 0 ≤ p.2) {f : Int → Int} (hf : Fn f) : valF (raiseS bys p) f = sub bys f p.1 + p.2 := by
  unfold raiseS sub
  split
  · rename_i e
    rw [e, valF_one, valF_nil, hf.1]
    omega
  · rename_i e
    exact valF_up (nn_forVar bys p.1) e p.2 hp hf
theorem nn_raise (bys : List (List (Int × Int))) (p : Int × Int) (hp : 0 ≤ p.2) : Nn (raiseS bys p) := by
  unfold raiseS
  split
  · exact nn_one _ hp
  · exact nn_up (nn_forVar bys p.1) _ hp
theorem nn_put {qs : List (Int × Int)} (h : Nn qs) (bys : List (List (Int × Int))) : Nn (putS qs bys) := fun p hp => by
  unfold putS at hp
  obtain ⟨l, hl, hp⟩ := List.mem_flatten.1 hp
  obtain ⟨q, hq, rfl⟩ := List.mem_map.1 hl
  exact nn_raise bys q (h q hq).2 p hp
theorem valF_put {qs : List (Int × Int)} (h : Nn qs) (bys : List (List (Int × Int))) {f : Int → Int} (hf : Fn f) : valF (putS qs bys) f = valF qs (sub bys f) := by
  apply Int.le_antisymm
  · refine valF_le (valF_nn _ _) (fun p hp => ?_)
    unfold putS at hp
    obtain ⟨l, hl, hp⟩ := List.mem_flatten.1 hp
    obtain ⟨q, hq, rfl⟩ := List.mem_map.1 hl
    have h1 := le_valF (f := f) hp
    rw [valF_raise bys q (h q hq).2 hf] at h1
    have h2 := le_valF (f := sub bys f) hq
    omega
  · refine valF_le (valF_nn _ _) (fun q hq => ?_)
    rw [← valF_raise bys q (h q hq).2 hf]
    refine valF_le (valF_nn _ _) (fun p hp => le_valF ?_)
    unfold putS
    exact List.mem_flatten.2 ⟨_, List.mem_map.2 ⟨q, hq, rfl⟩, hp⟩

theorem fn_num (ns : List Int) : Fn (numS ns) := ⟨numS_zero ns, fun k => (numS_bd ns k).1⟩
theorem valS_F {ps : List (Int × Int)} (h : Nn ps) (ns : List Int) : valS ps ns = valF ps (numS ns) := by
  rw [← valF_nf h (fn_num ns)]
  rfl

end Go.Proofs.YtafgmndlbbjphaaDoor
