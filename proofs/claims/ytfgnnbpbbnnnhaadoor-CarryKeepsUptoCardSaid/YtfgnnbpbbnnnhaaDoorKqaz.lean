/- Laws. -/
import Derived.Test.YtfgnnbpbbnnnhaaDoorKqap
import Derived.Test.YtfgnnbpbbnnnhaaDoorKqav
import Derived.Test.YtfgnnbpbbnnnhaaDoorKqaw
import Derived.Test.YtfgnnbpbbnnnhaaDoorKqay
namespace Go.Proofs.YtfgnnbpbbnnnhaaDoor
open Go.RowKit Go.Maps
abbrev Nm := Int → Int → Int → Option Int
/-- names alone have constants -/
def NmOk (f : Nm) : Prop := ∀ k n a x, f k n a = some x → (k = 3 ∨ k = 8 ∨ k = 9 ∨ k = 10) ∧ Rng x
theorem NmOk.none {f : Nm} (h : NmOk f) {k : Int} (hk : ¬ (k = 3 ∨ k = 8 ∨ k = 9 ∨ k = 10)) (n a : Int) : f k n a = Option.none := by
  cases e : f k n a with
  | none => rfl
  | some x => exact absurd (h k n a x e).1 hk
theorem under_name {k : Int} (h : k = 3 ∨ k = 8 ∨ k = 9 ∨ k = 10) (i : Nat) : under 3 i = under k i := by
  unfold under binds
  rcases h with rfl | rfl | rfl | rfl
  · rfl
  · simp [bindTab]
  · simp [bindTab]
  · simp [bindTab]
theorem under_cy {f : Nm} (hf : NmOk f) (k n a : Int) (i : Nat) : under (if (f k n a).isSome then 3 else k) i = under k i := by
  cases e : f k n a with
  | none => simp
  | some x => simpa using under_name (hf k n a x e).1 i
theorem kind_one {f : Nm} (hf : NmOk f) (k n a z : Int) (hz : z = 1 ∨ z = 11) : (if (f k n a).isSome then 3 else k) = z ↔ k = z := by
  cases e : f k n a with
  | none => simp
  | some x =>
    have := (hf k n a x e).1
    simp
    omega
theorem sizeL_map (g : Tm → Tm) : ∀ ts : List Tm, (∀ t ∈ ts, (g t).size = t.size) → Tm.sizeL (ts.map g) = Tm.sizeL ts
  | [], _ => rfl
  | t :: ts, h => by
    simp only [List.map_cons, Tm.sizeL]
    rw [h t (by simp), sizeL_map g ts fun u hu => h u (by simp [hu])]
theorem size_cy (f : Nm) (t : Tm) : (t.cy f).size = t.size := by
  induction t using Tm.ind with
  | h k n a lv kids ih => rw [Tm.cy_mk, Tm.size_mk, Tm.size_mk, sizeL_map _ kids ih]
theorem fit_cy {f : Nm} (hf : NmOk f) (t : Tm) (ht : t.fit) : (t.cy f).fit := by
  induction t using Tm.ind with
  | h k n a lv kids ih =>
    rw [Tm.fit_mk] at ht
    rw [Tm.cy_mk, Tm.fit_mk]
    refine ⟨?_, ht.2.1, by rw [List.length_map]; exact ht.2.2.1, (Tm.fitL_iff _).2 fun u hu => ?_⟩
    · cases e : f k n a with
      | none => simpa using ht.1
      | some x => simpa using (hf k n a x e).2
    · obtain ⟨s, hs, rfl⟩ := List.mem_map.1 hu
      exact ih s hs ((Tm.fitL_iff _).1 ht.2.2.2 s hs)
theorem lookL_map {p : Int → Bool} {d : Nat} {k k' : Int} (g : Tm → Tm) (hk : ∀ i, under k' i = under k i) : ∀ (ts : List Tm) (i : Nat), (∀ t ∈ ts, ∀ d, (g t).look p d = t.look p d) → Tm.lookL p d k' i (ts.map g) = Tm.lookL p d k i ts
  | [], i, _ => rfl
  | t :: ts, i, h => by
    simp only [List.map_cons, Tm.lookL]
    rw [h t (by simp), hk, lookL_map g hk ts (i + 1) fun u hu => h u (by simp [hu])]
theorem look_cy {f : Nm} (hf : NmOk f) (p : Int → Bool) (t : Tm) : ∀ d, (t.cy f).look p d = t.look p d := by
  induction t using Tm.ind with
  | h k n a lv kids ih =>
    intro d
    rw [Tm.cy_mk, Tm.look_mk, Tm.look_mk, lookL_map (Tm.cy f) (under_cy hf k n a) kids 0 ih]
    congr 1
    cases e : f k n a with
    | none => simp
    | some x =>
      have := (hf k n a x e).1
      rw [decide_eq_false (by simp), decide_eq_false (by omega)]
      rfl
theorem usesL_map {N : Int} {d : Nat} {k k' : Int} (g : Tm → Tm) (hk : ∀ i, under k' i = under k i) : ∀ (ts : List Tm) (i : Nat), (∀ t ∈ ts, ∀ d, (g t).uses N d = t.uses N d) → Tm.usesL N d k' i (ts.map g) = Tm.usesL N d k i ts
  | [], i, _ => rfl
  | t :: ts, i, h => by
    simp only [List.map_cons, Tm.usesL]
    rw [h t (by simp), hk, usesL_map g hk ts (i + 1) fun u hu => h u (by simp [hu])]
theorem uses_cy {f : Nm} (hf : NmOk f) (N : Int) (t : Tm) : ∀ d, (t.cy f).uses N d = t.uses N d := by
  induction t using Tm.ind with
  | h k n a lv kids ih =>
    intro d
    rw [Tm.cy_mk, Tm.uses_mk, Tm.uses_mk, usesL_map (Tm.cy f) (under_cy hf k n a) kids 0 ih]
    congr 1
    cases e : f k n a with
    | none => simp
    | some x =>
      have := (hf k n a x e).1
      rw [if_neg (by simp), if_neg (by omega)]
theorem kindsL_mem (z : Int) : ∀ ts : List Tm, z ∈ Tm.kindsL ts ↔ ∃ t ∈ ts, z ∈ t.kinds
  | [] => by simp [Tm.kindsL]
  | t :: ts => by simp [Tm.kindsL, kindsL_mem z ts]
theorem kinds_cy {f : Nm} (hf : NmOk f) (t : Tm) : (11 : Int) ∈ (t.cy f).kinds ↔ (11 : Int) ∈ t.kinds := by
  induction t using Tm.ind with
  | h k n a lv kids ih =>
    rw [Tm.cy_mk, Tm.kinds_mk, Tm.kinds_mk, List.mem_cons, List.mem_cons, kindsL_mem, kindsL_mem]
    have h1 := kind_one hf k n a 11 (Or.inr rfl)
    constructor
    · rintro (h | ⟨u, hu, h⟩)
      · exact Or.inl (h1.1 h.symm).symm
      · obtain ⟨s, hs, rfl⟩ := List.mem_map.1 hu
        exact Or.inr ⟨s, hs, (ih s hs).1 h⟩
    · rintro (h | ⟨s, hs, h⟩)
      · exact Or.inl (h1.2 h.symm).symm
      · exact Or.inr ⟨_, List.mem_map.2 ⟨s, hs, rfl⟩, (ih s hs).2 h⟩
/-- two turns that do the same, ahead of carrying over and behind -/
def CyTurn (f : Nm) (tr tr' : Turn) : Prop := ∀ d k n lv, (∃ n' lv', tr d k n lv = .go n' lv' ∧ tr' d k n lv = .go n' lv' ∧ (∀ a, f k n' a = f k n a) ∧ ∀ a x, f k n a = some x → n' = n ∧ tr' d 3 x lv = .go x lv') ∨ ∃ u, tr d k n lv = .done u ∧ tr' d k n lv = .done (u.cy f) ∧ ∀ a, f k n a = Option.none
theorem walk_cy {f : Nm} (hf : NmOk f) {tr tr' : Turn} (h : CyTurn f tr tr') (t : Tm) : ∀ d, (t.walk tr d).cy f = (t.cy f).walk tr' d := by
  induction t using Tm.ind with
  | h k n a lv kids ih =>
    intro d
    have hk : ∀ k', (∀ i, under k' i = under k i) → (Tm.walkL tr d k 0 kids).map (Tm.cy f) = Tm.walkL tr' d k' 0 (kids.map (Tm.cy f)) := fun k' hu => by
      refine List.ext_getElem? fun j => ?_
      rw [List.getElem?_map, Tm.walkL_get, Tm.walkL_get, List.getElem?_map]
      cases e : kids[j]? with
      | none => rfl
      | some s =>
        simp only [Option.map_some]
        rw [ih s (List.mem_of_getElem? e), hu]
    rcases h d k n lv with ⟨n', lv', e1, e2, e3, e4⟩ | ⟨u, e1, e2, e3⟩
    · rw [Tm.walk_go e1, Tm.cy_mk, Tm.cy_mk, e3 a]
      cases e : f k n a with
      | none =>
        simp only [Option.isSome_none, Bool.false_eq_true, if_false, Option.getD_none]
        rw [Tm.walk_go e2, hk k fun _ => rfl]
      | some x =>
        simp only [Option.isSome_some, if_true, Option.getD_some]
        rw [Tm.walk_go (e4 a x e).2, hk 3 (under_name (hf k n a x e).1)]
    · rw [Tm.walk_done e1, Tm.cy_mk, e3 a]
      simp only [Option.isSome_none, Bool.false_eq_true, if_false, Option.getD_none]
      rw [Tm.walk_done e2]
theorem lift_cyturn {f : Nm} (hf : NmOk f) (m from' : Int) : CyTurn f (liftT m from') (liftT m from') := fun d k n lv => by
  refine Or.inl ⟨liftN d k n from' m, lv, rfl, rfl, fun a => ?_, fun a x e => ?_⟩
  · by_cases h : k = 3 ∨ k = 8 ∨ k = 9 ∨ k = 10
    · have : liftN d k n from' m = n := by
        unfold liftN outer
        rw [if_neg]
        simp
        omega
      rw [this]
    · rw [hf.none h, hf.none h]
  · have hk := (hf k n a x e).1
    refine ⟨?_, ?_⟩
    · unfold liftN outer
      rw [if_neg]
      simp
      omega
    · show Turned.go _ _ = _
      congr 1
theorem lift_cy {f : Nm} (hf : NmOk f) (m from' : Int) (t : Tm) (d : Nat) : (t.walk (liftT m from') d).cy f = (t.cy f).walk (liftT m from') d := walk_cy hf (lift_cyturn hf m from') t d
theorem lev_cy {f : Nm} (hf : NmOk f) (bys : List (List (Int × Int))) (t : Tm) (d : Nat) : (t.walk (levT bys) d).cy f = (t.cy f).walk (levT bys) d :=
  walk_cy hf (tr := levT bys) (tr' := levT bys) (fun _ _ n lv => Or.inl ⟨n, lv.map (putL bys), rfl, rfl, fun _ => rfl, fun _ _ _ => ⟨rfl, rfl⟩⟩) t d
theorem put_cy {f : Nm} (hf : NmOk f) (by' : List Tm) (t : Tm) (d : Nat) : (t.walk (putT by') d).cy f = (t.cy f).walk (putT (by'.map (Tm.cy f))) d := by
  refine walk_cy hf (fun d k n lv => ?_) t d
  by_cases ho : outer d k n 0 = true
  · have hk : k = 1 := by
      unfold outer at ho
      exact (of_decide_eq_true ho).1
    have hn : ∀ n a, f k n a = Option.none := fun n a => hf.none (by omega) n a
    by_cases hl : n - d < by'.length
    · refine Or.inr ⟨_, by unfold putT; rw [if_pos ho, if_pos hl], ?_, fun a => hn _ _⟩
      unfold putT
      rw [if_pos ho, if_pos (by rw [List.length_map]; exact hl)]
      congr 1
      rw [lift_cy hf, List.length_map]
      congr 1
      rw [List.getD_eq_getElem?_getD, List.getD_eq_getElem?_getD, List.getElem?_map]
      cases e : by'[by'.length - 1 - (n - d).toNat]? with
      | none => simp [Tm.cy_mk, hf.none]
      | some u => simp
    · refine Or.inl ⟨n - by'.length, lv, by unfold putT; rw [if_pos ho, if_neg hl], by unfold putT; rw [if_pos ho, List.length_map, if_neg hl], fun a => by rw [hn, hn], fun a x e => by rw [hn] at e; cases e⟩
  · refine Or.inl ⟨n, lv, by unfold putT; rw [if_neg ho], by unfold putT; rw [if_neg ho], fun _ => rfl, fun a x e => ⟨rfl, ?_⟩⟩
    unfold putT
    rw [if_neg (by unfold outer; simp)]
end Go.Proofs.YtfgnnbpbbnnnhaaDoor
