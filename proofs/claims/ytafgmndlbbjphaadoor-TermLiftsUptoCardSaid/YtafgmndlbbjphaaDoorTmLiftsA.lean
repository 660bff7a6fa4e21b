/- What the law TermLifts comes to: in plain words. -/
import Derived.Test.YtafgmndlbbjphaaDoorTmMeetsA
import Derived.Test.YtafgmndlbbjphaaDoorTmLook
import Derived.Test.YtafgmndlbbjphaaDoorTmLevs
namespace Go.Proofs.YtafgmndlbbjphaaDoor
open Go.RowKit Go.Maps

theorem liftZ_twice {n m f : Int} (hn : 0 ≤ n) : ∀ (t : Tm) (d : Nat), (t.walk (liftZ n f) d).walk (liftZ m f) d = t.walk (liftZ (n + m) f) d := by
  intro t
  induction t using Tm.ind with
  | h k x a lv kids ih =>
    intro d
    have hk : Tm.walkL (liftZ m f) d k 0 (Tm.walkL (liftZ n f) d k 0 kids) = Tm.walkL (liftZ (n + m) f) d k 0 kids := Tm.walkL_two fun t ht u => ih t ht (d + u)
    by_cases h : k = 1 ∧ (d : Int) ≤ x ∧ f ≤ x - d
    · rw [Tm.walk_go (liftZ_on h), Tm.walk_go (liftZ_on ⟨h.1, by omega, by omega⟩), Tm.walk_go (liftZ_on h), hk, Int.add_assoc]
    · rw [Tm.walk_go (liftZ_off h), Tm.walk_go (liftZ_off h), Tm.walk_go (liftZ_off h), hk]

theorem lookL_walk {tr : Turn} {p q : Int → Bool} {d : Nat} {k : Int} : ∀ {ts : List Tm} {i : Nat}, (∀ t ∈ ts, ∀ u, (t.walk tr (d + u)).look q (d + u) = t.look p (d + u)) → Tm.lookL q d k i (Tm.walkL tr d k i ts) = Tm.lookL p d k i ts
  | [], i, h => by simp [Tm.walkL, Tm.lookL]
  | t :: ts, i, h => by
    simp only [Tm.walkL, Tm.lookL]
    rw [h t (by simp), lookL_walk fun s hs => h s (by simp [hs])]
/-- what is asked of a lifted term's variables is what is asked of the term's, lifted -/
theorem look_lift {p q : Int → Bool} {n f N : Int} (hn : 0 ≤ n) (hpq : ∀ x, 0 ≤ x → x ≤ N → q (if f ≤ x then x + n else x) = p x) : ∀ (t : Tm), t.low N → ∀ d, (t.walk (liftZ n f) d).look q d = t.look p d := by
  intro t
  induction t using Tm.ind with
  | h k x a lv kids ih =>
    intro hl d
    rw [Tm.low_mk, Tm.lowL_iff] at hl
    have hk : Tm.lookL q d k 0 (Tm.walkL (liftZ n f) d k 0 kids) = Tm.lookL p d k 0 kids := lookL_walk fun t ht u => ih t ht (hl.2 t ht) _
    by_cases h : k = 1 ∧ (d : Int) ≤ x
    · have hx := hl.1 h.1
      have h1 := hpq (x - d) (by omega) (by omega)
      by_cases h2 : f ≤ x - d
      · rw [Tm.walk_go (liftZ_on ⟨h.1, h.2, h2⟩), Tm.look_mk, Tm.look_mk, hk, decide_eq_true (show k = 1 ∧ (d : Int) ≤ x + n from ⟨h.1, by omega⟩), decide_eq_true h]
        rw [if_pos h2] at h1
        rw [show x + n - (d : Int) = x - d + n by omega, h1]
      · rw [Tm.walk_go (liftZ_off fun c => h2 c.2.2), Tm.look_mk, Tm.look_mk, hk]
        rw [if_neg h2] at h1
        rw [h1]
    · rw [Tm.walk_go (liftZ_off fun c => h ⟨c.1, c.2.1⟩), Tm.look_mk, Tm.look_mk, hk, decide_eq_false h]
      rfl
theorem look_all : ∀ (t : Tm) (d : Nat), t.look (fun _ => true) d = true := by
  intro t
  induction t using Tm.ind with
  | h k x a lv kids ih =>
    intro d
    rw [Tm.look_mk, (Tm.lookL_iff _ _ _ _ _).2 fun j t ht => ih t (List.mem_of_getElem? ht) _]
    simp

theorem Tm.normL_mem {ts : List Tm} {u : Tm} (h : u ∈ Tm.normL ts) : ∃ t ∈ ts, u = t.norm := by
  rw [Tm.normL_map] at h
  obtain ⟨t, ht, rfl⟩ := List.mem_map.1 h
  exact ⟨t, ht, rfl⟩
theorem normL_walk {tr tr' : Turn} {d : Nat} {k : Int} : ∀ {ts : List Tm} {i : Nat}, (∀ t ∈ ts, ∀ u, (t.walk tr (d + u)).norm = t.norm.walk tr' (d + u)) → Tm.normL (Tm.walkL tr d k i ts) = Tm.walkL tr' d k i (Tm.normL ts)
  | [], i, h => by simp [Tm.walkL, Tm.normL]
  | t :: ts, i, h => by
    simp only [Tm.walkL, Tm.normL]
    rw [h t (by simp), normL_walk fun s hs => h s (by simp [hs])]
theorem norm_lift (m f : Int) : ∀ (t : Tm) (d : Nat), (t.walk (liftZ m f) d).norm = t.norm.walk (liftZ m f) d := by
  intro t
  induction t using Tm.ind with
  | h k x a lv kids ih =>
    intro d
    rw [Tm.walk_go (n' := if outer d k x f then x + m else x) rfl, Tm.norm_mk, Tm.norm_mk, Tm.walk_go (n' := if outer d k x f then x + m else x) rfl, normL_walk fun t ht u => ih t ht _]
theorem norm_put (bs : List Tm) : ∀ (t : Tm) (d : Nat), (t.walk (putZ bs) d).norm = t.norm.walk (putZ (bs.map Tm.norm)) d := by
  intro t
  induction t using Tm.ind with
  | h k x a lv kids ih =>
    intro d
    have hk : Tm.normL (Tm.walkL (putZ bs) d k 0 kids) = Tm.walkL (putZ (bs.map Tm.norm)) d k 0 (Tm.normL kids) := normL_walk fun t ht u => ih t ht _
    by_cases h : k = 1 ∧ (d : Int) ≤ x
    · by_cases h2 : x - d < bs.length
      · obtain ⟨b, hbb⟩ : ∃ b, bs[bs.length - 1 - (x - d).toNat]? = some b := ⟨_, List.getElem?_eq_getElem (by omega)⟩
        rw [Tm.walk_done (putZ_near h h2 hbb), Tm.norm_mk, Tm.walk_done (putZ_near h (by rw [List.length_map]; exact h2) (by rw [List.length_map, List.getElem?_map, hbb]; rfl)), norm_lift]
      · rw [Tm.walk_go (putZ_far h h2), Tm.norm_mk, Tm.norm_mk, Tm.walk_go (putZ_far h (by rw [List.length_map]; exact h2)), hk, List.length_map]
    · rw [Tm.walk_go (putZ_off h), Tm.norm_mk, Tm.norm_mk, Tm.walk_go (putZ_off h), hk]
theorem norm_lev (bys : List (List (Int × Int))) : ∀ (t : Tm) (d : Nat), (t.walk (levT bys) d).norm = t.norm.walk (fun _ _ x lv => .go x (lv.map fun l => nfA (nfA (putS l bys)))) d := by
  intro t
  induction t using Tm.ind with
  | h k x a lv kids ih =>
    intro d
    rw [Tm.walk_go (n' := x) (lv' := lv.map (putL bys)) rfl, Tm.norm_mk, Tm.norm_mk, Tm.walk_go (n' := x) (lv' := (lv.map nfA).map fun l => nfA (nfA (putS l bys))) rfl, normL_walk fun t ht u => ih t ht _, List.map_map, List.map_map]
    rfl
theorem sizeL_norm : ∀ {ts : List Tm}, (∀ t ∈ ts, t.norm.size = t.size) → Tm.sizeL (Tm.normL ts) = Tm.sizeL ts
  | [], _ => by simp [Tm.normL]
  | t :: ts, h => by
    simp only [Tm.normL, Tm.sizeL]
    rw [h t (by simp), sizeL_norm fun s hs => h s (by simp [hs])]
theorem size_norm : ∀ t : Tm, t.norm.size = t.size := by
  intro t
  induction t using Tm.ind with
  | h k x a lv kids ih => rw [Tm.norm_mk, Tm.size_mk, Tm.size_mk, sizeL_norm ih]
theorem wide_lev {bys : List (List (Int × Int))} (h9 : Bys bys) : ∀ (t : Tm), t.fit → ∀ d, (t.walk (levT bys) d).wide := by
  intro t
  induction t using Tm.ind with
  | h k x a lv kids ih =>
    intro hf d
    rw [Tm.fit_mk, Tm.fitL_iff] at hf
    rw [Tm.walk_go (n' := x) (lv' := lv.map (putL bys)) rfl, Tm.wide_mk, Tm.walkL_length]
    refine ⟨⟨by rw [List.length_map]; exact hf.2.1.1, fun l hl => ?_⟩, hf.2.2.1, (Tm.wideL_iff _).2 fun u hu => ?_⟩
    · obtain ⟨l', h1, rfl⟩ := List.mem_map.1 hl
      have := putL_len h9.2 (l := l') (by have := hf.2.1.2 l' h1; omega)
      exact this
    · obtain ⟨t, ht, j, rfl⟩ := Tm.walkL_mem hu
      exact ih t ht (hf.2.2.2 t ht) _

/-- what the law's terms come to -/
theorem lifts_terms {tt tu ta : Tm} (ht : tt.fit) (hu : tu.fit) (ha : ta.fit) (hc : Tm.countL [tt, tu, ta] ≤ 600) (htame : Tm.tameL [tt, tu, ta] = true) {n m f : Int} (hn : 0 ≤ n ∧ n ≤ 1000) (hm : 0 ≤ m ∧ m ≤ 1000) :
    ∃ x l, tt.walk (liftT n f) 0 = x ∧ x.fit ∧ x.size = tt.size ∧ x.walk (liftT m f) 0 = l ∧ l.fit ∧ tt.walk (liftT (n + m) f) 0 = l ∧ x.look (outF f (f + n)) 0 = true ∧ x.look (outF (f + n) 6000) 0 = tt.look (outF f 5000) 0 ∧
      x.look (outF 0 f) 0 = tt.look (outF 0 f) 0 ∧ tt.walk (liftT 0 0) 0 = tt ∧
      (tt.norm = tu.norm → ∃ y pt pu, tu.walk (liftT n f) 0 = y ∧ y.fit ∧ x.norm = y.norm ∧ tt.walk (putT [ta]) 0 = pt ∧ tu.walk (putT [ta]) 0 = pu ∧ pt.fit ∧ pu.fit ∧ pt.norm = pu.norm ∧ tt.size = tu.size) := by
  rw [Tm.tameL_iff] at htame
  have lt := Tm.low_tame tt (htame tt (by simp))
  have lu := Tm.low_tame tu (htame tu (by simp))
  have la := Tm.low_tame ta (htame ta (by simp))
  simp only [Tm.countL] at hc
  have st := Tm.size_le_count tt
  have su := Tm.size_le_count tu
  have sa := Tm.size_le_count ta
  have e1 := liftT_eq (N := 1000) (m := n) (from' := f) hn.1 (by omega) tt lt 0
  have e2 := liftT_eq (N := 1000) (m := n + m) (from' := f) (by omega) (by omega) tt lt 0
  have e3 := liftT_eq (N := 1000) (m := 0) (from' := 0) (by omega) (by omega) tt lt 0
  have e4 := liftT_eq (N := 1000) (m := n) (from' := f) hn.1 (by omega) tu lu 0
  have lx := liftZ_low (N := 1000) (m := n) (from' := f) hn.1 tt lt 0
  have e5 := liftT_eq (N := 1000 + n) (m := m) (from' := f) hm.1 (by omega) _ lx 0
  refine ⟨_, _, e1, liftZ_fit (N := 1000) hn.1 (by omega) tt ht lt 0, liftZ_size n f tt 0, e5, ?_, ?_, ?_, ?_, ?_, by rw [e3]; exact liftZ_none 0 tt 0, fun hs => ?_⟩
  · rw [liftZ_twice hn.1]
    exact liftZ_fit (N := 1000) (by omega) (by omega) tt ht lt 0
  · rw [e2, liftZ_twice hn.1]
  · rw [look_lift (p := fun _ => true) (N := 1000) hn.1 (fun x h0 h1 => ?_) tt lt 0, look_all]
    unfold outF
    split
    · simp; omega
    · simp; omega
  · refine look_lift (N := 1000) hn.1 (fun x h0 h1 => ?_) tt lt 0
    unfold outF
    split
    · rw [decide_eq_false (show ¬ x + n < f + n by omega), decide_eq_false (show ¬ (6000 : Int) ≤ x + n by omega), decide_eq_false (show ¬ x < f by omega), decide_eq_false (show ¬ (5000 : Int) ≤ x by omega)]
    · rw [decide_eq_true (show x < f + n by omega), decide_eq_true (show x < f by omega), Bool.true_or, Bool.true_or]
  · refine look_lift (N := 1000) hn.1 (fun x h0 h1 => ?_) tt lt 0
    unfold outF
    split
    · rw [decide_eq_false (show ¬ x + n < 0 by omega), decide_eq_true (show f ≤ x + n by omega), decide_eq_false (show ¬ x < 0 by omega), decide_eq_true (show f ≤ x by omega)]
    · rfl
  · have k1 := putZ_keeps (N := 1000) (D := 600) (M := 600) (by' := [ta]) (fun b hb => by obtain rfl : b = ta := (by simpa using hb); exact ⟨la, ha, by omega⟩) (by omega) (by omega) tt 0 (by omega) ht lt
    have k2 := putZ_keeps (N := 1000) (D := 600) (M := 600) (by' := [ta]) (fun b hb => by obtain rfl : b = ta := (by simpa using hb); exact ⟨la, ha, by omega⟩) (by omega) (by omega) tu 0 (by omega) hu lu
    have f1 := putT_eq (N := 1000) (D := 600) (by' := [ta]) (fun b hb => by obtain rfl : b = ta := (by simpa using hb); exact la) (by omega) tt 0 (by omega)
    have f2 := putT_eq (N := 1000) (D := 600) (by' := [ta]) (fun b hb => by obtain rfl : b = ta := (by simpa using hb); exact la) (by omega) tu 0 (by omega)
    refine ⟨_, _, _, e4, liftZ_fit (N := 1000) hn.1 (by omega) tu hu lu 0, ?_, f1, f2, k1.1, k2.1, ?_, ?_⟩
    · rw [norm_lift, norm_lift, hs]
    · rw [norm_put, norm_put, hs]
    · rw [← size_norm tt, ← size_norm tu, hs]
theorem lev_norm {tt tu : Tm} (hs : tt.norm = tu.norm) (bys : List (List (Int × Int))) : (tt.walk (levT bys) 0).norm = (tu.walk (levT bys) 0).norm := by rw [norm_lev, norm_lev, hs]
end Go.Proofs.YtafgmndlbbjphaaDoor
