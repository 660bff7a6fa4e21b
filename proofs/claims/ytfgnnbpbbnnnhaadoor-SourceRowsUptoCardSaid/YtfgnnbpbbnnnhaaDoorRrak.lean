/- Laws. -/
import Derived.Test.YtfgnnbpbbnnnhaaDoorRrae
import Derived.Test.YtfgnnbpbbnnnhaaDoorRrag
import Derived.Test.YtfgnnbpbbnnnhaaDoorRrai
import Derived.Test.YtfgnnbpbbnnnhaaDoorRraj
namespace Go.Proofs.YtfgnnbpbbnnnhaaDoor
open Go.RowKit Go.Maps
/-- the table of kinds: num, at, levels, kids, binds -/
def kindTab : List (Bool × Bool × Int × Int × Int) := [(false, false, 0, 0, 0), (true, false, 0, 0, 0), (false, false, 1, 0, 0), (true, false, 2, 0, 0), (false, false, 0, 2, 2), (false, false, 0, 2, 2), (false, false, 0, 2, 0), (false, false, 0, 3, 3), (true, true, 2, 0, 0), (true, true, 2, 0, 0), (true, true, 3, 0, 0), (false, true, 0, 0, 0), (false, false, 0, 2, 2), (false, false, 0, 2, 0), (false, false, 0, 1, 0), (false, false, 0, 1, 0), (false, false, 0, 2, 2), (false, false, 0, 2, 0), (false, false, 0, 5, 2), (false, false, 0, 3, 0), (false, false, 0, 0, 0), (false, false, 0, 6, 0), (true, false, 0, 0, 0), (true, true, 0, 0, 0), (false, true, 0, -1, 0)]
def kindRow (i : Nat) : Bool × Bool × Int × Int × Int := kindTab.getD i (false, false, 0, 0, 0)
/-- the table as the package's variable holds it -/
def KindsAll (w : World) : Prop := ∀ i : Nat, i < 25 → w.cell? ⟨0, i * 5, none⟩ = some (.bool (kindRow i).1) ∧ w.cell? ⟨0, i * 5 + 1, none⟩ = some (.bool (kindRow i).2.1) ∧ w.cell? ⟨0, i * 5 + 2, none⟩ = some (.int .i64 (kindRow i).2.2.1) ∧ w.cell? ⟨0, i * 5 + 3, none⟩ = some (.int .i64 (kindRow i).2.2.2.1) ∧ w.cell? ⟨0, i * 5 + 4, none⟩ = some (.int .i64 (kindRow i).2.2.2.2)
theorem kindRow_binds : ∀ i : Nat, i < 25 → (kindRow i).2.2.2.2 = bindTab.getD i 0 := by decide
theorem kindRow_levels : ∀ i : Nat, i < 25 → (kindRow i).2.2.1 = 0 ∨ (kindRow i).2.2.1 = 1 ∨ (kindRow i).2.2.1 = 2 ∨ (kindRow i).2.2.1 = 3 := by decide
theorem KindsAll.binds {w : World} (h : KindsAll w) : KindsAt w := fun i hi => by rw [← kindRow_binds i hi]; exact (h i hi).2.2.2.2
theorem KindsAll.below {w w' : World} {B : Nat} (h : KindsAll w) (hb : Below B w w') (hB : 0 < B) : KindsAll w' := fun i hi => by
  obtain ⟨h0, h1, h2, h3, h4⟩ := h i hi
  exact ⟨(hb.cell (p := ⟨0, i * 5, none⟩) hB).trans h0, (hb.cell (p := ⟨0, i * 5 + 1, none⟩) hB).trans h1, (hb.cell (p := ⟨0, i * 5 + 2, none⟩) hB).trans h2, (hb.cell (p := ⟨0, i * 5 + 3, none⟩) hB).trans h3, (hb.cell (p := ⟨0, i * 5 + 4, none⟩) hB).trans h4⟩
/-- is a Num or At right, given whether the kind has it? -/
def numberB (n : Int) (has : Bool) : Bool := decide (n = 0) || (has && decide (0 < n) && decide (n ≤ 1048576))
set_option maxRecDepth 100000 in
set_option maxHeartbeats 1000000 in
theorem number_any (n : Int) (has : Bool) (w : World) : Calls Tryd.prog 100 #[.int .i64 n, .bool has] w (HasPost w (numberB n has)) := by
  obtain ⟨r, hr⟩ : ∃ r, numberB n has = r := ⟨_, rfl⟩
  rw [hr]
  by_cases h0 : n = 0
  · have HF : Hid (HasPost w r (.returned (.bool true)) w) := ⟨by rw [← hr]; simp [numberB, h0], Below.refl _ _⟩
    subst h0
    clear hr
    go_enter Tryd.func100, Tryd.ntmps100
    go_wp2
    go_ret
    exact HF.out
  · have e0 : (n == 0) = false := by simpa using h0
    cases has with
    | false =>
      have HF : Hid (HasPost w r (.returned (.bool false)) w) := ⟨by rw [← hr]; simp [numberB, h0], Below.refl _ _⟩
      clear hr
      go_enter Tryd.func100, Tryd.ntmps100
      go_wp2
      go_ret
      exact HF.out
    | true =>
      by_cases h1 : 0 < n
      · by_cases h2 : n ≤ 1048576
        · have HF : Hid (HasPost w r (.returned (.bool true)) w) := ⟨by rw [← hr]; simp [numberB, h1, h2], Below.refl _ _⟩
          clear hr
          go_enter Tryd.func100, Tryd.ntmps100
          go_wp2
          go_ret
          exact HF.out
        · have HF : Hid (HasPost w r (.returned (.bool false)) w) := ⟨by rw [← hr]; simp [numberB, h0, h2], Below.refl _ _⟩
          clear hr
          go_enter Tryd.func100, Tryd.ntmps100
          go_wp2
          go_ret
          exact HF.out
      · have HF : Hid (HasPost w r (.returned (.bool false)) w) := ⟨by rw [← hr]; simp [numberB, h0, h1], Below.refl _ _⟩
        clear hr
        go_enter Tryd.func100, Tryd.ntmps100
        go_wp2
        go_ret
        exact HF.out
/-- how many kids a term of a known kind has -/
def kidsI (k : Nat) (a : Int) : Int := if (kindRow k).2.2.2.1 = -1 then IntKind.i64.wrap (a + 2) else (kindRow k).2.2.2.1
set_option maxRecDepth 100000 in
set_option maxHeartbeats 1000000 in
theorem kids_any (k : Nat) (n a : Int) (vl vk : Value) (w : World) (hk : k < 25) (hK : KindsAll w) : Calls Tryd.prog 102 #[.agg #[.int .i64 (k : Int), .int .i64 n, .int .i64 a, vl, vk]] w (fun e w' => e = .returned (.int .i64 (kidsI k a)) ∧ Below w.heap.size w w') := by
  obtain ⟨w1, hw1⟩ : ∃ x, w.alloc (.cells #[.int .i64 (k : Int), .int .i64 n, .int .i64 a, vl, vk] 27) = x := ⟨_, rfl⟩
  have hb1 : Below w.heap.size w w1 := by rw [← hw1]; exact (Below.refl _ _).alloc (Nat.le_refl _) _
  have x1 : w1.heap[w.heap.size]? = some (.cells #[.int .i64 (k : Int), .int .i64 n, .int .i64 a, vl, vk] 27 (0, 0)) := by rw [← hw1]; exact heap_alloc_new w _
  have e0 := cell_of_row _ _ 0 _ _ (0, 0) x1
  have e2 := cell_of_row _ _ 2 _ _ (0, 0) x1
  have h0 : 0 < w.heap.size := cell_lt (hK 0 (by decide)).1
  have c3 := (hb1.cell (p := ⟨0, k * 5 + 3, none⟩) h0).trans (hK k hk).2.2.2.1
  have HB := Lib.hid hb1
  have ij0 : (0 : Int) ≤ (k : Int) := by omega
  have ij1 : (k : Int) < 25 := by omega
  obtain ⟨x, hx⟩ : ∃ x, (kindRow k).2.2.2.1 = x := ⟨_, rfl⟩
  rw [hx] at c3
  by_cases hm : x = -1
  · subst hm
    obtain ⟨z, hz⟩ : ∃ z, IntKind.i64.wrap (a + 2) = z := ⟨_, rfl⟩
    have HF : Hid (kidsI k a = z) := by show _ = _; unfold kidsI; rw [if_pos hx, hz]
    clear hx hK x1 hb1
    go_enter Tryd.func102, Tryd.ntmps102
    go_wp2
    go_ret
    refine ⟨?_, HB.out⟩
    rw [HF.out, ← hz]
    rfl
  · have HF : Hid (kidsI k a = x) := by show _ = _; unfold kidsI; rw [hx, if_neg hm]
    have e9 : (x != -1) = true := by simpa using hm
    clear hx hK x1 hb1
    go_enter Tryd.func102, Tryd.ntmps102
    go_wp2
    go_ret
    exact ⟨by rw [HF.out]; rfl, HB.out⟩
/-- is a level right among 9? -/
def lvOk (ps : List (Int × Int)) : Bool := decide (ps.length ≤ 9) && (List.range ps.length).all fun i => decide (0 ≤ (ps.getD i (0, 0)).1) && decide ((ps.getD i (0, 0)).1 ≤ 9) && decide (0 ≤ (ps.getD i (0, 0)).2) && decide ((ps.getD i (0, 0)).2 ≤ 1000) && (decide (i = 0) || decide ((ps.getD (i - 1) (0, 0)).1 < (ps.getD i (0, 0)).1))
theorem lvOk_iff (ps : List (Int × Int)) : lvOk ps = true ↔ RightS ps 9 := by
  unfold lvOk RightS RightAt
  simp only [Bool.and_eq_true, decide_eq_true_eq, List.all_eq_true, List.mem_range, Bool.or_eq_true]
  refine and_congr Iff.rfl (forall_congr' fun i => forall_congr' fun _ => ?_)
  constructor
  · rintro ⟨⟨⟨⟨a, b⟩, c⟩, d⟩, e⟩
    exact ⟨a, b, c, d, fun h => e.elim (fun e => by omega) id⟩
  · rintro ⟨a, b, c, d, e⟩
    refine ⟨⟨⟨⟨a, b⟩, c⟩, d⟩, ?_⟩
    rcases Nat.eq_zero_or_pos i with h | h
    · exact Or.inl h
    · exact Or.inr (e h)
/-- how many levels a kind may have -/
def fewB (n : Nat) (few : Int) : Bool := if few = 0 then decide (n = 0) else if few = 1 then decide (n = 1) else if few = 2 then decide (n ≤ 8) else decide (n ≤ 10)
/-- are levels right, as many as the kind has? -/
def levelsB (lv : List (List (Int × Int))) (few : Int) : Bool := fewB lv.length few && (decide (few = 0) || lv.all lvOk)
end Go.Proofs.YtfgnnbpbbnnnhaaDoor
namespace Go.Proofs.YtfgnnbpbbnnnhaaDoor
open Go.RowKit Go.Maps
theorem levelsB_bad {lv : List (List (Int × Int))} {few : Int} {k : Nat} {l : List (Int × Int)} (hl : lv[k]? = some l) (h : lvOk l = false) (h0 : few ≠ 0) : levelsB lv few = false := by
  unfold levelsB
  rw [Bool.and_eq_false_iff]
  right
  rw [Bool.or_eq_false_iff]
  refine ⟨by simpa using h0, ?_⟩
  rw [← Bool.not_eq_true, List.all_eq_true]
  intro hh
  have := hh l (List.mem_of_getElem? hl)
  rw [h] at this
  cases this
theorem levelsB_good {lv : List (List (Int × Int))} {few : Int} (h : ∀ (j : Nat) (l : List (Int × Int)), lv[j]? = some l → lvOk l = true) (hf : fewB lv.length few = true) : levelsB lv few = true := by
  unfold levelsB
  rw [hf, Bool.true_and, Bool.or_eq_true]
  right
  rw [List.all_eq_true]
  intro l hl
  obtain ⟨j, hj⟩ := List.getElem?_of_mem hl
  exact h j l hj
set_option maxRecDepth 100000 in
set_option maxHeartbeats 4000000 in
theorem levelsR_any (lv : List (List (Int × Int))) (A : Option Addr) (n c : Nat) (few : Int) (w : World) (hfew : few = 0 ∨ few = 1 ∨ few = 2 ∨ few = 3) (hn : lv.length = n) (hs : SlimL lv) (h : Levs w w.heap.size A lv) :
    Calls Tryd.prog 101 #[.slice A n c, .int .i64 few] w (HasPost w (levelsB lv few)) := by
  have hn9 : n ≤ 1048576 := by have := hs.1; omega
  have HL := Lib.hid h
  have HN := Lib.hid hn
  have HS := Lib.hid hs
  clear h hn hs
  rcases hfew with rfl | rfl | rfl | rfl
  · by_cases h0 : n = 0
    · have HF : Hid (HasPost w (levelsB lv 0) (.returned (.bool true)) w) := ⟨by simp [levelsB, fewB, HN.out, h0], Below.refl _ _⟩
      subst h0
      go_enter Tryd.func101, Tryd.ntmps101
      go_wp2
      go_ret
      exact HF.out
    · have HF : Hid (HasPost w (levelsB lv 0) (.returned (.bool false)) w) := ⟨by simp [levelsB, fewB, HN.out, h0], Below.refl _ _⟩
      have e0 : ((n : Int) == 0) = false := by simp; omega
      go_enter Tryd.func101, Tryd.ntmps101
      go_wp2
      go_ret
      exact HF.out
  · by_cases h0 : n = 1
    · have HFEW : Hid (fewB lv.length 1 = true) := by
        show _ = _
        simp [fewB, HN.out, h0]
      subst h0
      go_enter Tryd.func101, Tryd.ntmps101
      go_wp2
      go_loopw [30] (fun i wr => ∃ k : Nat, k ≤ 1 ∧ i = .int .i64 (k : Int) ∧ Below w.heap.size w wr ∧ ∀ (j : Nat) (l : List (Int × Int)), j < k → lv[j]? = some l → lvOk l = true) (fun i _ => 1 - (intOf i).toNat)
      case atStart => exact ⟨0, Nat.zero_le _, rfl, Below.refl _ _, fun j l hj => by omega⟩
      case round =>
        obtain ⟨k, hk, rfl, hb, hso⟩ := hrel
        have hbz := hb.size
        by_cases hlt : k < 1
        · obtain ⟨b, o, e, hbB, hcell⟩ := HL.out (by rw [HN.out]; omega)
          subst e
          obtain ⟨Ai, ci, q0, q1, q2, _⟩ := hcell k (by rw [HN.out]; exact hlt)
          obtain ⟨l, el⟩ : ∃ l, lv[k]? = some l := ⟨_, List.getElem?_eq_getElem (by rw [HN.out]; exact hlt)⟩
          have eg : lv.getD k [] = l := by rw [List.getD_eq_getElem?_getD, el]; rfl
          rw [eg] at q0 q1
          have hl6 := HS.out.2 l (List.mem_of_getElem? el)
          have c0 := (hb.cell (p := ⟨b, o + k, none⟩) hbB).trans q0
          obtain ⟨r, hr⟩ : ∃ r, lvOk l = r := ⟨_, rfl⟩
          have HC : Hid (∀ w', Below wr.heap.size wr w' → Calls Tryd.prog 70 #[.agg #[.slice Ai l.length ci], .int .i64 9] w' (HasPost w' r)) := fun w' hx => by
            have hx2 := hb.trans (hx.mono hbz)
            exact right_any Ai l ci 9 w' (by unfold maxLen; omega) ((q1.below hx2).more hx2.size) r (by rw [← hr]; exact lvOk_iff l)
          obtain ⟨ni, hni⟩ : ∃ j, l.length = j := ⟨_, rfl⟩
          rw [hni] at c0 HC
          have HBAD : Hid (r = false → levelsB lv 1 = false) := fun h => levelsB_bad el (hr.trans h) (by decide)
          have HGOOD : Hid (r = true → ∀ (j : Nat) (l : List (Int × Int)), j < k + 1 → lv[j]? = some l → lvOk l = true) := fun h j m hj hm => by
            rcases Nat.lt_succ_iff_lt_or_eq.1 hj with hj | rfl
            · exact hso j m hj hm
            · rw [el] at hm
              injection hm with hm
              rw [← hm, hr, h]
          have HB := Lib.hid hb
          have ij0 : (0 : Int) ≤ (k : Int) := by omega
          have ij1 : (k : Int) < (1 : Int) := by omega
          clear hb hso q0 q1 q2 el eg hl6 hni hcell hr
          go_wp2_with (fail)
          refine (HC.out _ ((Below.refl _ _).alloc (Nat.le_refl _) _)).mono ?_
          rintro e w2 ⟨rfl, hb2⟩
          have HB2 : Hid (Below w.heap.size w w2) := HB.out.trans ((((Below.refl _ _).alloc (Nat.le_refl _) _).trans (hb2.mono (by simp))).mono hbz)
          clear hb2
          cases r with
          | true =>
            have HG := Lib.hid (HGOOD.out rfl)
            clear HGOOD HBAD
            go_wp2
            go_roundw
            case rel => exact ⟨k + 1, by omega, by go_num, HB2.out, HG.out⟩
            case measure => simp [intOf]; omega
          | false =>
            have HG := Lib.hid (HBAD.out rfl)
            clear HGOOD HBAD
            go_wp2
            go_ret
            exact ⟨by rw [HG.out]; rfl, HB2.out⟩
        · have HF : Hid (HasPost w (levelsB lv 1) (.returned (.bool true)) wr) := ⟨by
            rw [levelsB_good (fun j l hl => hso j l (by have := (List.getElem?_eq_some_iff.1 hl).1; rw [HN.out] at this; omega) hl) HFEW.out], hb⟩
          clear hb hso
          go_wp2
          go_ret
          exact HF.out
    · have HF : Hid (HasPost w (levelsB lv 1) (.returned (.bool false)) w) := ⟨by simp [levelsB, fewB, HN.out, h0], Below.refl _ _⟩
      have e1 : ((n : Int) != 1) = true := by simp; omega
      go_enter Tryd.func101, Tryd.ntmps101
      go_wp2
      go_ret
      exact HF.out
  · by_cases h0 : n ≤ 8
    · have HFEW : Hid (fewB lv.length 2 = true) := by
        show _ = _
        simp [fewB, HN.out, h0]
      have e1 : ¬ (8 : Int) < (n : Int) := by omega
      go_enter Tryd.func101, Tryd.ntmps101
      go_wp2
      go_loopw [30] (fun i wr => ∃ k : Nat, k ≤ n ∧ i = .int .i64 (k : Int) ∧ Below w.heap.size w wr ∧ ∀ (j : Nat) (l : List (Int × Int)), j < k → lv[j]? = some l → lvOk l = true) (fun i _ => n - (intOf i).toNat)
      case atStart => exact ⟨0, Nat.zero_le _, rfl, Below.refl _ _, fun j l hj => by omega⟩
      case round =>
        obtain ⟨k, hk, rfl, hb, hso⟩ := hrel
        have hbz := hb.size
        by_cases hlt : k < n
        · obtain ⟨b, o, e, hbB, hcell⟩ := HL.out (by rw [HN.out]; omega)
          subst e
          obtain ⟨Ai, ci, q0, q1, q2, _⟩ := hcell k (by rw [HN.out]; exact hlt)
          obtain ⟨l, el⟩ : ∃ l, lv[k]? = some l := ⟨_, List.getElem?_eq_getElem (by rw [HN.out]; exact hlt)⟩
          have eg : lv.getD k [] = l := by rw [List.getD_eq_getElem?_getD, el]; rfl
          rw [eg] at q0 q1
          have hl6 := HS.out.2 l (List.mem_of_getElem? el)
          have c0 := (hb.cell (p := ⟨b, o + k, none⟩) hbB).trans q0
          obtain ⟨r, hr⟩ : ∃ r, lvOk l = r := ⟨_, rfl⟩
          have HC : Hid (∀ w', Below wr.heap.size wr w' → Calls Tryd.prog 70 #[.agg #[.slice Ai l.length ci], .int .i64 9] w' (HasPost w' r)) := fun w' hx => by
            have hx2 := hb.trans (hx.mono hbz)
            exact right_any Ai l ci 9 w' (by unfold maxLen; omega) ((q1.below hx2).more hx2.size) r (by rw [← hr]; exact lvOk_iff l)
          obtain ⟨ni, hni⟩ : ∃ j, l.length = j := ⟨_, rfl⟩
          rw [hni] at c0 HC
          have HBAD : Hid (r = false → levelsB lv 2 = false) := fun h => levelsB_bad el (hr.trans h) (by decide)
          have HGOOD : Hid (r = true → ∀ (j : Nat) (l : List (Int × Int)), j < k + 1 → lv[j]? = some l → lvOk l = true) := fun h j m hj hm => by
            rcases Nat.lt_succ_iff_lt_or_eq.1 hj with hj | rfl
            · exact hso j m hj hm
            · rw [el] at hm
              injection hm with hm
              rw [← hm, hr, h]
          have HB := Lib.hid hb
          have ij0 : (0 : Int) ≤ (k : Int) := by omega
          have ij1 : (k : Int) < (n : Int) := by omega
          clear hb hso q0 q1 q2 el eg hl6 hni hcell hr
          go_wp2_with (fail)
          refine (HC.out _ ((Below.refl _ _).alloc (Nat.le_refl _) _)).mono ?_
          rintro e w2 ⟨rfl, hb2⟩
          have HB2 : Hid (Below w.heap.size w w2) := HB.out.trans ((((Below.refl _ _).alloc (Nat.le_refl _) _).trans (hb2.mono (by simp))).mono hbz)
          clear hb2
          cases r with
          | true =>
            have HG := Lib.hid (HGOOD.out rfl)
            clear HGOOD HBAD
            go_wp2
            go_roundw
            case rel => exact ⟨k + 1, by omega, by go_num, HB2.out, HG.out⟩
            case measure => simp [intOf]; omega
          | false =>
            have HG := Lib.hid (HBAD.out rfl)
            clear HGOOD HBAD
            go_wp2
            go_ret
            exact ⟨by rw [HG.out]; rfl, HB2.out⟩
        · have HF : Hid (HasPost w (levelsB lv 2) (.returned (.bool true)) wr) := ⟨by
            rw [levelsB_good (fun j l hl => hso j l (by have := (List.getElem?_eq_some_iff.1 hl).1; rw [HN.out] at this; omega) hl) HFEW.out], hb⟩
          clear hb hso
          go_wp2
          go_ret
          exact HF.out
    · have HF : Hid (HasPost w (levelsB lv 2) (.returned (.bool false)) w) := ⟨by simp [levelsB, fewB, HN.out, h0], Below.refl _ _⟩
      have e1 : (8 : Int) < (n : Int) := by omega
      go_enter Tryd.func101, Tryd.ntmps101
      go_wp2
      go_ret
      exact HF.out
  · by_cases h0 : n ≤ 10
    · have HFEW : Hid (fewB lv.length 3 = true) := by
        show _ = _
        simp [fewB, HN.out, h0]
      have e1 : ¬ (10 : Int) < (n : Int) := by omega
      go_enter Tryd.func101, Tryd.ntmps101
      go_wp2
      go_loopw [30] (fun i wr => ∃ k : Nat, k ≤ n ∧ i = .int .i64 (k : Int) ∧ Below w.heap.size w wr ∧ ∀ (j : Nat) (l : List (Int × Int)), j < k → lv[j]? = some l → lvOk l = true) (fun i _ => n - (intOf i).toNat)
      case atStart => exact ⟨0, Nat.zero_le _, rfl, Below.refl _ _, fun j l hj => by omega⟩
      case round =>
        obtain ⟨k, hk, rfl, hb, hso⟩ := hrel
        have hbz := hb.size
        by_cases hlt : k < n
        · obtain ⟨b, o, e, hbB, hcell⟩ := HL.out (by rw [HN.out]; omega)
          subst e
          obtain ⟨Ai, ci, q0, q1, q2, _⟩ := hcell k (by rw [HN.out]; exact hlt)
          obtain ⟨l, el⟩ : ∃ l, lv[k]? = some l := ⟨_, List.getElem?_eq_getElem (by rw [HN.out]; exact hlt)⟩
          have eg : lv.getD k [] = l := by rw [List.getD_eq_getElem?_getD, el]; rfl
          rw [eg] at q0 q1
          have hl6 := HS.out.2 l (List.mem_of_getElem? el)
          have c0 := (hb.cell (p := ⟨b, o + k, none⟩) hbB).trans q0
          obtain ⟨r, hr⟩ : ∃ r, lvOk l = r := ⟨_, rfl⟩
          have HC : Hid (∀ w', Below wr.heap.size wr w' → Calls Tryd.prog 70 #[.agg #[.slice Ai l.length ci], .int .i64 9] w' (HasPost w' r)) := fun w' hx => by
            have hx2 := hb.trans (hx.mono hbz)
            exact right_any Ai l ci 9 w' (by unfold maxLen; omega) ((q1.below hx2).more hx2.size) r (by rw [← hr]; exact lvOk_iff l)
          obtain ⟨ni, hni⟩ : ∃ j, l.length = j := ⟨_, rfl⟩
          rw [hni] at c0 HC
          have HBAD : Hid (r = false → levelsB lv 3 = false) := fun h => levelsB_bad el (hr.trans h) (by decide)
          have HGOOD : Hid (r = true → ∀ (j : Nat) (l : List (Int × Int)), j < k + 1 → lv[j]? = some l → lvOk l = true) := fun h j m hj hm => by
            rcases Nat.lt_succ_iff_lt_or_eq.1 hj with hj | rfl
            · exact hso j m hj hm
            · rw [el] at hm
              injection hm with hm
              rw [← hm, hr, h]
          have HB := Lib.hid hb
          have ij0 : (0 : Int) ≤ (k : Int) := by omega
          have ij1 : (k : Int) < (n : Int) := by omega
          clear hb hso q0 q1 q2 el eg hl6 hni hcell hr
          go_wp2_with (fail)
          refine (HC.out _ ((Below.refl _ _).alloc (Nat.le_refl _) _)).mono ?_
          rintro e w2 ⟨rfl, hb2⟩
          have HB2 : Hid (Below w.heap.size w w2) := HB.out.trans ((((Below.refl _ _).alloc (Nat.le_refl _) _).trans (hb2.mono (by simp))).mono hbz)
          clear hb2
          cases r with
          | true =>
            have HG := Lib.hid (HGOOD.out rfl)
            clear HGOOD HBAD
            go_wp2
            go_roundw
            case rel => exact ⟨k + 1, by omega, by go_num, HB2.out, HG.out⟩
            case measure => simp [intOf]; omega
          | false =>
            have HG := Lib.hid (HBAD.out rfl)
            clear HGOOD HBAD
            go_wp2
            go_ret
            exact ⟨by rw [HG.out]; rfl, HB2.out⟩
        · have HF : Hid (HasPost w (levelsB lv 3) (.returned (.bool true)) wr) := ⟨by
            rw [levelsB_good (fun j l hl => hso j l (by have := (List.getElem?_eq_some_iff.1 hl).1; rw [HN.out] at this; omega) hl) HFEW.out], hb⟩
          clear hb hso
          go_wp2
          go_ret
          exact HF.out
    · have HF : Hid (HasPost w (levelsB lv 3) (.returned (.bool false)) w) := ⟨by simp [levelsB, fewB, HN.out, h0], Below.refl _ _⟩
      have e1 : (10 : Int) < (n : Int) := by omega
      go_enter Tryd.func101, Tryd.ntmps101
      go_wp2
      go_ret
      exact HF.out
end Go.Proofs.YtfgnnbpbbnnnhaaDoor
namespace Go.Proofs.YtfgnnbpbbnnnhaaDoor
open Go.RowKit Go.Maps
/-- has a node what its kind has, its kids left aside? -/
def ofKindB (k n a : Int) (lv : List (List (Int × Int))) (nk : Nat) : Bool := decide (1 ≤ k) && decide (k ≤ 24) && (numberB n (kindRow k.toNat).1 && numberB a (kindRow k.toNat).2.1 && levelsB lv (kindRow k.toNat).2.2.1 && decide ((nk : Int) = kidsI k.toNat a))
set_option maxRecDepth 100000 in
theorem enter_number (vs : Array Value) (w : World) : (callFunc 100 vs).run Tryd.prog w = .ok (.enter 100 vs) w := by go_simp
set_option maxRecDepth 100000 in
theorem enter_levels (vs : Array Value) (w : World) : (callFunc 101 vs).run Tryd.prog w = .ok (.enter 101 vs) w := by go_simp
set_option maxRecDepth 100000 in
theorem enter_kids (vs : Array Value) (w : World) : (callFunc 102 vs).run Tryd.prog w = .ok (.enter 102 vs) w := by go_simp
set_option maxRecDepth 100000 in
theorem has_field {b : Nat} {w : World} (i : Nat) (hi : i < 5) : (Instr.fieldAt 143 (.pointer (some ⟨b, 0, none⟩)) i).run Tryd.prog w = .ok (.pointer (some ⟨b, i, none⟩)) w := by
  match i, hi with
  | 0, _ => go_simp
  | 1, _ => go_simp
  | 2, _ => go_simp
  | 3, _ => go_simp
  | 4, _ => go_simp
set_option maxRecDepth 100000 in
theorem load_bool {b o : Nat} {w : World} {x : Bool} (h : w.cell? ⟨b, o, none⟩ = some (.bool x)) : (Instr.loadAt 4 (.pointer (some ⟨b, o, none⟩))).run Tryd.prog w = .ok (.bool x) w := by go_simp
set_option maxRecDepth 100000 in
theorem eql_ints (x y : Int) (p q : Operand) (w : World) : ((do eqGuard .eql 3 p q (.int .i64 x) (.int .i64 y); binOp .eql 3 (.int .i64 x) (.int .i64 y) : Sem Value)).run Tryd.prog w = .ok (.bool (x == y)) w := by go_simp
set_option maxRecDepth 100000 in
set_option maxHeartbeats 4000000 in
theorem ofKind_any (k n a : Int) (lv : List (List (Int × Int))) (kids : List Tm) (A1 A2 : Option Addr) (p1 c1 p2 c2 : Nat) (w : World) (hf : (Tm.mk k n a lv kids).fit) (hp1 : lv.length = p1) (hK : KindsAll w) (h1 : Levs w w.heap.size A1 lv) :
    Calls Tryd.prog 68 #[.agg #[.int .i64 k, .int .i64 n, .int .i64 a, .slice A1 p1 c1, .slice A2 p2 c2]] w (HasPost w (ofKindB k n a lv p2)) := by
  rw [Tm.fit_mk] at hf
  obtain ⟨w1, hw1⟩ : ∃ x, w.alloc (.cells #[.int .i64 k, .int .i64 n, .int .i64 a, .slice A1 p1 c1, .slice A2 p2 c2] 27) = x := ⟨_, rfl⟩
  have hb1 : Below w.heap.size w w1 := by rw [← hw1]; exact (Below.refl _ _).alloc (Nat.le_refl _) _
  have hs1 : w1.heap.size = w.heap.size + 1 := by rw [← hw1]; simp
  have x1 : w1.heap[w.heap.size]? = some (.cells #[.int .i64 k, .int .i64 n, .int .i64 a, .slice A1 p1 c1, .slice A2 p2 c2] 27 (0, 0)) := by rw [← hw1]; exact heap_alloc_new w _
  have e0 := cell_of_row _ _ 0 _ _ (0, 0) x1
  have h0 : 0 < w.heap.size := cell_lt (hK 0 (by decide)).1
  have HK := Lib.hid (known_any k w1)
  have HB1 := Lib.hid hb1
  by_cases hk : 1 ≤ k ∧ k ≤ 24
  · obtain ⟨j, rfl⟩ : ∃ j : Nat, k = (j : Int) := ⟨k.toNat, by omega⟩
    have hj : j < 25 := by omega
    have e : (decide (1 ≤ (j : Int)) && decide ((j : Int) ≤ 24)) = true := by simp; omega
    rw [e] at HK
    obtain ⟨nm, hnm⟩ : ∃ x, (kindRow j).1 = x := ⟨_, rfl⟩
    obtain ⟨at', hat⟩ : ∃ x, (kindRow j).2.1 = x := ⟨_, rfl⟩
    obtain ⟨fw, hfw⟩ : ∃ x, (kindRow j).2.2.1 = x := ⟨_, rfl⟩
    obtain ⟨kd, hkd⟩ : ∃ x, (kindRow j).2.2.2.1 = x := ⟨_, rfl⟩
    obtain ⟨bd, hbd⟩ : ∃ x, (kindRow j).2.2.2.2 = x := ⟨_, rfl⟩
    obtain ⟨r1, hr1⟩ : ∃ x, numberB n nm = x := ⟨_, rfl⟩
    obtain ⟨r2, hr2⟩ : ∃ x, numberB a at' = x := ⟨_, rfl⟩
    obtain ⟨r3, hr3⟩ : ∃ x, levelsB lv fw = x := ⟨_, rfl⟩
    obtain ⟨ki, hki⟩ : ∃ x, kidsI j a = x := ⟨_, rfl⟩
    have HRES : Hid (ofKindB (j : Int) n a lv p2 = (r1 && r2 && r3 && ((p2 : Int) == ki))) := by
      show _ = _
      unfold ofKindB
      rw [e, Bool.true_and, Int.toNat_natCast, hnm, hat, hfw, hr1, hr2, hr3, hki]
      rfl
    have HTAB : Hid (w1.cell? ⟨0, j * 5, none⟩ = some (.bool nm) ∧ w1.cell? ⟨0, j * 5 + 1, none⟩ = some (.bool at') ∧ w1.cell? ⟨0, j * 5 + 2, none⟩ = some (.int .i64 fw) ∧ w1.cell? ⟨0, j * 5 + 3, none⟩ = some (.int .i64 kd) ∧ w1.cell? ⟨0, j * 5 + 4, none⟩ = some (.int .i64 bd)) := by
      have := hK.below hb1 h0 j hj
      rw [hnm, hat, hfw, hkd, hbd] at this
      exact this
    have HN1 : Hid (∀ w', Calls Tryd.prog 100 #[.int .i64 n, .bool nm] w' (HasPost w' r1)) := fun w' => by rw [← hr1]; exact number_any n nm w'
    have HN2 : Hid (∀ w', Calls Tryd.prog 100 #[.int .i64 a, .bool at'] w' (HasPost w' r2)) := fun w' => by rw [← hr2]; exact number_any a at' w'
    have HL3 : Hid (∀ w', Below w.heap.size w w' → Calls Tryd.prog 101 #[.slice A1 p1 c1, .int .i64 fw] w' (HasPost w' r3)) := fun w' hx => by
      rw [← hr3]
      exact levelsR_any lv A1 p1 c1 fw w' (by rw [← hfw]; exact kindRow_levels j hj) hp1 hf.2.1 ((h1.below hx).more hx.size)
    have HK4 : Hid (∀ w', Below w.heap.size w w' → Calls Tryd.prog 102 #[.agg #[.int .i64 (j : Int), .int .i64 n, .int .i64 a, .slice A1 p1 c1, .slice A2 p2 c2]] w' (fun e w9 => e = .returned (.int .i64 ki) ∧ Below w'.heap.size w' w9)) := fun w' hx => by
      rw [← hki]
      exact kids_any j n a _ _ w' hj (hK.below hx h0)
    have X1 := Lib.hid x1
    have HS1 := Lib.hid hs1
    have H0 := Lib.hid h0
    clear hf hp1 hK h1 hb1 x1 hs1 e hnm hat hfw hkd hbd hr1 hr2 hr3 hki hj h0
    go_enter Tryd.func68, Tryd.ntmps68
    go_wp2_with (fail)
    refine HK.out.mono ?_
    rintro e w2 ⟨rfl, hb2⟩
    have x2 := (hb2.block w.heap.size (by have := HS1.out; omega)).trans X1.out
    have hz : (0 : Nat) < w1.heap.size := by have := HS1.out; omega
    have t0 := (hb2.cell (p := ⟨0, j * 5, none⟩) hz).trans HTAB.out.1
    have t1 := (hb2.cell (p := ⟨0, j * 5 + 1, none⟩) hz).trans HTAB.out.2.1
    have t2 := (hb2.cell (p := ⟨0, j * 5 + 2, none⟩) hz).trans HTAB.out.2.2.1
    have t3 := (hb2.cell (p := ⟨0, j * 5 + 3, none⟩) hz).trans HTAB.out.2.2.2.1
    have t4 := (hb2.cell (p := ⟨0, j * 5 + 4, none⟩) hz).trans HTAB.out.2.2.2.2
    have f0 := cell_of_row _ _ 0 _ _ (0, 0) x2
    have ij1 : (0 : Int) ≤ (j : Int) := by omega
    have ij2 : (j : Int) < 25 := by omega
    obtain ⟨w3, hw3⟩ : ∃ x, w2.alloc (.cells #[.bool nm, .bool at', .int .i64 fw, .int .i64 kd, .int .i64 bd] 143) = x := ⟨_, rfl⟩
    have hb3 : Below w2.heap.size w2 w3 := by rw [← hw3]; exact (Below.refl _ _).alloc (Nat.le_refl _) _
    have x3 : w3.heap[w2.heap.size]? = some (.cells #[.bool nm, .bool at', .int .i64 fw, .int .i64 kd, .int .i64 bd] 143 (0, 0)) := by rw [← hw3]; exact heap_alloc_new w2 _
    have x23 := (hb3.block w.heap.size (heap_some_lt x2)).trans x2
    have g0 := cell_of_row _ _ 0 _ _ (0, 0) x23
    have g1 := cell_of_row _ _ 1 _ _ (0, 0) x23
    have g2 := cell_of_row _ _ 2 _ _ (0, 0) x23
    have g3 := cell_of_row _ _ 3 _ _ (0, 0) x23
    have g4 := cell_of_row _ _ 4 _ _ (0, 0) x23
    have d0 := cell_of_row _ _ 0 _ _ (0, 0) x3
    have d1 := cell_of_row _ _ 1 _ _ (0, 0) x3
    have d2 := cell_of_row _ _ 2 _ _ (0, 0) x3
    have lg := heap_some_lt x23
    have ld := heap_some_lt x3
    have HB3 : Hid (Below w.heap.size w w3) := (HB1.out.trans (hb2.mono (by have := HS1.out; omega))).trans (hb3.mono (by have := HS1.out; have := hb2.size; omega))
    clear hb2 hb3 x2 x3 x23 hw1
    go_upto_region 4 with (fail)
    clear t0 t1 t2 t3 t4 f0 hw3
    have hS : Below w3.heap.size w3 w3.drew := (Below.refl _ _).drew
    refine wp_region_tab (fun w' => Below w3.heap.size w3 w') (fun w1 w2 : World => Below w1.heap.size w1 w2) [(fun (x : Value) (_ : World) => x = (.pointer (some ⟨w.heap.size, 0 + 1, none⟩) : Value)), (fun (x : Value) (_ : World) => x = (.int .i64 n : Value)), (fun (x : Value) (_ : World) => x = (.pointer (some ⟨w2.heap.size, 0, none⟩) : Value)), (fun (x : Value) (_ : World) => x = (.bool nm : Value)), (fun (x : Value) (_ : World) => x = (.bool r1 : Value)), (fun (x : Value) (_ : World) => x = (.bool r1 : Value)), (fun (x : Value) (_ : World) => x = gv r1 (.pointer (some ⟨w.heap.size, 0 + 2, none⟩))), (fun (x : Value) (_ : World) => x = gv r1 (.int .i64 a)), (fun (x : Value) (_ : World) => x = gv r1 (.pointer (some ⟨w2.heap.size, 1, none⟩))), (fun (x : Value) (_ : World) => x = gv r1 (.bool at')), (fun (x : Value) (_ : World) => x = gv r1 (.bool r2)), (fun (x : Value) (_ : World) => x = (.bool (r1 && r2) : Value)), (fun (x : Value) (_ : World) => x = (.bool (r1 && r2) : Value)), (fun (x : Value) (_ : World) => x = gv (r1 && r2) (.pointer (some ⟨w.heap.size, 0 + 3, none⟩))), (fun (x : Value) (_ : World) => x = gv (r1 && r2) (.slice A1 p1 c1)), (fun (x : Value) (_ : World) => x = gv (r1 && r2) (.pointer (some ⟨w2.heap.size, 2, none⟩))), (fun (x : Value) (_ : World) => x = gv (r1 && r2) (.int .i64 fw)), (fun (x : Value) (_ : World) => x = gv (r1 && r2) (.bool r3)), (fun (x : Value) (_ : World) => x = (.bool ((r1 && r2) && r3) : Value)), (fun (x : Value) (_ : World) => x = (.bool ((r1 && r2) && r3) : Value)), (fun (x : Value) (_ : World) => x = gv ((r1 && r2) && r3) (.pointer (some ⟨w.heap.size, 0 + 4, none⟩))), (fun (x : Value) (_ : World) => x = gv ((r1 && r2) && r3) (.slice A2 p2 c2)), (fun (x : Value) (_ : World) => x = gv ((r1 && r2) && r3) (.int .i64 (p2 : Int))), (fun (x : Value) (_ : World) => x = gv ((r1 && r2) && r3) (.agg #[.int .i64 (j : Int), .int .i64 n, .int .i64 a, .slice A1 p1 c1, .slice A2 p2 c2])), (fun (x : Value) (_ : World) => x = gv ((r1 && r2) && r3) (.int .i64 ki)), (fun (x : Value) (_ : World) => x = gv ((r1 && r2) && r3) (.bool ((p2 : Int) == ki))), (fun (x : Value) (_ : World) => x = (.bool (((r1 && r2) && r3) && ((p2 : Int) == ki)) : Value)), (fun (x : Value) (_ : World) => x = (.bool (((r1 && r2) && r3) && ((p2 : Int) == ki)) : Value))] [⟨some 12, .fieldAddr 27 (.tmp 1) 1, none, []⟩, ⟨some 13, .load 3 (.tmp 12), none, [(12, 0)]⟩, ⟨some 14, .fieldAddr 143 (.tmp 3) 0, none, []⟩, ⟨some 15, .load 4 (.tmp 14), none, [(14, 2)]⟩, ⟨some 16, .call { callee := .value (.func 100), args := #[.tmp 13, .tmp 15], argTypes := #[3, 4] }, none, [(13, 1), (15, 3)]⟩, ⟨some 17, .move (.tmp 16), none, [(16, 4)]⟩, ⟨some 18, .fieldAddr 27 (.tmp 1) 2, some (some 17, true), [(17, 5)]⟩, ⟨some 19, .load 3 (.tmp 18), some (some 17, true), [(17, 5), (18, 6)]⟩, ⟨some 20, .fieldAddr 143 (.tmp 3) 1, some (some 17, true), [(17, 5)]⟩, ⟨some 21, .load 4 (.tmp 20), some (some 17, true), [(17, 5), (20, 8)]⟩, ⟨some 22, .call { callee := .value (.func 100), args := #[.tmp 19, .tmp 21], argTypes := #[3, 4] }, some (some 17, true), [(17, 5), (19, 7), (21, 9)]⟩, ⟨some 23, .pick (.tmp 17) (.tmp 22) (.const (Value.bool false)), none, [(17, 5), (22, 10)]⟩, ⟨some 24, .move (.tmp 23), none, [(23, 11)]⟩, ⟨some 25, .fieldAddr 27 (.tmp 1) 3, some (some 24, true), [(24, 12)]⟩, ⟨some 26, .load 24 (.tmp 25), some (some 24, true), [(24, 12), (25, 13)]⟩, ⟨some 27, .fieldAddr 143 (.tmp 3) 2, some (some 24, true), [(24, 12)]⟩, ⟨some 28, .load 3 (.tmp 27), some (some 24, true), [(24, 12), (27, 15)]⟩, ⟨some 29, .call { callee := .value (.func 101), args := #[.tmp 26, .tmp 28], argTypes := #[24, 3] }, some (some 24, true), [(24, 12), (26, 14), (28, 16)]⟩, ⟨some 30, .pick (.tmp 24) (.tmp 29) (.const (Value.bool false)), none, [(24, 12), (29, 17)]⟩, ⟨some 31, .move (.tmp 30), none, [(30, 18)]⟩, ⟨some 32, .fieldAddr 27 (.tmp 1) 4, some (some 31, true), [(31, 19)]⟩, ⟨some 33, .load 25 (.tmp 32), some (some 31, true), [(31, 19), (32, 20)]⟩, ⟨some 34, .call { callee := .builtin .len, args := #[.tmp 33], argTypes := #[25] }, some (some 31, true), [(31, 19), (33, 21)]⟩, ⟨some 35, .load 27 (.tmp 1), some (some 31, true), [(31, 19)]⟩, ⟨some 36, .call { callee := .value (.func 102), args := #[.tmp 35], argTypes := #[27] }, some (some 31, true), [(31, 19), (35, 23)]⟩, ⟨some 37, .binOp .eql 3 (.tmp 34) (.tmp 36) 3, some (some 31, true), [(31, 19), (34, 22), (36, 24)]⟩, ⟨some 38, .pick (.tmp 31) (.tmp 37) (.const (Value.bool false)), none, [(31, 19), (37, 25)]⟩, ⟨some 2, .assign (.tmp 38), none, [(38, 26)]⟩] [some 12, some 13, some 14, some 15, some 16, some 17, some 18, some 19, some 20, some 21, some 22, some 23, some 24, some 25, some 26, some 27, some 28, some 29, some 30, some 31, some 32, some 33, some 34, some 35, some 36, some 37, some 38, some 2] (by kernel_rfl) (by kernel_rfl) (by kernel_rfl) (by kernel_rfl) (by kernel_rfl) ?hS ?hmono ?hsteps ?hfin
    case hS => exact hS
    case hmono =>
      refine MonoL.cons (fun x w1 w2 _ _ _ hx => hx) ?_
      refine MonoL.cons (fun x w1 w2 _ _ _ hx => hx) ?_
      refine MonoL.cons (fun x w1 w2 _ _ _ hx => hx) ?_
      refine MonoL.cons (fun x w1 w2 _ _ _ hx => hx) ?_
      refine MonoL.cons (fun x w1 w2 _ _ _ hx => hx) ?_
      refine MonoL.cons (fun x w1 w2 _ _ _ hx => hx) ?_
      refine MonoL.cons (fun x w1 w2 _ _ _ hx => hx) ?_
      refine MonoL.cons (fun x w1 w2 _ _ _ hx => hx) ?_
      refine MonoL.cons (fun x w1 w2 _ _ _ hx => hx) ?_
      refine MonoL.cons (fun x w1 w2 _ _ _ hx => hx) ?_
      refine MonoL.cons (fun x w1 w2 _ _ _ hx => hx) ?_
      refine MonoL.cons (fun x w1 w2 _ _ _ hx => hx) ?_
      refine MonoL.cons (fun x w1 w2 _ _ _ hx => hx) ?_
      refine MonoL.cons (fun x w1 w2 _ _ _ hx => hx) ?_
      refine MonoL.cons (fun x w1 w2 _ _ _ hx => hx) ?_
      refine MonoL.cons (fun x w1 w2 _ _ _ hx => hx) ?_
      refine MonoL.cons (fun x w1 w2 _ _ _ hx => hx) ?_
      refine MonoL.cons (fun x w1 w2 _ _ _ hx => hx) ?_
      refine MonoL.cons (fun x w1 w2 _ _ _ hx => hx) ?_
      refine MonoL.cons (fun x w1 w2 _ _ _ hx => hx) ?_
      refine MonoL.cons (fun x w1 w2 _ _ _ hx => hx) ?_
      refine MonoL.cons (fun x w1 w2 _ _ _ hx => hx) ?_
      refine MonoL.cons (fun x w1 w2 _ _ _ hx => hx) ?_
      refine MonoL.cons (fun x w1 w2 _ _ _ hx => hx) ?_
      refine MonoL.cons (fun x w1 w2 _ _ _ hx => hx) ?_
      refine MonoL.cons (fun x w1 w2 _ _ _ hx => hx) ?_
      refine MonoL.cons (fun x w1 w2 _ _ _ hx => hx) ?_
      refine MonoL.cons (fun x w1 w2 _ _ _ hx => hx) ?_
      exact MonoL.nil
    case hsteps =>
      refine StepsT.cons (fun (x : Value) (_ : World) => x = (.pointer (some ⟨w.heap.size, 0 + 1, none⟩) : Value)) [] rfl rfl (fun oq hop _ wq hQS => ?_) ?_
      · exact StepFrom.fieldAddr hop (p := (.pointer (some ⟨w.heap.size, 0, none⟩) : Value)) (by kernel_rfl) (term_field 1 (by decide)) (by kernel_rfl) hQS (Below.refl _ _) rfl
      refine StepsT.cons (fun (x : Value) (_ : World) => x = (.int .i64 n : Value)) [(12, (fun (x : Value) (_ : World) => x = (.pointer (some ⟨w.heap.size, 0 + 1, none⟩) : Value)))] rfl rfl (fun oq hop _ wq hQS => ?_) ?_
      · refine StepFrom.more_eq ((.pointer (some ⟨w.heap.size, 0 + 1, none⟩) : Value)) ?_
        exact StepFrom.load hop (p := (.pointer (some ⟨w.heap.size, 0 + 1, none⟩) : Value)) (by kernel_rfl) (load_int ((hQS.cell (p := ⟨w.heap.size, 0 + 1, none⟩) lg).trans g1)) (by kernel_rfl) hQS (Below.refl _ _) rfl
      refine StepsT.cons (fun (x : Value) (_ : World) => x = (.pointer (some ⟨w2.heap.size, 0, none⟩) : Value)) [] rfl rfl (fun oq hop _ wq hQS => ?_) ?_
      · exact StepFrom.fieldAddr hop (p := (.pointer (some ⟨w2.heap.size, 0, none⟩) : Value)) (by kernel_rfl) (has_field 0 (by decide)) (by kernel_rfl) hQS (Below.refl _ _) rfl
      refine StepsT.cons (fun (x : Value) (_ : World) => x = (.bool nm : Value)) [(14, (fun (x : Value) (_ : World) => x = (.pointer (some ⟨w2.heap.size, 0, none⟩) : Value)))] rfl rfl (fun oq hop _ wq hQS => ?_) ?_
      · refine StepFrom.more_eq ((.pointer (some ⟨w2.heap.size, 0, none⟩) : Value)) ?_
        exact StepFrom.load hop (p := (.pointer (some ⟨w2.heap.size, 0, none⟩) : Value)) (by kernel_rfl) (load_bool ((hQS.cell (p := ⟨w2.heap.size, 0, none⟩) ld).trans d0)) (by kernel_rfl) hQS (Below.refl _ _) rfl
      refine StepsT.cons (fun (x : Value) (_ : World) => x = (.bool r1 : Value)) [(13, (fun (x : Value) (_ : World) => x = (.int .i64 n : Value))), (15, (fun (x : Value) (_ : World) => x = (.bool nm : Value)))] rfl rfl (fun oq hop _ wq hQS => ?_) ?_
      · refine StepFrom.more_eq ((.int .i64 n : Value)) ?_
        refine StepFrom.more_eq ((.bool nm : Value)) ?_
        exact StepFrom.call hop (vs := [(.int .i64 n : Value), (.bool nm : Value)]) (by kernel_rfl) (fun w => enter_number _ w) (by kernel_rfl) ((HN1.out wq).mono fun e w9 h9 => by obtain ⟨q1, q2⟩ := h9; exact ⟨_, q1, hQS.trans (q2.mono hQS.size), q2, rfl⟩)
      refine StepsT.cons (fun (x : Value) (_ : World) => x = (.bool r1 : Value)) [(16, (fun (x : Value) (_ : World) => x = (.bool r1 : Value)))] rfl rfl (fun oq hop _ wq hQS => ?_) ?_
      · refine StepFrom.more_eq ((.bool r1 : Value)) ?_
        exact StepFrom.move hop (v := (.bool r1 : Value)) (by kernel_rfl) (by kernel_rfl) hQS (Below.refl _ _) rfl
      refine StepsT.cons (fun (x : Value) (_ : World) => x = gv r1 (.pointer (some ⟨w.heap.size, 0 + 2, none⟩))) [(17, (fun (x : Value) (_ : World) => x = (.bool r1 : Value)))] rfl rfl (fun oq hop _ wq hQS => ?_) ?_
      · rcases r1 with _ | _
        · refine StepFrom.more_eq ((.bool false : Value)) ?_
          exact StepFrom.off (by kernel_rfl) hQS (Below.refl _ _) rfl
        · refine StepFrom.more_eq ((.bool true : Value)) ?_
          exact StepFrom.fieldAddr hop (p := (.pointer (some ⟨w.heap.size, 0, none⟩) : Value)) (by kernel_rfl) (term_field 2 (by decide)) (by kernel_rfl) hQS (Below.refl _ _) rfl
      refine StepsT.cons (fun (x : Value) (_ : World) => x = gv r1 (.int .i64 a)) [(17, (fun (x : Value) (_ : World) => x = (.bool r1 : Value))), (18, (fun (x : Value) (_ : World) => x = gv r1 (.pointer (some ⟨w.heap.size, 0 + 2, none⟩))))] rfl rfl (fun oq hop _ wq hQS => ?_) ?_
      · rcases r1 with _ | _
        · refine StepFrom.more_eq ((.bool false : Value)) ?_
          refine StepFrom.more_eq (undef) ?_
          exact StepFrom.off (by kernel_rfl) hQS (Below.refl _ _) rfl
        · refine StepFrom.more_eq ((.bool true : Value)) ?_
          refine StepFrom.more_eq ((.pointer (some ⟨w.heap.size, 0 + 2, none⟩) : Value)) ?_
          exact StepFrom.load hop (p := (.pointer (some ⟨w.heap.size, 0 + 2, none⟩) : Value)) (by kernel_rfl) (load_int ((hQS.cell (p := ⟨w.heap.size, 0 + 2, none⟩) lg).trans g2)) (by kernel_rfl) hQS (Below.refl _ _) rfl
      refine StepsT.cons (fun (x : Value) (_ : World) => x = gv r1 (.pointer (some ⟨w2.heap.size, 1, none⟩))) [(17, (fun (x : Value) (_ : World) => x = (.bool r1 : Value)))] rfl rfl (fun oq hop _ wq hQS => ?_) ?_
      · rcases r1 with _ | _
        · refine StepFrom.more_eq ((.bool false : Value)) ?_
          exact StepFrom.off (by kernel_rfl) hQS (Below.refl _ _) rfl
        · refine StepFrom.more_eq ((.bool true : Value)) ?_
          exact StepFrom.fieldAddr hop (p := (.pointer (some ⟨w2.heap.size, 0, none⟩) : Value)) (by kernel_rfl) (has_field 1 (by decide)) (by kernel_rfl) hQS (Below.refl _ _) rfl
      refine StepsT.cons (fun (x : Value) (_ : World) => x = gv r1 (.bool at')) [(17, (fun (x : Value) (_ : World) => x = (.bool r1 : Value))), (20, (fun (x : Value) (_ : World) => x = gv r1 (.pointer (some ⟨w2.heap.size, 1, none⟩))))] rfl rfl (fun oq hop _ wq hQS => ?_) ?_
      · rcases r1 with _ | _
        · refine StepFrom.more_eq ((.bool false : Value)) ?_
          refine StepFrom.more_eq (undef) ?_
          exact StepFrom.off (by kernel_rfl) hQS (Below.refl _ _) rfl
        · refine StepFrom.more_eq ((.bool true : Value)) ?_
          refine StepFrom.more_eq ((.pointer (some ⟨w2.heap.size, 1, none⟩) : Value)) ?_
          exact StepFrom.load hop (p := (.pointer (some ⟨w2.heap.size, 1, none⟩) : Value)) (by kernel_rfl) (load_bool ((hQS.cell (p := ⟨w2.heap.size, 1, none⟩) ld).trans d1)) (by kernel_rfl) hQS (Below.refl _ _) rfl
      refine StepsT.cons (fun (x : Value) (_ : World) => x = gv r1 (.bool r2)) [(17, (fun (x : Value) (_ : World) => x = (.bool r1 : Value))), (19, (fun (x : Value) (_ : World) => x = gv r1 (.int .i64 a))), (21, (fun (x : Value) (_ : World) => x = gv r1 (.bool at')))] rfl rfl (fun oq hop _ wq hQS => ?_) ?_
      · rcases r1 with _ | _
        · refine StepFrom.more_eq ((.bool false : Value)) ?_
          refine StepFrom.more_eq (undef) ?_
          refine StepFrom.more_eq (undef) ?_
          exact StepFrom.off (by kernel_rfl) hQS (Below.refl _ _) rfl
        · refine StepFrom.more_eq ((.bool true : Value)) ?_
          refine StepFrom.more_eq ((.int .i64 a : Value)) ?_
          refine StepFrom.more_eq ((.bool at' : Value)) ?_
          exact StepFrom.call hop (vs := [(.int .i64 a : Value), (.bool at' : Value)]) (by kernel_rfl) (fun w => enter_number _ w) (by kernel_rfl) ((HN2.out wq).mono fun e w9 h9 => by obtain ⟨q1, q2⟩ := h9; exact ⟨_, q1, hQS.trans (q2.mono hQS.size), q2, rfl⟩)
      refine StepsT.cons (fun (x : Value) (_ : World) => x = (.bool (r1 && r2) : Value)) [(17, (fun (x : Value) (_ : World) => x = (.bool r1 : Value))), (22, (fun (x : Value) (_ : World) => x = gv r1 (.bool r2)))] rfl rfl (fun oq hop _ wq hQS => ?_) ?_
      · refine StepFrom.more_eq ((.bool r1 : Value)) ?_
        refine StepFrom.more_eq (gv r1 (.bool r2)) ?_
        exact StepFrom.pick hop (b := r1) (vx := gv r1 (.bool r2)) (vy := (Value.bool false : Value)) (by kernel_rfl) (by kernel_rfl) (by kernel_rfl) (by kernel_rfl) hQS (Below.refl _ _) (by cases r1 <;> cases r2 <;> rfl)
      refine StepsT.cons (fun (x : Value) (_ : World) => x = (.bool (r1 && r2) : Value)) [(23, (fun (x : Value) (_ : World) => x = (.bool (r1 && r2) : Value)))] rfl rfl (fun oq hop _ wq hQS => ?_) ?_
      · refine StepFrom.more_eq ((.bool (r1 && r2) : Value)) ?_
        exact StepFrom.move hop (v := (.bool (r1 && r2) : Value)) (by kernel_rfl) (by kernel_rfl) hQS (Below.refl _ _) rfl
      refine StepsT.cons (fun (x : Value) (_ : World) => x = gv (r1 && r2) (.pointer (some ⟨w.heap.size, 0 + 3, none⟩))) [(24, (fun (x : Value) (_ : World) => x = (.bool (r1 && r2) : Value)))] rfl rfl (fun oq hop _ wq hQS => ?_) ?_
      · rcases r1 with _ | _
        · rcases r2 with _ | _
          · refine StepFrom.more_eq ((.bool (false && false) : Value)) ?_
            exact StepFrom.off (by kernel_rfl) hQS (Below.refl _ _) rfl
          · refine StepFrom.more_eq ((.bool (false && true) : Value)) ?_
            exact StepFrom.off (by kernel_rfl) hQS (Below.refl _ _) rfl
        · rcases r2 with _ | _
          · refine StepFrom.more_eq ((.bool (true && false) : Value)) ?_
            exact StepFrom.off (by kernel_rfl) hQS (Below.refl _ _) rfl
          · refine StepFrom.more_eq ((.bool (true && true) : Value)) ?_
            exact StepFrom.fieldAddr hop (p := (.pointer (some ⟨w.heap.size, 0, none⟩) : Value)) (by kernel_rfl) (term_field 3 (by decide)) (by kernel_rfl) hQS (Below.refl _ _) rfl
      refine StepsT.cons (fun (x : Value) (_ : World) => x = gv (r1 && r2) (.slice A1 p1 c1)) [(24, (fun (x : Value) (_ : World) => x = (.bool (r1 && r2) : Value))), (25, (fun (x : Value) (_ : World) => x = gv (r1 && r2) (.pointer (some ⟨w.heap.size, 0 + 3, none⟩))))] rfl rfl (fun oq hop _ wq hQS => ?_) ?_
      · rcases r1 with _ | _
        · rcases r2 with _ | _
          · refine StepFrom.more_eq ((.bool (false && false) : Value)) ?_
            refine StepFrom.more_eq (undef) ?_
            exact StepFrom.off (by kernel_rfl) hQS (Below.refl _ _) rfl
          · refine StepFrom.more_eq ((.bool (false && true) : Value)) ?_
            refine StepFrom.more_eq (undef) ?_
            exact StepFrom.off (by kernel_rfl) hQS (Below.refl _ _) rfl
        · rcases r2 with _ | _
          · refine StepFrom.more_eq ((.bool (true && false) : Value)) ?_
            refine StepFrom.more_eq (undef) ?_
            exact StepFrom.off (by kernel_rfl) hQS (Below.refl _ _) rfl
          · refine StepFrom.more_eq ((.bool (true && true) : Value)) ?_
            refine StepFrom.more_eq ((.pointer (some ⟨w.heap.size, 0 + 3, none⟩) : Value)) ?_
            exact StepFrom.load hop (p := (.pointer (some ⟨w.heap.size, 0 + 3, none⟩) : Value)) (by kernel_rfl) (load_levels ((hQS.cell (p := ⟨w.heap.size, 0 + 3, none⟩) lg).trans g3)) (by kernel_rfl) hQS (Below.refl _ _) rfl
      refine StepsT.cons (fun (x : Value) (_ : World) => x = gv (r1 && r2) (.pointer (some ⟨w2.heap.size, 2, none⟩))) [(24, (fun (x : Value) (_ : World) => x = (.bool (r1 && r2) : Value)))] rfl rfl (fun oq hop _ wq hQS => ?_) ?_
      · rcases r1 with _ | _
        · rcases r2 with _ | _
          · refine StepFrom.more_eq ((.bool (false && false) : Value)) ?_
            exact StepFrom.off (by kernel_rfl) hQS (Below.refl _ _) rfl
          · refine StepFrom.more_eq ((.bool (false && true) : Value)) ?_
            exact StepFrom.off (by kernel_rfl) hQS (Below.refl _ _) rfl
        · rcases r2 with _ | _
          · refine StepFrom.more_eq ((.bool (true && false) : Value)) ?_
            exact StepFrom.off (by kernel_rfl) hQS (Below.refl _ _) rfl
          · refine StepFrom.more_eq ((.bool (true && true) : Value)) ?_
            exact StepFrom.fieldAddr hop (p := (.pointer (some ⟨w2.heap.size, 0, none⟩) : Value)) (by kernel_rfl) (has_field 2 (by decide)) (by kernel_rfl) hQS (Below.refl _ _) rfl
      refine StepsT.cons (fun (x : Value) (_ : World) => x = gv (r1 && r2) (.int .i64 fw)) [(24, (fun (x : Value) (_ : World) => x = (.bool (r1 && r2) : Value))), (27, (fun (x : Value) (_ : World) => x = gv (r1 && r2) (.pointer (some ⟨w2.heap.size, 2, none⟩))))] rfl rfl (fun oq hop _ wq hQS => ?_) ?_
      · rcases r1 with _ | _
        · rcases r2 with _ | _
          · refine StepFrom.more_eq ((.bool (false && false) : Value)) ?_
            refine StepFrom.more_eq (undef) ?_
            exact StepFrom.off (by kernel_rfl) hQS (Below.refl _ _) rfl
          · refine StepFrom.more_eq ((.bool (false && true) : Value)) ?_
            refine StepFrom.more_eq (undef) ?_
            exact StepFrom.off (by kernel_rfl) hQS (Below.refl _ _) rfl
        · rcases r2 with _ | _
          · refine StepFrom.more_eq ((.bool (true && false) : Value)) ?_
            refine StepFrom.more_eq (undef) ?_
            exact StepFrom.off (by kernel_rfl) hQS (Below.refl _ _) rfl
          · refine StepFrom.more_eq ((.bool (true && true) : Value)) ?_
            refine StepFrom.more_eq ((.pointer (some ⟨w2.heap.size, 2, none⟩) : Value)) ?_
            exact StepFrom.load hop (p := (.pointer (some ⟨w2.heap.size, 2, none⟩) : Value)) (by kernel_rfl) (load_int ((hQS.cell (p := ⟨w2.heap.size, 2, none⟩) ld).trans d2)) (by kernel_rfl) hQS (Below.refl _ _) rfl
      refine StepsT.cons (fun (x : Value) (_ : World) => x = gv (r1 && r2) (.bool r3)) [(24, (fun (x : Value) (_ : World) => x = (.bool (r1 && r2) : Value))), (26, (fun (x : Value) (_ : World) => x = gv (r1 && r2) (.slice A1 p1 c1))), (28, (fun (x : Value) (_ : World) => x = gv (r1 && r2) (.int .i64 fw)))] rfl rfl (fun oq hop _ wq hQS => ?_) ?_
      · rcases r1 with _ | _
        · rcases r2 with _ | _
          · refine StepFrom.more_eq ((.bool (false && false) : Value)) ?_
            refine StepFrom.more_eq (undef) ?_
            refine StepFrom.more_eq (undef) ?_
            exact StepFrom.off (by kernel_rfl) hQS (Below.refl _ _) rfl
          · refine StepFrom.more_eq ((.bool (false && true) : Value)) ?_
            refine StepFrom.more_eq (undef) ?_
            refine StepFrom.more_eq (undef) ?_
            exact StepFrom.off (by kernel_rfl) hQS (Below.refl _ _) rfl
        · rcases r2 with _ | _
          · refine StepFrom.more_eq ((.bool (true && false) : Value)) ?_
            refine StepFrom.more_eq (undef) ?_
            refine StepFrom.more_eq (undef) ?_
            exact StepFrom.off (by kernel_rfl) hQS (Below.refl _ _) rfl
          · refine StepFrom.more_eq ((.bool (true && true) : Value)) ?_
            refine StepFrom.more_eq ((.slice A1 p1 c1 : Value)) ?_
            refine StepFrom.more_eq ((.int .i64 fw : Value)) ?_
            exact StepFrom.call hop (vs := [(.slice A1 p1 c1 : Value), (.int .i64 fw : Value)]) (by kernel_rfl) (fun w => enter_levels _ w) (by kernel_rfl) ((HL3.out wq (HB3.out.trans (hQS.mono HB3.out.size))).mono fun e w9 h9 => by obtain ⟨q1, q2⟩ := h9; exact ⟨_, q1, hQS.trans (q2.mono hQS.size), q2, rfl⟩)
      refine StepsT.cons (fun (x : Value) (_ : World) => x = (.bool ((r1 && r2) && r3) : Value)) [(24, (fun (x : Value) (_ : World) => x = (.bool (r1 && r2) : Value))), (29, (fun (x : Value) (_ : World) => x = gv (r1 && r2) (.bool r3)))] rfl rfl (fun oq hop _ wq hQS => ?_) ?_
      · refine StepFrom.more_eq ((.bool (r1 && r2) : Value)) ?_
        refine StepFrom.more_eq (gv (r1 && r2) (.bool r3)) ?_
        exact StepFrom.pick hop (b := (r1 && r2)) (vx := gv (r1 && r2) (.bool r3)) (vy := (Value.bool false : Value)) (by kernel_rfl) (by kernel_rfl) (by kernel_rfl) (by kernel_rfl) hQS (Below.refl _ _) (by cases r1 <;> cases r2 <;> cases r3 <;> rfl)
      refine StepsT.cons (fun (x : Value) (_ : World) => x = (.bool ((r1 && r2) && r3) : Value)) [(30, (fun (x : Value) (_ : World) => x = (.bool ((r1 && r2) && r3) : Value)))] rfl rfl (fun oq hop _ wq hQS => ?_) ?_
      · refine StepFrom.more_eq ((.bool ((r1 && r2) && r3) : Value)) ?_
        exact StepFrom.move hop (v := (.bool ((r1 && r2) && r3) : Value)) (by kernel_rfl) (by kernel_rfl) hQS (Below.refl _ _) rfl
      refine StepsT.cons (fun (x : Value) (_ : World) => x = gv ((r1 && r2) && r3) (.pointer (some ⟨w.heap.size, 0 + 4, none⟩))) [(31, (fun (x : Value) (_ : World) => x = (.bool ((r1 && r2) && r3) : Value)))] rfl rfl (fun oq hop _ wq hQS => ?_) ?_
      · rcases r1 with _ | _
        · rcases r2 with _ | _
          · rcases r3 with _ | _
            · refine StepFrom.more_eq ((.bool ((false && false) && false) : Value)) ?_
              exact StepFrom.off (by kernel_rfl) hQS (Below.refl _ _) rfl
            · refine StepFrom.more_eq ((.bool ((false && false) && true) : Value)) ?_
              exact StepFrom.off (by kernel_rfl) hQS (Below.refl _ _) rfl
          · rcases r3 with _ | _
            · refine StepFrom.more_eq ((.bool ((false && true) && false) : Value)) ?_
              exact StepFrom.off (by kernel_rfl) hQS (Below.refl _ _) rfl
            · refine StepFrom.more_eq ((.bool ((false && true) && true) : Value)) ?_
              exact StepFrom.off (by kernel_rfl) hQS (Below.refl _ _) rfl
        · rcases r2 with _ | _
          · rcases r3 with _ | _
            · refine StepFrom.more_eq ((.bool ((true && false) && false) : Value)) ?_
              exact StepFrom.off (by kernel_rfl) hQS (Below.refl _ _) rfl
            · refine StepFrom.more_eq ((.bool ((true && false) && true) : Value)) ?_
              exact StepFrom.off (by kernel_rfl) hQS (Below.refl _ _) rfl
          · rcases r3 with _ | _
            · refine StepFrom.more_eq ((.bool ((true && true) && false) : Value)) ?_
              exact StepFrom.off (by kernel_rfl) hQS (Below.refl _ _) rfl
            · refine StepFrom.more_eq ((.bool ((true && true) && true) : Value)) ?_
              exact StepFrom.fieldAddr hop (p := (.pointer (some ⟨w.heap.size, 0, none⟩) : Value)) (by kernel_rfl) (term_field 4 (by decide)) (by kernel_rfl) hQS (Below.refl _ _) rfl
      refine StepsT.cons (fun (x : Value) (_ : World) => x = gv ((r1 && r2) && r3) (.slice A2 p2 c2)) [(31, (fun (x : Value) (_ : World) => x = (.bool ((r1 && r2) && r3) : Value))), (32, (fun (x : Value) (_ : World) => x = gv ((r1 && r2) && r3) (.pointer (some ⟨w.heap.size, 0 + 4, none⟩))))] rfl rfl (fun oq hop _ wq hQS => ?_) ?_
      · rcases r1 with _ | _
        · rcases r2 with _ | _
          · rcases r3 with _ | _
            · refine StepFrom.more_eq ((.bool ((false && false) && false) : Value)) ?_
              refine StepFrom.more_eq (undef) ?_
              exact StepFrom.off (by kernel_rfl) hQS (Below.refl _ _) rfl
            · refine StepFrom.more_eq ((.bool ((false && false) && true) : Value)) ?_
              refine StepFrom.more_eq (undef) ?_
              exact StepFrom.off (by kernel_rfl) hQS (Below.refl _ _) rfl
          · rcases r3 with _ | _
            · refine StepFrom.more_eq ((.bool ((false && true) && false) : Value)) ?_
              refine StepFrom.more_eq (undef) ?_
              exact StepFrom.off (by kernel_rfl) hQS (Below.refl _ _) rfl
            · refine StepFrom.more_eq ((.bool ((false && true) && true) : Value)) ?_
              refine StepFrom.more_eq (undef) ?_
              exact StepFrom.off (by kernel_rfl) hQS (Below.refl _ _) rfl
        · rcases r2 with _ | _
          · rcases r3 with _ | _
            · refine StepFrom.more_eq ((.bool ((true && false) && false) : Value)) ?_
              refine StepFrom.more_eq (undef) ?_
              exact StepFrom.off (by kernel_rfl) hQS (Below.refl _ _) rfl
            · refine StepFrom.more_eq ((.bool ((true && false) && true) : Value)) ?_
              refine StepFrom.more_eq (undef) ?_
              exact StepFrom.off (by kernel_rfl) hQS (Below.refl _ _) rfl
          · rcases r3 with _ | _
            · refine StepFrom.more_eq ((.bool ((true && true) && false) : Value)) ?_
              refine StepFrom.more_eq (undef) ?_
              exact StepFrom.off (by kernel_rfl) hQS (Below.refl _ _) rfl
            · refine StepFrom.more_eq ((.bool ((true && true) && true) : Value)) ?_
              refine StepFrom.more_eq ((.pointer (some ⟨w.heap.size, 0 + 4, none⟩) : Value)) ?_
              exact StepFrom.load hop (p := (.pointer (some ⟨w.heap.size, 0 + 4, none⟩) : Value)) (by kernel_rfl) (load_terms ((hQS.cell (p := ⟨w.heap.size, 0 + 4, none⟩) lg).trans g4)) (by kernel_rfl) hQS (Below.refl _ _) rfl
      refine StepsT.cons (fun (x : Value) (_ : World) => x = gv ((r1 && r2) && r3) (.int .i64 (p2 : Int))) [(31, (fun (x : Value) (_ : World) => x = (.bool ((r1 && r2) && r3) : Value))), (33, (fun (x : Value) (_ : World) => x = gv ((r1 && r2) && r3) (.slice A2 p2 c2)))] rfl rfl (fun oq hop _ wq hQS => ?_) ?_
      · rcases r1 with _ | _
        · rcases r2 with _ | _
          · rcases r3 with _ | _
            · refine StepFrom.more_eq ((.bool ((false && false) && false) : Value)) ?_
              refine StepFrom.more_eq (undef) ?_
              exact StepFrom.off (by kernel_rfl) hQS (Below.refl _ _) rfl
            · refine StepFrom.more_eq ((.bool ((false && false) && true) : Value)) ?_
              refine StepFrom.more_eq (undef) ?_
              exact StepFrom.off (by kernel_rfl) hQS (Below.refl _ _) rfl
          · rcases r3 with _ | _
            · refine StepFrom.more_eq ((.bool ((false && true) && false) : Value)) ?_
              refine StepFrom.more_eq (undef) ?_
              exact StepFrom.off (by kernel_rfl) hQS (Below.refl _ _) rfl
            · refine StepFrom.more_eq ((.bool ((false && true) && true) : Value)) ?_
              refine StepFrom.more_eq (undef) ?_
              exact StepFrom.off (by kernel_rfl) hQS (Below.refl _ _) rfl
        · rcases r2 with _ | _
          · rcases r3 with _ | _
            · refine StepFrom.more_eq ((.bool ((true && false) && false) : Value)) ?_
              refine StepFrom.more_eq (undef) ?_
              exact StepFrom.off (by kernel_rfl) hQS (Below.refl _ _) rfl
            · refine StepFrom.more_eq ((.bool ((true && false) && true) : Value)) ?_
              refine StepFrom.more_eq (undef) ?_
              exact StepFrom.off (by kernel_rfl) hQS (Below.refl _ _) rfl
          · rcases r3 with _ | _
            · refine StepFrom.more_eq ((.bool ((true && true) && false) : Value)) ?_
              refine StepFrom.more_eq (undef) ?_
              exact StepFrom.off (by kernel_rfl) hQS (Below.refl _ _) rfl
            · refine StepFrom.more_eq ((.bool ((true && true) && true) : Value)) ?_
              refine StepFrom.more_eq ((.slice A2 p2 c2 : Value)) ?_
              exact StepFrom.lenT hop (show _ = (.slice A2 p2 c2 : Value) by kernel_rfl) (by kernel_rfl) hQS (Below.refl _ _) rfl
      refine StepsT.cons (fun (x : Value) (_ : World) => x = gv ((r1 && r2) && r3) (.agg #[.int .i64 (j : Int), .int .i64 n, .int .i64 a, .slice A1 p1 c1, .slice A2 p2 c2])) [(31, (fun (x : Value) (_ : World) => x = (.bool ((r1 && r2) && r3) : Value)))] rfl rfl (fun oq hop _ wq hQS => ?_) ?_
      · rcases r1 with _ | _
        · rcases r2 with _ | _
          · rcases r3 with _ | _
            · refine StepFrom.more_eq ((.bool ((false && false) && false) : Value)) ?_
              exact StepFrom.off (by kernel_rfl) hQS (Below.refl _ _) rfl
            · refine StepFrom.more_eq ((.bool ((false && false) && true) : Value)) ?_
              exact StepFrom.off (by kernel_rfl) hQS (Below.refl _ _) rfl
          · rcases r3 with _ | _
            · refine StepFrom.more_eq ((.bool ((false && true) && false) : Value)) ?_
              exact StepFrom.off (by kernel_rfl) hQS (Below.refl _ _) rfl
            · refine StepFrom.more_eq ((.bool ((false && true) && true) : Value)) ?_
              exact StepFrom.off (by kernel_rfl) hQS (Below.refl _ _) rfl
        · rcases r2 with _ | _
          · rcases r3 with _ | _
            · refine StepFrom.more_eq ((.bool ((true && false) && false) : Value)) ?_
              exact StepFrom.off (by kernel_rfl) hQS (Below.refl _ _) rfl
            · refine StepFrom.more_eq ((.bool ((true && false) && true) : Value)) ?_
              exact StepFrom.off (by kernel_rfl) hQS (Below.refl _ _) rfl
          · rcases r3 with _ | _
            · refine StepFrom.more_eq ((.bool ((true && true) && false) : Value)) ?_
              exact StepFrom.off (by kernel_rfl) hQS (Below.refl _ _) rfl
            · refine StepFrom.more_eq ((.bool ((true && true) && true) : Value)) ?_
              exact StepFrom.load hop (p := (.pointer (some ⟨w.heap.size, 0, none⟩) : Value)) (by kernel_rfl) (load_term ((hQS.cell (p := ⟨w.heap.size, 0, none⟩) lg).trans g0) ((hQS.cell (p := ⟨w.heap.size, 0 + 1, none⟩) lg).trans g1) ((hQS.cell (p := ⟨w.heap.size, 0 + 2, none⟩) lg).trans g2) ((hQS.cell (p := ⟨w.heap.size, 0 + 3, none⟩) lg).trans g3) ((hQS.cell (p := ⟨w.heap.size, 0 + 4, none⟩) lg).trans g4)) (by kernel_rfl) hQS (Below.refl _ _) rfl
      refine StepsT.cons (fun (x : Value) (_ : World) => x = gv ((r1 && r2) && r3) (.int .i64 ki)) [(31, (fun (x : Value) (_ : World) => x = (.bool ((r1 && r2) && r3) : Value))), (35, (fun (x : Value) (_ : World) => x = gv ((r1 && r2) && r3) (.agg #[.int .i64 (j : Int), .int .i64 n, .int .i64 a, .slice A1 p1 c1, .slice A2 p2 c2])))] rfl rfl (fun oq hop _ wq hQS => ?_) ?_
      · rcases r1 with _ | _
        · rcases r2 with _ | _
          · rcases r3 with _ | _
            · refine StepFrom.more_eq ((.bool ((false && false) && false) : Value)) ?_
              refine StepFrom.more_eq (undef) ?_
              exact StepFrom.off (by kernel_rfl) hQS (Below.refl _ _) rfl
            · refine StepFrom.more_eq ((.bool ((false && false) && true) : Value)) ?_
              refine StepFrom.more_eq (undef) ?_
              exact StepFrom.off (by kernel_rfl) hQS (Below.refl _ _) rfl
          · rcases r3 with _ | _
            · refine StepFrom.more_eq ((.bool ((false && true) && false) : Value)) ?_
              refine StepFrom.more_eq (undef) ?_
              exact StepFrom.off (by kernel_rfl) hQS (Below.refl _ _) rfl
            · refine StepFrom.more_eq ((.bool ((false && true) && true) : Value)) ?_
              refine StepFrom.more_eq (undef) ?_
              exact StepFrom.off (by kernel_rfl) hQS (Below.refl _ _) rfl
        · rcases r2 with _ | _
          · rcases r3 with _ | _
            · refine StepFrom.more_eq ((.bool ((true && false) && false) : Value)) ?_
              refine StepFrom.more_eq (undef) ?_
              exact StepFrom.off (by kernel_rfl) hQS (Below.refl _ _) rfl
            · refine StepFrom.more_eq ((.bool ((true && false) && true) : Value)) ?_
              refine StepFrom.more_eq (undef) ?_
              exact StepFrom.off (by kernel_rfl) hQS (Below.refl _ _) rfl
          · rcases r3 with _ | _
            · refine StepFrom.more_eq ((.bool ((true && true) && false) : Value)) ?_
              refine StepFrom.more_eq (undef) ?_
              exact StepFrom.off (by kernel_rfl) hQS (Below.refl _ _) rfl
            · refine StepFrom.more_eq ((.bool ((true && true) && true) : Value)) ?_
              refine StepFrom.more_eq ((.agg #[.int .i64 (j : Int), .int .i64 n, .int .i64 a, .slice A1 p1 c1, .slice A2 p2 c2] : Value)) ?_
              exact StepFrom.call hop (vs := [(.agg #[.int .i64 (j : Int), .int .i64 n, .int .i64 a, .slice A1 p1 c1, .slice A2 p2 c2] : Value)]) (by kernel_rfl) (fun w => enter_kids _ w) (by kernel_rfl) ((HK4.out wq (HB3.out.trans (hQS.mono HB3.out.size))).mono fun e w9 h9 => by obtain ⟨q1, q2⟩ := h9; exact ⟨_, q1, hQS.trans (q2.mono hQS.size), q2, rfl⟩)
      refine StepsT.cons (fun (x : Value) (_ : World) => x = gv ((r1 && r2) && r3) (.bool ((p2 : Int) == ki))) [(31, (fun (x : Value) (_ : World) => x = (.bool ((r1 && r2) && r3) : Value))), (34, (fun (x : Value) (_ : World) => x = gv ((r1 && r2) && r3) (.int .i64 (p2 : Int)))), (36, (fun (x : Value) (_ : World) => x = gv ((r1 && r2) && r3) (.int .i64 ki)))] rfl rfl (fun oq hop _ wq hQS => ?_) ?_
      · rcases r1 with _ | _
        · rcases r2 with _ | _
          · rcases r3 with _ | _
            · refine StepFrom.more_eq ((.bool ((false && false) && false) : Value)) ?_
              refine StepFrom.more_eq (undef) ?_
              refine StepFrom.more_eq (undef) ?_
              exact StepFrom.off (by kernel_rfl) hQS (Below.refl _ _) rfl
            · refine StepFrom.more_eq ((.bool ((false && false) && true) : Value)) ?_
              refine StepFrom.more_eq (undef) ?_
              refine StepFrom.more_eq (undef) ?_
              exact StepFrom.off (by kernel_rfl) hQS (Below.refl _ _) rfl
          · rcases r3 with _ | _
            · refine StepFrom.more_eq ((.bool ((false && true) && false) : Value)) ?_
              refine StepFrom.more_eq (undef) ?_
              refine StepFrom.more_eq (undef) ?_
              exact StepFrom.off (by kernel_rfl) hQS (Below.refl _ _) rfl
            · refine StepFrom.more_eq ((.bool ((false && true) && true) : Value)) ?_
              refine StepFrom.more_eq (undef) ?_
              refine StepFrom.more_eq (undef) ?_
              exact StepFrom.off (by kernel_rfl) hQS (Below.refl _ _) rfl
        · rcases r2 with _ | _
          · rcases r3 with _ | _
            · refine StepFrom.more_eq ((.bool ((true && false) && false) : Value)) ?_
              refine StepFrom.more_eq (undef) ?_
              refine StepFrom.more_eq (undef) ?_
              exact StepFrom.off (by kernel_rfl) hQS (Below.refl _ _) rfl
            · refine StepFrom.more_eq ((.bool ((true && false) && true) : Value)) ?_
              refine StepFrom.more_eq (undef) ?_
              refine StepFrom.more_eq (undef) ?_
              exact StepFrom.off (by kernel_rfl) hQS (Below.refl _ _) rfl
          · rcases r3 with _ | _
            · refine StepFrom.more_eq ((.bool ((true && true) && false) : Value)) ?_
              refine StepFrom.more_eq (undef) ?_
              refine StepFrom.more_eq (undef) ?_
              exact StepFrom.off (by kernel_rfl) hQS (Below.refl _ _) rfl
            · refine StepFrom.more_eq ((.bool ((true && true) && true) : Value)) ?_
              refine StepFrom.more_eq ((.int .i64 (p2 : Int) : Value)) ?_
              refine StepFrom.more_eq ((.int .i64 ki : Value)) ?_
              exact StepFrom.bin hop (vx := (.int .i64 (p2 : Int) : Value)) (vy := (.int .i64 ki : Value)) (by kernel_rfl) (by kernel_rfl) (eql_ints _ _ _ _ _) (by kernel_rfl) hQS (Below.refl _ _) rfl
      refine StepsT.cons (fun (x : Value) (_ : World) => x = (.bool (((r1 && r2) && r3) && ((p2 : Int) == ki)) : Value)) [(31, (fun (x : Value) (_ : World) => x = (.bool ((r1 && r2) && r3) : Value))), (37, (fun (x : Value) (_ : World) => x = gv ((r1 && r2) && r3) (.bool ((p2 : Int) == ki))))] rfl rfl (fun oq hop _ wq hQS => ?_) ?_
      · refine StepFrom.more_eq ((.bool ((r1 && r2) && r3) : Value)) ?_
        refine StepFrom.more_eq (gv ((r1 && r2) && r3) (.bool ((p2 : Int) == ki))) ?_
        exact StepFrom.pick hop (b := ((r1 && r2) && r3)) (vx := gv ((r1 && r2) && r3) (.bool ((p2 : Int) == ki))) (vy := (Value.bool false : Value)) (by kernel_rfl) (by kernel_rfl) (by kernel_rfl) (by kernel_rfl) hQS (Below.refl _ _) (by cases r1 <;> cases r2 <;> cases r3 <;> rfl)
      refine StepsT.cons (fun (x : Value) (_ : World) => x = (.bool (((r1 && r2) && r3) && ((p2 : Int) == ki)) : Value)) [(38, (fun (x : Value) (_ : World) => x = (.bool (((r1 && r2) && r3) && ((p2 : Int) == ki)) : Value)))] rfl rfl (fun oq hop _ wq hQS => ?_) ?_
      · refine StepFrom.more_eq ((.bool (((r1 && r2) && r3) && ((p2 : Int) == ki)) : Value)) ?_
        exact StepFrom.assign hop (v := (.bool (((r1 && r2) && r3) && ((p2 : Int) == ki)) : Value)) (by kernel_rfl) (by kernel_rfl) hQS (Below.refl _ _) rfl
      exact StepsT.nil
    case hfin =>
      intro wf hFS
      refine FinalFrom.more fun x12 h12 => ?_
      refine FinalFrom.more fun x13 h13 => ?_
      refine FinalFrom.more fun x14 h14 => ?_
      refine FinalFrom.more fun x15 h15 => ?_
      refine FinalFrom.more fun x16 h16 => ?_
      refine FinalFrom.more fun x17 h17 => ?_
      refine FinalFrom.more fun x18 h18 => ?_
      refine FinalFrom.more fun x19 h19 => ?_
      refine FinalFrom.more fun x20 h20 => ?_
      refine FinalFrom.more fun x21 h21 => ?_
      refine FinalFrom.more fun x22 h22 => ?_
      refine FinalFrom.more fun x23 h23 => ?_
      refine FinalFrom.more fun x24 h24 => ?_
      refine FinalFrom.more fun x25 h25 => ?_
      refine FinalFrom.more fun x26 h26 => ?_
      refine FinalFrom.more fun x27 h27 => ?_
      refine FinalFrom.more fun x28 h28 => ?_
      refine FinalFrom.more fun x29 h29 => ?_
      refine FinalFrom.more fun x30 h30 => ?_
      refine FinalFrom.more fun x31 h31 => ?_
      refine FinalFrom.more fun x32 h32 => ?_
      refine FinalFrom.more fun x33 h33 => ?_
      refine FinalFrom.more fun x34 h34 => ?_
      refine FinalFrom.more fun x35 h35 => ?_
      refine FinalFrom.more fun x36 h36 => ?_
      refine FinalFrom.more fun x37 h37 => ?_
      refine FinalFrom.more fun x38 h38 => ?_
      refine FinalFrom.more fun x2 h2 => ?_
      refine FinalFrom.done ?_
      have HF : Hid (HasPost w (ofKindB (j : Int) n a lv p2) (.returned x2) wf) := ⟨by
        rw [HRES.out, h2], HB3.out.trans (hFS.mono HB3.out.size)⟩
      clear hS hFS HRES h2
      simp only [Act.put, List.setIfInBounds_toArray, List.set_cons_zero, List.set_cons_succ]
      go_wp2
      go_ret
      exact HF.out
  · have e : (decide (1 ≤ k) && decide (k ≤ 24)) = false := by
      rw [Bool.and_eq_false_iff]
      simp only [decide_eq_false_iff_not]
      omega
    rw [e] at HK
    have HF : Hid (ofKindB k n a lv p2 = false) := by
      show _ = _
      unfold ofKindB
      rw [e, Bool.false_and]
    clear hf hp1 hK h1 hb1 x1 hs1 e hk h0
    go_enter Tryd.func68, Tryd.ntmps68
    go_wp2_with (fail)
    refine HK.out.mono ?_
    rintro e w2 ⟨rfl, hb2⟩
    have HB2 : Hid (Below w.heap.size w w2) := HB1.out.trans (hb2.mono HB1.out.size)
    clear hb2
    go_wp2
    go_ret
    exact ⟨by rw [HF.out]; rfl, HB2.out⟩
end Go.Proofs.YtfgnnbpbbnnnhaaDoor
namespace Go.Proofs.YtfgnnbpbbnnnhaaDoor
open Go.RowKit Go.Maps
mutual
/-- is a term right, so deep within, with so many nodes to have? and how many are left -/
def Tm.rightB (b deep : Int) : Tm → Bool × Int
  | .mk k n a lv kids => if b - 1 < 0 ∨ 400 < deep ∨ ofKindB k n a lv kids.length = false then (false, b - 1) else Tm.rightBL (b - 1) (deep + 1) kids
def Tm.rightBL (b deep : Int) : List Tm → Bool × Int
  | [] => (true, b)
  | t :: ts => if (t.rightB b deep).1 = true then Tm.rightBL (t.rightB b deep).2 deep ts else t.rightB b deep
end
theorem Tm.rightB_mk (b deep k n a : Int) (lv : List (List (Int × Int))) (kids : List Tm) : (Tm.mk k n a lv kids).rightB b deep = if b - 1 < 0 ∨ 400 < deep ∨ ofKindB k n a lv kids.length = false then (false, b - 1) else Tm.rightBL (b - 1) (deep + 1) kids := by rw [Tm.rightB]
theorem Tm.rightBL_cons (b deep : Int) (t : Tm) (ts : List Tm) : Tm.rightBL b deep (t :: ts) = if (t.rightB b deep).1 = true then Tm.rightBL (t.rightB b deep).2 deep ts else t.rightB b deep := by rw [Tm.rightBL]
theorem Tm.rightB_left : ∀ (t : Tm) (b deep : Int), (t.rightB b deep).1 = true → 0 ≤ (t.rightB b deep).2 ∧ (t.rightB b deep).2 < b := by
  intro t
  induction t using Tm.ind with
  | h k n a lv kids ih =>
    intro b deep h
    rw [Tm.rightB_mk] at h ⊢
    split at h
    · cases h
    · rename_i hn
      rw [if_neg hn]
      have hL : ∀ (ts : List Tm) (b : Int), (∀ t ∈ ts, t ∈ kids) → 0 ≤ b → (Tm.rightBL b (deep + 1) ts).1 = true → 0 ≤ (Tm.rightBL b (deep + 1) ts).2 ∧ (Tm.rightBL b (deep + 1) ts).2 ≤ b := by
        intro ts
        induction ts with
        | nil => intro b _ hb _; exact ⟨by rw [Tm.rightBL]; exact hb, by rw [Tm.rightBL]; exact Int.le_refl _⟩
        | cons t ts it =>
          intro b hm hb h
          rw [Tm.rightBL_cons] at h ⊢
          split at h
          · rename_i h1
            rw [if_pos h1]
            obtain ⟨q1, q2⟩ := ih t (hm t (by simp)) b (deep + 1) h1
            obtain ⟨q3, q4⟩ := it _ (fun s hs => hm s (by simp [hs])) q1 h
            exact ⟨q3, by omega⟩
          · rename_i h1
            exact absurd h h1
      have := hL kids (b - 1) (fun _ h => h) (by omega) h
      exact ⟨this.1, by omega⟩
/-- a node told right or not, the budget as it is then -/
def RightPost (w : World) (g : Nat) (r : Bool × Int) (e : Ending) (w' : World) : Prop := e = .returned (.bool r.1) ∧ w.grownBy w' (some g) ∧ w'.heap[g]? = some (.cells #[.int .i64 r.2] 82 (0, 0))
def RightTm (W : World) (B : Nat) (t : Tm) : Prop := t.fit → ∀ (b deep : Int) (w : World) (g : Nat) (v : Value), 0 ≤ b → b ≤ 20000 → 0 ≤ deep → deep ≤ 401 → Below B W w → B ≤ g → w.heap[g]? = some (.cells #[.int .i64 b] 82 (0, 0)) → TmAt W B t v →
  Calls Tryd.prog 38 #[.pointer (some ⟨g, 0, none⟩), v, .int .i64 deep] w (RightPost w g (t.rightB b deep))
set_option maxRecDepth 100000 in
set_option maxHeartbeats 4000000 in
theorem right_of (W : World) (B : Nat) (hB : 0 < B) (hK : KindsAll W) (k n a : Int) (lv : List (List (Int × Int))) (kids : List Tm) (ih : ∀ t ∈ kids, RightTm W B t) (hf : (Tm.mk k n a lv kids).fit) (b deep : Int) (w : World) (g : Nat) (A1 A2 : Option Addr) (p1 c1 p2 c2 : Nat) (hb0 : 0 ≤ b) (hb1 : b ≤ 20000) (hd0 : 0 ≤ deep) (hd1 : deep ≤ 401) (hb : Below B W w) (hg : B ≤ g)
    (hx : w.heap[g]? = some (.cells #[.int .i64 b] 82 (0, 0))) (hp1 : lv.length = p1) (hp2 : kids.length = p2) (h1 : Levs W B A1 lv) (h2 : Tms W B A2 c2 kids) :
    Calls Tryd.prog 38 #[.pointer (some ⟨g, 0, none⟩), .agg #[.int .i64 k, .int .i64 n, .int .i64 a, .slice A1 p1 c1, .slice A2 p2 c2], .int .i64 deep] w (RightPost w g ((Tm.mk k n a lv kids).rightB b deep)) := by
  have hgl := heap_some_lt hx
  obtain ⟨w1, hw1⟩ : ∃ x, w.alloc (.cells #[.int .i64 k, .int .i64 n, .int .i64 a, .slice A1 p1 c1, .slice A2 p2 c2] 27) = x := ⟨_, rfl⟩
  have hb1' : Below w.heap.size w w1 := by rw [← hw1]; exact (Below.refl _ _).alloc (Nat.le_refl _) _
  have hs1 : w1.heap.size = w.heap.size + 1 := by rw [← hw1]; simp
  have x1 : w1.heap[w.heap.size]? = some (.cells #[.int .i64 k, .int .i64 n, .int .i64 a, .slice A1 p1 c1, .slice A2 p2 c2] 27 (0, 0)) := by rw [← hw1]; exact heap_alloc_new w _
  have hx1 := (hb1'.block g hgl).trans hx
  have f1 := cell_of_one hx1
  have z1 := thawed hx1 0
  obtain ⟨w2, hw2⟩ : ∃ x, w1.setCell ⟨g, 0, none⟩ (.int .i64 (b - 1)) = x := ⟨_, rfl⟩
  have hx2 : w2.heap[g]? = some (.cells #[.int .i64 (b - 1)] 82 (0, 0)) := by rw [← hw2]; exact set_same hx1 _ _
  have hg2 : w.grownBy w2 (some g) := by rw [← hw2]; exact grown_set (grown_belowT hb1' _) _ _
  have x2 : w2.heap[w.heap.size]? = some (.cells #[.int .i64 k, .int .i64 n, .int .i64 a, .slice A1 p1 c1, .slice A2 p2 c2] 27 (0, 0)) := by rw [← hw2, Below.heap_setCell _ _ _ _ (by show w.heap.size ≠ g; omega)]; exact x1
  have hs2 : w2.heap.size = w.heap.size + 1 := by rw [← hw2]; simp [World.setCell, hs1]
  have hbw2 : Below B W w2 := hb.trans (below_grownT hg2 hg (by omega))
  have f2 := cell_of_one hx2
  have g0 := cell_of_row _ _ 0 _ _ (0, 0) x2
  have g1 := cell_of_row _ _ 1 _ _ (0, 0) x2
  have g2 := cell_of_row _ _ 2 _ _ (0, 0) x2
  have g3 := cell_of_row _ _ 3 _ _ (0, 0) x2
  have g4 := cell_of_row _ _ 4 _ _ (0, 0) x2
  have ws : IntKind.i64.wrap (b - 1) = b - 1 := IntWalk.i64_in _ (by omega)
  have HX2 := Lib.hid hx2
  have HXX2 := Lib.hid x2
  have HG2 := Lib.hid hg2
  have HBW2 := Lib.hid hbw2
  have HF := Lib.hid hf
  have HS2 := Lib.hid hs2
  obtain ⟨rk, hrk⟩ : ∃ r, ofKindB k n a lv p2 = r := ⟨_, rfl⟩
  have HO : Hid (Calls Tryd.prog 68 #[.agg #[.int .i64 k, .int .i64 n, .int .i64 a, .slice A1 p1 c1, .slice A2 p2 c2]] w2 (HasPost w2 rk)) := by
    rw [← hrk]
    exact ofKind_any k n a lv kids A1 A2 p1 c1 p2 c2 w2 hf hp1 (hK.below hbw2 hB) (h1.keep (by omega) fun _ hp => hbw2.cell hp)
  have HRB : Hid ((Tm.mk k n a lv kids).rightB b deep = if b - 1 < 0 ∨ 400 < deep ∨ rk = false then (false, b - 1) else Tm.rightBL (b - 1) (deep + 1) kids) := by
    show _ = _
    rw [Tm.rightB_mk, hp2, hrk]
  have IH := Lib.hid ih
  have HP := Lib.hid hp2
  have HT := Lib.hid h2
  have HW1 := Lib.hid hs1
  clear ih hf hx hp1 hp2 h1 h2 hK hb x1 hx1 hx2 hg2 x2 hs2 hbw2 hrk hb1' hs1
  by_cases hneg : b - 1 < 0
  · have HF : Hid (RightPost w g ((Tm.mk k n a lv kids).rightB b deep) (.returned (.bool false)) w2) := ⟨by rw [HRB.out, if_pos (Or.inl hneg)], HG2.out, by rw [HRB.out, if_pos (Or.inl hneg)]; exact HX2.out⟩
    clear HO HRB HX2 HG2 IH HT
    go_enter Tryd.func38, Tryd.ntmps38
    go_wp2
    go_ret
    exact HF.out
  · by_cases hdeep : 400 < deep
    · have HF : Hid (RightPost w g ((Tm.mk k n a lv kids).rightB b deep) (.returned (.bool false)) w2) := ⟨by rw [HRB.out, if_pos (Or.inr (Or.inl hdeep))], HG2.out, by rw [HRB.out, if_pos (Or.inr (Or.inl hdeep))]; exact HX2.out⟩
      clear HO HRB HX2 HG2 IH HT
      go_enter Tryd.func38, Tryd.ntmps38
      go_wp2
      go_ret
      exact HF.out
    · go_enter Tryd.func38, Tryd.ntmps38
      go_wp2_with (fail)
      refine HO.out.mono ?_
      rintro e w3 ⟨rfl, hb3⟩
      have hx3 := (hb3.block g (heap_some_lt HX2.out)).trans HX2.out
      have x3 := (hb3.block w.heap.size (heap_some_lt HXX2.out)).trans HXX2.out
      have hg3 := grown_on HG2.out hb3 (by have := HS2.out; omega)
      have HBW3 : Hid (Below B W w3) := HBW2.out.trans (hb3.mono (by have := HS2.out; omega))
      have h4 := cell_of_row _ _ 4 _ _ (0, 0) x3
      have hs3 := hb3.size
      have lw : w.heap.size < w3.heap.size := by have := HS2.out; omega
      have HX3 := Lib.hid hx3
      have HG3 := Lib.hid hg3
      clear hb3 hx3 x3 hg3 HX2 HG2 HBW2 HO hs3
      cases rk with
      | false =>
        have HF : Hid (RightPost w g ((Tm.mk k n a lv kids).rightB b deep) (.returned (.bool false)) w3) := ⟨by rw [HRB.out, if_pos (Or.inr (Or.inr rfl))], HG3.out, by rw [HRB.out, if_pos (Or.inr (Or.inr rfl))]; exact HX3.out⟩
        clear HRB HX3 HG3 IH HT
        go_wp2
        go_ret
        exact HF.out
      | true =>
        have HR2 : Hid ((Tm.mk k n a lv kids).rightB b deep = Tm.rightBL (b - 1) (deep + 1) kids) := by
          show _ = _
          rw [HRB.out, if_neg (fun h => h.elim (by omega) fun h => h.elim (by omega) fun h => by cases h)]
        have p29 : p2 ≤ 1048576 := by have := ((Tm.fit_mk ..).1 HF.out).2.2.1; rw [HP.out] at this; exact this
        clear HRB
        go_wp2
        go_loopw [33] (fun i wr => ∃ (j : Nat) (bj : Int), j ≤ p2 ∧ i = .int .i64 (j : Int) ∧ w.grownBy wr (some g) ∧ w3.grownBy wr (some g) ∧ wr.heap[g]? = some (.cells #[.int .i64 bj] 82 (0, 0)) ∧ 0 ≤ bj ∧ bj ≤ 20000 ∧ Tm.rightBL (b - 1) (deep + 1) kids = Tm.rightBL bj (deep + 1) (kids.drop j)) (fun i _ => p2 - (intOf i).toNat)
        case atStart => exact ⟨0, b - 1, Nat.zero_le _, rfl, HG3.out, grown_refl _ _, HX3.out, by omega, by omega, rfl⟩
        case round =>
          obtain ⟨j, bj, hj, rfl, hgw, hg3, hxr, hbj0, hbj1, hrest⟩ := hrel
          have hgs := hg3.size
          by_cases hlt : j < p2
          · obtain ⟨t, ht⟩ : ∃ t, kids[j]? = some t := ⟨_, List.getElem?_eq_getElem (by rw [HP.out]; exact hlt)⟩
            have hbwr : Below B W wr := HBW3.out.trans (below_grownT hg3 hg (by omega))
            obtain ⟨bb, bo, kb, mb, ab, A3, p3, c3, A4, p4, c4, eA, hbB, hv, f5, f6, f7, f8, f9⟩ := HT.out.at hbwr ht
            subst eA
            have hdrop : kids.drop j = t :: kids.drop (j + 1) := by
              obtain ⟨h, e⟩ := List.getElem?_eq_some_iff.1 ht
              rw [List.drop_eq_getElem_cons h, e]
            rw [hdrop, Tm.rightBL_cons] at hrest
            obtain ⟨r, hr⟩ : ∃ r, t.rightB bj (deep + 1) = r := ⟨_, rfl⟩
            have hleft := Tm.rightB_left t bj (deep + 1)
            rw [hr] at hrest hleft
            have HC : Hid (∀ w', Below wr.heap.size wr w' → Calls Tryd.prog 38 #[.pointer (some ⟨g, 0, none⟩), .agg #[.int .i64 kb, .int .i64 mb, .int .i64 ab, .slice A3 p3 c3, .slice A4 p4 c4], .int .i64 (deep + 1)] w' (RightPost w' g r)) := fun w' hx => by
              rw [← hr]
              exact IH.out t (List.mem_of_getElem? ht) ((Tm.fitL_iff _).1 ((Tm.fit_mk ..).1 HF.out).2.2.2 t (List.mem_of_getElem? ht)) bj (deep + 1) w' g _ hbj0 hbj1 (by omega) (by omega) (hbwr.trans (hx.mono (by omega))) hg ((hx.block g (by omega)).trans hxr) hv
            have HGW := Lib.hid hgw
            have HG3R := Lib.hid hg3
            have HRE := Lib.hid hrest
            have HLE := Lib.hid hleft
            have ij0 : (0 : Int) ≤ (j : Int) := by omega
            have ij1 : (j : Int) < (p2 : Int) := by omega
            have ws2 : IntKind.i64.wrap (deep + 1) = deep + 1 := IntWalk.i64_in _ (by omega)
            obtain ⟨r1, r2⟩ := r
            clear hgw hg3 hxr hrest hleft hv ht hdrop hr hbwr
            go_wp2_with (fail)
            refine (HC.out _ ((Below.refl _ _).alloc (Nat.le_refl _) _)).mono ?_
            rintro e w5 ⟨rfl, hg5, hx5⟩
            have hal := (Below.refl wr.heap.size wr).alloc (Nat.le_refl _) (.cells #[.int .i64 kb, .int .i64 mb, .int .i64 ab, .slice A3 p3 c3, .slice A4 p4 c4] 27)
            have HGW5 : Hid (w.grownBy w5 (some g)) := grown_trans (grown_on HGW.out hal HGW.out.size) hg5
            have HG35 : Hid (w3.grownBy w5 (some g)) := grown_trans (grown_on HG3R.out hal HG3R.out.size) hg5
            have HX5 := Lib.hid hx5
            clear hg5 hx5 hal
            cases r1 with
            | true =>
              have HRE2 : Hid (Tm.rightBL (b - 1) (deep + 1) kids = Tm.rightBL r2 (deep + 1) (kids.drop (j + 1))) := HRE.out
              have hl2 := HLE.out rfl
              have HL2 : Hid (0 ≤ r2 ∧ r2 ≤ 20000) := ⟨hl2.1, by have h := hl2.2; have h : r2 < bj := h; omega⟩
              clear HRE HLE hl2
              go_wp2
              go_roundw
              case rel => exact ⟨j + 1, r2, by omega, by go_num, HGW5.out, HG35.out, HX5.out, HL2.out.1, HL2.out.2, HRE2.out⟩
              case measure => simp [intOf]; omega
            | false =>
              have HRE2 : Hid (Tm.rightBL (b - 1) (deep + 1) kids = (false, r2)) := HRE.out
              have HF : Hid (RightPost w g ((Tm.mk k n a lv kids).rightB b deep) (.returned (.bool false)) w5) := ⟨by rw [HR2.out, HRE2.out], HGW5.out, by rw [HR2.out, HRE2.out]; exact HX5.out⟩
              clear HRE HLE HRE2 HR2
              go_wp2
              go_ret
              exact HF.out
          · have hd : kids.drop j = [] := List.drop_eq_nil_of_le (by rw [HP.out]; omega)
            rw [hd] at hrest
            have HF : Hid (RightPost w g ((Tm.mk k n a lv kids).rightB b deep) (.returned (.bool true)) wr) := ⟨by rw [HR2.out, hrest, Tm.rightBL], hgw, by rw [HR2.out, hrest, Tm.rightBL]; exact hxr⟩
            clear hgw hg3 hxr hrest hd HR2
            go_wp2
            go_ret
            exact HF.out
/-- budget.right of any term -/
theorem rightTm_any (W : World) (B : Nat) (hB : 0 < B) (hK : KindsAll W) : ∀ t, RightTm W B t := by
  intro t
  induction t using Tm.ind with
  | h k n a lv kids ih =>
    intro hf b deep w g v h0 h1 h2 h3 hb hg hx ht
    obtain ⟨Al, cl, Ak, ck, rfl, q1, q2, q3⟩ := ht.open
    exact right_of W B hB hK k n a lv kids ih hf b deep w g Al Ak _ cl _ ck h0 h1 h2 h3 hb hg hx rfl rfl q2 q3
/-- is a term right? -/
def Tm.right (t : Tm) : Bool := (t.rightB 20000 1).1
set_option maxRecDepth 100000 in
set_option maxHeartbeats 4000000 in
/-- Right answers whether a term is right. -/
theorem rightOf_any (t : Tm) (hf : t.fit) (v : Value) (w : World) (hK : KindsAll w) (hv : TmAt w w.heap.size t v) : Calls Tryd.prog 11 #[v] w (HasPost w t.right) := by
  have h0 : 0 < w.heap.size := cell_lt (hK 0 (by decide)).1
  have hv' := hv
  obtain ⟨k, n, a, lv, kids⟩ := t
  obtain ⟨Al, cl, Ak, ck, rfl, _⟩ := hv.open
  obtain ⟨u, hu⟩ : ∃ u, Tm.mk k n a lv kids = u := ⟨_, rfl⟩
  rw [hu] at hf hv' ⊢
  obtain ⟨p1, hp1⟩ : ∃ p, lv.length = p := ⟨_, rfl⟩
  obtain ⟨p2, hp2⟩ : ∃ p, kids.length = p := ⟨_, rfl⟩
  rw [hp1, hp2] at hv' ⊢
  obtain ⟨wa, hwa⟩ : ∃ x, w.alloc (.cells #[.int .i64 k, .int .i64 n, .int .i64 a, .slice Al p1 cl, .slice Ak p2 ck] 27) = x := ⟨_, rfl⟩
  obtain ⟨w1, hw1⟩ : ∃ x, wa.alloc (.cells #[.int .i64 20000] 82) = x := ⟨_, rfl⟩
  have hsa : wa.heap.size = w.heap.size + 1 := by rw [← hwa]; simp
  have hba : Below w.heap.size w wa := by rw [← hwa]; exact (Below.refl _ _).alloc (Nat.le_refl _) _
  have hb1a : Below wa.heap.size wa w1 := by rw [← hw1]; exact (Below.refl _ _).alloc (Nat.le_refl _) _
  have hb1 := hba.trans (hb1a.mono (by omega))
  have xa : wa.heap[w.heap.size]? = some (.cells #[.int .i64 k, .int .i64 n, .int .i64 a, .slice Al p1 cl, .slice Ak p2 ck] 27 (0, 0)) := by rw [← hwa]; exact heap_alloc_new w _
  have x0 := (hb1a.block w.heap.size (by omega)).trans xa
  have x1 : w1.heap[w.heap.size + 1]? = some (.cells #[.int .i64 20000] 82 (0, 0)) := by rw [← hw1, ← hsa]; exact heap_alloc_new wa _
  have HC : Hid (Calls Tryd.prog 38 #[.pointer (some ⟨w.heap.size + 1, 0, none⟩), .agg #[.int .i64 k, .int .i64 n, .int .i64 a, .slice Al p1 cl, .slice Ak p2 ck], .int .i64 1] w1 (RightPost w1 (w.heap.size + 1) (u.rightB 20000 1))) :=
    rightTm_any w w.heap.size h0 hK u hf 20000 1 w1 (w.heap.size + 1) _ (by omega) (by omega) (by omega) (by omega) hb1 (by omega) x1 hv'
  have y0 := cell_of_row _ _ 0 _ _ (0, 0) x0
  have y1 := cell_of_row _ _ 1 _ _ (0, 0) x0
  have y2 := cell_of_row _ _ 2 _ _ (0, 0) x0
  have y3 := cell_of_row _ _ 3 _ _ (0, 0) x0
  have y4 := cell_of_row _ _ 4 _ _ (0, 0) x0
  have HB1 := Lib.hid hb1
  obtain ⟨r, hr⟩ : ∃ r, u.rightB 20000 1 = r := ⟨_, rfl⟩
  have HR : Hid (u.right = r.1) := by show _ = _; rw [← hr]; rfl
  rw [hr] at HC
  clear hu hf hv hv' hb1 hb1a hba xa x0 x1 h0 hK hp1 hp2 hr
  go_enter Tryd.func11, Tryd.ntmps11
  go_wp2_with (fail)
  refine HC.out.mono ?_
  rintro e w2 ⟨rfl, hg2, _⟩
  obtain ⟨r1, r2⟩ := r
  have HF : Hid (HasPost w u.right (.returned (.bool r1)) w2) := ⟨by rw [HR.out], HB1.out.trans (below_grownT hg2 (by omega) HB1.out.size)⟩
  clear hg2
  go_wp2
  go_ret
  exact HF.out
end Go.Proofs.YtfgnnbpbbnnnhaaDoor
namespace Go.Proofs.YtfgnnbpbbnnnhaaDoor
open Go.RowKit Go.Maps
theorem levs_nil (w : World) (B : Nat) (A : Option Addr) : Levs w B A [] := fun h => by simp at h
theorem tms_nil (w : World) (B : Nat) : Tms w B none 0 [] := ⟨fun _ => rfl, fun h => by simp at h⟩
end Go.Proofs.YtfgnnbpbbnnnhaaDoor
namespace Go.Proofs.YtfgnnbpbbnnnhaaDoor
open Go.RowKit Go.Maps
end Go.Proofs.YtfgnnbpbbnnnhaaDoor
