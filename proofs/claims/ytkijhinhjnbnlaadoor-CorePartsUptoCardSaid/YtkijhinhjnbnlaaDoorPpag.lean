/- Laws. -/
import Derived.Test.YtkijhinhjnbnlaaDoorPpad
import Derived.Test.YtkijhinhjnbnlaaDoorPpaf
import Derived.Laws.OwnMore
namespace Go.Proofs.YtkijhinhjnbnlaaDoor
open Go.RowKit Go.Maps
end Go.Proofs.YtkijhinhjnbnlaaDoor
namespace Go.Proofs.YtkijhinhjnbnlaaDoor
open Go.RowKit Go.Maps
theorem thawed {w : World} {g : Nat} {cs : Array Value} {t : TypeId} (h : w.heap[g]? = some (.cells cs t (0, 0))) (j : Nat) : w.frozen? ⟨g, j, none⟩ = false := by simp [World.frozen?, h]
end Go.Proofs.YtkijhinhjnbnlaaDoor
namespace Go.Proofs.YtkijhinhjnbnlaaDoor
open Go.RowKit Go.Maps
/-- the table's binders -/
def bindTab : List Int := [0, 0, 0, 0, 2, 2, 0, 3, 0, 0, 0, 0, 2, 0, 0, 0, 2, 0, 2, 0, 0, 0, 0, 0, 0]
/-- the table, as far as binders go -/
def KindsAt (w : World) : Prop := ∀ i : Nat, i < 25 → w.cell? ⟨0, i * 5 + 4, none⟩ = some (.int .i64 (bindTab.getD i 0))
theorem KindsAt.below {w w' : World} {B : Nat} (h : KindsAt w) (hb : Below B w w') (hB : 0 < B) : KindsAt w' := fun i hi => (hb.cell (p := ⟨0, i * 5 + 4, none⟩) hB).trans (h i hi)
/-- does a kid of this number stand below a binder? -/
def binds (k : Int) (i : Nat) : Bool := decide (1 ≤ k ∧ k ≤ 24 ∧ bindTab.getD k.toNat 0 = (i : Int) + 1)
def under (k : Int) (i : Nat) : Nat := if binds k i then 1 else 0
set_option maxRecDepth 100000 in
set_option maxHeartbeats 1000000 in
theorem known_any (k : Int) (w : World) : Calls Tryd.prog 31 #[.int .i64 k] w (HasPost w (decide (1 ≤ k) && decide (k ≤ 24))) := by
  obtain ⟨r, hr⟩ : ∃ r, (decide (1 ≤ k) && decide (k ≤ 24)) = r := ⟨_, rfl⟩
  rw [hr]
  by_cases h1 : 1 ≤ k
  · by_cases h2 : k ≤ 24
    · have HF : Hid (r = true) := by show _ = _; rw [← hr]; simp [h1, h2]
      clear hr
      go_enter Tryd.func31, Tryd.ntmps31
      go_wp2
      go_ret
      exact ⟨by rw [HF.out]; rfl, Below.refl _ _⟩
    · have HF : Hid (r = false) := by show _ = _; rw [← hr]; simp [h2]
      clear hr
      go_enter Tryd.func31, Tryd.ntmps31
      go_wp2
      go_ret
      exact ⟨by rw [HF.out]; rfl, Below.refl _ _⟩
  · have HF : Hid (r = false) := by show _ = _; rw [← hr]; simp [h1]
    clear hr
    go_enter Tryd.func31, Tryd.ntmps31
    go_wp2
    go_ret
    exact ⟨by rw [HF.out]; rfl, Below.refl _ _⟩
set_option maxRecDepth 100000 in
set_option maxHeartbeats 1000000 in
theorem binds_any (k : Int) (i : Nat) (w : World) (hi : i ≤ 1048576) (hK : KindsAt w) : Calls Tryd.prog 13 #[.int .i64 k, .int .i64 (i : Int)] w (HasPost w (binds k i)) := by
  have HK := Lib.hid (known_any k w)
  have ws : IntKind.i64.wrap ((i : Int) + 1) = (i : Int) + 1 := IntWalk.i64_in _ (by omega)
  have ij0 : (0 : Int) ≤ (i : Int) := by omega
  by_cases h : 1 ≤ k ∧ k ≤ 24
  · obtain ⟨j, rfl⟩ : ∃ j : Nat, k = (j : Int) := ⟨k.toNat, by omega⟩
    have hj : j < 25 := by omega
    have e : (decide (1 ≤ (j : Int)) && decide ((j : Int) ≤ 24)) = true := by simp; omega
    rw [e] at HK
    obtain ⟨x, hx⟩ : ∃ x, bindTab.getD j 0 = x := ⟨_, rfl⟩
    have hKj : Hid (KindsAt w) := hK
    have HF : Hid (binds (j : Int) i = (x == (i : Int) + 1)) := by
      show _ = _
      unfold binds
      rw [Bool.eq_iff_iff]
      simp only [decide_eq_true_eq, beq_iff_eq, Int.toNat_natCast, hx]
      exact ⟨fun h => h.2.2, fun h => ⟨by omega, by omega, h⟩⟩
    have HX := Lib.hid hx
    clear hK h e hx
    go_enter Tryd.func13, Tryd.ntmps13
    go_wp2_with (fail)
    refine HK.out.mono ?_
    rintro e w1 ⟨rfl, hb⟩
    have hb0 : 0 < w.heap.size := cell_lt (hKj.out 0 (by decide))
    have c0 := (hb.cell (p := ⟨0, j * 5 + 4, none⟩) hb0).trans (hKj.out j hj)
    rw [HX.out] at c0
    have HB := Lib.hid hb
    have ij1 : (0 : Int) ≤ (j : Int) := by omega
    have ij2 : (j : Int) < 25 := by omega
    clear hb HX
    go_wp2
    go_ret
    exact ⟨by rw [HF.out]; rfl, HB.out⟩
  · have e : (decide (1 ≤ k) && decide (k ≤ 24)) = false := by
      rw [Bool.and_eq_false_iff]
      simp only [decide_eq_false_iff_not]
      omega
    rw [e] at HK
    have HF : Hid (binds k i = false) := decide_eq_false fun x => h ⟨x.1, x.2.1⟩
    clear hK h e
    go_enter Tryd.func13, Tryd.ntmps13
    go_wp2_with (fail)
    refine HK.out.mono ?_
    rintro e w1 ⟨rfl, hb⟩
    have HB := Lib.hid hb
    clear hb
    go_wp2
    go_ret
    exact ⟨by rw [HF.out]; rfl, HB.out⟩
end Go.Proofs.YtkijhinhjnbnlaaDoor
namespace Go.Proofs.YtkijhinhjnbnlaaDoor
open Go.RowKit Go.Maps
theorem under_le (k : Int) (i : Nat) : under k i ≤ 1 := by unfold under; split <;> omega
end Go.Proofs.YtkijhinhjnbnlaaDoor
namespace Go.Proofs.YtkijhinhjnbnlaaDoor
open Go.RowKit Go.Maps
/-- how many kids a kind has that asks for nothing else; -1: of no such kind -/
def plainK (k : Int) : Int :=
  if k = 4 ∨ k = 5 ∨ k = 6 ∨ k = 12 ∨ k = 13 ∨ k = 16 ∨ k = 17 then 2
  else if k = 7 ∨ k = 19 then 3
  else if k = 14 ∨ k = 15 then 1
  else if k = 18 then 5
  else if k = 20 then 0
  else if k = 21 then 6
  else -1
/-- what each kind asks of a node of the core, so many binders deep, its kids left aside but for their number -/
def AskC (n sc : Int) (cs : List Int) (d : Nat) (k num pos : Int) (lv : List (List (Int × Int))) (nk : Nat) : Prop :=
  (k = 1 ∧ pos = 0 ∧ lv.length = 0 ∧ nk = 0 ∧ 0 ≤ num ∧ num - d < sc) ∨
  (k = 2 ∧ num = 0 ∧ pos = 0 ∧ lv.length = 1 ∧ nk = 0 ∧ ∀ l ∈ lv, RightS l n) ∨
  (k = 3 ∧ pos = 0 ∧ nk = 0 ∧ 0 ≤ num ∧ num < cs.length ∧ (lv.length : Int) = cs.getD num.toNat 0 ∧ ∀ l ∈ lv, RightS l n) ∨
  (k = 22 ∧ 0 ≤ num ∧ pos = 0 ∧ lv.length = 0 ∧ nk = 0) ∨
  (k = 23 ∧ 0 ≤ num ∧ num < pos ∧ lv.length = 0 ∧ nk = 0) ∨
  (k = 24 ∧ num = 0 ∧ 0 ≤ pos ∧ lv.length = 0 ∧ (nk : Int) - 2 = pos) ∨
  (num = 0 ∧ pos = 0 ∧ lv.length = 0 ∧ (nk : Int) = plainK k)
mutual
/-- right in the core, so many binders deep -/
def Tm.core (n sc : Int) (cs : List Int) (d : Nat) : Tm → Prop
  | .mk k num pos lv kids => AskC n sc cs d k num pos lv kids.length ∧ Tm.coreL n sc cs d k 0 kids
def Tm.coreL (n sc : Int) (cs : List Int) (d : Nat) (k : Int) (i : Nat) : List Tm → Prop
  | [] => True
  | t :: ts => t.core n sc cs (d + under k i) ∧ Tm.coreL n sc cs d k (i + 1) ts
end
theorem Tm.core_mk (n sc : Int) (cs : List Int) (d : Nat) (k num pos : Int) (lv : List (List (Int × Int))) (kids : List Tm) : (Tm.mk k num pos lv kids).core n sc cs d ↔ AskC n sc cs d k num pos lv kids.length ∧ Tm.coreL n sc cs d k 0 kids := by rw [Tm.core]
theorem Tm.coreL_iff (n sc : Int) (cs : List Int) (d : Nat) (k : Int) : ∀ (ts : List Tm) (i : Nat), Tm.coreL n sc cs d k i ts ↔ ∀ (j : Nat) (t : Tm), ts[j]? = some t → t.core n sc cs (d + under k (i + j))
  | [], i => by simp [Tm.coreL]
  | t :: ts, i => by
    rw [Tm.coreL, Tm.coreL_iff n sc cs d k ts (i + 1)]
    constructor
    · rintro ⟨h1, h2⟩ j u hj
      cases j with
      | zero => injection hj with hj; subst hj; exact h1
      | succ j => rw [show i + (j + 1) = i + 1 + j by omega]; exact h2 j u (by simpa using hj)
    · intro h
      exact ⟨h 0 t rfl, fun j u hj => by rw [show i + 1 + j = i + (j + 1) by omega]; exact h (j + 1) u (by simpa using hj)⟩
/-- right in the core -/
def RightC (n sc : Int) (cs : List Int) (t : Tm) : Prop := 0 ≤ n ∧ 0 ≤ sc ∧ t.core n sc cs 0
theorem RightS.more {ps : List (Int × Int)} {n m : Int} (h : RightS ps n) (hm : n ≤ m) : RightS ps m := ⟨h.1, fun i hi => by
  obtain ⟨h1, h2, h3⟩ := h.2 i hi
  exact ⟨h1, by omega, h3⟩⟩
theorem AskC.more {n sc : Int} {cs : List Int} {d : Nat} {k num pos : Int} {lv : List (List (Int × Int))} {nk : Nat} (h : AskC n sc cs d k num pos lv nk) {n' sc' : Int} (hn : n ≤ n') (ho : sc ≤ sc') (ys : List Int) : AskC n' sc' (cs ++ ys) d k num pos lv nk := by
  unfold AskC at h ⊢
  rcases h with h | h | h | h | h | h | h
  · exact Or.inl ⟨h.1, h.2.1, h.2.2.1, h.2.2.2.1, h.2.2.2.2.1, by have := h.2.2.2.2.2; omega⟩
  · exact Or.inr (Or.inl ⟨h.1, h.2.1, h.2.2.1, h.2.2.2.1, h.2.2.2.2.1, fun l hl => (h.2.2.2.2.2 l hl).more hn⟩)
  · obtain ⟨h1, h2, h3, h4, h5, h6, h7⟩ := h
    refine Or.inr (Or.inr (Or.inl ⟨h1, h2, h3, h4, by rw [List.length_append]; omega, ?_, fun l hl => (h7 l hl).more hn⟩))
    rw [h6, List.getD_eq_getElem?_getD, List.getD_eq_getElem?_getD, List.getElem?_append_left (by omega)]
  · exact Or.inr (Or.inr (Or.inr (Or.inl h)))
  · exact Or.inr (Or.inr (Or.inr (Or.inr (Or.inl h))))
  · exact Or.inr (Or.inr (Or.inr (Or.inr (Or.inr (Or.inl h)))))
  · exact Or.inr (Or.inr (Or.inr (Or.inr (Or.inr (Or.inr h)))))
theorem core_more {n sc : Int} {cs : List Int} {n' sc' : Int} (hn : n ≤ n') (ho : sc ≤ sc') (ys : List Int) : ∀ (t : Tm) (d : Nat), t.core n sc cs d → t.core n' sc' (cs ++ ys) d := by
  refine Tm.ind ?_
  intro k num pos lv kids ih d h
  rw [Tm.core_mk] at h ⊢
  refine ⟨h.1.more hn ho ys, (Tm.coreL_iff ..).2 fun j t ht => ih t (List.mem_of_getElem? ht) _ ((Tm.coreL_iff ..).1 h.2 j t ht)⟩
theorem AskC.shift {n sc : Int} {cs : List Int} {d : Nat} (e : Nat) {k num pos : Int} {lv : List (List (Int × Int))} {nk : Nat} : AskC n sc cs (d + e) k num pos lv nk ↔ AskC n (sc + e) cs d k num pos lv nk := by
  have h1 : num - ((d + e : Nat) : Int) < sc ↔ num - (d : Int) < sc + (e : Int) := by omega
  unfold AskC
  rw [h1]
theorem core_shift {n sc : Int} {cs : List Int} (e : Nat) : ∀ (t : Tm) (d : Nat), t.core n sc cs (d + e) ↔ t.core n (sc + e) cs d := by
  refine Tm.ind ?_
  intro k num pos lv kids ih d
  rw [Tm.core_mk, Tm.core_mk, AskC.shift, Tm.coreL_iff, Tm.coreL_iff]
  have : (∀ (j : Nat) (t : Tm), kids[j]? = some t → t.core n sc cs (d + e + under k (0 + j))) ↔ ∀ (j : Nat) (t : Tm), kids[j]? = some t → t.core n (sc + e) cs (d + under k (0 + j)) :=
    forall_congr' fun j => forall_congr' fun t => forall_congr' fun ht => by
      rw [show d + e + under k (0 + j) = d + under k (0 + j) + e by omega]
      exact ih t (List.mem_of_getElem? ht) _
  rw [this]
/-- a kid of what is right is right in its scope -/
theorem core_kid {n sc : Int} {cs : List Int} {k num pos : Int} {lv : List (List (Int × Int))} {kids : List Tm} (h : RightC n sc cs (.mk k num pos lv kids)) {j : Nat} {t : Tm} (ht : kids[j]? = some t) : RightC n (sc + under k j) cs t := by
  obtain ⟨h1, h2, h3⟩ := h
  rw [Tm.core_mk] at h3
  have h4 := (Tm.coreL_iff ..).1 h3.2 j t ht
  simp only [Nat.zero_add] at h4
  have h4 := (core_shift (n := n) (sc := sc) (cs := cs) (under k j) t 0).1 (by rwa [Nat.zero_add])
  exact ⟨h1, by omega, h4⟩
theorem plainK_other {k : Int} (h : k = 1 ∨ k = 2 ∨ k = 3 ∨ k = 22 ∨ k = 23 ∨ k = 24) : plainK k = -1 := by
  rcases h with rfl | rfl | rfl | rfl | rfl | rfl <;> decide
theorem AskC.kids {n sc n' sc' : Int} {cs cs' : List Int} {d d' : Nat} {k num pos num' : Int} {lv : List (List (Int × Int))} {nk nk' : Nat} (h : AskC n sc cs d k num pos lv nk) (h' : AskC n' sc' cs' d' k num' pos lv nk') : nk = nk' := by
  unfold AskC at h h'
  have hp : (k = 1 ∨ k = 2 ∨ k = 3 ∨ k = 22 ∨ k = 23 ∨ k = 24) → plainK k = -1 := plainK_other
  rcases h with h | h | h | h | h | h | h <;> rcases h' with h' | h' | h' | h' | h' | h' | h' <;> first | omega | (have := hp (by omega); omega)
theorem AskC.num {n sc : Int} {cs : List Int} {d : Nat} {k num pos : Int} {lv : List (List (Int × Int))} {nk : Nat} (h : AskC n sc cs d k num pos lv nk) : 0 ≤ num := by
  unfold AskC at h
  rcases h with h | h | h | h | h | h | h <;> omega
theorem not_long {n sc : Int} {cs : List Int} {k num pos : Int} {lv : List (List (Int × Int))} {kids kids' : List Tm} (h : RightC n sc cs (.mk k num pos lv kids)) (hl : kids'.length ≠ kids.length) : ¬ RightC n sc cs (.mk k num pos lv kids') := fun h' => by
  have h1 := h.2.2
  have h2 := h'.2.2
  rw [Tm.core_mk] at h1 h2
  exact hl (h2.1.kids h1.1)
theorem not_odd (n sc : Int) (cs : List Int) (k pos : Int) (lv : List (List (Int × Int))) (kids : List Tm) : ¬ RightC n sc cs (.mk k (-1) pos lv kids) := fun h => by
  have h1 := h.2.2
  rw [Tm.core_mk] at h1
  have := h1.1.num
  omega
end Go.Proofs.YtkijhinhjnbnlaaDoor
namespace Go.Proofs.YtkijhinhjnbnlaaDoor
open Go.RowKit Go.Maps
set_option maxRecDepth 100000 in
theorem must_any (b : Bool) (w : World) : Calls Tryd.prog 20 #[.bool b] w (MustPost w 6 b) := by
  have hb1 : Below w.heap.size w (w.alloc (.cells #[.bool b] 4)) := (Below.refl _ _).alloc (Nat.le_refl _) _
  have HM : Hid (Calls Tryd.prog 35 #[.int .i64 6, .slice (some ⟨w.heap.size, 0, none⟩) 1 1] (w.alloc (.cells #[.bool b] 4)) (MustPost w 6 b)) := (mustT_any 6 [b] _ 1 1 _ rfl (by decide) (bools_one w b)).mono fun e w' h => by
    have h := h.from hb1
    simpa using h
  clear hb1
  go_enter Tryd.func20, Tryd.ntmps20
  go_wp2_with (fail)
  refine HM.out.mono ?_
  rintro e w2 h
  cases b with
  | true =>
    obtain ⟨rfl, hb⟩ := h.1 rfl
    have HB := Lib.hid hb
    clear h hb HM
    go_wp2
    go_end0
    exact MustPost.yes rfl HB.out
  | false =>
    obtain ⟨rfl, hb⟩ := h.2 rfl
    have HB := Lib.hid hb
    clear h hb HM
    go_wp2
    exact ⟨rfl, MustPost.no ⟨rfl, HB.out⟩⟩
/-- a walk of the core: its scope, its level variables, its constants, what each kind asks -/
def WK (outer d n : Int) (A : Option Addr) (nc cc m : Nat) : Value := .agg #[.int .i64 outer, .int .i64 d, .int .i64 n, .slice A nc cc, .map (some m)]
set_option maxRecDepth 100000 in
theorem has_any (outer num : Int) (d : Nat) (w : World) (hd : d ≤ 1073741824) (hn : Rng num) : Calls Tryd.prog 55 #[.agg #[.int .i64 outer, .int .i64 (d : Int)], .int .i64 num] w (HasPost w (decide (0 ≤ num) && decide (num - d < outer))) := by
  have HB := Lib.hid ((Below.refl w.heap.size w).alloc (Nat.le_refl _) (.cells #[.int .i64 outer, .int .i64 (d : Int)] 51))
  have x0 := heap_alloc_new w (.cells #[.int .i64 outer, .int .i64 (d : Int)] 51)
  unfold Rng at hn
  by_cases h0 : 0 ≤ num
  · have hw : IntKind.i64.wrap (num - (d : Int)) = num - (d : Int) := IntWalk.i64_in _ (by omega)
    by_cases h1 : num - (d : Int) < outer
    · clear hn x0
      go_enter Tryd.func55, Tryd.ntmps55
      go_wp2
      go_ret
      exact ⟨by simp [h0, h1], HB.out⟩
    · have d1 : decide (num - (d : Int) < outer) = false := by simpa using h1
      clear hn x0
      go_enter Tryd.func55, Tryd.ntmps55
      go_wp2
      go_ret
      exact ⟨by first | simp | simp [d1], HB.out⟩
  · have d0 : decide (0 ≤ num) = false := by simpa using h0
    clear hn x0
    go_enter Tryd.func55, Tryd.ntmps55
    go_wp2
    go_ret
    exact ⟨by first | simp | simp [d0], HB.out⟩
/-- two blocks, one behind the other -/
theorem two_below (w : World) (o p : Obj) : Below w.heap.size w ((w.alloc o).alloc p) := ((Below.refl _ _).alloc (Nat.le_refl _) _).alloc (by simp) _
set_option maxRecDepth 100000 in
set_option maxHeartbeats 1000000 in
theorem plain_any (outer d n : Int) (A : Option Addr) (nc cc m : Nat) (k num pos : Int) (A1 : Option Addr) (p1 c1 : Nat) (A2 : Option Addr) (p2 c2 : Nat) (kn : Int) (w : World) : Calls Tryd.prog 56 #[WK outer d n A nc cc m, .agg #[.int .i64 k, .int .i64 num, .int .i64 pos, .slice A1 p1 c1, .slice A2 p2 c2], .int .i64 kn] w (MustPost w 6 (decide (num = 0) && decide (pos = 0) && decide (p1 = 0) && decide ((p2 : Int) = kn))) := by
  obtain ⟨r, hr⟩ : ∃ r, (decide (num = 0) && decide (pos = 0) && decide (p1 = 0) && decide ((p2 : Int) = kn)) = r := ⟨_, rfl⟩
  rw [hr]
  have HB := Lib.hid (two_below w (.cells #[.int .i64 outer, .int .i64 d, .int .i64 n, .slice A nc cc, .map (some m)] 55) (.cells #[.int .i64 k, .int .i64 num, .int .i64 pos, .slice A1 p1 c1, .slice A2 p2 c2] 27))
  unfold WK
  by_cases h0 : num = 0
  · subst h0
    by_cases h1 : pos = 0
    · subst h1
      by_cases h2 : p1 = 0
      · subst h2
        by_cases h3 : (p2 : Int) = kn
        · subst h3
          have hr2 : r = true := by rw [← hr]; simp_all <;> omega
          subst hr2
          clear hr
          go_enter Tryd.func56, Tryd.ntmps56
          go_wp2_with (fail)
          refine (must_any true _).mono ?_
          rintro e w2 h
          obtain ⟨rfl, hb⟩ := h.1 rfl
          have HF := Lib.hid (HB.out.trans (hb.mono HB.out.size))
          clear h hb
          go_wp2
          go_end0
          exact MustPost.yes rfl HF.out
        · have e3 : ((p2 : Int) == kn) = false := by simpa using h3
          have hr2 : r = false := by rw [← hr]; simp_all <;> omega
          subst hr2
          clear hr
          go_enter Tryd.func56, Tryd.ntmps56
          go_wp2_with (fail)
          refine (must_any false _).mono ?_
          rintro e w2 h
          obtain ⟨rfl, hb⟩ := h.2 rfl
          have HF := Lib.hid (HB.out.trans (hb.mono HB.out.size))
          clear h hb
          go_wp2
          exact ⟨rfl, MustPost.no ⟨rfl, HF.out⟩⟩
      · have e2 : ((p1 : Int) == 0) = false := by simpa using (by omega : ¬ (p1 : Int) = 0)
        have hr2 : r = false := by rw [← hr]; simp_all <;> omega
        subst hr2
        clear hr
        go_enter Tryd.func56, Tryd.ntmps56
        go_wp2_with (fail)
        refine (must_any false _).mono ?_
        rintro e w2 h
        obtain ⟨rfl, hb⟩ := h.2 rfl
        have HF := Lib.hid (HB.out.trans (hb.mono HB.out.size))
        clear h hb
        go_wp2
        exact ⟨rfl, MustPost.no ⟨rfl, HF.out⟩⟩
    · have e1 : (pos == 0) = false := by simpa using h1
      have hr2 : r = false := by rw [← hr]; simp_all <;> omega
      subst hr2
      clear hr
      go_enter Tryd.func56, Tryd.ntmps56
      go_wp2_with (fail)
      refine (must_any false _).mono ?_
      rintro e w2 h
      obtain ⟨rfl, hb⟩ := h.2 rfl
      have HF := Lib.hid (HB.out.trans (hb.mono HB.out.size))
      clear h hb
      go_wp2
      exact ⟨rfl, MustPost.no ⟨rfl, HF.out⟩⟩
  · have e0 : (num == 0) = false := by simpa using h0
    have hr2 : r = false := by rw [← hr]; simp_all <;> omega
    subst hr2
    clear hr
    go_enter Tryd.func56, Tryd.ntmps56
    go_wp2_with (fail)
    refine (must_any false _).mono ?_
    rintro e w2 h
    obtain ⟨rfl, hb⟩ := h.2 rfl
    have HF := Lib.hid (HB.out.trans (hb.mono HB.out.size))
    clear h hb
    go_wp2
    exact ⟨rfl, MustPost.no ⟨rfl, HF.out⟩⟩
set_option maxRecDepth 100000 in
set_option maxHeartbeats 1000000 in
theorem finite_any (outer d n : Int) (A : Option Addr) (nc cc m : Nat) (k num pos : Int) (A1 : Option Addr) (p1 c1 : Nat) (A2 : Option Addr) (p2 c2 : Nat) (w : World) : Calls Tryd.prog 45 #[WK outer d n A nc cc m, .agg #[.int .i64 k, .int .i64 num, .int .i64 pos, .slice A1 p1 c1, .slice A2 p2 c2]] w (MustPost w 6 (decide (0 ≤ num) && decide (pos = 0) && decide (p1 = 0) && decide (p2 = 0))) := by
  obtain ⟨r, hr⟩ : ∃ r, (decide (0 ≤ num) && decide (pos = 0) && decide (p1 = 0) && decide (p2 = 0)) = r := ⟨_, rfl⟩
  rw [hr]
  have HB := Lib.hid (two_below w (.cells #[.int .i64 outer, .int .i64 d, .int .i64 n, .slice A nc cc, .map (some m)] 55) (.cells #[.int .i64 k, .int .i64 num, .int .i64 pos, .slice A1 p1 c1, .slice A2 p2 c2] 27))
  unfold WK
  by_cases h0 : 0 ≤ num
  · by_cases h1 : pos = 0
    · subst h1
      by_cases h2 : p1 = 0
      · subst h2
        by_cases h3 : p2 = 0
        · subst h3
          have hr2 : r = true := by rw [← hr]; simp_all <;> omega
          subst hr2
          clear hr
          go_enter Tryd.func45, Tryd.ntmps45
          go_wp2_with (fail)
          refine (must_any true _).mono ?_
          rintro e w2 h
          obtain ⟨rfl, hb⟩ := h.1 rfl
          have HF := Lib.hid (HB.out.trans (hb.mono HB.out.size))
          clear h hb
          go_wp2
          go_end0
          exact MustPost.yes rfl HF.out
        · have e3 : ((p2 : Int) == 0) = false := by simpa using (by omega : ¬ (p2 : Int) = 0)
          have hr2 : r = false := by rw [← hr]; simp_all <;> omega
          subst hr2
          clear hr
          go_enter Tryd.func45, Tryd.ntmps45
          go_wp2_with (fail)
          refine (must_any false _).mono ?_
          rintro e w2 h
          obtain ⟨rfl, hb⟩ := h.2 rfl
          have HF := Lib.hid (HB.out.trans (hb.mono HB.out.size))
          clear h hb
          go_wp2
          exact ⟨rfl, MustPost.no ⟨rfl, HF.out⟩⟩
      · have e2 : ((p1 : Int) == 0) = false := by simpa using (by omega : ¬ (p1 : Int) = 0)
        have hr2 : r = false := by rw [← hr]; simp_all <;> omega
        subst hr2
        clear hr
        go_enter Tryd.func45, Tryd.ntmps45
        go_wp2_with (fail)
        refine (must_any false _).mono ?_
        rintro e w2 h
        obtain ⟨rfl, hb⟩ := h.2 rfl
        have HF := Lib.hid (HB.out.trans (hb.mono HB.out.size))
        clear h hb
        go_wp2
        exact ⟨rfl, MustPost.no ⟨rfl, HF.out⟩⟩
    · have e1 : (pos == 0) = false := by simpa using h1
      have hr2 : r = false := by rw [← hr]; simp_all <;> omega
      subst hr2
      clear hr
      go_enter Tryd.func45, Tryd.ntmps45
      go_wp2_with (fail)
      refine (must_any false _).mono ?_
      rintro e w2 h
      obtain ⟨rfl, hb⟩ := h.2 rfl
      have HF := Lib.hid (HB.out.trans (hb.mono HB.out.size))
      clear h hb
      go_wp2
      exact ⟨rfl, MustPost.no ⟨rfl, HF.out⟩⟩
  · have e0 : decide (0 ≤ num) = false := by simpa using h0
    have hr2 : r = false := by rw [← hr]; simp_all <;> omega
    subst hr2
    clear hr
    go_enter Tryd.func45, Tryd.ntmps45
    go_wp2_with (fail)
    refine (must_any false _).mono ?_
    rintro e w2 h
    obtain ⟨rfl, hb⟩ := h.2 rfl
    have HF := Lib.hid (HB.out.trans (hb.mono HB.out.size))
    clear h hb
    go_wp2
    exact ⟨rfl, MustPost.no ⟨rfl, HF.out⟩⟩
set_option maxRecDepth 100000 in
set_option maxHeartbeats 1000000 in
theorem element_any (outer d n : Int) (A : Option Addr) (nc cc m : Nat) (k num pos : Int) (A1 : Option Addr) (p1 c1 : Nat) (A2 : Option Addr) (p2 c2 : Nat) (w : World) : Calls Tryd.prog 46 #[WK outer d n A nc cc m, .agg #[.int .i64 k, .int .i64 num, .int .i64 pos, .slice A1 p1 c1, .slice A2 p2 c2]] w (MustPost w 6 (decide (0 ≤ num) && decide (num < pos) && decide (p1 = 0) && decide (p2 = 0))) := by
  obtain ⟨r, hr⟩ : ∃ r, (decide (0 ≤ num) && decide (num < pos) && decide (p1 = 0) && decide (p2 = 0)) = r := ⟨_, rfl⟩
  rw [hr]
  have HB := Lib.hid (two_below w (.cells #[.int .i64 outer, .int .i64 d, .int .i64 n, .slice A nc cc, .map (some m)] 55) (.cells #[.int .i64 k, .int .i64 num, .int .i64 pos, .slice A1 p1 c1, .slice A2 p2 c2] 27))
  unfold WK
  by_cases h0 : 0 ≤ num
  · by_cases h1 : num < pos
    · by_cases h2 : p1 = 0
      · subst h2
        by_cases h3 : p2 = 0
        · subst h3
          have hr2 : r = true := by rw [← hr]; simp_all <;> omega
          subst hr2
          clear hr
          go_enter Tryd.func46, Tryd.ntmps46
          go_wp2_with (fail)
          refine (must_any true _).mono ?_
          rintro e w2 h
          obtain ⟨rfl, hb⟩ := h.1 rfl
          have HF := Lib.hid (HB.out.trans (hb.mono HB.out.size))
          clear h hb
          go_wp2
          go_end0
          exact MustPost.yes rfl HF.out
        · have e3 : ((p2 : Int) == 0) = false := by simpa using (by omega : ¬ (p2 : Int) = 0)
          have hr2 : r = false := by rw [← hr]; simp_all <;> omega
          subst hr2
          clear hr
          go_enter Tryd.func46, Tryd.ntmps46
          go_wp2_with (fail)
          refine (must_any false _).mono ?_
          rintro e w2 h
          obtain ⟨rfl, hb⟩ := h.2 rfl
          have HF := Lib.hid (HB.out.trans (hb.mono HB.out.size))
          clear h hb
          go_wp2
          exact ⟨rfl, MustPost.no ⟨rfl, HF.out⟩⟩
      · have e2 : ((p1 : Int) == 0) = false := by simpa using (by omega : ¬ (p1 : Int) = 0)
        have hr2 : r = false := by rw [← hr]; simp_all <;> omega
        subst hr2
        clear hr
        go_enter Tryd.func46, Tryd.ntmps46
        go_wp2_with (fail)
        refine (must_any false _).mono ?_
        rintro e w2 h
        obtain ⟨rfl, hb⟩ := h.2 rfl
        have HF := Lib.hid (HB.out.trans (hb.mono HB.out.size))
        clear h hb
        go_wp2
        exact ⟨rfl, MustPost.no ⟨rfl, HF.out⟩⟩
    · have e1 : decide (num < pos) = false := by simpa using h1
      have hr2 : r = false := by rw [← hr]; simp_all <;> omega
      subst hr2
      clear hr
      go_enter Tryd.func46, Tryd.ntmps46
      go_wp2_with (fail)
      refine (must_any false _).mono ?_
      rintro e w2 h
      obtain ⟨rfl, hb⟩ := h.2 rfl
      have HF := Lib.hid (HB.out.trans (hb.mono HB.out.size))
      clear h hb
      go_wp2
      exact ⟨rfl, MustPost.no ⟨rfl, HF.out⟩⟩
  · have e0 : decide (0 ≤ num) = false := by simpa using h0
    have hr2 : r = false := by rw [← hr]; simp_all <;> omega
    subst hr2
    clear hr
    go_enter Tryd.func46, Tryd.ntmps46
    go_wp2_with (fail)
    refine (must_any false _).mono ?_
    rintro e w2 h
    obtain ⟨rfl, hb⟩ := h.2 rfl
    have HF := Lib.hid (HB.out.trans (hb.mono HB.out.size))
    clear h hb
    go_wp2
    exact ⟨rfl, MustPost.no ⟨rfl, HF.out⟩⟩
set_option maxRecDepth 100000 in
set_option maxHeartbeats 1000000 in
theorem choice_any (outer d n : Int) (A : Option Addr) (nc cc m : Nat) (k num pos : Int) (A1 : Option Addr) (p1 c1 : Nat) (A2 : Option Addr) (p2 c2 : Nat) (w : World) (hp2 : p2 ≤ 1048576) : Calls Tryd.prog 47 #[WK outer d n A nc cc m, .agg #[.int .i64 k, .int .i64 num, .int .i64 pos, .slice A1 p1 c1, .slice A2 p2 c2]] w (MustPost w 6 (decide (num = 0) && decide (0 ≤ pos) && decide (p1 = 0) && decide ((p2 : Int) - 2 = pos))) := by
  obtain ⟨r, hr⟩ : ∃ r, (decide (num = 0) && decide (0 ≤ pos) && decide (p1 = 0) && decide ((p2 : Int) - 2 = pos)) = r := ⟨_, rfl⟩
  rw [hr]
  have HB := Lib.hid (two_below w (.cells #[.int .i64 outer, .int .i64 d, .int .i64 n, .slice A nc cc, .map (some m)] 55) (.cells #[.int .i64 k, .int .i64 num, .int .i64 pos, .slice A1 p1 c1, .slice A2 p2 c2] 27))
  unfold WK
  have hw : IntKind.i64.wrap ((p2 : Int) - 2) = (p2 : Int) - 2 := IntWalk.i64_in _ (by omega)
  by_cases h0 : num = 0
  · subst h0
    by_cases h1 : 0 ≤ pos
    · by_cases h2 : p1 = 0
      · subst h2
        by_cases h3 : (p2 : Int) - 2 = pos
        · subst h3
          have hr2 : r = true := by rw [← hr]; simp_all <;> omega
          subst hr2
          clear hr
          go_enter Tryd.func47, Tryd.ntmps47
          go_wp2_with (fail)
          refine (must_any true _).mono ?_
          rintro e w2 h
          obtain ⟨rfl, hb⟩ := h.1 rfl
          have HF := Lib.hid (HB.out.trans (hb.mono HB.out.size))
          clear h hb
          go_wp2
          go_end0
          exact MustPost.yes rfl HF.out
        · have e3 : (((p2 : Int) - 2) == pos) = false := by simpa using h3
          have hr2 : r = false := by rw [← hr]; simp_all <;> omega
          subst hr2
          clear hr
          go_enter Tryd.func47, Tryd.ntmps47
          go_wp2_with (fail)
          refine (must_any false _).mono ?_
          rintro e w2 h
          obtain ⟨rfl, hb⟩ := h.2 rfl
          have HF := Lib.hid (HB.out.trans (hb.mono HB.out.size))
          clear h hb
          go_wp2
          exact ⟨rfl, MustPost.no ⟨rfl, HF.out⟩⟩
      · have e2 : ((p1 : Int) == 0) = false := by simpa using (by omega : ¬ (p1 : Int) = 0)
        have hr2 : r = false := by rw [← hr]; simp_all <;> omega
        subst hr2
        clear hr
        go_enter Tryd.func47, Tryd.ntmps47
        go_wp2_with (fail)
        refine (must_any false _).mono ?_
        rintro e w2 h
        obtain ⟨rfl, hb⟩ := h.2 rfl
        have HF := Lib.hid (HB.out.trans (hb.mono HB.out.size))
        clear h hb
        go_wp2
        exact ⟨rfl, MustPost.no ⟨rfl, HF.out⟩⟩
    · have e1 : decide (0 ≤ pos) = false := by simpa using h1
      have hr2 : r = false := by rw [← hr]; simp_all <;> omega
      subst hr2
      clear hr
      go_enter Tryd.func47, Tryd.ntmps47
      go_wp2_with (fail)
      refine (must_any false _).mono ?_
      rintro e w2 h
      obtain ⟨rfl, hb⟩ := h.2 rfl
      have HF := Lib.hid (HB.out.trans (hb.mono HB.out.size))
      clear h hb
      go_wp2
      exact ⟨rfl, MustPost.no ⟨rfl, HF.out⟩⟩
  · have e0 : (num == 0) = false := by simpa using h0
    have hr2 : r = false := by rw [← hr]; simp_all <;> omega
    subst hr2
    clear hr
    go_enter Tryd.func47, Tryd.ntmps47
    go_wp2_with (fail)
    refine (must_any false _).mono ?_
    rintro e w2 h
    obtain ⟨rfl, hb⟩ := h.2 rfl
    have HF := Lib.hid (HB.out.trans (hb.mono HB.out.size))
    clear h hb
    go_wp2
    exact ⟨rfl, MustPost.no ⟨rfl, HF.out⟩⟩
set_option maxRecDepth 100000 in
theorem none_any (outer d n : Int) (A : Option Addr) (nc cc m : Nat) (k num pos : Int) (A1 : Option Addr) (p1 c1 : Nat) (A2 : Option Addr) (p2 c2 : Nat) (w : World) : Calls Tryd.prog 43 #[WK outer d n A nc cc m, .agg #[.int .i64 k, .int .i64 num, .int .i64 pos, .slice A1 p1 c1, .slice A2 p2 c2]] w (MustPost w 6 (decide (num = 0) && decide (pos = 0) && decide (p1 = 0) && decide ((p2 : Int) = 0))) := by
  obtain ⟨r, hr⟩ : ∃ r, (decide (num = 0) && decide (pos = 0) && decide (p1 = 0) && decide ((p2 : Int) = 0)) = r := ⟨_, rfl⟩
  have HB := Lib.hid (two_below w (.cells #[.int .i64 outer, .int .i64 d, .int .i64 n, .slice A nc cc, .map (some m)] 55) (.cells #[.int .i64 k, .int .i64 num, .int .i64 pos, .slice A1 p1 c1, .slice A2 p2 c2] 27))
  have HP : Hid (∀ W, Calls Tryd.prog 56 #[WK outer d n A nc cc m, .agg #[.int .i64 k, .int .i64 num, .int .i64 pos, .slice A1 p1 c1, .slice A2 p2 c2], .int .i64 0] W (MustPost W 6 r)) := fun W => by
    rw [← hr]
    exact plain_any outer d n A nc cc m k num pos A1 p1 c1 A2 p2 c2 0 W
  rw [hr]
  clear hr
  unfold WK at HP ⊢
  go_enter Tryd.func43, Tryd.ntmps43
  go_wp2_with (fail)
  refine (HP.out _).mono ?_
  rintro e w2 h
  have h := h.from HB.out
  clear HP
  cases r with
  | true =>
    obtain ⟨rfl, hb⟩ := h.1 rfl
    have HF := Lib.hid hb
    clear h hb
    go_wp2
    go_end0
    exact MustPost.yes rfl HF.out
  | false =>
    obtain ⟨rfl, hb⟩ := h.2 rfl
    have HF := Lib.hid hb
    clear h hb
    go_wp2
    exact ⟨rfl, MustPost.no ⟨rfl, HF.out⟩⟩
set_option maxRecDepth 100000 in
theorem one_any (outer d n : Int) (A : Option Addr) (nc cc m : Nat) (k num pos : Int) (A1 : Option Addr) (p1 c1 : Nat) (A2 : Option Addr) (p2 c2 : Nat) (w : World) : Calls Tryd.prog 41 #[WK outer d n A nc cc m, .agg #[.int .i64 k, .int .i64 num, .int .i64 pos, .slice A1 p1 c1, .slice A2 p2 c2]] w (MustPost w 6 (decide (num = 0) && decide (pos = 0) && decide (p1 = 0) && decide ((p2 : Int) = 1))) := by
  obtain ⟨r, hr⟩ : ∃ r, (decide (num = 0) && decide (pos = 0) && decide (p1 = 0) && decide ((p2 : Int) = 1)) = r := ⟨_, rfl⟩
  have HB := Lib.hid (two_below w (.cells #[.int .i64 outer, .int .i64 d, .int .i64 n, .slice A nc cc, .map (some m)] 55) (.cells #[.int .i64 k, .int .i64 num, .int .i64 pos, .slice A1 p1 c1, .slice A2 p2 c2] 27))
  have HP : Hid (∀ W, Calls Tryd.prog 56 #[WK outer d n A nc cc m, .agg #[.int .i64 k, .int .i64 num, .int .i64 pos, .slice A1 p1 c1, .slice A2 p2 c2], .int .i64 1] W (MustPost W 6 r)) := fun W => by
    rw [← hr]
    exact plain_any outer d n A nc cc m k num pos A1 p1 c1 A2 p2 c2 1 W
  rw [hr]
  clear hr
  unfold WK at HP ⊢
  go_enter Tryd.func41, Tryd.ntmps41
  go_wp2_with (fail)
  refine (HP.out _).mono ?_
  rintro e w2 h
  have h := h.from HB.out
  clear HP
  cases r with
  | true =>
    obtain ⟨rfl, hb⟩ := h.1 rfl
    have HF := Lib.hid hb
    clear h hb
    go_wp2
    go_end0
    exact MustPost.yes rfl HF.out
  | false =>
    obtain ⟨rfl, hb⟩ := h.2 rfl
    have HF := Lib.hid hb
    clear h hb
    go_wp2
    exact ⟨rfl, MustPost.no ⟨rfl, HF.out⟩⟩
set_option maxRecDepth 100000 in
theorem two_any (outer d n : Int) (A : Option Addr) (nc cc m : Nat) (k num pos : Int) (A1 : Option Addr) (p1 c1 : Nat) (A2 : Option Addr) (p2 c2 : Nat) (w : World) : Calls Tryd.prog 39 #[WK outer d n A nc cc m, .agg #[.int .i64 k, .int .i64 num, .int .i64 pos, .slice A1 p1 c1, .slice A2 p2 c2]] w (MustPost w 6 (decide (num = 0) && decide (pos = 0) && decide (p1 = 0) && decide ((p2 : Int) = 2))) := by
  obtain ⟨r, hr⟩ : ∃ r, (decide (num = 0) && decide (pos = 0) && decide (p1 = 0) && decide ((p2 : Int) = 2)) = r := ⟨_, rfl⟩
  have HB := Lib.hid (two_below w (.cells #[.int .i64 outer, .int .i64 d, .int .i64 n, .slice A nc cc, .map (some m)] 55) (.cells #[.int .i64 k, .int .i64 num, .int .i64 pos, .slice A1 p1 c1, .slice A2 p2 c2] 27))
  have HP : Hid (∀ W, Calls Tryd.prog 56 #[WK outer d n A nc cc m, .agg #[.int .i64 k, .int .i64 num, .int .i64 pos, .slice A1 p1 c1, .slice A2 p2 c2], .int .i64 2] W (MustPost W 6 r)) := fun W => by
    rw [← hr]
    exact plain_any outer d n A nc cc m k num pos A1 p1 c1 A2 p2 c2 2 W
  rw [hr]
  clear hr
  unfold WK at HP ⊢
  go_enter Tryd.func39, Tryd.ntmps39
  go_wp2_with (fail)
  refine (HP.out _).mono ?_
  rintro e w2 h
  have h := h.from HB.out
  clear HP
  cases r with
  | true =>
    obtain ⟨rfl, hb⟩ := h.1 rfl
    have HF := Lib.hid hb
    clear h hb
    go_wp2
    go_end0
    exact MustPost.yes rfl HF.out
  | false =>
    obtain ⟨rfl, hb⟩ := h.2 rfl
    have HF := Lib.hid hb
    clear h hb
    go_wp2
    exact ⟨rfl, MustPost.no ⟨rfl, HF.out⟩⟩
set_option maxRecDepth 100000 in
theorem three_any (outer d n : Int) (A : Option Addr) (nc cc m : Nat) (k num pos : Int) (A1 : Option Addr) (p1 c1 : Nat) (A2 : Option Addr) (p2 c2 : Nat) (w : World) : Calls Tryd.prog 40 #[WK outer d n A nc cc m, .agg #[.int .i64 k, .int .i64 num, .int .i64 pos, .slice A1 p1 c1, .slice A2 p2 c2]] w (MustPost w 6 (decide (num = 0) && decide (pos = 0) && decide (p1 = 0) && decide ((p2 : Int) = 3))) := by
  obtain ⟨r, hr⟩ : ∃ r, (decide (num = 0) && decide (pos = 0) && decide (p1 = 0) && decide ((p2 : Int) = 3)) = r := ⟨_, rfl⟩
  have HB := Lib.hid (two_below w (.cells #[.int .i64 outer, .int .i64 d, .int .i64 n, .slice A nc cc, .map (some m)] 55) (.cells #[.int .i64 k, .int .i64 num, .int .i64 pos, .slice A1 p1 c1, .slice A2 p2 c2] 27))
  have HP : Hid (∀ W, Calls Tryd.prog 56 #[WK outer d n A nc cc m, .agg #[.int .i64 k, .int .i64 num, .int .i64 pos, .slice A1 p1 c1, .slice A2 p2 c2], .int .i64 3] W (MustPost W 6 r)) := fun W => by
    rw [← hr]
    exact plain_any outer d n A nc cc m k num pos A1 p1 c1 A2 p2 c2 3 W
  rw [hr]
  clear hr
  unfold WK at HP ⊢
  go_enter Tryd.func40, Tryd.ntmps40
  go_wp2_with (fail)
  refine (HP.out _).mono ?_
  rintro e w2 h
  have h := h.from HB.out
  clear HP
  cases r with
  | true =>
    obtain ⟨rfl, hb⟩ := h.1 rfl
    have HF := Lib.hid hb
    clear h hb
    go_wp2
    go_end0
    exact MustPost.yes rfl HF.out
  | false =>
    obtain ⟨rfl, hb⟩ := h.2 rfl
    have HF := Lib.hid hb
    clear h hb
    go_wp2
    exact ⟨rfl, MustPost.no ⟨rfl, HF.out⟩⟩
set_option maxRecDepth 100000 in
theorem five_any (outer d n : Int) (A : Option Addr) (nc cc m : Nat) (k num pos : Int) (A1 : Option Addr) (p1 c1 : Nat) (A2 : Option Addr) (p2 c2 : Nat) (w : World) : Calls Tryd.prog 42 #[WK outer d n A nc cc m, .agg #[.int .i64 k, .int .i64 num, .int .i64 pos, .slice A1 p1 c1, .slice A2 p2 c2]] w (MustPost w 6 (decide (num = 0) && decide (pos = 0) && decide (p1 = 0) && decide ((p2 : Int) = 5))) := by
  obtain ⟨r, hr⟩ : ∃ r, (decide (num = 0) && decide (pos = 0) && decide (p1 = 0) && decide ((p2 : Int) = 5)) = r := ⟨_, rfl⟩
  have HB := Lib.hid (two_below w (.cells #[.int .i64 outer, .int .i64 d, .int .i64 n, .slice A nc cc, .map (some m)] 55) (.cells #[.int .i64 k, .int .i64 num, .int .i64 pos, .slice A1 p1 c1, .slice A2 p2 c2] 27))
  have HP : Hid (∀ W, Calls Tryd.prog 56 #[WK outer d n A nc cc m, .agg #[.int .i64 k, .int .i64 num, .int .i64 pos, .slice A1 p1 c1, .slice A2 p2 c2], .int .i64 5] W (MustPost W 6 r)) := fun W => by
    rw [← hr]
    exact plain_any outer d n A nc cc m k num pos A1 p1 c1 A2 p2 c2 5 W
  rw [hr]
  clear hr
  unfold WK at HP ⊢
  go_enter Tryd.func42, Tryd.ntmps42
  go_wp2_with (fail)
  refine (HP.out _).mono ?_
  rintro e w2 h
  have h := h.from HB.out
  clear HP
  cases r with
  | true =>
    obtain ⟨rfl, hb⟩ := h.1 rfl
    have HF := Lib.hid hb
    clear h hb
    go_wp2
    go_end0
    exact MustPost.yes rfl HF.out
  | false =>
    obtain ⟨rfl, hb⟩ := h.2 rfl
    have HF := Lib.hid hb
    clear h hb
    go_wp2
    exact ⟨rfl, MustPost.no ⟨rfl, HF.out⟩⟩
set_option maxRecDepth 100000 in
theorem six_any (outer d n : Int) (A : Option Addr) (nc cc m : Nat) (k num pos : Int) (A1 : Option Addr) (p1 c1 : Nat) (A2 : Option Addr) (p2 c2 : Nat) (w : World) : Calls Tryd.prog 44 #[WK outer d n A nc cc m, .agg #[.int .i64 k, .int .i64 num, .int .i64 pos, .slice A1 p1 c1, .slice A2 p2 c2]] w (MustPost w 6 (decide (num = 0) && decide (pos = 0) && decide (p1 = 0) && decide ((p2 : Int) = 6))) := by
  obtain ⟨r, hr⟩ : ∃ r, (decide (num = 0) && decide (pos = 0) && decide (p1 = 0) && decide ((p2 : Int) = 6)) = r := ⟨_, rfl⟩
  have HB := Lib.hid (two_below w (.cells #[.int .i64 outer, .int .i64 d, .int .i64 n, .slice A nc cc, .map (some m)] 55) (.cells #[.int .i64 k, .int .i64 num, .int .i64 pos, .slice A1 p1 c1, .slice A2 p2 c2] 27))
  have HP : Hid (∀ W, Calls Tryd.prog 56 #[WK outer d n A nc cc m, .agg #[.int .i64 k, .int .i64 num, .int .i64 pos, .slice A1 p1 c1, .slice A2 p2 c2], .int .i64 6] W (MustPost W 6 r)) := fun W => by
    rw [← hr]
    exact plain_any outer d n A nc cc m k num pos A1 p1 c1 A2 p2 c2 6 W
  rw [hr]
  clear hr
  unfold WK at HP ⊢
  go_enter Tryd.func44, Tryd.ntmps44
  go_wp2_with (fail)
  refine (HP.out _).mono ?_
  rintro e w2 h
  have h := h.from HB.out
  clear HP
  cases r with
  | true =>
    obtain ⟨rfl, hb⟩ := h.1 rfl
    have HF := Lib.hid hb
    clear h hb
    go_wp2
    go_end0
    exact MustPost.yes rfl HF.out
  | false =>
    obtain ⟨rfl, hb⟩ := h.2 rfl
    have HF := Lib.hid hb
    clear h hb
    go_wp2
    exact ⟨rfl, MustPost.no ⟨rfl, HF.out⟩⟩
end Go.Proofs.YtkijhinhjnbnlaaDoor
namespace Go.Proofs.YtkijhinhjnbnlaaDoor
open Go.RowKit Go.Maps
section
variable {P : Program} {S : World → Prop} {R : World → World → Prop} {o : Oper} {V : Value → World → Prop} {g : Option (Option Tmp × Bool)} {a : Act} {w : World}
end
theorem set_same {w : World} {g : Nat} {cur : Array Value} {t : TypeId} {fr : Nat × Nat} (h : w.heap[g]? = some (.cells cur t fr)) (j : Nat) (v : Value) : (w.setCell ⟨g, j, none⟩ v).heap[g]? = some (.cells (cur.setIfInBounds j v) t fr) := by
  have hg := heap_some_lt h
  simp [World.setCell, Array.getElem?_modify, h]
theorem row_cell {w : World} {g : Nat} {cur : Array Value} {t : TypeId} {fr : Nat × Nat} (h : w.heap[g]? = some (.cells cur t fr)) {j : Nat} {v : Value} (hv : cur[j]? = some v) : w.cell? ⟨g, j, none⟩ = some v := by simp [World.cell?, h, hv]
theorem grown_set {w w' : World} {g : Nat} (h : w.grownBy w' (some g)) (j : Nat) (v : Value) : w.grownBy (w'.setCell ⟨g, j, none⟩ v) (some g) :=
  ⟨h.os, h.tape, h.output, by simp [World.setCell]; exact h.size, fun k hk hne => (Below.heap_setCell w' _ _ _ (fun e => hne (by rw [e]))).trans (h.block k hk hne)⟩
end Go.Proofs.YtkijhinhjnbnlaaDoor
namespace Go.Proofs.YtkijhinhjnbnlaaDoor
open Go.RowKit Go.Maps
/-- five cells -/
def Cells5 (cur : Array Value) (o : Nat) (c0 c1 c2 c3 c4 : Value) : Prop := cur[o]? = some c0 ∧ cur[o + 1]? = some c1 ∧ cur[o + 2]? = some c2 ∧ cur[o + 3]? = some c3 ∧ cur[o + 4]? = some c4
theorem infoTm : (Tryd.prog.info? 27).map (fun i => (i.zero, i.size, i.bytes)) = some (some (.agg #[.int .i64 0, .int .i64 0, .int .i64 0, .slice none 0 0, .slice none 0 0]), 5, 72) := by kernel_rfl
/-- the cells of a row of terms -/
theorem Tms.row {w : World} {B : Nat} {b : Nat} : ∀ {ts : List Tm} {o : Nat}, TmsAt w B b o ts → ∃ xs : List Value, xs.length = ts.length * 5 ∧ (∀ j v, xs[j]? = some v → w.cell? ⟨b, o + j, none⟩ = some v) ∧ (∀ v ∈ xs, v.oneCell' = true) ∧ ∀ i t, ts[i]? = some t → ∃ c0 c1 c2 c3 c4, xs[i * 5]? = some c0 ∧ xs[i * 5 + 1]? = some c1 ∧ xs[i * 5 + 2]? = some c2 ∧ xs[i * 5 + 3]? = some c3 ∧ xs[i * 5 + 4]? = some c4 ∧ TmAt w B t (.agg #[c0, c1, c2, c3, c4])
  | [], o, _ => ⟨[], by simp⟩
  | t :: ts, o, h => by
    unfold TmsAt at h
    obtain ⟨⟨v, ⟨c0, c1, c2, c3, c4, rfl, f0, f1, f2, f3, f4⟩, hv⟩, hr⟩ := h
    obtain ⟨xs, h1, h2, h3, h4⟩ := Tms.row (b := b) (o := o + 5) hr
    have hone : c0.oneCell' = true ∧ c1.oneCell' = true ∧ c2.oneCell' = true ∧ c3.oneCell' = true ∧ c4.oneCell' = true := by
      obtain ⟨k, n, a, lv, kids⟩ := t
      obtain ⟨A1, p1, A2, p2, e, _⟩ := hv.open
      injection e with e
      injection e with e
      injection e with e0 e
      injection e with e1 e
      injection e with e2 e
      injection e with e3 e
      injection e with e4 _
      subst e0 e1 e2 e3 e4
      exact ⟨rfl, rfl, rfl, rfl, rfl⟩
    refine ⟨c0 :: c1 :: c2 :: c3 :: c4 :: xs, by simp [h1]; omega, fun j v hj => ?_, fun v hm => ?_, fun i s hs => ?_⟩
    · match j, hj with
      | 0, hj => injection hj with hj; subst hj; exact f0
      | 1, hj => injection hj with hj; subst hj; exact f1
      | 2, hj => injection hj with hj; subst hj; exact f2
      | 3, hj => injection hj with hj; subst hj; exact f3
      | 4, hj => injection hj with hj; subst hj; exact f4
      | j + 5, hj =>
        have := h2 j v (by simpa using hj)
        rw [show o + (j + 5) = o + 5 + j by omega]
        exact this
    · simp only [List.mem_cons] at hm
      obtain ⟨q0, q1, q2, q3, q4⟩ := hone
      rcases hm with rfl | rfl | rfl | rfl | rfl | hm
      · exact q0
      · exact q1
      · exact q2
      · exact q3
      · exact q4
      · exact h3 v hm
    · match i, hs with
      | 0, hs =>
        injection hs with hs
        subst hs
        exact ⟨c0, c1, c2, c3, c4, rfl, rfl, rfl, rfl, rfl, hv⟩
      | i + 1, hs =>
        obtain ⟨d0, d1, d2, d3, d4, q0, q1, q2, q3, q4, q5⟩ := h4 i s (by simpa using hs)
        have e : (i + 1) * 5 = i * 5 + 5 := by omega
        refine ⟨d0, d1, d2, d3, d4, ?_, ?_, ?_, ?_, ?_, q5⟩ <;> rw [e] <;> simpa [Nat.add_assoc]
end Go.Proofs.YtkijhinhjnbnlaaDoor
namespace Go.Proofs.YtkijhinhjnbnlaaDoor
open Go.RowKit Go.Maps
theorem addr_add (b o j : Nat) : (⟨b, o, none⟩ : Addr).add j = ⟨b, o + j, none⟩ := by
  unfold Addr.add
  split
  · rename_i h
    rw [h]
    rfl
  · rfl
end Go.Proofs.YtkijhinhjnbnlaaDoor
namespace Go.Proofs.YtkijhinhjnbnlaaDoor
open Go.RowKit Go.Maps
section
variable {S : World → Prop} {R : World → World → Prop} {o : Oper} {V : Value → World → Prop} {g : Option (Option Tmp × Bool)} {a : Act} {w : World}
set_option maxRecDepth 100000 in
theorem StepFrom.lenT {x : Operand} (hop : o.op = .call { callee := .builtin .len, args := #[x], argTypes := #[25] }) {A : Option Addr} {n c : Nat} (hx : a.eval x = .slice A n c)
    (hg : gOn g a = true) (hS : S w) (hR : R w w) (hV : V (.int .i64 (n : Int)) w) : StepFrom Tryd.prog S R o V g [] a w :=
  StepFrom.ran (v := .int .i64 (n : Int)) (by
    have hm : (#[x] : Array Operand).map a.eval = #[.slice A n c] := by rw [List.map_toArray, List.map_cons, List.map_nil, hx]
    unfold execOp
    simp only [hop, resolve, hm]
    simp [go_sem]) hg hS hR hV
end
end Go.Proofs.YtkijhinhjnbnlaaDoor
namespace Go.Proofs.YtkijhinhjnbnlaaDoor
open Go.RowKit Go.Maps
end Go.Proofs.YtkijhinhjnbnlaaDoor
namespace Go.Proofs.YtkijhinhjnbnlaaDoor
open Go.RowKit Go.Maps
/-- the table of kinds: num, at, levels, kids, binds -/
def kindTab : List (Bool × Bool × Int × Int × Int) := [(false, false, 0, 0, 0), (true, false, 0, 0, 0), (false, false, 1, 0, 0), (true, false, 2, 0, 0), (false, false, 0, 2, 2), (false, false, 0, 2, 2), (false, false, 0, 2, 0), (false, false, 0, 3, 3), (true, true, 2, 0, 0), (true, true, 2, 0, 0), (true, true, 3, 0, 0), (false, true, 0, 0, 0), (false, false, 0, 2, 2), (false, false, 0, 2, 0), (false, false, 0, 1, 0), (false, false, 0, 1, 0), (false, false, 0, 2, 2), (false, false, 0, 2, 0), (false, false, 0, 5, 2), (false, false, 0, 3, 0), (false, false, 0, 0, 0), (false, false, 0, 6, 0), (true, false, 0, 0, 0), (true, true, 0, 0, 0), (false, true, 0, -1, 0)]
def kindRow (i : Nat) : Bool × Bool × Int × Int × Int := kindTab.getD i (false, false, 0, 0, 0)
/-- the table as the package's variable holds it -/
def KindsAll (w : World) : Prop := ∀ i : Nat, i < 25 → w.cell? ⟨0, i * 5, none⟩ = some (.bool (kindRow i).1) ∧ w.cell? ⟨0, i * 5 + 1, none⟩ = some (.bool (kindRow i).2.1) ∧ w.cell? ⟨0, i * 5 + 2, none⟩ = some (.int .i64 (kindRow i).2.2.1) ∧ w.cell? ⟨0, i * 5 + 3, none⟩ = some (.int .i64 (kindRow i).2.2.2.1) ∧ w.cell? ⟨0, i * 5 + 4, none⟩ = some (.int .i64 (kindRow i).2.2.2.2)
theorem kindRow_binds : ∀ i : Nat, i < 25 → (kindRow i).2.2.2.2 = bindTab.getD i 0 := by decide
theorem KindsAll.binds {w : World} (h : KindsAll w) : KindsAt w := fun i hi => by rw [← kindRow_binds i hi]; exact (h i hi).2.2.2.2
end Go.Proofs.YtkijhinhjnbnlaaDoor
namespace Go.Proofs.YtkijhinhjnbnlaaDoor
open Go.RowKit Go.Maps
theorem levs_nil (w : World) (B : Nat) (A : Option Addr) : Levs w B A [] := fun h => by simp at h
theorem tms_nil (w : World) (B : Nat) : Tms w B none 0 [] := ⟨fun _ => rfl, fun h => by simp at h⟩
/-- an address of five cells -/
theorem Five.of {w : World} {b : Nat} {cur : Array Value} {t : TypeId} {fr : Nat × Nat} (h : w.heap[b]? = some (.cells cur t fr)) {o : Nat} {c0 c1 c2 c3 c4 : Value} (h5 : Cells5 cur o c0 c1 c2 c3 c4) : Five w b o (.agg #[c0, c1, c2, c3, c4]) :=
  ⟨c0, c1, c2, c3, c4, rfl, row_cell h h5.1, row_cell h h5.2.1, row_cell h h5.2.2.1, row_cell h h5.2.2.2.1, row_cell h h5.2.2.2.2⟩
end Go.Proofs.YtkijhinhjnbnlaaDoor
namespace Go.Proofs.YtkijhinhjnbnlaaDoor
open Go.RowKit Go.Maps
theorem TmAt.cells {w : World} {B : Nat} {t : Tm} {v : Value} (h : TmAt w B t v) : ∃ c0 c1 c2 c3 c4, v = .agg #[c0, c1, c2, c3, c4] := by
  obtain ⟨k, n, a, lv, kids⟩ := t
  obtain ⟨Al, cl, Ak, ck, rfl, _⟩ := h.open
  exact ⟨_, _, _, _, _, rfl⟩
/-- a row of terms, told -/
def TmsV (ts : List Tm) (x : Value) (w : World) : Prop := ∃ A c, x = .slice A ts.length c ∧ Tms w w.heap.size A c ts
end Go.Proofs.YtkijhinhjnbnlaaDoor
