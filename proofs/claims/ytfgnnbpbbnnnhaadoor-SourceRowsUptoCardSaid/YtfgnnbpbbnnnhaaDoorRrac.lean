/- Laws. -/
import Derived.Test.YtfgnnbpbbnnnhaaDoorRraa
import Derived.OwnWalk
import Derived.Laws.AppendOwnNone
namespace Go.Proofs.YtfgnnbpbbnnnhaaDoor
open Go.RowKit
/-- The cells of parts. -/
def cells (ps : List (Int × Int)) : List Value := ps.flatMap fun p => [.int .i64 p.1, .int .i64 p.2]
theorem cells_length (ps : List (Int × Int)) : (cells ps).length = ps.length * 2 := by
  induction ps with
  | nil => rfl
  | cons p ps ih => simp [cells] at ih ⊢; omega
theorem cells_get : ∀ (ps : List (Int × Int)) (j : Nat) (u : Value), (cells ps)[j]? = some u → ∃ i, i < ps.length ∧ ((j = i * 2 ∧ u = .int .i64 (ps.getD i (0, 0)).1) ∨ (j = i * 2 + 1 ∧ u = .int .i64 (ps.getD i (0, 0)).2))
  | [], j, u, h => by simp [cells] at h
  | p :: ps, 0, u, h => by simp [cells] at h; exact ⟨0, by simp, Or.inl ⟨rfl, by simp [h]⟩⟩
  | p :: ps, 1, u, h => by simp [cells] at h; exact ⟨0, by simp, Or.inr ⟨rfl, by simp [h]⟩⟩
  | p :: ps, j + 2, u, h => by
    have h' : (cells ps)[j]? = some u := by simpa [cells] using h
    obtain ⟨i, hi, hh⟩ := cells_get ps j u h'
    refine ⟨i + 1, by simpa using hi, ?_⟩
    rcases hh with ⟨e, eu⟩ | ⟨e, eu⟩
    · exact Or.inl ⟨by omega, by simpa using eu⟩
    · exact Or.inr ⟨by omega, by simpa using eu⟩
theorem cells_at : ∀ (ps : List (Int × Int)) (i : Nat), i < ps.length → (cells ps)[i * 2]? = some (.int .i64 (ps.getD i (0, 0)).1) ∧ (cells ps)[i * 2 + 1]? = some (.int .i64 (ps.getD i (0, 0)).2)
  | [], i, h => by simp at h
  | p :: ps, 0, _ => by simp [cells]
  | p :: ps, i + 1, h => by
    have := cells_at ps i (by simpa using h)
    simp only [cells, List.flatMap_cons] at this ⊢
    rw [show (i + 1) * 2 = i * 2 + 2 from by omega]
    simpa using this
theorem cells_one (ps : List (Int × Int)) : ∀ u ∈ cells ps, u.oneCell' = true := by
  intro u hu
  simp only [cells, List.mem_flatMap] at hu
  obtain ⟨p, _, hp⟩ := hu
  simp at hp
  rcases hp with rfl | rfl <;> rfl
theorem infoP : (Tryd.prog.info? 91).map (fun i => (i.zero, i.size, i.bytes)) = some (some (.agg #[.int .i64 0, .int .i64 0]), 2, 16) := by kernel_rfl
/-- Few enough to be copied. -/
def Few (n : Nat) : Prop := n ≤ 1099511627776
def RowPost (w : World) (ps : List (Int × Int)) (e : Ending) (w' : World) : Prop :=
  ∃ v, e = .returned v ∧ w'.ownsRow w.heap.size 91 2 v ps.length (cells ps) ∧ Below w.heap.size w w'
theorem Lev.src {w : World} {b o : Nat} {ps : List (Int × Int)} (h : ∀ i, i < ps.length → w.cell? ⟨b, o + i * 2, none⟩ = some (.int .i64 (ps.getD i (0, 0)).1) ∧ w.cell? ⟨b, o + i * 2 + 1, none⟩ = some (.int .i64 (ps.getD i (0, 0)).2)) :
    ∀ j u, (cells ps)[j]? = some u → w.cell? ((⟨b, o, none⟩ : Addr).add j) = some u := by
  intro j u hu
  obtain ⟨i, hi, hh⟩ := cells_get ps j u hu
  rw [show ((⟨b, o, none⟩ : Addr).add j) = ⟨b, o + j, none⟩ from by unfold Addr.add; split <;> simp_all]
  rcases hh with ⟨rfl, rfl⟩ | ⟨rfl, rfl⟩
  · exact (h i hi).1
  · exact (h i hi).2
theorem addr_block (a : Addr) (n : Nat) : (a.add n).block = a.block := by unfold Addr.add; split <;> rfl
theorem own_empty (w : World) (e : TypeId) : (w.alloc (.cells #[] e)).ownsRow w.heap.size e 2 (.slice (some ⟨w.heap.size, 0, none⟩) 0 0) 0 [] :=
  ⟨rfl, Or.inr ⟨w.heap.size, 0, #[], rfl, Nat.le_refl _, heap_alloc_new w _, Nat.le_refl _, Nat.zero_le _, rfl, rfl⟩⟩
set_option maxRecDepth 100000 in
set_option maxHeartbeats 1000000 in
theorem clone_any (A : Option Addr) (ps : List (Int × Int)) (c : Nat) (w : World) (B : Nat) (hB : B ≤ w.heap.size) (hm : Few ps.length) (h : Lev w B A ps) (hc : A = none → c = 0) :
    Calls Tryd.prog 46 #[.slice A ps.length c] w (RowPost w ps) := by
  obtain ⟨i0, hi, hz0, hz1, hz2⟩ := info_parts infoP
  have hnl := fun (W : World) (A : Option Addr) (n c n' c' : Nat) => Lib.run_eql_slice_nil (P := Tryd.prog) W 37 91 A n c n' c' Tryd.underlying37
  rcases A with _ | a
  · obtain rfl := hc rfl
    obtain rfl : ps = [] := by
      rcases ps with _ | ⟨p, ps⟩
      · rfl
      · obtain ⟨b, o, e, _⟩ := h (by simp)
        cases e
    clear h hc
    have hfin : RowPost w [] (.returned (.slice none 0 0)) w := ⟨_, rfl, ⟨rfl, Or.inl ⟨rfl, rfl⟩⟩, Below.refl _ _⟩
    have HF := Lib.hid hfin
    clear hfin
    go_enter Tryd.func46, Tryd.ntmps46
    go_wp2
    go_ret
    exact HF.out
  · clear hc
    rcases Nat.eq_zero_or_pos ps.length with h0 | h0
    · obtain rfl := List.eq_nil_of_length_eq_zero h0
      clear h0 h
      have hfin : RowPost w [] (.returned (.slice (some ⟨w.heap.size, 0, none⟩) 0 0)) (w.alloc (.cells #[] 91)) := ⟨_, rfl, own_empty w _, (Below.refl _ _).alloc (Nat.le_refl _) _⟩
      have HF := Lib.hid hfin
      clear hfin
      go_enter Tryd.func46, Tryd.ntmps46
      go_wp2
      go_ret
      exact HF.out
    · obtain ⟨b, o, e, hb, hcell⟩ := h h0
      injection e with e
      subst e
      clear h
      have hsrc : ∀ j u, (cells ps)[j]? = some u → (w.alloc (.cells #[] 91)).cell? ((⟨b, o, none⟩ : Addr).add j) = some u := fun j u hu =>
        (((Below.refl B w).alloc hB (.cells #[] 91)).cell (by rw [addr_block]; exact hb)).trans (Lev.src hcell j u hu)
      have Hsrc := Lib.hid hsrc
      have Hown := Lib.hid (own_empty w 91)
      have HM := Lib.hid hm
      have hfin : ∀ v w1, w1.ownsRow w.heap.size 91 2 v ps.length (cells ps) → (w.alloc (.cells #[] 91)).grownBy w1 (some w.heap.size) → RowPost w ps (.returned v) w1 := fun v w1 ho hg =>
        ⟨v, rfl, ho, ((Below.refl _ _).alloc (Nat.le_refl _) _).grown hg (by simp) (fun k e => by cases e; exact Nat.le_refl _)⟩
      have HF := Lib.hid hfin
      clear hfin hsrc hcell hm
      go_enter Tryd.func46, Tryd.ntmps46
      go_wp2_with (at_builtin; refine wpList_append_own _ rfl _ _ 37 rfl w.heap.size 91 i0 (.agg #[.int .i64 0, .int .i64 0]) 2 16 Tryd.underlying37 hi hz0 hz1 hz2 rfl (by decide) _ _ _ rfl Hown.out ⟨b, o, none⟩ ps.length c (cells ps) rfl (cells_length ps) Hsrc.out (cells_one ps) ?c1 ?c2 ?c3 ?_)
      case c1 => have := HM.out; unfold Few at this; unfold maxLen; omega
      case c2 => have := HM.out; unfold Few at this; omega
      case c3 => simp
      intro v w1 ho hg _
      have HX : Hid (RowPost w ps (.returned v) w1) := HF.out v w1 ho hg
      clear ho hg
      go_wp2
      go_ret
      exact HX.out
end Go.Proofs.YtfgnnbpbbnnnhaaDoor
