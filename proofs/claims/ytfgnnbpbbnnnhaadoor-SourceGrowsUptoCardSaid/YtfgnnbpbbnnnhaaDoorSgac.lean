/- Laws. -/
import Derived.Test.YtfgnnbpbbnnnhaaDoorSgaa
import Derived.OwnWalk
import Derived.Laws.AppendOwnNone
namespace Go.Proofs.YtfgnnbpbbnnnhaaDoor
open Go.RowKit
/-- The cells of parts. -/
def cells (ps : List (Int × Int)) : List Value := ps.flatMap fun p => [.int .i64 p.1, .int .i64 p.2]
theorem cells_length (ps : List (Int × Int)) : (cells ps).length = ps.length * 2 := by
  induction ps with
  | nil => rfl
  | cons p ps ih => simp [cells] at ih ⊢; omega
theorem cells_get : ∀ (ps : List (Int × Int)) (j : Nat) (u : Value), (cells ps)[j]? = some u → ∃ i, i < ps.length ∧ ((j = i * 2 ∧ u = .int .i64 (ps.getD i (0, 0)).1) ∨ (j = i * 2 + 1 ∧ u = .int .i64 (ps.getD i (0, 0)).2))
  | [], j, u, h => by simp [cells] at h
  | p :: ps, 0, u, h => by simp [cells] at h; exact ⟨0, by simp, Or.inl ⟨rfl, by simp [h]⟩⟩
  | p :: ps, 1, u, h => by simp [cells] at h; exact ⟨0, by simp, Or.inr ⟨rfl, by simp [h]⟩⟩
  | p :: ps, j + 2, u, h => by
    have h' : (cells ps)[j]? = some u := by simpa [cells] using h
    obtain ⟨i, hi, hh⟩ := cells_get ps j u h'
    refine ⟨i + 1, by simpa using hi, ?_⟩
    rcases hh with ⟨e, eu⟩ | ⟨e, eu⟩
    · exact Or.inl ⟨by omega, by simpa using eu⟩
    · exact Or.inr ⟨by omega, by simpa using eu⟩
theorem cells_at : ∀ (ps : List (Int × Int)) (i : Nat), i < ps.length → (cells ps)[i * 2]? = some (.int .i64 (ps.getD i (0, 0)).1) ∧ (cells ps)[i * 2 + 1]? = some (.int .i64 (ps.getD i (0, 0)).2)
  | [], i, h => by simp at h
  | p :: ps, 0, _ => by simp [cells]
  | p :: ps, i + 1, h => by
    have := cells_at ps i (by simpa using h)
    simp only [cells, List.flatMap_cons] at this ⊢
    rw [show (i + 1) * 2 = i * 2 + 2 from by omega]
    simpa using this
theorem cells_one (ps : List (Int × Int)) : ∀ u ∈ cells ps, u.oneCell' = true := by
  intro u hu
  simp only [cells, List.mem_flatMap] at hu
  obtain ⟨p, _, hp⟩ := hu
  simp at hp
  rcases hp with rfl | rfl <;> rfl
theorem infoP : (Tryd.prog.info? 91).map (fun i => (i.zero, i.size, i.bytes)) = some (some (.agg #[.int .i64 0, .int .i64 0]), 2, 16) := by kernel_rfl
/-- Few enough to be copied. -/
def Few (n : Nat) : Prop := n ≤ 1099511627776
theorem Lev.src {w : World} {b o : Nat} {ps : List (Int × Int)} (h : ∀ i, i < ps.length → w.cell? ⟨b, o + i * 2, none⟩ = some (.int .i64 (ps.getD i (0, 0)).1) ∧ w.cell? ⟨b, o + i * 2 + 1, none⟩ = some (.int .i64 (ps.getD i (0, 0)).2)) :
    ∀ j u, (cells ps)[j]? = some u → w.cell? ((⟨b, o, none⟩ : Addr).add j) = some u := by
  intro j u hu
  obtain ⟨i, hi, hh⟩ := cells_get ps j u hu
  rw [show ((⟨b, o, none⟩ : Addr).add j) = ⟨b, o + j, none⟩ from by unfold Addr.add; split <;> simp_all]
  rcases hh with ⟨rfl, rfl⟩ | ⟨rfl, rfl⟩
  · exact (h i hi).1
  · exact (h i hi).2
theorem addr_block (a : Addr) (n : Nat) : (a.add n).block = a.block := by unfold Addr.add; split <;> rfl
end Go.Proofs.YtfgnnbpbbnnnhaaDoor
