/- What level.Value answers of parts that may stand in a normal form: the greatest of its parts with numbers for their variables. -/
import Derived.Test.YtafgmndlbbjphaaDoorLvLeq
namespace Go.Proofs.YtafgmndlbbjphaaDoor
open Go.RowKit Go.Maps

theorem quiet_of_eq {P : Program} {f : FuncId} {args : Array Value} {w : World} {n : Nat} {v : Value} (h : Calls P f args (w.drewN n) fun e w' => e = .returned v ∧ w.drewN n = w') :
    Calls P f args (w.drewN n) fun e w'' => e = .returned v ∧ ∃ m, w'' = w.drewN m := h.mono fun _ _ ⟨he, hw⟩ => ⟨he, n, hw.symm⟩

/-- A row of ints in memory. -/
def Ints (w : World) (B : Nat) (A : Option Addr) (ns : List Int) : Prop :=
  0 < ns.length → ∃ b o, A = some ⟨b, o, none⟩ ∧ b < B ∧ ∀ j, j < ns.length → w.cell? ⟨b, o + j, none⟩ = some (.int .i64 (ns.getD j 0))
theorem Ints.below {w w' : World} {B : Nat} {A : Option Addr} {ns : List Int} (h : Ints w B A ns) (hb : Below B w w') : Ints w' B A ns := fun hn => by
  obtain ⟨b, o, e, hbB, hc⟩ := h hn
  exact ⟨b, o, e, hbB, fun j hj => (hb.cell hbB).trans (hc j hj)⟩
theorem Ints.more {w : World} {B B' : Nat} {A : Option Addr} {ns : List Int} (h : Ints w B A ns) (hB : B ≤ B') : Ints w B' A ns := fun hn => by
  obtain ⟨b, o, e, hb, hc⟩ := h hn
  exact ⟨b, o, e, by omega, hc⟩

/-- The number that stands for a variable. -/
def numS (ns : List Int) (v : Int) : Int :=
  if v < 1 ∨ (ns.length : Int) < v then 0 else if 0 ≤ ns.getD (v - 1).toNat 0 ∧ ns.getD (v - 1).toNat 0 ≤ 1048576 then ns.getD (v - 1).toNat 0 else 0
theorem numS_bd (ns : List Int) (v : Int) : 0 ≤ numS ns v ∧ numS ns v ≤ 1048576 := by
  unfold numS
  split
  · omega
  · split <;> omega


/-- The value of what a map keeps. -/
def IsVal (m : Int → Option Int) (ns : List Int) (x : Int) : Prop :=
  0 ≤ x ∧ (∀ k v, Kept m k v → numS ns k + v ≤ x) ∧ (x = 0 ∨ ∃ k v, Kept m k v ∧ x = numS ns k + v)
def ValPost (w : World) (m : Int → Option Int) (ns : List Int) (e : Ending) (w' : World) : Prop := ∃ x, e = .returned (.int .i64 x) ∧ IsVal m ns x ∧ Below w.heap.size w w'
def ValSo (qs : List (Int × Int)) (ns : List Int) (x : Int) : Prop :=
  0 ≤ x ∧ x ≤ 2097152 ∧ (∀ p ∈ qs, numS ns p.1 + p.2 ≤ x) ∧ (x = 0 ∨ ∃ p ∈ qs, x = numS ns p.1 + p.2)
theorem ValSo.step {qs : List (Int × Int)} {ns : List Int} {x : Int} (h : ValSo qs ns x) {p : Int × Int} (hp : 0 ≤ p.2 ∧ p.2 ≤ 1048576) : ValSo (qs ++ [p]) ns (max x (numS ns p.1 + p.2)) := by
  have hb := numS_bd ns p.1
  obtain ⟨h0, h1, h2, h3⟩ := h
  refine ⟨by omega, by omega, fun q hq => ?_, ?_⟩
  · rw [List.mem_append] at hq
    rcases hq with hq | hq
    · have := h2 q hq; omega
    · simp at hq; subst hq; omega
  · by_cases e : x ≤ numS ns p.1 + p.2
    · exact Or.inr ⟨p, by simp, by omega⟩
    · rcases h3 with h3 | ⟨q, hq, hh⟩
      · exact Or.inl (by omega)
      · exact Or.inr ⟨q, by simp [hq], by omega⟩


end Go.Proofs.YtafgmndlbbjphaaDoor
