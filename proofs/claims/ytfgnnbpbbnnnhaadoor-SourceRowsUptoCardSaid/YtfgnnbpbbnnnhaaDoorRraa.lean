/- Laws. -/
import Derived.Test.YtfgnnbpbbnnnhaaDoorRows
import Derived.WalkKit
import Derived.WalkSpells
import Derived.WalkLawsBesides
import Derived.BigQuiet
import Derived.Deep.QuietTactic
import Derived.Lib.Hide
import Derived.Outline
import Derived.IntWalk
namespace Go.Proofs.YtfgnnbpbbnnnhaaDoor
open Go.RowKit
/-- A row of parts in memory: each by its two cells. -/
def Lev (w : World) (B : Nat) (A : Option Addr) (ps : List (Int × Int)) : Prop :=
  0 < ps.length → ∃ b o, A = some ⟨b, o, none⟩ ∧ b < B ∧ ∀ i, i < ps.length → w.cell? ⟨b, o + i * 2, none⟩ = some (.int .i64 (ps.getD i (0, 0)).1) ∧ w.cell? ⟨b, o + i * 2 + 1, none⟩ = some (.int .i64 (ps.getD i (0, 0)).2)
theorem Lev.keep {w w' : World} {B : Nat} {A : Option Addr} {ps : List (Int × Int)} (h : Lev w B A ps) (hk : ∀ p : Addr, p.block < B → w'.cell? p = w.cell? p) : Lev w' B A ps := fun hn => by
  obtain ⟨b, o, e, hb, hc⟩ := h hn
  exact ⟨b, o, e, hb, fun i hi => ⟨(hk _ hb).trans (hc i hi).1, (hk _ hb).trans (hc i hi).2⟩⟩
theorem Lev.below {w w' : World} {B : Nat} {A : Option Addr} {ps : List (Int × Int)} (h : Lev w B A ps) (hb : Below B w w') : Lev w' B A ps := h.keep fun _ hp => hb.cell hp
theorem Lev.more {w : World} {B B' : Nat} {A : Option Addr} {ps : List (Int × Int)} (h : Lev w B A ps) (hB : B ≤ B') : Lev w B' A ps := fun hn => by
  obtain ⟨b, o, e, hb, hc⟩ := h hn
  exact ⟨b, o, e, by omega, hc⟩
theorem below_drewN {B : Nat} {a w : World} (h : Below B a w) (n : Nat) : Below B a (w.drewN n) := ⟨h.os, h.tape, h.output, h.size, h.block⟩
end Go.Proofs.YtfgnnbpbbnnnhaaDoor
