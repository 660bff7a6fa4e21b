/- Laws. -/
import Derived.Test.YtfgnnbpbbnnnhaaDoorKqaa
import Derived.Maps.OwnSet
import Derived.Maps.OwnOps
namespace Go.Proofs.YtfgnnbpbbnnnhaaDoor
open Go.RowKit Go.Maps
theorem lawI : Keyed Tryd.prog 3 := int_keyed Tryd.underlying3
theorem zeroI (w : World) : (zeroValue 3).run Tryd.prog w = .ok (.int .i64 0) w := by kernel_rfl
/-- A map's datum holds just what a function says. -/
def Reps (D : DataW Unit) (m : Int → Option Int) : Prop :=
  IsMap D ∧ ∀ k, Maps.has D (.int .i64 k) = (m k).isSome ∧ ∀ z v, m k = some v → D.atKey (.int .i64 k) z = .lit (.int .i64 v)
def upd (m : Int → Option Int) (x y : Int) : Int → Option Int :=
  fun k => if k = x then some (match m x with | some v => if v < y then y else v | none => y) else m k
def Mp (w : World) (b n : Nat) (m : Int → Option Int) : Prop := ∃ D, w.ownsMap Tryd.prog 3 (plainElem Tryd.prog 3) b n D ∧ Reps D m
theorem Reps.put {D : DataW Unit} {m : Int → Option Int} (h : Reps D m) (x y : Int) : Reps (D.put (.int .i64 x) (.lit (.int .i64 y))) (fun k => if k = x then some y else m k) := by
  refine ⟨h.1.put _ _, fun k => ?_⟩
  by_cases e : k = x
  · subst e
    refine ⟨by simp [has_put_same h.1 (k := .int .i64 k) trivial], fun z v hv => ?_⟩
    simp at hv
    subst hv
    exact atKey_put_same (k := .int .i64 k) h.1 trivial _ _
  · have hne : (Lit.int .i64 k) ≠ .int .i64 x := fun q => e (by injection q)
    refine ⟨by rw [has_put_other hne]; simp [e, (h.2 k).1], fun z v hv => ?_⟩
    simp [e] at hv
    rw [atKey_put_other hne]
    exact (h.2 k).2 z v hv
theorem Reps.del {D : DataW Unit} {m : Int → Option Int} (h : Reps D m) (x : Int) : Reps (D.del (.int .i64 x)) (fun k => if k = x then none else m k) := by
  refine ⟨h.1.del _, fun k => ?_⟩
  by_cases e : k = x
  · subst e
    exact ⟨by simp [has_del_same], fun z v hv => by simp at hv⟩
  · have hne : (Lit.int .i64 k) ≠ .int .i64 x := fun q => e (by injection q)
    refine ⟨by rw [has_del_other hne]; simp [e, (h.2 k).1], fun z v hv => ?_⟩
    simp [e] at hv
    rw [atKey_del_other hne]
    exact (h.2 k).2 z v hv
theorem ownsMap_up {w : World} {P : Program} {k : TypeId} {R : Value → Option (DataW Unit × List MemPlace)} {b n n' : Nat} {D : DataW Unit} (h : w.ownsMap P k R b n D) (hn : n ≤ n') : w.ownsMap P k R b n' D := by
  obtain ⟨es, clock, h1, h2, h3, h4⟩ := h
  exact ⟨es, clock, h1, h2, by omega, h4⟩
def AddPost (w : World) (b n : Nat) (m : Int → Option Int) (e : Ending) (w' : World) : Prop :=
  e = .returned (.tuple #[]) ∧ Mp w' b n m ∧ w.grownBy w' (some b)
theorem grown_alloc2 {w : World} {b : Nat} (o o' : Obj) : w.grownBy ((w.alloc o).alloc o') (some b) :=
  ⟨rfl, rfl, rfl, by simp; omega, fun i hi _ => (Below.heap_alloc _ _ i (by simp; omega)).trans (Below.heap_alloc _ _ i hi)⟩
theorem grown_then {a w w' : World} {b : Nat} (h : a.grownBy w (some b)) (k : w.grownBy w' (some b)) : a.grownBy w' (some b) :=
  ⟨k.os.trans h.os, k.tape.trans h.tape, k.output.trans h.output, Nat.le_trans h.size k.size, fun i hi hne => (k.block i (Nat.lt_of_lt_of_le hi h.size) hne).trans (h.block i hi hne)⟩
set_option maxRecDepth 100000 in
set_option maxHeartbeats 1000000 in
theorem add_any (b n : Nat) (m : Int → Option Int) (x y : Int) (w : World) (hm : Mp w b n m) (hn : n < 2199023255552) (hx : 0 ≤ x ∧ x ≤ 1048576) (hy : 0 ≤ y ∧ y ≤ 1048576) :
    Calls Tryd.prog 110 #[.agg #[.map (some b)], .agg #[.int .i64 x, .int .i64 y]] w (AddPost w b (n + 1) (upd m x y)) := by
  obtain ⟨D, hown, hR⟩ := hm
  obtain ⟨hx0, hx1⟩ := hx
  obtain ⟨hy0, hy1⟩ := hy
  have hbl := hown.lt
  have hown2 : ∀ o o', ((w.alloc o).alloc o').ownsMap Tryd.prog 3 (plainElem Tryd.prog 3) b n D := fun o o' => by
    obtain ⟨es, clock, h1, h2, h3, h4⟩ := hown
    exact ⟨es, clock, ((Below.heap_alloc _ o' b (by simp; omega)).trans (Below.heap_alloc _ o b hbl)).trans h1, h2, h3, h4⟩
  have hkey : keyOf Tryd.prog 3 (.int .i64 x) = some (.int .i64 x) := keyOf_int_mk Tryd.underlying3 (by simp [Lit.wf, IntKind.min, IntKind.max, IntKind.signed, IntKind.bits]; omega)
  have hwy : (Lit.int .i64 y).wf = true := by simp [Lit.wf, IntKind.min, IntKind.max, IntKind.signed, IntKind.bits]; omega
  rcases hmx : m x with _ | v
  · have hh : Maps.has D (.int .i64 x) = false := by rw [(hR.2 x).1, hmx]; rfl
    have hup : upd m x y = fun k => if k = x then some y else m k := by funext k; simp [upd, hmx]
    have HU := Lib.hid hup
    clear hup hmx
    go_enter Tryd.func110, Tryd.ntmps110
    go_wp2_with (first
      | (at_lookup; refine wpList_lookup_own_ok_int _ rfl _ _ 151 rfl 3 3 .i64 lawI Tryd.underlying151 Tryd.underlying3 (zeroI _) b n D rfl (hown2 _ _) _ _ rfl hkey ?_; intro c hat hwc)
      | (at_mapUpdate; refine wpList_mapUpdate_own _ rfl _ _ _ 151 rfl 3 3 lawI Tryd.underlying151 _ b n D rfl (hown2 _ _) (by unfold maxLen; omega) _ _ _ rfl rfl hkey _ [] (plainElem_int Tryd.underlying3 hwy) ?_; intro w1 hown1 hgrow1)
      | go_in)
    go_end0
    exact ⟨rfl, ⟨_, hown1, by rw [HU.out]; exact hR.put x y⟩, grown_then (grown_alloc2 _ _) hgrow1⟩
  · have hh : Maps.has D (.int .i64 x) = true := by rw [(hR.2 x).1, hmx]; rfl
    have hv : ∀ c : Int, D.atKey (.int .i64 x) (.lit (.int .i64 0)) = .lit (.int .i64 c) → c = v := fun c hc => by
      rw [(hR.2 x).2 _ v hmx] at hc
      injection hc with hc
      injection hc with _ hc
      exact hc.symm
    have HV := Lib.hid hv
    clear hv
    by_cases hlt : v < y
    · have hup : upd m x y = fun k => if k = x then some y else m k := by funext k; simp [upd, hmx, hlt]
      have HU := Lib.hid hup
      clear hup hmx
      go_enter Tryd.func110, Tryd.ntmps110
      go_wp2_with (first
      | (at_lookup; refine wpList_lookup_own_ok_int _ rfl _ _ 151 rfl 3 3 .i64 lawI Tryd.underlying151 Tryd.underlying3 (zeroI _) b n D rfl (hown2 _ _) _ _ rfl hkey ?_; intro c hat hwc; obtain rfl : c = v := HV.out c hat)
      | (at_mapUpdate; refine wpList_mapUpdate_own _ rfl _ _ _ 151 rfl 3 3 lawI Tryd.underlying151 _ b n D rfl (hown2 _ _) (by unfold maxLen; omega) _ _ _ rfl rfl hkey _ [] (plainElem_int Tryd.underlying3 hwy) ?_; intro w1 hown1 hgrow1)
      | go_in)
      go_end0
      exact ⟨rfl, ⟨_, hown1, by rw [HU.out]; exact hR.put x y⟩, grown_then (grown_alloc2 _ _) hgrow1⟩
    · have hup : upd m x y = m := by
        funext k
        by_cases e : k = x
        · subst e; simp [upd, hmx, hlt]
        · simp [upd, e]
      have HU := Lib.hid hup
      clear hup hmx
      go_enter Tryd.func110, Tryd.ntmps110
      go_wp2_with (first
      | (at_lookup; refine wpList_lookup_own_ok_int _ rfl _ _ 151 rfl 3 3 .i64 lawI Tryd.underlying151 Tryd.underlying3 (zeroI _) b n D rfl (hown2 _ _) _ _ rfl hkey ?_; intro c hat hwc; obtain rfl : c = v := HV.out c hat)
      | (at_mapUpdate; refine wpList_mapUpdate_own _ rfl _ _ _ 151 rfl 3 3 lawI Tryd.underlying151 _ b n D rfl (hown2 _ _) (by unfold maxLen; omega) _ _ _ rfl rfl hkey _ [] (plainElem_int Tryd.underlying3 hwy) ?_; intro w1 hown1 hgrow1)
      | go_in)
      go_end0
      exact ⟨rfl, ⟨_, ownsMap_up (hown2 _ _) (Nat.le_succ _), by rw [HU.out]; exact hR⟩, grown_alloc2 _ _⟩
end Go.Proofs.YtfgnnbpbbnnnhaaDoor
