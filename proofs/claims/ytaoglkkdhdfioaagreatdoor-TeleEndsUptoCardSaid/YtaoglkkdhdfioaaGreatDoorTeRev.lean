/- What the library tells of slices.Reverse of terms, at this program: laid by the kit's tools. -/
/- slices.Reverse of terms. -/
import Derived.Test.YtaoglkkdhdfioaaGreatDoorEvWk
import Derived.Shelf.SlicesQ.Reverse
import Derived.Test.YtaoglkkdhdfioaaGreatDoorProg
import Derived.Test.YtaoglkkdhdfioaaGreatDoorTeAbove
namespace Go.Proofs
open Go.Shelf
def Tryz.reverseTm_ren : Go.Shelf.Ren := ⟨fun | 35 => 41 | n => n, fun | 22 => 22 | 23 => 26 | 3 => 3 | 4 => 4 | 0 => 0 | n => n, fun | n => n⟩
theorem Tryz.reverseTm : Go.Proofs.SlLaysE0.n35 Tryz.prog Tryz.reverseTm_ren := {
  mixed := by kernel_rfl
  f35 := ⟨Tryz.f41.name, by decide, Tryz.func41.trans (congrArg some (by kernel_rfl))⟩
  t0 := Tryz.underlying0
  a0 := Tryz.isAgg0
  z0 := Tryz.sizeOf0
  v0 := Tryz.zeroValue0
  t3 := Tryz.underlying3
  a3 := Tryz.isAgg3
  z3 := Tryz.sizeOf3
  v3 := Tryz.zeroValue3
  t4 := Tryz.underlying4
  a4 := Tryz.isAgg4
  z4 := Tryz.sizeOf4
  v4 := Tryz.zeroValue4
  t22 := Tryz.underlying22
  a22 := Tryz.isAgg22
  z22 := Tryz.sizeOf22
  v22 := Tryz.zeroValue22 }
end Go.Proofs
namespace Go.Proofs.YtaoglkkdhdfioaaGreatDoor
open Go Go.Proofs Go.Lib Go.Sort
set_option maxRecDepth 100000
set_option maxHeartbeats 1000000
/-- five cells -/
abbrev Fives := { l : List Value // l.length = 5 ∧ ∀ v ∈ l, v.oneCell' = true }
instance : Inhabited Fives := ⟨⟨[.bool false, .bool false, .bool false, .bool false, .bool false], rfl, fun v hv => by simp at hv; subst hv; rfl⟩⟩
theorem tmsC_get : ∀ (c : List Tm) (i j : Nat), j < 5 → (tmsC c)[5 * i + j]? = (c[i]?).bind fun t => (tmC t)[j]?
  | [], i, j, _ => by simp [tmsC_nil]
  | t :: ts, 0, j, h => by
    rw [tmsC_cons, List.getElem?_append_left (by rw [tmC_length]; omega)]
    simp
  | t :: ts, i + 1, j, h => by
    rw [tmsC_cons, List.getElem?_append_right (by rw [tmC_length]; omega), tmC_length, show 5 * (i + 1) + j - 5 = 5 * i + j by omega, tmsC_get ts i j h]
    simp
theorem reverse_sound (c : List Tm) (k cap : Nat) (hn : 0 < c.length) (hm : c.length ≤ 1048576) :
    Sound Tryz.prog (.call (.func 41) [.row 0 k 0 c.length] [] (.lone ⟨k, 26, 5, 0, tmsC c⟩)) (.call (.ret unitT) (.lone ⟨k, 26, 5, 0, tmsC c.reverse⟩)) := by
  refine sound_of Tryz.func41 rfl rfl fun res g q us cs w hV hu hc => ?_
  obtain ⟨v0, rfl⟩ : ∃ v0, us = #[v0] := by
    obtain ⟨l⟩ := us
    have := hu.1
    match l, this with
    | [a], _ => exact ⟨a, rfl⟩
  obtain rfl : cs = #[] := Array.eq_empty_of_size_eq_zero hc.1
  have d0 := hu.2 0 v0 _ rfl rfl
  obtain ⟨hr, j1, cap, rfl, j2, j3⟩ := d0.row_now (c := ⟨k, 26, 5, 0, tmsC c⟩) (Agr.mem _ _ _ _) (now_of (c := ⟨k, 26, 5, 0, tmsC c⟩) rfl)
  have hr0 : ((AH.lone ⟨k, 26, 5, 0, tmsC c⟩).mem res g q).blk 0 = some (.cells ⟨k, 26, 5, 0, tmsC c⟩) := rfl
  obtain ⟨X, k1, k2, k3, k4, k5, k6⟩ := hV.cells 0 _ hr0
  have hlc := tmsC_length c
  have k3 : (tmsC c).length ≤ X.size := k3
  have k6 : ∀ (i : Nat) (x : Value) (a : AV), X[i]? = some x → (tmsC c)[i]? = some a → Den ((AH.lone ⟨k, 26, 5, 0, tmsC c⟩).mem res g q) w x a := k6
  have k1 : w.heap[g 0]? = some (.cells X 26 (0, 0)) := k1
  have hone : ∀ t, t < c.length * 5 → X[t]!.oneCell' = true := fun t ht => by
    have hx : X[t]? = some X[t]! := by rw [Array.getElem?_eq_getElem (by omega)]; simp [show t < X.size by omega]
    have ha : (tmsC c)[t]? = some (tmsC c)[t] := List.getElem?_eq_getElem (by omega)
    exact (k6 t _ _ hx ha).one (k5 _ (List.mem_of_getElem? ha))
  obtain ⟨d, hd⟩ : ∃ d : Array Fives, d = Array.ofFn (n := c.length) fun i => ⟨[X[5 * i.1]!, X[5 * i.1 + 1]!, X[5 * i.1 + 2]!, X[5 * i.1 + 3]!, X[5 * i.1 + 4]!], rfl, fun v hv => by
    have := i.2
    simp only [List.mem_cons, List.not_mem_nil, or_false] at hv
    rcases hv with rfl | rfl | rfl | rfl | rfl <;> exact hone _ (by omega)⟩ := ⟨_, rfl⟩
  have hds : d.size = c.length := by rw [hd]; simp
  have hdg : ∀ i j, i < c.length → j < 5 → (d[i]!).1[j]! = X[5 * i + j]! := fun i j hi hj => by
    rw [getElem!_pos d i (by omega)]
    simp only [hd, Array.getElem_ofFn]
    match j, hj with
    | 0, _ => rfl
    | 1, _ => rfl
    | 2, _ => rfl
    | 3, _ => rfl
    | 4, _ => rfl
  have hH : HoldsK (fun x : Fives => x.1) 5 w (g 0) 0 d := fun t ht => by
    rw [size_flatK, hds] at ht
    rw [get_flatK _ _ _ _ (by rw [hds]; exact ht), hdg _ _ (by omega) (Nat.mod_lt _ (by omega)), Nat.div_add_mod]
    refine ⟨?_, by simp [World.frozen?, k1]⟩
    simp [World.cell?, k1, show t < X.size by omega]
  have hcalls := AnyQ.slices_Reverse Tryz.reverseTm 5 Tryz.isAgg26 Tryz.sizeOf26 (fun x : Fives => x.1) (fun x => x.2.1) (fun x => x.2.2) (g 0) 0 cap d w hH (by omega)
  rw [hds] at hcalls
  refine hcalls.mono ?_
  rintro e w1 ⟨rfl, nd, rfl⟩
  refine ⟨g, q, ?_, .tup rfl fun i x a h1 h2 => by simp at h2⟩
  have hX' : (putRowK (fun x : Fives => x.1) 5 (Sort.ahead w nd) (g 0) 0 d.reverse).heap[g 0]? = some (.cells (putCells id 0 (flatK (fun x : Fives => x.1) 5 d.reverse) X) 26 (0, 0)) := by
    have : (Sort.ahead w nd).heap[g 0]? = some (.cells X 26 (0, 0)) := k1
    show ((Sort.ahead w nd).heap.modify (g 0) (onCells (putCells id 0 (flatK (fun x : Fives => x.1) 5 d.reverse))))[g 0]? = _
    rw [Array.getElem?_modify, if_pos rfl, this]
    rfl
  have hF : (flatK (fun x : Fives => x.1) 5 d.reverse).size = c.length * 5 := by rw [size_flatK, Array.size_reverse, hds]
  have hfl : ∀ t, t < c.length * 5 → (flatK (fun x : Fives => x.1) 5 d.reverse)[t]! = X[5 * (c.length - 1 - t / 5) + t % 5]! := fun t ht => by
    rw [get_flatK _ _ _ _ (by rw [Array.size_reverse, hds]; exact ht)]
    have hdiv : t / 5 < c.length := by omega
    have : d.reverse[t / 5]! = d[c.length - 1 - t / 5]! := by
      rw [getElem!_pos d.reverse _ (by rw [Array.size_reverse, hds]; exact hdiv), Array.getElem_reverse, getElem!_pos d _ (by omega)]
      simp only [hds]
    rw [this, hdg _ _ (by omega) (Nat.mod_lt _ (by omega))]
  have hpos : ∀ b, b ≠ g 0 → (putRowK (fun x : Fives => x.1) 5 (Sort.ahead w nd) (g 0) 0 d.reverse).heap[b]? = w.heap[b]? := fun b hb => by
    show ((Sort.ahead w nd).heap.modify (g 0) _)[b]? = _
    rw [Array.getElem?_modify, if_neg (fun e => hb e.symm)]
    rfl
  have hput := put_same (h := AH.lone ⟨k, 26, 5, 0, tmsC c⟩) (res := res) (g := g) (q := q) 0 (.cells ⟨k, 26, 5, 0, tmsC c.reverse⟩) (hV.live _ _ hr0).1
  show To _ _ (((AH.lone ⟨k, 26, 5, 0, tmsC c⟩).put 0 (.cells ⟨k, 26, 5, 0, tmsC c.reverse⟩)).mem res g q) _
  rw [← hput]
  refine to_turn (c' := ⟨k, 26, 5, 0, tmsC c.reverse⟩) hV hr0 hX' rfl (by simp [putCells]; exact k2) (by simp [putRowK, mapBlock] <;> rfl) hpos rfl rfl rfl (Nat.le_refl _) (fun _ => ⟨rfl, by simp [tmsC_length]⟩) (Nat.le_refl _) (Nat.zero_le _) (by simp [putCells, tmsC_length] at *; omega) (fun a ha => ?_) (fun i x hi => by cases hi) (fun V' hf i x a h1 h2 => ?_)
  · have ha : a ∈ tmsC c.reverse := ha
    obtain ⟨e, he, hae⟩ := List.mem_flatMap.1 ha
    exact tmsC_one c.reverse e he a hae
  · have h2 : (tmsC c.reverse)[i]? = some a := h2
    have hi : i < c.length * 5 := by
      have := (List.getElem?_eq_some_iff.1 h2).1
      rw [tmsC_length, List.length_reverse] at this; exact this
    have hx : x = X[5 * (c.length - 1 - i / 5) + i % 5]! := by
      unfold putCells at h1
      rw [Array.getElem?_mapIdx, Array.getElem?_eq_getElem (by omega)] at h1
      simp only [Option.map_some, Nat.zero_le, true_and, Nat.zero_add, hF, hi, if_true, Nat.sub_zero, Option.some.injEq] at h1
      rw [← h1, hfl i hi]
      rfl
    have hmod := Nat.mod_lt i (show 0 < 5 by omega)
    have hdiv : i / 5 < c.length := by omega
    have ha : (tmsC c)[5 * (c.length - 1 - i / 5) + i % 5]? = some a := by
      rw [← h2]
      conv => rhs; rw [← Nat.div_add_mod i 5]
      rw [tmsC_get c _ _ hmod, tmsC_get c.reverse _ _ hmod, List.getElem?_reverse hdiv]
    refine (k6 _ x a ?_ ha).fwd ?_
    · rw [hx, Array.getElem?_eq_getElem (by omega)]
      simp [show 5 * (c.length - 1 - i / 5) + i % 5 < X.size by omega]
    · exact hf
theorem gives_reverse {c : List Tm} {r k : Nat} {h : AH} {R : Res → AH → Prop} {n : Nat} (hg : h.get r = some (.cells ⟨k, 26, 5, 0, tmsC c⟩)) (hc : c.length = n) (hn : 0 < n) (hm : n ≤ 1048576) (hR : R (.ret unitT) (h.put r (.cells ⟨k, 26, 5, 0, tmsC c.reverse⟩))) :
    Gives Tryz.prog (.func 41) [.row r k 0 n] [] h R := by
  subst hc
  refine gives_lentC (r := r) hg (pure_tmsC c) (.cons .row .nil) pure_nil (cs' := tmsC c.reverse) ⟨_, _, .known (reverse_sound c k 0 hn hm), rfl, rfl⟩ (.tup pure_nil) (by simp [tmsC_length]) (pure_tmsC _) hR
end Go.Proofs.YtaoglkkdhdfioaaGreatDoor
