/- Laws. -/
import Derived.Test.YtafgmndlbbjphaaGreatDoorPual
import Derived.Test.YtafgmndlbbjphaaGreatDoorPuan
import Derived.Test.YtafgmndlbbjphaaGreatDoorPuba
import Derived.Maps.AppendAt
set_option maxRecDepth 100000
namespace Go.Proofs.YtafgmndlbbjphaaGreatDoor
open Go
open Go.RowKit Go.Maps
theorem tmsAt_of_cells {w : World} {g : Nat} {cur : Array Value} {fr : Nat × Nat} (h : w.heap[g]? = some (.cells cur 26 fr)) {ts : List Tm} {zs : List Value} (hz : ∀ (j : Nat) (v : Value), zs[j]? = some v → cur[j]? = some v)
  (each : ∀ (i : Nat) (t : Tm), ts[i]? = some t → ∃ c0 c1 c2 c3 c4, zs[i * 5]? = some c0 ∧ zs[i * 5 + 1]? = some c1 ∧ zs[i * 5 + 2]? = some c2 ∧ zs[i * 5 + 3]? = some c3 ∧ zs[i * 5 + 4]? = some c4 ∧ TmAt w w.heap.size t (.agg #[c0, c1, c2, c3, c4])) : TmsAt w w.heap.size g 0 ts :=
 TmsAt.of fun i t hi => by
  obtain ⟨c0, c1, c2, c3, c4, q0, q1, q2, q3, q4, q5⟩ := each i t hi
  refine ⟨_, Five.of h (o := 0 + i * 5) ⟨?_, ?_, ?_, ?_, ?_⟩, q5⟩ <;> rw [Nat.zero_add]
  ·exact hz _ _ q0
  ·exact hz _ _ q1
  ·exact hz _ _ q2
  ·exact hz _ _ q3
  ·exact hz _ _ q4
def TmsFull (ts : List Tm) (x : Value) (w : World) : Prop := ∃ g cur, x = .slice (some ⟨g, 0, none⟩) ts.length ts.length ∧ w.heap[g]? = some (.cells cur 26 (0, 0)) ∧ cur.size = ts.length * 5 ∧ TmsAt w w.heap.size g 0 ts
theorem TmsFull.mono {ts : List Tm} {x : Value} {w w' : World} (h : TmsFull ts x w) (hR : Below w.heap.size w w') : TmsFull ts x w' := by
 obtain ⟨g, cur, h1, h2, h3, h4⟩ := h
 have hg := heap_some_lt h2
 refine ⟨g, cur, h1, (hR.block g hg).trans h2, h3, TmsAt.of fun i t hi => ?_⟩
 obtain ⟨v, q1, q2⟩ := h4.get i t hi
 exact ⟨v, q1.keep fun j => hR.cell (p := ⟨g, j, none⟩) hg, q2.below hR hR.size⟩
theorem TmsFull.row {ts : List Tm} {x : Value} {w : World} (h : TmsFull ts x w) : TmsV ts x w := by
 obtain ⟨g, cur, h1, h2, h3, h4⟩ := h
 exact ⟨_, _, h1, (fun e => by cases e), fun _ => ⟨g, 0, rfl, heap_some_lt h2, h4⟩⟩
theorem full_alloc {ts : List Tm} {w : World} {cs : Array Value} (hs : cs.size = ts.length * 5)
  (each : ∀ (i : Nat) (t : Tm), ts[i]? = some t → ∃ c0 c1 c2 c3 c4, cs[i * 5]? = some c0 ∧ cs[i * 5 + 1]? = some c1 ∧ cs[i * 5 + 2]? = some c2 ∧ cs[i * 5 + 3]? = some c3 ∧ cs[i * 5 + 4]? = some c4 ∧ TmAt w w.heap.size t (.agg #[c0, c1, c2, c3, c4])) :
  TmsFull ts (.slice (some ⟨w.heap.size, 0, none⟩) ts.length ts.length) (w.alloc (.cells cs 26)) := by
 have hb : Below w.heap.size w (w.alloc (.cells cs 26)) := (Below.refl _ _).alloc (Nat.le_refl _) _
 refine ⟨_, cs, rfl, heap_alloc_new w _, hs, tmsAt_of_cells (heap_alloc_new w _) (zs := cs.toList) (fun j v h => by simpa using h) fun i t hi => ?_⟩
 obtain ⟨c0, c1, c2, c3, c4, q0, q1, q2, q3, q4, q5⟩ := each i t hi
 exact ⟨c0, c1, c2, c3, c4, by simpa using q0, by simpa using q1, by simpa using q2, by simpa using q3, by simpa using q4, q5.below hb hb.size⟩
theorem append_tms {ts us : List Tm} {x y : Value} {w : World} (ty : TypeId) (hx : TmsFull ts x w) (hy : TmsV us y w) (hpos : 0 < ts.length) (h1 : ts.length ≤ 1048576) (h2 : us.length ≤ 1048576) :
  ∃ v' w', (Builtin.append_ #[24, 24] ty #[x, y]).run Tryz.prog w = .ok v' w' ∧ Below w.heap.size w w' ∧ TmsV (ts ++ us) v' w' := by
 obtain ⟨i0, hi, hz0, hz1, hz2⟩ := info_parts infoTm
 have hx' := hx
 obtain ⟨g, cur, rfl, hg, hs, hts⟩ := hx
 obtain ⟨A, c, rfl, hys⟩ := hy
 obtain ⟨xs, x1, x2, x3, x4⟩ := Tms.row hts
 have hgl := heap_some_lt hg
 have hcx : ∀ j v, xs[j]? = some v → cur[j]? = some v := fun j v hv => by
  have := x2 j v hv
  rw [Nat.zero_add, cell_of_row w g j cur _ (0, 0) hg] at this
  exact this
 have hown : w.ownsRow 0 26 5 (.slice (some ⟨g, 0, none⟩) ts.length ts.length) ts.length xs :=
  ⟨x1, Or.inr ⟨g, ts.length, cur, rfl, Nat.zero_le _, hg, Nat.le_refl _, by unfold maxLen; omega, hs, by
    refine List.ext_getElem? fun j => ?_
    rw [List.getElem?_take]
    split
    · rename_i hj
      rw [Array.getElem?_toList]
      obtain ⟨v, hv⟩ : ∃ v, xs[j]? = some v := ⟨_, List.getElem?_eq_getElem (by omega)⟩
      rw [hv]
      exact hcx j v hv
    · rw [List.getElem?_eq_none (by omega)]⟩⟩
 rcases A with _ | ad
 ·obtain rfl := hys.1 rfl
  have hu0 : us = [] := by
   cases us with
   | nil => rfl
   | cons u us =>
    obtain ⟨b, o, e, _⟩ := hys.2 (by simp)
    cases e
  subst hu0
  refine ⟨_, w, run_append_owned_none (P := Tryz.prog) w 0 24 ty 26 i0 5 Tryz.underlying24 hi _ _ _ hown, Below.refl _ _, ?_⟩
  rw [List.append_nil]
  exact hx'.row
 ·obtain ⟨ys, y1, y2, y3, y4⟩ : ∃ ys : List Value, ys.length = us.length * 5 ∧ (∀ j u, ys[j]? = some u → w.cell? (ad.add j) = some u) ∧ (∀ u ∈ ys, u.oneCell' = true) ∧ ∀ i t, us[i]? = some t → ∃ c0 c1 c2 c3 c4, ys[i * 5]? = some c0 ∧ ys[i * 5 + 1]? = some c1 ∧ ys[i * 5 + 2]? = some c2 ∧ ys[i * 5 + 3]? = some c3 ∧ ys[i * 5 + 4]? = some c4 ∧ TmAt w w.heap.size t (.agg #[c0, c1, c2, c3, c4]) := by
   rcases Nat.eq_zero_or_pos us.length with h | h
   ·have e0 : us = [] := List.eq_nil_of_length_eq_zero h
    exact ⟨[], by simp [h], by simp, by simp, by simp [e0]⟩
   ·obtain ⟨b, oo, e, hbB, hts⟩ := hys.2 h
    injection e with e
    subst e
    obtain ⟨xs, h1, h2, h3, h4⟩ := Tms.row hts
    exact ⟨xs, h1, fun j u hu => by rw [addr_add]; exact h2 j u hu, h3, h4⟩
  rcases Nat.eq_zero_or_pos us.length with h0 | h0
  ·have e0 : us = [] := List.eq_nil_of_length_eq_zero h0
   subst e0
   have ey : ys = [] := List.eq_nil_of_length_eq_zero (by simpa using y1)
   subst ey
   have hr := run_append_room (P := Tryz.prog) w 24 ty 26 i0 Tryz.underlying24 hi g ts.length ts.length cur hg ad 0 c [] (by simp) (by simp) (by simp) (by omega) (by rw [hz1, hs]; simp)
   refine ⟨_, _, hr, ?_⟩
   have hcur : (cur.toList.take (ts.length * i0.size) ++ [] ++ cur.toList.drop (ts.length * i0.size + ([] : List Value).length)).toArray = cur := by simp
   have hb : Below w.heap.size w (w.setRow g (cur.toList.take (ts.length * i0.size) ++ [] ++ cur.toList.drop (ts.length * i0.size + ([] : List Value).length)).toArray) := by
    refine ⟨rfl, rfl, rfl, by simp, fun k hk => ?_⟩
    by_cases hkg : k = g
    ·subst hkg
     rw [setRow_heap w k cur _ _ _ hg, hcur, hg]
    ·exact setRow_other w g k _ (fun e => hkg e)
   refine ⟨hb, ?_⟩
   rw [List.append_nil]
   exact (hx'.mono hb).row
  ·have hr := run_append_grow (P := Tryz.prog) w 24 ty 26 i0 _ Tryz.underlying24 hi hz0 ⟨g, 0, none⟩ ts.length ts.length xs (by rw [hz1]; exact x1) (hown.cells (g := g) rfl) ad us.length c ys (by rw [hz1]; exact y1) y2 (by omega) (by omega) (growslice_fits (by omega) (by rw [hz2]; omega))
   refine ⟨_, _, hr, ?_⟩
   have hb : ∀ obj, Below w.heap.size w (w.drew.alloc obj) := fun obj => ((Below.refl _ _).drew).alloc (Nat.le_refl _) _
   refine ⟨hb _, _, _, by rw [List.length_append], (fun e => by cases e), fun _ => ⟨w.heap.size, 0, rfl, by simp, ?_⟩⟩
   refine tmsAt_of_cells (heap_alloc_new w.drew _) (zs := xs ++ ys) (fun j v hv => ?_) fun i t ht => ?_
   ·have hj := (List.getElem?_eq_some_iff.1 hv).1
    rw [Array.getElem?_append_left (by simpa using hj)]
    rw [List.getElem?_append] at hv
    rw [Array.getElem?_append]
    simpa using hv
   ·by_cases hlt : i < ts.length
    ·rw [List.getElem?_append_left hlt] at ht
     obtain ⟨c0, c1, c2, c3, c4, q0, q1, q2, q3, q4, q5⟩ := x4 i t ht
     exact ⟨c0, c1, c2, c3, c4, by rw [List.getElem?_append_left (by omega)]; exact q0, by rw [List.getElem?_append_left (by omega)]; exact q1, by rw [List.getElem?_append_left (by omega)]; exact q2, by rw [List.getElem?_append_left (by omega)]; exact q3, by rw [List.getElem?_append_left (by omega)]; exact q4, q5.below (hb _) (hb _).size⟩
    ·rw [List.getElem?_append_right (by omega)] at ht
     obtain ⟨c0, c1, c2, c3, c4, q0, q1, q2, q3, q4, q5⟩ := y4 (i - ts.length) t ht
     have ei : ∀ k, i * 5 + k - xs.length = (i - ts.length) * 5 + k := fun k => by rw [x1]; omega
     refine ⟨c0, c1, c2, c3, c4, ?_, ?_, ?_, ?_, ?_, q5.below (hb _) (hb _).size⟩ <;> rw [List.getElem?_append_right (by omega)]
     ·have := ei 0
      simp only [Nat.add_zero] at this
      rw [this]; exact q0
     ·rw [ei]; exact q1
     ·rw [ei]; exact q2
     ·rw [ei]; exact q3
     ·rw [ei]; exact q4
section
variable {P : Program} {S : World → Prop} {R : World → World → Prop} {o : Oper} {V : Value → World → Prop} {g : Option (Option Tmp × Bool)} {a : Act} {w w' : World}
end
theorem Tm.sizeL_le_countL : ∀ ts : List Tm, (∀ t ∈ ts, t.size ≤ t.count) → Tm.sizeL ts ≤ Tm.countL ts
 | [], _ => by simp [Tm.sizeL]
 | t :: ts, h => by
  have h1 := h t (by simp)
  have h2 := Tm.sizeL_le_countL ts fun s hs => h s (by simp [hs])
  simp only [Tm.sizeL, Tm.countL]
  omega
theorem Tm.size_le_count : ∀ t : Tm, t.size ≤ t.count := by
 intro t
 induction t using Tm.ind with
 | h k n a lv kids ih =>
  have := Tm.sizeL_le_countL kids ih
  rw [Tm.size_mk, Tm.count_mk]
  omega
theorem load_tm5 {b : Nat} {w : World} {c0 c1 c2 c3 c4 : Value} (h0 : w.cell? ⟨b, 0, none⟩ = some c0) (h1 : w.cell? ⟨b, 1, none⟩ = some c1) (h2 : w.cell? ⟨b, 2, none⟩ = some c2) (h3 : w.cell? ⟨b, 3, none⟩ = some c3) (h4 : w.cell? ⟨b, 4, none⟩ = some c4) :
  (Instr.loadAt 26 (.pointer (some ⟨b, 0, none⟩))).run Tryz.prog w = .ok (.agg #[c0, c1, c2, c3, c4]) w := by go_simp
theorem load_box {b : Nat} {w w' : World} {c0 c1 c2 c3 c4 : Value} (h : w.heap[b]? = some (.cells #[c0, c1, c2, c3, c4] 26 (0, 0))) (hb : Below w.heap.size w w') : (Instr.loadAt 26 (.pointer (some ⟨b, 0, none⟩))).run Tryz.prog w' = .ok (.agg #[c0, c1, c2, c3, c4]) w' := by
 have h' := (hb.block b (heap_some_lt h)).trans h
 exact load_tm5 (cell_of_row _ _ 0 _ _ (0, 0) h') (cell_of_row _ _ 1 _ _ (0, 0) h') (cell_of_row _ _ 2 _ _ (0, 0) h') (cell_of_row _ _ 3 _ _ (0, 0) h') (cell_of_row _ _ 4 _ _ (0, 0) h')
theorem own_shape {w : World} {lo hi : Nat} {t : Tm} {v : Value} (h : OwnTm w lo hi t v) : ∃ (i j l : Int) (A B : Option Addr) (n c m d : Nat), v = .agg #[.int .i64 i, .int .i64 j, .int .i64 l, .slice A n c, .slice B m d] := by
 obtain ⟨k, n, a, lv, kids⟩ := t
 obtain ⟨vl, vk, m1, m2, xs, rfl, _, ⟨A, c, rfl⟩, h2, _⟩ := h.open
 obtain ⟨B, d, rfl, _⟩ := h2.2.1
 exact ⟨_, _, _, _, _, _, _, _, _, rfl⟩
theorem cells5_eq {cur : Array Value} {c0 c1 c2 c3 c4 : Value} (hs : cur.size = 5) (h : Cells5 cur 0 c0 c1 c2 c3 c4) : cur = #[c0, c1, c2, c3, c4] := by
 obtain ⟨h0, h1, h2, h3, h4⟩ := h
 refine Array.ext_getElem? fun i => ?_
 by_cases hi : i < 5
 ·match i, hi with
  | 0, _ => exact h0
  | 1, _ => exact h1
  | 2, _ => exact h2
  | 3, _ => exact h3
  | 4, _ => exact h4
 ·rw [Array.getElem?_eq_none (by omega), Array.getElem?_eq_none (by simp; omega)]
end Go.Proofs.YtafgmndlbbjphaaGreatDoor
