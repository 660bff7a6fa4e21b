/- Laws. -/
import Derived.Test.YtafgmndlbbjphaaGreatDoorPuao
import Derived.Test.YtafgmndlbbjphaaGreatDoorPubb
import Derived.Maps.AppendAt
set_option maxRecDepth 100000
namespace Go.Proofs.YtafgmndlbbjphaaGreatDoor
open Go.RowKit Go.Maps
def Cut (lo : Nat) (r : Option Nat) (w : World) : World := { w with heap := w.heap.mapIdx fun b o => if b < lo ∨ some b = r then Obj.cells #[] 0 (0, 0) else o }
theorem Cut.size (lo : Nat) (r : Option Nat) (w : World) : (Cut lo r w).heap.size = w.heap.size := by simp [Cut]
theorem Cut.at {lo : Nat} {r : Option Nat} {w : World} {b : Nat} (h1 : lo ≤ b) (h2 : some b ≠ r) : (Cut lo r w).heap[b]? = w.heap[b]? := by
 show (Array.mapIdx _ w.heap)[b]? = _
 rw [Array.getElem?_mapIdx]
 cases w.heap[b]? with
 | none => rfl
 | some o =>
  show some (if b < lo ∨ some b = r then _ else o) = some o
  rw [if_neg (by rintro (h | h); omega; exact h2 h)]
theorem Cut.off {lo : Nat} {r : Option Nat} {w : World} {p : Addr} (h : p.block < lo ∨ some p.block = r) : (Cut lo r w).cell? p = none := by
 have e : (Cut lo r w).heap[p.block]? = (w.heap[p.block]?).map fun _ => Obj.cells #[] 0 (0, 0) := by
  show (Array.mapIdx _ w.heap)[p.block]? = _
  rw [Array.getElem?_mapIdx]
  cases w.heap[p.block]? with
  | none => rfl
  | some o =>
   show some (if p.block < lo ∨ some p.block = r then _ else o) = _
   rw [if_pos h]
   rfl
 unfold World.cell?
 rw [e]
 cases w.heap[p.block]? with
 | none => rfl
 | some o => simp
theorem Cut.cell {lo : Nat} {r : Option Nat} {w : World} {p : Addr} {v : Value} : (Cut lo r w).cell? p = some v ↔ lo ≤ p.block ∧ some p.block ≠ r ∧ w.cell? p = some v := by
 by_cases h : p.block < lo ∨ some p.block = r
 ·rw [Cut.off h]
  constructor
  ·intro e; cases e
  ·rintro ⟨h1, h2, _⟩
   rcases h with h | h
   ·omega
   ·exact absurd h h2
 ·have h1 : lo ≤ p.block := by
   rcases Nat.lt_or_ge p.block lo with h' | h'
   ·exact absurd (Or.inl h') h
   ·exact h'
  have h2 : some p.block ≠ r := fun e => h (Or.inr e)
  rw [World.cell?_of_block (Cut.at h1 h2)]
  exact ⟨fun e => ⟨h1, h2, e⟩, fun e => e.2.2⟩
def More (w w' : World) (B : Nat) : Prop := ∀ (p : Addr) (v : Value), p.block < B → w.cell? p = some v → w'.cell? p = some v
theorem Lev.mono {w w' : World} {B B' : Nat} {A : Option Addr} {ps : List (Int × Int)} (h : Lev w B A ps) (hB : B ≤ B') (hk : More w w' B) : Lev w' B' A ps := fun hn => by
 obtain ⟨b, o, e, hb, hc⟩ := h hn
 exact ⟨b, o, e, by omega, fun i hi => ⟨hk _ _ hb (hc i hi).1, hk _ _ hb (hc i hi).2⟩⟩
theorem Levs.mono {w w' : World} {B B' : Nat} {A : Option Addr} {ls : List (List (Int × Int))} (h : Levs w B A ls) (hB : B ≤ B') (hk : More w w' B) : Levs w' B' A ls := fun hn => by
 obtain ⟨b, o, e, hb, hc⟩ := h hn
 refine ⟨b, o, e, by omega, fun i hi => ?_⟩
 obtain ⟨Ai, ci, h1, h2, h3⟩ := hc i hi
 exact ⟨Ai, ci, hk _ _ hb h1, h2.mono hB hk, h3⟩
theorem Five.mono {w w' : World} {B b o : Nat} {v : Value} (h : Five w b o v) (hb : b < B) (hk : More w w' B) : Five w' b o v := by
 obtain ⟨c0, c1, c2, c3, c4, e, h0, h1, h2, h3, h4⟩ := h
 exact ⟨c0, c1, c2, c3, c4, e, hk _ _ hb h0, hk _ _ hb h1, hk _ _ hb h2, hk _ _ hb h3, hk _ _ hb h4⟩
mutual
theorem TmAt.mono {w w' : World} {B B' : Nat} (hB : B ≤ B') (hk : More w w' B) : ∀ {t : Tm} {v : Value}, TmAt w B t v → TmAt w' B' t v
 | .mk k n a lv kids, v, h => by
  unfold TmAt at h ⊢
  obtain ⟨Al, cl, Ak, ck, e, h1, h2, h3, h4⟩ := h
  refine ⟨Al, cl, Ak, ck, e, h1, h2.mono hB hk, h3, fun hn => ?_⟩
  obtain ⟨b, o, e, hb, h5⟩ := h4 hn
  exact ⟨b, o, e, by omega, TmsAt.mono hB hk hb h5⟩
theorem TmsAt.mono {w w' : World} {B B' b : Nat} (hB : B ≤ B') (hk : More w w' B) (hb : b < B) : ∀ {o : Nat} {ts : List Tm}, TmsAt w B b o ts → TmsAt w' B' b o ts
 | _, [], _ => by unfold TmsAt; trivial
 | o, t :: ts, h => by
  unfold TmsAt at h ⊢
  obtain ⟨⟨v, h1, h2⟩, h3⟩ := h
  exact ⟨⟨v, h1.mono hb hk, TmAt.mono hB hk h2⟩, TmsAt.mono hB hk hb h3⟩
end
theorem Tms.mono {w w' : World} {B B' : Nat} {A : Option Addr} {c : Nat} {ts : List Tm} (h : Tms w B A c ts) (hB : B ≤ B') (hk : More w w' B) : Tms w' B' A c ts := ⟨h.1, fun hn => by
  obtain ⟨b, o, e, hb, h5⟩ := h.2 hn
  exact ⟨b, o, e, by omega, TmsAt.mono hB hk hb h5⟩⟩
theorem Cut.more (lo : Nat) (r : Option Nat) (w : World) (B : Nat) : More (Cut lo r w) w B := fun _ _ _ h => (Cut.cell.1 h).2.2
theorem Cut.to {lo lo' : Nat} {r r' : Option Nat} {w w' : World} {B : Nat} (hk : ∀ b, b < B → lo ≤ b → some b ≠ r → lo' ≤ b ∧ some b ≠ r' ∧ w'.heap[b]? = w.heap[b]?) : More (Cut lo r w) (Cut lo' r' w') B := fun p v hp h => by
 obtain ⟨h1, h2, h3⟩ := Cut.cell.1 h
 obtain ⟨q1, q2, q3⟩ := hk p.block hp h1 h2
 exact Cut.cell.2 ⟨q1, q2, (World.cell?_of_block q3).trans h3⟩
theorem own_cut {w : World} {B : Nat} {e : TypeId} {s : Nat} {v : Value} {n : Nat} {xs : List Value} (h : w.ownsRow B e s v n xs) : (Cut B none w).ownsRow B e s v n xs :=
 ⟨h.1, h.2.imp id fun ⟨g, cap, cur, q1, q2, q3, q4⟩ => ⟨g, cap, cur, q1, q2, (Cut.at q2 (by simp)).trans q3, q4⟩⟩
def TmF (W : World) (B : Nat) : List Tm → List Value → Prop
 | [], xs => xs = []
 | t :: ts, xs => ∃ c0 c1 c2 c3 c4 xs', xs = c0 :: c1 :: c2 :: c3 :: c4 :: xs' ∧ TmAt W B t (.agg #[c0, c1, c2, c3, c4]) ∧ TmF W B ts xs'
theorem TmF.mono {w w' : World} {B B' : Nat} (hB : B ≤ B') (hk : More w w' B) : ∀ {ts : List Tm} {xs : List Value}, TmF w B ts xs → TmF w' B' ts xs
 | [], _, h => h
 | _ :: _, _, ⟨c0, c1, c2, c3, c4, xs', e, h1, h2⟩ => ⟨c0, c1, c2, c3, c4, xs', e, TmAt.mono hB hk h1, TmF.mono hB hk h2⟩
theorem TmF.snoc {w : World} {B : Nat} {t : Tm} {c0 c1 c2 c3 c4 : Value} (ht : TmAt w B t (.agg #[c0, c1, c2, c3, c4])) : ∀ {ts : List Tm} {xs : List Value}, TmF w B ts xs → TmF w B (ts ++ [t]) (xs ++ [c0, c1, c2, c3, c4])
 | [], _, h => by
  have h : _ = [] := h
  subst h
  exact ⟨c0, c1, c2, c3, c4, [], rfl, ht, rfl⟩
 | _ :: _, _, ⟨d0, d1, d2, d3, d4, xs', e, h1, h2⟩ => ⟨d0, d1, d2, d3, d4, xs' ++ [c0, c1, c2, c3, c4], by rw [e]; rfl, h1, TmF.snoc ht h2⟩
theorem TmF.get {w : World} {B : Nat} : ∀ {ts : List Tm} {xs : List Value}, TmF w B ts xs → ∀ (i : Nat) (t : Tm), ts[i]? = some t → ∃ c0 c1 c2 c3 c4, xs[i * 5]? = some c0 ∧ xs[i * 5 + 1]? = some c1 ∧ xs[i * 5 + 2]? = some c2 ∧ xs[i * 5 + 3]? = some c3 ∧ xs[i * 5 + 4]? = some c4 ∧ TmAt w B t (.agg #[c0, c1, c2, c3, c4])
 | [], _, _, i, t, hi => by simp at hi
 | s :: ts, _, ⟨c0, c1, c2, c3, c4, xs', e, h1, h2⟩, 0, t, hi => by
  subst e
  simp at hi
  subst hi
  exact ⟨c0, c1, c2, c3, c4, rfl, rfl, rfl, rfl, rfl, h1⟩
 | s :: ts, _, ⟨d0, d1, d2, d3, d4, xs', e, h1, h2⟩, i + 1, t, hi => by
  subst e
  obtain ⟨c0, c1, c2, c3, c4, q0, q1, q2, q3, q4, q5⟩ := TmF.get h2 i t (by simpa using hi)
  have e : (i + 1) * 5 = i * 5 + 5 := by omega
  refine ⟨c0, c1, c2, c3, c4, ?_, ?_, ?_, ?_, ?_, q5⟩ <;> rw [e] <;> simpa [Nat.add_assoc]
theorem TmF.row {w : World} {lo n : Nat} {A : Option Addr} {m c : Nat} {ys : List Value} {us : List Tm} (hr : w.ownsRow lo 26 5 (.slice A m c) n ys) (hn : us.length = n) (hf : TmF (Cut lo none w) w.heap.size us ys) : m = n ∧ Tms (Cut lo none w) w.heap.size A c us := by
 rcases hr.2 with ⟨e, e2⟩ | ⟨g, cap, cur, e, p1, p2, p3, p4, p5, p6⟩
 ·injection e with e1 e3 e4
  exact ⟨by omega, (fun _ => e4), fun hx => by omega⟩
 ·injection e with e1 e3 e4
  subst e1 e3 e4
  refine ⟨rfl, (fun x => by cases x), fun hx => ⟨g, 0, rfl, heap_some_lt p2, TmsAt.of fun i t ht => ?_⟩⟩
  obtain ⟨c0, c1, d2, c3, c4, s0, s1, s2, s3, s4, s5⟩ := hf.get i t ht
  have hi' : i < us.length := (List.getElem?_eq_some_iff.1 ht).1
  refine ⟨_, ⟨c0, c1, d2, c3, c4, rfl, ?_, ?_, ?_, ?_, ?_⟩, s5⟩
  ·rw [show 0 + i * 5 = i * 5 by omega]; exact Cut.cell.2 ⟨p1, by simp, (hr.cellAt (i * 5) (by omega)).trans s0⟩
  ·rw [show 0 + i * 5 + 1 = i * 5 + 1 by omega]; exact Cut.cell.2 ⟨p1, by simp, (hr.cellAt (i * 5 + 1) (by omega)).trans s1⟩
  ·rw [show 0 + i * 5 + 2 = i * 5 + 2 by omega]; exact Cut.cell.2 ⟨p1, by simp, (hr.cellAt (i * 5 + 2) (by omega)).trans s2⟩
  ·rw [show 0 + i * 5 + 3 = i * 5 + 3 by omega]; exact Cut.cell.2 ⟨p1, by simp, (hr.cellAt (i * 5 + 3) (by omega)).trans s3⟩
  ·rw [show 0 + i * 5 + 4 = i * 5 + 4 by omega]; exact Cut.cell.2 ⟨p1, by simp, (hr.cellAt (i * 5 + 4) (by omega)).trans s4⟩
def LvF (w : World) (B : Nat) (ls : List (List (Int × Int))) (vs : List Value) : Prop := ∀ (i : Nat) (l : List (Int × Int)), ls[i]? = some l → ∃ (A : Option Addr) (c : Nat), vs[i]? = some (Value.slice A l.length c) ∧ w.ownsRow B 95 2 (.slice A l.length c) l.length (cells l)
theorem LvF.grow {w w' : World} {B : Nat} {ls : List (List (Int × Int))} {vs : List Value} {r : Option Nat} {t : TypeId} (h : LvF w B ls vs) (hg : w.grownBy w' r) (hr : TypeAt w r t) (hne : 95 ≠ t) : LvF w' B ls vs := fun i l hi => by
 obtain ⟨A, c, h1, h2⟩ := h i l hi
 exact ⟨A, c, h1, own_keptT h2 hg hr hne⟩
theorem LvF.below {w w' : World} {B : Nat} {ls : List (List (Int × Int))} {vs : List Value} (h : LvF w B ls vs) (hb : Below w.heap.size w w') : LvF w' B ls vs := fun i l hi => by
 obtain ⟨A, c, h1, h2⟩ := h i l hi
 exact ⟨A, c, h1, own_below h2 hb⟩
theorem LvF.snoc {w : World} {B : Nat} {ls : List (List (Int × Int))} {vs : List Value} {l : List (Int × Int)} {A : Option Addr} {c : Nat} (h : LvF w B ls vs) (hl : vs.length = ls.length) (ho : w.ownsRow B 95 2 (.slice A l.length c) l.length (cells l)) : LvF w B (ls ++ [l]) (vs ++ [.slice A l.length c]) := fun i x hi => by
 by_cases e : i < ls.length
 ·rw [List.getElem?_append_left e] at hi
  obtain ⟨A', c', h1, h2⟩ := h i x hi
  exact ⟨A', c', by rw [List.getElem?_append_left (by omega)]; exact h1, h2⟩
 ·rw [List.getElem?_append_right (by omega)] at hi
  have hz : i - ls.length = 0 := by
   rcases Nat.eq_zero_or_pos (i - ls.length) with h0 | h0
   ·exact h0
   ·rw [List.getElem?_eq_none (by simp; omega)] at hi
    cases hi
  rw [hz] at hi
  injection hi with hi
  subst hi
  refine ⟨A, c, ?_, ho⟩
  rw [List.getElem?_append_right (by omega), show i - vs.length = 0 by omega]
  rfl
theorem LvF.levs {w : World} {B n : Nat} {A : Option Addr} {m c : Nat} {ls : List (List (Int × Int))} {vs : List Value} (hr : w.ownsRow B 47 1 (.slice A m c) n vs) (hn : ls.length = n) (hl : LvF w B ls vs) (h6 : ∀ l ∈ ls, l.length ≤ 4611686018427387904) : m = n ∧ Levs (Cut B none w) w.heap.size A ls ∧ (A = none → c = 0) := by
 rcases hr.2 with ⟨e, e2⟩ | ⟨g, cap, cur, e, p1, p2, p3, p4, p5, p6⟩
 ·injection e with e1 e3 e4
  exact ⟨by omega, (fun hx => by omega), fun _ => e4⟩
 ·injection e with e1 e3 e4
  subst e1 e3 e4
  refine ⟨rfl, (fun hx => ⟨g, 0, rfl, heap_some_lt p2, fun i hi => ?_⟩), fun x => by cases x⟩
  have hli : ls[i]? = some ls[i] := List.getElem?_eq_getElem hi
  have hgd : ls.getD i [] = ls[i] := by rw [List.getD_eq_getElem?_getD, hli]; rfl
  obtain ⟨Ai, ci, q1, q2⟩ := hl i _ hli
  rw [hgd]
  obtain ⟨_, s1, s2⟩ := own_lev (own_cut q2)
  rw [Cut.size] at s1
  refine ⟨Ai, ci, Cut.cell.2 ⟨p1, by simp, ?_⟩, s1, s2, h6 _ (List.getElem_mem hi)⟩
  rw [Nat.zero_add]
  exact (hr.cellAt i (by omega)).trans q1
theorem binds_is (k : Int) (i : Nat) : binds k i = if k = 4 ∨ k = 5 ∨ k = 12 ∨ k = 16 ∨ k = 18 then ((i : Int) == 1) else if k = 7 then ((i : Int) == 2) else false := by
 by_cases h : 1 ≤ k ∧ k ≤ 24
 ·obtain ⟨j, rfl⟩ : ∃ j : Nat, k = (j : Int) := ⟨k.toNat, by omega⟩
  have hj : j = 1 ∨ j = 2 ∨ j = 3 ∨ j = 4 ∨ j = 5 ∨ j = 6 ∨ j = 7 ∨ j = 8 ∨ j = 9 ∨ j = 10 ∨ j = 11 ∨ j = 12 ∨ j = 13 ∨ j = 14 ∨ j = 15 ∨ j = 16 ∨ j = 17 ∨ j = 18 ∨ j = 19 ∨ j = 20 ∨ j = 21 ∨ j = 22 ∨ j = 23 ∨ j = 24 := by omega
  rw [Bool.eq_iff_iff]
  rcases hj with rfl | rfl | rfl | rfl | rfl | rfl | rfl | rfl | rfl | rfl | rfl | rfl | rfl | rfl | rfl | rfl | rfl | rfl | rfl | rfl | rfl | rfl | rfl | rfl <;> simp [binds, bindTab] <;> omega
 ·have e1 : ¬ (k = 4 ∨ k = 5 ∨ k = 12 ∨ k = 16 ∨ k = 18) := by omega
  have e2 : ¬ k = 7 := by omega
  rw [if_neg e1, if_neg e2]
  unfold binds
  simp
  omega
set_option maxHeartbeats 2000000 in
theorem rbinds_any (k : Int) (i : Nat) (w : World) : Calls Tryz.prog 87 #[.int .i64 k, .int .i64 (i : Int)] w (HasPost w (binds k i)) := by
 rw [binds_is]
 by_cases h : k = 4 ∨ k = 5 ∨ k = 12 ∨ k = 16 ∨ k = 18
 ·rw [if_pos h]
  rcases h with rfl | rfl | rfl | rfl | rfl <;>
  ·go_enter Tryz.func87, Tryz.ntmps87
   go_wp2
   go_ret
   exact ⟨rfl, Below.refl _ _⟩
 ·rw [if_neg h]
  have h4 : (k == 4) = false := by simp; omega
  have h5 : (k == 5) = false := by simp; omega
  have h12 : (k == 12) = false := by simp; omega
  have h16 : (k == 16) = false := by simp; omega
  have h18 : (k == 18) = false := by simp; omega
  by_cases h7 : k = 7
  ·rw [if_pos h7]
   subst h7
   go_enter Tryz.func87, Tryz.ntmps87
   go_wp2
   go_ret
   exact ⟨rfl, Below.refl _ _⟩
  ·rw [if_neg h7]
   have h7' : (k == 7) = false := by simp; omega
   go_enter Tryz.func87, Tryz.ntmps87
   go_wp2
   go_ret
   exact ⟨rfl, Below.refl _ _⟩
set_option maxHeartbeats 2000000 in
theorem rbelow_any (k n a : Int) (v3 v4 : Value) (i d : Nat) (w : World) (hd : d ≤ 1073741824) : Calls Tryz.prog 55 #[.agg #[.int .i64 k, .int .i64 n, .int .i64 a, v3, v4], .int .i64 (i : Int), .int .i64 (d : Int)] w (fun e w' => e = .returned (.int .i64 ((d + under k i : Nat) : Int)) ∧ Below w.heap.size w w') := by
 obtain ⟨w1, hw1⟩ : ∃ x, w.alloc (.cells #[.int .i64 k, .int .i64 n, .int .i64 a, v3, v4] 26) = x := ⟨_, rfl⟩
 have x0 : w1.heap[w.heap.size]? = some (.cells #[.int .i64 k, .int .i64 n, .int .i64 a, v3, v4] 26 (0, 0)) := by rw [← hw1]; exact heap_alloc_new w _
 have hb1 : Below w.heap.size w w1 := by rw [← hw1]; exact (Below.refl _ _).alloc (Nat.le_refl _) _
 have y0 := cell_of_row _ _ 0 _ _ (0, 0) x0
 have ws : IntKind.i64.wrap ((d : Int) + 1) = (d : Int) + 1 := IntWalk.i64_in _ (by omega)
 have HC := Lib.hid (rbinds_any k i w1)
 have HB1 := Lib.hid hb1
 have HU : Hid (under k i = if binds k i then 1 else 0) := rfl
 obtain ⟨bb, hbb⟩ : ∃ x, binds k i = x := ⟨_, rfl⟩
 rw [hbb] at HC HU
 clear x0 hb1 hbb
 go_enter Tryz.func55, Tryz.ntmps55
 go_wp2_with (fail)
 refine HC.out.mono ?_
 rintro e w2 ⟨rfl, hb2⟩
 have HF : Hid (Below w.heap.size w w2) := HB1.out.trans (hb2.mono HB1.out.size)
 clear hb2 y0
 rcases bb with _ | _
 ·go_wp2
  go_ret
  exact ⟨by rw [HU.out]; simp, HF.out⟩
 ·go_wp2
  go_ret
  exact ⟨by rw [HU.out]; simp, HF.out⟩
theorem take_snoc_2 {α : Type} {l : List α} {k : Nat} {x : α} (h : l[k]? = some x) : l.take (k + 1) = l.take k ++ [x] := by
 rw [List.take_add_one, h]
 rfl
theorem own_zero {w : World} {B g : Nat} {e : TypeId} {s : Nat} (h : w.heap[g]? = some (.cells #[] e (0, 0))) (hB : B ≤ g) : w.ownsRow B e s (.slice (some ⟨g, 0, none⟩) 0 0) 0 [] := ⟨by simp, Or.inr ⟨g, 0, #[], rfl, hB, h, Nat.le_refl _, by decide, by simp, by simp⟩⟩
def RLvs (w : World) (ls : List (List (Int × Int))) (n : Nat) (e : Ending) (w' : World) : Prop := ∃ A c, e = .returned (.slice A n c) ∧ (A = none → c = 0) ∧ Levs (Cut w.heap.size none w') w'.heap.size A ls ∧ Below w.heap.size w w'
set_option maxHeartbeats 4000000 in
theorem rlevels_any (A : Option Addr) (ls : List (List (Int × Int))) (n c : Nat) (w : World) (hn : ls.length = n) (hm : n ≤ 1048576) (h6 : ∀ l ∈ ls, l.length ≤ 1000000) (h : Levs w w.heap.size A ls) :
  Calls Tryz.prog 88 #[.slice A n c] w (RLvs w ls n) := by
 obtain ⟨i0, hi, hz0, hz1, hz2⟩ := info_parts infoLev
 obtain ⟨i1, hi', hz0', hz1', hz2'⟩ := info_parts infoP
 have hfd := field_parts
 have HL := Lib.hid h
 have HN := Lib.hid hn
 have H6 := Lib.hid h6
 clear h hn h6
 go_enter Tryz.func88, Tryz.ntmps88
 go_wp2
 go_loopw [3, 4] (fun lv i wr => ∃ (k : Nat) (vs : List Value), k ≤ n ∧ i = .int .i64 (k : Int) ∧ Below w.heap.size w wr ∧ wr.ownsRow w.heap.size 47 1 lv k vs ∧ LvF wr w.heap.size (ls.take k) vs) (fun _ i _ => n - (intOf i).toNat)
 case atStart => exact ⟨0, [], Nat.zero_le _, rfl, Below.refl _ _, own_nil _ _ _ _, fun i l hi => by simp at hi⟩
 case round =>
  obtain ⟨k, vs, hk, rfl, hb, hrow, hlf⟩ := hrel
  obtain ⟨Av, nv, cv, rfl⟩ := own_slice hrow
  have hbz := hb.size
  have HB := Lib.hid hb
  have HR := Lib.hid hrow
  have HLF := Lib.hid hlf
  by_cases hlt : k < n
  ·obtain ⟨b, o, e, hbB, hcell⟩ := HL.out (by rw [HN.out]; omega)
   subst e
   obtain ⟨Ai, ci, q0, q1, q2, _⟩ := hcell k (by rw [HN.out]; exact hlt)
   obtain ⟨l, el⟩ : ∃ l, ls[k]? = some l := ⟨_, List.getElem?_eq_getElem (by rw [HN.out]; exact hlt)⟩
   have eg : ls.getD k [] = l := by rw [List.getD_eq_getElem?_getD, el]; rfl
   rw [eg] at q0 q1
   have hl6 := H6.out l (List.mem_of_getElem? el)
   have HLK := Lib.hid el
   obtain ⟨ni, hni⟩ : ∃ j, l.length = j := ⟨_, rfl⟩
   rw [hni] at q0 hl6
   have HN3 := Lib.hid hni.symm
   have c0 := (hb.cell (p := ⟨b, o + k, none⟩) hbB).trans q0
   have q1' := (q1.below hb).more hbz
   have hbr : b < wr.heap.size := by omega
   have hnl : ls.length = n := HN.out
   have hb2 : Below wr.heap.size wr (wr.alloc (.cells #[] 95)) := (Below.refl _ _).alloc (Nat.le_refl _) _
   have ho2 : (wr.alloc (.cells #[] 95)).ownsRow wr.heap.size 95 2 (.slice (some ⟨wr.heap.size, 0, none⟩) 0 0) 0 [] := own_zero (heap_alloc_new wr _) (Nat.le_refl _)
   have ij0 : (0 : Int) ≤ (k : Int) := by omega
   have ij1 : (k : Int) < (n : Int) := by omega
   have d0 := (hb2.cell (p := ⟨b, o + k, none⟩) hbr).trans c0
   rcases Ai with _ | ad
   ·obtain rfl := q2 rfl
    have h0 : ni = 0 := by
     rcases Nat.eq_zero_or_pos l.length with h0 | h0
     ·omega
     ·obtain ⟨_, _, e, _⟩ := q1 h0
      cases e
    subst h0
    have hl0 : l.length = 0 := by omega
    obtain rfl := List.eq_nil_of_length_eq_zero hl0
    have HB3 := Lib.hid hb2
    have HP3 := Lib.hid ho2
    have HN3 : Hid ((0 : Nat) = ([] : List (Int × Int)).length) := rfl
    have HO2 := Lib.hid ho2
    clear hb hrow hlf q0 q1 q2 q1' el eg hni hl0 hcell hb2 ho2
    have HR3 := Lib.hid (own_below HR.out (HB3.out))
    have HLF3 := Lib.hid (HLF.out.below (HB3.out))
    have hs4 : wr.heap.size ≤ (wr.heap.size + 1) := by have := HB3.out.size; first | exact this | omega
    have hb5 : Below (wr.alloc (.cells #[] 95)).heap.size (wr.alloc (.cells #[] 95)) ((wr.alloc (.cells #[] 95)).alloc (.cells #[.slice (some (⟨wr.heap.size, 0, none⟩ : Addr)) 0 0] 47)) := (Below.refl _ _).alloc (Nat.le_refl _) _
    have HR5 := Lib.hid (own_below HR3.out hb5)
    have HLF5 := Lib.hid (HLF3.out.below hb5)
    have HP5 := Lib.hid (own_below HP3.out hb5)
    have HB5 := Lib.hid ((HB.out.trans (HB3.out.mono hbz)).trans (hb5.mono (by first | omega | (simp; omega))))
    have HNW : Hid (((wr.alloc (.cells #[] 95)).alloc (.cells #[.slice (some (⟨wr.heap.size, 0, none⟩ : Addr)) 0 0] 47)).heap[(wr.heap.size + 1)]? = some (.cells #[.slice (some (⟨wr.heap.size, 0, none⟩ : Addr)) 0 0] 47 (0, 0))) := by
     have h := heap_alloc_new (wr.alloc (.cells #[] 95)) (.cells #[.slice (some (⟨wr.heap.size, 0, none⟩ : Addr)) 0 0] 47)
     first | exact h | exact Lib.hid (by simpa using h)
    clear hb5 HR3 HLF3 HB3 HP3
    go_wp2_with (at_builtin; first | (refine wpList_append_own_at _ rfl _ _ 23 rfl w.heap.size 47 i0 (.agg #[.slice none 0 0]) 1 24 Tryz.underlying23 hi hz0 hz1 hz2 rfl (by decide) (.slice Av nv cv) k vs rfl HR5.out ⟨(wr.heap.size + 1), 0, none⟩ 1 1 [.slice (some (⟨wr.heap.size, 0, none⟩ : Addr)) 0 0] rfl rfl (World.news_of_block (cs := #[.slice (some (⟨wr.heap.size, 0, none⟩ : Addr)) 0 0]) (t := 47) (fr := (0, 0)) HNW.out) (by simp [Value.oneCell']) ?c1 ?c2 ?c3 ?_) | (refine wpList_append_own_none rfl _ _ 45 rfl wr.heap.size 95 i1 2 Tryz.underlying45 hi' _ 0 [] rfl HO2.out rfl ?_))
    case c1 => unfold maxLen; omega
    case c2 => omega
    case c3 => first | omega | (simp; omega)
    intro v w8 ho hg _ _
    obtain ⟨A8, n8, c8, rfl⟩ := own_slice ho
    have HB8 : Hid (Below w.heap.size w w8) := HB5.out.grown hg (by simp; omega) (fun k e => (HR5.out.lt k e).1)
    have HR8 := Lib.hid ho
    have HLF8 : Hid (LvF w8 w.heap.size (ls.take (k + 1)) (vs ++ [.slice (some (⟨wr.heap.size, 0, none⟩ : Addr)) 0 0])) := by
     have h1 := HLF5.out.grow hg (own_at HR5.out) (by decide)
     have h2 := own_keptT HP5.out hg (own_at HR5.out) (by decide)
     have hvl : vs.length = k := by have := HR5.out.1; omega
     have hl3 : 0 = ([] : List (Int × Int)).length := HN3.out
     rw [hl3] at h2 ⊢
     have h3 := h1.snoc (A := (some (⟨wr.heap.size, 0, none⟩ : Addr))) (c := 0) (by rw [List.length_take]; omega) (own_base h2 hbz)
     rw [← take_snoc_2 HLK.out] at h3
     exact h3
    clear ho hg HR5 HLF5 HP5 HB5
    go_wp2
    go_roundw
    case rel => exact ⟨k + 1, _, by omega, by go_num, HB8.out, HR8.out, HLF8.out⟩
    case measure => simp [intOf]; omega
   ·have hsrc : ∀ j u, (cells l)[j]? = some u → (wr.alloc (.cells #[] 95)).cell? (ad.add j) = some u := by
     rcases Nat.eq_zero_or_pos l.length with h0 | h0
     ·obtain rfl := List.eq_nil_of_length_eq_zero h0
      intro j u hu
      simp [cells] at hu
     ·obtain ⟨b', o', e, hbB', hcell'⟩ := q1' h0
      injection e with e
      subst e
      exact lev_news hbB' hb2 hcell'
    have HSRC := Lib.hid hsrc
    have HL2 : Hid ((cells l).length = ni * 2) := by show _ = _; rw [cells_length, hni]
    have HO2 := Lib.hid ho2
    have HB2 := Lib.hid hb2
    clear hb hrow hlf q0 q1 q2 q1' el eg hni hcell hb2 ho2 hsrc
    go_wp2_with (at_builtin; refine wpList_append_own_at _ rfl _ _ 45 rfl wr.heap.size 95 i1 (.agg #[.int .i64 0, .int .i64 0]) 2 16 Tryz.underlying45 hi' hz0' hz1' hz2' rfl (by decide) _ 0 [] rfl HO2.out ad ni ci (cells l) rfl HL2.out HSRC.out (cells_one l) ?c1 ?c2 ?c3 ?_)
    case c1 => unfold maxLen; omega
    case c2 => omega
    case c3 => simp
    intro v w4 ho3 hg3 _ _
    obtain ⟨A3, n3, c3, rfl⟩ := own_slice ho3
    have hn3 : n3 = ni := by
     rcases ho3.2 with ⟨e, e2⟩ | ⟨_, _, _, e, _⟩
     ·injection e with _ e _
      all_goals omega
     ·injection e with _ e _
      all_goals omega
    subst hn3
    have HB3 : Hid (Below wr.heap.size wr w4) := HB2.out.grown hg3 (by simp) (fun k e => (HO2.out.lt k e).1)
    have HP3 : Hid (w4.ownsRow wr.heap.size 95 2 (.slice A3 n3 c3) n3 (cells l)) := by
     first | exact ho3 | (have h := ho3; rw [Nat.zero_add, List.nil_append] at h; exact h)
    clear ho3 hg3 HB2 HO2 HSRC
    have HR3 := Lib.hid (own_below HR.out (HB3.out))
    have HLF3 := Lib.hid (HLF.out.below (HB3.out))
    have hs4 : wr.heap.size ≤ w4.heap.size := by have := HB3.out.size; first | exact this | omega
    have hb5 : Below w4.heap.size w4 (w4.alloc (.cells #[.slice A3 n3 c3] 47)) := (Below.refl _ _).alloc (Nat.le_refl _) _
    have HR5 := Lib.hid (own_below HR3.out hb5)
    have HLF5 := Lib.hid (HLF3.out.below hb5)
    have HP5 := Lib.hid (own_below HP3.out hb5)
    have HB5 := Lib.hid ((HB.out.trans (HB3.out.mono hbz)).trans (hb5.mono (by first | omega | (simp; omega))))
    have HNW : Hid ((w4.alloc (.cells #[.slice A3 n3 c3] 47)).heap[w4.heap.size]? = some (.cells #[.slice A3 n3 c3] 47 (0, 0))) := by
     have h := heap_alloc_new w4 (.cells #[.slice A3 n3 c3] 47)
     first | exact h | exact Lib.hid (by simpa using h)
    clear hb5 HR3 HLF3 HB3 HP3
    go_wp2_with (at_builtin; refine wpList_append_own_at _ rfl _ _ 23 rfl w.heap.size 47 i0 (.agg #[.slice none 0 0]) 1 24 Tryz.underlying23 hi hz0 hz1 hz2 rfl (by decide) (.slice Av nv cv) k vs rfl HR5.out ⟨w4.heap.size, 0, none⟩ 1 1 [.slice A3 n3 c3] rfl rfl (World.news_of_block (cs := #[.slice A3 n3 c3]) (t := 47) (fr := (0, 0)) HNW.out) (by simp [Value.oneCell']) ?c1 ?c2 ?c3 ?_)
    case c1 => unfold maxLen; omega
    case c2 => omega
    case c3 => first | omega | (simp; omega)
    intro v w8 ho hg _ _
    obtain ⟨A8, n8, c8, rfl⟩ := own_slice ho
    have HB8 : Hid (Below w.heap.size w w8) := HB5.out.grown hg (by simp; omega) (fun k e => (HR5.out.lt k e).1)
    have HR8 := Lib.hid ho
    have HLF8 : Hid (LvF w8 w.heap.size (ls.take (k + 1)) (vs ++ [.slice A3 n3 c3])) := by
     have h1 := HLF5.out.grow hg (own_at HR5.out) (by decide)
     have h2 := own_keptT HP5.out hg (own_at HR5.out) (by decide)
     have hvl : vs.length = k := by have := HR5.out.1; omega
     have hl3 : n3 = l.length := HN3.out
     rw [hl3] at h2 ⊢
     have h3 := h1.snoc (A := A3) (c := c3) (by rw [List.length_take]; omega) (own_base h2 hbz)
     rw [← take_snoc_2 HLK.out] at h3
     exact h3
    clear ho hg HR5 HLF5 HP5 HB5
    go_wp2
    go_roundw
    case rel => exact ⟨k + 1, _, by omega, by go_num, HB8.out, HR8.out, HLF8.out⟩
    case measure => simp [intOf]; omega
  ·have ek : k = n := by omega
   rw [ek] at hrow hlf
   rw [List.take_of_length_le (by rw [HN.out]; omega)] at hlf
   obtain ⟨e1, h1, h2⟩ := hlf.levs hrow HN.out (fun l hl => by have := H6.out l hl; omega)
   subst e1
   have HF : Hid (RLvs w ls nv (.returned (.slice Av nv cv)) wr) := ⟨Av, cv, rfl, h2, h1, hb⟩
   clear hb hrow hlf h1 h2 HB HR HLF
   go_wp2
   go_ret
   exact HF.out
set_option maxHeartbeats 4000000 in
theorem rwith_any (k n a : Int) (lv : List (List (Int × Int))) (Al : Option Addr) (pl cl : Nat) (v4 : Value) (Bk : Option Addr) (pk ck : Nat) (w : World) (hpl : lv.length = pl) (hm : pl ≤ 1048576) (h6 : ∀ l ∈ lv, l.length ≤ 1000000) (h : Levs w w.heap.size Al lv) :
  Calls Tryz.prog 56 #[.agg #[.int .i64 k, .int .i64 n, .int .i64 a, .slice Al pl cl, v4], .slice Bk pk ck] w
   (fun e w' => ∃ A c, e = .returned (.agg #[.int .i64 k, .int .i64 n, .int .i64 a, .slice A pl c, .slice Bk pk ck]) ∧ (A = none → c = 0) ∧ Levs (Cut w.heap.size none w') w'.heap.size A lv ∧ Below w.heap.size w w') := by
 obtain ⟨w1, hw1⟩ : ∃ x, (w.alloc (.cells #[.int .i64 k, .int .i64 n, .int .i64 a, .slice Al pl cl, v4] 26)).alloc (.cells #[.int .i64 0, .int .i64 0, .int .i64 0, .slice none 0 0, .slice none 0 0] 26) = x := ⟨_, rfl⟩
 obtain ⟨x0, x1, _⟩ := two_allocs w (.cells #[.int .i64 k, .int .i64 n, .int .i64 a, .slice Al pl cl, v4] 26) (.cells #[.int .i64 0, .int .i64 0, .int .i64 0, .slice none 0 0, .slice none 0 0] 26)
 have hb1 : Below w.heap.size w w1 := by rw [← hw1]; exact ((Below.refl _ _).alloc (Nat.le_refl _) _).alloc (by simp) _
 rw [hw1] at x0 x1
 have hs1 : w1.heap.size = w.heap.size + 2 := by rw [← hw1]; simp
 have y4 := cell_of_row _ _ 4 _ _ (0, 0) x0
 have r4 := thawed x0 4
 have e2 := set_same x0 4 (.slice Bk pk ck)
 obtain ⟨w2, hw2⟩ : ∃ x, w1.setCell ⟨w.heap.size, 4, none⟩ (.slice Bk pk ck) = x := ⟨_, rfl⟩
 have hg2 : w1.grownBy w2 (some w.heap.size) := by rw [← hw2]; exact setCell_grown _ _ _ _
 have hs2 : w2.heap.size = w1.heap.size := by rw [← hw2]; simp [World.setCell]
 rw [hw2] at e2
 have q2 := (hg2.block (w.heap.size + 1) (by omega) (by simp)).trans x1
 have hb2 : Below w.heap.size w w2 := hb1.grown hg2 (by omega) (fun b e => by injection e with e; omega)
 have HC := Lib.hid (rlevels_any Al lv pl cl w2 hpl hm h6 ((h.below hb2).more hb2.size))
 have E2 := Lib.hid e2
 have Q2 := Lib.hid q2
 have HB2 := Lib.hid hb2
 have z3 := cell_of_row _ _ 3 _ _ (0, 0) e2
 clear h h6 x0 x1 hb1 e2 q2 hg2 hb2 hpl
 go_enter Tryz.func56, Tryz.ntmps56
 go_wp2_with (fail)
 refine HC.out.mono ?_
 rintro e w3 ⟨A3, c3, rfl, hc3, hlv, hb3⟩
 have hs3 := hb3.size
 have e3 := (hb3.block w.heap.size (by omega)).trans E2.out
 have r3 := thawed e3 3
 have f3 := cell_of_row _ _ 3 _ _ (0, 0) e3
 have e4 := set_same e3 3 (.slice A3 pl c3)
 have q3 := (hb3.block (w.heap.size + 1) (by omega)).trans Q2.out
 obtain ⟨w4, hw4⟩ : ∃ x, w3.setCell ⟨w.heap.size, 3, none⟩ (.slice A3 pl c3) = x := ⟨_, rfl⟩
 have hg4 : w3.grownBy w4 (some w.heap.size) := by rw [← hw4]; exact setCell_grown _ _ _ _
 have hs4 : w4.heap.size = w3.heap.size := by rw [← hw4]; simp [World.setCell]
 rw [hw4] at e4
 have q4 := (hg4.block (w.heap.size + 1) (by omega) (by simp)).trans q3
 have a0 := cell_of_row _ _ 0 _ _ (0, 0) e4
 have a1 := cell_of_row _ _ 1 _ _ (0, 0) e4
 have a2 := cell_of_row _ _ 2 _ _ (0, 0) e4
 have a3 := cell_of_row _ _ 3 _ _ (0, 0) e4
 have a4 := cell_of_row _ _ 4 _ _ (0, 0) e4
 have b0 := cell_of_row _ _ 0 _ _ (0, 0) q4
 have b1 := cell_of_row _ _ 1 _ _ (0, 0) q4
 have b2 := cell_of_row _ _ 2 _ _ (0, 0) q4
 have b3 := cell_of_row _ _ 3 _ _ (0, 0) q4
 have b4 := cell_of_row _ _ 4 _ _ (0, 0) q4
 have t0 := thawed q4 0
 have t1 := thawed q4 1
 have t2 := thawed q4 2
 have t3 := thawed q4 3
 have t4 := thawed q4 4
 obtain ⟨g9, s9, cur9, h9, _, hc9⟩ := store5_post q4 (o := 0) (by simp) (.int .i64 k) (.int .i64 n) (.int .i64 a) (.slice A3 pl c3) (.slice Bk pk ck)
 have u0 := row_cell h9 hc9.1
 have u1 := row_cell h9 hc9.2.1
 have u2 := row_cell h9 hc9.2.2.1
 have u3 := row_cell h9 hc9.2.2.2.1
 have u4 := row_cell h9 hc9.2.2.2.2
 obtain ⟨w5, hw5⟩ : ∃ x, store5 w4 (w.heap.size + 1) 0 (.int .i64 k) (.int .i64 n) (.int .i64 a) (.slice A3 pl c3) (.slice Bk pk ck) = x := ⟨_, rfl⟩
 have HFIN : Hid (∃ A c, (Ending.returned (.agg #[.int .i64 k, .int .i64 n, .int .i64 a, .slice A3 pl c3, .slice Bk pk ck])) = .returned (.agg #[.int .i64 k, .int .i64 n, .int .i64 a, .slice A pl c, .slice Bk pk ck]) ∧ (A = none → c = 0) ∧ Levs (Cut w.heap.size none w5) w5.heap.size A lv ∧ Below w.heap.size w w5) := by
  rw [hw5] at g9 s9
  refine ⟨A3, c3, rfl, hc3, hlv.mono (by omega) (Cut.to fun b h1 h2 _ => ⟨by omega, by simp, ?_⟩), ((HB2.out.trans (hb3.mono (by omega))).grown hg4 (by omega) (fun b e => by injection e with e; omega)).grown g9 (by omega) (fun b e => by injection e with e; omega)⟩
  exact (g9.block b (by omega) (by intro e; injection e with e; omega)).trans (hg4.block b (by omega) (by intro e; injection e with e; omega))
 unfold store5 at hw5 u0 u1 u2 u3 u4
 clear g9 s9 h9 hc9 e3 e4 q3 q4 hb3 hg4 hs4 hlv HC z3 hc3
 go_wp2
 rw [hw5] at u0 u1 u2 u3 u4
 exact bodyPost_ret (v := .agg #[.int .i64 k, .int .i64 n, .int .i64 a, .slice A3 pl c3, .slice Bk pk ck]) (by simp [results, Tryz.results56, go_sem, u0, u1, u2, u3, u4]) rfl HFIN.out
end Go.Proofs.YtafgmndlbbjphaaGreatDoor
