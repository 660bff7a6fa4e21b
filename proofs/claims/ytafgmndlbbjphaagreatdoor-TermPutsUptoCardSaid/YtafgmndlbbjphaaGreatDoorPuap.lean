/- Laws. -/
import Derived.Test.YtafgmndlbbjphaaGreatDoorPuaa
import Derived.OwnWalk
import Derived.Laws.OwnMore
import Derived.Deep.AppendLies
set_option maxRecDepth 100000
namespace Go.Proofs.YtafgmndlbbjphaaGreatDoor
open Go.RowKit Go.Maps
theorem own_prefix {w : World} {B : Nat} {e : TypeId} {s : Nat} {A : Option Addr} {m c n : Nat} {ys : List Value} (h : w.ownsRow B e s (.slice A m c) m ys) (hn : n ≤ m) : w.ownsRow B e s (.slice A n c) n (ys.take (n * s)) := by
 have hl := h.1
 have hns : n * s ≤ m * s := Nat.mul_le_mul_right _ hn
 refine ⟨by rw [List.length_take, hl]; omega, ?_⟩
 rcases h.2 with ⟨e1, e2⟩ | ⟨g, cap, cur, e1, q1, q2, q3, q4, q5, q6⟩
 ·left
  injection e1 with e1 e3 e4
  subst e1 e4
  exact ⟨by rw [show n = 0 by omega], by omega⟩
 ·right
  injection e1 with e1 e3 e4
  subst e1 e4
  refine ⟨g, _, cur, rfl, q1, q2, by omega, q4, q5, ?_⟩
  rw [← q6, List.take_take, Nat.min_eq_left hns]
structure Gr (W w : World) (B : Nat) (e : TypeId) (s : Nat) (A : Option Addr) (n c : Nat) (xs : List Value) (v : Value) (m : Nat) (ys : List Value) : Prop where
 own : w.ownsRow B e s v m ys
 old : w.ownsRow B e s (.slice A n c) n xs
 grown : W.grownBy w (Value.ownBlock (.slice A n c))
 le : n ≤ m
 pre : ys.take (n * s) = xs
 lt : ∀ k, Value.ownBlock (.slice A n c) = some k → k < W.heap.size
 lies : v = .slice A m c ∨ ∃ g c', v = .slice (some ⟨g, 0, none⟩) m c' ∧ W.heap.size ≤ g
theorem grownBy_refl (w : World) (r : Option Nat) : w.grownBy w r := ⟨rfl, rfl, rfl, Nat.le_refl _, fun _ _ _ => rfl⟩
theorem Gr.start {W : World} {B : Nat} {e : TypeId} {s : Nat} {A : Option Addr} {n c : Nat} {xs : List Value} (h : W.ownsRow B e s (.slice A n c) n xs) : Gr W W B e s A n c xs (.slice A n c) n xs :=
 ⟨h, h, grownBy_refl _ _, Nat.le_refl _, List.take_of_length_le (by rw [h.1]; exact Nat.le_refl _), fun k hk => (h.lt k hk).2, Or.inl rfl⟩
theorem below_grown {w w' : World} (h : Below w.heap.size w w') (r : Option Nat) : w.grownBy w' r := ⟨h.os, h.tape, h.output, h.size, fun k hk _ => h.block k hk⟩
theorem own_below {w w' : World} {B : Nat} {e : TypeId} {s : Nat} {v : Value} {n : Nat} {xs : List Value} (h : w.ownsRow B e s v n xs) (hb : Below w.heap.size w w') : w'.ownsRow B e s v n xs :=
 h.kept (below_grown hb none) (by cases v.ownBlock <;> simp)
theorem Gr.keep {W w w' : World} {B : Nat} {e : TypeId} {s : Nat} {A : Option Addr} {n c : Nat} {xs : List Value} {v : Value} {m : Nat} {ys : List Value} (h : Gr W w B e s A n c xs v m ys) (hb : Below w.heap.size w w') : Gr W w' B e s A n c xs v m ys :=
 ⟨own_below h.own hb, own_below h.old hb, h.grown.trans (below_grown hb _), h.le, h.pre, h.lt, h.lies⟩
theorem grown_none {w w' : World} (h : w.grownBy w' none) (r : Option Nat) : w.grownBy w' r := ⟨h.os, h.tape, h.output, h.size, fun k hk _ => h.block k hk (by simp)⟩
section
variable {P : Program}
theorem run_append_gr {W w : World} {B : Nat} {e : TypeId} {s : Nat} {A : Option Addr} {n c : Nat} {xs : List Value} {v : Value} {m : Nat} {ys : List Value} (h : Gr W w B e s A n c xs v m ys)
  (t ty : TypeId) (i : TypeInfo) (z : Value) (bytes : Nat) (ht : P.underlying t = some (.slice e)) (hi : P.info? e = some i) (hz : i.zero = some z) (hsize : i.size = s) (hby : i.bytes = bytes) (hzs : z.cells.size = s) (hsz : 0 < s)
  (ad : Addr) (k cx : Nat) (news : List Value) (hl : news.length = k * s) (hnews : ∀ j u, news[j]? = some u → w.cell? (ad.add j) = some u) (h1 : ∀ u ∈ news, u.oneCell' = true)
  (hk : 0 < k) (h63 : m + k ≤ maxLen) (hbytes : (m + k) * bytes ≤ 140737488355328) (hbase : B ≤ W.heap.size) :
  ∃ v' w', (Builtin.append_ #[t, t] ty #[v, .slice (some ad) k cx]).run P w = .ok v' w' ∧ Gr W w' B e s A n c xs v' (m + k) (ys ++ news) ∧ w.grownBy w' v.ownBlock := by
 have hW : W.heap.size ≤ w.heap.size := h.grown.size
 have hns : n * s ≤ ys.length := by rw [h.own.1]; exact Nat.mul_le_mul_right _ h.le
 have hpre : (ys ++ news).take (n * s) = xs := by rw [List.take_append_of_le_length hns, h.pre]
 rcases h.lies with rfl | ⟨g, c', rfl, hg⟩
 ·rcases A with _ | ⟨g, o, sp⟩
  ·obtain ⟨v', w', hr, q1, q2, _, q4⟩ := run_append_own_at (P := P) w B t ty e i z s bytes ht hi hz hsize hby hzs hsz _ m ys h.own ad k cx news hl hnews h1 h63 hbytes (by omega)
   obtain ⟨g, c', rfl, _, hlt⟩ := q1.form (by omega)
   have hgw : g = w.heap.size := by
    rcases q4 with q4 | q4
    ·simp [Value.ownBlock] at q4
    ·simpa [Value.ownBlock] using q4
   exact ⟨_, w', hr, ⟨q1, h.old.kept q2 (Or.inl rfl), h.grown.trans (grown_none q2 _), by have := h.le; omega, hpre, h.lt, Or.inr ⟨g, c', rfl, by omega⟩⟩, q2⟩
  ·obtain ⟨g', cap', cur, hv, hbg, hgg, hnc, hcm, hcs, htake⟩ : ∃ g' cap' cur, (Value.slice (some ⟨g, o, sp⟩) m c) = .slice (some ⟨g', 0, none⟩) m cap' ∧ B ≤ g' ∧ w.heap[g']? = some (.cells cur e (0, 0)) ∧ m ≤ cap' ∧ cap' ≤ maxLen ∧ cur.size = cap' * s ∧ cur.toList.take (m * s) = ys := by
    rcases h.own.2 with ⟨e1, _⟩ | q
    ·cases e1
    ·exact q
   cases hv
   by_cases hroom : m + k ≤ c
   ·obtain ⟨w', hr, q1, q2⟩ := run_append_fits (P := P) w B t ty e i s ht hi hsize g m c ys h.own ad k cx news hl hnews h1 hroom
    refine ⟨_, w', hr, ⟨q1, ?_, h.grown.trans q2, by have := h.le; omega, hpre, h.lt, Or.inl rfl⟩, q2⟩
    have := own_prefix (n := n) q1 (by have := h.le; omega)
    rwa [hpre] at this
   ·subst hsize
    subst hby
    have hr := run_append_grow (P := P) w t ty e i z ht hi hz ⟨g, 0, none⟩ m c ys h.own.1 (h.own.cells (g := g) rfl) ad k cx news hl hnews (by omega) (by simp only [maxLen] at h63; omega) (growslice_fits (by omega) hbytes)
    have hge := grownCap_ge w (m + k) c e
    have hcm' : grownCap w (m + k) c e ≤ maxLen := grownCap_le_maxLen w (m + k) c e h63
    have hlen : (ys ++ news).length = (m + k) * i.size := by rw [List.length_append, h.own.1, hl, Nat.add_mul]
    have hgr : w.grownBy (w.drew.alloc (.cells (ys.toArray ++ news.toArray ++ Builtin.zeroCells z.cells (grownCap w (m + k) c e - (m + k))) e)) none := ⟨rfl, rfl, rfl, by simp, fun k hk _ => Below.heap_alloc w.drew _ k hk⟩
    refine ⟨_, _, hr, ⟨⟨hlen, .inr ⟨w.heap.size, _, _, rfl, by omega, heap_alloc_new w.drew _, hge, hcm', ?_, ?_⟩⟩, h.old.kept hgr (Or.inr (by simp [Value.ownBlock])), h.grown.trans (grown_none hgr _), by have := h.le; omega, hpre, h.lt, Or.inr ⟨_, _, rfl, hW⟩⟩, grown_none hgr _⟩
    ·simp only [Array.size_append, List.size_toArray, size_zeroCells, hzs, h.own.1, hl, ← Nat.add_mul]
     congr 1
     omega
    ·simp only [Array.toList_append, List.append_assoc]
     rw [← List.append_assoc, ← hlen]
     exact List.take_left
 ·obtain ⟨v', w', hr, q1, q2, _, q4⟩ := run_append_own_at (P := P) w B t ty e i z s bytes ht hi hz hsize hby hzs hsz _ m ys h.own ad k cx news hl hnews h1 h63 hbytes (by omega)
  obtain ⟨g', c'', rfl, _, hlt⟩ := q1.form (by omega)
  have hgw : W.heap.size ≤ g' := by
   rcases q4 with q4 | q4
   ·simp [Value.ownBlock] at q4
    omega
   ·simp [Value.ownBlock] at q4
    omega
  refine ⟨_, w', hr, ⟨q1, h.old.kept q2 ?_, ?_, by have := h.le; omega, hpre, h.lt, Or.inr ⟨g', c'', rfl, hgw⟩⟩, q2⟩
  ·cases hA : Value.ownBlock (.slice A n c) with
   | none => exact Or.inl rfl
   | some b =>
    refine Or.inr fun e' => ?_
    have := h.lt b hA
    simp [Value.ownBlock] at e'
    omega
  ·exact ⟨q2.os.trans h.grown.os, q2.tape.trans h.grown.tape, q2.output.trans h.grown.output, Nat.le_trans hW q2.size, fun b hb hne => (q2.block b (by omega) (by simp [Value.ownBlock]; omega)).trans (h.grown.block b hb hne)⟩
theorem wpList_append_gr {ops : Array Oper} {rest : List Oper} {o : Oper} {a : Act} {Q : Exit → Act → World → Prop} (hgd : o.guard = none) (s' x : Operand) (t : TypeId)
  (ho : o.op = .call { callee := .builtin .append, args := #[s', x], argTypes := #[t, t] })
  {W w : World} {B : Nat} {e : TypeId} {s : Nat} {A : Option Addr} {n c : Nat} {xs : List Value} {v : Value} {m : Nat} {ys : List Value} (h : Gr W w B e s A n c xs v m ys)
  (i : TypeInfo) (z : Value) (bytes : Nat) (ht : P.underlying t = some (.slice e)) (hi : P.info? e = some i) (hz : i.zero = some z) (hsize : i.size = s) (hby : i.bytes = bytes) (hzs : z.cells.size = s) (hsz : 0 < s) (hs : a.eval s' = v)
  (ad : Addr) (k cx : Nat) (news : List Value) (hx : a.eval x = .slice (some ad) k cx) (hl : news.length = k * s) (hnews : ∀ j u, news[j]? = some u → w.cell? (ad.add j) = some u) (h1 : ∀ u ∈ news, u.oneCell' = true)
  (hk : 0 < k) (h63 : m + k ≤ maxLen) (hbytes : (m + k) * bytes ≤ 140737488355328) (hbase : B ≤ W.heap.size)
  (hK : ∀ v' w', Gr W w' B e s A n c xs v' (m + k) (ys ++ news) → w.grownBy w' v.ownBlock → wpList P ops Q rest (a.put o.dst v') w') : wpList P ops Q (o :: rest) a w := by
 refine wpList_plain hgd fun K hK' => ?_
 obtain ⟨v', w', hr, h2, h3⟩ := run_append_gr (P := P) h t o.type i z bytes ht hi hz hsize hby hzs hsz ad k cx news hl hnews h1 hk h63 hbytes hbase
 unfold Oper.wp execOp
 simp only [ho, resolve, invoke, builtin, Sem.run_bind, Sem.run_pure, Result.andThen_ok, List.map_toArray, List.map_cons, List.map_nil, hs, hx, hr]
 exact hK' _ _ (hK v' w' h2 h3)
end
abbrev Sl := Option Addr × Nat × Nat
def Bk (p : Sl) : Option Nat := Value.ownBlock (.slice p.1 p.2.1 p.2.2)
structure Fleet (w : World) (B : Nat) (e : TypeId) (s : Nat) (L : List Sl) (X : Nat → List Value) : Prop where
 own : ∀ (k : Nat) (p : Sl), L[k]? = some p → w.ownsRow B e s (.slice p.1 p.2.1 p.2.2) p.2.1 (X k)
 apart : ∀ (j k : Nat) (p q : Sl), L[j]? = some p → L[k]? = some q → j ≠ k → ∀ b, Bk p = some b → Bk q ≠ some b
theorem kept_ne {w w' : World} {B : Nat} {e : TypeId} {s : Nat} {v : Value} {n : Nat} {xs : List Value} (h : w.ownsRow B e s v n xs) {r : Option Nat} (hg : w.grownBy w' r) (hne : ∀ b, v.ownBlock = some b → some b ≠ r) : w'.ownsRow B e s v n xs := by
 refine h.kept hg ?_
 cases hb : v.ownBlock with
 | none => exact Or.inl rfl
 | some b => exact Or.inr (hne b hb)
theorem Fleet.kept {w w' : World} {B : Nat} {e : TypeId} {s : Nat} {L : List Sl} {X : Nat → List Value} (h : Fleet w B e s L X) {r : Option Nat} (hg : w.grownBy w' r) (hne : ∀ p ∈ L, ∀ b, Bk p = some b → some b ≠ r) : Fleet w' B e s L X :=
 ⟨fun k p hp => kept_ne (h.own k p hp) hg (hne p (List.mem_of_getElem? hp)), h.apart⟩
theorem Fleet.below {w w' : World} {B : Nat} {e : TypeId} {s : Nat} {L : List Sl} {X : Nat → List Value} (h : Fleet w B e s L X) (hb : Below w.heap.size w w') : Fleet w' B e s L X :=
 h.kept (below_grown hb none) (fun _ _ _ _ => by simp)
theorem Fleet.lt {w : World} {B : Nat} {e : TypeId} {s : Nat} {L : List Sl} {X : Nat → List Value} (h : Fleet w B e s L X) {p : Sl} (hp : p ∈ L) {b : Nat} (hb : Bk p = some b) : B ≤ b ∧ b < w.heap.size := by
 obtain ⟨k, hk⟩ := List.getElem?_of_mem hp
 exact (h.own k p hk).lt b hb
theorem Fleet.turn {w w' : World} {B : Nat} {e : TypeId} {s : Nat} {L : List Sl} {X X' : Nat → List Value} (h : Fleet w B e s L X) {k : Nat} {p : Sl} (hp : L[k]? = some p) (hg : w.grownBy w' (Bk p))
  (ho : w'.ownsRow B e s (.slice p.1 p.2.1 p.2.2) p.2.1 (X' k)) (hX : ∀ j, j ≠ k → X' j = X j) : Fleet w' B e s L X' :=
 ⟨fun j q hq => by
   by_cases hj : j = k
   · subst hj
     rw [hp] at hq
     injection hq with hq
     subst hq
     exact ho
   · rw [hX j hj]
     exact kept_ne (h.own j q hq) hg fun b hb e' => h.apart j k q p hq hp hj b hb e'.symm, h.apart⟩
structure Sea (w wr : World) (L : List Sl) : Prop where
 os : wr.os = w.os
 tape : wr.tape = w.tape
 output : wr.output = w.output
 size : w.heap.size ≤ wr.heap.size
 block : ∀ b, b < w.heap.size → (∀ p ∈ L, Bk p ≠ some b) → wr.heap[b]? = w.heap[b]?
theorem Sea.refl (w : World) (L : List Sl) : Sea w w L := ⟨rfl, rfl, rfl, Nat.le_refl _, fun _ _ _ => rfl⟩
theorem Sea.kept {w wr w' : World} {L : List Sl} (h : Sea w wr L) {r : Option Nat} (hg : wr.grownBy w' r) (hr : ∀ b, r = some b → b < w.heap.size → ∃ p ∈ L, Bk p = some b) : Sea w w' L :=
 ⟨hg.os.trans h.os, hg.tape.trans h.tape, hg.output.trans h.output, Nat.le_trans h.size hg.size, fun b hb hne => (hg.block b (by have := h.size; omega) (fun e => by
   obtain ⟨p, hp, hpb⟩ := hr b e.symm hb
   exact hne p hp hpb)).trans (h.block b hb hne)⟩
theorem Sea.below {w wr w' : World} {L : List Sl} (h : Sea w wr L) (hb : Below wr.heap.size wr w') : Sea w w' L := h.kept (below_grown hb none) (fun _ e => by cases e)
theorem Sea.row {w wr w' : World} {L : List Sl} (h : Sea w wr L) {p : Sl} (hp : p ∈ L) (hg : wr.grownBy w' (Bk p)) : Sea w w' L := h.kept hg fun _ e _ => ⟨p, hp, e⟩
theorem Sea.far {w wr w' : World} {L : List Sl} {b : Nat} (h : Sea w wr L) (hg : wr.grownBy w' (some b)) (hb : w.heap.size ≤ b) : Sea w w' L := h.kept hg fun c e hc => by
 injection e with e
 omega
theorem Sea.toBelow {w wr : World} {L : List Sl} {B : Nat} (h : Sea w wr L) (hB : B ≤ w.heap.size) (hL : ∀ p ∈ L, ∀ b, Bk p = some b → B ≤ b) : Below B w wr :=
 ⟨h.os, h.tape, h.output, h.size, fun b hb => h.block b (by omega) fun p hp e => by have := hL p hp b e; omega⟩
theorem Sea.cell {w wr : World} {L : List Sl} (h : Sea w wr L) {G j : Nat} (hG : G < w.heap.size) (hne : ∀ p ∈ L, Bk p ≠ some G) : wr.cell? ⟨G, j, none⟩ = w.cell? ⟨G, j, none⟩ := World.cell?_of_block (w := w) (a := ⟨G, j, none⟩) (h.block G hG hne)
def Gat (w wr : World) (gb B : Nat) (e : TypeId) (s : Nat) (p : Sl) (v : Value) (m : Nat) (ys : List Value) : Prop :=
 wr.ownsRow B e s v m ys ∧ (∃ A c, v = .slice A m c) ∧ ∀ b, v.ownBlock = some b → Bk p = some b ∨ (w.heap.size ≤ b ∧ b ≠ gb)
theorem Gat.kept {w wr w' : World} {gb B : Nat} {e : TypeId} {s : Nat} {p : Sl} {v : Value} {m : Nat} {ys : List Value} (h : Gat w wr gb B e s p v m ys) {r : Option Nat} (hg : wr.grownBy w' r) (hne : ∀ b, v.ownBlock = some b → some b ≠ r) : Gat w w' gb B e s p v m ys :=
 ⟨kept_ne h.1 hg hne, h.2⟩
structure Two (w wr : World) (L : List Sl) (K B : Nat) (e : TypeId) (s : Nat) (te : TypeId) (gb : Nat) (X : Nat → List Value) (k : Nat) (m : Nat → Nat) (Y : Nat → List Value) (Gs : List Value) : Prop where
 base : B ≤ w.heap.size
 len : L.length = K
 low : ∀ p ∈ L, ∀ b, Bk p = some b → b < w.heap.size
 high : w.heap.size ≤ gb
 sea : Sea w wr L
 fleet : Fleet wr B e s L X
 gs : wr.ownsRow w.heap.size te 1 (.slice (some ⟨gb, 0, none⟩) K K) K Gs
 got : ∀ (j : Nat) (p : Sl), j < k → L[j]? = some p → ∃ v, Gs[j]? = some v ∧ Gat w wr gb B e s p v (m j) (Y j)
theorem Two.below {w wr w' : World} {L : List Sl} {K B : Nat} {e : TypeId} {s : Nat} {te : TypeId} {gb : Nat} {X : Nat → List Value} {k : Nat} {m : Nat → Nat} {Y : Nat → List Value} {Gs : List Value}
  (h : Two w wr L K B e s te gb X k m Y Gs) (hb : Below wr.heap.size wr w') : Two w w' L K B e s te gb X k m Y Gs :=
 ⟨h.base, h.len, h.low, h.high, h.sea.below hb, h.fleet.below hb, own_below h.gs hb, fun j p hj hp => by
   obtain ⟨v, hv, hg⟩ := h.got j p hj hp
   exact ⟨v, hv, hg.kept (below_grown hb none) (fun _ _ => by simp)⟩⟩
theorem Two.again {w wr : World} {L : List Sl} {K B : Nat} {e : TypeId} {s : Nat} {te : TypeId} {gb : Nat} {X : Nat → List Value} {k : Nat} {m m' : Nat → Nat} {Y Y' : Nat → List Value} {Gs : List Value}
  (h : Two w wr L K B e s te gb X k m Y Gs) : Two w wr L K B e s te gb X 0 m' Y' Gs := ⟨h.base, h.len, h.low, h.high, h.sea, h.fleet, h.gs, fun _ _ hj => absurd hj (by omega)⟩
theorem Two.step {w Wk wr : World} {L : List Sl} {K B : Nat} {e : TypeId} {s : Nat} {te : TypeId} {gb : Nat} {X : Nat → List Value} {k : Nat} {m : Nat → Nat} {Y : Nat → List Value} {Gs : List Value}
  (h : Two w Wk L K B e s te gb X k m Y Gs) {p : Sl} (hp : L[k]? = some p) {v : Value} {mk : Nat} {ys : List Value} (hg : Gr Wk wr B e s p.1 p.2.1 p.2.2 (X k) v mk ys) (hm : mk = m k) (hy : ys = Y k) :
  wr.ownsRow w.heap.size te 1 (.slice (some ⟨gb, 0, none⟩) K K) K Gs ∧ Two w (wr.setCell ⟨gb, k, none⟩ v) L K B e s te gb X (k + 1) m Y (Gs.set k v) := by
 have hmem := List.mem_of_getElem? hp
 have hkK : k < K := by
  rw [← h.len]
  exact (List.getElem?_eq_some_iff.1 hp).1
 have hpb : ∀ b, Bk p = some b → b < w.heap.size := h.low p hmem
 have hgs : wr.ownsRow w.heap.size te 1 (.slice (some ⟨gb, 0, none⟩) K K) K Gs := kept_ne h.gs hg.grown fun b hb e' => by
  have hb : gb = b := by simpa [Value.ownBlock] using hb
  have := hpb b e'.symm
  have := h.high
  omega
 obtain ⟨st, sg⟩ := hgs.stored k v
 have hgbW : gb < Wk.heap.size := (h.gs.lt gb (by rfl)).2
 have hfl : Fleet wr B e s L X := h.fleet.turn hp hg.grown hg.old (fun _ _ => rfl)
 have hneg : ∀ q ∈ L, ∀ b, Bk q = some b → some b ≠ some gb := fun q hq b hb e' => by
  injection e' with e'
  have := h.low q hq b hb
  have := h.high
  omega
 have hslv : ∃ A c, v = .slice A (m k) c := by
  rcases hg.lies with e' | ⟨g, c', e', _⟩
  ·exact ⟨_, _, by rw [e', hm]⟩
  ·exact ⟨_, _, by rw [e', hm]⟩
 have hgl : Gs.length = K := by have := h.gs.1; omega
 refine ⟨hgs, h.base, h.len, h.low, h.high, (h.sea.row hmem hg.grown).far sg h.high, hfl.kept sg hneg, st, fun j q hj hq => ?_⟩
 by_cases hjk : j = k
 ·subst hjk
  rw [hp] at hq
  injection hq with hq
  subst hq
  refine ⟨v, by rw [List.getElem?_set_self (by omega)], ?_, hslv, ?_⟩
  ·rw [← hm, ← hy]
   refine kept_ne hg.own sg fun b hb e' => ?_
   injection e' with e'
   subst e'
   rcases hg.lies with e1 | ⟨g, c', e1, hge⟩
   ·rw [e1] at hb
    have : Bk p = some b := by
     rw [← hb]
     cases hp1 : p.1 <;> simp [Bk, Value.ownBlock, hp1]
    have := hpb b this
    have := h.high
    omega
   ·rw [e1] at hb
    have : g = b := by simpa [Value.ownBlock] using hb
    omega
  ·intro b hb
   rcases hg.lies with e1 | ⟨g, c', e1, hge⟩
   ·rw [e1] at hb
    left
    rw [← hb]
    cases hp1 : p.1 <;> simp [Bk, Value.ownBlock, hp1]
   ·rw [e1] at hb
    have hgb : g = b := by simpa [Value.ownBlock] using hb
    have := h.sea.size
    exact Or.inr ⟨by omega, by omega⟩
 ·obtain ⟨u, hu, hgu⟩ := h.got j q (by omega) hq
  refine ⟨u, by rw [List.getElem?_set_ne (Ne.symm hjk)]; exact hu, (hgu.kept hg.grown fun b hb e' => ?_).kept sg fun b hb e' => ?_⟩
  ·rcases hgu.2.2 b hb with h1 | ⟨h1, _⟩
   ·exact h.fleet.apart j k q p hq hp hjk b h1 e'.symm
   ·have := hpb b e'.symm
    omega
  ·injection e' with e'
   subst e'
   rcases hgu.2.2 b hb with h1 | ⟨_, h1⟩
   ·have := h.low q (List.mem_of_getElem? hq) b h1
    have := h.high
    omega
   ·exact h1 rfl
end Go.Proofs.YtafgmndlbbjphaaGreatDoor
