/- Laws. -/
import Derived.Test.YtafgmndlbbjphaaGreatDoorPual
import Derived.Test.YtafgmndlbbjphaaGreatDoorPuay
import Derived.Test.YtafgmndlbbjphaaGreatDoorPubg
set_option maxRecDepth 100000
namespace Go.Proofs.YtafgmndlbbjphaaGreatDoor
open Go.RowKit Go.Maps
def FourT (B : Nat) (ca cb cc cd : Array Value) (x : Value) (w : World) : Prop := ∃ g g0 g1 g2 g3, x = .slice (some ⟨g, 0, none⟩) 4 4 ∧ w.heap[g]? = some (.cells #[.slice (some ⟨g0, 0, none⟩) 1 1, .slice (some ⟨g1, 0, none⟩) 1 1, .slice (some ⟨g2, 0, none⟩) 1 1, .slice (some ⟨g3, 0, none⟩) 1 1] 24 (0, 0)) ∧
 (B ≤ g0 ∧ B ≤ g1 ∧ B ≤ g2 ∧ B ≤ g3) ∧ w.heap[g0]? = some (.cells ca 26 (0, 0)) ∧ w.heap[g1]? = some (.cells cb 26 (0, 0)) ∧ w.heap[g2]? = some (.cells cc 26 (0, 0)) ∧ w.heap[g3]? = some (.cells cd 26 (0, 0)) ∧ (g0 ≠ g1 ∧ g0 ≠ g2 ∧ g0 ≠ g3) ∧ (g1 ≠ g2 ∧ g1 ≠ g3) ∧ g2 ≠ g3
theorem four_getT {α : Type} {a b c d x : α} {k : Nat} (h : [a, b, c, d][k]? = some x) : (k = 0 ∧ x = a) ∨ (k = 1 ∧ x = b) ∨ (k = 2 ∧ x = c) ∨ (k = 3 ∧ x = d) := by
 match k, h with
 | 0, h => exact Or.inl ⟨rfl, by injection h with h; exact h.symm⟩
 | 1, h => exact Or.inr (Or.inl ⟨rfl, by injection h with h; exact h.symm⟩)
 | 2, h => exact Or.inr (Or.inr (Or.inl ⟨rfl, by injection h with h; exact h.symm⟩))
 | 3, h => exact Or.inr (Or.inr (Or.inr ⟨rfl, by injection h with h; exact h.symm⟩))
 | k + 4, h => simp at h
theorem Rows.perm {w : World} {lo hi : Nat} {e : TypeId} {s : Nat} {l m : List Sl} (h : Rows w lo hi e s l) (hp : l.Perm m) : Rows w lo hi e s m :=
 ⟨fun p hm => h.1 p (hp.mem_iff.2 hm), (hp.pairwise_iff (fun {x y} (h : ∀ b, Bk x = some b → Bk y ≠ some b) b hb hb' => h b hb' hb)).1 h.2⟩
def N1 (g : Nat) (M : Nat → List Sl) : Nat → List Sl := addB (at1 9 [((some ⟨g, 0, none⟩ : Option Addr), 1, 1)]) (sumB [M])
theorem five_of {w : World} {g lo hi : Nat} {ca : Array Value} {u : Tm} (h : w.heap[g]? = some (.cells ca 26 (0, 0))) (ho : OwnTm w lo hi u (.agg ca)) : ca.size = 5 ∧ Five w g (0 * 5) (.agg ca) := by
 obtain ⟨i, j, l, A, B, n, c, m, d, e⟩ := own_shape ho
 injection e with e
 subst e
 exact ⟨rfl, _, _, _, _, _, rfl, cell_of_row _ _ 0 _ _ (0, 0) h, cell_of_row _ _ 1 _ _ (0, 0) h, cell_of_row _ _ 2 _ _ (0, 0) h, cell_of_row _ _ 3 _ _ (0, 0) h, cell_of_row _ _ 4 _ _ (0, 0) h⟩
theorem rows_one {w : World} {g lo hi : Nat} {ca : Array Value} {u : Tm} {M : Nat → List Sl} (h : w.heap[g]? = some (.cells ca 26 (0, 0))) (ho : OwnTm w lo hi u (.agg ca)) (hM : TmRows w u (.agg ca) M) : RowRows w (some ⟨g, 0, none⟩, 1, 1) (N1 g M) := by
 refine ⟨[u], [M], rfl, ?_, rfl⟩
 unfold TmsRows
 refine ⟨M, [], rfl, ⟨g, .agg ca, rfl, heap_some_lt h, (five_of h ho).2, hM⟩, ?_⟩
 unfold TmsRows
 rfl
theorem own_box {w : World} {g lo hi B : Nat} {ca : Array Value} {u : Tm} (h : w.heap[g]? = some (.cells ca 26 (0, 0))) (ho : OwnTm w lo hi u (.agg ca)) (hB : B ≤ g) : w.ownsRow B 26 5 (slV ((some ⟨g, 0, none⟩ : Option Addr), 1, 1)) 1 ca.toList := by
 have h5 := (five_of h ho).1
 refine ⟨by simpa using h5, Or.inr ⟨g, 1, ca, rfl, hB, h, Nat.le_refl _, by decide, by simpa using h5, ?_⟩⟩
 exact List.take_of_length_le (by simp; omega)
theorem boxes4 {w : World} {B g0 g1 g2 g3 : Nat} {x0 x1 x2 x3 : List Value} (h0 : w.ownsRow B 26 5 (slV ((some ⟨g0, 0, none⟩ : Option Addr), 1, 1)) 1 x0) (h1 : w.ownsRow B 26 5 (slV ((some ⟨g1, 0, none⟩ : Option Addr), 1, 1)) 1 x1) (h2 : w.ownsRow B 26 5 (slV ((some ⟨g2, 0, none⟩ : Option Addr), 1, 1)) 1 x2) (h3 : w.ownsRow B 26 5 (slV ((some ⟨g3, 0, none⟩ : Option Addr), 1, 1)) 1 x3)
  (hn : (g0 ≠ g1 ∧ g0 ≠ g2 ∧ g0 ≠ g3) ∧ (g1 ≠ g2 ∧ g1 ≠ g3) ∧ g2 ≠ g3) : Rows w B w.heap.size 26 5 [((some ⟨g0, 0, none⟩ : Option Addr), 1, 1), (some ⟨g1, 0, none⟩, 1, 1), (some ⟨g2, 0, none⟩, 1, 1), (some ⟨g3, 0, none⟩, 1, 1)] := by
 have hb : ∀ g b, Bk ((some ⟨g, 0, none⟩ : Option Addr), 1, 1) = some b → g = b := fun g b h => by simpa [Bk, Value.ownBlock] using h
 have lt : ∀ {g : Nat} {xs : List Value}, w.ownsRow B 26 5 (slV ((some ⟨g, 0, none⟩ : Option Addr), 1, 1)) 1 xs → ∀ b, Bk ((some ⟨g, 0, none⟩ : Option Addr), 1, 1) = some b → b < w.heap.size := fun h b hb' => (h.lt b hb').2
 refine ⟨fun p hp => ?_, ?_⟩
 ·simp only [List.mem_cons, List.not_mem_nil, or_false] at hp
  rcases hp with rfl | rfl | rfl | rfl
  ·exact ⟨⟨_, h0⟩, lt h0⟩
  ·exact ⟨⟨_, h1⟩, lt h1⟩
  ·exact ⟨⟨_, h2⟩, lt h2⟩
  ·exact ⟨⟨_, h3⟩, lt h3⟩
 ·obtain ⟨⟨n1, n2, n3⟩, ⟨n4, n5⟩, n6⟩ := hn
  have far : ∀ {a b : Nat}, a ≠ b → ∀ x, Bk ((some ⟨a, 0, none⟩ : Option Addr), 1, 1) = some x → Bk ((some ⟨b, 0, none⟩ : Option Addr), 1, 1) ≠ some x := fun hne x hx hx' => hne ((hb _ _ hx).trans (hb _ _ hx').symm)
  simp only [List.pairwise_cons, List.mem_cons, List.not_mem_nil, or_false, forall_eq_or_imp, forall_eq]
  exact ⟨⟨far n1, far n2, far n3⟩, ⟨far n4, far n5⟩, far n6, (fun _ h => by cases h), List.Pairwise.nil⟩
theorem five_allocs (w : World) (c0 c1 c2 c3 c4 : Array Value) (t0 t1 t2 t3 t4 : TypeId) : (((((w.alloc (.cells c0 t0)).alloc (.cells c1 t1)).alloc (.cells c2 t2)).alloc (.cells c3 t3)).alloc (.cells c4 t4)).heap[w.heap.size]? = some (.cells c0 t0 (0, 0)) ∧ (((((w.alloc (.cells c0 t0)).alloc (.cells c1 t1)).alloc (.cells c2 t2)).alloc (.cells c3 t3)).alloc (.cells c4 t4)).heap[w.heap.size + 1]? = some (.cells c1 t1 (0, 0)) ∧ (((((w.alloc (.cells c0 t0)).alloc (.cells c1 t1)).alloc (.cells c2 t2)).alloc (.cells c3 t3)).alloc (.cells c4 t4)).heap[w.heap.size + 1 + 1]? = some (.cells c2 t2 (0, 0)) ∧ (((((w.alloc (.cells c0 t0)).alloc (.cells c1 t1)).alloc (.cells c2 t2)).alloc (.cells c3 t3)).alloc (.cells c4 t4)).heap[w.heap.size + 1 + 1 + 1]? = some (.cells c3 t3 (0, 0)) ∧ (((((w.alloc (.cells c0 t0)).alloc (.cells c1 t1)).alloc (.cells c2 t2)).alloc (.cells c3 t3)).alloc (.cells c4 t4)).heap[w.heap.size + 1 + 1 + 1 + 1]? = some (.cells c4 t4 (0, 0)) := by
 obtain ⟨w1, h1⟩ : ∃ x, w.alloc (.cells c0 t0) = x := ⟨_, rfl⟩
 obtain ⟨w2, h2⟩ : ∃ x, w1.alloc (.cells c1 t1) = x := ⟨_, rfl⟩
 obtain ⟨w3, h3⟩ : ∃ x, w2.alloc (.cells c2 t2) = x := ⟨_, rfl⟩
 obtain ⟨w4, h4⟩ : ∃ x, w3.alloc (.cells c3 t3) = x := ⟨_, rfl⟩
 obtain ⟨w5, h5⟩ : ∃ x, w4.alloc (.cells c4 t4) = x := ⟨_, rfl⟩
 rw [h1, h2, h3, h4, h5]
 have s1 : w1.heap.size = w.heap.size + 1 := by rw [← h1]; simp
 have s2 : w2.heap.size = w.heap.size + 1 + 1 := by rw [← h2]; simp [s1]
 have s3 : w3.heap.size = w.heap.size + 1 + 1 + 1 := by rw [← h3]; simp [s2]
 have s4 : w4.heap.size = w.heap.size + 1 + 1 + 1 + 1 := by rw [← h4]; simp [s3]
 have n0 : w1.heap[w.heap.size]? = some (.cells c0 t0 (0, 0)) := by rw [← h1]; exact heap_alloc_new w _
 have n1 : w2.heap[w.heap.size + 1]? = some (.cells c1 t1 (0, 0)) := by rw [← h2, ← s1]; exact heap_alloc_new w1 _
 have n2 : w3.heap[w.heap.size + 1 + 1]? = some (.cells c2 t2 (0, 0)) := by rw [← h3, ← s2]; exact heap_alloc_new w2 _
 have n3 : w4.heap[w.heap.size + 1 + 1 + 1]? = some (.cells c3 t3 (0, 0)) := by rw [← h4, ← s3]; exact heap_alloc_new w3 _
 have n4 : w5.heap[w.heap.size + 1 + 1 + 1 + 1]? = some (.cells c4 t4 (0, 0)) := by rw [← h5, ← s4]; exact heap_alloc_new w4 _
 have b2 : Below w1.heap.size w1 w2 := by rw [← h2]; exact (Below.refl _ _).alloc (Nat.le_refl _) _
 have b3 : Below w2.heap.size w2 w3 := by rw [← h3]; exact (Below.refl _ _).alloc (Nat.le_refl _) _
 have b4 : Below w3.heap.size w3 w4 := by rw [← h4]; exact (Below.refl _ _).alloc (Nat.le_refl _) _
 have b5 : Below w4.heap.size w4 w5 := by rw [← h5]; exact (Below.refl _ _).alloc (Nat.le_refl _) _
 exact ⟨(b5.block _ (by omega)).trans ((b4.block _ (by omega)).trans ((b3.block _ (by omega)).trans ((b2.block _ (by omega)).trans n0))), (b5.block _ (by omega)).trans ((b4.block _ (by omega)).trans ((b3.block _ (by omega)).trans n1)), (b5.block _ (by omega)).trans ((b4.block _ (by omega)).trans n2), (b5.block _ (by omega)).trans n3, n4⟩
theorem apartT4 {w : World} {B0 B la1 ha1 la2 ha2 lc1 hc1 lc2 hc2 : Nat} {tp tl : Tm} {ca cb cc cd : Array Value} {x : Value} (h : FourT B ca cb cc cd x w) (OA : OwnTm w la1 ha1 tp (.agg ca)) (OB : OwnTm w la2 ha2 tp (.agg cb)) (OC : OwnTm w lc1 hc1 tl (.agg cc)) (OD : OwnTm w lc2 hc2 tl (.agg cd))
  (h1 : B0 ≤ la1) (h2 : ha1 ≤ la2) (h3 : ha2 ≤ lc1) (h4 : hc1 ≤ lc2) (h5 : hc2 ≤ B) (hB : B ≤ w.heap.size) (fp : tp.fit) (fl : tl.fit) (np : tp.rowsN ≤ 60000) (nl : tl.rowsN ≤ 60000) :
  Calls Tryz.prog 20 #[x] w (YesPost B0 w) := by
 obtain ⟨g, g0, g1, g2, g3, rfl, hg, ⟨b0, b1, b2, b3⟩, e0, e1, e2, e3, hn⟩ := h
 obtain ⟨Ma, a1, a2, a3, a4⟩ := own_rows OA fp (by omega)
 obtain ⟨Mb, m1, m2, m3, m4⟩ := own_rows OB fp (by omega)
 obtain ⟨Mc, c1, c2, c3, c4⟩ := own_rows OC fl (by omega)
 obtain ⟨Md, d1, d2, d3, d4⟩ := own_rows OD fl (by omega)
 have lA := OA.le
 have lB := OB.le
 have lC := OC.le
 have lD := OD.le
 have hF : Flt w B0 B (addB Ma (addB Mb (addB Mc Md))) := (((a2.wide (Nat.le_refl _) h2).append ((m2.wide (Nat.le_refl _) h3).append ((c2.wide (Nat.le_refl _) h4).append d2 (by omega) lD) (by omega) (by omega)) (by omega) (by omega))).wide h1 h5
 obtain ⟨f7, f8, f9⟩ := hF
 have hbx := boxes4 (B := B) (own_box e0 OA b0) (own_box e1 OB b1) (own_box e2 OC b2) (own_box e3 OD b3) hn
 have hS : ∀ j, sumB [N1 g0 Ma, N1 g1 Mb, N1 g2 Mc, N1 g3 Md] j = (at1 9 [((some ⟨g0, 0, none⟩ : Option Addr), 1, 1)] j ++ Ma j) ++ ((at1 9 [((some ⟨g1, 0, none⟩ : Option Addr), 1, 1)] j ++ Mb j) ++ ((at1 9 [((some ⟨g2, 0, none⟩ : Option Addr), 1, 1)] j ++ Mc j) ++ (at1 9 [((some ⟨g3, 0, none⟩ : Option Addr), 1, 1)] j ++ Md j))) := fun j => by
  simp [sumB, N1, addB]
 have r7 : Rows w B0 w.heap.size 95 2 (sumB [N1 g0 Ma, N1 g1 Mb, N1 g2 Mc, N1 g3 Md] 7) := by
  rw [hS]
  simpa [at1, addB] using f7.wide (Nat.le_refl _) hB
 have r8 : Rows w B0 w.heap.size 47 1 (sumB [N1 g0 Ma, N1 g1 Mb, N1 g2 Mc, N1 g3 Md] 8) := by
  rw [hS]
  simpa [at1, addB] using f8.wide (Nat.le_refl _) hB
 have r9 : Rows w B0 w.heap.size 26 5 (sumB [N1 g0 Ma, N1 g1 Mb, N1 g2 Mc, N1 g3 Md] 9) := by
  refine (f9.append hbx (by omega) hB).perm ?_
  rw [hS]
  refine List.perm_iff_count.2 fun a => ?_
  simp only [addB, at1, if_pos, List.count_append, List.count_cons, List.count_nil]
  omega
 obtain ⟨X7, F7⟩ := r7.fleet
 obtain ⟨X8, F8⟩ := r8.fleet
 obtain ⟨X9, F9⟩ := r9.fleet
 have hl : ∀ j, (sumB [N1 g0 Ma, N1 g1 Mb, N1 g2 Mc, N1 g3 Md] j).length ≤ 400000 := fun j => by
  have q1 := a3 j
  have q2 := m3 j
  have q3 := c3 j
  have q4 := d3 j
  have q5 : ∀ p : Sl, (at1 9 [p] j).length ≤ 1 := fun p => by unfold at1; split <;> simp
  have k0 := q5 (some ⟨g0, 0, none⟩, 1, 1)
  have k1 := q5 (some ⟨g1, 0, none⟩, 1, 1)
  have k2 := q5 (some ⟨g2, 0, none⟩, 1, 1)
  have k3 := q5 (some ⟨g3, 0, none⟩, 1, 1)
  rw [hS]
  simp only [List.length_append]
  omega
 have hs : ∀ j, ∀ p ∈ sumB [N1 g0 Ma, N1 g1 Mb, N1 g2 Mc, N1 g3 Md] j, p.2.1 ≤ 1000000 := fun j p hp => by
  have one : ∀ g', p ∈ at1 9 [((some ⟨g', 0, none⟩ : Option Addr), 1, 1)] j → p.2.1 ≤ 1000000 := fun g' h => by
   unfold at1 at h
   split at h
   ·rw [List.mem_singleton] at h
    subst h
    show 1 ≤ 1000000
    omega
   ·simp at h
  rw [hS] at hp
  simp only [List.mem_append] at hp
  rcases hp with (hp | hp) | (hp | hp) | (hp | hp) | hp | hp
  ·exact one _ hp
  ·exact a4 j p hp
  ·exact one _ hp
  ·exact m4 j p hp
  ·exact one _ hp
  ·exact c4 j p hp
  ·exact one _ hp
  ·exact d4 j p hp
 refine apartTerms_any w g 4 B0 [((some ⟨g0, 0, none⟩ : Option Addr), 1, 1), (some ⟨g1, 0, none⟩, 1, 1), (some ⟨g2, 0, none⟩, 1, 1), (some ⟨g3, 0, none⟩, 1, 1)] [N1 g0 Ma, N1 g1 Mb, N1 g2 Mc, N1 g3 Md] X7 X8 X9 4 rfl rfl (by decide) (heap_some_lt hg) (fun k p hp => ?_) (fun k p N hp hN => ?_) F7 F8 F9 (by omega) (hs 7) (hs 8) (hs 9) hl
 ·rcases four_getT hp with ⟨rfl, rfl⟩ | ⟨rfl, rfl⟩ | ⟨rfl, rfl⟩ | ⟨rfl, rfl⟩
  ·exact cell_of_row _ _ 0 _ _ (0, 0) hg
  ·exact cell_of_row _ _ 1 _ _ (0, 0) hg
  ·exact cell_of_row _ _ 2 _ _ (0, 0) hg
  ·exact cell_of_row _ _ 3 _ _ (0, 0) hg
 ·rcases four_getT hp with ⟨rfl, rfl⟩ | ⟨rfl, rfl⟩ | ⟨rfl, rfl⟩ | ⟨rfl, rfl⟩ <;> (injection hN with hN; subst hN)
  ·exact rows_one e0 OA a1
  ·exact rows_one e1 OB m1
  ·exact rows_one e2 OC c1
  ·exact rows_one e3 OD d1
end Go.Proofs.YtafgmndlbbjphaaGreatDoor
