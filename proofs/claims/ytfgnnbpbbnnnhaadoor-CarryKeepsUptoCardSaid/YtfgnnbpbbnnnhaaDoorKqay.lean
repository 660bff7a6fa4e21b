/- Laws. -/
import Derived.Test.YtfgnnbpbbnnnhaaDoorKqap
import Derived.Test.YtfgnnbpbbnnnhaaDoorKqax
namespace Go.Proofs.YtfgnnbpbbnnnhaaDoor
open Go.RowKit Go.Shelf
attribute [local go_sem] Oper.semAt_some
set_option maxRecDepth 100000 in
theorem within_any (x : NodeE) (F : Fence) (n : Nat) (hf : F.fn 54) (hro : F.round = none) (w : World) : CallsIn F n Tryd.prog 54 #[x.enc] w (fun e w' => e = .returned (.func (.func 83) #[] #[.pointer (some ⟨w.heap.size, 0, none⟩)]) ∧ w' = w.alloc (.cells #[.int .i64 x.k, .int .i64 x.n, .int .i64 x.a, .slice x.A1 x.p1 x.c1, .slice x.A2 x.p2 x.c2] 27)) := by
  refine callsIn_of_wp Tryd.func54 rfl hf ?_ hro
  unfold NodeE.enc
  simp only [Tryd.ntmps54, List.size_toArray, List.length_cons, List.length_nil, Nat.reduceAdd, Nat.reduceSub, Array.replicate_succ, Array.replicate_zero, List.push_toArray, List.append_toArray, List.nil_append, List.cons_append]
  gi_wp2
  go_ret
  exact ⟨rfl, rfl⟩
set_option maxRecDepth 100000 in
set_option maxHeartbeats 4000000 in
theorem self_in (F : Fence) (hd : F.depth = none) (n : Nat) (hf0 : F.fn 24) (hf2 : F.fn 54) (hf1 : F.fn 83) (hf : F.fn 84) (hro : F.round = none) (hn : 3 ≤ n) (t : Tm) (hfit : t.fit) (x : NodeE) (w : World) (hT : TmAt w w.heap.size t x.enc) :
    CallsIn F n Tryd.prog 24 #[x.enc] w (fun e w' => e = .returned (.bool (decide ((11 : Int) ∈ t.kinds))) ∧ Below w.heap.size w w') := by
  have h1 : 1 ≤ n := by omega
  obtain ⟨xk, xn, xa, A1, p1, c1, A2, p2, c2⟩ := x
  refine callsIn_of_wp_marks Tryd.func24 rfl hf0 ?_ hro
  unfold NodeE.enc at hT ⊢
  have hb1 := cell_of_row _ _ 0 _ _ (0, 0) (heap_alloc_new w (.cells #[.int .i64 xk, .int .i64 xn, .int .i64 xa, .slice A1 p1 c1, .slice A2 p2 c2] 27))
  simp only [Tryd.ntmps24, List.size_toArray, List.length_cons, List.length_nil, Nat.reduceAdd, Nat.reduceSub, Array.replicate_succ, Array.replicate_zero, List.push_toArray, List.append_toArray, List.nil_append, List.cons_append]
  gi_wp2_with (gi_at_call 54; refine (within_any ⟨xk, xn, xa, A1, p1, c1, A2, p2, c2⟩ F (n - 1) hf2 hro _).mono ?_; rintro e w' ⟨rfl, rfl⟩)
  have hT1 : TmAt ((w.alloc (.cells #[.int .i64 xk, .int .i64 xn, .int .i64 xa, .slice A1 p1 c1, .slice A2 p2 c2] 27)).alloc (.cells #[.bool false] 4)) w.heap.size t (.agg #[.int .i64 xk, .int .i64 xn, .int .i64 xa, .slice A1 p1 c1, .slice A2 p2 c2]) := hT.below (((Below.refl _ _).alloc (Nat.le_refl _) _).alloc (by simp) _) (Nat.le_refl _)
  have bR := (Boxed.new (w.alloc (.cells #[.int .i64 xk, .int .i64 xn, .int .i64 xa, .slice A1 p1 c1, .slice A2 p2 c2] 27)) 4 (.bool false)).alloc (.cells #[.int .i64 xk, .int .i64 xn, .int .i64 xa, .slice A1 p1 c1, .slice A2 p2 c2] 27)
  have bA := heap_alloc_new ((w.alloc (.cells #[.int .i64 xk, .int .i64 xn, .int .i64 xa, .slice A1 p1 c1, .slice A2 p2 c2] 27)).alloc (.cells #[.bool false] 4)) (.cells #[.int .i64 xk, .int .i64 xn, .int .i64 xa, .slice A1 p1 c1, .slice A2 p2 c2] 27)
  simp only [World.size_alloc] at bR bA
  have hB0 : Below w.heap.size w (((w.alloc (.cells #[.int .i64 xk, .int .i64 xn, .int .i64 xa, .slice A1 p1 c1, .slice A2 p2 c2] 27)).alloc (.cells #[.bool false] 4)).alloc (.cells #[.int .i64 xk, .int .i64 xn, .int .i64 xa, .slice A1 p1 c1, .slice A2 p2 c2] 27)) := (((Below.refl _ w).alloc (Nat.le_refl _) _).alloc (by simp) _).alloc (by simp; omega) _
  have hsz : (((w.alloc (.cells #[.int .i64 xk, .int .i64 xn, .int .i64 xa, .slice A1 p1 c1, .slice A2 p2 c2] 27)).alloc (.cells #[.bool false] 4)).alloc (.cells #[.int .i64 xk, .int .i64 xn, .int .i64 xa, .slice A1 p1 c1, .slice A2 p2 c2] 27)).heap.size = w.heap.size + 3 := by simp
  obtain ⟨W0, hW0⟩ : ∃ W0, ((w.alloc (.cells #[.int .i64 xk, .int .i64 xn, .int .i64 xa, .slice A1 p1 c1, .slice A2 p2 c2] 27)).alloc (.cells #[.bool false] 4)).alloc (.cells #[.int .i64 xk, .int .i64 xn, .int .i64 xa, .slice A1 p1 c1, .slice A2 p2 c2] 27) = W0 := ⟨_, rfl⟩
  rw [hW0] at bR bA hB0 hsz ⊢
  clear hW0 hT1 hb1
  refine wpIn_rangeFunc_ownH hro h1 (gf := 83) (lb := #[.pointer (some ⟨w.heap.size + 1 + 1, 0, none⟩)]) rfl hf1 (enters_of Tryd.func83 (by kernel_rfl) rfl)
    (within_stops F hd (n - 1) hf1 hf hro (w.heap.size + 1 + 1) w.heap.size t ⟨xk, xn, xa, A1, p1, c1, A2, p2, c2⟩ W0 bA (hT.below hB0 (Nat.le_refl _)) (by omega) hfit) Kc.t (Kc.b (by omega)) (Below.refl _ _) (fun _ => rfl)
    (fun pre W => ((∀ y ∈ pre, y.k ≠ 11) ∧ Boxed W (w.heap.size + 1) 4 (.bool false)) ∧ Below w.heap.size w W)
    (fun c pre W => ((c = .ret ∧ ∃ y ∈ pre, y.k = 11) ∧ Boxed W (w.heap.size + 1) 4 (.bool true)) ∧ Below w.heap.size w W)
    (OwnFrom.and (OwnFrom.and (ownFrom_pure _ _) (Own.from (boxed_own _ _ _) _)) (ownFrom_below (Nat.le_refl _) (by omega)))
    (fun c => OwnFrom.and (OwnFrom.and (ownFrom_pure _ _) (Own.from (boxed_own _ _ _) _)) (ownFrom_below (Nat.le_refl _) (by omega)))
    ⟨⟨by simp, bR⟩, hB0⟩
    (fun y a' W => ∃ Bx, w.heap.size + 1 < Bx ∧ W.heap[Bx]? = some (.cells #[.int .i64 y.k, .int .i64 y.n, .int .i64 y.a, .slice y.A1 y.p1 y.c1, .slice y.A2 y.p2 y.c2] 27 (0, 0)) ∧ a' = { tmps := #[.agg #[.int .i64 xk, .int .i64 xn, .int .i64 xa, .slice A1 p1 c1, .slice A2 p2 c2], .pointer (some ⟨w.heap.size, 0, none⟩), .pointer (some ⟨w.heap.size + 1, 0, none⟩), .pointer (some ⟨Bx, 0, none⟩), .agg #[.int .i64 xk, .int .i64 xn, .int .i64 xa, .slice A1 p1 c1, .slice A2 p2 c2], .func (.func 83) #[] #[.pointer (some ⟨w.heap.size + 1 + 1, 0, none⟩)], y.enc, undef, undef, undef], defers := [] })
    (fun y a' _ X Y row hs hg hr => by
      obtain ⟨Bx, e1, e2, e3⟩ := hs
      exact ⟨Bx, e1, (hg.block Bx (heap_some_lt e2) (fun e => by obtain ⟨_, o, ho, hc⟩ := hr Bx e.symm; rw [e2] at ho; injection ho with ho; subst ho; cases hc)).trans e2, e3⟩)
    ?assign ?body ?done ?stop
  case assign =>
    rintro l pre y W K ⟨⟨hp, bR1⟩, hB1⟩ hK
    have hsz1 := hB1.size
    obtain ⟨yk, yn, ya, C1, q1, d1, C2, q2, d2⟩ := y
    unfold NodeE.enc at hK ⊢
    gi_wp2
    exact hK _ _ ((KeepsOthers.alloc _ _).from _) ((Kc.refl _ W).alloc hB1.size _) ⟨⟨hp, bR1.alloc _⟩, hB1.alloc hB1.size _⟩ ⟨W.heap.size, bR1.lt, heap_alloc_new W _, rfl⟩
  case body =>
    rintro l pre y a' W hl ⟨r, hr⟩ ⟨⟨hp, bR1⟩, hB1⟩ ⟨Bx, hBx, bX, rfl⟩ hlt
    obtain ⟨yk, yn, ya, C1, q1, d1, C2, q2, d2⟩ := y
    have cX := cell_of_row _ _ 0 _ _ (0, 0) bX
    have cR := bR1.cell
    have fR := bR1.frozen
    unfold NodeE.enc
    gi_wp2
    · rename_i hx
      have hx : yk = 11 := by simpa using hx
      exact ⟨(KeepsOthers.setCell _ _ _).from _, ⟨⟨rfl, ⟨yk, yn, ya, C1, q1, d1, C2, q2, d2⟩, List.mem_append.2 (.inr (by simp)), hx⟩, bR1.set _⟩, hB1.setCell (p := ⟨w.heap.size + 1, 0, none⟩) (by simp) _⟩
    · rename_i hx
      have hx : ¬ yk = 11 := by simpa using hx
      exact ⟨KeepsFrom.refl _ _, Kc.refl _ _, ⟨fun z hz => (List.mem_append.1 hz).elim (hp z) (fun e => by simp at e; subst e; exact hx), bR1⟩, hB1⟩
  case done =>
    rintro D zs W hD hzs ⟨⟨hp, bR1⟩, hB1⟩ hK
    have cR := bR1.cell
    have fR := bR1.frozen
    have hnot : ¬ (11 : Int) ∈ t.kinds := by
      rw [← hzs, List.mem_map]
      rintro ⟨y, hy, e⟩
      exact hp y hy e
    gi_wp2
    have hK' := (KeepsOthers.setCell W ⟨w.heap.size + 1, 0, none⟩ (.bool false)).same D _ hK rfl
    refine ⟨by simp, .inl ⟨_, _, rfl, run_takeDeferred hK', ?_⟩⟩
    have hc5 := cell_kept (bR1.set (.bool false)).cell (grownBy_putObj' _ D (.deferred none)) (fun r e => by cases e; exact ⟨_, hK', rfl⟩)
    refine ⟨.bool false, ?_, by rw [decide_eq_false hnot], (hB1.setCell (p := ⟨w.heap.size + 1, 0, none⟩) (by simp) _).trans (belowK_b (w := w) (Nat.le_refl _) _ D _ _ (by omega) hK' rfl rfl)⟩
    simp [results, Tryd.f24, go_sem, hc5]
  case stop =>
    rintro D c pre W hD hpre ⟨⟨⟨rfl, y, hy, hyk⟩, bR1⟩, hB1⟩ hK
    have hin : (11 : Int) ∈ t.kinds := hpre.subset (List.mem_map.2 ⟨y, hy, hyk⟩)
    gi_wp2
    refine ⟨by simp, .inl ⟨_, _, rfl, run_takeDeferred hK, ?_⟩⟩
    have hc5 := cell_kept bR1.cell (grownBy_putObj' _ D (.deferred none)) (fun r e => by cases e; exact ⟨_, hK, rfl⟩)
    refine ⟨.bool true, ?_, by rw [decide_eq_true hin], hB1.trans (belowK_b (w := w) (Nat.le_refl _) W D _ _ (by omega) hK rfl rfl)⟩
    simp [results, Tryd.f24, go_sem, hc5]
/-- Self tells whether a member of the block itself stands in a term. -/
theorem self_any (t : Tm) (hfit : t.fit) (v : Value) (w : World) (hT : TmAt w w.heap.size t v) : Calls Tryd.prog 24 #[v] w (HasPost w (decide ((11 : Int) ∈ t.kinds))) := by
  obtain ⟨k, n, a, lv, kids⟩ := t
  have hT' := hT
  obtain ⟨Al, cl, Ak, ck, rfl, _⟩ := hT'.open
  exact callsIn_wide.1 ((self_in Fence.wide rfl 3 trivial trivial trivial trivial rfl (by omega) _ hfit ⟨k, n, a, Al, lv.length, cl, Ak, kids.length, ck⟩ w hT).mono fun e w' h => h)
end Go.Proofs.YtfgnnbpbbnnnhaaDoor
