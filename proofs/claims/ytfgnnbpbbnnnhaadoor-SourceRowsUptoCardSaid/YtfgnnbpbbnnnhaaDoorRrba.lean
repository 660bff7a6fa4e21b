/- Laws. -/
import Derived.Test.YtfgnnbpbbnnnhaaDoorRran
import Derived.Test.YtfgnnbpbbnnnhaaDoorRrao
import Derived.Deep.Upon
namespace Go.Proofs.YtfgnnbpbbnnnhaaDoor
open Go.RowKit Go.Maps
/-- a row's cells, all of them -/
structure DcL (w : World) (B : Nat) (A : Option Addr) (ds : List Dc) (L : List Value) : Prop where
  len : L.length = ds.length * 16
  one : ∀ u ∈ L, u.oneCell' = true
  at_ : ∀ (i : Nat) (d : Dc), ds[i]? = some d → ∃ cs, DcAt w B d cs ∧ ∀ j, j < 16 → L[i * 16 + j]? = cs[j]?
  src : 0 < ds.length → ∃ b o, A = some ⟨b, o, none⟩ ∧ b < B ∧ ∀ j u, L[j]? = some u → w.cell? ⟨b, o + j, none⟩ = some u
theorem dcs_list {w : World} {B : Nat} {A : Option Addr} {c : Nat} {ds : List Dc} (h : Dcs w B A c ds) : ∃ L, DcL w B A ds L := by
  by_cases hn : 0 < ds.length
  · obtain ⟨b, o, e, hb, hc⟩ := h.2 hn
    have hL : ∀ j, j < ds.length * 16 → ((List.range (ds.length * 16)).map fun j => (w.cell? ⟨b, o + j, none⟩).getD undef)[j]? = some ((w.cell? ⟨b, o + j, none⟩).getD undef) := fun j hj => by
      rw [List.getElem?_map, List.getElem?_range hj]
      rfl
    have hat : ∀ (i : Nat) (d : Dc), ds[i]? = some d → ∃ cs, DcAt w B d cs ∧ ∀ j, j < 16 → ((List.range (ds.length * 16)).map fun j => (w.cell? ⟨b, o + j, none⟩).getD undef)[i * 16 + j]? = cs[j]? ∧ w.cell? ⟨b, o + (i * 16 + j), none⟩ = cs[j]? := fun i d hd => by
      obtain ⟨cs, h1, h2⟩ := hc i d hd
      refine ⟨cs, h1, fun j hj => ?_⟩
      have hi := (List.getElem?_eq_some_iff.1 hd).1
      have h3 := h2 j hj
      rw [Nat.add_assoc] at h3
      refine ⟨?_, h3⟩
      rw [hL _ (by omega), h3, Array.getElem?_eq_getElem (by rw [h1.size]; exact hj)]
      rfl
    have hcell : ∀ j, j < ds.length * 16 → ∃ u, w.cell? ⟨b, o + j, none⟩ = some u ∧ u.oneCell' = true := fun j hj => by
      obtain ⟨d, hd⟩ : ∃ d, ds[j / 16]? = some d := ⟨_, List.getElem?_eq_getElem (by omega)⟩
      obtain ⟨cs, h1, h2⟩ := hat _ d hd
      have h3 := (h2 (j % 16) (by omega)).2
      rw [show j / 16 * 16 + j % 16 = j by omega] at h3
      have hlt : j % 16 < cs.size := by rw [h1.size]; omega
      rw [Array.getElem?_eq_getElem hlt] at h3
      exact ⟨_, h3, Array.all_eq_true_iff_forall_mem.1 h1.one _ (Array.getElem_mem hlt)⟩
    refine ⟨(List.range (ds.length * 16)).map fun j => (w.cell? ⟨b, o + j, none⟩).getD undef, ⟨by simp, fun u hu => ?_, fun i d hd => ?_, fun _ => ⟨b, o, e, hb, fun j u hu => ?_⟩⟩⟩
    · obtain ⟨j, hj, rfl⟩ := List.mem_map.1 hu
      obtain ⟨u, h1, h2⟩ := hcell j (List.mem_range.1 hj)
      rw [h1]
      exact h2
    · obtain ⟨cs, h1, h2⟩ := hat i d hd
      exact ⟨cs, h1, fun j hj => (h2 j hj).1⟩
    · have hj : j < ds.length * 16 := by have := (List.getElem?_eq_some_iff.1 hu).1; simpa using this
      obtain ⟨v, h1, _⟩ := hcell j hj
      rw [hL j hj, h1] at hu
      rw [h1]
      exact hu
  · have h0 : ds = [] := List.eq_nil_of_length_eq_zero (by omega)
    subst h0
    exact ⟨[], ⟨rfl, fun u hu => (by cases hu), fun i d hd => by simp at hd, fun hh => absurd hh hn⟩⟩
theorem DcL.below {w w' : World} {B B' : Nat} {A : Option Addr} {ds : List Dc} {L : List Value} (h : DcL w B A ds L) (hb : Below B w w') (hB : B ≤ B') : DcL w' B' A ds L :=
  ⟨h.len, h.one, fun i d hd => by obtain ⟨cs, h1, h2⟩ := h.at_ i d hd; exact ⟨cs, h1.below hb hB, h2⟩, fun hn => by obtain ⟨b, o, e, h1, h2⟩ := h.src hn; exact ⟨b, o, e, by omega, fun j u hu => (hb.cell (p := ⟨b, _, none⟩) h1).trans (h2 j u hu)⟩⟩
theorem infoDA : (Tryd.prog.info? 43).map (fun i => (i.zero, i.size, i.bytes)) = some (some (.agg zeroDc), 16, 256) := by kernel_rfl
theorem own_prefixD {w : World} {B : Nat} {e : TypeId} {s : Nat} {A : Option Addr} {m c n : Nat} {ys : List Value} (h : w.ownsRow B e s (.slice A m c) m ys) (hn : n ≤ m) : w.ownsRow B e s (.slice A n c) n (ys.take (n * s)) := by
  have hl := h.1
  have hns : n * s ≤ m * s := Nat.mul_le_mul_right _ hn
  refine ⟨by rw [List.length_take, hl]; omega, ?_⟩
  rcases h.2 with ⟨e1, e2⟩ | ⟨g, cap, cur, e1, q1, q2, q3, q4, q5, q6⟩
  · left
    injection e1 with e1 e3 e4
    subst e1 e4
    exact ⟨by rw [show n = 0 by omega], by omega⟩
  · right
    injection e1 with e1 e3 e4
    subst e1 e4
    refine ⟨g, _, cur, rfl, q1, q2, by omega, q4, q5, ?_⟩
    rw [← q6, List.take_take, Nat.min_eq_left hns]
theorem below_grownD {w w' : World} (h : Below w.heap.size w w') (r : Option Nat) : w.grownBy w' r := ⟨h.os, h.tape, h.output, h.size, fun k hk _ => h.block k hk⟩
theorem own_belowD {w w' : World} {B : Nat} {e : TypeId} {s : Nat} {v : Value} {n : Nat} {xs : List Value} (h : w.ownsRow B e s v n xs) (hb : Below w.heap.size w w') : w'.ownsRow B e s v n xs :=
  h.kept (below_grownD hb none) (by cases v.ownBlock <;> simp)
/-- what a row of declarations that is appended to leaves as it was: all but rows of declarations of the call's own; of these the first N, and the first N and M -/
structure Ap (base N M : Nat) (X Y : List Value) (w1 w2 : World) : Prop where
  size : w1.heap.size ≤ w2.heap.size
  far : ∀ b, b < w1.heap.size → (b < base ∨ ∀ cs fr, w1.heap[b]? ≠ some (.cells cs 43 fr)) → w2.heap[b]? = w1.heap[b]?
  nul : ∀ g : Nat, w1.heap[g]? = some (.cells #[] 43 (0, 0)) → w2.heap[g]? = some (.cells #[] 43 (0, 0))
  one : ∀ v, w1.ownsRow base 43 16 v N X → w2.ownsRow base 43 16 v N X
  two : ∀ v, w1.ownsRow base 43 16 v (N + M) (X ++ Y) → w2.ownsRow base 43 16 v (N + M) (X ++ Y)
theorem Ap.of {base N M : Nat} {X Y : List Value} {w1 w2 : World} (h : Below w1.heap.size w1 w2) : Ap base N M X Y w1 w2 :=
  ⟨h.size, fun b hb _ => h.block b hb, fun g hg => (h.block g (heap_some_lt hg)).trans hg, fun _ hv => own_belowD hv h, fun _ hv => own_belowD hv h⟩
theorem dsrc_of {w : World} {B : Nat} {A : Option Addr} {ds : List Dc} {L : List Value} {n c : Nat} (h : DcL w B A ds L) (hn : ds.length = n) : Src Tryd.prog 16 22 (.slice A n c) n L w := by
  by_cases h0 : 0 < ds.length
  · obtain ⟨b, o, rfl, hb, hc⟩ := h.src h0
    refine Src.ofSlice w Tryd.underlying22 ⟨b, o, none⟩ n c L (by rw [h.len, hn]) (fun j u hu => ?_) h.one
    have hadd : (⟨b, o, none⟩ : Addr).add j = ⟨b, o + j, none⟩ := by unfold Addr.add; split <;> simp_all
    rw [hadd]
    exact hc j u hu
  · have hn0 : n = 0 := by omega
    subst hn0
    have hL : L = [] := List.eq_nil_of_length_eq_zero (by rw [h.len]; omega)
    subst hL
    rcases A with _ | ad
    · exact Src.ofNil w Tryd.underlying22 c
    · exact Src.ofSlice w Tryd.underlying22 ad 0 c [] rfl (fun j u hu => by simp at hu) (fun u hu => by cases hu)
set_option maxRecDepth 100000 in
/-- something appended to a row that has no room -/
theorem app_grow {w : World} {base g n cap m c : Nat} {X Y : List Value} {b o : Nat} (ty : TypeId) (hX : w.ownsRow base 43 16 (.slice (some ⟨g, 0, none⟩) n cap) n X) (hl : Y.length = m * 16) (hY : ∀ j u, Y[j]? = some u → w.cell? ⟨b, o + j, none⟩ = some u) (hg : cap < n + m) (h6 : n + m ≤ 4194304) (hbase : base ≤ w.heap.size) :
    ∃ cap' w', (Builtin.append_ #[22, 22] ty #[.slice (some ⟨g, 0, none⟩) n cap, .slice (some ⟨b, o, none⟩) m c]).run Tryd.prog w = .ok (.slice (some ⟨w.heap.size, 0, none⟩) (n + m) cap') w' ∧ w'.ownsRow base 43 16 (.slice (some ⟨w.heap.size, 0, none⟩) (n + m) cap') (n + m) (X ++ Y) ∧ Below w.heap.size w w' := by
  obtain ⟨i0, hi, hz0, hz1, hz2⟩ := info_parts infoDA
  have hr := run_append_grow (P := Tryd.prog) w 22 ty 43 i0 _ Tryd.underlying22 hi hz0 ⟨g, 0, none⟩ n cap X (by rw [hX.1, hz1]) (hX.cells (g := g) rfl) ⟨b, o, none⟩ m c Y (by rw [hl, hz1]) (fun j u hu => by
    have hadd : (⟨b, o, none⟩ : Addr).add j = ⟨b, o + j, none⟩ := by unfold Addr.add; split <;> simp_all
    rw [hadd]
    exact hY j u hu) hg (by omega) (growslice_fits (by omega) (by rw [hz2]; omega))
  refine ⟨_, _, hr, ?_, ⟨rfl, rfl, rfl, by simp, fun k hk => Below.heap_alloc w.drew _ k hk⟩⟩
  have hge := grownCap_ge w (n + m) cap 43
  have hcm := grownCap_le_maxLen w (n + m) cap 43 (by unfold maxLen; omega)
  have hlen : (X ++ Y).length = (n + m) * 16 := by rw [List.length_append, hX.1, hl, Nat.add_mul]
  refine ⟨hlen, .inr ⟨w.heap.size, _, _, rfl, hbase, heap_alloc_new w.drew _, hge, hcm, ?_, ?_⟩⟩
  · have hzs : (Value.agg zeroDc).cells.size = 16 := rfl
    simp only [Array.size_append, List.size_toArray, size_zeroCells, hzs, hX.1, hl, ← Nat.add_mul]
    congr 1
    omega
  · simp only [Array.toList_append, List.append_assoc]
    rw [← List.append_assoc, ← hlen]
    exact List.take_left
set_option maxRecDepth 100000 in
/-- a row of declarations, appended to a row of the call's own -/
theorem app_two {w : World} {base g cap B N M c : Nat} {X Y : List Value} {A : Option Addr} {gs : List Dc} (ty : TypeId) (hX : w.ownsRow base 43 16 (.slice (some ⟨g, 0, none⟩) N cap) N X) (h : DcL w B A gs Y) (hn : gs.length = M) (h6 : N + M ≤ 4194304) (hbase : base ≤ w.heap.size) :
    ∃ g' cap' w', (Builtin.append_ #[22, 22] ty #[.slice (some ⟨g, 0, none⟩) N cap, .slice A M c]).run Tryd.prog w = .ok (.slice (some ⟨g', 0, none⟩) (N + M) cap') w' ∧ w'.ownsRow base 43 16 (.slice (some ⟨g', 0, none⟩) (N + M) cap') (N + M) (X ++ Y) ∧ Ap base N M X Y w w' ∧ Below base w w' := by
  obtain ⟨i0, hi, hz0, hz1, hz2⟩ := info_parts infoDA
  obtain ⟨g0, cap0, cur, hv, hbg, hgg, hnc, hcm, hcs, htake⟩ : ∃ g' cap' cur, (Value.slice (some ⟨g, 0, none⟩) N cap) = .slice (some ⟨g', 0, none⟩) N cap' ∧ base ≤ g' ∧ w.heap[g']? = some (.cells cur 43 (0, 0)) ∧ N ≤ cap' ∧ cap' ≤ maxLen ∧ cur.size = cap' * 16 ∧ cur.toList.take (N * 16) = X := by
    rcases hX.2 with ⟨e1, _⟩ | q
    · cases e1
    · exact q
  cases hv
  by_cases hp : 0 < gs.length
  · obtain ⟨b, o, rfl, hb, hc⟩ := h.src hp
    by_cases hroom : N + M ≤ cap
    · obtain ⟨w', hr, q1, q2⟩ := run_append_fits (P := Tryd.prog) w base 22 ty 43 i0 16 Tryd.underlying22 hi hz1 g N cap X hX ⟨b, o, none⟩ M c Y (by rw [h.len, hn]) (fun j u hu => by
        have hadd : (⟨b, o, none⟩ : Addr).add j = ⟨b, o + j, none⟩ := by unfold Addr.add; split <;> simp_all
        rw [hadd]
        exact hc j u hu) h.one hroom
      refine ⟨g, cap, w', hr, q1, ⟨q2.size, fun k hk hf => q2.block k hk (fun e => ?_), fun k hk => (q2.block k (heap_some_lt hk) (fun e => ?_)).trans hk, fun v hv => ?_, fun v hv => ?_⟩, ⟨q2.os, q2.tape, q2.output, q2.size, fun k hk => q2.block k (by omega) (fun e => by injection e with e; omega)⟩⟩
      · injection e with e
        subst e
        rcases hf with hf | hf
        · omega
        · exact hf _ _ hgg
      · injection e with e
        subst e
        rw [hgg] at hk
        injection hk with hk
        injection hk with hk _ _
        subst hk
        simp at hcs
        omega
      · by_cases hvb : v.ownBlock = some g
        · have hv' := hv
          rcases hv'.2 with ⟨rfl, _⟩ | ⟨g1, cap1, cur1, rfl, p1, p2, p3, p4, p5, p6⟩
          · cases hvb
          · injection hvb with hvb
            have hvb : g1 = g := hvb
            subst hvb
            rw [hgg] at p2
            injection p2 with p2
            injection p2 with p2 _ _
            subst p2
            obtain rfl : cap = cap1 := by omega
            have := own_prefixD (n := N) q1 (by omega)
            rwa [List.take_append_of_le_length (by rw [hX.1]; exact Nat.le_refl _), List.take_of_length_le (by rw [hX.1]; exact Nat.le_refl _)] at this
        · exact hv.kept q2 (by cases hb9 : v.ownBlock with | none => exact Or.inl rfl | some k => exact Or.inr (fun e => hvb (by rw [hb9]; exact e)))
      · by_cases hvb : v.ownBlock = some g
        · have hv' := hv
          rcases hv'.2 with ⟨rfl, _⟩ | ⟨g1, cap1, cur1, rfl, p1, p2, p3, p4, p5, p6⟩
          · cases hvb
          · injection hvb with hvb
            have hvb : g1 = g := hvb
            subst hvb
            rw [hgg] at p2
            injection p2 with p2
            injection p2 with p2 _ _
            subst p2
            obtain rfl : cap = cap1 := by omega
            exact q1
        · exact hv.kept q2 (by cases hb9 : v.ownBlock with | none => exact Or.inl rfl | some k => exact Or.inr (fun e => hvb (by rw [hb9]; exact e)))
    · obtain ⟨cap', w', h1, h2, h3⟩ := app_grow (c := c) (m := M) ty hX (by rw [h.len, hn]) hc (by omega) h6 hbase
      exact ⟨_, cap', w', h1, h2, Ap.of h3, h3.mono hbase⟩
  · have hn0 : M = 0 := by omega
    subst hn0
    have hL : Y = [] := List.eq_nil_of_length_eq_zero (by rw [h.len]; omega)
    subst hL
    have hs := dsrc_of (c := c) h hn
    have hr := run_append_nothing (P := Tryd.prog) w 22 22 ty 43 i0 Tryd.underlying22 hi (some ⟨g, 0, none⟩) N cap hnc _ (by rw [hz1]; exact hs)
    exact ⟨g, cap, w, hr, by rw [List.append_nil]; exact hX, Ap.of (Below.refl _ _), Below.refl _ _⟩
/-- an owned row of declarations reads as one -/
theorem dcs_own {W w : World} {B base n : Nat} {A : Option Addr} {c : Nat} {ds : List Dc} {L : List Value} (h : w.ownsRow base 43 16 (.slice A n c) n L) (hn : ds.length = n) (hat : ∀ (i : Nat) (d : Dc), ds[i]? = some d → ∃ cs, DcAt W B d cs ∧ ∀ j, j < 16 → L[i * 16 + j]? = cs[j]?) (hb : Below B W w) (hB : B ≤ w.heap.size) : Dcs w w.heap.size A c ds := by
  rcases h.2 with ⟨e, h0⟩ | ⟨g, cap, cur, e, h1, h2, h3, h4, h5, h6⟩
  · injection e with e1 _ e3
    subst e1 e3
    exact ⟨fun _ => rfl, fun hh => by omega⟩
  · injection e with e1 _ e3
    subst e1 e3
    refine ⟨fun hh => (by cases hh), fun _ => ⟨g, 0, rfl, heap_some_lt h2, fun i d hi => ?_⟩⟩
    obtain ⟨cs, q1, q2⟩ := hat i d hi
    refine ⟨cs, q1.below hb hB, fun j hj => ?_⟩
    have hil := (List.getElem?_eq_some_iff.1 hi).1
    rw [Nat.zero_add, cell_of_row w g (i * 16 + j) cur _ (0, 0) h2, ← q2 j hj, ← h6, List.getElem?_take, if_pos (by omega), Array.getElem?_toList]
/-- the operation that appends -/
theorem wpList_appR {P : Program} {ops : Array Oper} {rest : List Oper} {o : Oper} {a : Act} {w w' : World} {Q : Exit → Act → World → Prop} (hgd : o.guard = none) (s x : Operand) (t : TypeId)
    (ho : o.op = .call { callee := .builtin .append, args := #[s, x], argTypes := #[t, t] }) {v u v' : Value} (hs : a.eval s = v) (hx : a.eval x = u)
    (hr : (Builtin.append_ #[t, t] o.type #[v, u]).run P w = .ok v' w') (h : wpList P ops Q rest (a.put o.dst v') w') : wpList P ops Q (o :: rest) a w := by
  refine wpList_plain hgd fun K hK => ?_
  unfold Oper.wp execOp
  simp only [ho, resolve, invoke, builtin, Sem.run_bind, Sem.run_pure, Result.andThen_ok, List.map_toArray, List.map_cons, List.map_nil, hs, hx, hr]
  exact hK _ _ h
end Go.Proofs.YtfgnnbpbbnnnhaaDoor
