/- What the law's own loops ask: rows of none, terms that are small, putting in as the document says it. -/
import Derived.Test.YtaoglkkdhdfioaaGreatDoorEvWk
import Derived.Test.YtaoglkkdhdfioaaGreatDoorTeOne
import Derived.Test.YtaoglkkdhdfioaaGreatDoorTeSees
import Derived.KernelRfl
import Derived.Test.YtaoglkkdhdfioaaGreatDoorProg
namespace Go.Proofs.YtaoglkkdhdfioaaGreatDoor
open Go Go.Proofs
set_option maxRecDepth 100000
set_option maxHeartbeats 4000000
attribute [local go_sem] AH.seals AH.adds news List.nil_append List.cons_append AF.put AF.start Slots.set Slots.ins zipA AH.zero AH.new AH.put AH.sub ofV AV.cells List.length AF.keep AH.cut List.filter_cons List.filter_nil List.contains_cons List.contains_nil Nat.reduceBEq Bool.or_false Bool.or_true Bool.true_or Bool.false_or decide_true decide_false Bool.not_false Bool.and_true Bool.true_and Bool.and_self List.append_nil List.getElem_toArray List.getElem_cons_zero List.getElem_cons_succ Nat.reduceLT Nat.reduceAdd Nat.reduceSub Nat.reduceEqDiff andThen atEnd rounds Tryz.ntmps25 Tryz.ntmps28 AH.only List.length_append List.filter
theorem vars_neg (n from' : Int) (hn : n ≤ 0) : Tells Tryz.prog (.func 25) [eInt n, eInt from'] [] (.vals 5 []) := by
  refine tells_of (fun b hb => ?_) (pure_tms 5 []) ?_
  · simp at hb; rcases hb with rfl | rfl <;> exact .raw _
  refine gives_enter Tryz.func25 rfl rfl ?_
  repeat' first
    | refine wk ?_
    | refine wa ?_
    | (refine goesL_b (by rfl) (by rfl) fun b hb => ?_; cases b <;> refine sm ?_)
    | (refine goesA_b (by rfl) (by rfl) fun b hb => ?_; cases b <;> refine sm ?_)
  refine goes_loop (fun m f h => f = ⟨⟨23, [(0, eInt n), (1, eInt from'), (4, .raw (.slice none 0 0)), (5, .raw (.slice none 0 0)), (7, eInt n), (8, eInt 0)]⟩, [], none⟩ ∧ h = ⟨0, [], []⟩) ?_ 0 _ _ ⟨rfl, rfl⟩
  rintro m f h ⟨rfl, rfl⟩
  repeat' first
    | refine wk ?_
    | refine wa ?_
    | (refine goesL_b (by rfl) (by rfl) fun b hb => ?_; cases b <;> refine sm ?_)
    | (refine goesA_b (by rfl) (by rfl) fun b hb => ?_; cases b <;> refine sm ?_)
  · exact ⟨rfl, _, rfl, _, [], [], rfl, .none .nil, fun p hp => nomatch hp⟩
  · exact absurd (of_decide_eq_true hb) (by omega)
theorem own_neg (n : Int) (hn : n ≤ 0) : Tells Tryz.prog (.func 28) [eInt n] [] (.vals 1 []) := by
  refine tells_of (fun b hb => ?_) (pure_lvs 1 []) ?_
  · simp at hb; subst hb; exact .raw _
  refine gives_enter Tryz.func28 rfl rfl ?_
  repeat' first
    | refine wk ?_
    | refine wa ?_
    | (refine goesL_b (by rfl) (by rfl) fun b hb => ?_; cases b <;> refine sm ?_)
    | (refine goesA_b (by rfl) (by rfl) fun b hb => ?_; cases b <;> refine sm ?_)
  refine goes_loop (fun m f h => f = ⟨⟨17, [(0, eInt n), (2, .raw (.slice none 0 0)), (3, .raw (.slice none 0 0)), (5, eInt n), (6, eInt 0)]⟩, [], none⟩ ∧ h = ⟨0, [], []⟩) ?_ 0 _ _ ⟨rfl, rfl⟩
  rintro m f h ⟨rfl, rfl⟩
  repeat' first
    | refine wk ?_
    | refine wa ?_
    | (refine goesL_b (by rfl) (by rfl) fun b hb => ?_; cases b <;> refine sm ?_)
    | (refine goesA_b (by rfl) (by rfl) fun b hb => ?_; cases b <;> refine sm ?_)
  · exact ⟨rfl, _, rfl, _, [], [], rfl, .none .nil, fun p hp => nomatch hp⟩
  · exact absurd (of_decide_eq_true hb) (by omega)
/-- without levels, of words, of no more than so many -/
def Fine (N : Nat) (t : Tm) : Prop := t.bare ∧ t.fit ∧ t.count ≤ N
theorem Fine.good {N : Nat} {t : Tm} (h : Fine N t) (hN : N ≤ 1000) : Good t := ⟨h.1, h.2.1, Nat.le_trans h.2.2 hN⟩
theorem Fine.le {N M : Nat} {t : Tm} (h : Fine N t) (hN : N ≤ M) : Fine M t := ⟨h.1, h.2.1, Nat.le_trans h.2.2 hN⟩
theorem fine_mk {k n : Int} {kids : List Tm} {N : Nat} (hn : Rng n) (hk : ∀ x ∈ kids, x.bare ∧ x.fit) (hl : kids.length ≤ 1048576) (hc : 1 + Tm.countL kids ≤ N) : Fine N (.mk k n 0 [] kids) :=
  ⟨(Tm.bare_mk ..).2 ⟨rfl, (Tm.bareL_iff _).2 fun x hx => (hk x hx).1⟩, (Tm.fit_mk ..).2 ⟨hn, slim_nil, hl, (Tm.fitL_iff _).2 fun x hx => (hk x hx).2⟩, by rw [Tm.count_mk]; simp only [lensSum]; omega⟩
theorem fine_var {n : Int} (h : Rng n) : Fine 1 (varTm n) := fine_mk h (by simp) (by simp) (by simp [Tm.countL])
theorem fine_nil {k : Int} : Fine 1 (.mk k 0 0 [] []) := fine_mk rng_zero (by simp) (by simp) (by simp [Tm.countL])
theorem fine_one {k : Int} {N : Nat} {x : Tm} (hx : Fine N x) : Fine (N + 1) (.mk k 0 0 [] [x]) := fine_mk rng_zero (by simp; exact ⟨hx.1, hx.2.1⟩) (by simp) (by have := hx.2.2; simp only [Tm.countL]; omega)
theorem fine_two {k : Int} {N M : Nat} {x y : Tm} (hx : Fine N x) (hy : Fine M y) : Fine (N + M + 1) (.mk k 0 0 [] [x, y]) := fine_mk rng_zero (by simp; exact ⟨⟨hx.1, hx.2.1⟩, hy.1, hy.2.1⟩) (by simp) (by have := hx.2.2; have := hy.2.2; simp only [Tm.countL]; omega)
theorem fine_three {k : Int} {N M L : Nat} {x y z : Tm} (hx : Fine N x) (hy : Fine M y) (hz : Fine L z) : Fine (N + M + L + 1) (.mk k 0 0 [] [x, y, z]) := fine_mk rng_zero (by simp; exact ⟨⟨hx.1, hx.2.1⟩, ⟨hy.1, hy.2.1⟩, hz.1, hz.2.1⟩) (by simp) (by have := hx.2.2; have := hy.2.2; have := hz.2.2; simp only [Tm.countL]; omega)
/-- the law's term of round n, and its row -/
def tT : Nat → Tm
  | 0 => varTm 1
  | n + 1 => .mk 4 0 0 [] [varTm (n : Int), tT n]
def eT (n : Nat) : Tm := .mk 5 0 0 [] [varTm (n : Int), varTm (IntKind.i64.wrap (2 * (n : Int)))]
def rowT (n : Nat) : List Tm := (List.range n).map eT
theorem rowT_length (n : Nat) : (rowT n).length = n := by simp [rowT]
theorem rowT_succ (n : Nat) : rowT (n + 1) = rowT n ++ [eT n] := by simp [rowT, List.range_succ]
theorem rng_small {n : Nat} (h : n ≤ 1048576) : Rng (n : Int) := by unfold Rng; omega
theorem fine_tT : ∀ n : Nat, n ≤ 1048576 → Fine (2 * n + 1) (tT n)
  | 0, _ => fine_var (by unfold Rng; omega)
  | n + 1, h => by
    have := fine_two (k := 4) (fine_var (rng_small (n := n) (by omega))) (fine_tT n (by omega))
    rw [show 1 + (2 * n + 1) + 1 = 2 * (n + 1) + 1 by omega] at this
    exact this
theorem fine_eT (n : Nat) (h : n ≤ 1048576) : Fine 3 (eT n) := fine_two (fine_var (rng_small h)) (fine_var (wrap_in _))
theorem fine_row {n : Nat} (h : n ≤ 7) : ∀ x ∈ rowT n, Fine 3 x := fun x hx => by
  unfold rowT at hx
  obtain ⟨i, hi, rfl⟩ := List.mem_map.1 hx
  have := List.mem_range.1 hi
  exact fine_eT i (by omega)
theorem fine_sizeL : ∀ row : List Tm, (∀ x ∈ row, Fine 3 x) → Tm.sizeL row ≤ 3 * row.length
  | [], _ => by simp [Tm.sizeL]
  | x :: row, h => by
    have h1 := (h x (List.mem_cons_self ..)).2.2
    have h2 := size_count x
    have h3 := fine_sizeL row fun y hy => h y (List.mem_cons_of_mem _ hy)
    simp only [Tm.sizeL, List.length_cons]
    omega
theorem aboveT_bare (k : Int) (b : Tm) (hb : b.bare) : ∀ row : List Tm, (∀ x ∈ row, x.bare) → (aboveT k b row).bare
  | [], _ => hb
  | x :: row, h => (Tm.bare_mk ..).2 ⟨rfl, (Tm.bareL_iff _).2 fun y hy => by
    simp at hy
    rcases hy with rfl | rfl
    · exact h _ (List.mem_cons_self ..)
    · exact aboveT_bare k b hb row fun z hz => h z (List.mem_cons_of_mem _ hz)⟩
/-- putting two in: told by the program, by the document, and the same -/
theorem puts_two (row by' : List Tm) (hr : ∀ x ∈ row, Fine 3 x) (hl : row.length ≤ 7) (hby : ∀ b ∈ by', Fine 3 b) (hbl : by'.length ≤ 7) : ∃ W : List Tm, Tells Tryz.prog (.func 22) [.vals 5 (row.map eTm), .vals 5 (by'.map eTm)] [] (.vals 5 (W.map eTm)) ∧
    Tells Tryz.prog (.func 24) [.vals 5 (row.map eTm), .vals 5 (by'.map eTm)] [] (.vals 5 (W.map eTm)) ∧ Tells Tryz.prog (.func 23) [.vals 5 (W.map eTm), .vals 5 (W.map eTm)] [] (eBool true) := by
  have hz : zeroTm.bare := (Tm.bare_mk ..).2 ⟨rfl, by rw [Tm.bareL]; trivial⟩
  have hzf : zeroTm.fit := (Tm.fit_mk ..).2 ⟨rng_zero, slim_nil, by simp, by rw [Tm.fitL]; trivial⟩
  have hs := fine_sizeL row hr
  have hfl : Tm.fitL row := (Tm.fitL_iff row).2 fun x hx => (hr x hx).2.1
  have has : (aboveT 4 zeroTm row).size ≤ 100 := by rw [aboveT_size, show zeroTm.size = 1 from rfl]; omega
  have haf := aboveT_fit 4 zeroTm hzf row hfl
  have hb3 : ∀ b ∈ by', b.fit ∧ b.size ≤ 3 ∧ b.count ≤ 3 := fun b hb => ⟨(hby b hb).2.1, Nat.le_trans (size_count b) (hby b hb).2.2, (hby b hb).2.2⟩
  have hpb := put_bounds by' 3 3 (by omega) (by omega) hb3 (by omega)
  have h1 := puts_tells row by' (by omega) hfl (by omega) (fun b hb => ⟨(hb3 b hb).1, by have := (hb3 b hb).2.1; omega⟩) (by have := (hpb (aboveT 4 zeroTm row) 0).1; omega) ((hpb _ 0).2.2 haf)
  rw [puts_open] at h1
  have h2 := rputs_tells row by' (fun x hx => ⟨(hr x hx).1, (hr x hx).2.1, by have := size_count x; have := (hr x hx).2.2; omega⟩) (by omega) (fun b hb => ⟨(hby b hb).1, (hby b hb).2.1, by have := (hb3 b hb).2.1; omega⟩) (by omega) (by omega) (aboveT_bare 4 zeroTm hz row fun x hx => (hr x hx).1) haf
  have h3 := rows_tells (walksAt (putT by') 0 row) (walksAt (putT by') 0 row) (fun u hu => by
    obtain ⟨t, ht, j, rfl⟩ := walksAt_mem hu
    have := (hpb t j).2.1
    have := (hr t ht).2.2
    omega) (by rw [walksAt_length]; unfold small; omega)
  rw [rows_refl] at h3
  exact ⟨_, h1, h2, h3⟩
theorem vars_two (n : Nat) (k : Int) (hn : n ≤ 7) (hk : -1 ≤ k ∧ k ≤ 100) : ∃ W : List Tm, Tells Tryz.prog (.func 25) [eInt (n : Int), eInt k] [] (.vals 5 (W.map eTm)) ∧ Tells Tryz.prog (.func 26) [eInt (n : Int), eInt k] [] (.vals 5 (W.map eTm)) ∧
    Tells Tryz.prog (.func 23) [.vals 5 (W.map eTm), .vals 5 (W.map eTm)] [] (eBool true) := by
  have h3 := rows_tells (varsT n k) (varsT n k) (fun u hu => by
    unfold varsT at hu
    obtain ⟨i, _, rfl⟩ := List.mem_map.1 hu
    exact Nat.le_of_ble_eq_true rfl) (by unfold small varsT; simp; omega)
  rw [rows_refl] at h3
  refine ⟨varsT n k, vars_tells n k (by omega), ?_, h3⟩
  rcases Nat.eq_zero_or_pos n with rfl | hp
  · exact rvars_none 0 k (by omega)
  · exact rvars_tells n k hp (by omega) (by omega)
end Go.Proofs.YtaoglkkdhdfioaaGreatDoor
