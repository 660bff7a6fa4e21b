/- What level's Num and Var answer, and gather by the plain normal form; of numbers from 0 to 2^20. -/
import Derived.Test.YtldalfikpklfdaaGreatLvNf
namespace Go.Proofs.YtldalfikpklfdaaGreat
open Go.RowKit Go.Maps

def LvlPost (w : World) (qs : List (Int × Int)) (e : Ending) (w' : World) : Prop :=
  ∃ v, e = .returned (.agg #[v]) ∧ w'.ownsRow w.heap.size 47 2 v qs.length (cells qs) ∧ Below w.heap.size w w'

theorem gather_nf (A : Option Addr) (ps : List (Int × Int)) (c : Nat) (w : World) (hm : Few ps.length) (h : Lev w w.heap.size A ps) (hc : A = none → c = 0) (hok : ∀ p ∈ ps, okPart p) :
    Calls Tryz.prog 29 #[.slice A ps.length c] w (LvlPost w (nf ps)) :=
  (gather_ok A ps c w hm h hc hok).mono fun _ _ ⟨v, _, he, hq, hrow, hb⟩ => by
    obtain rfl := level_nf (fun p hp => (hok p hp).1) hq
    exact ⟨v, he, hrow, hb⟩

/-- What a value is, reckoned. -/
def valS (ps : List (Int × Int)) (ns : List Int) : Int := (nf ps).foldl (fun x p => max x (numS ns p.1 + p.2)) 0
theorem fold_max (ns : List Int) : ∀ (l : List (Int × Int)) (x : Int), (∀ p ∈ l, numS ns p.1 + p.2 ≤ l.foldl (fun x p => max x (numS ns p.1 + p.2)) x) ∧ x ≤ l.foldl (fun x p => max x (numS ns p.1 + p.2)) x ∧
    (l.foldl (fun x p => max x (numS ns p.1 + p.2)) x = x ∨ ∃ p ∈ l, l.foldl (fun x p => max x (numS ns p.1 + p.2)) x = numS ns p.1 + p.2)
  | [], x => by simp
  | q :: l, x => by
    obtain ⟨h1, h2, h3⟩ := fold_max ns l (max x (numS ns q.1 + q.2))
    simp only [List.foldl_cons]
    refine ⟨fun p hp => ?_, by omega, ?_⟩
    · rw [List.mem_cons] at hp
      rcases hp with rfl | hp
      · omega
      · exact h1 p hp
    · rcases h3 with h3 | ⟨p, hp, h3⟩
      · by_cases e : x ≤ numS ns q.1 + q.2
        · exact Or.inr ⟨q, by simp, by omega⟩
        · exact Or.inl (by omega)
      · exact Or.inr ⟨p, by simp [hp], h3⟩
theorem valS_spec {ps : List (Int × Int)} {ns : List Int} (h0 : ∀ p ∈ ps, 0 ≤ p.1) : IsVal (mapOf ps) ns (valS ps ns) := by
  obtain ⟨h1, h2, h3⟩ := fold_max ns (nf ps) 0
  refine ⟨h2, fun k v hk => h1 (k, v) (((nf_level h0).2 (k, v)).2 hk), h3.imp id (fun ⟨p, hp, h⟩ => ⟨p.1, p.2, ((nf_level h0).2 p).1 hp, h⟩)⟩
theorem val_uniq {m : Int → Option Int} {ns : List Int} {x y : Int} (hx : IsVal m ns x) (hy : IsVal m ns y) : x = y := by
  obtain ⟨x0, x1, x2⟩ := hx
  obtain ⟨y0, y1, y2⟩ := hy
  rcases x2 with rfl | ⟨k, v, hk, rfl⟩
  · rcases y2 with rfl | ⟨j, u, hj, rfl⟩
    · rfl
    · have := x1 j u hj; omega
  · have h1 := y1 k v hk
    rcases y2 with rfl | ⟨j, u, hj, rfl⟩
    · omega
    · have := x1 j u hj; omega

def NumPost (w : World) (x : Int) (e : Ending) (w' : World) : Prop := e = .returned (.int .i64 x) ∧ Below w.heap.size w w'
theorem value_is (A A' : Option Addr) (ps : List (Int × Int)) (ns : List Int) (c c' : Nat) (w : World) (hmp : Few ps.length) (hmn : ns.length ≤ maxLen) (ha : Lev w w.heap.size A ps) (hn : Ints w w.heap.size A' ns) (hca : A = none → c = 0) (hoa : ∀ p ∈ ps, okPart p) :
    Calls Tryz.prog 19 #[.agg #[.slice A ps.length c], .slice A' ns.length c'] w (NumPost w (valS ps ns)) :=
  (value_any A A' ps ns c c' w hmp hmn ha hn hca hoa).mono fun _ _ ⟨x, he, hx, hb⟩ => by
    obtain rfl := val_uniq hx (valS_spec (fun p hp => (hoa p hp).1))
    exact ⟨he, hb⟩

set_option maxRecDepth 100000 in
set_option maxHeartbeats 1000000 in
theorem num_any (n : Int) (w : World) (hn : 0 ≤ n ∧ n ≤ 1048576) :
    Calls Tryz.prog 24 #[.int .i64 n] w (LvlPost w (nf [(0, n)])) := by
  have hok : ∀ p ∈ [((0, n) : Int × Int)], okPart p := fun p hp => by
    simp at hp; subst hp; unfold okPart; simp only; omega
  obtain ⟨x1, x2, x3⟩ := two_allocs w (.cells #[.slice none 0 0] 24) (.cells #[.int .i64 0, .int .i64 n] 47)
  have hb0 : Below w.heap.size w ((w.alloc (.cells #[.slice none 0 0] 24)).alloc (.cells #[.int .i64 0, .int .i64 n] 47)) := ((Below.refl _ _).alloc (Nat.le_refl _) _).alloc (by simp) _
  have hl : Lev ((w.alloc (.cells #[.slice none 0 0] 24)).alloc (.cells #[.int .i64 0, .int .i64 n] 47)) ((w.alloc (.cells #[.slice none 0 0] 24)).alloc (.cells #[.int .i64 0, .int .i64 n] 47)).heap.size (some ⟨w.heap.size + 1, 0, none⟩) [(0, n)] := fun _ =>
    ⟨_, _, rfl, by simp, fun i hi => by
      obtain rfl : i = 0 := by simpa using hi
      exact ⟨cell_of_row _ _ 0 _ _ (0, 0) x2, cell_of_row _ _ 1 _ _ (0, 0) x2⟩⟩
  have HG := Lib.hid (gather_nf (some ⟨w.heap.size + 1, 0, none⟩) [(0, n)] 1 _ (by unfold Few; simp) hl (fun e => by cases e) hok)
  have X1 := Lib.hid x1
  have HB := Lib.hid hb0
  clear hok x1 x2 x3 hb0 hl
  go_enter Tryz.func24, Tryz.ntmps24
  go_wp2_with (fail)
  refine HG.out.mono ?_
  rintro e w1 ⟨v, rfl, hrow, hb1⟩
  obtain ⟨A2, n2, m2, rfl⟩ := own_slice hrow
  have hr := (hb1.block w.heap.size (by simp; omega)).trans X1.out
  have f5 := cell_of_one hr
  have f6 := free_of_one hr
  have HF : Hid (LvlPost w (nf [(0, n)]) (.returned (.agg #[.slice A2 n2 m2])) (w1.setCell ⟨w.heap.size, 0, none⟩ (.slice A2 n2 m2))) :=
    ⟨_, rfl, own_base (ownsRow_setCell_below hrow (by show w.heap.size < ((w.alloc _).alloc _).heap.size; simp; omega) _) (by simp; omega), (HB.out.trans (hb1.mono (by simp; omega))).setCell (Nat.le_refl _) _⟩
  clear hr hrow hb1
  go_wp2
  exact bodyPost_ret (v := .agg #[.slice A2 n2 m2]) (by simp [results, Tryz.results24, go_sem, f5]) rfl HF.out

set_option maxRecDepth 100000 in
set_option maxHeartbeats 1000000 in
theorem var_any (n : Int) (w : World) (hn : 0 ≤ n ∧ n ≤ 1048576) :
    Calls Tryz.prog 23 #[.int .i64 n] w (LvlPost w (nf [(n, 0)])) := by
  have hok : ∀ p ∈ [((n, 0) : Int × Int)], okPart p := fun p hp => by
    simp at hp; subst hp; unfold okPart; simp only; omega
  obtain ⟨x1, x2, x3⟩ := two_allocs w (.cells #[.slice none 0 0] 24) (.cells #[.int .i64 n, .int .i64 0] 47)
  have hb0 : Below w.heap.size w ((w.alloc (.cells #[.slice none 0 0] 24)).alloc (.cells #[.int .i64 n, .int .i64 0] 47)) := ((Below.refl _ _).alloc (Nat.le_refl _) _).alloc (by simp) _
  have hl : Lev ((w.alloc (.cells #[.slice none 0 0] 24)).alloc (.cells #[.int .i64 n, .int .i64 0] 47)) ((w.alloc (.cells #[.slice none 0 0] 24)).alloc (.cells #[.int .i64 n, .int .i64 0] 47)).heap.size (some ⟨w.heap.size + 1, 0, none⟩) [(n, 0)] := fun _ =>
    ⟨_, _, rfl, by simp, fun i hi => by
      obtain rfl : i = 0 := by simpa using hi
      exact ⟨cell_of_row _ _ 0 _ _ (0, 0) x2, cell_of_row _ _ 1 _ _ (0, 0) x2⟩⟩
  have HG := Lib.hid (gather_nf (some ⟨w.heap.size + 1, 0, none⟩) [(n, 0)] 1 _ (by unfold Few; simp) hl (fun e => by cases e) hok)
  have X1 := Lib.hid x1
  have HB := Lib.hid hb0
  clear hok x1 x2 x3 hb0 hl
  go_enter Tryz.func23, Tryz.ntmps23
  go_wp2_with (fail)
  refine HG.out.mono ?_
  rintro e w1 ⟨v, rfl, hrow, hb1⟩
  obtain ⟨A2, n2, m2, rfl⟩ := own_slice hrow
  have hr := (hb1.block w.heap.size (by simp; omega)).trans X1.out
  have f5 := cell_of_one hr
  have f6 := free_of_one hr
  have HF : Hid (LvlPost w (nf [(n, 0)]) (.returned (.agg #[.slice A2 n2 m2])) (w1.setCell ⟨w.heap.size, 0, none⟩ (.slice A2 n2 m2))) :=
    ⟨_, rfl, own_base (ownsRow_setCell_below hrow (by show w.heap.size < ((w.alloc _).alloc _).heap.size; simp; omega) _) (by simp; omega), (HB.out.trans (hb1.mono (by simp; omega))).setCell (Nat.le_refl _) _⟩
  clear hr hrow hb1
  go_wp2
  exact bodyPost_ret (v := .agg #[.slice A2 n2 m2]) (by simp [results, Tryz.results23, go_sem, f5]) rfl HF.out

end Go.Proofs.YtldalfikpklfdaaGreat
