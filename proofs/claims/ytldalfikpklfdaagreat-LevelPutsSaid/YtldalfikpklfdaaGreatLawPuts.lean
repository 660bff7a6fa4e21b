/- For every input LevelPuts returns true, and its arguments read as before: of any level, any row of levels and any row of numbers. -/
import Derived.Test.YtldalfikpklfdaaGreatLvApartN
import Derived.Test.YtldalfikpklfdaaGreatLvLentLs
import Derived.Deep.OwnRows
import Derived.Deep.Cut
import Derived.Deep.CutRange
import Derived.Test.YtldalfikpklfdaaGreatLvOpenL
import Derived.SizedLaws
namespace Go.Proofs.YtldalfikpklfdaaGreat
open Go.RowKit Go.Maps

/-- A row of levels in memory, its cells' values. -/
def LevRow (w : World) (ls : List (List (Int × Int))) (vs : List Value) : Prop :=
  vs.length = ls.length ∧ ∀ i, i < ls.length → ∃ Ai ci, vs[i]? = some (.slice Ai (ls.getD i []).length ci) ∧ Lev w w.heap.size Ai (ls.getD i []) ∧ (Ai = none → ci = 0) ∧ (ls.getD i []).length ≤ 4611686018427387904
theorem LevRow.below {w w' : World} {ls : List (List (Int × Int))} {vs : List Value} (h : LevRow w ls vs) (hb : Below w.heap.size w w') : LevRow w' ls vs :=
  ⟨h.1, fun i hi => by
    obtain ⟨Ai, ci, h1, h2, h3⟩ := h.2 i hi
    exact ⟨Ai, ci, h1, (h2.below hb).more hb.size, h3⟩⟩
theorem levs_row {w : World} {A : Option Addr} {ls : List (List (Int × Int))} (h : Levs w w.heap.size A ls) : ∃ vs, LevRow w ls vs ∧ (0 < ls.length → ∃ b o, A = some ⟨b, o, none⟩ ∧ b < w.heap.size ∧ ∀ j u, vs[j]? = some u → w.cell? ⟨b, o + j, none⟩ = some u) := by
  rcases Nat.eq_zero_or_pos ls.length with h0 | h0
  · exact ⟨[], ⟨by simp [h0], fun i hi => by omega⟩, fun h => by omega⟩
  · obtain ⟨b, o, e, hb, hc⟩ := h h0
    have each : ∀ i, i < ls.length → ∃ v, w.cell? ⟨b, o + i, none⟩ = some v ∧ ∃ Ai ci, v = .slice Ai (ls.getD i []).length ci ∧ Lev w w.heap.size Ai (ls.getD i []) ∧ (Ai = none → ci = 0) ∧ (ls.getD i []).length ≤ 4611686018427387904 := fun i hi => by
      obtain ⟨Ai, ci, h1, h2⟩ := hc i hi
      exact ⟨_, h1, Ai, ci, rfl, h2⟩
    obtain ⟨q, hq⟩ := Deep.choose_lt each
    refine ⟨(List.range ls.length).map q, ⟨by simp, fun i hi => ?_⟩, fun _ => ⟨b, o, e, hb, fun j u hu => ?_⟩⟩
    · obtain ⟨_, Ai, ci, h1, h2⟩ := hq i hi
      exact ⟨Ai, ci, by simp [hi, h1], h2⟩
    · have hj : j < ls.length := by
        have := (List.getElem?_eq_some_iff.1 hu).1
        simpa using this
      have e2 : ((List.range ls.length).map q)[j]? = some (q j) := by simp [hj]
      rw [e2] at hu
      injection hu with hu
      rw [← hu]
      exact (hq j hj).1
theorem row_levs {w : World} {B g n cap : Nat} {t : TypeId} {ls : List (List (Int × Int))} {vs : List Value} (h : w.ownsRow B t 1 (.slice (some ⟨g, 0, none⟩) n cap) n vs) (hr : LevRow w ls vs) (hg : g < w.heap.size) : Levs w w.heap.size (some ⟨g, 0, none⟩) ls := fun _ =>
  ⟨g, 0, rfl, hg, fun i hi => by
    obtain ⟨Ai, ci, h1, h2⟩ := hr.2 i hi
    refine ⟨Ai, ci, ?_, h2⟩
    rw [Nat.zero_add, h.cellAt i ?_]
    · exact h1
    · have h3 := h.1
      have h4 := hr.1
      omega⟩
theorem row_app {w : World} {ls ms : List (List (Int × Int))} {vs us : List Value} (h : LevRow w ls vs) (k : LevRow w ms us) : LevRow w (ls ++ ms) (vs ++ us) := by
  refine ⟨by rw [List.length_append, List.length_append, h.1, k.1], fun i hi => ?_⟩
  rw [List.length_append] at hi
  by_cases hl : i < ls.length
  · obtain ⟨Ai, ci, h1, h2⟩ := h.2 i hl
    have e : (ls ++ ms).getD i [] = ls.getD i [] := by rw [List.getD_eq_getElem?_getD, List.getElem?_append_left hl, ← List.getD_eq_getElem?_getD]
    rw [e]
    exact ⟨Ai, ci, by rw [List.getElem?_append_left (by rw [h.1]; exact hl)]; exact h1, h2⟩
  · obtain ⟨Ai, ci, h1, h2⟩ := k.2 (i - ls.length) (by omega)
    have e : (ls ++ ms).getD i [] = ms.getD (i - ls.length) [] := by rw [List.getD_eq_getElem?_getD, List.getElem?_append_right (by omega), ← List.getD_eq_getElem?_getD]
    rw [e]
    exact ⟨Ai, ci, by rw [List.getElem?_append_right (by rw [h.1]; omega), h.1]; exact h1, h2⟩
theorem row_one {w : World} {A : Option Addr} {ps : List (Int × Int)} {c : Nat} (h : Lev w w.heap.size A ps) (hc : A = none → c = 0) (hn : ps.length ≤ 4611686018427387904) : LevRow w [ps] [.slice A ps.length c] :=
  ⟨rfl, fun i hi => by
    obtain rfl : i = 0 := by simpa using hi
    exact ⟨A, c, rfl, h, hc, hn⟩⟩

/-- x is a row of four rows of one level, each made from B on -/
def Four (B : Nat) (u0 u1 u2 u3 : Value) (x : Value) (w : World) : Prop := ∃ g g0 g1 g2 g3, x = .slice (some ⟨g, 0, none⟩) 4 4 ∧ w.heap[g]? = some (.cells #[.slice (some ⟨g0, 0, none⟩) 1 1, .slice (some ⟨g1, 0, none⟩) 1 1, .slice (some ⟨g2, 0, none⟩) 1 1, .slice (some ⟨g3, 0, none⟩) 1 1] 31 (0, 0)) ∧
  (B ≤ g0 ∧ B ≤ g1 ∧ B ≤ g2 ∧ B ≤ g3) ∧ w.heap[g0]? = some (.cells #[u0] 24 (0, 0)) ∧ w.heap[g1]? = some (.cells #[u1] 24 (0, 0)) ∧ w.heap[g2]? = some (.cells #[u2] 24 (0, 0)) ∧ w.heap[g3]? = some (.cells #[u3] 24 (0, 0)) ∧ (g0 ≠ g1 ∧ g0 ≠ g2 ∧ g0 ≠ g3) ∧ (g1 ≠ g2 ∧ g1 ≠ g3) ∧ g2 ≠ g3
theorem Four.mono {B : Nat} {u0 u1 u2 u3 : Value} {x : Value} {w w' : World} (h : Four B u0 u1 u2 u3 x w) (hR : Below w.heap.size w w') : Four B u0 u1 u2 u3 x w' := by
  obtain ⟨g, g0, g1, g2, g3, h1, h2, h3, h4, h5, h6, h7, h8⟩ := h
  exact ⟨g, g0, g1, g2, g3, h1, (hR.block g (heap_some_lt h2)).trans h2, h3, (hR.block g0 (heap_some_lt h4)).trans h4, (hR.block g1 (heap_some_lt h5)).trans h5, (hR.block g2 (heap_some_lt h6)).trans h6, (hR.block g3 (heap_some_lt h7)).trans h7, h8⟩
set_option maxRecDepth 100000 in
theorem slice_four {w : World} (a b c d : Nat) : (Instr.buildSlice 32 4 [(0, Value.slice (some ⟨a, 0, none⟩) 1 1), (1, Value.slice (some ⟨b, 0, none⟩) 1 1), (2, Value.slice (some ⟨c, 0, none⟩) 1 1), (3, Value.slice (some ⟨d, 0, none⟩) 1 1)].toArray).run Tryz.prog w = .ok (.slice (some ⟨w.heap.size, 0, none⟩) 4 4) (w.alloc (.cells #[.slice (some ⟨a, 0, none⟩) 1 1, .slice (some ⟨b, 0, none⟩) 1 1, .slice (some ⟨c, 0, none⟩) 1 1, .slice (some ⟨d, 0, none⟩) 1 1] 31)) := by
  go_simp
theorem four_get {α : Type} {a b c d x : α} {k : Nat} (h : [a, b, c, d][k]? = some x) : (k = 0 ∧ x = a) ∨ (k = 1 ∧ x = b) ∨ (k = 2 ∧ x = c) ∨ (k = 3 ∧ x = d) := by
  match k, h with
  | 0, h => exact Or.inl ⟨rfl, by injection h with h; exact h.symm⟩
  | 1, h => exact Or.inr (Or.inl ⟨rfl, by injection h with h; exact h.symm⟩)
  | 2, h => exact Or.inr (Or.inr (Or.inl ⟨rfl, by injection h with h; exact h.symm⟩))
  | 3, h => exact Or.inr (Or.inr (Or.inr ⟨rfl, by injection h with h; exact h.symm⟩))
  | k + 4, h => simp at h
/-- four rows, each in memory made behind the one before -/
theorem fleet4 {w : World} {B t1 t2 t3 : Nat} {p q r s : Sl} {xp xq xr xs : List Value} (hp : w.ownsRow B 47 2 (slV p) p.2.1 xp) (hq : w.ownsRow t1 47 2 (slV q) q.2.1 xq) (hr : w.ownsRow t2 47 2 (slV r) r.2.1 xr) (hs : w.ownsRow t3 47 2 (slV s) s.2.1 xs)
    (h1 : ∀ b, Bk p = some b → b < t1) (h2 : ∀ b, Bk q = some b → b < t2) (h3 : ∀ b, Bk r = some b → b < t3) (hB : B ≤ t1 ∧ t1 ≤ t2 ∧ t2 ≤ t3) : Fleet w B 47 2 [p, q, r, s] (fun k => if k = 0 then xp else if k = 1 then xq else if k = 2 then xr else xs) :=
  ⟨fun k z hz => by
    rcases four_get hz with ⟨rfl, rfl⟩ | ⟨rfl, rfl⟩ | ⟨rfl, rfl⟩ | ⟨rfl, rfl⟩
    · exact hp
    · exact own_base hq (by omega)
    · exact own_base hr (by omega)
    · exact own_base hs (by omega), fun j k y z hy hz hjk b hb hb' => by
    have lq : ∀ b, Bk q = some b → t1 ≤ b := fun b hb => (hq.lt b hb).1
    have lr : ∀ b, Bk r = some b → t2 ≤ b := fun b hb => (hr.lt b hb).1
    have ls : ∀ b, Bk s = some b → t3 ≤ b := fun b hb => (hs.lt b hb).1
    rcases four_get hy with ⟨rfl, rfl⟩ | ⟨rfl, rfl⟩ | ⟨rfl, rfl⟩ | ⟨rfl, rfl⟩ <;> rcases four_get hz with ⟨rfl, rfl⟩ | ⟨rfl, rfl⟩ | ⟨rfl, rfl⟩ | ⟨rfl, rfl⟩
    · exact hjk rfl
    · have := h1 b hb; have := lq b hb'; omega
    · have := h1 b hb; have := lr b hb'; omega
    · have := h1 b hb; have := ls b hb'; omega
    · have := h1 b hb'; have := lq b hb; omega
    · exact hjk rfl
    · have := h2 b hb; have := lr b hb'; omega
    · have := h2 b hb; have := ls b hb'; omega
    · have := h1 b hb'; have := lr b hb; omega
    · have := h2 b hb'; have := lr b hb; omega
    · exact hjk rfl
    · have := h3 b hb; have := ls b hb'; omega
    · have := h1 b hb'; have := ls b hb; omega
    · have := h2 b hb'; have := ls b hb; omega
    · have := h3 b hb'; have := ls b hb; omega
    · exact hjk rfl⟩
theorem apart4 {w : World} {B : Nat} {p q r s : Sl} {x : Value} {X : Nat → List Value} (h : Four B (slV p) (slV q) (slV r) (slV s) x w) {B0 : Nat} (hB0 : B0 ≤ B) (hB : B ≤ w.heap.size) (hf : Fleet w B0 47 2 [p, q, r, s] X) (hn : p.2.1 ≤ 1000000 ∧ q.2.1 ≤ 1000000 ∧ r.2.1 ≤ 1000000 ∧ s.2.1 ≤ 1000000) :
    Calls Tryz.prog 12 #[x] w (YesPost B0 w) := by
  obtain ⟨g, g0, g1, g2, g3, rfl, h2, ⟨b0, b1, b2, b3⟩, h4, h5, h6, h7, ⟨n1, n2, n3⟩, ⟨n4, n5⟩, n6⟩ := h
  refine apartN w B0 g [g0, g1, g2, g3] [p, q, r, s] X 4 rfl rfl (by omega) h2 (fun k a z ha hz => ?_) (fun j k a b ha hb hjk => ?_) (fun a ha => ?_) hf (by omega) (fun z hz => ?_)
  · rcases four_get ha with ⟨rfl, rfl⟩ | ⟨rfl, rfl⟩ | ⟨rfl, rfl⟩ | ⟨rfl, rfl⟩ <;> rcases four_get hz with ⟨e, rfl⟩ | ⟨e, rfl⟩ | ⟨e, rfl⟩ | ⟨e, rfl⟩ <;> first | omega | assumption
  · rcases four_get ha with ⟨rfl, rfl⟩ | ⟨rfl, rfl⟩ | ⟨rfl, rfl⟩ | ⟨rfl, rfl⟩ <;> rcases four_get hb with ⟨rfl, rfl⟩ | ⟨rfl, rfl⟩ | ⟨rfl, rfl⟩ | ⟨rfl, rfl⟩ <;> first | (exact absurd rfl hjk) | assumption | (exact Ne.symm (by assumption))
  · simp only [List.mem_cons, List.not_mem_nil, or_false] at ha
    rcases ha with rfl | rfl | rfl | rfl <;> omega
  · simp only [List.mem_cons, List.not_mem_nil, or_false] at hz
    rcases hz with rfl | rfl | rfl | rfl
    · exact hn.1
    · exact hn.2.1
    · exact hn.2.2.1
    · exact hn.2.2.2

def LAtV (n : Nat) (ps : List (Int × Int)) (x : Value) (w : World) : Prop := ∃ A c, x = .agg #[.slice A n c] ∧ LAt w A n c ps
theorem LAtV.mono {n : Nat} {ps : List (Int × Int)} {x : Value} {w w' : World} (h : LAtV n ps x w) (hR : Below w.heap.size w w') : LAtV n ps x w' := by
  obtain ⟨A, c, h1, h2⟩ := h
  exact ⟨A, c, h1, h2.step hR⟩
set_option maxRecDepth 100000 in
theorem eql_int_same (a : Int) (x y : Operand) (w : World) : ((do eqGuard .eql 3 x y (.int .i64 a) (.int .i64 a); binOp .eql 3 (.int .i64 a) (.int .i64 a) : Sem Value)).run Tryz.prog w = .ok (.bool true) w := by
  rw [eql_int]
  simp
set_option maxRecDepth 100000 in
theorem enter_rputs (vs : Array Value) (w : World) : (callFunc 17 vs).run Tryz.prog w = .ok (.enter 17 vs) w := by go_simp
set_option maxRecDepth 100000 in
theorem enter_rmax (vs : Array Value) (w : World) : (callFunc 18 vs).run Tryz.prog w = .ok (.enter 18 vs) w := by go_simp
set_option maxRecDepth 100000 in
theorem enter_rvalueL (vs : Array Value) (w : World) : (callFunc 20 vs).run Tryz.prog w = .ok (.enter 20 vs) w := by go_simp
set_option maxRecDepth 100000 in
theorem enter_keptLs (vs : Array Value) (w : World) : (callFunc 21 vs).run Tryz.prog w = .ok (.enter 21 vs) w := by go_simp

set_option maxRecDepth 100000 in
set_option maxHeartbeats 8000000 in
theorem puts_any (Al Ay An : Option Addr) (pl : List (Int × Int)) (bys : List (List (Int × Int))) (ns : List Int) (cl cy cn : Nat) (w : World) (hpl : pl.length ≤ 4611686018427387904) (hpy : bys.length ≤ 5864062014634) (hmn : ns.length ≤ maxLen)
    (ha : Lev w w.heap.size Al pl) (hca : Al = none → cl = 0) (hy : Levs w w.heap.size Ay bys) (hcy : Ay = none → cy = 0) (hi : Ints w w.heap.size An ns) :
    Calls Tryz.prog 4 #[.agg #[.slice Al pl.length cl], .slice Ay bys.length cy, .slice An ns.length cn] w (HasPost w true) := by
  have hfd := field_parts
  obtain ⟨i0, hi0, hz0, hz1, hz2⟩ := info_parts infoLv
  obtain ⟨nl, hnl⟩ : ∃ k, pl.length = k := ⟨_, rfl⟩
  obtain ⟨ny, hny⟩ : ∃ k, bys.length = k := ⟨_, rfl⟩
  obtain ⟨nn, hnn⟩ : ∃ k, ns.length = k := ⟨_, rfl⟩
  rw [hnl, hny, hnn]
  have x1 := heap_alloc_new w (.cells #[.slice Al nl cl] 24)
  have hb0 : Below w.heap.size w (w.alloc (.cells #[.slice Al nl cl] 24)) := (Below.refl _ _).alloc (Nat.le_refl _) _
  have hz : w.heap.size + 1 ≤ (w.alloc (.cells #[.slice Al nl cl] 24)).heap.size := by simp
  have f1 := cell_of_one x1
  have LA0 : Hid (Lev (w.alloc (.cells #[.slice Al nl cl] 24)) (w.alloc (.cells #[.slice Al nl cl] 24)).heap.size Al pl) := (ha.below hb0).more hb0.size
  have LY0 : Hid (Levs (w.alloc (.cells #[.slice Al nl cl] 24)) (w.alloc (.cells #[.slice Al nl cl] 24)).heap.size Ay bys) := (hy.below hb0).more hb0.size
  have LN0 : Hid (Ints (w.alloc (.cells #[.slice Al nl cl] 24)) (w.alloc (.cells #[.slice Al nl cl] 24)).heap.size An ns) := (hi.below hb0).more hb0.size
  have CA := Lib.hid hca
  have CY := Lib.hid hcy
  have PL := Lib.hid hpl
  have PY := Lib.hid hpy
  have NL := Lib.hid hnl
  have NY := Lib.hid hny
  have NN := Lib.hid hnn
  have B0 := Lib.hid hb0
  have hnn9 : nn ≤ maxLen := by omega
  unfold maxLen at hnn9
  clear x1 ha hy hi hca hcy hpl hpy hnl hny hnn hb0 hmn
  go_enter Tryz.func4, Tryz.ntmps4
  go_upto_region 1 with (fail)
  obtain ⟨w1, hw1⟩ : ∃ w1, w.alloc (.cells #[.slice Al nl cl] 24) = w1 := ⟨_, rfl⟩
  rw [hw1] at hz f1 LA0 LY0 LN0 B0 ⊢
  clear hw1
  obtain ⟨us, hlr, hsrc⟩ := levs_row LY0.out
  have HSRC := Lib.hid hsrc
  have HUL : Hid (us.length = ny) := hlr.1.trans NY.out
  have ones : Hid (∀ u ∈ us, u.oneCell' = true) := fun u hu => by
    obtain ⟨j, hj, rfl⟩ := List.getElem_of_mem hu
    obtain ⟨Ai, ci, h1, _⟩ := hlr.2 j (by rw [← hlr.1]; exact hj)
    rw [List.getElem?_eq_getElem hj] at h1
    injection h1 with h1
    rw [h1]
    rfl
  have hbo : Below w1.heap.size w1 (w1.alloc (.cells #[.slice Al nl cl] 24)) := (Below.refl _ _).alloc (Nat.le_refl _) _
  have HRO : Hid ((w1.alloc (.cells #[.slice Al nl cl] 24)).ownsRow w1.heap.size 24 1 (.slice (some ⟨w1.heap.size, 0, none⟩) 1 1) 1 [.slice Al nl cl]) := own_one (heap_alloc_new w1 _) (Nat.le_refl _)
  have HAP : Hid (∀ (v : Value) (w2 : World), w2.ownsRow w1.heap.size 24 1 v (1 + ny) ([.slice Al nl cl] ++ us) → Below w1.heap.size w1 w2 → ∃ A c, v = .slice A (1 + ny) c ∧ Calls Tryz.prog 5 #[.slice A (1 + ny) c] w2 (GreatPost w2 ([pl] ++ bys))) := fun v w2 ho hb2 => by
    obtain ⟨g, c, rfl, _, hg⟩ := ho.form (by omega)
    refine ⟨_, c, rfl, ?_⟩
    have hr1 : LevRow w2 [pl] [.slice Al nl cl] := by
      rw [← NL.out]
      exact row_one ((LA0.out.below hb2).more hb2.size) CA.out PL.out
    have h := great_any (some ⟨g, 0, none⟩) ([pl] ++ bys) c w2 (by have := PY.out; rw [List.length_append]; unfold maxLen; simp; omega) (row_levs ho (row_app hr1 (hlr.below hb2)) hg)
    rwa [show ([pl] ++ bys).length = 1 + ny by rw [List.length_append, NY.out]; rfl] at h
  clear hsrc hlr hbo
  go_cut [22] from 13 to 22 (fun s wc => ∃ r : Bool, s = .bool r ∧ (r = false → (nl ≤ 60 ∧ ny ≤ 60 ∧ ∀ l ∈ bys, l.length ≤ 60) ∧ nn ≤ 60) ∧ Below w1.heap.size w1 wc)
  case first =>
    have hfin : Hid (∀ (w3 : World) (r : Bool), (r = false → ((([pl] ++ bys).length : Nat) : Int) ≤ 60 ∧ ∀ l ∈ [pl] ++ bys, l.length ≤ 60) → Below w1.heap.size w1 w3 → ∃ r' : Bool, (r || decide ((60 : Int) < (nn : Int))) = r' ∧ (r' = false → (nl ≤ 60 ∧ ny ≤ 60 ∧ ∀ l ∈ bys, l.length ≤ 60) ∧ nn ≤ 60) ∧ Below w1.heap.size w1 w3) := fun w3 r hr hb => ⟨_, rfl, fun h => by
      rw [Bool.or_eq_false_iff] at h
      obtain ⟨h1, h2⟩ := h
      obtain ⟨h3, h4⟩ := hr h1
      have h5 : ¬ (60 : Int) < (nn : Int) := by simpa using h2
      rw [List.length_append, NY.out] at h3
      simp at h3
      exact ⟨⟨by rw [← NL.out]; exact h4 pl (by simp), by omega, fun l hl => h4 l (by simp [hl])⟩, by omega⟩, hb⟩
    rcases Ay with _ | ay
    · have H0 : ny = 0 := by
        rcases Nat.eq_zero_or_pos bys.length with h0 | h0
        · rw [← NY.out]; exact h0
        · obtain ⟨b, o, e, _⟩ := HSRC.out h0
          cases e
      subst H0
      have H1 : cy = 0 := CY.out rfl
      subst H1
      have H2 : us = [] := List.eq_nil_of_length_eq_zero HUL.out
      have hb2 : Below w1.heap.size w1 (w1.alloc (.cells #[.slice Al nl cl] 24)) := (Below.refl w1.heap.size w1).alloc (Nat.le_refl _) _
      obtain ⟨A2, c2, hv, hcall⟩ := HAP.out (.slice (some ⟨w1.heap.size, 0, none⟩) 1 1) _ (by rw [H2]; exact HRO.out) hb2
      have hv2 : A2 = some ⟨w1.heap.size, 0, none⟩ ∧ c2 = 1 := by
        injection hv with hv1 hv2 hv3
        exact ⟨hv1.symm, hv3.symm⟩
      obtain ⟨rfl, rfl⟩ := hv2
      have HCALL := Lib.hid hcall
      have HB2 := Lib.hid hb2
      have hfin' := hfin
      clear HSRC HUL ones hcall hb2 hv H2 HAP hfin
      go_wp2_with (at_builtin; refine wpList_append_own_none rfl _ _ 31 rfl w1.heap.size 24 i0 1 Tryz.underlying31 hi0 _ 1 [.slice Al nl cl] rfl HRO.out rfl ?_)
      go_wp2_with (fail)
      refine HCALL.out.mono ?_
      rintro e w3 ⟨r, rfl, hr, hb3⟩
      obtain ⟨r', hr', hr2, hb4⟩ := hfin'.out w3 r hr (HB2.out.trans (hb3.mono (by simp)))
      have HF := Lib.hid (And.intro hr2 hb4)
      clear hr hb3 hr2 hb4
      rcases r with _ | _
      · simp only [Bool.false_or] at hr'
        go_wp2
        go_meet
        case rel => exact ⟨r', by rw [← hr'], HF.out⟩
      · simp only [Bool.true_or] at hr'
        subst hr'
        go_wp2
        go_meet
        case rel => exact ⟨true, rfl, HF.out⟩
    · have HSS : Hid (∀ (j : Nat) (u : Value), us[j]? = some u → (w1.alloc (.cells #[.slice Al nl cl] 24)).cell? (ay.add j) = some u) := fun j u hu => by
        have hj : j < bys.length := by rw [NY.out, ← HUL.out]; exact (List.getElem?_eq_some_iff.1 hu).1
        obtain ⟨b, o, e, hbl, hh⟩ := HSRC.out (by omega)
        injection e with e
        subst e
        have h1 := hh j u hu
        rw [show ((⟨b, o, none⟩ : Addr).add j) = ⟨b, o + j, none⟩ from by unfold Addr.add; split <;> simp_all]
        exact (((Below.refl w1.heap.size w1).alloc (Nat.le_refl _) _).cell hbl).trans h1
      have HM : 1 + ny ≤ 5864062014637 := by have := PY.out; have := NY.out; omega
      have hfin' := hfin
      clear HSRC hfin
      go_wp2_with (at_builtin; refine wpList_append_own _ rfl _ _ 31 rfl w1.heap.size 24 i0 (.agg #[.slice none 0 0]) 1 24 Tryz.underlying31 hi0 hz0 hz1 hz2 rfl (by decide) _ 1 [.slice Al nl cl] rfl HRO.out ay ny cy us rfl (by rw [HUL.out, Nat.mul_one]) HSS.out ones.out ?c1 ?c2 ?c3 ?_)
      case c1 => unfold maxLen; omega
      case c2 => omega
      case c3 => simp
      intro v w2 ho hg _
      have hb2 : Below w1.heap.size w1 w2 := ((Below.refl w1.heap.size w1).alloc (Nat.le_refl _) _).grown hg (by simp) (fun k e => by cases e; exact Nat.le_refl _)
      obtain ⟨A2, c2, rfl, hcall⟩ := HAP.out v w2 ho hb2
      have HCALL := Lib.hid hcall
      have HB2 := Lib.hid hb2
      have hs2 := hb2.size
      clear ho hg HSS ones hcall hb2 HAP
      go_wp2_with (fail)
      refine HCALL.out.mono ?_
      rintro e w3 ⟨r, rfl, hr, hb3⟩
      obtain ⟨r', hr', hr2, hb4⟩ := hfin'.out w3 r hr (HB2.out.trans (hb3.mono (by omega)))
      have HF := Lib.hid (And.intro hr2 hb4)
      clear hr hb3 hr2 hb4
      rcases r with _ | _
      · simp only [Bool.false_or] at hr'
        go_wp2
        go_meet
        case rel => exact ⟨r', by rw [← hr'], HF.out⟩
      · simp only [Bool.true_or] at hr'
        subst hr'
        go_wp2
        go_meet
        case rel => exact ⟨true, rfl, HF.out⟩
  case rest =>
    obtain ⟨r, rfl, hr, hbz⟩ := hcut
    clear HSRC HUL ones HRO HAP
    have hcz := hbz.size
    have e1 := (hbz.cell (p := ⟨w.heap.size, 0, none⟩) (by show w.heap.size < w1.heap.size; omega)).trans f1
    have BZ : Hid (Below w.heap.size w wc) := B0.out.trans (hbz.mono (by omega))
    have LA : Hid (Lev wc wc.heap.size Al pl) := (LA0.out.below hbz).more hcz
    have LY : Hid (Levs wc wc.heap.size Ay bys) := (LY0.out.below hbz).more hcz
    have LN : Hid (Ints wc wc.heap.size An ns) := (LN0.out.below hbz).more hcz
    clear hbz f1 LA0 LY0 LN0 B0
    rcases r with _ | _
    rotate_left
    · clear hr
      go_wp2_with (fail)
      refine (awake_any _).mono ?_
      rintro e w3 ⟨rfl, hb3⟩
      have HF : Hid (HasPost w true (.returned (.bool true)) w3) := ⟨rfl, BZ.out.trans (hb3.mono (by omega))⟩
      clear hb3
      go_wp2
      go_ret
      exact HF.out
    · obtain ⟨⟨hnl60, hny60, h60⟩, hnn60⟩ := hr rfl
      have H60 := Lib.hid h60
      clear hr h60
      have HC1 := Lib.hid (lentLevel_any Al pl cl nl wc NL.out (by omega) LA.out CA.out)
      go_wp2_with (fail)
      refine HC1.out.mono ?_
      rintro e wa ⟨ga, ka, rfl, hra, hba⟩
      have hsa := hba.size
      have HC2 := Lib.hid (lentLevels_any Ay bys cy ny wa NY.out (by omega) (fun l hl => by have := H60.out l hl; omega) ((LY.out.below hba).more hsa))
      have HRA := Lib.hid hra
      have HBA := Lib.hid hba
      clear hra hba HC1
      go_wp2_with (fail)
      refine HC2.out.mono ?_
      rintro e wb ⟨gy, ky, rfl, hlr, hbb⟩
      have hsb := hbb.size
      obtain ⟨gx, hgx⟩ : ∃ x, wb.heap.size = x := ⟨_, rfl⟩
      have hb4 : Below wb.heap.size wb (wb.alloc (.cells #[.slice (some ⟨ga, 0, none⟩) nl ka] 24)) := (Below.refl _ _).alloc (Nat.le_refl _) _
      have i1 := heap_alloc_new wb (.cells #[.slice (some ⟨ga, 0, none⟩) nl ka] 24)
      rw [hgx] at i1
      have I1 := Lib.hid i1
      have HRA4 := Lib.hid (own_below (own_below HRA.out hbb) hb4)
      have HLR4 := Lib.hid (hlr.below hb4)
      have HB4 : Hid (Below wc.heap.size wc (wb.alloc (.cells #[.slice (some ⟨ga, 0, none⟩) nl ka] 24))) := (HBA.out.trans (hbb.mono hsa)).trans (hb4.mono (by omega))
      have hgx1 : wc.heap.size ≤ gx := by omega
      have HKY : Hid (ny ≤ ky) := by
        obtain ⟨vs, h1, _, _⟩ := hlr
        have := (own_cap h1).1
        show ny ≤ ky
        omega
      have E0 := Lib.hid e1
      clear hlr hbb hb4 i1 HRA HBA HC2 e1
      go_upto_region 4 with (fail)
      obtain ⟨w4, hw4⟩ : ∃ x, wb.alloc (.cells #[.slice (some ⟨ga, 0, none⟩) nl ka] 24) = x := ⟨_, rfl⟩
      rw [hw4] at I1 HRA4 HLR4 HB4 ⊢
      clear hw4 hgx hsa hsb
      have h4z := HB4.out.size
      have f7 := cell_of_one I1.out
      have hgx4 := heap_some_lt I1.out
      have LX : Hid (Lev w4 w4.heap.size (some ⟨ga, 0, none⟩) (pl ++ marks 1 12)) := by
        have h := HRA4.out
        rw [show nl + 12 = (pl ++ marks 1 12).length by rw [List.length_append, marks_length, NL.out]] at h
        exact (own_lev h).2.1
      have LX0 : Hid (Lev w4 w4.heap.size (some ⟨ga, 0, none⟩) pl) := fun hp => by
        obtain ⟨b, o, e, hb, hcell⟩ := LX.out (by rw [List.length_append]; omega)
        refine ⟨b, o, e, hb, fun i hi => ?_⟩
        have := hcell i (by rw [List.length_append]; omega)
        rwa [List.getD_eq_getElem?_getD, List.getElem?_append_left hi, ← List.getD_eq_getElem?_getD] at this
      have LYY : Hid (Levs w4 w4.heap.size (some ⟨gy, 0, none⟩) bys) := HLR4.out.levs NY.out (fun l hl => by have := H60.out l hl; omega)
      have hfl : (flat bys).length ≤ 3600 := by
        have h1 : ∀ ls : List (List (Int × Int)), (∀ l ∈ ls, l.length ≤ 60) → (flat ls).length ≤ ls.length * 60 := by
          intro ls
          induction ls with
          | nil => intro _; simp [flat]
          | cons l ls ih =>
            intro h
            have h2 := ih (fun x hx => h x (by simp [hx]))
            have h3 := h l (by simp)
            simp [flat] at h2 ⊢
            omega
        have := h1 bys H60.out
        rw [NY.out] at this
        omega
      obtain ⟨qa, hqa⟩ : ∃ q, nfA (putS (nfA pl) bys) = q := ⟨_, rfl⟩
      obtain ⟨na, hna⟩ : ∃ k, qa.length = k := ⟨_, rfl⟩
      obtain ⟨qb, hqb⟩ : ∃ q, nfA (flat bys) = q := ⟨_, rfl⟩
      obtain ⟨nb, hnb⟩ : ∃ k, qb.length = k := ⟨_, rfl⟩
      have hna9 : na ≤ 60000 := by
        have h1 := put_len (ps := pl) (bys := bys) (fun b hb => by have := H60.out b hb; omega)
        rw [hqa, hna, NL.out] at h1
        omega
      have hnb9 : nb ≤ 3600 := by
        have := nfA_len (flat bys)
        rw [hqb, hnb] at this
        omega
      have CP : Hid (∀ w', Below w4.heap.size w4 w' → Calls Tryz.prog 14 #[.agg #[.slice (some ⟨ga, 0, none⟩) nl ka], .slice (some ⟨gy, 0, none⟩) ny ky] w' fun e w'' => ∃ v, e = .returned v ∧ NewLev w'.heap.size na qa v w'' ∧ NewAt w' v ∧ Below w'.heap.size w' w'') := fun w' hx => by
        have h := put_any (some ⟨ga, 0, none⟩) (some ⟨gy, 0, none⟩) pl bys ka ky w' (by have := NL.out; omega) ((LX0.out.below hx).more hx.size) (fun e => by cases e) (by have := NY.out; unfold maxLen; omega) (fun b hb => by have := H60.out b hb; omega) ((LYY.out.below hx).more hx.size)
        rw [NL.out, NY.out, hqa] at h
        refine h.mono fun _ _ h => ?_
        have h2 := lvlPost_new h (Nat.le_refl _)
        rwa [hna] at h2
      have CM : Hid (∀ w', Below w4.heap.size w4 w' → Calls Tryz.prog 15 #[.slice (some ⟨gy, 0, none⟩) ny ky] w' fun e w'' => ∃ v, e = .returned v ∧ NewLev w'.heap.size nb qb v w'' ∧ NewAt w' v ∧ Below w'.heap.size w' w'') := fun w' hx => by
        have h := max_all (some ⟨gy, 0, none⟩) bys ky w' (by have := NY.out; unfold maxLen; omega) (by unfold Few; omega) ((LYY.out.below hx).more hx.size)
        rw [NY.out, hqb] at h
        refine h.mono fun _ _ h => ?_
        have h2 := lvlPost_new h (Nat.le_refl _)
        rwa [hnb] at h2
      have HQA := Lib.hid hqa
      have HNA := Lib.hid hna
      have HQB := Lib.hid hqb
      have HNB := Lib.hid hnb
      clear hqa hna hqb hnb
      have HP1 := Lib.hid (CP.out w4 (Below.refl _ _))
      go_wp2_with (fail)
      refine HP1.out.mono ?_
      rintro e w5 ⟨v, rfl, ⟨A5, c5, rfl, -, ho5⟩, -, hb5⟩
      have HM1 := Lib.hid (CM.out w5 hb5)
      have hs5 := hb5.size
      have HB5 := Lib.hid hb5
      have HO5 := Lib.hid ho5
      clear ho5 hb5 HP1
      go_wp2_with (fail)
      refine HM1.out.mono ?_
      rintro e w6 ⟨v, rfl, ⟨A6, c6, rfl, -, ho6⟩, -, hb6⟩
      have hs6 := hb6.size
      have g7 := (HB5.out.cell (p := ⟨gx, 0, none⟩) hgx4).trans f7
      have g8 := (hb6.cell (p := ⟨gx, 0, none⟩) (by show gx < _; omega)).trans g7
      have HB6 := Lib.hid hb6
      have HO6 := Lib.hid ho6
      clear ho6 hb6 HM1 f7 g7
      go_upto_region 5 with (fail)
      obtain ⟨x1, x2, _⟩ := two_allocs w6 (.cells #[.slice A5 na c5] 24) (.cells #[.slice A6 nb c6] 24)
      have hb7 : Below w6.heap.size w6 ((w6.alloc (.cells #[.slice A5 na c5] 24)).alloc (.cells #[.slice A6 nb c6] 24)) := ((Below.refl _ _).alloc (Nat.le_refl _) _).alloc (by simp) _
      obtain ⟨w7, hw7⟩ : ∃ x, (w6.alloc (.cells #[.slice A5 na c5] 24)).alloc (.cells #[.slice A6 nb c6] 24) = x := ⟨_, rfl⟩
      rw [hw7] at x1 x2 hb7 ⊢
      clear hw7
      obtain ⟨p9, hp9⟩ : ∃ x, w6.heap.size = x := ⟨_, rfl⟩
      rw [hp9] at x1 x2 ⊢
      have hp9' : p9 ≤ w6.heap.size ∧ w6.heap.size ≤ p9 := ⟨by omega, by omega⟩
      clear hp9
      have hs7 := hb7.size
      have C9 := Lib.hid (cell_of_one x1)
      have C10 := Lib.hid (cell_of_one x2)
      have C7 := Lib.hid ((hb7.cell (p := ⟨gx, 0, none⟩) (by show gx < _; omega)).trans g8)
      have HB7 : Hid (Below w4.heap.size w4 w7) := HB5.out.trans ((HB6.out.mono hs5).trans (hb7.mono (by omega)))
      have HA7 := Lib.hid (own_below (own_below HO5.out HB6.out) hb7)
      have HA7L : Hid (∀ b, Bk (A5, na, c5) = some b → b < w5.heap.size) := fun b hb => (HO5.out.lt b hb).2
      have HM7 := Lib.hid (own_below HO6.out hb7)
      have HM7L : Hid (∀ b, Bk (A6, nb, c6) = some b → b < w7.heap.size) := fun b hb => by have := (HO6.out.lt b hb).2; omega
      clear HO5 HO6 HB5 HB6 x1 x2 hb7 g8
      have f7 := C7.out
      have hgx7 : gx < w7.heap.size := by omega
      have HP2 := Lib.hid (CP.out w7 HB7.out)
      go_wp2_with (fail)
      refine HP2.out.mono ?_
      rintro e w8 ⟨v, rfl, ⟨A7, c7, rfl, -, ho7⟩, -, hb8⟩
      have hs8 := hb8.size
      have HM2 := Lib.hid (CM.out w8 (HB7.out.trans (hb8.mono (by omega))))
      have HB8 := Lib.hid hb8
      have HO7 := Lib.hid ho7
      clear ho7 hb8 HP2 f7
      go_wp2_with (fail)
      refine HM2.out.mono ?_
      rintro e w9 ⟨v, rfl, ⟨A8, c8, rfl, -, ho8⟩, -, hb9⟩
      have hs9 := hb9.size
      have HB9 := Lib.hid hb9
      have HO8 := Lib.hid ho8
      clear ho8 hb9 HM2
      go_upto_region 6 with (fail)
      obtain ⟨x1, x2, _⟩ := two_allocs w9 (.cells #[.slice A7 na c7] 24) (.cells #[.slice A8 nb c8] 24)
      have hbd : Below w9.heap.size w9 ((w9.alloc (.cells #[.slice A7 na c7] 24)).alloc (.cells #[.slice A8 nb c8] 24)) := ((Below.refl _ _).alloc (Nat.le_refl _) _).alloc (by simp) _
      obtain ⟨wd, hwd⟩ : ∃ x, (w9.alloc (.cells #[.slice A7 na c7] 24)).alloc (.cells #[.slice A8 nb c8] 24) = x := ⟨_, rfl⟩
      rw [hwd] at x1 x2 hbd ⊢
      clear hwd
      obtain ⟨p11, hp11⟩ : ∃ x, w9.heap.size = x := ⟨_, rfl⟩
      rw [hp11] at x1 x2 ⊢
      have hp11' : p11 ≤ w9.heap.size ∧ w9.heap.size ≤ p11 := ⟨by omega, by omega⟩
      clear hp11
      have hsd := hbd.size
      have h7d : Below w7.heap.size w7 wd := HB8.out.trans ((HB9.out.mono hs8).trans (hbd.mono (by omega)))
      have H4D : Hid (Below w4.heap.size w4 wd) := HB7.out.trans (h7d.mono (by omega))
      have h4d := H4D.out.size
      have HRA : Hid (wd.ownsRow w4.heap.size 47 2 (.slice A5 na c5) na (cells qa)) := own_below HA7.out h7d
      have HRB : Hid (wd.ownsRow w5.heap.size 47 2 (.slice A6 nb c6) nb (cells qb)) := own_below HM7.out h7d
      have HRC : Hid (wd.ownsRow w7.heap.size 47 2 (.slice A7 na c7) na (cells qa)) := own_below (own_below HO7.out HB9.out) hbd
      have HRCL : Hid (∀ b, Bk (A7, na, c7) = some b → b < w8.heap.size) := fun b hb => (HO7.out.lt b hb).2
      have HRD : Hid (wd.ownsRow w8.heap.size 47 2 (.slice A8 nb c8) nb (cells qb)) := own_below HO8.out hbd
      have E1 : Hid (wd.cell? ⟨w.heap.size, 0, none⟩ = some (.slice Al nl cl)) := (H4D.out.cell (p := ⟨w.heap.size, 0, none⟩) (by show w.heap.size < _; omega)).trans ((HB4.out.cell (p := ⟨w.heap.size, 0, none⟩) (by show w.heap.size < _; omega)).trans E0.out)
      have D7 := Lib.hid ((h7d.cell (p := ⟨gx, 0, none⟩) hgx7).trans C7.out)
      have D9 := Lib.hid ((h7d.cell (p := ⟨p9, 0, none⟩) (cell_lt C9.out)).trans C9.out)
      have D10 := Lib.hid ((h7d.cell (p := ⟨p9 + 1, 0, none⟩) (cell_lt C10.out)).trans C10.out)
      have D11 := Lib.hid (cell_of_one x1)
      have D12 := Lib.hid (cell_of_one x2)
      clear x1 x2 hbd h7d C7 C9 C10 HO7 HO8 HA7 HM7 HB8 HB9
      have hS : BoxL wd [(w.heap.size, .slice Al nl cl), (gx, .slice (some ⟨ga, 0, none⟩) nl ka), (p9, .slice A5 na c5), (p9 + 1, .slice A6 nb c6), (p11, .slice A7 na c7), (p11 + 1, .slice A8 nb c8)] wd.drew := BoxL.drew (by
        simp only [List.mem_cons, List.not_mem_nil, or_false, forall_eq_or_imp, forall_eq]
        exact ⟨E1.out, D7.out, D9.out, D10.out, D11.out, D12.out⟩)
      obtain ⟨vv, hvv⟩ : ∃ x, valF (nfA pl) (numS ns) = x := ⟨_, rfl⟩
      have HVV := Lib.hid hvv
      clear hvv
      have LA4 : Hid (Lev w4 w4.heap.size Al pl) := (LA.out.below HB4.out).more HB4.out.size
      have LY4 : Hid (Levs w4 w4.heap.size Ay bys) := (LY.out.below HB4.out).more HB4.out.size
      have LN4 : Hid (Ints w4 w4.heap.size An ns) := (LN.out.below HB4.out).more HB4.out.size
      have U6 : Hid (∀ w', BoxL wd [(w.heap.size, .slice Al nl cl), (gx, .slice (some ⟨ga, 0, none⟩) nl ka), (p9, .slice A5 na c5), (p9 + 1, .slice A6 nb c6), (p11, .slice A7 na c7), (p11 + 1, .slice A8 nb c8)] w' → Below w4.heap.size w4 w') := fun w' hx => H4D.out.trans (hx.1.mono h4d)
      have G6 : Hid (∀ (w' : World) (e : Ending) (w'' : World), BoxL wd [(w.heap.size, .slice Al nl cl), (gx, .slice (some ⟨ga, 0, none⟩) nl ka), (p9, .slice A5 na c5), (p9 + 1, .slice A6 nb c6), (p11, .slice A7 na c7), (p11 + 1, .slice A8 nb c8)] w' → HasPost w' true e w'' → ∃ v, e = .returned v ∧ BoxL wd [(w.heap.size, .slice Al nl cl), (gx, .slice (some ⟨ga, 0, none⟩) nl ka), (p9, .slice A5 na c5), (p9 + 1, .slice A6 nb c6), (p11, .slice A7 na c7), (p11 + 1, .slice A8 nb c8)] w'' ∧ Below w'.heap.size w' w'' ∧ v = .bool true) := fun w' e w'' hx h => ⟨_, h.1, hx.step h.2, h.2, rfl⟩
      have G7 : Hid (∀ (w' : World) (e : Ending) (w'' : World), Below w4.heap.size wd w' → HasPost w' true e w'' → ∃ v, e = .returned v ∧ Below w4.heap.size wd w'' ∧ True ∧ v = .bool true) := fun w' e w'' hx h => ⟨_, h.1, hx.trans (h.2.mono (by have := hx.size; omega)), trivial, rfl⟩
      have CRP : Hid (∀ w', BoxL wd [(w.heap.size, .slice Al nl cl), (gx, .slice (some ⟨ga, 0, none⟩) nl ka), (p9, .slice A5 na c5), (p9 + 1, .slice A6 nb c6), (p11, .slice A7 na c7), (p11 + 1, .slice A8 nb c8)] w' → Calls Tryz.prog 17 #[.agg #[.slice Al nl cl], .slice Ay ny cy] w' fun e w'' => ∃ v, e = .returned v ∧ BoxL wd [(w.heap.size, .slice Al nl cl), (gx, .slice (some ⟨ga, 0, none⟩) nl ka), (p9, .slice A5 na c5), (p9 + 1, .slice A6 nb c6), (p11, .slice A7 na c7), (p11 + 1, .slice A8 nb c8)] w'' ∧ Below w'.heap.size w' w'' ∧ LAtV na qa v w'') := fun w' hx => by
        have hu := U6.out w' hx
        have h := rputs_any Al Ay pl bys cl cy w' (by rw [NL.out]; omega) ((LA4.out.below hu).more hu.size) CA.out (by have := NY.out; unfold maxLen; omega) (fun b hb => by have := H60.out b hb; omega) ((LY4.out.below hu).more hu.size)
        rw [NL.out, NY.out, HQA.out] at h
        refine h.mono fun _ _ h => ?_
        obtain ⟨A, c, h1, h2, h3⟩ := h
        rw [HNA.out] at h1 h2
        exact ⟨_, h1, hx.step h3, h3, A, c, rfl, h2⟩
      have CRM : Hid (∀ w', BoxL wd [(w.heap.size, .slice Al nl cl), (gx, .slice (some ⟨ga, 0, none⟩) nl ka), (p9, .slice A5 na c5), (p9 + 1, .slice A6 nb c6), (p11, .slice A7 na c7), (p11 + 1, .slice A8 nb c8)] w' → Calls Tryz.prog 18 #[.slice Ay ny cy] w' fun e w'' => ∃ v, e = .returned v ∧ BoxL wd [(w.heap.size, .slice Al nl cl), (gx, .slice (some ⟨ga, 0, none⟩) nl ka), (p9, .slice A5 na c5), (p9 + 1, .slice A6 nb c6), (p11, .slice A7 na c7), (p11 + 1, .slice A8 nb c8)] w'' ∧ Below w'.heap.size w' w'' ∧ LAtV nb qb v w'') := fun w' hx => by
        have hu := U6.out w' hx
        have h := rmax_any Ay bys cy w' (by have := NY.out; unfold maxLen; omega) (by omega) ((LY4.out.below hu).more hu.size)
        rw [NY.out, HQB.out] at h
        refine h.mono fun _ _ h => ?_
        obtain ⟨A, c, h1, h2, h3⟩ := h
        rw [HNB.out] at h1 h2
        exact ⟨_, h1, hx.step h3, h3, A, c, rfl, h2⟩
      have CSA : Hid (∀ (w' : World) (A : Option Addr) (c : Nat), BoxL wd [(w.heap.size, .slice Al nl cl), (gx, .slice (some ⟨ga, 0, none⟩) nl ka), (p9, .slice A5 na c5), (p9 + 1, .slice A6 nb c6), (p11, .slice A7 na c7), (p11 + 1, .slice A8 nb c8)] w' → LAt w' A na c qa → Calls Tryz.prog 16 #[.agg #[.slice A5 na c5], .agg #[.slice A na c]] w' (HasPost w' true)) := fun w' A c hx hl => by
        have ho := own_below HRA.out hx.1
        have h3 := hl.2.1
        rw [← HNA.out] at ho ⊢
        obtain ⟨_, h4, _⟩ := own_lev ho
        exact same_any A5 A qa qa c5 c w' (by have := HNA.out; unfold maxLen; omega) (by have := HNA.out; unfold maxLen; omega) h4 h3 true (by simp)
      have CSB : Hid (∀ (w' : World) (A : Option Addr) (c : Nat), BoxL wd [(w.heap.size, .slice Al nl cl), (gx, .slice (some ⟨ga, 0, none⟩) nl ka), (p9, .slice A5 na c5), (p9 + 1, .slice A6 nb c6), (p11, .slice A7 na c7), (p11 + 1, .slice A8 nb c8)] w' → LAt w' A nb c qb → Calls Tryz.prog 16 #[.agg #[.slice A6 nb c6], .agg #[.slice A nb c]] w' (HasPost w' true)) := fun w' A c hx hl => by
        have ho := own_below HRB.out hx.1
        have h3 := hl.2.1
        rw [← HNB.out] at ho ⊢
        obtain ⟨_, h4, _⟩ := own_lev ho
        exact same_any A6 A qb qb c6 c w' (by have := HNB.out; unfold maxLen; omega) (by have := HNB.out; unfold maxLen; omega) h4 h3 true (by simp)
      have CV : Hid (∀ w', BoxL wd [(w.heap.size, .slice Al nl cl), (gx, .slice (some ⟨ga, 0, none⟩) nl ka), (p9, .slice A5 na c5), (p9 + 1, .slice A6 nb c6), (p11, .slice A7 na c7), (p11 + 1, .slice A8 nb c8)] w' → Calls Tryz.prog 19 #[.agg #[.slice (some ⟨ga, 0, none⟩) nl ka], .slice An nn cn] w' fun e w'' => ∃ v, e = .returned v ∧ BoxL wd [(w.heap.size, .slice Al nl cl), (gx, .slice (some ⟨ga, 0, none⟩) nl ka), (p9, .slice A5 na c5), (p9 + 1, .slice A6 nb c6), (p11, .slice A7 na c7), (p11 + 1, .slice A8 nb c8)] w'' ∧ Below w'.heap.size w' w'' ∧ v = .int .i64 vv) := fun w' hx => by
        have hu := U6.out w' hx
        have h := value_all (some ⟨ga, 0, none⟩) An pl ns ka cn w' (by have := NL.out; unfold Few; omega) (by have := NN.out; unfold maxLen; omega) ((LX0.out.below hu).more hu.size) ((LN4.out.below hu).more hu.size) (fun e => by cases e)
        rw [NL.out, NN.out, HVV.out] at h
        exact h.mono fun _ _ h => ⟨_, h.1, hx.step h.2, h.2, rfl⟩
      have CRV : Hid (∀ w', BoxL wd [(w.heap.size, .slice Al nl cl), (gx, .slice (some ⟨ga, 0, none⟩) nl ka), (p9, .slice A5 na c5), (p9 + 1, .slice A6 nb c6), (p11, .slice A7 na c7), (p11 + 1, .slice A8 nb c8)] w' → Calls Tryz.prog 20 #[.agg #[.slice Al nl cl], .slice An nn cn] w' fun e w'' => ∃ v, e = .returned v ∧ BoxL wd [(w.heap.size, .slice Al nl cl), (gx, .slice (some ⟨ga, 0, none⟩) nl ka), (p9, .slice A5 na c5), (p9 + 1, .slice A6 nb c6), (p11, .slice A7 na c7), (p11 + 1, .slice A8 nb c8)] w'' ∧ Below w'.heap.size w' w'' ∧ v = .int .i64 vv) := fun w' hx => by
        have hu := U6.out w' hx
        have h := rvalue_any Al An pl ns cl cn w' (by have := NL.out; omega) (by have := NN.out; unfold maxLen; omega) ((LA4.out.below hu).more hu.size) ((LN4.out.below hu).more hu.size) CA.out
        rw [NL.out, NN.out, HVV.out] at h
        exact h.mono fun _ _ h => ⟨_, h.1, hx.step h.2, h.2, rfl⟩
      have CK1 : Hid (∀ w', Below w4.heap.size w4 w' → Calls Tryz.prog 11 #[.agg #[.slice (some ⟨ga, 0, none⟩) nl ka], .agg #[.slice Al nl cl]] w' (HasPost w' true)) := fun w' hx =>
        keptLevel_any Al pl cl nl ga ka w' NL.out (by omega) (own_cap HRA4.out).1 ((LA4.out.below hx).more hx.size) ((LX.out.below hx).more hx.size)
      have CK2 : Hid (∀ w', Below w4.heap.size w4 w' → Calls Tryz.prog 21 #[.slice (some ⟨gy, 0, none⟩) ny ky, .slice Ay ny cy] w' (HasPost w' true)) := fun w' hx =>
        keptLevels_any Ay bys cy ny gy ky _ w' NY.out (by omega) (fun l hl => by have := H60.out l hl; omega) ((LY4.out.below hx).more hx.size) (HLR4.out.below hx)
      have CAP : Hid (∀ (w' : World) (x : Value), BoxL wd [(w.heap.size, .slice Al nl cl), (gx, .slice (some ⟨ga, 0, none⟩) nl ka), (p9, .slice A5 na c5), (p9 + 1, .slice A6 nb c6), (p11, .slice A7 na c7), (p11 + 1, .slice A8 nb c8)] w' → Four wd.heap.size (.slice A5 na c5) (.slice A6 nb c6) (.slice A7 na c7) (.slice A8 nb c8) x w' → Calls Tryz.prog 12 #[x] w' fun e w'' => ∃ v, e = .returned v ∧ Below w4.heap.size wd w'' ∧ True ∧ v = .bool true) := fun w' x hx ht => by
        have hf := fleet4 (p := (A5, na, c5)) (q := (A6, nb, c6)) (r := (A7, na, c7)) (s := (A8, nb, c8)) (own_below HRA.out hx.1) (own_below HRB.out hx.1) (own_below HRC.out hx.1) (own_below HRD.out hx.1) HA7L.out HM7L.out HRCL.out ⟨hs5, by omega, hs8⟩
        refine (apart4 (p := (A5, na, c5)) (q := (A6, nb, c6)) (r := (A7, na, c7)) (s := (A8, nb, c8)) ht h4d hx.1.size hf ⟨by show na ≤ 1000000; omega, by show nb ≤ 1000000; omega, by show na ≤ 1000000; omega, by show nb ≤ 1000000; omega⟩).mono fun _ _ h => ?_
        exact ⟨_, h.1, (hx.1.mono h4d).trans h.2, trivial, rfl⟩
      clear E1 D7 D9 D10 D11 D12
      refine wp_region_twoP 40 (fun w' => BoxL wd [(w.heap.size, .slice Al nl cl), (gx, .slice (some ⟨ga, 0, none⟩) nl ka), (p9, .slice A5 na c5), (p9 + 1, .slice A6 nb c6), (p11, .slice A7 na c7), (p11 + 1, .slice A8 nb c8)] w') (fun w' => Below w4.heap.size wd w') (fun w1 w2 : World => Below w1.heap.size w1 w2) (fun _ _ : World => True) (fun _ _ : World => True) [(fun (x : Value) (_ : World) => x = (.agg #[.slice A5 na c5] : Value)), (fun (x : Value) (_ : World) => x = (.agg #[.slice Al nl cl] : Value)), (fun (x : Value) (_ : World) => x = (.slice Ay ny cy : Value)), (fun (x : Value) (w : World) => LAtV na qa x w), (fun (x : Value) (_ : World) => x = (.bool true : Value)), (fun (x : Value) (_ : World) => x = (.bool true : Value)), (fun (x : Value) (_ : World) => x = (.agg #[.slice A6 nb c6] : Value)), (fun (x : Value) (_ : World) => x = (.slice Ay ny cy : Value)), (fun (x : Value) (w : World) => LAtV nb qb x w), (fun (x : Value) (_ : World) => x = (.bool true : Value)), (fun (x : Value) (_ : World) => x = (.bool true : Value)), (fun (x : Value) (_ : World) => x = (.bool true : Value)), (fun (x : Value) (_ : World) => x = (.agg #[.slice (some ⟨ga, 0, none⟩) nl ka] : Value)), (fun (x : Value) (_ : World) => x = (.slice An nn cn : Value)), (fun (x : Value) (_ : World) => x = (.int .i64 vv : Value)), (fun (x : Value) (_ : World) => x = (.agg #[.slice Al nl cl] : Value)), (fun (x : Value) (_ : World) => x = (.slice An nn cn : Value)), (fun (x : Value) (_ : World) => x = (.int .i64 vv : Value)), (fun (x : Value) (_ : World) => x = (.bool true : Value)), (fun (x : Value) (_ : World) => x = (.bool true : Value)), (fun (x : Value) (_ : World) => x = (.bool true : Value)), (fun (x : Value) (_ : World) => x = (.agg #[.slice (some ⟨ga, 0, none⟩) nl ka] : Value)), (fun (x : Value) (_ : World) => x = (.agg #[.slice Al nl cl] : Value)), (fun (x : Value) (_ : World) => x = (.bool true : Value)), (fun (x : Value) (_ : World) => x = (.bool true : Value)), (fun (x : Value) (_ : World) => x = (.bool true : Value)), (fun (x : Value) (_ : World) => x = (.slice (some ⟨gy, 0, none⟩) ny ky : Value)), (fun (x : Value) (_ : World) => x = (.slice Ay ny cy : Value)), (fun (x : Value) (_ : World) => x = (.bool true : Value)), (fun (x : Value) (_ : World) => x = (.bool true : Value)), (fun (x : Value) (_ : World) => x = (.bool true : Value)), (fun (x : Value) (_ : World) => x = (.agg #[.slice A5 na c5] : Value)), (fun (x : Value) (w : World) => OneRow wd.heap.size (.slice A5 na c5) x w), (fun (x : Value) (_ : World) => x = (.agg #[.slice A6 nb c6] : Value)), (fun (x : Value) (w : World) => OneRow wd.heap.size (.slice A6 nb c6) x w), (fun (x : Value) (_ : World) => x = (.agg #[.slice A7 na c7] : Value)), (fun (x : Value) (w : World) => OneRow wd.heap.size (.slice A7 na c7) x w), (fun (x : Value) (_ : World) => x = (.agg #[.slice A8 nb c8] : Value)), (fun (x : Value) (w : World) => OneRow wd.heap.size (.slice A8 nb c8) x w), (fun (x : Value) (w : World) => Four wd.heap.size (.slice A5 na c5) (.slice A6 nb c6) (.slice A7 na c7) (.slice A8 nb c8) x w)] [(fun (x : Value) (_ : World) => x = (.agg #[.slice A5 na c5] : Value)), (fun (x : Value) (_ : World) => x = (.agg #[.slice Al nl cl] : Value)), (fun (x : Value) (_ : World) => x = (.slice Ay ny cy : Value)), (fun _ _ => True), (fun (x : Value) (_ : World) => x = (.bool true : Value)), (fun (x : Value) (_ : World) => x = (.bool true : Value)), (fun (x : Value) (_ : World) => x = (.agg #[.slice A6 nb c6] : Value)), (fun (x : Value) (_ : World) => x = (.slice Ay ny cy : Value)), (fun _ _ => True), (fun (x : Value) (_ : World) => x = (.bool true : Value)), (fun (x : Value) (_ : World) => x = (.bool true : Value)), (fun (x : Value) (_ : World) => x = (.bool true : Value)), (fun (x : Value) (_ : World) => x = (.agg #[.slice (some ⟨ga, 0, none⟩) nl ka] : Value)), (fun (x : Value) (_ : World) => x = (.slice An nn cn : Value)), (fun (x : Value) (_ : World) => x = (.int .i64 vv : Value)), (fun (x : Value) (_ : World) => x = (.agg #[.slice Al nl cl] : Value)), (fun (x : Value) (_ : World) => x = (.slice An nn cn : Value)), (fun (x : Value) (_ : World) => x = (.int .i64 vv : Value)), (fun (x : Value) (_ : World) => x = (.bool true : Value)), (fun (x : Value) (_ : World) => x = (.bool true : Value)), (fun (x : Value) (_ : World) => x = (.bool true : Value)), (fun (x : Value) (_ : World) => x = (.agg #[.slice (some ⟨ga, 0, none⟩) nl ka] : Value)), (fun (x : Value) (_ : World) => x = (.agg #[.slice Al nl cl] : Value)), (fun (x : Value) (_ : World) => x = (.bool true : Value)), (fun (x : Value) (_ : World) => x = (.bool true : Value)), (fun (x : Value) (_ : World) => x = (.bool true : Value)), (fun (x : Value) (_ : World) => x = (.slice (some ⟨gy, 0, none⟩) ny ky : Value)), (fun (x : Value) (_ : World) => x = (.slice Ay ny cy : Value)), (fun (x : Value) (_ : World) => x = (.bool true : Value)), (fun (x : Value) (_ : World) => x = (.bool true : Value)), (fun (x : Value) (_ : World) => x = (.bool true : Value)), (fun (x : Value) (_ : World) => x = (.agg #[.slice A5 na c5] : Value)), (fun _ _ => True), (fun (x : Value) (_ : World) => x = (.agg #[.slice A6 nb c6] : Value)), (fun _ _ => True), (fun (x : Value) (_ : World) => x = (.agg #[.slice A7 na c7] : Value)), (fun _ _ => True), (fun (x : Value) (_ : World) => x = (.agg #[.slice A8 nb c8] : Value)), (fun _ _ => True), (fun _ _ => True), (fun (x : Value) (_ : World) => x = (.bool true : Value)), (fun (x : Value) (_ : World) => x = (.bool true : Value)), (fun (x : Value) (_ : World) => x = (.bool true : Value)), (fun (x : Value) (_ : World) => x = (.slice (some ⟨gy, 0, none⟩) ny ky : Value)), (fun (x : Value) (_ : World) => x = (.slice Ay ny cy : Value)), (fun (x : Value) (_ : World) => x = (.bool true : Value)), (fun (x : Value) (_ : World) => x = (.bool true : Value)), (fun (x : Value) (_ : World) => x = (.bool true : Value)), (fun (x : Value) (_ : World) => x = (.bool true : Value)), (fun (x : Value) (_ : World) => x = (.bool true : Value)), (fun (x : Value) (_ : World) => x = (.bool true : Value))] [(32, NewSl), (34, NewSl), (36, NewSl), (38, NewSl)] [⟨32, 34, FarSl⟩, ⟨32, 36, FarSl⟩, ⟨32, 38, FarSl⟩, ⟨34, 36, FarSl⟩, ⟨34, 38, FarSl⟩, ⟨36, 38, FarSl⟩] [⟨some 38, .load 24 (.tmp 9), none, []⟩, ⟨some 39, .load 24 (.tmp 3), none, []⟩, ⟨some 40, .move (.tmp 1), none, []⟩, ⟨some 41, .call { callee := .value (.func 17), args := #[.tmp 39, .tmp 40], argTypes := #[24, 31] }, none, [(39, 1), (40, 2)]⟩, ⟨some 42, .call { callee := .value (.func 16), args := #[.tmp 38, .tmp 41], argTypes := #[24, 24] }, none, [(38, 0), (41, 3)]⟩, ⟨some 43, .move (.tmp 42), none, [(42, 4)]⟩, ⟨some 44, .load 24 (.tmp 10), some (some 43, true), [(43, 5)]⟩, ⟨some 45, .move (.tmp 1), some (some 43, true), [(43, 5)]⟩, ⟨some 46, .call { callee := .value (.func 18), args := #[.tmp 45], argTypes := #[31] }, some (some 43, true), [(43, 5), (45, 7)]⟩, ⟨some 47, .call { callee := .value (.func 16), args := #[.tmp 44, .tmp 46], argTypes := #[24, 24] }, some (some 43, true), [(43, 5), (44, 6), (46, 8)]⟩, ⟨some 48, .pick (.tmp 43) (.tmp 47) (.const (Value.bool false)), none, [(43, 5), (47, 9)]⟩, ⟨some 49, .move (.tmp 48), none, [(48, 10)]⟩, ⟨some 50, .load 24 (.tmp 7), some (some 49, true), [(49, 11)]⟩, ⟨some 51, .move (.tmp 2), some (some 49, true), [(49, 11)]⟩, ⟨some 52, .call { callee := .value (.func 19), args := #[.tmp 50, .tmp 51], argTypes := #[24, 33] }, some (some 49, true), [(49, 11), (50, 12), (51, 13)]⟩, ⟨some 53, .load 24 (.tmp 3), some (some 49, true), [(49, 11)]⟩, ⟨some 54, .move (.tmp 2), some (some 49, true), [(49, 11)]⟩, ⟨some 55, .call { callee := .value (.func 20), args := #[.tmp 53, .tmp 54], argTypes := #[24, 33] }, some (some 49, true), [(49, 11), (53, 15), (54, 16)]⟩, ⟨some 56, .binOp .eql 3 (.tmp 52) (.tmp 55) 3, some (some 49, true), [(49, 11), (52, 14), (55, 17)]⟩, ⟨some 57, .pick (.tmp 49) (.tmp 56) (.const (Value.bool false)), none, [(49, 11), (56, 18)]⟩, ⟨some 58, .move (.tmp 57), none, [(57, 19)]⟩, ⟨some 59, .load 24 (.tmp 7), some (some 58, true), [(58, 20)]⟩, ⟨some 60, .load 24 (.tmp 3), some (some 58, true), [(58, 20)]⟩, ⟨some 61, .call { callee := .value (.func 11), args := #[.tmp 59, .tmp 60], argTypes := #[24, 24] }, some (some 58, true), [(58, 20), (59, 21), (60, 22)]⟩, ⟨some 62, .pick (.tmp 58) (.tmp 61) (.const (Value.bool false)), none, [(58, 20), (61, 23)]⟩, ⟨some 63, .move (.tmp 62), none, [(62, 24)]⟩, ⟨some 64, .move (.tmp 8), some (some 63, true), [(63, 25)]⟩, ⟨some 65, .move (.tmp 1), some (some 63, true), [(63, 25)]⟩, ⟨some 66, .call { callee := .value (.func 21), args := #[.tmp 64, .tmp 65], argTypes := #[31, 31] }, some (some 63, true), [(63, 25), (64, 26), (65, 27)]⟩, ⟨some 67, .pick (.tmp 63) (.tmp 66) (.const (Value.bool false)), none, [(63, 25), (66, 28)]⟩, ⟨some 68, .move (.tmp 67), none, [(67, 29)]⟩, ⟨some 69, .load 24 (.tmp 9), some (some 68, true), [(68, 30)]⟩, ⟨some 70, .buildSlice 31 1 #[(0, .tmp 69)], some (some 68, true), [(68, 30), (69, 31)]⟩, ⟨some 71, .load 24 (.tmp 10), some (some 68, true), [(68, 30)]⟩, ⟨some 72, .buildSlice 31 1 #[(0, .tmp 71)], some (some 68, true), [(68, 30), (71, 33)]⟩, ⟨some 73, .load 24 (.tmp 11), some (some 68, true), [(68, 30)]⟩, ⟨some 74, .buildSlice 31 1 #[(0, .tmp 73)], some (some 68, true), [(68, 30), (73, 35)]⟩, ⟨some 75, .load 24 (.tmp 12), some (some 68, true), [(68, 30)]⟩, ⟨some 76, .buildSlice 31 1 #[(0, .tmp 75)], some (some 68, true), [(68, 30), (75, 37)]⟩, ⟨some 77, .buildSlice 32 4 #[(0, .tmp 70), (1, .tmp 72), (2, .tmp 74), (3, .tmp 76)], some (some 68, true), [(68, 30), (70, 32), (72, 34), (74, 36), (76, 38)]⟩] [⟨some 78, .call { callee := .value (.func 12), args := #[.tmp 77], argTypes := #[32] }, some (some 68, true), [(68, 30), (77, 39)]⟩, ⟨some 79, .pick (.tmp 68) (.tmp 78) (.const (Value.bool false)), none, [(68, 30), (78, 40)]⟩, ⟨some 80, .move (.tmp 79), none, [(79, 41)]⟩, ⟨some 81, .move (.tmp 8), some (some 80, true), [(80, 42)]⟩, ⟨some 82, .move (.tmp 1), some (some 80, true), [(80, 42)]⟩, ⟨some 83, .call { callee := .value (.func 21), args := #[.tmp 81, .tmp 82], argTypes := #[31, 31] }, some (some 80, true), [(80, 42), (81, 43), (82, 44)]⟩, ⟨some 84, .pick (.tmp 80) (.tmp 83) (.const (Value.bool false)), none, [(80, 42), (83, 45)]⟩, ⟨some 85, .move (.tmp 84), none, [(84, 46)]⟩, ⟨some 86, .call { callee := .value (.func 6), args := #[], argTypes := #[] }, some (some 85, true), [(85, 47)]⟩, ⟨some 87, .pick (.tmp 85) (.tmp 86) (.const (Value.bool false)), none, [(85, 47), (86, 48)]⟩, ⟨some 6, .assign (.tmp 87), none, [(87, 49)]⟩] [some 38, some 39, some 40, some 41, some 42, some 43, some 44, some 45, some 46, some 47, some 48, some 49, some 50, some 51, some 52, some 53, some 54, some 55, some 56, some 57, some 58, some 59, some 60, some 61, some 62, some 63, some 64, some 65, some 66, some 67, some 68, some 69, some 70, some 71, some 72, some 73, some 74, some 75, some 76, some 77, some 78, some 79, some 80, some 81, some 82, some 83, some 84, some 85, some 86, some 87, some 6] (by kernel_rfl) (by kernel_rfl) (by kernel_rfl) (by kernel_rfl) (by kernel_rfl) (by kernel_rfl) (by kernel_rfl) (by kernel_rfl) (by kernel_rfl) (by decide) (by kernel_rfl) ?hS ?hmono ?hpr ?hconv ?hmono2 ?hsteps ?hsteps2 ?hfin
      case hS => exact hS
      case hmono =>
        refine MonoL.cons (fun x w1 w2 _ _ _ hx => hx) ?_
        refine MonoL.cons (fun x w1 w2 _ _ _ hx => hx) ?_
        refine MonoL.cons (fun x w1 w2 _ _ _ hx => hx) ?_
        refine MonoL.cons (fun x w1 w2 _ _ hR hx => ?_) ?_
        · exact hx.mono hR
        refine MonoL.cons (fun x w1 w2 _ _ _ hx => hx) ?_
        refine MonoL.cons (fun x w1 w2 _ _ _ hx => hx) ?_
        refine MonoL.cons (fun x w1 w2 _ _ _ hx => hx) ?_
        refine MonoL.cons (fun x w1 w2 _ _ _ hx => hx) ?_
        refine MonoL.cons (fun x w1 w2 _ _ hR hx => ?_) ?_
        · exact hx.mono hR
        refine MonoL.cons (fun x w1 w2 _ _ _ hx => hx) ?_
        refine MonoL.cons (fun x w1 w2 _ _ _ hx => hx) ?_
        refine MonoL.cons (fun x w1 w2 _ _ _ hx => hx) ?_
        refine MonoL.cons (fun x w1 w2 _ _ _ hx => hx) ?_
        refine MonoL.cons (fun x w1 w2 _ _ _ hx => hx) ?_
        refine MonoL.cons (fun x w1 w2 _ _ _ hx => hx) ?_
        refine MonoL.cons (fun x w1 w2 _ _ _ hx => hx) ?_
        refine MonoL.cons (fun x w1 w2 _ _ _ hx => hx) ?_
        refine MonoL.cons (fun x w1 w2 _ _ _ hx => hx) ?_
        refine MonoL.cons (fun x w1 w2 _ _ _ hx => hx) ?_
        refine MonoL.cons (fun x w1 w2 _ _ _ hx => hx) ?_
        refine MonoL.cons (fun x w1 w2 _ _ _ hx => hx) ?_
        refine MonoL.cons (fun x w1 w2 _ _ _ hx => hx) ?_
        refine MonoL.cons (fun x w1 w2 _ _ _ hx => hx) ?_
        refine MonoL.cons (fun x w1 w2 _ _ _ hx => hx) ?_
        refine MonoL.cons (fun x w1 w2 _ _ _ hx => hx) ?_
        refine MonoL.cons (fun x w1 w2 _ _ _ hx => hx) ?_
        refine MonoL.cons (fun x w1 w2 _ _ _ hx => hx) ?_
        refine MonoL.cons (fun x w1 w2 _ _ _ hx => hx) ?_
        refine MonoL.cons (fun x w1 w2 _ _ _ hx => hx) ?_
        refine MonoL.cons (fun x w1 w2 _ _ _ hx => hx) ?_
        refine MonoL.cons (fun x w1 w2 _ _ _ hx => hx) ?_
        refine MonoL.cons (fun x w1 w2 _ _ _ hx => hx) ?_
        refine MonoL.cons (fun x w1 w2 _ _ hR hx => ?_) ?_
        · exact hx.mono hR
        refine MonoL.cons (fun x w1 w2 _ _ _ hx => hx) ?_
        refine MonoL.cons (fun x w1 w2 _ _ hR hx => ?_) ?_
        · exact hx.mono hR
        refine MonoL.cons (fun x w1 w2 _ _ _ hx => hx) ?_
        refine MonoL.cons (fun x w1 w2 _ _ hR hx => ?_) ?_
        · exact hx.mono hR
        refine MonoL.cons (fun x w1 w2 _ _ _ hx => hx) ?_
        refine MonoL.cons (fun x w1 w2 _ _ hR hx => ?_) ?_
        · exact hx.mono hR
        refine MonoL.cons (fun x w1 w2 _ _ hR hx => ?_) ?_
        · exact hx.mono hR
        exact MonoL.nil
      case hpr =>
        intro q hq
        simp only [List.mem_cons, List.not_mem_nil, or_false] at hq
        rcases hq with rfl | rfl | rfl | rfl | rfl | rfl
        · exact ⟨by decide, fun x v w _ hx hn => (far_sl (OneRow.at (B := wd.heap.size) (u := .slice A5 na c5) hx) hn).1, fun x v w _ hx hn => (far_sl (OneRow.at (B := wd.heap.size) (u := .slice A6 nb c6) hx) hn).2⟩
        · exact ⟨by decide, fun x v w _ hx hn => (far_sl (OneRow.at (B := wd.heap.size) (u := .slice A5 na c5) hx) hn).1, fun x v w _ hx hn => (far_sl (OneRow.at (B := wd.heap.size) (u := .slice A7 na c7) hx) hn).2⟩
        · exact ⟨by decide, fun x v w _ hx hn => (far_sl (OneRow.at (B := wd.heap.size) (u := .slice A5 na c5) hx) hn).1, fun x v w _ hx hn => (far_sl (OneRow.at (B := wd.heap.size) (u := .slice A8 nb c8) hx) hn).2⟩
        · exact ⟨by decide, fun x v w _ hx hn => (far_sl (OneRow.at (B := wd.heap.size) (u := .slice A6 nb c6) hx) hn).1, fun x v w _ hx hn => (far_sl (OneRow.at (B := wd.heap.size) (u := .slice A7 na c7) hx) hn).2⟩
        · exact ⟨by decide, fun x v w _ hx hn => (far_sl (OneRow.at (B := wd.heap.size) (u := .slice A6 nb c6) hx) hn).1, fun x v w _ hx hn => (far_sl (OneRow.at (B := wd.heap.size) (u := .slice A8 nb c8) hx) hn).2⟩
        · exact ⟨by decide, fun x v w _ hx hn => (far_sl (OneRow.at (B := wd.heap.size) (u := .slice A7 na c7) hx) hn).1, fun x v w _ hx hn => (far_sl (OneRow.at (B := wd.heap.size) (u := .slice A8 nb c8) hx) hn).2⟩
      case hconv =>
        refine ConvL.cons (fun x w1 w2 _ _ _ hx => hx) ?_
        refine ConvL.cons (fun x w1 w2 _ _ _ hx => hx) ?_
        refine ConvL.cons (fun x w1 w2 _ _ _ hx => hx) ?_
        refine ConvL.cons (fun x w1 w2 _ _ _ hx => trivial) ?_
        refine ConvL.cons (fun x w1 w2 _ _ _ hx => hx) ?_
        refine ConvL.cons (fun x w1 w2 _ _ _ hx => hx) ?_
        refine ConvL.cons (fun x w1 w2 _ _ _ hx => hx) ?_
        refine ConvL.cons (fun x w1 w2 _ _ _ hx => hx) ?_
        refine ConvL.cons (fun x w1 w2 _ _ _ hx => trivial) ?_
        refine ConvL.cons (fun x w1 w2 _ _ _ hx => hx) ?_
        refine ConvL.cons (fun x w1 w2 _ _ _ hx => hx) ?_
        refine ConvL.cons (fun x w1 w2 _ _ _ hx => hx) ?_
        refine ConvL.cons (fun x w1 w2 _ _ _ hx => hx) ?_
        refine ConvL.cons (fun x w1 w2 _ _ _ hx => hx) ?_
        refine ConvL.cons (fun x w1 w2 _ _ _ hx => hx) ?_
        refine ConvL.cons (fun x w1 w2 _ _ _ hx => hx) ?_
        refine ConvL.cons (fun x w1 w2 _ _ _ hx => hx) ?_
        refine ConvL.cons (fun x w1 w2 _ _ _ hx => hx) ?_
        refine ConvL.cons (fun x w1 w2 _ _ _ hx => hx) ?_
        refine ConvL.cons (fun x w1 w2 _ _ _ hx => hx) ?_
        refine ConvL.cons (fun x w1 w2 _ _ _ hx => hx) ?_
        refine ConvL.cons (fun x w1 w2 _ _ _ hx => hx) ?_
        refine ConvL.cons (fun x w1 w2 _ _ _ hx => hx) ?_
        refine ConvL.cons (fun x w1 w2 _ _ _ hx => hx) ?_
        refine ConvL.cons (fun x w1 w2 _ _ _ hx => hx) ?_
        refine ConvL.cons (fun x w1 w2 _ _ _ hx => hx) ?_
        refine ConvL.cons (fun x w1 w2 _ _ _ hx => hx) ?_
        refine ConvL.cons (fun x w1 w2 _ _ _ hx => hx) ?_
        refine ConvL.cons (fun x w1 w2 _ _ _ hx => hx) ?_
        refine ConvL.cons (fun x w1 w2 _ _ _ hx => hx) ?_
        refine ConvL.cons (fun x w1 w2 _ _ _ hx => hx) ?_
        refine ConvL.cons (fun x w1 w2 _ _ _ hx => hx) ?_
        refine ConvL.cons (fun x w1 w2 _ _ _ hx => trivial) ?_
        refine ConvL.cons (fun x w1 w2 _ _ _ hx => hx) ?_
        refine ConvL.cons (fun x w1 w2 _ _ _ hx => trivial) ?_
        refine ConvL.cons (fun x w1 w2 _ _ _ hx => hx) ?_
        refine ConvL.cons (fun x w1 w2 _ _ _ hx => trivial) ?_
        refine ConvL.cons (fun x w1 w2 _ _ _ hx => hx) ?_
        refine ConvL.cons (fun x w1 w2 _ _ _ hx => trivial) ?_
        refine ConvL.cons (fun x w1 w2 _ _ _ hx => trivial) ?_
        exact ConvL.nil
      case hmono2 =>
        refine MonoL.cons (fun x w1 w2 _ _ _ hx => hx) ?_
        refine MonoL.cons (fun x w1 w2 _ _ _ hx => hx) ?_
        refine MonoL.cons (fun x w1 w2 _ _ _ hx => hx) ?_
        refine MonoL.cons (fun x w1 w2 _ _ _ hx => hx) ?_
        refine MonoL.cons (fun x w1 w2 _ _ _ hx => hx) ?_
        refine MonoL.cons (fun x w1 w2 _ _ _ hx => hx) ?_
        refine MonoL.cons (fun x w1 w2 _ _ _ hx => hx) ?_
        refine MonoL.cons (fun x w1 w2 _ _ _ hx => hx) ?_
        refine MonoL.cons (fun x w1 w2 _ _ _ hx => hx) ?_
        refine MonoL.cons (fun x w1 w2 _ _ _ hx => hx) ?_
        refine MonoL.cons (fun x w1 w2 _ _ _ hx => hx) ?_
        refine MonoL.cons (fun x w1 w2 _ _ _ hx => hx) ?_
        refine MonoL.cons (fun x w1 w2 _ _ _ hx => hx) ?_
        refine MonoL.cons (fun x w1 w2 _ _ _ hx => hx) ?_
        refine MonoL.cons (fun x w1 w2 _ _ _ hx => hx) ?_
        refine MonoL.cons (fun x w1 w2 _ _ _ hx => hx) ?_
        refine MonoL.cons (fun x w1 w2 _ _ _ hx => hx) ?_
        refine MonoL.cons (fun x w1 w2 _ _ _ hx => hx) ?_
        refine MonoL.cons (fun x w1 w2 _ _ _ hx => hx) ?_
        refine MonoL.cons (fun x w1 w2 _ _ _ hx => hx) ?_
        refine MonoL.cons (fun x w1 w2 _ _ _ hx => hx) ?_
        refine MonoL.cons (fun x w1 w2 _ _ _ hx => hx) ?_
        refine MonoL.cons (fun x w1 w2 _ _ _ hx => hx) ?_
        refine MonoL.cons (fun x w1 w2 _ _ _ hx => hx) ?_
        refine MonoL.cons (fun x w1 w2 _ _ _ hx => hx) ?_
        refine MonoL.cons (fun x w1 w2 _ _ _ hx => hx) ?_
        refine MonoL.cons (fun x w1 w2 _ _ _ hx => hx) ?_
        refine MonoL.cons (fun x w1 w2 _ _ _ hx => hx) ?_
        refine MonoL.cons (fun x w1 w2 _ _ _ hx => hx) ?_
        refine MonoL.cons (fun x w1 w2 _ _ _ hx => hx) ?_
        refine MonoL.cons (fun x w1 w2 _ _ _ hx => hx) ?_
        refine MonoL.cons (fun x w1 w2 _ _ _ hx => hx) ?_
        refine MonoL.cons (fun x w1 w2 _ _ _ hx => hx) ?_
        refine MonoL.cons (fun x w1 w2 _ _ _ hx => hx) ?_
        refine MonoL.cons (fun x w1 w2 _ _ _ hx => hx) ?_
        refine MonoL.cons (fun x w1 w2 _ _ _ hx => hx) ?_
        refine MonoL.cons (fun x w1 w2 _ _ _ hx => hx) ?_
        refine MonoL.cons (fun x w1 w2 _ _ _ hx => hx) ?_
        refine MonoL.cons (fun x w1 w2 _ _ _ hx => hx) ?_
        refine MonoL.cons (fun x w1 w2 _ _ _ hx => hx) ?_
        refine MonoL.cons (fun x w1 w2 _ _ _ hx => hx) ?_
        refine MonoL.cons (fun x w1 w2 _ _ _ hx => hx) ?_
        refine MonoL.cons (fun x w1 w2 _ _ _ hx => hx) ?_
        refine MonoL.cons (fun x w1 w2 _ _ _ hx => hx) ?_
        refine MonoL.cons (fun x w1 w2 _ _ _ hx => hx) ?_
        refine MonoL.cons (fun x w1 w2 _ _ _ hx => hx) ?_
        refine MonoL.cons (fun x w1 w2 _ _ _ hx => hx) ?_
        refine MonoL.cons (fun x w1 w2 _ _ _ hx => hx) ?_
        refine MonoL.cons (fun x w1 w2 _ _ _ hx => hx) ?_
        refine MonoL.cons (fun x w1 w2 _ _ _ hx => hx) ?_
        refine MonoL.cons (fun x w1 w2 _ _ _ hx => hx) ?_
        exact MonoL.nil
      case hsteps =>
        refine StepsP.cons (fun (x : Value) (_ : World) => x = (.agg #[.slice A5 na c5] : Value)) [] rfl rfl rfl (fun oq hop _ wq hQS => ?_) ?_
        · exact StepFrom.load hop (by kernel_rfl) (load_level (hQS.2 (p9, .slice A5 na c5) (by simp))) (by kernel_rfl) hQS (Below.refl _ _) rfl
        refine StepsP.cons (fun (x : Value) (_ : World) => x = (.agg #[.slice Al nl cl] : Value)) [] rfl rfl rfl (fun oq hop _ wq hQS => ?_) ?_
        · exact StepFrom.load hop (by kernel_rfl) (load_level (hQS.2 (w.heap.size, .slice Al nl cl) (by simp))) (by kernel_rfl) hQS (Below.refl _ _) rfl
        refine StepsP.cons (fun (x : Value) (_ : World) => x = (.slice Ay ny cy : Value)) [] rfl rfl rfl (fun oq hop _ wq hQS => ?_) ?_
        · exact StepFrom.move hop (v := (.slice Ay ny cy : Value)) (by kernel_rfl) (by kernel_rfl) hQS (Below.refl _ _) rfl
        refine StepsP.cons (fun (x : Value) (w : World) => LAtV na qa x w) [(39, (fun (x : Value) (_ : World) => x = (.agg #[.slice Al nl cl] : Value))), (40, (fun (x : Value) (_ : World) => x = (.slice Ay ny cy : Value)))] rfl rfl rfl (fun oq hop _ wq hQS => ?_) ?_
        · refine StepFrom.more_eq ((.agg #[.slice Al nl cl] : Value)) ?_
          refine StepFrom.more_eq ((.slice Ay ny cy : Value)) ?_
          exact StepFrom.call hop (vs := [(.agg #[.slice Al nl cl] : Value), (.slice Ay ny cy : Value)]) (by kernel_rfl) (fun w => enter_rputs _ w) (by kernel_rfl) (CRP.out wq hQS)
        refine StepsP.cons (fun (x : Value) (_ : World) => x = (.bool true : Value)) [(38, (fun (x : Value) (_ : World) => x = (.agg #[.slice A5 na c5] : Value))), (41, (fun (x : Value) (w : World) => LAtV na qa x w))] rfl rfl rfl (fun oq hop _ wq hQS => ?_) ?_
        · refine StepFrom.more_eq ((.agg #[.slice A5 na c5] : Value)) ?_
          refine StepFrom.more fun x41 h41 => ?_
          obtain ⟨A41, c41, rfl, hl41⟩ := h41
          exact StepFrom.call hop (vs := [(.agg #[.slice A5 na c5] : Value), (.agg #[.slice A41 na c41] : Value)]) (by kernel_rfl) (fun w => enter_same _ w) (by kernel_rfl) ((CSA.out wq A41 c41 hQS hl41).mono (G6.out wq · · hQS))
        refine StepsP.cons (fun (x : Value) (_ : World) => x = (.bool true : Value)) [(42, (fun (x : Value) (_ : World) => x = (.bool true : Value)))] rfl rfl rfl (fun oq hop _ wq hQS => ?_) ?_
        · refine StepFrom.more_eq ((.bool true : Value)) ?_
          exact StepFrom.move hop (v := (.bool true : Value)) (by kernel_rfl) (by kernel_rfl) hQS (Below.refl _ _) rfl
        refine StepsP.cons (fun (x : Value) (_ : World) => x = (.agg #[.slice A6 nb c6] : Value)) [(43, (fun (x : Value) (_ : World) => x = (.bool true : Value)))] rfl rfl rfl (fun oq hop _ wq hQS => ?_) ?_
        · refine StepFrom.more_eq ((.bool true : Value)) ?_
          exact StepFrom.load hop (by kernel_rfl) (load_level (hQS.2 (p9 + 1, .slice A6 nb c6) (by simp))) (by kernel_rfl) hQS (Below.refl _ _) rfl
        refine StepsP.cons (fun (x : Value) (_ : World) => x = (.slice Ay ny cy : Value)) [(43, (fun (x : Value) (_ : World) => x = (.bool true : Value)))] rfl rfl rfl (fun oq hop _ wq hQS => ?_) ?_
        · refine StepFrom.more_eq ((.bool true : Value)) ?_
          exact StepFrom.move hop (v := (.slice Ay ny cy : Value)) (by kernel_rfl) (by kernel_rfl) hQS (Below.refl _ _) rfl
        refine StepsP.cons (fun (x : Value) (w : World) => LAtV nb qb x w) [(43, (fun (x : Value) (_ : World) => x = (.bool true : Value))), (45, (fun (x : Value) (_ : World) => x = (.slice Ay ny cy : Value)))] rfl rfl rfl (fun oq hop _ wq hQS => ?_) ?_
        · refine StepFrom.more_eq ((.bool true : Value)) ?_
          refine StepFrom.more_eq ((.slice Ay ny cy : Value)) ?_
          exact StepFrom.call hop (vs := [(.slice Ay ny cy : Value)]) (by kernel_rfl) (fun w => enter_rmax _ w) (by kernel_rfl) (CRM.out wq hQS)
        refine StepsP.cons (fun (x : Value) (_ : World) => x = (.bool true : Value)) [(43, (fun (x : Value) (_ : World) => x = (.bool true : Value))), (44, (fun (x : Value) (_ : World) => x = (.agg #[.slice A6 nb c6] : Value))), (46, (fun (x : Value) (w : World) => LAtV nb qb x w))] rfl rfl rfl (fun oq hop _ wq hQS => ?_) ?_
        · refine StepFrom.more_eq ((.bool true : Value)) ?_
          refine StepFrom.more_eq ((.agg #[.slice A6 nb c6] : Value)) ?_
          refine StepFrom.more fun x46 h46 => ?_
          obtain ⟨A46, c46, rfl, hl46⟩ := h46
          exact StepFrom.call hop (vs := [(.agg #[.slice A6 nb c6] : Value), (.agg #[.slice A46 nb c46] : Value)]) (by kernel_rfl) (fun w => enter_same _ w) (by kernel_rfl) ((CSB.out wq A46 c46 hQS hl46).mono (G6.out wq · · hQS))
        refine StepsP.cons (fun (x : Value) (_ : World) => x = (.bool true : Value)) [(43, (fun (x : Value) (_ : World) => x = (.bool true : Value))), (47, (fun (x : Value) (_ : World) => x = (.bool true : Value)))] rfl rfl rfl (fun oq hop _ wq hQS => ?_) ?_
        · refine StepFrom.more_eq ((.bool true : Value)) ?_
          refine StepFrom.more_eq ((.bool true : Value)) ?_
          exact StepFrom.pick hop (b := true) (vx := (.bool true : Value)) (vy := (Value.bool false : Value)) (by kernel_rfl) (by kernel_rfl) (by kernel_rfl) (by kernel_rfl) hQS (Below.refl _ _) rfl
        refine StepsP.cons (fun (x : Value) (_ : World) => x = (.bool true : Value)) [(48, (fun (x : Value) (_ : World) => x = (.bool true : Value)))] rfl rfl rfl (fun oq hop _ wq hQS => ?_) ?_
        · refine StepFrom.more_eq ((.bool true : Value)) ?_
          exact StepFrom.move hop (v := (.bool true : Value)) (by kernel_rfl) (by kernel_rfl) hQS (Below.refl _ _) rfl
        refine StepsP.cons (fun (x : Value) (_ : World) => x = (.agg #[.slice (some ⟨ga, 0, none⟩) nl ka] : Value)) [(49, (fun (x : Value) (_ : World) => x = (.bool true : Value)))] rfl rfl rfl (fun oq hop _ wq hQS => ?_) ?_
        · refine StepFrom.more_eq ((.bool true : Value)) ?_
          exact StepFrom.load hop (by kernel_rfl) (load_level (hQS.2 (gx, .slice (some ⟨ga, 0, none⟩) nl ka) (by simp))) (by kernel_rfl) hQS (Below.refl _ _) rfl
        refine StepsP.cons (fun (x : Value) (_ : World) => x = (.slice An nn cn : Value)) [(49, (fun (x : Value) (_ : World) => x = (.bool true : Value)))] rfl rfl rfl (fun oq hop _ wq hQS => ?_) ?_
        · refine StepFrom.more_eq ((.bool true : Value)) ?_
          exact StepFrom.move hop (v := (.slice An nn cn : Value)) (by kernel_rfl) (by kernel_rfl) hQS (Below.refl _ _) rfl
        refine StepsP.cons (fun (x : Value) (_ : World) => x = (.int .i64 vv : Value)) [(49, (fun (x : Value) (_ : World) => x = (.bool true : Value))), (50, (fun (x : Value) (_ : World) => x = (.agg #[.slice (some ⟨ga, 0, none⟩) nl ka] : Value))), (51, (fun (x : Value) (_ : World) => x = (.slice An nn cn : Value)))] rfl rfl rfl (fun oq hop _ wq hQS => ?_) ?_
        · refine StepFrom.more_eq ((.bool true : Value)) ?_
          refine StepFrom.more_eq ((.agg #[.slice (some ⟨ga, 0, none⟩) nl ka] : Value)) ?_
          refine StepFrom.more_eq ((.slice An nn cn : Value)) ?_
          exact StepFrom.call hop (vs := [(.agg #[.slice (some ⟨ga, 0, none⟩) nl ka] : Value), (.slice An nn cn : Value)]) (by kernel_rfl) (fun w => enter_value _ w) (by kernel_rfl) (CV.out wq hQS)
        refine StepsP.cons (fun (x : Value) (_ : World) => x = (.agg #[.slice Al nl cl] : Value)) [(49, (fun (x : Value) (_ : World) => x = (.bool true : Value)))] rfl rfl rfl (fun oq hop _ wq hQS => ?_) ?_
        · refine StepFrom.more_eq ((.bool true : Value)) ?_
          exact StepFrom.load hop (by kernel_rfl) (load_level (hQS.2 (w.heap.size, .slice Al nl cl) (by simp))) (by kernel_rfl) hQS (Below.refl _ _) rfl
        refine StepsP.cons (fun (x : Value) (_ : World) => x = (.slice An nn cn : Value)) [(49, (fun (x : Value) (_ : World) => x = (.bool true : Value)))] rfl rfl rfl (fun oq hop _ wq hQS => ?_) ?_
        · refine StepFrom.more_eq ((.bool true : Value)) ?_
          exact StepFrom.move hop (v := (.slice An nn cn : Value)) (by kernel_rfl) (by kernel_rfl) hQS (Below.refl _ _) rfl
        refine StepsP.cons (fun (x : Value) (_ : World) => x = (.int .i64 vv : Value)) [(49, (fun (x : Value) (_ : World) => x = (.bool true : Value))), (53, (fun (x : Value) (_ : World) => x = (.agg #[.slice Al nl cl] : Value))), (54, (fun (x : Value) (_ : World) => x = (.slice An nn cn : Value)))] rfl rfl rfl (fun oq hop _ wq hQS => ?_) ?_
        · refine StepFrom.more_eq ((.bool true : Value)) ?_
          refine StepFrom.more_eq ((.agg #[.slice Al nl cl] : Value)) ?_
          refine StepFrom.more_eq ((.slice An nn cn : Value)) ?_
          exact StepFrom.call hop (vs := [(.agg #[.slice Al nl cl] : Value), (.slice An nn cn : Value)]) (by kernel_rfl) (fun w => enter_rvalueL _ w) (by kernel_rfl) (CRV.out wq hQS)
        refine StepsP.cons (fun (x : Value) (_ : World) => x = (.bool true : Value)) [(49, (fun (x : Value) (_ : World) => x = (.bool true : Value))), (52, (fun (x : Value) (_ : World) => x = (.int .i64 vv : Value))), (55, (fun (x : Value) (_ : World) => x = (.int .i64 vv : Value)))] rfl rfl rfl (fun oq hop _ wq hQS => ?_) ?_
        · refine StepFrom.more_eq ((.bool true : Value)) ?_
          refine StepFrom.more_eq ((.int .i64 vv : Value)) ?_
          refine StepFrom.more_eq ((.int .i64 vv : Value)) ?_
          exact StepFrom.bin hop (vx := (.int .i64 vv : Value)) (vy := (.int .i64 vv : Value)) (by kernel_rfl) (by kernel_rfl) (eql_int_same _ _ _ _) (by kernel_rfl) hQS (Below.refl _ _) rfl
        refine StepsP.cons (fun (x : Value) (_ : World) => x = (.bool true : Value)) [(49, (fun (x : Value) (_ : World) => x = (.bool true : Value))), (56, (fun (x : Value) (_ : World) => x = (.bool true : Value)))] rfl rfl rfl (fun oq hop _ wq hQS => ?_) ?_
        · refine StepFrom.more_eq ((.bool true : Value)) ?_
          refine StepFrom.more_eq ((.bool true : Value)) ?_
          exact StepFrom.pick hop (b := true) (vx := (.bool true : Value)) (vy := (Value.bool false : Value)) (by kernel_rfl) (by kernel_rfl) (by kernel_rfl) (by kernel_rfl) hQS (Below.refl _ _) rfl
        refine StepsP.cons (fun (x : Value) (_ : World) => x = (.bool true : Value)) [(57, (fun (x : Value) (_ : World) => x = (.bool true : Value)))] rfl rfl rfl (fun oq hop _ wq hQS => ?_) ?_
        · refine StepFrom.more_eq ((.bool true : Value)) ?_
          exact StepFrom.move hop (v := (.bool true : Value)) (by kernel_rfl) (by kernel_rfl) hQS (Below.refl _ _) rfl
        refine StepsP.cons (fun (x : Value) (_ : World) => x = (.agg #[.slice (some ⟨ga, 0, none⟩) nl ka] : Value)) [(58, (fun (x : Value) (_ : World) => x = (.bool true : Value)))] rfl rfl rfl (fun oq hop _ wq hQS => ?_) ?_
        · refine StepFrom.more_eq ((.bool true : Value)) ?_
          exact StepFrom.load hop (by kernel_rfl) (load_level (hQS.2 (gx, .slice (some ⟨ga, 0, none⟩) nl ka) (by simp))) (by kernel_rfl) hQS (Below.refl _ _) rfl
        refine StepsP.cons (fun (x : Value) (_ : World) => x = (.agg #[.slice Al nl cl] : Value)) [(58, (fun (x : Value) (_ : World) => x = (.bool true : Value)))] rfl rfl rfl (fun oq hop _ wq hQS => ?_) ?_
        · refine StepFrom.more_eq ((.bool true : Value)) ?_
          exact StepFrom.load hop (by kernel_rfl) (load_level (hQS.2 (w.heap.size, .slice Al nl cl) (by simp))) (by kernel_rfl) hQS (Below.refl _ _) rfl
        refine StepsP.cons (fun (x : Value) (_ : World) => x = (.bool true : Value)) [(58, (fun (x : Value) (_ : World) => x = (.bool true : Value))), (59, (fun (x : Value) (_ : World) => x = (.agg #[.slice (some ⟨ga, 0, none⟩) nl ka] : Value))), (60, (fun (x : Value) (_ : World) => x = (.agg #[.slice Al nl cl] : Value)))] rfl rfl rfl (fun oq hop _ wq hQS => ?_) ?_
        · refine StepFrom.more_eq ((.bool true : Value)) ?_
          refine StepFrom.more_eq ((.agg #[.slice (some ⟨ga, 0, none⟩) nl ka] : Value)) ?_
          refine StepFrom.more_eq ((.agg #[.slice Al nl cl] : Value)) ?_
          exact StepFrom.call hop (vs := [(.agg #[.slice (some ⟨ga, 0, none⟩) nl ka] : Value), (.agg #[.slice Al nl cl] : Value)]) (by kernel_rfl) (fun w => enter_kept _ w) (by kernel_rfl) ((CK1.out wq (U6.out wq hQS)).mono (G6.out wq · · hQS))
        refine StepsP.cons (fun (x : Value) (_ : World) => x = (.bool true : Value)) [(58, (fun (x : Value) (_ : World) => x = (.bool true : Value))), (61, (fun (x : Value) (_ : World) => x = (.bool true : Value)))] rfl rfl rfl (fun oq hop _ wq hQS => ?_) ?_
        · refine StepFrom.more_eq ((.bool true : Value)) ?_
          refine StepFrom.more_eq ((.bool true : Value)) ?_
          exact StepFrom.pick hop (b := true) (vx := (.bool true : Value)) (vy := (Value.bool false : Value)) (by kernel_rfl) (by kernel_rfl) (by kernel_rfl) (by kernel_rfl) hQS (Below.refl _ _) rfl
        refine StepsP.cons (fun (x : Value) (_ : World) => x = (.bool true : Value)) [(62, (fun (x : Value) (_ : World) => x = (.bool true : Value)))] rfl rfl rfl (fun oq hop _ wq hQS => ?_) ?_
        · refine StepFrom.more_eq ((.bool true : Value)) ?_
          exact StepFrom.move hop (v := (.bool true : Value)) (by kernel_rfl) (by kernel_rfl) hQS (Below.refl _ _) rfl
        refine StepsP.cons (fun (x : Value) (_ : World) => x = (.slice (some ⟨gy, 0, none⟩) ny ky : Value)) [(63, (fun (x : Value) (_ : World) => x = (.bool true : Value)))] rfl rfl rfl (fun oq hop _ wq hQS => ?_) ?_
        · refine StepFrom.more_eq ((.bool true : Value)) ?_
          exact StepFrom.move hop (v := (.slice (some ⟨gy, 0, none⟩) ny ky : Value)) (by kernel_rfl) (by kernel_rfl) hQS (Below.refl _ _) rfl
        refine StepsP.cons (fun (x : Value) (_ : World) => x = (.slice Ay ny cy : Value)) [(63, (fun (x : Value) (_ : World) => x = (.bool true : Value)))] rfl rfl rfl (fun oq hop _ wq hQS => ?_) ?_
        · refine StepFrom.more_eq ((.bool true : Value)) ?_
          exact StepFrom.move hop (v := (.slice Ay ny cy : Value)) (by kernel_rfl) (by kernel_rfl) hQS (Below.refl _ _) rfl
        refine StepsP.cons (fun (x : Value) (_ : World) => x = (.bool true : Value)) [(63, (fun (x : Value) (_ : World) => x = (.bool true : Value))), (64, (fun (x : Value) (_ : World) => x = (.slice (some ⟨gy, 0, none⟩) ny ky : Value))), (65, (fun (x : Value) (_ : World) => x = (.slice Ay ny cy : Value)))] rfl rfl rfl (fun oq hop _ wq hQS => ?_) ?_
        · refine StepFrom.more_eq ((.bool true : Value)) ?_
          refine StepFrom.more_eq ((.slice (some ⟨gy, 0, none⟩) ny ky : Value)) ?_
          refine StepFrom.more_eq ((.slice Ay ny cy : Value)) ?_
          exact StepFrom.call hop (vs := [(.slice (some ⟨gy, 0, none⟩) ny ky : Value), (.slice Ay ny cy : Value)]) (by kernel_rfl) (fun w => enter_keptLs _ w) (by kernel_rfl) ((CK2.out wq (U6.out wq hQS)).mono (G6.out wq · · hQS))
        refine StepsP.cons (fun (x : Value) (_ : World) => x = (.bool true : Value)) [(63, (fun (x : Value) (_ : World) => x = (.bool true : Value))), (66, (fun (x : Value) (_ : World) => x = (.bool true : Value)))] rfl rfl rfl (fun oq hop _ wq hQS => ?_) ?_
        · refine StepFrom.more_eq ((.bool true : Value)) ?_
          refine StepFrom.more_eq ((.bool true : Value)) ?_
          exact StepFrom.pick hop (b := true) (vx := (.bool true : Value)) (vy := (Value.bool false : Value)) (by kernel_rfl) (by kernel_rfl) (by kernel_rfl) (by kernel_rfl) hQS (Below.refl _ _) rfl
        refine StepsP.cons (fun (x : Value) (_ : World) => x = (.bool true : Value)) [(67, (fun (x : Value) (_ : World) => x = (.bool true : Value)))] rfl rfl rfl (fun oq hop _ wq hQS => ?_) ?_
        · refine StepFrom.more_eq ((.bool true : Value)) ?_
          exact StepFrom.move hop (v := (.bool true : Value)) (by kernel_rfl) (by kernel_rfl) hQS (Below.refl _ _) rfl
        refine StepsP.cons (fun (x : Value) (_ : World) => x = (.agg #[.slice A5 na c5] : Value)) [(68, (fun (x : Value) (_ : World) => x = (.bool true : Value)))] rfl rfl rfl (fun oq hop _ wq hQS => ?_) ?_
        · refine StepFrom.more_eq ((.bool true : Value)) ?_
          exact StepFrom.load hop (by kernel_rfl) (load_level (hQS.2 (p9, .slice A5 na c5) (by simp))) (by kernel_rfl) hQS (Below.refl _ _) rfl
        refine StepsP.new (fun (x : Value) (w : World) => OneRow wd.heap.size (.slice A5 na c5) x w) NewSl [(68, (fun (x : Value) (_ : World) => x = (.bool true : Value))), (69, (fun (x : Value) (_ : World) => x = (.agg #[.slice A5 na c5] : Value)))] rfl rfl rfl (fun oq hop _ wq hQS => ?_) ?_
        · refine StepFrom.more_eq ((.bool true : Value)) ?_
          refine StepFrom.more_eq ((.agg #[.slice A5 na c5] : Value)) ?_
          exact StepFrom.slice hop (vs := [(0, (.agg #[.slice A5 na c5] : Value))]) (by kernel_rfl) (slice_level _ _ _) (by kernel_rfl) (hQS.step ((Below.refl _ _).alloc (Nat.le_refl _) _)) ((Below.refl _ _).alloc (Nat.le_refl _) _) ⟨⟨_, rfl, hQS.1.size, heap_alloc_new _ _⟩, newSl_made _ 1⟩
        refine StepsP.cons (fun (x : Value) (_ : World) => x = (.agg #[.slice A6 nb c6] : Value)) [(68, (fun (x : Value) (_ : World) => x = (.bool true : Value)))] rfl rfl rfl (fun oq hop _ wq hQS => ?_) ?_
        · refine StepFrom.more_eq ((.bool true : Value)) ?_
          exact StepFrom.load hop (by kernel_rfl) (load_level (hQS.2 (p9 + 1, .slice A6 nb c6) (by simp))) (by kernel_rfl) hQS (Below.refl _ _) rfl
        refine StepsP.new (fun (x : Value) (w : World) => OneRow wd.heap.size (.slice A6 nb c6) x w) NewSl [(68, (fun (x : Value) (_ : World) => x = (.bool true : Value))), (71, (fun (x : Value) (_ : World) => x = (.agg #[.slice A6 nb c6] : Value)))] rfl rfl rfl (fun oq hop _ wq hQS => ?_) ?_
        · refine StepFrom.more_eq ((.bool true : Value)) ?_
          refine StepFrom.more_eq ((.agg #[.slice A6 nb c6] : Value)) ?_
          exact StepFrom.slice hop (vs := [(0, (.agg #[.slice A6 nb c6] : Value))]) (by kernel_rfl) (slice_level _ _ _) (by kernel_rfl) (hQS.step ((Below.refl _ _).alloc (Nat.le_refl _) _)) ((Below.refl _ _).alloc (Nat.le_refl _) _) ⟨⟨_, rfl, hQS.1.size, heap_alloc_new _ _⟩, newSl_made _ 1⟩
        refine StepsP.cons (fun (x : Value) (_ : World) => x = (.agg #[.slice A7 na c7] : Value)) [(68, (fun (x : Value) (_ : World) => x = (.bool true : Value)))] rfl rfl rfl (fun oq hop _ wq hQS => ?_) ?_
        · refine StepFrom.more_eq ((.bool true : Value)) ?_
          exact StepFrom.load hop (by kernel_rfl) (load_level (hQS.2 (p11, .slice A7 na c7) (by simp))) (by kernel_rfl) hQS (Below.refl _ _) rfl
        refine StepsP.new (fun (x : Value) (w : World) => OneRow wd.heap.size (.slice A7 na c7) x w) NewSl [(68, (fun (x : Value) (_ : World) => x = (.bool true : Value))), (73, (fun (x : Value) (_ : World) => x = (.agg #[.slice A7 na c7] : Value)))] rfl rfl rfl (fun oq hop _ wq hQS => ?_) ?_
        · refine StepFrom.more_eq ((.bool true : Value)) ?_
          refine StepFrom.more_eq ((.agg #[.slice A7 na c7] : Value)) ?_
          exact StepFrom.slice hop (vs := [(0, (.agg #[.slice A7 na c7] : Value))]) (by kernel_rfl) (slice_level _ _ _) (by kernel_rfl) (hQS.step ((Below.refl _ _).alloc (Nat.le_refl _) _)) ((Below.refl _ _).alloc (Nat.le_refl _) _) ⟨⟨_, rfl, hQS.1.size, heap_alloc_new _ _⟩, newSl_made _ 1⟩
        refine StepsP.cons (fun (x : Value) (_ : World) => x = (.agg #[.slice A8 nb c8] : Value)) [(68, (fun (x : Value) (_ : World) => x = (.bool true : Value)))] rfl rfl rfl (fun oq hop _ wq hQS => ?_) ?_
        · refine StepFrom.more_eq ((.bool true : Value)) ?_
          exact StepFrom.load hop (by kernel_rfl) (load_level (hQS.2 (p11 + 1, .slice A8 nb c8) (by simp))) (by kernel_rfl) hQS (Below.refl _ _) rfl
        refine StepsP.new (fun (x : Value) (w : World) => OneRow wd.heap.size (.slice A8 nb c8) x w) NewSl [(68, (fun (x : Value) (_ : World) => x = (.bool true : Value))), (75, (fun (x : Value) (_ : World) => x = (.agg #[.slice A8 nb c8] : Value)))] rfl rfl rfl (fun oq hop _ wq hQS => ?_) ?_
        · refine StepFrom.more_eq ((.bool true : Value)) ?_
          refine StepFrom.more_eq ((.agg #[.slice A8 nb c8] : Value)) ?_
          exact StepFrom.slice hop (vs := [(0, (.agg #[.slice A8 nb c8] : Value))]) (by kernel_rfl) (slice_level _ _ _) (by kernel_rfl) (hQS.step ((Below.refl _ _).alloc (Nat.le_refl _) _)) ((Below.refl _ _).alloc (Nat.le_refl _) _) ⟨⟨_, rfl, hQS.1.size, heap_alloc_new _ _⟩, newSl_made _ 1⟩
        refine StepsP.reads (fun (x : Value) (w : World) => Four wd.heap.size (.slice A5 na c5) (.slice A6 nb c6) (.slice A7 na c7) (.slice A8 nb c8) x w) [(68, (fun (x : Value) (_ : World) => x = (.bool true : Value))), (70, (fun (x : Value) (w : World) => OneRow wd.heap.size (.slice A5 na c5) x w)), (72, (fun (x : Value) (w : World) => OneRow wd.heap.size (.slice A6 nb c6) x w)), (74, (fun (x : Value) (w : World) => OneRow wd.heap.size (.slice A7 na c7) x w)), (76, (fun (x : Value) (w : World) => OneRow wd.heap.size (.slice A8 nb c8) x w))] rfl rfl rfl (fun oq hop _ wq hQS => ?_) ?_
        · refine StepPre.more fun x68 h68 => ?_
          obtain rfl : x68 = (.bool true : Value) := h68
          refine StepPre.more fun x70 h70 => ?_
          obtain ⟨g70, rfl, hg700, hg70⟩ := h70
          refine StepPre.more fun x72 h72 => ?_
          obtain ⟨g72, rfl, hg720, hg72⟩ := h72
          refine StepPre.more fun x74 h74 => ?_
          obtain ⟨g74, rfl, hg740, hg74⟩ := h74
          refine StepPre.more fun x76 h76 => ?_
          obtain ⟨g76, rfl, hg760, hg76⟩ := h76
          intro hpre
          have n1 := far_sl_ne (a := g70) (b := g72) (hpre ⟨32, 34, FarSl⟩ (by simp) 70 72 _ _ (by simp) (by simp) (by kernel_rfl) (by kernel_rfl))
          have n2 := far_sl_ne (a := g70) (b := g74) (hpre ⟨32, 36, FarSl⟩ (by simp) 70 74 _ _ (by simp) (by simp) (by kernel_rfl) (by kernel_rfl))
          have n3 := far_sl_ne (a := g70) (b := g76) (hpre ⟨32, 38, FarSl⟩ (by simp) 70 76 _ _ (by simp) (by simp) (by kernel_rfl) (by kernel_rfl))
          have n4 := far_sl_ne (a := g72) (b := g74) (hpre ⟨34, 36, FarSl⟩ (by simp) 72 74 _ _ (by simp) (by simp) (by kernel_rfl) (by kernel_rfl))
          have n5 := far_sl_ne (a := g72) (b := g76) (hpre ⟨34, 38, FarSl⟩ (by simp) 72 76 _ _ (by simp) (by simp) (by kernel_rfl) (by kernel_rfl))
          have n6 := far_sl_ne (a := g74) (b := g76) (hpre ⟨36, 38, FarSl⟩ (by simp) 74 76 _ _ (by simp) (by simp) (by kernel_rfl) (by kernel_rfl))
          have hal : Below wq.heap.size wq (wq.alloc (.cells #[.slice (some ⟨g70, 0, none⟩) 1 1, .slice (some ⟨g72, 0, none⟩) 1 1, .slice (some ⟨g74, 0, none⟩) 1 1, .slice (some ⟨g76, 0, none⟩) 1 1] 31)) := ((Below.refl _ _).alloc (Nat.le_refl _) _)
          exact StepFrom.slice hop (vs := [(0, (.slice (some ⟨g70, 0, none⟩) 1 1 : Value)), (1, (.slice (some ⟨g72, 0, none⟩) 1 1 : Value)), (2, (.slice (some ⟨g74, 0, none⟩) 1 1 : Value)), (3, (.slice (some ⟨g76, 0, none⟩) 1 1 : Value))]) (by kernel_rfl) (slice_four _ _ _ _) (by kernel_rfl) (hQS.step hal) hal ⟨⟨_, g70, g72, g74, g76, rfl, heap_alloc_new _ _, ⟨hg700, hg720, hg740, hg760⟩, (hal.block _ (heap_some_lt hg70)).trans hg70, (hal.block _ (heap_some_lt hg72)).trans hg72, (hal.block _ (heap_some_lt hg74)).trans hg74, (hal.block _ (heap_some_lt hg76)).trans hg76, ⟨n1, n2, n3⟩, ⟨n4, n5⟩, n6⟩, trivial⟩
        exact StepsP.nil
      case hsteps2 =>
        refine StepsB.mid (fun (x : Value) (_ : World) => x = (.bool true : Value)) [(68, (fun (x : Value) (_ : World) => x = (.bool true : Value))), (77, (fun (x : Value) (w : World) => Four wd.heap.size (.slice A5 na c5) (.slice A6 nb c6) (.slice A7 na c7) (.slice A8 nb c8) x w))] rfl rfl rfl (fun oq hop _ wq hQS => ?_) ?_
        · refine StepFrom.more_eq ((.bool true : Value)) ?_
          refine StepFrom.more fun x77 h77 => ?_
          exact StepFrom.call hop (vs := [(x77 : Value)]) (by kernel_rfl) (fun w => enter_apart _ w) (by kernel_rfl) (CAP.out wq x77 hQS h77)
        refine StepsB.back (fun (x : Value) (_ : World) => x = (.bool true : Value)) [(68, (fun (x : Value) (_ : World) => x = (.bool true : Value))), (78, (fun (x : Value) (_ : World) => x = (.bool true : Value)))] rfl rfl (by decide) (fun oq hop _ wq hQS => ?_) ?_
        · refine StepFrom.more_eq ((.bool true : Value)) ?_
          refine StepFrom.more_eq ((.bool true : Value)) ?_
          exact StepFrom.pick hop (b := true) (vx := (.bool true : Value)) (vy := (Value.bool false : Value)) (by kernel_rfl) (by kernel_rfl) (by kernel_rfl) (by kernel_rfl) hQS trivial rfl
        refine StepsB.back (fun (x : Value) (_ : World) => x = (.bool true : Value)) [(79, (fun (x : Value) (_ : World) => x = (.bool true : Value)))] rfl rfl (by decide) (fun oq hop _ wq hQS => ?_) ?_
        · refine StepFrom.more_eq ((.bool true : Value)) ?_
          exact StepFrom.move hop (v := (.bool true : Value)) (by kernel_rfl) (by kernel_rfl) hQS trivial rfl
        refine StepsB.back (fun (x : Value) (_ : World) => x = (.slice (some ⟨gy, 0, none⟩) ny ky : Value)) [(80, (fun (x : Value) (_ : World) => x = (.bool true : Value)))] rfl rfl (by decide) (fun oq hop _ wq hQS => ?_) ?_
        · refine StepFrom.more_eq ((.bool true : Value)) ?_
          exact StepFrom.move hop (v := (.slice (some ⟨gy, 0, none⟩) ny ky : Value)) (by kernel_rfl) (by kernel_rfl) hQS trivial rfl
        refine StepsB.back (fun (x : Value) (_ : World) => x = (.slice Ay ny cy : Value)) [(80, (fun (x : Value) (_ : World) => x = (.bool true : Value)))] rfl rfl (by decide) (fun oq hop _ wq hQS => ?_) ?_
        · refine StepFrom.more_eq ((.bool true : Value)) ?_
          exact StepFrom.move hop (v := (.slice Ay ny cy : Value)) (by kernel_rfl) (by kernel_rfl) hQS trivial rfl
        refine StepsB.back (fun (x : Value) (_ : World) => x = (.bool true : Value)) [(80, (fun (x : Value) (_ : World) => x = (.bool true : Value))), (81, (fun (x : Value) (_ : World) => x = (.slice (some ⟨gy, 0, none⟩) ny ky : Value))), (82, (fun (x : Value) (_ : World) => x = (.slice Ay ny cy : Value)))] rfl rfl (by decide) (fun oq hop _ wq hQS => ?_) ?_
        · refine StepFrom.more_eq ((.bool true : Value)) ?_
          refine StepFrom.more_eq ((.slice (some ⟨gy, 0, none⟩) ny ky : Value)) ?_
          refine StepFrom.more_eq ((.slice Ay ny cy : Value)) ?_
          exact StepFrom.call hop (vs := [(.slice (some ⟨gy, 0, none⟩) ny ky : Value), (.slice Ay ny cy : Value)]) (by kernel_rfl) (fun w => enter_keptLs _ w) (by kernel_rfl) ((CK2.out wq (H4D.out.trans hQS)).mono (G7.out wq · · hQS))
        refine StepsB.back (fun (x : Value) (_ : World) => x = (.bool true : Value)) [(80, (fun (x : Value) (_ : World) => x = (.bool true : Value))), (83, (fun (x : Value) (_ : World) => x = (.bool true : Value)))] rfl rfl (by decide) (fun oq hop _ wq hQS => ?_) ?_
        · refine StepFrom.more_eq ((.bool true : Value)) ?_
          refine StepFrom.more_eq ((.bool true : Value)) ?_
          exact StepFrom.pick hop (b := true) (vx := (.bool true : Value)) (vy := (Value.bool false : Value)) (by kernel_rfl) (by kernel_rfl) (by kernel_rfl) (by kernel_rfl) hQS trivial rfl
        refine StepsB.back (fun (x : Value) (_ : World) => x = (.bool true : Value)) [(84, (fun (x : Value) (_ : World) => x = (.bool true : Value)))] rfl rfl (by decide) (fun oq hop _ wq hQS => ?_) ?_
        · refine StepFrom.more_eq ((.bool true : Value)) ?_
          exact StepFrom.move hop (v := (.bool true : Value)) (by kernel_rfl) (by kernel_rfl) hQS trivial rfl
        refine StepsB.back (fun (x : Value) (_ : World) => x = (.bool true : Value)) [(85, (fun (x : Value) (_ : World) => x = (.bool true : Value)))] rfl rfl (by decide) (fun oq hop _ wq hQS => ?_) ?_
        · refine StepFrom.more_eq ((.bool true : Value)) ?_
          exact StepFrom.call hop (vs := []) (by kernel_rfl) (fun w => enter_awake _ w) (by kernel_rfl) ((awake_any wq).mono (G7.out wq · · hQS))
        refine StepsB.back (fun (x : Value) (_ : World) => x = (.bool true : Value)) [(85, (fun (x : Value) (_ : World) => x = (.bool true : Value))), (86, (fun (x : Value) (_ : World) => x = (.bool true : Value)))] rfl rfl (by decide) (fun oq hop _ wq hQS => ?_) ?_
        · refine StepFrom.more_eq ((.bool true : Value)) ?_
          refine StepFrom.more_eq ((.bool true : Value)) ?_
          exact StepFrom.pick hop (b := true) (vx := (.bool true : Value)) (vy := (Value.bool false : Value)) (by kernel_rfl) (by kernel_rfl) (by kernel_rfl) (by kernel_rfl) hQS trivial rfl
        refine StepsB.back (fun (x : Value) (_ : World) => x = (.bool true : Value)) [(87, (fun (x : Value) (_ : World) => x = (.bool true : Value)))] rfl rfl (by decide) (fun oq hop _ wq hQS => ?_) ?_
        · refine StepFrom.more_eq ((.bool true : Value)) ?_
          exact StepFrom.assign hop (v := (.bool true : Value)) (by kernel_rfl) (by kernel_rfl) hQS trivial rfl
        exact StepsB.nil
      case hfin =>
        intro wf hFS
        refine FinalFrom.more fun x38 h38 => ?_
        refine FinalFrom.more fun x39 h39 => ?_
        refine FinalFrom.more fun x40 h40 => ?_
        refine FinalFrom.more fun x41 h41 => ?_
        refine FinalFrom.more fun x42 h42 => ?_
        refine FinalFrom.more fun x43 h43 => ?_
        refine FinalFrom.more fun x44 h44 => ?_
        refine FinalFrom.more fun x45 h45 => ?_
        refine FinalFrom.more fun x46 h46 => ?_
        refine FinalFrom.more fun x47 h47 => ?_
        refine FinalFrom.more fun x48 h48 => ?_
        refine FinalFrom.more fun x49 h49 => ?_
        refine FinalFrom.more fun x50 h50 => ?_
        refine FinalFrom.more fun x51 h51 => ?_
        refine FinalFrom.more fun x52 h52 => ?_
        refine FinalFrom.more fun x53 h53 => ?_
        refine FinalFrom.more fun x54 h54 => ?_
        refine FinalFrom.more fun x55 h55 => ?_
        refine FinalFrom.more fun x56 h56 => ?_
        refine FinalFrom.more fun x57 h57 => ?_
        refine FinalFrom.more fun x58 h58 => ?_
        refine FinalFrom.more fun x59 h59 => ?_
        refine FinalFrom.more fun x60 h60 => ?_
        refine FinalFrom.more fun x61 h61 => ?_
        refine FinalFrom.more fun x62 h62 => ?_
        refine FinalFrom.more fun x63 h63 => ?_
        refine FinalFrom.more fun x64 h64 => ?_
        refine FinalFrom.more fun x65 h65 => ?_
        refine FinalFrom.more fun x66 h66 => ?_
        refine FinalFrom.more fun x67 h67 => ?_
        refine FinalFrom.more fun x68 h68 => ?_
        refine FinalFrom.more fun x69 h69 => ?_
        refine FinalFrom.more fun x70 h70 => ?_
        refine FinalFrom.more fun x71 h71 => ?_
        refine FinalFrom.more fun x72 h72 => ?_
        refine FinalFrom.more fun x73 h73 => ?_
        refine FinalFrom.more fun x74 h74 => ?_
        refine FinalFrom.more fun x75 h75 => ?_
        refine FinalFrom.more fun x76 h76 => ?_
        refine FinalFrom.more fun x77 h77 => ?_
        refine FinalFrom.more fun x78 h78 => ?_
        refine FinalFrom.more fun x79 h79 => ?_
        refine FinalFrom.more fun x80 h80 => ?_
        refine FinalFrom.more fun x81 h81 => ?_
        refine FinalFrom.more fun x82 h82 => ?_
        refine FinalFrom.more fun x83 h83 => ?_
        refine FinalFrom.more fun x84 h84 => ?_
        refine FinalFrom.more fun x85 h85 => ?_
        refine FinalFrom.more fun x86 h86 => ?_
        refine FinalFrom.more fun x87 h87 => ?_
        refine FinalFrom.more fun x6 h6 => ?_
        refine FinalFrom.done ?_
        obtain rfl : x6 = (.bool true : Value) := h6
        have HFIN : Hid (Below w.heap.size w wf) := (BZ.out.trans (HB4.out.mono (by omega))).trans ((H4D.out.mono (by omega)).trans (Below.mono hFS (by omega)))
        clear hS hFS
        simp only [Act.put, List.setIfInBounds_toArray, List.set_cons_zero, List.set_cons_succ]
        go_wp2
        go_ret
        exact ⟨rfl, HFIN.out⟩
end Go.Proofs.YtldalfikpklfdaaGreat
namespace Go.Proofs.YtldalfikpklfdaaGreat.puts
open Go.ChangeShapes Go.WideShapes Go.ChangeAt Go.RowKit

theorem own : ownKnob Tryz.prog.godebug = none := by kernel_rfl
theorem laidOut : laidOutB Tryz.prog = true := by kernel_rfl

set_option maxRecDepth 100000 in
theorem lifted (os : Os) (started : os.Started) (H : Type) (enc : TypeId × Value → H) :
    ReturnsInHanded {} Tryz.checked os 4 .any (Rows.levelPutsSpec.pre6 enc Tryz.prog Tryz.f4 Rows.levelPutsRow.domain false) (Rows.levelPutsSpec.post enc Tryz.prog Tryz.f4 false true false false) := by
  refine returnsInHanded_of_change_sized (C := Tryz.checked) own started (by kernel_rfl) Tryz.func4
    (ChangeSpec.witness6 (enc := enc) (C := Tryz.checked) false ⟨#[], #[.agg #[.slice none 0 0], .slice none 0 0, .slice none 0 0], []⟩ 8 (by kernel_rfl) (by kernel_rfl) (by kernel_rfl) (by kernel_rfl)) ?_
  intro W base args ds gs before hval0 hW hcnd hsz0 _
  have hval : ∀ (j : Nat) t v, Tryz.f4.params[j]? = some t → args[j]? = some v → Value.okWide Tryz.prog W .any base t v := hval0
  have hsz : (DataW.weightsEach Tryz.prog (Tryz.f4.params.toList ++ Rows.levelPutsSpec.plain.varTypes Tryz.prog) (ds ++ gs)).all (· ≤ reachBytes) = true := hsz0
  have hW' := hW
  obtain ⟨p, q, hA0, hV, rfl, hfz, hnd⟩ := hW
  have hA : DataW.TrodAll enc Tryz.prog W 0 (fun _ => true) true Tryz.f4.params.toList args.toList ds p := hA0
  rw [Tryz.params4] at hA hval hsz
  obtain ⟨v0, vs0, d0, ds0, p0, q0, hargs, rfl, rfl, h0, r0⟩ := trodAll_cons hA
  obtain ⟨v1, vs1, d1, ds1, p1, q1, rfl, rfl, rfl, h1, r1⟩ := trodAll_cons r0
  obtain ⟨v2, vs2, d2, ds2, p2, q2, rfl, rfl, rfl, h2, r2⟩ := trodAll_cons r1
  obtain ⟨rfl, rfl, rfl⟩ := trodAll_nil r2
  obtain rfl : args = #[v0, v1, v2] := by cases args; simp_all
  obtain ⟨rfl, rfl⟩ := trodVars_none hV
  have lt0 : ∀ x ∈ p0, x.block < W.heap.size := by obtain ⟨m, hm⟩ := h0; exact DataW.trod_lt m _ _ _ hm
  have lt1 : ∀ x ∈ p1, x.block < W.heap.size := by obtain ⟨m, hm⟩ := h1; exact DataW.trod_lt m _ _ _ hm
  have lt2 : ∀ x ∈ p2, x.block < W.heap.size := by obtain ⟨m, hm⟩ := h2; exact DataW.trod_lt m _ _ _ hm
  have k0 := h0
  have k1 := h1
  have k2 := h2
  obtain ⟨Aa, pa, ca, rfl, hca, ha, _, _, wa⟩ := open_level (hval 0 24 v0 rfl rfl) h0
  obtain ⟨Ay, bys, cy, rfl, hcy, hy, hyl⟩ := open_levels (hval 1 31 v1 rfl rfl) h1 (fun n hn => of_decide_eq_true (List.all_eq_true.1 hsz _ (DataW.weights_mem_each (j := 1) (t := 31) (d := d1) rfl rfl n hn)))
  obtain ⟨An, ns, cn, rfl, _, hn, hmn⟩ := open_row (hval 2 33 v2 rfl rfl) h2
  have za : pa.length ≤ 4611686018427387904 := by
    rcases wa with wa | ⟨n, hn, hl⟩
    · omega
    · have := List.all_eq_true.1 hsz _ (DataW.weights_mem_each (j := 0) (t := 24) (d := d0) rfl rfl n hn)
      have h9 : n ≤ reachBytes := of_decide_eq_true this
      have h8 := reachBytes_lt
      omega
  clear hA0 hval0
  refine (puts_any Aa Ay An pa bys ns ca cy cn W za hyl hmn ha hca hy hcy hn).mono fun e W' ⟨he, bel⟩ => ?_
  subst he
  exact ⟨_, rfl, _, _, _, [], _, [], hW', trodAll_mk1 (shut_bool Tryz.underlying4 _), (trodAll_cons_mk (Below.trod laidOut (by kernel_rfl) (of_decide_eq_true (by kernel_rfl)) k0 bel lt0) (trodAll_cons_mk (Below.trod laidOut (by kernel_rfl) (of_decide_eq_true (by kernel_rfl)) k1 bel lt1) (trodAll_cons_mk (Below.trod laidOut (by kernel_rfl) (of_decide_eq_true (by kernel_rfl)) k2 bel lt2) trodAll_mk0))), rfl, bel.frame _, fun h => by cases h⟩

theorem over : Rows.levelPutsRow.holds Tryz.pinned (OpenSpec.ofChange Rows.levelPutsSpec) :=
  OpenClaim.holds_of_wide 4 Tryz.f4 rfl rfl rfl rfl rfl rfl rfl ⟨rfl, rfl, rfl, rfl, rfl⟩ rfl rfl rfl rfl rfl (by kernel_rfl) Tryz.func4 (by kernel_rfl)
    (of_decide_eq_true (by kernel_rfl)) (by unfold Func.isWrapper; first | (rw [if_pos (by decide +kernel)]; kernel_rfl) | (rw [if_neg (by decide +kernel)]; exact ⟨rfl, rfl⟩))
    (fun os started H enc _ => lifted os started H enc)

theorem proved : Rows.LevelPutsSaid := over
#print axioms proved
end Go.Proofs.YtldalfikpklfdaaGreat.puts
