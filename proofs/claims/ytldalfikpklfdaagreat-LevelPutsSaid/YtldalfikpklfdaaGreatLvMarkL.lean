/- What spandrelkit's markLevel answers, and the sameness of two such: a level of one part, with a mark; yes. -/
import Derived.Test.YtldalfikpklfdaaGreatLvKept
import Derived.Test.YtldalfikpklfdaaGreatLvGrow
namespace Go.Proofs.YtldalfikpklfdaaGreat
open Go.RowKit Go.Maps

/-- x is a level of one part, a mark, in memory of its own -/
def MkL (m : Int) (x : Value) (w : World) : Prop := ∃ a, x = .agg #[.slice (some ⟨a, 0, none⟩) 1 1] ∧ w.heap[a]? = some (.cells #[.int .i64 0, .int .i64 m] 47 (0, 0))
theorem MkL.mono {m : Int} {x : Value} {w w' : World} (h : MkL m x w) (hR : Below w.heap.size w w') : MkL m x w' := by
  obtain ⟨a, h1, h2⟩ := h
  exact ⟨a, h1, (hR.block a (heap_some_lt h2)).trans h2⟩
def MarkLPost (w : World) (m : Int) (e : Ending) (w' : World) : Prop := ∃ a, e = .returned (.agg #[.slice (some ⟨a, 0, none⟩) 1 1]) ∧ w'.heap[a]? = some (.cells #[.int .i64 0, .int .i64 m] 47 (0, 0)) ∧ Below w.heap.size w w'

set_option maxRecDepth 100000 in
set_option maxHeartbeats 1000000 in
theorem markLevel_any (k i : Int) (w : World) (hk : 0 ≤ k ∧ k ≤ 1000000) (hi : 0 ≤ i ∧ i ≤ 1000000000) :
    Calls Tryz.prog 42 #[.int .i64 k, .int .i64 i] w (MarkLPost w (1000003 * (k + 7) + i)) := by
  have hfd := field_parts
  have X1 := Lib.hid (heap_alloc_new w (.cells #[.slice none 0 0] 24))
  have HB := Lib.hid ((Below.refl w.heap.size w).alloc (Nat.le_refl _) (.cells #[.slice none 0 0] 24))
  have HM := Lib.hid (mark_any k i (w.alloc (.cells #[.slice none 0 0] 24)) hk hi)
  obtain ⟨m, hm⟩ : ∃ m, 1000003 * (k + 7) + i = m := ⟨_, rfl⟩
  rw [hm] at HM ⊢
  clear hm hk hi
  go_enter Tryz.func42, Tryz.ntmps42
  go_wp2_with (fail)
  refine HM.out.mono ?_
  rintro e w1 ⟨rfl, hb1⟩
  have hz1 := hb1.size
  have hza : (w.alloc (.cells #[.slice none 0 0] 24)).heap.size = w.heap.size + 1 := by simp
  have hr := (hb1.block w.heap.size (by omega)).trans X1.out
  have hr2 : (w1.alloc (.cells #[.int .i64 0, .int .i64 m] 47)).heap[w.heap.size]? = some (.cells #[.slice none 0 0] 24 (0, 0)) := (Below.heap_alloc _ _ _ (by omega)).trans hr
  have f1 := cell_of_one hr2
  have z1 := free_of_one hr2
  have hs : ((w1.alloc (.cells #[.int .i64 0, .int .i64 m] 47)).setCell ⟨w.heap.size, 0, none⟩ (.slice (some ⟨w1.heap.size, 0, none⟩) 1 1)).cell? ⟨w.heap.size, 0, none⟩ = some (.slice (some ⟨w1.heap.size, 0, none⟩) 1 1) := World.cell?_setCell_same _ _ _ f1
  have HFIN : Hid (MarkLPost w m (.returned (.agg #[.slice (some ⟨w1.heap.size, 0, none⟩) 1 1])) ((w1.alloc (.cells #[.int .i64 0, .int .i64 m] 47)).setCell ⟨w.heap.size, 0, none⟩ (.slice (some ⟨w1.heap.size, 0, none⟩) 1 1))) :=
    ⟨w1.heap.size, rfl, (Below.heap_setCell _ _ _ _ (by show w1.heap.size ≠ w.heap.size; omega)).trans (heap_alloc_new w1 _), ((HB.out.trans (hb1.mono (by omega))).alloc (by omega) _).setCell (Nat.le_refl _) _⟩
  clear hb1 hr hr2 hz1 hza
  go_wp2
  exact bodyPost_ret (v := .agg #[.slice (some ⟨w1.heap.size, 0, none⟩) 1 1]) (by simp [results, Tryz.results42, go_sem, hs]) rfl HFIN.out

theorem lev_mark {w : World} {a : Nat} {m : Int} (h : w.heap[a]? = some (.cells #[.int .i64 0, .int .i64 m] 47 (0, 0))) : Lev w w.heap.size (some ⟨a, 0, none⟩) [(0, m)] := fun _ =>
  ⟨a, 0, rfl, heap_some_lt h, fun i hi => by
    obtain rfl : i = 0 := by simpa using hi
    exact ⟨cell_of_row _ _ 0 _ _ (0, 0) h, cell_of_row _ _ 1 _ _ (0, 0) h⟩⟩
theorem sameMk {w : World} {a b : Nat} {m : Int} (ha : w.heap[a]? = some (.cells #[.int .i64 0, .int .i64 m] 47 (0, 0))) (hb : w.heap[b]? = some (.cells #[.int .i64 0, .int .i64 m] 47 (0, 0))) :
    Calls Tryz.prog 38 #[.agg #[.slice (some ⟨a, 0, none⟩) 1 1], .agg #[.slice (some ⟨b, 0, none⟩) 1 1]] w (HasPost w true) :=
  sameLevel_any (some ⟨a, 0, none⟩) (some ⟨b, 0, none⟩) [(0, m)] [(0, m)] 1 1 w (by unfold maxLen; simp) (by unfold maxLen; simp) (lev_mark ha) (lev_mark hb) true (by simp)
set_option maxRecDepth 100000 in
theorem enter_markLevel (vs : Array Value) (w : World) : (callFunc 42 vs).run Tryz.prog w = .ok (.enter 42 vs) w := by go_simp
set_option maxRecDepth 100000 in
theorem enter_sameLevel (vs : Array Value) (w : World) : (callFunc 38 vs).run Tryz.prog w = .ok (.enter 38 vs) w := by go_simp
set_option maxRecDepth 100000 in
theorem row_addrL {b n c k : Nat} {w : World} (h0 : (0 : Int) ≤ (k : Int)) (h1 : (k : Int) < (n : Int)) : (Instr.indexAt 32 (.slice (some ⟨b, 0, none⟩) n c) (.int .i64 (k : Int))).run Tryz.prog w = .ok (.pointer (some ⟨b, k, none⟩)) w := by go_simp
set_option maxRecDepth 100000 in
theorem load_ls_at {b o : Nat} {w : World} {v : Value} (h : w.cell? ⟨b, o, none⟩ = some v) : (Instr.loadAt 31 (.pointer (some ⟨b, o, none⟩))).run Tryz.prog w = .ok v w := by go_simp
section
variable {S : World → Prop} {R : World → World → Prop} {o : Oper} {V : Value → World → Prop} {g : Option (Option Tmp × Bool)} {a : Act} {w w' : World}
set_option maxRecDepth 100000 in
theorem StepFrom.lenLL {x : Operand} (hop : o.op = .call { callee := .builtin .len, args := #[x], argTypes := #[32] }) {A : Option Addr} {n c : Nat} (hx : a.eval x = .slice A n c)
    (hg : gOn g a = true) (hS : S w) (hR : R w w) (hV : V (.int .i64 (n : Int)) w) : StepFrom Tryz.prog S R o V g [] a w :=
  StepFrom.ran (v := .int .i64 (n : Int)) (by
    have hm : (#[x] : Array Operand).map a.eval = #[.slice A n c] := by rw [List.map_toArray, List.map_cons, List.map_nil, hx]
    unfold execOp
    simp only [hop, resolve, hm]
    simp [go_sem]) hg hS hR hV
end

/-- the first n of these are such levels: the k-th list's marks -/
def Gd (w : World) (ys : List Value) (k n : Nat) : Prop := ∀ i, i < n → ∃ a, ys[i]? = some (.slice (some ⟨a, 0, none⟩) 1 1) ∧ w.heap[a]? = some (.cells #[.int .i64 0, .int .i64 (1000003 * ((k : Int) + 7) + (i : Int))] 47 (0, 0))
def GdAll (w : World) (L : List Sl) (X : Nat → List Value) (k : Nat) : Prop := ∀ (j : Nat) (p : Sl), j < k → L[j]? = some p → Gd w (X j) j p.2.1
def Other (w : World) (r : Option Nat) : Prop := ∀ b, r = some b → ∃ cs t fr, w.heap[b]? = some (.cells cs t fr) ∧ t ≠ 47
theorem Gd.kept {w w' : World} {ys : List Value} {k n : Nat} {r : Option Nat} (h : Gd w ys k n) (hg : w.grownBy w' r) (hr : Other w r) : Gd w' ys k n := fun i hi => by
  obtain ⟨a, h1, h2⟩ := h i hi
  refine ⟨a, h1, (hg.block a (heap_some_lt h2) fun e => ?_).trans h2⟩
  obtain ⟨cs, t, fr, h3, h4⟩ := hr a e.symm
  rw [h2] at h3
  injection h3 with h3
  injection h3 with _ h3
  exact h4 h3.symm
theorem Other.none (w : World) : Other w none := fun _ e => by cases e
theorem Gd.below {w w' : World} {ys : List Value} {k n : Nat} (h : Gd w ys k n) (hb : Below w.heap.size w w') : Gd w' ys k n := h.kept (below_grown hb none) (Other.none w)
theorem GdAll.kept {w w' : World} {L : List Sl} {X : Nat → List Value} {k : Nat} {r : Option Nat} (h : GdAll w L X k) (hg : w.grownBy w' r) (hr : Other w r) : GdAll w' L X k := fun j p hj hp => (h j p hj hp).kept hg hr
theorem GdAll.below {w w' : World} {L : List Sl} {X : Nat → List Value} {k : Nat} (h : GdAll w L X k) (hb : Below w.heap.size w w') : GdAll w' L X k := fun j p hj hp => (h j p hj hp).below hb
theorem own_other {w : World} {B : Nat} {e : TypeId} {s : Nat} {v : Value} {n : Nat} {xs : List Value} (h : w.ownsRow B e s v n xs) (he : e ≠ 47) : Other w v.ownBlock := fun b hb => by
  rcases h.2 with ⟨rfl, _⟩ | ⟨g, cap, cur, rfl, _, hh, _⟩
  · simp [Value.ownBlock] at hb
  · have : g = b := by simpa [Value.ownBlock] using hb
    subst this
    exact ⟨cur, e, _, hh, he⟩
theorem Gd.set {w : World} {ys : List Value} {k j a : Nat} (h : Gd w ys k j) (hl : j < ys.length) (ha : w.heap[a]? = some (.cells #[.int .i64 0, .int .i64 (1000003 * ((k : Int) + 7) + (j : Int))] 47 (0, 0))) : Gd w (ys.set j (.slice (some ⟨a, 0, none⟩) 1 1)) k (j + 1) := fun i hi => by
  by_cases e : i = j
  · subst e
    exact ⟨a, List.getElem?_set_self hl, ha⟩
  · obtain ⟨b, h1, h2⟩ := h i (by omega)
    exact ⟨b, by rw [List.getElem?_set_ne (Ne.symm e)]; exact h1, h2⟩
theorem Gd.app {w : World} {ys : List Value} {k j a : Nat} (h : Gd w ys k j) (hl : ys.length = j) (ha : w.heap[a]? = some (.cells #[.int .i64 0, .int .i64 (1000003 * ((k : Int) + 7) + (j : Int))] 47 (0, 0))) : Gd w (ys ++ [.slice (some ⟨a, 0, none⟩) 1 1]) k (j + 1) := fun i hi => by
  by_cases e : i = j
  · subst e
    exact ⟨a, by rw [List.getElem?_append_right (by omega), hl, Nat.sub_self]; rfl, ha⟩
  · obtain ⟨b, h1, h2⟩ := h i (by omega)
    exact ⟨b, by rw [List.getElem?_append_left (by omega)]; exact h1, h2⟩
theorem Gd.head {w : World} {ys zs : List Value} {k n : Nat} (h : Gd w ys k n) (hl : ys.length = n) : Gd w (ys ++ zs) k n := fun i hi => by
  obtain ⟨b, h1, h2⟩ := h i hi
  exact ⟨b, by rw [List.getElem?_append_left (by omega)]; exact h1, h2⟩
theorem Two.re {w wr : World} {L : List Sl} {K B : Nat} {e : TypeId} {s : Nat} {te : TypeId} {gb : Nat} {X : Nat → List Value} {k : Nat} {m : Nat → Nat} {Y Y' : Nat → List Value} {Gs : List Value}
    (h : Two w wr L K B e s te gb X k m Y Gs) (hY : ∀ j, j < k → Y' j = Y j) : Two w wr L K B e s te gb X k m Y' Gs :=
  ⟨h.base, h.len, h.low, h.high, h.sea, h.fleet, h.gs, fun j p hj hp => by rw [hY j hj]; exact h.got j p hj hp⟩
end Go.Proofs.YtldalfikpklfdaaGreat
