/- Whether levels, each in a row of its own, lie apart: yes, where their parts are the call's own, no two in one block; and what a level law says of the values of its calls. -/
import Derived.Test.YtldalfikpklfdaaGreatLvBag
import Derived.Test.YtldalfikpklfdaaGreatLvPair
import Derived.Test.YtldalfikpklfdaaGreatLvOne
namespace Go.Proofs.YtldalfikpklfdaaGreat
open Go.RowKit Go.Maps

theorem flat_singles : ∀ ss : List Sl, (ss.map fun s => [s]).flatten = ss
  | [] => rfl
  | s :: ss => by
    rw [List.map_cons, List.flatten_cons, flat_singles ss]
    rfl
theorem own_one {w : World} {B a : Nat} {v : Value} {t : TypeId} (h : w.heap[a]? = some (.cells #[v] t (0, 0))) (hB : B ≤ a) : w.ownsRow B t 1 (.slice (some ⟨a, 0, none⟩) 1 1) 1 [v] :=
  ⟨rfl, Or.inr ⟨a, 1, #[v], rfl, hB, h, Nat.le_refl _, by unfold maxLen; omega, rfl, rfl⟩⟩
theorem apartN (w : World) (B g : Nat) (gs : List Nat) (ss : List Sl) (X : Nat → List Value) (K : Nat) (hK : gs.length = K) (hK2 : ss.length = K) (hm : K ≤ 1000)
    (hg : w.heap[g]? = some (.cells (gs.map fun a => Value.slice (some ⟨a, 0, none⟩) 1 1).toArray 31 (0, 0)))
    (hl : ∀ (k a : Nat) (s : Sl), gs[k]? = some a → ss[k]? = some s → w.heap[a]? = some (.cells #[slV s] 24 (0, 0)))
    (hgs : ∀ j k a b : Nat, gs[j]? = some a → gs[k]? = some b → j ≠ k → a ≠ b) (hgB : ∀ a ∈ gs, B ≤ a) (hs : Fleet w B 47 2 ss X) (hB : B ≤ w.heap.size) (hn : ∀ s ∈ ss, s.2.1 ≤ 1000000) :
    Calls Tryz.prog 12 #[.slice (some ⟨g, 0, none⟩) K K] w (YesPost B w) := by
  have hat : ∀ (k : Nat) (p : Sl), (gs.map fun a => ((some ⟨a, 0, none⟩, 1, 1) : Sl))[k]? = some p → ∃ a s, gs[k]? = some a ∧ ss[k]? = some s ∧ p = (some ⟨a, 0, none⟩, 1, 1) := fun k p hp => by
    rw [List.getElem?_map] at hp
    obtain ⟨a, ha, e⟩ := Option.map_eq_some_iff.1 hp
    have hk := (List.getElem?_eq_some_iff.1 ha).1
    exact ⟨a, ss[k]'(by omega), ha, List.getElem?_eq_getElem _, e.symm⟩
  refine apartLevels_any w g K B (gs.map fun a => (some ⟨a, 0, none⟩, 1, 1)) (ss.map fun s => [s]) X (fun k => [slV (ss.getD k (none, 0, 0))]) K (by rw [List.length_map]; exact hK) (by rw [List.length_map]; exact hK2) hm (by rw [flat_singles]; omega) (heap_some_lt hg) (fun k p hp => ?_) (fun k p qs hp hq => ?_) (by rw [flat_singles]; exact hs) ⟨fun k p hp => ?_, fun j k p q hp hq hjk b hb hb' => ?_⟩ hB (by rw [flat_singles]; exact hn) (fun p hp => ?_)
  · obtain ⟨a, s, ha, _, rfl⟩ := hat k p hp
    rw [cell_of_row _ _ k _ _ (0, 0) hg, List.getElem?_toArray, List.getElem?_map, ha]
    rfl
  · obtain ⟨a, s, ha, hss, rfl⟩ := hat k p hp
    rw [List.getElem?_map, hss] at hq
    injection hq with hq
    subst hq
    refine ⟨rfl, fun i q hi => ?_⟩
    have hh := hl k a s ha hss
    obtain rfl : i = 0 := by
      have := (List.getElem?_eq_some_iff.1 hi).1
      simpa using this
    injection hi with hi
    subst hi
    exact ⟨a, rfl, heap_some_lt hh, cell_of_one hh⟩
  · obtain ⟨a, s, ha, hss, rfl⟩ := hat k p hp
    have e : ss.getD k (none, 0, 0) = s := by rw [List.getD_eq_getElem?_getD, hss]; rfl
    show w.ownsRow B _ 1 _ 1 [slV (ss.getD k (none, 0, 0))]
    rw [e]
    exact own_one (hl k a s ha hss) (hgB a (List.mem_of_getElem? ha))
  · obtain ⟨a, _, ha, _, rfl⟩ := hat j p hp
    obtain ⟨a', _, ha', _, rfl⟩ := hat k q hq
    have e1 : a = b := by simpa [Bk, Value.ownBlock] using hb
    have e2 : a' = b := by simpa [Bk, Value.ownBlock] using hb'
    exact hgs j k a a' ha ha' hjk (e1.trans e2.symm)
  · obtain ⟨k, hk⟩ := List.getElem?_of_mem hp
    obtain ⟨a, _, _, _, rfl⟩ := hat k p hk
    show 1 ≤ 1000
    omega

/-- x is a level that was lent: n parts, twelve marks behind -/
def LentV (B n : Nat) (ps : List (Int × Int)) (x : Value) (w : World) : Prop := ∃ g cap, x = .agg #[.slice (some ⟨g, 0, none⟩) n cap] ∧ w.ownsRow B 47 2 (.slice (some ⟨g, 0, none⟩) (n + 12) cap) (n + 12) (cells (ps ++ marks 1 12))
theorem LentV.mono {B n : Nat} {ps : List (Int × Int)} {x : Value} {w w' : World} (h : LentV B n ps x w) (hR : Below w.heap.size w w') : LentV B n ps x w' := by
  obtain ⟨g, cap, h1, h2⟩ := h
  exact ⟨g, cap, h1, own_below h2 hR⟩
/-- where a level's parts lie -/
def lvB : Value → Option Nat
  | .agg cs => (cs[0]?).bind Value.ownBlock
  | _ => none
def NewAt (w : World) (v : Value) : Prop := ∀ b, lvB v = some b → w.heap.size ≤ b
def NewSl (w : World) (v : Value) : Prop := ∀ b, v.ownBlock = some b → w.heap.size ≤ b
def NewPt (w : World) (v : Value) : Prop := v = .pointer (some ⟨w.heap.size, 0, none⟩)
def FarLv (x y : Value) : Prop := ∀ b, lvB x = some b → lvB y ≠ some b
def FarSl (x y : Value) : Prop := ∀ b, x.ownBlock = some b → y.ownBlock ≠ some b
def FarPt (x y : Value) : Prop := x ≠ y
theorem far_lv {B n : Nat} {ps : List (Int × Int)} {x v : Value} {w : World} (h : NewLev B n ps x w) (hn : NewAt w v) : FarLv x v ∧ FarLv v x := by
  obtain ⟨A, c, rfl, _, ho⟩ := h
  have hlt : ∀ b, lvB (.agg #[.slice A n c]) = some b → b < w.heap.size := fun b hb => (ho.lt b (by simpa [lvB] using hb)).2
  exact ⟨fun b hb e => by have := hlt b hb; have := hn b e; omega, fun b hb e => by have := hlt b e; have := hn b hb; omega⟩
theorem far_pt {B : Nat} {z : Value} {t : TypeId} {x v : Value} {w : World} (h : NewBox B z t x w) (hn : NewPt w v) : FarPt x v ∧ FarPt v x := by
  obtain ⟨g, rfl, _, hg⟩ := h
  have hlt := heap_some_lt hg
  have hne : (Value.pointer (some ⟨g, 0, none⟩)) ≠ v := fun e => by
    rw [hn] at e
    injection e with e
    injection e with e
    injection e with e
    omega
  exact ⟨hne, fun e => hne e.symm⟩
/-- x is a row of one level, made from B on -/
def OneRow (B : Nat) (u : Value) (x : Value) (w : World) : Prop := ∃ g, x = .slice (some ⟨g, 0, none⟩) 1 1 ∧ B ≤ g ∧ w.heap[g]? = some (.cells #[u] 24 (0, 0))
theorem OneRow.mono {B : Nat} {u x : Value} {w w' : World} (h : OneRow B u x w) (hR : Below w.heap.size w w') : OneRow B u x w' := by
  obtain ⟨g, h1, h2, h3⟩ := h
  exact ⟨g, h1, h2, (hR.block g (heap_some_lt h3)).trans h3⟩
/-- x is a row of one level, and the level's parts are the call's own -/
def OneLev (B n : Nat) (ps : List (Int × Int)) (x : Value) (w : World) : Prop := ∃ g A c, x = .slice (some ⟨g, 0, none⟩) 1 1 ∧ B ≤ g ∧ w.heap[g]? = some (.cells #[.slice A n c] 24 (0, 0)) ∧ w.ownsRow B 47 2 (.slice A n c) n (cells ps)
theorem OneLev.mono {B n : Nat} {ps : List (Int × Int)} {x : Value} {w w' : World} (h : OneLev B n ps x w) (hR : Below w.heap.size w w') : OneLev B n ps x w' := by
  obtain ⟨g, A, c, h1, h2, h3, h4⟩ := h
  exact ⟨g, A, c, h1, h2, (hR.block g (heap_some_lt h3)).trans h3, own_below h4 hR⟩
theorem far_sl {x v : Value} {w : World} (h : ∃ g, x = .slice (some ⟨g, 0, none⟩) 1 1 ∧ g < w.heap.size) (hn : NewSl w v) : FarSl x v ∧ FarSl v x := by
  obtain ⟨g, rfl, hlt⟩ := h
  have hg : ∀ b, Value.ownBlock (.slice (some ⟨g, 0, none⟩) 1 1) = some b → b < w.heap.size := fun b hb => by
    have : g = b := by simpa [Value.ownBlock] using hb
    omega
  exact ⟨fun b hb e => by have := hg b hb; have := hn b e; omega, fun b hb e => by have := hg b e; have := hn b hb; omega⟩
theorem OneRow.at {B : Nat} {u x : Value} {w : World} (h : OneRow B u x w) : ∃ g, x = .slice (some ⟨g, 0, none⟩) 1 1 ∧ g < w.heap.size := by
  obtain ⟨g, h1, _, h3⟩ := h
  exact ⟨g, h1, heap_some_lt h3⟩
theorem OneLev.at {B n : Nat} {ps : List (Int × Int)} {x : Value} {w : World} (h : OneLev B n ps x w) : ∃ g, x = .slice (some ⟨g, 0, none⟩) 1 1 ∧ g < w.heap.size := by
  obtain ⟨g, _, _, h1, _, h3, _⟩ := h
  exact ⟨g, h1, heap_some_lt h3⟩
theorem newSl_made (w : World) (n : Nat) : NewSl w (.slice (some ⟨w.heap.size, 0, none⟩) n n) := fun b hb => by
  have : w.heap.size = b := by simpa [Value.ownBlock] using hb
  omega
theorem far_sl_ne {a b : Nat} (h : FarSl (.slice (some ⟨a, 0, none⟩) 1 1) (.slice (some ⟨b, 0, none⟩) 1 1)) : a ≠ b := fun e => h a (by simp [Value.ownBlock]) (by simp [Value.ownBlock, e])
set_option maxRecDepth 100000 in
theorem slice_level {w : World} (A : Option Addr) (n c : Nat) : (Instr.buildSlice 31 1 [(0, Value.agg #[.slice A n c])].toArray).run Tryz.prog w = .ok (.slice (some ⟨w.heap.size, 0, none⟩) 1 1) (w.alloc (.cells #[.slice A n c] 24)) := by
  go_simp
set_option maxRecDepth 100000 in
theorem enter_lent (vs : Array Value) (w : World) : (callFunc 7 vs).run Tryz.prog w = .ok (.enter 7 vs) w := by go_simp
set_option maxRecDepth 100000 in
theorem enter_kept (vs : Array Value) (w : World) : (callFunc 11 vs).run Tryz.prog w = .ok (.enter 11 vs) w := by go_simp
set_option maxRecDepth 100000 in
theorem enter_apart (vs : Array Value) (w : World) : (callFunc 12 vs).run Tryz.prog w = .ok (.enter 12 vs) w := by go_simp
set_option maxRecDepth 100000 in
theorem enter_awake (vs : Array Value) (w : World) : (callFunc 6 vs).run Tryz.prog w = .ok (.enter 6 vs) w := by go_simp
set_option maxRecDepth 100000 in
theorem enter_oneL (vs : Array Value) (w : World) : (callFunc 10 vs).run Tryz.prog w = .ok (.enter 10 vs) w := by go_simp
theorem lvlPost_new {w : World} {qs : List (Int × Int)} {e : Ending} {w' : World} (h : LvlPost w qs e w') {B : Nat} (hB : B ≤ w.heap.size) : ∃ v, e = .returned v ∧ NewLev B qs.length qs v w' ∧ NewAt w v ∧ Below w.heap.size w w' := by
  obtain ⟨v, rfl, ho, hb⟩ := h
  obtain ⟨A, n, c, rfl⟩ := own_slice ho
  obtain ⟨hn, _, _⟩ := own_lev ho
  subst hn
  exact ⟨_, rfl, ⟨A, c, rfl, rfl, own_base ho hB⟩, fun b hb' => (ho.lt b (by simpa [lvB] using hb')).1, hb⟩

/-- x is a row of three rows of one level, each made from B on -/
def Three (B : Nat) (u v : Value) (n : Nat) (ps : List (Int × Int)) (x : Value) (w : World) : Prop := ∃ g g0 g1 g2 A c, x = .slice (some ⟨g, 0, none⟩) 3 3 ∧ w.heap[g]? = some (.cells #[.slice (some ⟨g0, 0, none⟩) 1 1, .slice (some ⟨g1, 0, none⟩) 1 1, .slice (some ⟨g2, 0, none⟩) 1 1] 31 (0, 0)) ∧
  (B ≤ g0 ∧ B ≤ g1 ∧ B ≤ g2) ∧ w.heap[g0]? = some (.cells #[u] 24 (0, 0)) ∧ w.heap[g1]? = some (.cells #[v] 24 (0, 0)) ∧ w.heap[g2]? = some (.cells #[.slice A n c] 24 (0, 0)) ∧ w.ownsRow B 47 2 (.slice A n c) n (cells ps) ∧ g0 ≠ g1 ∧ g0 ≠ g2 ∧ g1 ≠ g2
theorem Three.mono {B n : Nat} {u v : Value} {ps : List (Int × Int)} {x : Value} {w w' : World} (h : Three B u v n ps x w) (hR : Below w.heap.size w w') : Three B u v n ps x w' := by
  obtain ⟨g, g0, g1, g2, A, c, h1, h2, h3, h4, h5, h6, h7, h8⟩ := h
  exact ⟨g, g0, g1, g2, A, c, h1, (hR.block g (heap_some_lt h2)).trans h2, h3, (hR.block g0 (heap_some_lt h4)).trans h4, (hR.block g1 (heap_some_lt h5)).trans h5, (hR.block g2 (heap_some_lt h6)).trans h6, own_below h7 hR, h8⟩
set_option maxRecDepth 100000 in
theorem slice_three {w : World} (a b c : Nat) : (Instr.buildSlice 32 3 [(0, Value.slice (some ⟨a, 0, none⟩) 1 1), (1, Value.slice (some ⟨b, 0, none⟩) 1 1), (2, Value.slice (some ⟨c, 0, none⟩) 1 1)].toArray).run Tryz.prog w = .ok (.slice (some ⟨w.heap.size, 0, none⟩) 3 3) (w.alloc (.cells #[.slice (some ⟨a, 0, none⟩) 1 1, .slice (some ⟨b, 0, none⟩) 1 1, .slice (some ⟨c, 0, none⟩) 1 1] 31)) := by
  go_simp
theorem three_get {α : Type} {a b c x : α} {k : Nat} (h : [a, b, c][k]? = some x) : (k = 0 ∧ x = a) ∨ (k = 1 ∧ x = b) ∨ (k = 2 ∧ x = c) := by
  match k, h with
  | 0, h => exact Or.inl ⟨rfl, by injection h with h; exact h.symm⟩
  | 1, h => exact Or.inr (Or.inl ⟨rfl, by injection h with h; exact h.symm⟩)
  | 2, h => exact Or.inr (Or.inr ⟨rfl, by injection h with h; exact h.symm⟩)
  | k + 3, h => simp at h
theorem fleet3 {w : World} {B : Nat} {p q s : Sl} {xp xq xs : List Value} (hp : w.ownsRow B 47 2 (slV p) p.2.1 xp) (hq : w.ownsRow B 47 2 (slV q) q.2.1 xq) (hs : w.ownsRow B 47 2 (slV s) s.2.1 xs)
    (h1 : ∀ b, Bk p = some b → Bk q ≠ some b) (h2 : ∀ b, Bk p = some b → Bk s ≠ some b) (h3 : ∀ b, Bk q = some b → Bk s ≠ some b) : Fleet w B 47 2 [p, q, s] (fun k => if k = 0 then xp else if k = 1 then xq else xs) :=
  ⟨fun k r hr => by
    rcases three_get hr with ⟨rfl, rfl⟩ | ⟨rfl, rfl⟩ | ⟨rfl, rfl⟩
    · exact hp
    · exact hq
    · exact hs, fun j k r t hr ht hjk b hb hb' => by
    rcases three_get hr with ⟨rfl, rfl⟩ | ⟨rfl, rfl⟩ | ⟨rfl, rfl⟩ <;> rcases three_get ht with ⟨rfl, rfl⟩ | ⟨rfl, rfl⟩ | ⟨rfl, rfl⟩
    · exact hjk rfl
    · exact h1 b hb hb'
    · exact h2 b hb hb'
    · exact h1 b hb' hb
    · exact hjk rfl
    · exact h3 b hb hb'
    · exact h2 b hb' hb
    · exact h3 b hb' hb
    · exact hjk rfl⟩
theorem apart3 {w : World} {B n : Nat} {p q : Sl} {ps : List (Int × Int)} {x : Value} {xp xq : List Value} (h : Three B (slV p) (slV q) n ps x w) {B0 : Nat} (hB0 : B0 ≤ B) (hB : B ≤ w.heap.size) (hp : w.ownsRow B0 47 2 (slV p) p.2.1 xp) (hq : w.ownsRow B0 47 2 (slV q) q.2.1 xq)
    (hpb : ∀ b, Bk p = some b → b < B) (hqb : ∀ b, Bk q = some b → b < B) (hpq : ∀ b, Bk p = some b → Bk q ≠ some b) (hn : n ≤ 1000000 ∧ p.2.1 ≤ 1000000 ∧ q.2.1 ≤ 1000000) :
    Calls Tryz.prog 12 #[x] w (YesPost B0 w) := by
  obtain ⟨g, g0, g1, g2, A, c, rfl, h2, ⟨b0, b1, b2⟩, h4, h5, h6, h7, n1, n2, n3⟩ := h
  have hfar : ∀ b, Bk (A, n, c) = some b → B ≤ b := fun b hb => (h7.lt b hb).1
  refine apartN w B0 g [g0, g1, g2] [p, q, (A, n, c)] _ 3 rfl rfl (by omega) h2 (fun k a s ha hs => ?_) (fun j k a b ha hb hjk => ?_) (fun a ha => ?_) (fleet3 hp hq (own_base (h7 : w.ownsRow B _ 2 (slV (A, n, c)) n (cells ps)) hB0) hpq (fun b hb hb' => by have := hpb b hb; have := hfar b hb'; omega) (fun b hb hb' => by have := hqb b hb; have := hfar b hb'; omega)) (by omega) (fun s hs => ?_)
  · rcases three_get ha with ⟨rfl, rfl⟩ | ⟨rfl, rfl⟩ | ⟨rfl, rfl⟩ <;> rcases three_get hs with ⟨e, rfl⟩ | ⟨e, rfl⟩ | ⟨e, rfl⟩ <;> first | omega | assumption
  · rcases three_get ha with ⟨rfl, rfl⟩ | ⟨rfl, rfl⟩ | ⟨rfl, rfl⟩ <;> rcases three_get hb with ⟨rfl, rfl⟩ | ⟨rfl, rfl⟩ | ⟨rfl, rfl⟩ <;> first | (exact absurd rfl hjk) | assumption | (exact Ne.symm (by assumption))
  · simp only [List.mem_cons, List.not_mem_nil, or_false] at ha
    rcases ha with rfl | rfl | rfl <;> omega
  · simp only [List.mem_cons, List.not_mem_nil, or_false] at hs
    rcases hs with rfl | rfl | rfl
    · exact hn.2.1
    · exact hn.2.2
    · exact hn.1
end Go.Proofs.YtldalfikpklfdaaGreat
