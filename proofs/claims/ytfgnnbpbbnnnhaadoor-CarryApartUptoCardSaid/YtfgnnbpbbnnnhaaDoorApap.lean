/- Laws. -/
import Derived.Test.YtfgnnbpbbnnnhaaDoorApao
import Derived.Deep.OwnRows
namespace Go.Proofs.YtfgnnbpbbnnnhaaDoor
open Go.RowKit Go.Maps
/-- how many names a declaration has -/
def Dc.nn (d : Dc) : Nat := if d.kind = 3 then 2 * d.mems.length + d.ctors.length else if d.kind = 1 ∨ d.kind = 2 then 1 else 0
/-- the kind of the name of a number -/
def Dc.nk (d : Dc) (q : Nat) : Int := if d.kind = 3 then (if q < 2 * d.mems.length then (if q % 2 = 0 then 8 else 10) else 9) else 3
/-- its place -/
def Dc.na (d : Dc) (q : Nat) : Nat := if d.kind = 3 then (if q < 2 * d.mems.length then q / 2 else q - 2 * d.mems.length) else 0
/-- its constant, from the base on -/
def Dc.no (d : Dc) (q : Nat) : Nat := if d.kind = 3 then (if q < 2 * d.mems.length then (if q % 2 = 0 then 5 + q / 2 else 5 + d.mems.length + d.ctors.length + 1 + q / 2) else 5 + d.mems.length + (q - 2 * d.mems.length)) else 0
theorem Dc.no_lt {d : Dc} {q : Nat} (h : q < d.nn) : d.no q < d.cnt := by
  unfold Dc.nn at h
  unfold Dc.no Dc.cnt
  by_cases h3 : d.kind = 3
  · have h12 : ¬ (d.kind = 1 ∨ d.kind = 2) := by omega
    rw [if_pos h3] at h
    rw [if_pos h3, if_neg h12, if_pos h3]
    split
    · split <;> omega
    · omega
  · rw [if_neg h3] at h
    rw [if_neg h3]
    split at h
    · rename_i h12
      rw [if_pos h12]
      omega
    · omega
theorem Dc.no_inj {d : Dc} {q r : Nat} (hq : q < d.nn) (hr : r < d.nn) (h : d.no q = d.no r) : q = r := by
  unfold Dc.nn at hq hr
  unfold Dc.no at h
  by_cases h3 : d.kind = 3
  · rw [if_pos h3] at hq hr
    rw [if_pos h3, if_pos h3] at h
    split at h
    · split at h
      · split at h
        · split at h <;> omega
        · omega
      · split at h
        · split at h <;> omega
        · omega
    · split at h
      · split at h <;> omega
      · omega
  · rw [if_neg h3] at hq hr
    split at hq
    · rw [if_pos (by assumption)] at hr
      omega
    · omega
theorem Dc.no_name {ds : List Dc} {ns : List Int} {i : Nat} {d : Dc} {z : Int} (hd : ds[i]? = some d) (hz : ns[i]? = some z) {q : Nat} (h : q < d.nn) : cyO ds ns (d.nk q) (i : Int) (d.na q : Int) = some (z + (d.no q : Int)) := by
  have hn : ∀ f, nameO f ds ns (i : Int) = f d z := fun f => nameO_some (by omega) (by simpa using hd) (by simpa using hz)
  unfold Dc.nn at h
  by_cases h3 : d.kind = 3
  · rw [if_pos h3] at h
    unfold Dc.nk Dc.na Dc.no
    rw [if_pos h3, if_pos h3, if_pos h3]
    split
    · split
      · unfold cyO
        rw [if_neg (by decide), if_pos rfl, hn]
        unfold memF
        rw [if_pos (by omega)]
        congr 1
        omega
      · unfold cyO
        rw [if_neg (by decide), if_neg (by decide), if_neg (by decide), if_pos rfl, hn]
        unfold recF
        rw [if_pos (by omega)]
        congr 1
        omega
    · unfold cyO
      rw [if_neg (by decide), if_neg (by decide), if_pos rfl, hn]
      unfold ctoF
      rw [if_pos (by omega)]
      congr 1
      omega
  · rw [if_neg h3] at h
    split at h
    · rename_i h12
      unfold Dc.nk Dc.na Dc.no
      rw [if_neg h3, if_neg h3, if_neg h3]
      unfold cyO
      rw [if_pos rfl, hn]
      unfold conF
      rw [if_pos h12]
      congr 1
      omega
    · omega
/-- the cells of the first so many names of a declaration -/
def nmCells (d : Dc) (i : Nat) : Nat → List Value
  | 0 => []
  | n + 1 => nmCells d i n ++ [.int .i64 (d.nk n), .int .i64 (i : Int), .int .i64 (d.na n : Int), .slice none 0 0, .slice none 0 0]
theorem nmCells_length (d : Dc) (i : Nat) : ∀ n, (nmCells d i n).length = n * 5
  | 0 => rfl
  | n + 1 => by
    rw [nmCells, List.length_append, nmCells_length d i n]
    simp only [List.length_cons, List.length_nil]
    omega
theorem nmCells_get (d : Dc) (i : Nat) : ∀ (n q : Nat), q < n → ∀ j, j < 5 → (nmCells d i n)[q * 5 + j]? = [Value.int .i64 (d.nk q), .int .i64 (i : Int), .int .i64 (d.na q : Int), .slice none 0 0, .slice none 0 0][j]?
  | 0, q, h, _, _ => by omega
  | n + 1, q, h, j, hj => by
    rw [nmCells]
    by_cases e : q = n
    · subst e
      rw [List.getElem?_append_right (by rw [nmCells_length]; omega), nmCells_length, show q * 5 + j - q * 5 = j by omega]
    · rw [List.getElem?_append_left (by rw [nmCells_length]; omega)]
      exact nmCells_get d i n q (by omega) j hj
theorem nm_two {d : Dc} (i : Nat) {q : Nat} (h3 : d.kind = 3) (hq : q < d.mems.length) : nmCells d i (2 * (q + 1)) = nmCells d i (2 * q) ++ [.int .i64 8, .int .i64 (i : Int), .int .i64 (q : Int), .slice none 0 0, .slice none 0 0, .int .i64 10, .int .i64 (i : Int), .int .i64 (q : Int), .slice none 0 0, .slice none 0 0] := by
  have a1 : d.nk (2 * q) = 8 := by unfold Dc.nk; rw [if_pos h3, if_pos (by omega), if_pos (by omega)]
  have a2 : d.na (2 * q) = q := by unfold Dc.na; rw [if_pos h3, if_pos (by omega)]; omega
  have a3 : d.nk (2 * q + 1) = 10 := by unfold Dc.nk; rw [if_pos h3, if_pos (by omega), if_neg (by omega)]
  have a4 : d.na (2 * q + 1) = q := by unfold Dc.na; rw [if_pos h3, if_pos (by omega)]; omega
  show nmCells d i (2 * q + 1 + 1) = _
  rw [nmCells, nmCells, a1, a2, a3, a4, List.append_assoc]
  rfl
theorem nm_ctor {d : Dc} (i : Nat) {c : Nat} (h3 : d.kind = 3) (_ : c < d.ctors.length) : nmCells d i (2 * d.mems.length + (c + 1)) = nmCells d i (2 * d.mems.length + c) ++ [.int .i64 9, .int .i64 (i : Int), .int .i64 (c : Int), .slice none 0 0, .slice none 0 0] := by
  have a1 : d.nk (2 * d.mems.length + c) = 9 := by unfold Dc.nk; rw [if_pos h3, if_neg (by omega)]
  have a2 : d.na (2 * d.mems.length + c) = c := by unfold Dc.na; rw [if_pos h3, if_neg (by omega)]; omega
  show nmCells d i (2 * d.mems.length + c + 1) = _
  rw [nmCells, a1, a2]
theorem nm_one {d : Dc} (i : Nat) (h : d.kind = 1 ∨ d.kind = 2) : nmCells d i 1 = [.int .i64 3, .int .i64 (i : Int), .int .i64 0, .slice none 0 0, .slice none 0 0] := by
  have a1 : d.nk 0 = 3 := by unfold Dc.nk; rw [if_neg (by omega)]
  have a2 : d.na 0 = 0 := by unfold Dc.na; rw [if_neg (by omega)]
  rw [nmCells, nmCells, a1, a2]
  rfl
theorem nn_three9 {d : Dc} (h : d.kind = 3) : d.nn = 2 * d.mems.length + d.ctors.length := by unfold Dc.nn; rw [if_pos h]
theorem nn_one9 {d : Dc} (h : d.kind = 1 ∨ d.kind = 2) : d.nn = 1 := by unfold Dc.nn; rw [if_neg (by omega), if_pos h]
theorem nn_none9 {d : Dc} (h : d.kind ≠ 3) (h1 : d.kind ≠ 1) (h2 : d.kind ≠ 2) : d.nn = 0 := by unfold Dc.nn; rw [if_neg h, if_neg (by omega)]
theorem nn_le9 (d : Dc) : d.nn ≤ 2 * d.mems.length + d.ctors.length + 1 := by
  unfold Dc.nn
  split
  · omega
  · split <;> omega
theorem cyB_good {ds : List Dc} {k : Nat} (h : cntSum ds ≤ 1099511627776) : ∀ z ∈ cyB ds k, 0 ≤ z ∧ z ≤ 1099511627776 := by
  intro z hz
  unfold cyB at hz
  rw [List.mem_map] at hz
  obtain ⟨i, _, rfl⟩ := hz
  have := cntSum_le ds i
  omega
/-- a row of one's own, read -/
theorem own_read9 {w : World} {B n e z : Nat} {v : Value} {xs : List Value} (h : w.ownsRow B e z v n xs) : ∃ A c, v = .slice A n c ∧ (A = none → c = 0) ∧ (0 < n → ∃ g, A = some ⟨g, 0, none⟩ ∧ B ≤ g ∧ g < w.heap.size ∧ ∀ i, i < n * z → w.cell? ⟨g, i, none⟩ = xs[i]?) := by
  rcases h.2 with ⟨rfl, rfl⟩ | ⟨g, cap, cur, rfl, hb, hg, h1, h2, h3, h4⟩
  · exact ⟨none, 0, rfl, fun _ => rfl, fun h => by omega⟩
  · refine ⟨_, _, rfl, fun h => (by cases h), fun h0 => ⟨g, rfl, hb, heap_some_lt hg, fun i hi => ?_⟩⟩
    rw [cell_of_row w g i cur _ (0, 0) hg, ← h4, List.getElem?_take, if_pos hi, Array.getElem?_toList]
theorem set_row9 {w : World} {g x : Nat} {cs : Array Value} {t : TypeId} (h : w.heap[g]? = some (.cells cs t (0, 0))) (u : Value) : (w.setCell ⟨g, x, none⟩ u).heap[g]? = some (.cells (cs.setIfInBounds x u) t (0, 0)) := by
  have hg := heap_some_lt h
  rw [Array.getElem?_eq_getElem hg] at h
  injection h with h
  simp [World.setCell, hg, Array.getElem_modify, h]
/-- what has been seen: a row of truths, true only of some numbers -/
def Seen (P : Nat → Prop) (n : Nat) (sc : Array Value) : Prop := sc.size = n ∧ ∀ j, j < n → ∃ b : Bool, sc[j]? = some (.bool b) ∧ (b = true → P j)
theorem Seen.mono {P Q : Nat → Prop} {n : Nat} {sc : Array Value} (h : Seen P n sc) (hPQ : ∀ j, P j → Q j) : Seen Q n sc := ⟨h.1, fun j hj => by
  obtain ⟨b, h1, h2⟩ := h.2 j hj
  exact ⟨b, h1, fun e => hPQ j (h2 e)⟩⟩
theorem Seen.not {P : Nat → Prop} {n : Nat} {sc : Array Value} (h : Seen P n sc) {j : Nat} (hj : j < n) (hP : ¬ P j) : sc[j]? = some (.bool false) := by
  obtain ⟨b, h1, h2⟩ := h.2 j hj
  cases b with
  | false => exact h1
  | true => exact absurd (h2 rfl) hP
theorem Seen.set {P : Nat → Prop} {n : Nat} {sc : Array Value} (h : Seen P n sc) {x : Nat} : Seen (fun j => P j ∨ j = x) n (sc.setIfInBounds x (.bool true)) := ⟨by simpa using h.1, fun j hj => by
  by_cases e : x = j
  · subst e
    exact ⟨true, by rw [Array.getElem?_setIfInBounds]; simp [h.1, hj], fun _ => Or.inr rfl⟩
  · obtain ⟨b, h1, h2⟩ := h.2 j hj
    exact ⟨b, by rw [Array.getElem?_setIfInBounds, if_neg e]; exact h1, fun e => Or.inl (h2 e)⟩⟩
theorem seen_made (n : Nat) : Seen (fun _ => False) n (madeCells #[.bool false] n) := ⟨by simp [madeCells], fun j hj => ⟨false, by simp [madeCells, hj, Nat.mod_one], fun h => by cases h⟩⟩
end Go.Proofs.YtfgnnbpbbnnnhaaDoor
