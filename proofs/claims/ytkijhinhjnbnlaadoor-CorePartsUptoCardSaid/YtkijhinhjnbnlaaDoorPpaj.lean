/- Laws. -/
import Derived.Test.YtkijhinhjnbnlaaDoorPpai
namespace Go.Proofs.YtkijhinhjnbnlaaDoor
open Go.RowKit Go.Maps Go.ChangeMaps Go.MapKept
/-- an entry of the table -/
def askE (i : Nat) (k : Int) (f : Nat) : MapEntry := { key := .int .i64 k, val := .func (.func f) #[] #[], born := i }
def askL : List MapEntry := [askE 0 1 36, askE 1 2 37, askE 2 3 38, askE 3 4 39, askE 4 5 39, askE 5 6 39, askE 6 7 40, askE 7 12 39, askE 8 13 39, askE 9 14 41, askE 10 15 41, askE 11 16 39, askE 12 17 39, askE 13 18 42, askE 14 19 40, askE 15 20 43, askE 16 21 44, askE 17 22 45, askE 18 23 46, askE 19 24 47]
/-- the table lies in block m -/
def AsksAt (w : World) (m : Nat) : Prop := w.heap[m]? = some (.map askL.toArray 20)
theorem AsksAt.below {w w' : World} {m B : Nat} (h : AsksAt w m) (hb : Below B w w') (hm : m < B) : AsksAt w' m := (hb.block m hm).trans h
theorem key_under : Tryd.prog.underlying 23 = some (.int .i64) := by kernel_rfl
theorem map_under : Tryd.prog.underlying 52 = some (.map 23 78) := by kernel_rfl
theorem key_ok (k : Int) (e : Bool) (w : World) : (Instr.checkKey e 10000 23 (.int .i64 k)).run Tryd.prog w = .ok () w := run_checkKey (n := 9999) key_under (by simp [IsKey]) e
theorem run_insert {w : World} {b i : Nat} {es : List MapEntry} {k : Int} {f : Nat} (h : w.heap[b]? = some (.map es.toArray i)) (hn : Instr.findNow (.int .i64) (.int .i64 k) es 0 = some none) :
    (Instr.mapUpdate 52 (.map (some b)) (.int .i64 k) (.func (.func f) #[] #[])).run Tryd.prog w = .ok () (setBlock w b (.map (es ++ [askE i k f]).toArray (i + 1))) := by
  have hf := run_findKey (w := w) (P := Tryd.prog) key_under hn
  unfold Instr.mapUpdate
  simp only [Sem.run_bind, run_underlying map_under, Result.andThen, Go.MapKept.run_getObj_map h, key_ok, hf, Go.MapKept.run_setObj_map _ h]
  simp [setBlock, askE]
theorem insert_post {w0 w : World} {b i : Nat} {es : List MapEntry} {k : Int} {f : Nat} (h : w.heap[b]? = some (.map es.toArray i)) (hb : Below w0.heap.size w0 w) (hle : w0.heap.size ≤ b) :
    (setBlock w b (.map (es ++ [askE i k f]).toArray (i + 1))).heap[b]? = some (.map (es ++ [askE i k f]).toArray (i + 1)) ∧ Below w0.heap.size w0 (setBlock w b (.map (es ++ [askE i k f]).toArray (i + 1))) :=
  ⟨heap_setBlock_same h _, ⟨hb.os, hb.tape, hb.output, by simpa [setBlock] using hb.size, fun j hj => (heap_setBlock_other h _ (by omega)).trans (hb.block j hj)⟩⟩
theorem wpList_insert {ops : Array Oper} {rest : List Oper} {o : Oper} {a : Act} {Q : Exit → Act → World → Prop} {w0 w : World} (hg : o.guard = none) (mm kk xx : Operand) (hop : o.op = Op.insert 52 mm kk xx)
    (b i : Nat) (es : List MapEntry) (k : Int) (f : Nat) (hm : a.eval mm = .map (some b)) (hk : a.eval kk = .int .i64 k) (hx : a.eval xx = .func (.func f) #[] #[]) (h : w.heap[b]? = some (.map es.toArray i)) (hb : Below w0.heap.size w0 w) (hle : w0.heap.size ≤ b)
    (hn : Instr.findNow (.int .i64) (.int .i64 k) es 0 = some none)
    (hK : ∀ w', w'.heap[b]? = some (.map (es ++ [askE i k f]).toArray (i + 1)) → Below w0.heap.size w0 w' → wpList Tryd.prog ops Q rest (a.put o.dst undef) w') : wpList Tryd.prog ops Q (o :: rest) a w := by
  refine wpList_plain hg fun K' hK' => ?_
  have hrun := run_insert (f := f) h hn
  obtain ⟨q1, q2⟩ := insert_post (k := k) (f := f) h hb hle
  unfold Oper.wp
  simp [execOp, hop, hm, hk, hx, hrun, Result.andThen]
  exact hK' _ _ (hK _ q1 q2)
set_option maxRecDepth 100000 in
set_option maxHeartbeats 4000000 in
theorem asks_any (w : World) : Calls Tryd.prog 21 #[] w (fun e w' => ∃ m, e = .returned (.map (some m)) ∧ m < w'.heap.size ∧ AsksAt w' m ∧ Below w.heap.size w w') := by
  have hmm := @run_makeMap Tryd.prog
  have hb : Below w.heap.size w (w.alloc (.map #[] 0)) := (Below.refl _ _).alloc (Nat.le_refl _) _
  have hz : (w.alloc (.map #[] 0)).heap[w.heap.size]? = some (.map ([] : List MapEntry).toArray 0) := heap_alloc_new w _
  have hle : w.heap.size ≤ w.heap.size := Nat.le_refl _
  go_enter Tryd.func21, Tryd.ntmps21
  go_wp2_with (first | (refine wpList_insert (w0 := w) rfl _ _ _ rfl w.heap.size _ _ _ _ rfl rfl rfl (by assumption) (by assumption) hle (by rfl) ?_; clear hz hb; intro w' hz hb) | fail)
  go_ret
  exact ⟨_, rfl, (Array.getElem?_eq_some_iff.1 hz).1, hz, hb⟩
end Go.Proofs.YtkijhinhjnbnlaaDoor
namespace Go.Proofs.YtkijhinhjnbnlaaDoor
open Go.RowKit Go.Maps Go.ChangeMaps Go.MapKept
/-- which function asks of a kind -/
def askOf (k : Int) : Option Nat :=
  if k = 1 then some 36
  else if k = 2 then some 37
  else if k = 3 then some 38
  else if k = 4 then some 39
  else if k = 5 then some 39
  else if k = 6 then some 39
  else if k = 7 then some 40
  else if k = 12 then some 39
  else if k = 13 then some 39
  else if k = 14 then some 41
  else if k = 15 then some 41
  else if k = 16 then some 39
  else if k = 17 then some 39
  else if k = 18 then some 42
  else if k = 19 then some 40
  else if k = 20 then some 43
  else if k = 21 then some 44
  else if k = 22 then some 45
  else if k = 23 then some 46
  else if k = 24 then some 47
  else none
theorem askOf_kind {k : Int} {f : Nat} (h : askOf k = some f) : k = 1 ∨ k = 2 ∨ k = 3 ∨ k = 4 ∨ k = 5 ∨ k = 6 ∨ k = 7 ∨ k = 12 ∨ k = 13 ∨ k = 14 ∨ k = 15 ∨ k = 16 ∨ k = 17 ∨ k = 18 ∨ k = 19 ∨ k = 20 ∨ k = 21 ∨ k = 22 ∨ k = 23 ∨ k = 24 := by
  unfold askOf at h
  by_cases e : k = 1
  · omega
  rw [if_neg e] at h
  clear e
  by_cases e : k = 2
  · omega
  rw [if_neg e] at h
  clear e
  by_cases e : k = 3
  · omega
  rw [if_neg e] at h
  clear e
  by_cases e : k = 4
  · omega
  rw [if_neg e] at h
  clear e
  by_cases e : k = 5
  · omega
  rw [if_neg e] at h
  clear e
  by_cases e : k = 6
  · omega
  rw [if_neg e] at h
  clear e
  by_cases e : k = 7
  · omega
  rw [if_neg e] at h
  clear e
  by_cases e : k = 12
  · omega
  rw [if_neg e] at h
  clear e
  by_cases e : k = 13
  · omega
  rw [if_neg e] at h
  clear e
  by_cases e : k = 14
  · omega
  rw [if_neg e] at h
  clear e
  by_cases e : k = 15
  · omega
  rw [if_neg e] at h
  clear e
  by_cases e : k = 16
  · omega
  rw [if_neg e] at h
  clear e
  by_cases e : k = 17
  · omega
  rw [if_neg e] at h
  clear e
  by_cases e : k = 18
  · omega
  rw [if_neg e] at h
  clear e
  by_cases e : k = 19
  · omega
  rw [if_neg e] at h
  clear e
  by_cases e : k = 20
  · omega
  rw [if_neg e] at h
  clear e
  by_cases e : k = 21
  · omega
  rw [if_neg e] at h
  clear e
  by_cases e : k = 22
  · omega
  rw [if_neg e] at h
  clear e
  by_cases e : k = 23
  · omega
  rw [if_neg e] at h
  clear e
  by_cases e : k = 24
  · omega
  rw [if_neg e] at h
  clear e
  cases h
theorem askOf_none {k : Int} (h : askOf k = none) : k ≠ 1 ∧ k ≠ 2 ∧ k ≠ 3 ∧ k ≠ 4 ∧ k ≠ 5 ∧ k ≠ 6 ∧ k ≠ 7 ∧ k ≠ 12 ∧ k ≠ 13 ∧ k ≠ 14 ∧ k ≠ 15 ∧ k ≠ 16 ∧ k ≠ 17 ∧ k ≠ 18 ∧ k ≠ 19 ∧ k ≠ 20 ∧ k ≠ 21 ∧ k ≠ 22 ∧ k ≠ 23 ∧ k ≠ 24 := by
  refine ⟨?_, ?_, ?_, ?_, ?_, ?_, ?_, ?_, ?_, ?_, ?_, ?_, ?_, ?_, ?_, ?_, ?_, ?_, ?_, ?_⟩ <;> (rintro rfl; exact absurd h (by decide))
set_option maxRecDepth 100000 in
theorem look_some {w : World} {m i : Nat} {k : Int} {v : Value} (h : AsksAt w m) (hf : Instr.findNow (.int .i64) (.int .i64 k) askL 0 = some (some (i, v))) :
    (Instr.lookup 52 (.map (some m)) (.int .i64 k) true).run Tryd.prog w = .ok (.tuple #[v, .bool true]) w := by
  have hf := run_findKey (w := w) (P := Tryd.prog) key_under hf
  unfold Instr.lookup
  simp only [Sem.run_bind, run_underlying map_under, Result.andThen, Go.MapKept.run_getObj_map h, Sem.run_pure, key_ok, hf, if_true]
theorem zero_fn (w : World) : (zeroValue 78).run Tryd.prog w = .ok Value.nilFunc w := by kernel_rfl
set_option maxRecDepth 100000 in
theorem look_none {w : World} {m : Nat} {k : Int} (h : AsksAt w m) (hf : Instr.findNow (.int .i64) (.int .i64 k) askL 0 = some none) :
    (Instr.lookup 52 (.map (some m)) (.int .i64 k) true).run Tryd.prog w = .ok (.tuple #[Value.nilFunc, .bool false]) w := by
  have hf := run_findKey (w := w) (P := Tryd.prog) key_under hf
  unfold Instr.lookup
  simp only [Sem.run_bind, run_underlying map_under, Result.andThen, Go.MapKept.run_getObj_map h, Sem.run_pure, key_ok, hf, zero_fn, if_true]
/-- has a node of the core what its kind asks? -/
noncomputable def askB (n sc : Int) (cs : List Int) (d : Nat) (k num pos : Int) (lv : List (List (Int × Int))) (nk : Nat) : Bool := by classical exact decide (AskC n sc cs d k num pos lv nk)
theorem askB_iff (n sc : Int) (cs : List Int) (d : Nat) (k num pos : Int) (lv : List (List (Int × Int))) (nk : Nat) : askB n sc cs d k num pos lv nk = true ↔ AskC n sc cs d k num pos lv nk := by unfold askB; simp
theorem askB_of {n sc : Int} {cs : List Int} {d : Nat} {k num pos : Int} {lv : List (List (Int × Int))} {nk : Nat} {b : Bool} (h : b = true ↔ AskC n sc cs d k num pos lv nk) : b = askB n sc cs d k num pos lv nk := by
  rw [← askB_iff] at h
  cases b <;> cases e : askB n sc cs d k num pos lv nk <;> simp_all
theorem askB_none {n sc : Int} {cs : List Int} {d : Nat} {k num pos : Int} {lv : List (List (Int × Int))} {nk : Nat} (h : askOf k = none) : askB n sc cs d k num pos lv nk = false := by
  cases e : askB n sc cs d k num pos lv nk with
  | false => rfl
  | true =>
    have h1 := (askB_iff ..).1 e
    obtain ⟨e1, e2, e3, e4, e5, e6, e7, e12, e13, e14, e15, e16, e17, e18, e19, e20, e21, e22, e23, e24⟩ := askOf_none h
    unfold AskC plainK at h1
    exfalso
    omega
set_option maxRecDepth 100000 in
theorem enter_choice (vs : Array Value) (w : World) : (callFunc 47 vs).run Tryd.prog w = .ok (.enter 47 vs) w := by go_simp
set_option maxRecDepth 100000 in
theorem enter_constant (vs : Array Value) (w : World) : (callFunc 38 vs).run Tryd.prog w = .ok (.enter 38 vs) w := by go_simp
set_option maxRecDepth 100000 in
theorem enter_element (vs : Array Value) (w : World) : (callFunc 46 vs).run Tryd.prog w = .ok (.enter 46 vs) w := by go_simp
set_option maxRecDepth 100000 in
theorem enter_finite (vs : Array Value) (w : World) : (callFunc 45 vs).run Tryd.prog w = .ok (.enter 45 vs) w := by go_simp
set_option maxRecDepth 100000 in
theorem enter_five (vs : Array Value) (w : World) : (callFunc 42 vs).run Tryd.prog w = .ok (.enter 42 vs) w := by go_simp
set_option maxRecDepth 100000 in
theorem enter_none (vs : Array Value) (w : World) : (callFunc 43 vs).run Tryd.prog w = .ok (.enter 43 vs) w := by go_simp
set_option maxRecDepth 100000 in
theorem enter_one (vs : Array Value) (w : World) : (callFunc 41 vs).run Tryd.prog w = .ok (.enter 41 vs) w := by go_simp
set_option maxRecDepth 100000 in
theorem enter_six (vs : Array Value) (w : World) : (callFunc 44 vs).run Tryd.prog w = .ok (.enter 44 vs) w := by go_simp
set_option maxRecDepth 100000 in
theorem enter_sort (vs : Array Value) (w : World) : (callFunc 37 vs).run Tryd.prog w = .ok (.enter 37 vs) w := by go_simp
set_option maxRecDepth 100000 in
theorem enter_three (vs : Array Value) (w : World) : (callFunc 40 vs).run Tryd.prog w = .ok (.enter 40 vs) w := by go_simp
set_option maxRecDepth 100000 in
theorem enter_two (vs : Array Value) (w : World) : (callFunc 39 vs).run Tryd.prog w = .ok (.enter 39 vs) w := by go_simp
set_option maxRecDepth 100000 in
theorem enter_variable (vs : Array Value) (w : World) : (callFunc 36 vs).run Tryd.prog w = .ok (.enter 36 vs) w := by go_simp
theorem one_all {lv : List (List (Int × Int))} {n : Int} (h : lv.length = 1) : (∀ l ∈ lv, RightS l n) ↔ RightS (lv.getD 0 []) n := by
  match lv, h with
  | [l], _ => simp
theorem all_rl {lv : List (List (Int × Int))} {n : Int} : lv.all (fun l => rlB l n) = true ↔ ∀ l ∈ lv, RightS l n := by
  rw [List.all_eq_true]
  exact forall_congr' fun l => forall_congr' fun _ => rlB_iff l n
set_option maxRecDepth 100000 in
theorem ask_call (sc n : Int) (d : Nat) (A : Option Addr) (nc cc m : Nat) (k num pos : Int) (A1 : Option Addr) (p1 c1 : Nat) (A2 : Option Addr) (p2 c2 : Nat) (w : World) (cs : List Int) (lv : List (List (Int × Int))) (hd : d ≤ 1073741824) (hn : Rng num) (hnc : cs.length = nc) (hcs : Ints w w.heap.size A cs) (hnl : lv.length = p1) (hp1 : p1 ≤ 1048576) (hp2 : p2 ≤ 1048576) (hl : Levs w w.heap.size A1 lv) (h6 : ∀ l ∈ lv, l.length ≤ 1000000) (f : Nat) (hf : askOf k = some f) :
    Calls Tryd.prog f #[WK sc (d : Int) n A nc cc m, .agg #[.int .i64 k, .int .i64 num, .int .i64 pos, .slice A1 p1 c1, .slice A2 p2 c2]] w (MustPost w 6 (askB n sc cs d k num pos lv p2)) ∧ ∀ vs w, (callFunc f vs).run Tryd.prog w = .ok (.enter f vs) w := by
  rcases askOf_kind hf with rfl | rfl | rfl | rfl | rfl | rfl | rfl | rfl | rfl | rfl | rfl | rfl | rfl | rfl | rfl | rfl | rfl | rfl | rfl | rfl
  · obtain rfl : 36 = f := Option.some.inj hf
    rw [← askB_of (b := decide (pos = 0) && decide (p1 = 0) && decide (p2 = 0) && (decide (0 ≤ num) && decide (num - d < sc))) (by have hp : plainK 1 = -1 := (by decide); unfold AskC; rw [hp, hnl]; simp only [Bool.and_eq_true, decide_eq_true_eq, true_and]; omega)]
    exact ⟨variable_any sc n d A nc cc m 1 num pos A1 p1 c1 A2 p2 c2 w hd hn, enter_variable⟩
  · obtain rfl : 37 = f := Option.some.inj hf
    rw [← askB_of (b := decide (num = 0) && decide (pos = 0) && decide (p1 = 1) && decide (p2 = 0) && rlB (lv.getD 0 []) n) (by
      have hp : plainK 2 = -1 := (by decide)
      unfold AskC
      rw [hp, hnl]
      simp only [Bool.and_eq_true, decide_eq_true_eq, rlB_iff, true_and]
      constructor
      · rintro ⟨⟨⟨⟨a1, a2⟩, a3⟩, a4⟩, a5⟩
        exact Or.inr (Or.inl ⟨a1, a2, a3, a4, (one_all (by omega)).2 a5⟩)
      · intro h
        have a0 : num = 0 ∧ pos = 0 ∧ p1 = 1 ∧ p2 = 0 := by omega
        refine ⟨⟨⟨⟨a0.1, a0.2.1⟩, a0.2.2.1⟩, a0.2.2.2⟩, (one_all (by omega)).1 ?_⟩
        rcases h with h | h | h | h
        · omega
        · exact h.2.2.2.2
        · omega
        · omega)]
    exact ⟨sort_any sc n d A nc cc m 2 num pos A1 p1 c1 A2 p2 c2 w lv hnl hl h6, enter_sort⟩
  · obtain rfl : 38 = f := Option.some.inj hf
    rw [← askB_of (b := decide (pos = 0) && decide (p2 = 0) && decide (0 ≤ num) && decide (num < cs.length) && decide ((p1 : Int) = cs.getD num.toNat 0) && lv.all (fun l => rlB l n)) (by
      have hp : plainK 3 = -1 := (by decide)
      unfold AskC
      rw [hp, hnl]
      simp only [Bool.and_eq_true, decide_eq_true_eq, all_rl, true_and]
      constructor
      · rintro ⟨⟨⟨⟨⟨a1, a2⟩, a3⟩, a4⟩, a5⟩, a6⟩
        exact Or.inr (Or.inr (Or.inl ⟨a1, a2, a3, a4, a5, a6⟩))
      · intro h
        rcases h with h | h | h | h
        · omega
        · omega
        · exact ⟨⟨⟨⟨⟨h.1, h.2.1⟩, h.2.2.1⟩, h.2.2.2.1⟩, h.2.2.2.2.1⟩, h.2.2.2.2.2⟩
        · omega)]
    exact ⟨constant_any sc n d A nc cc m 3 num pos A1 p1 c1 A2 p2 c2 w cs lv hnc hcs hnl hp1 hl h6, enter_constant⟩
  · obtain rfl : 39 = f := Option.some.inj hf
    rw [← askB_of (b := decide (num = 0) && decide (pos = 0) && decide (p1 = 0) && decide ((p2 : Int) = 2)) (by have hp : plainK 4 = 2 := (by decide); unfold AskC; rw [hp, hnl]; simp only [Bool.and_eq_true, decide_eq_true_eq]; omega)]
    exact ⟨two_any sc (d : Int) n A nc cc m 4 num pos A1 p1 c1 A2 p2 c2 w, enter_two⟩
  · obtain rfl : 39 = f := Option.some.inj hf
    rw [← askB_of (b := decide (num = 0) && decide (pos = 0) && decide (p1 = 0) && decide ((p2 : Int) = 2)) (by have hp : plainK 5 = 2 := (by decide); unfold AskC; rw [hp, hnl]; simp only [Bool.and_eq_true, decide_eq_true_eq]; omega)]
    exact ⟨two_any sc (d : Int) n A nc cc m 5 num pos A1 p1 c1 A2 p2 c2 w, enter_two⟩
  · obtain rfl : 39 = f := Option.some.inj hf
    rw [← askB_of (b := decide (num = 0) && decide (pos = 0) && decide (p1 = 0) && decide ((p2 : Int) = 2)) (by have hp : plainK 6 = 2 := (by decide); unfold AskC; rw [hp, hnl]; simp only [Bool.and_eq_true, decide_eq_true_eq]; omega)]
    exact ⟨two_any sc (d : Int) n A nc cc m 6 num pos A1 p1 c1 A2 p2 c2 w, enter_two⟩
  · obtain rfl : 40 = f := Option.some.inj hf
    rw [← askB_of (b := decide (num = 0) && decide (pos = 0) && decide (p1 = 0) && decide ((p2 : Int) = 3)) (by have hp : plainK 7 = 3 := (by decide); unfold AskC; rw [hp, hnl]; simp only [Bool.and_eq_true, decide_eq_true_eq]; omega)]
    exact ⟨three_any sc (d : Int) n A nc cc m 7 num pos A1 p1 c1 A2 p2 c2 w, enter_three⟩
  · obtain rfl : 39 = f := Option.some.inj hf
    rw [← askB_of (b := decide (num = 0) && decide (pos = 0) && decide (p1 = 0) && decide ((p2 : Int) = 2)) (by have hp : plainK 12 = 2 := (by decide); unfold AskC; rw [hp, hnl]; simp only [Bool.and_eq_true, decide_eq_true_eq]; omega)]
    exact ⟨two_any sc (d : Int) n A nc cc m 12 num pos A1 p1 c1 A2 p2 c2 w, enter_two⟩
  · obtain rfl : 39 = f := Option.some.inj hf
    rw [← askB_of (b := decide (num = 0) && decide (pos = 0) && decide (p1 = 0) && decide ((p2 : Int) = 2)) (by have hp : plainK 13 = 2 := (by decide); unfold AskC; rw [hp, hnl]; simp only [Bool.and_eq_true, decide_eq_true_eq]; omega)]
    exact ⟨two_any sc (d : Int) n A nc cc m 13 num pos A1 p1 c1 A2 p2 c2 w, enter_two⟩
  · obtain rfl : 41 = f := Option.some.inj hf
    rw [← askB_of (b := decide (num = 0) && decide (pos = 0) && decide (p1 = 0) && decide ((p2 : Int) = 1)) (by have hp : plainK 14 = 1 := (by decide); unfold AskC; rw [hp, hnl]; simp only [Bool.and_eq_true, decide_eq_true_eq]; omega)]
    exact ⟨one_any sc (d : Int) n A nc cc m 14 num pos A1 p1 c1 A2 p2 c2 w, enter_one⟩
  · obtain rfl : 41 = f := Option.some.inj hf
    rw [← askB_of (b := decide (num = 0) && decide (pos = 0) && decide (p1 = 0) && decide ((p2 : Int) = 1)) (by have hp : plainK 15 = 1 := (by decide); unfold AskC; rw [hp, hnl]; simp only [Bool.and_eq_true, decide_eq_true_eq]; omega)]
    exact ⟨one_any sc (d : Int) n A nc cc m 15 num pos A1 p1 c1 A2 p2 c2 w, enter_one⟩
  · obtain rfl : 39 = f := Option.some.inj hf
    rw [← askB_of (b := decide (num = 0) && decide (pos = 0) && decide (p1 = 0) && decide ((p2 : Int) = 2)) (by have hp : plainK 16 = 2 := (by decide); unfold AskC; rw [hp, hnl]; simp only [Bool.and_eq_true, decide_eq_true_eq]; omega)]
    exact ⟨two_any sc (d : Int) n A nc cc m 16 num pos A1 p1 c1 A2 p2 c2 w, enter_two⟩
  · obtain rfl : 39 = f := Option.some.inj hf
    rw [← askB_of (b := decide (num = 0) && decide (pos = 0) && decide (p1 = 0) && decide ((p2 : Int) = 2)) (by have hp : plainK 17 = 2 := (by decide); unfold AskC; rw [hp, hnl]; simp only [Bool.and_eq_true, decide_eq_true_eq]; omega)]
    exact ⟨two_any sc (d : Int) n A nc cc m 17 num pos A1 p1 c1 A2 p2 c2 w, enter_two⟩
  · obtain rfl : 42 = f := Option.some.inj hf
    rw [← askB_of (b := decide (num = 0) && decide (pos = 0) && decide (p1 = 0) && decide ((p2 : Int) = 5)) (by have hp : plainK 18 = 5 := (by decide); unfold AskC; rw [hp, hnl]; simp only [Bool.and_eq_true, decide_eq_true_eq]; omega)]
    exact ⟨five_any sc (d : Int) n A nc cc m 18 num pos A1 p1 c1 A2 p2 c2 w, enter_five⟩
  · obtain rfl : 40 = f := Option.some.inj hf
    rw [← askB_of (b := decide (num = 0) && decide (pos = 0) && decide (p1 = 0) && decide ((p2 : Int) = 3)) (by have hp : plainK 19 = 3 := (by decide); unfold AskC; rw [hp, hnl]; simp only [Bool.and_eq_true, decide_eq_true_eq]; omega)]
    exact ⟨three_any sc (d : Int) n A nc cc m 19 num pos A1 p1 c1 A2 p2 c2 w, enter_three⟩
  · obtain rfl : 43 = f := Option.some.inj hf
    rw [← askB_of (b := decide (num = 0) && decide (pos = 0) && decide (p1 = 0) && decide ((p2 : Int) = 0)) (by have hp : plainK 20 = 0 := (by decide); unfold AskC; rw [hp, hnl]; simp only [Bool.and_eq_true, decide_eq_true_eq]; omega)]
    exact ⟨none_any sc (d : Int) n A nc cc m 20 num pos A1 p1 c1 A2 p2 c2 w, enter_none⟩
  · obtain rfl : 44 = f := Option.some.inj hf
    rw [← askB_of (b := decide (num = 0) && decide (pos = 0) && decide (p1 = 0) && decide ((p2 : Int) = 6)) (by have hp : plainK 21 = 6 := (by decide); unfold AskC; rw [hp, hnl]; simp only [Bool.and_eq_true, decide_eq_true_eq]; omega)]
    exact ⟨six_any sc (d : Int) n A nc cc m 21 num pos A1 p1 c1 A2 p2 c2 w, enter_six⟩
  · obtain rfl : 45 = f := Option.some.inj hf
    rw [← askB_of (b := decide (0 ≤ num) && decide (pos = 0) && decide (p1 = 0) && decide (p2 = 0)) (by have hp : plainK 22 = -1 := (by decide); unfold AskC; rw [hp, hnl]; simp only [Bool.and_eq_true, decide_eq_true_eq, true_and]; omega)]
    exact ⟨finite_any sc (d : Int) n A nc cc m 22 num pos A1 p1 c1 A2 p2 c2 w, enter_finite⟩
  · obtain rfl : 46 = f := Option.some.inj hf
    rw [← askB_of (b := decide (0 ≤ num) && decide (num < pos) && decide (p1 = 0) && decide (p2 = 0)) (by have hp : plainK 23 = -1 := (by decide); unfold AskC; rw [hp, hnl]; simp only [Bool.and_eq_true, decide_eq_true_eq, true_and]; omega)]
    exact ⟨element_any sc (d : Int) n A nc cc m 23 num pos A1 p1 c1 A2 p2 c2 w, enter_element⟩
  · obtain rfl : 47 = f := Option.some.inj hf
    rw [← askB_of (b := decide (num = 0) && decide (0 ≤ pos) && decide (p1 = 0) && decide ((p2 : Int) - 2 = pos)) (by have hp : plainK 24 = -1 := (by decide); unfold AskC; rw [hp, hnl]; simp only [Bool.and_eq_true, decide_eq_true_eq, true_and]; omega)]
    exact ⟨choice_any sc (d : Int) n A nc cc m 24 num pos A1 p1 c1 A2 p2 c2 w hp2, enter_choice⟩
end Go.Proofs.YtkijhinhjnbnlaaDoor
namespace Go.Proofs.YtkijhinhjnbnlaaDoor
open Go.RowKit Go.Maps
set_option maxRecDepth 100000 in
set_option maxHeartbeats 2000000 in
theorem cbelow_any (sc : Int) (d : Nat) (k : Int) (i : Nat) (w : World) (hd : d ≤ 1073741824) (hi : i ≤ 1048576) (hK : KindsAt w) : Calls Tryd.prog 48 #[.agg #[.int .i64 sc, .int .i64 (d : Int)], .int .i64 k, .int .i64 (i : Int)] w (fun e w' => e = .returned (.agg #[.int .i64 sc, .int .i64 ((d + under k i : Nat) : Int)]) ∧ Below w.heap.size w w') := by
  have h0 : 0 < w.heap.size := cell_lt (hK 0 (by decide))
  obtain ⟨w1, hw1⟩ : ∃ x, (w.alloc (.cells #[.int .i64 sc, .int .i64 (d : Int)] 51)).alloc (.cells #[.int .i64 0, .int .i64 0] 51) = x := ⟨_, rfl⟩
  have hb1 : Below w.heap.size w w1 := by rw [← hw1]; exact two_below w _ _
  have hs1 : w.heap.size + 2 ≤ w1.heap.size := by rw [← hw1]; simp
  obtain ⟨z1, z2, _⟩ := two_allocs w (.cells #[.int .i64 sc, .int .i64 (d : Int)] 51) (.cells #[.int .i64 0, .int .i64 0] 51)
  rw [hw1] at z1 z2
  have HC := Lib.hid (binds_any k i w1 hi (hK.below hb1 h0))
  have HB := Lib.hid hb1
  have HS := Lib.hid hs1
  have Z1 := Lib.hid z1
  have Z2 := Lib.hid z2
  clear hb1 hs1 z1 z2 hK h0
  unfold under
  obtain ⟨bb, hbb⟩ : ∃ x, binds k i = x := ⟨_, rfl⟩
  rw [hbb] at HC ⊢
  clear hbb
  go_enter Tryd.func48, Tryd.ntmps48
  go_wp2_with (fail)
  refine HC.out.mono ?_
  rintro e w2 ⟨rfl, hb2⟩
  have hr1 := (hb2.block w.heap.size (by have := HS.out; omega)).trans Z1.out
  have hr2 := (hb2.block (w.heap.size + 1) (by have := HS.out; omega)).trans Z2.out
  have c0 := cell_of_row _ _ 0 _ _ (0, 0) hr1
  have c1 := cell_of_row _ _ 1 _ _ (0, 0) hr1
  have e0 := cell_of_row _ _ 0 _ _ (0, 0) hr2
  have e1 := cell_of_row _ _ 1 _ _ (0, 0) hr2
  have t1 := thawed hr1 1
  have u0 := thawed hr2 0
  have u1 := thawed hr2 1
  have HB2 : Hid (Below w.heap.size w w2) := HB.out.trans (hb2.mono HB.out.size)
  have hz2 : w.heap.size + 2 ≤ w2.heap.size := Nat.le_trans HS.out hb2.size
  clear hb2 HC
  cases bb with
  | true =>
    have hw : IntKind.i64.wrap ((d : Int) + 1) = ((d : Int) + 1) := IntWalk.i64_in _ (by omega)
    obtain ⟨w3, hw3⟩ : ∃ x, w2.setCell ⟨w.heap.size, 1, none⟩ (.int .i64 ((d : Int) + 1)) = x := ⟨_, rfl⟩
    have g1 : w3.heap[w.heap.size]? = some (.cells #[.int .i64 sc, .int .i64 ((d : Int) + 1)] 51 (0, 0)) := by rw [← hw3]; exact set_same hr1 1 _
    have g2 : w3.heap[w.heap.size + 1]? = some (.cells #[.int .i64 0, .int .i64 0] 51 (0, 0)) := by rw [← hw3]; exact (Below.heap_setCell _ _ _ _ (by show w.heap.size + 1 ≠ w.heap.size; omega)).trans hr2
    have a0 := cell_of_row _ _ 0 _ _ (0, 0) g1
    have a1 := cell_of_row _ _ 1 _ _ (0, 0) g1
    have b0 := cell_of_row _ _ 0 _ _ (0, 0) g2
    have b1 := cell_of_row _ _ 1 _ _ (0, 0) g2
    have v0 := thawed g2 0
    have v1 := thawed g2 1
    have HB3 : Hid (Below w.heap.size w w3) := by rw [← hw3]; exact HB2.out.setCell (Nat.le_refl _) _
    have r0 := row_cell (set_same (set_same g2 0 (.int .i64 sc)) 1 (.int .i64 ((d : Int) + 1))) (j := 0) (v := .int .i64 sc) rfl
    have r1 := row_cell (set_same (set_same g2 0 (.int .i64 sc)) 1 (.int .i64 ((d : Int) + 1))) (j := 1) (v := .int .i64 ((d : Int) + 1)) rfl
    have HF : Hid (Below w.heap.size w ((w3.setCell ⟨w.heap.size + 1, 0, none⟩ (.int .i64 sc)).setCell ⟨w.heap.size + 1, 1, none⟩ (.int .i64 ((d : Int) + 1)))) := (HB3.out.setCell (by show w.heap.size ≤ w.heap.size + 1; omega) _).setCell (by show w.heap.size ≤ w.heap.size + 1; omega) _
    clear g1 g2 hr1 hr2 e0 e1 u0 u1
    go_wp2
    exact bodyPost_ret (v := .agg #[.int .i64 sc, .int .i64 ((d : Int) + 1)]) (by simp [results, Tryd.results48, go_sem, r0, r1]) rfl ⟨by simp, HF.out⟩
  | false =>
    have r0 := row_cell (set_same (set_same hr2 0 (.int .i64 sc)) 1 (.int .i64 (d : Int))) (j := 0) (v := .int .i64 sc) rfl
    have r1 := row_cell (set_same (set_same hr2 0 (.int .i64 sc)) 1 (.int .i64 (d : Int))) (j := 1) (v := .int .i64 (d : Int)) rfl
    have HF : Hid (Below w.heap.size w ((w2.setCell ⟨w.heap.size + 1, 0, none⟩ (.int .i64 sc)).setCell ⟨w.heap.size + 1, 1, none⟩ (.int .i64 (d : Int)))) := (HB2.out.setCell (by show w.heap.size ≤ w.heap.size + 1; omega) _).setCell (by show w.heap.size ≤ w.heap.size + 1; omega) _
    clear hr1 hr2
    go_wp2
    exact bodyPost_ret (v := .agg #[.int .i64 sc, .int .i64 (d : Int)]) (by simp [results, Tryd.results48, go_sem, r0, r1]) rfl ⟨by simp, HF.out⟩
/-- is a term right in the core, so many binders deep? -/
noncomputable def coreB (n sc : Int) (cs : List Int) (d : Nat) (t : Tm) : Bool := by classical exact decide (t.core n sc cs d)
theorem coreB_iff (n sc : Int) (cs : List Int) (d : Nat) (t : Tm) : coreB n sc cs d t = true ↔ t.core n sc cs d := by unfold coreB; simp
theorem look_find {k : Int} {f : Nat} (hf : askOf k = some f) : ∃ i, Instr.findNow (.int .i64) (.int .i64 k) askL 0 = some (some (i, .func (.func f) #[] #[])) := by
  rcases askOf_kind hf with rfl | rfl | rfl | rfl | rfl | rfl | rfl | rfl | rfl | rfl | rfl | rfl | rfl | rfl | rfl | rfl | rfl | rfl | rfl | rfl <;> (obtain rfl := Option.some.inj hf; exact ⟨_, rfl⟩)
def CoreTm (W : World) (B m : Nat) (n sc : Int) (cs : List Int) (A : Option Addr) (nc cc : Nat) (t : Tm) : Prop := t.fit → ∀ (d : Nat) (v : Value) (w : World), d + t.size ≤ 1073741824 → Below B W w → TmAt W B t v →
  Calls Tryd.prog 22 #[WK sc (d : Int) n A nc cc m, v] w (MustPost w 6 (coreB n sc cs d t))
theorem ints_more {w : World} {B B' : Nat} {A : Option Addr} {ns : List Int} (h : Ints w B A ns) (hB : B ≤ B') : Ints w B' A ns := fun hn => by
  obtain ⟨b, o, e, hb, hc⟩ := h hn
  exact ⟨b, o, e, by omega, hc⟩
set_option maxRecDepth 100000 in
set_option maxHeartbeats 8000000 in
theorem core_of (W : World) (B m : Nat) (n sc : Int) (cs : List Int) (A : Option Addr) (nc cc : Nat) (hB : 0 < B) (hBW : B ≤ W.heap.size) (hK : KindsAt W) (hm : AsksAt W m) (hmB : m < B) (hnc : cs.length = nc) (hcs : Ints W B A cs)
    (k num pos : Int) (lv : List (List (Int × Int))) (kids : List Tm) (ih : ∀ t ∈ kids, CoreTm W B m n sc cs A nc cc t) : CoreTm W B m n sc cs A nc cc (.mk k num pos lv kids) := by
  intro hf d v w hd hb hv
  obtain ⟨A1, c1, A2, c2, rfl, q1, q2, q3⟩ := hv.open
  rw [Tm.fit_mk] at hf
  rw [Tm.size_mk] at hd
  obtain ⟨p1, hp1⟩ : ∃ p, lv.length = p := ⟨_, rfl⟩
  obtain ⟨p2, hp2⟩ : ∃ p, kids.length = p := ⟨_, rfl⟩
  obtain ⟨r, hr⟩ : ∃ r, coreB n sc cs d (.mk k num pos lv kids) = r := ⟨_, rfl⟩
  have hrr : r = true ↔ AskC n sc cs d k num pos lv p2 ∧ ∀ (j : Nat) (t : Tm), kids[j]? = some t → t.core n sc cs (d + under k j) := by
    rw [← hr, coreB_iff, Tm.core_mk, hp2, Tm.coreL_iff]
    simp only [Nat.zero_add]
  rw [hr, hp1, hp2]
  have hwB : B ≤ w.heap.size := Nat.le_trans hBW hb.size
  obtain ⟨w1, hw1⟩ : ∃ x, (w.alloc (.cells #[.int .i64 sc, .int .i64 (d : Int), .int .i64 n, .slice A nc cc, .map (some m)] 55)).alloc (.cells #[.int .i64 k, .int .i64 num, .int .i64 pos, .slice A1 p1 c1, .slice A2 p2 c2] 27) = x := ⟨_, rfl⟩
  have hb1 : Below w.heap.size w w1 := by rw [← hw1]; exact two_below w _ _
  have hs1 : w.heap.size + 2 ≤ w1.heap.size := by rw [← hw1]; simp
  obtain ⟨z1, z2, _⟩ := two_allocs w (.cells #[.int .i64 sc, .int .i64 (d : Int), .int .i64 n, .slice A nc cc, .map (some m)] 55) (.cells #[.int .i64 k, .int .i64 num, .int .i64 pos, .slice A1 p1 c1, .slice A2 p2 c2] 27)
  rw [hw1] at z1 z2
  have hbw1 : Below B W w1 := hb.trans (hb1.mono hwB)
  have hAs : AsksAt w1 m := hm.below hbw1 hmB
  have x4 := cell_of_row _ _ 4 _ _ (0, 0) z1
  have y0 := cell_of_row _ _ 0 _ _ (0, 0) z2
  have X0 := Lib.hid z1
  have X1 := Lib.hid z2
  have HB1 := Lib.hid hb1
  have HS := Lib.hid hs1
  have HBW1 := Lib.hid hbw1
  have HBD := Lib.hid hb
  have HWB := Lib.hid hwB
  have HRR := Lib.hid hrr
  have HF := Lib.hid hf
  have HD := Lib.hid hd
  have HP1 := Lib.hid hp1
  have HP2 := Lib.hid hp2
  have HL := Lib.hid q2
  have HQ := Lib.hid q3
  have HK := Lib.hid hK
  have HB := Lib.hid hB
  have HBWW := Lib.hid hBW
  have HNC := Lib.hid hnc
  have HCS := Lib.hid hcs
  have IH := Lib.hid ih
  have hd9 : d ≤ 1073741824 := by omega
  cases hk : askOf k with
  | none =>
    have hn0 : Instr.findNow (.int .i64) (.int .i64 k) askL 0 = some none := by
      obtain ⟨e1, e2, e3, e4, e5, e6, e7, e8, e9, e10, e11, e12, e13, e14, e15, e16, e17, e18, e19, e20⟩ := askOf_none hk
      have f1 : (k == 1) = false := by simpa using e1
      have f2 : (k == 2) = false := by simpa using e2
      have f3 : (k == 3) = false := by simpa using e3
      have f4 : (k == 4) = false := by simpa using e4
      have f5 : (k == 5) = false := by simpa using e5
      have f6 : (k == 6) = false := by simpa using e6
      have f7 : (k == 7) = false := by simpa using e7
      have f8 : (k == 12) = false := by simpa using e8
      have f9 : (k == 13) = false := by simpa using e9
      have f10 : (k == 14) = false := by simpa using e10
      have f11 : (k == 15) = false := by simpa using e11
      have f12 : (k == 16) = false := by simpa using e12
      have f13 : (k == 17) = false := by simpa using e13
      have f14 : (k == 18) = false := by simpa using e14
      have f15 : (k == 19) = false := by simpa using e15
      have f16 : (k == 20) = false := by simpa using e16
      have f17 : (k == 21) = false := by simpa using e17
      have f18 : (k == 22) = false := by simpa using e18
      have f19 : (k == 23) = false := by simpa using e19
      have f20 : (k == 24) = false := by simpa using e20
      simp [Instr.findNow, askL, askE, Instr.sameNow, f1, f2, f3, f4, f5, f6, f7, f8, f9, f10, f11, f12, f13, f14, f15, f16, f17, f18, f19, f20]
    have hlk := look_none hAs hn0
    have hrf : r = false := by
      cases r with
      | false => rfl
      | true =>
        have h1 := (hrr.1 rfl).1
        have h2 := askB_none (n := n) (sc := sc) (cs := cs) (d := d) (num := num) (pos := pos) (lv := lv) (nk := p2) hk
        rw [(askB_iff ..).2 h1] at h2
        cases h2
    subst hrf
    clear hf hd hp1 hp2 q1 q2 q3 hr hrr hb1 hs1 z1 z2 hbw1 hb hwB hK hB hBW hnc hcs ih hm hAs hn0 hv hmB
    unfold WK
    go_enter Tryd.func22, Tryd.ntmps22
    go_wp2_with (fail)
    refine (must_any false _).mono ?_
    rintro e w2 h
    obtain ⟨rfl, hb2⟩ := h.2 rfl
    have HFF := Lib.hid (HB1.out.trans (hb2.mono HB1.out.size))
    clear h hb2
    go_wp2
    exact ⟨rfl, MustPost.no ⟨rfl, HFF.out⟩⟩
  | some f =>
    obtain ⟨i0, hfn⟩ := look_find hk
    have hlk := look_some hAs hfn
    obtain ⟨ab, hab⟩ : ∃ x, askB n sc cs d k num pos lv p2 = x := ⟨_, rfl⟩
    have hab2 : ab = true ↔ AskC n sc cs d k num pos lv p2 := by rw [← hab]; exact askB_iff ..
    have HCC : Hid (∀ W', Below w1.heap.size w1 W' → Calls Tryd.prog f #[WK sc (d : Int) n A nc cc m, .agg #[.int .i64 k, .int .i64 num, .int .i64 pos, .slice A1 p1 c1, .slice A2 p2 c2]] W' (MustPost W' 6 ab)) := fun W' hW => by
      have hbx : Below B W W' := hbw1.trans (hW.mono (Nat.le_trans hwB hb1.size))
      rw [← hab]
      exact (ask_call sc n d A nc cc m k num pos A1 p1 c1 A2 p2 c2 W' cs lv hd9 hf.1 hnc (ints_more (hcs.below hbx) (Nat.le_trans hBW hbx.size)) hp1 (by rw [← hp1]; exact hf.2.1.1) (by rw [← hp2]; exact hf.2.2.1) ((q2.keep (Nat.le_trans hBW hbx.size) fun q hq => hbx.cell hq)) hf.2.1.2 f hk).1
    have hcall := (ask_call sc n d A nc cc m k num pos A1 p1 c1 A2 p2 c2 w1 cs lv hd9 hf.1 hnc (ints_more (hcs.below hbw1) (Nat.le_trans hBW hbw1.size)) hp1 (by rw [← hp1]; exact hf.2.1.1) (by rw [← hp2]; exact hf.2.2.1) ((q2.keep (Nat.le_trans hBW hbw1.size) fun q hq => hbw1.cell hq)) hf.2.1.2 f hk).2
    have HAB := Lib.hid hab2
    clear hf hd hp1 hp2 q1 q2 q3 hr hrr hb1 hs1 z1 z2 hbw1 hb hwB hK hB hBW hnc hcs ih hm hAs hfn hv hmB hab hab2 hk
    unfold WK at HCC ⊢
    go_enter Tryd.func22, Tryd.ntmps22
    go_wp2_with (fail)
    refine (must_any true _).mono ?_
    rintro e w2 h
    obtain ⟨rfl, hb2⟩ := h.1 rfl
    have HB2 := Lib.hid hb2
    have hx := (hb2.block w.heap.size (by have := HS.out; omega)).trans X0.out
    have hy := (hb2.block (w.heap.size + 1) (by have := HS.out; omega)).trans X1.out
    have a0 := cell_of_row _ _ 0 _ _ (0, 0) hx
    have a1 := cell_of_row _ _ 1 _ _ (0, 0) hx
    have a2 := cell_of_row _ _ 2 _ _ (0, 0) hx
    have a3 := cell_of_row _ _ 3 _ _ (0, 0) hx
    have a4 := cell_of_row _ _ 4 _ _ (0, 0) hx
    have b0 := cell_of_row _ _ 0 _ _ (0, 0) hy
    have b1 := cell_of_row _ _ 1 _ _ (0, 0) hy
    have b2 := cell_of_row _ _ 2 _ _ (0, 0) hy
    have b3 := cell_of_row _ _ 3 _ _ (0, 0) hy
    have b4 := cell_of_row _ _ 4 _ _ (0, 0) hy
    have HC2 := Lib.hid (HCC.out w2 hb2)
    clear h hb2 hx hy x4 y0 hlk
    go_wp2_with (fail)
    refine HC2.out.mono ?_
    rintro e w3 h
    clear a0 a1 a2 a3 a4 b0 b1 b2 b3 b4 HC2 hcall
    cases ab with
    | false =>
      obtain ⟨rfl, hb3⟩ := h.2 rfl
      have HFF : Hid (MustPost w 6 r (.panicked [{ v := .iface 73 (.int .i64 6), recovered := false }]) w3) := by
        have hrf : r = false := by
          cases r with
          | false => rfl
          | true => exact absurd (HAB.out.2 (HRR.out.1 rfl).1) (by decide)
        rw [hrf]
        exact MustPost.no ⟨rfl, HB1.out.trans ((HB2.out.trans (hb3.mono HB2.out.size)).mono (by have := HS.out; omega))⟩
      clear h hb3
      go_wp2
      exact ⟨rfl, HFF.out⟩
    | true =>
      obtain ⟨rfl, hb3⟩ := h.1 rfl
      have HB3 : Hid (Below w1.heap.size w1 w3) := HB2.out.trans (hb3.mono HB2.out.size)
      have b4 := cell_of_row _ _ 4 _ _ (0, 0) ((HB3.out.block (w.heap.size + 1) (by have := HS.out; omega)).trans X1.out)
      have HAC := Lib.hid (HAB.out.1 rfl)
      clear h hb3
      go_wp2_with (fail)
      go_loopw [26] (fun i wr => ∃ q : Nat, q ≤ p2 ∧ i = .int .i64 q ∧ Below w1.heap.size w1 wr ∧ ∀ (j : Nat) (t : Tm), j < q → kids[j]? = some t → t.core n sc cs (d + under k j)) (fun i _ => p2 - (intOf i).toNat)
      case atStart => exact ⟨0, Nat.zero_le _, rfl, HB3.out, fun j t hj => absurd hj (by omega)⟩
      case round =>
        obtain ⟨q, hq, rfl, hbq, hall⟩ := hrel
        by_cases hlt : q < p2
        · have hlen := HP2.out
          have hp9 : p2 ≤ 1048576 := by have := HF.out.2.2.1; omega
          obtain ⟨t, ht⟩ : ∃ t, kids[q]? = some t := ⟨kids[q]'(by omega), List.getElem?_eq_getElem (by omega)⟩
          have hbr : Below B W wr := HBW1.out.trans (hbq.mono (Nat.le_trans HWB.out HB1.out.size))
          have hqz := hbq.size
          have hsz := HS.out
          obtain ⟨b, o, v9, rfl, hbB, hfive, htm⟩ := HQ.out.get ht
          have HIH : Hid (∀ (du : Nat) (w' : World), d + under k q = du → Below B W w' → Calls Tryd.prog 22 #[WK sc (du : Int) n A nc cc m, v9] w' (MustPost w' 6 (coreB n sc cs du t))) := fun du w' hdu hw' =>
            IH.out t (List.mem_of_getElem? ht) ((Tm.fitL_iff kids).1 HF.out.2.2.2 t (List.mem_of_getElem? ht)) du v9 w' (by
              have h1 := Tm.sizeL_take kids q t ht
              have h2 : Tm.sizeL (kids.take (q + 1)) ≤ Tm.sizeL kids := Tm.sizeL_le kids (q + 1)
              have h3 : under k q ≤ 1 := under_le k q
              have := HD.out
              omega) hw' htm
          obtain ⟨k1, n1, a1, lv1, kids1⟩ := t
          obtain ⟨B1, m1, B2, m2, rfl, _, _, _⟩ := htm.open
          obtain ⟨c0', c1', c2', c3', c4', e, g0, g1, g2, g3, g4⟩ := hfive.keep (fun j => hbr.cell (p := ⟨b, j, none⟩) hbB)
          injection e with e
          injection e with e
          injection e with e0 e
          injection e with e1 e
          injection e with e2 e
          injection e with e3 e
          injection e with e4 _
          subst e0 e1 e2 e3 e4
          obtain ⟨l1, hl1⟩ : ∃ x, lv1.length = x := ⟨_, rfl⟩
          obtain ⟨l2, hl2⟩ : ∃ x, kids1.length = x := ⟨_, rfl⟩
          rw [hl1] at g3 HIH
          rw [hl2] at g4 HIH
          obtain ⟨wa, hwa⟩ : ∃ x, wr.alloc (.cells #[.int .i64 k1, .int .i64 n1, .int .i64 a1, .slice B1 l1 m1, .slice B2 l2 m2] 27) = x := ⟨_, rfl⟩
          obtain ⟨w5, hw5⟩ : ∃ x, wa.alloc (.cells #[.int .i64 sc, .int .i64 (d : Int), .int .i64 n, .slice A nc cc, .map (some m)] 55) = x := ⟨_, rfl⟩
          have hba : Below wr.heap.size wr wa := by rw [← hwa]; exact (Below.refl _ _).alloc (Nat.le_refl _) _
          have hsa : wa.heap.size ≤ wr.heap.size + 1 ∧ wr.heap.size + 1 ≤ wa.heap.size := by rw [← hwa]; simp
          have hb5a : Below wa.heap.size wa w5 := by rw [← hw5]; exact (Below.refl _ _).alloc (Nat.le_refl _) _
          have hs5 : wa.heap.size + 1 ≤ w5.heap.size := by rw [← hw5]; simp
          have za : wa.heap[wr.heap.size]? = some (.cells #[.int .i64 k1, .int .i64 n1, .int .i64 a1, .slice B1 l1 m1, .slice B2 l2 m2] 27 (0, 0)) := by rw [← hwa]; exact heap_alloc_new wr _
          have z5 : w5.heap[wa.heap.size]? = some (.cells #[.int .i64 sc, .int .i64 (d : Int), .int .i64 n, .slice A nc cc, .map (some m)] 55 (0, 0)) := by rw [← hw5]; exact heap_alloc_new wa _
          have hxa := (hba.block w.heap.size (by omega)).trans ((hbq.block w.heap.size (by omega)).trans X0.out)
          have hya := (hba.block (w.heap.size + 1) (by omega)).trans ((hbq.block (w.heap.size + 1) (by omega)).trans X1.out)
          have a0 := cell_of_row _ _ 0 _ _ (0, 0) hxa
          have a1' := cell_of_row _ _ 1 _ _ (0, 0) hxa
          have a2 := cell_of_row _ _ 2 _ _ (0, 0) hxa
          have a3 := cell_of_row _ _ 3 _ _ (0, 0) hxa
          have a4 := cell_of_row _ _ 4 _ _ (0, 0) hxa
          have hx5 := (hb5a.block w.heap.size (by omega)).trans hxa
          have d0 := cell_of_row _ _ 0 _ _ (0, 0) hx5
          have d1 := cell_of_row _ _ 1 _ _ (0, 0) hx5
          have b0 := cell_of_row _ _ 0 _ _ (0, 0) ((hb5a.block (w.heap.size + 1) (by omega)).trans hya)
          have hbr5 : Below wr.heap.size wr w5 := hba.trans (hb5a.mono (by omega))
          obtain ⟨du, hdu⟩ : ∃ x, d + under k q = x := ⟨_, rfl⟩
          have HCB : Hid (Calls Tryd.prog 48 #[.agg #[.int .i64 sc, .int .i64 (d : Int)], .int .i64 k, .int .i64 (q : Int)] w5 (fun e w' => e = .returned (.agg #[.int .i64 sc, .int .i64 (du : Int)]) ∧ Below w5.heap.size w5 w')) := by
            rw [← hdu]
            exact cbelow_any sc d k q w5 hd9 (by have := HF.out.2.2.1; omega) (HK.out.below (hbr.trans (hbr5.mono (by have := hbr.size; have := HBWW.out; omega))) HB.out)
          have HBR5 := Lib.hid hbr5
          have HBR := Lib.hid hbr
          have Z5 := Lib.hid z5
          have ZA := Lib.hid ((hb5a.block wr.heap.size (by omega)).trans za)
          have HBQ := Lib.hid hbq
          have HDU := Lib.hid hdu
          have HALL := Lib.hid hall
          have HT := Lib.hid ht
          have hgw : b < wr.heap.size := by have := hbr.size; have := HBWW.out; omega
          clear hba hb5a hs5 za z5 hxa hya hx5 hbr5 hdu hbq hbr hall htm ht hfive hbB hlen hl1 hl2
          go_wp2_with (fail)
          refine HCB.out.mono ?_
          rintro e w6 ⟨rfl, hb6⟩
          clear a0 a1' a2 a3 a4 d0 d1 b0 g0 g1 g2 g3 g4 HCB
          have hz6 := (hb6.block wa.heap.size (by have := heap_some_lt Z5.out; omega)).trans Z5.out
          have hk6 := (hb6.block wr.heap.size (by have := heap_some_lt Z5.out; omega)).trans ZA.out
          have s0 := cell_of_row _ _ 0 _ _ (0, 0) hz6
          have s1 := cell_of_row _ _ 1 _ _ (0, 0) hz6
          have t0 := thawed hz6 0
          have t1 := thawed hz6 1
          obtain ⟨w7, hw7⟩ : ∃ x, (w6.setCell ⟨wa.heap.size, 0, none⟩ (.int .i64 sc)).setCell ⟨wa.heap.size, 1, none⟩ (.int .i64 (du : Int)) = x := ⟨_, rfl⟩
          have hz7 : w7.heap[wa.heap.size]? = some (.cells #[.int .i64 sc, .int .i64 (du : Int), .int .i64 n, .slice A nc cc, .map (some m)] 55 (0, 0)) := by rw [← hw7]; exact set_same (set_same hz6 0 _) 1 _
          have hk7 : w7.heap[wr.heap.size]? = some (.cells #[.int .i64 k1, .int .i64 n1, .int .i64 a1, .slice B1 l1 m1, .slice B2 l2 m2] 27 (0, 0)) := by
            rw [← hw7]
            exact (Below.heap_setCell _ _ _ _ (by show wr.heap.size ≠ wa.heap.size; omega)).trans ((Below.heap_setCell _ _ _ _ (by show wr.heap.size ≠ wa.heap.size; omega)).trans hk6)
          have HB7 : Hid (Below wr.heap.size wr w7) := by
            rw [← hw7]
            exact ((HBR5.out.trans (hb6.mono HBR5.out.size)).setCell (by show wr.heap.size ≤ wa.heap.size; omega) _).setCell (by show wr.heap.size ≤ wa.heap.size; omega) _
          have s0 := cell_of_row _ _ 0 _ _ (0, 0) hz6
          have u0 := cell_of_row _ _ 0 _ _ (0, 0) hz7
          have u1 := cell_of_row _ _ 1 _ _ (0, 0) hz7
          have u2 := cell_of_row _ _ 2 _ _ (0, 0) hz7
          have u3 := cell_of_row _ _ 3 _ _ (0, 0) hz7
          have u4 := cell_of_row _ _ 4 _ _ (0, 0) hz7
          have v0 := cell_of_row _ _ 0 _ _ (0, 0) hk7
          have v1 := cell_of_row _ _ 1 _ _ (0, 0) hk7
          have v2 := cell_of_row _ _ 2 _ _ (0, 0) hk7
          have v3 := cell_of_row _ _ 3 _ _ (0, 0) hk7
          have v4 := cell_of_row _ _ 4 _ _ (0, 0) hk7
          obtain ⟨rb, hrb⟩ : ∃ x, coreB n sc cs du (.mk k1 n1 a1 lv1 kids1) = x := ⟨_, rfl⟩
          have HI := Lib.hid (HIH.out du w7 HDU.out (HBR.out.trans (HB7.out.mono (by have := HBR.out.size; have := HBWW.out; omega))))
          rw [hrb] at HI
          have HRB := Lib.hid hrb
          clear hb6 hz6 hk6 hz7 hk7 HIH hrb
          unfold WK at HI
          go_wp2_with (fail)
          refine HI.out.mono ?_
          rintro e w8 h
          clear u0 u1 u2 u3 u4 v0 v1 v2 v3 v4 HI
          cases rb with
          | true =>
            obtain ⟨rfl, hb8⟩ := h.1 rfl
            have HB8 : Hid (Below w1.heap.size w1 w8) := HBQ.out.trans ((HB7.out.trans (hb8.mono HB7.out.size)).mono HBQ.out.size)
            have HAL : Hid (∀ (j : Nat) (t : Tm), j < q + 1 → kids[j]? = some t → t.core n sc cs (d + under k j)) := fun j t hj ht2 => by
              rcases Nat.lt_succ_iff_lt_or_eq.1 hj with hj | rfl
              · exact HALL.out j t hj ht2
              · rw [HT.out] at ht2
                injection ht2 with ht2
                subst ht2
                rw [HDU.out]
                exact (coreB_iff ..).1 HRB.out
            clear h hb8
            go_wp2
            go_roundw
            case rel => exact ⟨q + 1, by omega, by go_num, HB8.out, HAL.out⟩
            case measure => simp [intOf]; omega
          | false =>
            obtain ⟨rfl, hb8⟩ := h.2 rfl
            have HFF : Hid (MustPost w 6 r (.panicked [{ v := .iface 73 (.int .i64 6), recovered := false }]) w8) := by
              have hrf : r = false := by
                cases r with
                | false => rfl
                | true =>
                  have h1 := (HRR.out.1 rfl).2 q _ HT.out
                  rw [HDU.out, ← coreB_iff, HRB.out] at h1
                  cases h1
              rw [hrf]
              exact MustPost.no ⟨rfl, HB1.out.trans ((HBQ.out.trans ((HB7.out.trans (hb8.mono HB7.out.size)).mono HBQ.out.size)).mono (by have := HS.out; omega))⟩
            clear h hb8
            go_wp2
            exact ⟨rfl, HFF.out⟩
        · obtain rfl : q = p2 := by omega
          have HFF : Hid (MustPost w 6 r (.returned (.tuple #[])) wr) := by
            have hrt : r = true := HRR.out.2 ⟨HAC.out, fun j t ht => hall j t (by have := (List.getElem?_eq_some_iff.1 ht).1; have := HP2.out; omega) ht⟩
            rw [hrt]
            exact MustPost.yes rfl (HB1.out.trans (hbq.mono (by have := HS.out; omega)))
          clear hall hbq
          go_wp2
          go_end0
          exact HFF.out
/-- walk.term ends as it should just if the term is right. -/
theorem core_any (W : World) (B m : Nat) (n sc : Int) (cs : List Int) (A : Option Addr) (nc cc : Nat) (hB : 0 < B) (hBW : B ≤ W.heap.size) (hK : KindsAt W) (hm : AsksAt W m) (hmB : m < B) (hnc : cs.length = nc) (hcs : Ints W B A cs) : ∀ t, CoreTm W B m n sc cs A nc cc t :=
  Tm.ind fun k num pos lv kids ih => core_of W B m n sc cs A nc cc hB hBW hK hm hmB hnc hcs k num pos lv kids ih
/-- is a term right in the core? -/
noncomputable def rightCB (n sc : Int) (cs : List Int) (t : Tm) : Bool := by classical exact decide (RightC n sc cs t)
theorem rightCB_iff (n sc : Int) (cs : List Int) (t : Tm) : rightCB n sc cs t = true ↔ RightC n sc cs t := by unfold rightCB; simp
end Go.Proofs.YtkijhinhjnbnlaaDoor
