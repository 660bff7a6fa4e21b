/- Laws. -/
import Derived.Test.YtfgnnbpbbnnnhaaDoorKqaa
import Derived.Test.YtfgnnbpbbnnnhaaDoorKqah
import Derived.Test.YtfgnnbpbbnnnhaaDoorKqaj
import Derived.Test.YtfgnnbpbbnnnhaaDoorKqak
import Derived.Test.YtfgnnbpbbnnnhaaDoorKqal
namespace Go.Proofs.YtfgnnbpbbnnnhaaDoor
open Go.RowKit Go.Maps
theorem heap_some_lt {w : World} {g : Nat} {o : Obj} (h : w.heap[g]? = some o) : g < w.heap.size := (Array.getElem?_eq_some_iff.1 h).1
section
variable {P : Program} {S : World → Prop} {R : World → World → Prop} {o : Oper} {V : Value → World → Prop} {g : Option (Option Tmp × Bool)} {a : Act} {w w' : World}
theorem StepFrom.slice {t : TypeId} {n : Nat} {ps : List (Nat × Operand)} (hop : o.op = .buildSlice t n ps.toArray) {vs : List (Nat × Value)} (hx : ps.map (fun p => (p.1, a.eval p.2)) = vs) {v : Value}
    (hrun : (Instr.buildSlice t n vs.toArray).run P w = .ok v w') (hg : gOn g a = true) (hS : S w') (hR : R w w') (hV : V v w') : StepFrom P S R o V g [] a w :=
  StepFrom.made (v := v) (w' := w') (by
    have e : (ps.toArray.map fun x => (x.1, a.eval x.2)) = vs.toArray := by rw [List.map_toArray, hx]
    unfold execOp
    simp only [hop, e]
    simp only [Sem.run_bind, hrun]
    rfl) hg hS hR hV
end
end Go.Proofs.YtfgnnbpbbnnnhaaDoor
namespace Go.Proofs.YtfgnnbpbbnnnhaaDoor
open Go.RowKit Go.Maps
/-- an error is thrown -/
def ThrowPost (w : World) (k : Int) (e : Ending) (w' : World) : Prop := e = .panicked [{ v := .iface 112 (.int .i64 k), recovered := false }] ∧ Below w.heap.size w w'
/-- it ends as it should, or throws an error -/
def MustPost (w : World) (k : Int) (b : Bool) (e : Ending) (w' : World) : Prop := (b = true → e = .returned (.tuple #[]) ∧ Below w.heap.size w w') ∧ (b = false → ThrowPost w k e w')
theorem MustPost.yes {w w' : World} {k : Int} {e : Ending} (h1 : e = .returned (.tuple #[])) (h2 : Below w.heap.size w w') : MustPost w k true e w' := ⟨fun _ => ⟨h1, h2⟩, fun h => (by cases h)⟩
theorem MustPost.no {w w' : World} {k : Int} {e : Ending} (h : ThrowPost w k e w') : MustPost w k false e w' := ⟨fun h => (by cases h), fun _ => h⟩
/-- a row of truths -/
def Bools (w : World) (A : Option Addr) (bs : List Bool) : Prop := 0 < bs.length → ∃ b o, A = some ⟨b, o, none⟩ ∧ b < w.heap.size ∧ ∀ i, i < bs.length → w.cell? ⟨b, o + i, none⟩ = some (.bool (bs.getD i true))
set_option maxRecDepth 100000 in
set_option maxHeartbeats 1000000 in
theorem mustT_any (k : Int) (bs : List Bool) (A : Option Addr) (n c : Nat) (w : World) (hn : bs.length = n) (hm : n ≤ 1048576) (h : Bools w A bs) :
    Calls Tryd.prog 69 #[.int .i64 k, .slice A n c] w (MustPost w k (bs.all id)) := by
  have HN := Lib.hid hn
  have HB := Lib.hid h
  clear hn h
  go_enter Tryd.func69, Tryd.ntmps69
  go_wp2
  go_loopw [8] (fun i wr => ∃ j : Nat, j ≤ n ∧ i = .int .i64 j ∧ wr = w ∧ ∀ m, m < j → bs.getD m true = true) (fun i _ => n - (intOf i).toNat)
  case atStart => exact ⟨0, Nat.zero_le _, rfl, rfl, fun m hm => absurd hm (by omega)⟩
  case round =>
    obtain ⟨j, hj, rfl, rfl, hall⟩ := hrel
    by_cases hlt : j < n
    · obtain ⟨b, o, rfl, hb, hc⟩ := HB.out (by have := HN.out; omega)
      have c0 := hc j (by have := HN.out; omega)
      obtain ⟨x, hx⟩ : ∃ x, bs.getD j true = x := ⟨_, rfl⟩
      rw [hx] at c0
      have HX := Lib.hid hx
      clear hc hx
      cases x with
      | true =>
        have HF : Hid (∀ m, m < j + 1 → bs.getD m true = true) := fun m hm => by
          rcases Nat.lt_succ_iff_lt_or_eq.1 hm with hm | rfl
          · exact hall m hm
          · exact HX.out
        clear hall
        go_wp2
        go_roundw
        case rel => exact ⟨j + 1, by omega, by go_num, (by trivial), HF.out⟩
        case measure => simp [intOf]; omega
      | false =>
        have HF : Hid (bs.all id = false) := by
          cases e : bs.all id with
          | false => exact rfl
          | true =>
            have hlen := HN.out
            have h1 := List.all_eq_true.1 e bs[j] (List.getElem_mem (by omega))
            have h2 := HX.out
            rw [List.getD_eq_getElem?_getD, List.getElem?_eq_getElem (by omega : j < bs.length)] at h2
            have h2 : bs[j] = false := h2
            rw [h2] at h1
            exact absurd h1 (by decide)
        clear hall
        go_wp2
        refine ⟨rfl, ?_⟩
        rw [HF.out]
        exact MustPost.no ⟨rfl, Below.refl _ _⟩
    · obtain rfl : j = n := by omega
      have HF : Hid (bs.all id = true) := List.all_eq_true.2 fun x hx => by
        obtain ⟨i, hi, rfl⟩ := List.getElem_of_mem hx
        have := hall i (by have := HN.out; omega)
        rwa [List.getD_eq_getElem?_getD, List.getElem?_eq_getElem hi] at this
      clear hall
      go_wp2
      go_end0
      rw [HF.out]
      exact MustPost.yes rfl (Below.refl _ _)
set_option maxRecDepth 100000 in
theorem thrown_any (k o : Int) (w : World) : Calls Tryd.prog 89 #[.iface 112 (.int .i64 k), .int .i64 o] w (fun e w' => e = .returned (.int .i64 k) ∧ w' = w) := by
  have hta : ∀ w, (Instr.typeAssert (.iface 112 (.int .i64 k)) 20 112 true).run Tryd.prog w = .ok (.tuple #[.int .i64 k, .bool true]) w := fun _ => by kernel_rfl
  go_enter Tryd.func89, Tryd.ntmps89
  go_wp2
  go_ret
  exact ⟨rfl, rfl⟩
set_option maxRecDepth 100000 in
theorem told_idle (p : Array Value) (hp : p.size = 3) (w : World) :
    CallsD Tryd.prog 88 p .returning w fun e u' w' => e = .returned (.tuple #[]) ∧ u' = .returning ∧ w' = w := by
  obtain ⟨p0, p1, p2, rfl⟩ : ∃ p0 p1 p2, p = #[p0, p1, p2] := by
    obtain ⟨l⟩ := p
    match l, hp with
    | [a, b, c], _ => exact ⟨a, b, c, rfl⟩
  refine callsD_of_wpS Tryd.func88 rfl fun c₀ cs hu => ?_
  apply wpS_seq
  apply wpS_region
  simp [wpOpsS, go_sem, recoverD, hu, Tryd.ntmps88, Exit.thenS]
  apply wpS_seq
  apply wpS_region
  simp [wpOpsS, go_sem, Exit.thenS]
  refine wpS_cond (t := false) (by simp [Act.eval, Array.replicate]) ?_
  simp only [Bool.false_eq_true, if_false]
  refine wpS_of_wp (wp_skip ?_)
  cases c₀
  simp_all [bodyPostS, results, Tryd.results88]
set_option maxRecDepth 100000 in
set_option maxHeartbeats 1000000 in
theorem told_catch (g0 g1 g2 : Nat) (k o : Int) (x y : Value) (older : List PanicEntry) (w : World) (h0 : w.cell? ⟨g0, 0, none⟩ = some (.int .i64 o)) (h1 : w.cell? ⟨g1, 0, none⟩ = some x) (h2 : w.cell? ⟨g2, 0, none⟩ = some y) (z1 : w.frozen? ⟨g1, 0, none⟩ = false) (z2 : w.frozen? ⟨g2, 0, none⟩ = false) (hne : g1 ≠ g2) :
    CallsD Tryd.prog 88 #[.pointer (some ⟨g0, 0, none⟩), .pointer (some ⟨g1, 0, none⟩), .pointer (some ⟨g2, 0, none⟩)] (.panicking ({ v := .iface 112 (.int .i64 k), recovered := false } :: older)) w fun e u' w' =>
      e = .returned (.tuple #[]) ∧ u' = .panicking ({ v := .iface 112 (.int .i64 k), recovered := true } :: older) ∧ w' = (w.setCell ⟨g1, 0, none⟩ (.int .i64 0)).setCell ⟨g2, 0, none⟩ (.int .i64 k) := by
  have hta : ∀ w, (Instr.typeAssert (.iface 112 (.int .i64 k)) 20 112 true).run Tryd.prog w = .ok (.tuple #[.int .i64 k, .bool true]) w := fun _ => by kernel_rfl
  refine callsD_of_wpS Tryd.func88 rfl fun c₀ cs hu => ?_
  apply wpS_seq
  apply wpS_region
  simp [wpOpsS, go_sem, recoverD, hu, Tryd.ntmps88, Exit.thenS]
  apply wpS_seq
  apply wpS_region
  simp [wpOpsS, go_sem, Exit.thenS]
  refine wpS_cond (t := true) (by simp [Act.eval, Array.replicate]) ?_
  simp only [if_true]
  refine wpS_of_wp ?_
  simp only [Array.replicate, List.replicate, List.append_toArray, List.setIfInBounds_toArray, List.set]
  go_wp2_with (fail)
  refine (thrown_any k o w).mono ?_
  rintro e w2 ⟨rfl, rfl⟩
  have e2 : (w2.setCell ⟨g1, 0, none⟩ (.int .i64 0)).cell? ⟨g2, 0, none⟩ = some y := (World.cell?_setCell_other _ _ _ _ (by intro e; exact hne (congrArg (fun a : Addr => a.block) e))).trans h2
  have z3 : (w2.setCell ⟨g1, 0, none⟩ (.int .i64 0)).frozen? ⟨g2, 0, none⟩ = false := by rw [World.frozen?_setCell]; exact z2
  go_wp2
  cases c₀
  simp_all [bodyPostS, results, Tryd.results88]
end Go.Proofs.YtfgnnbpbbnnnhaaDoor
namespace Go.Proofs.YtfgnnbpbbnnnhaaDoor
open Go.RowKit Go.Maps
section
variable {P : Program} {S : World → Prop} {R : World → World → Prop} {o : Oper} {V : Value → World → Prop} {g : Option (Option Tmp × Bool)} {a : Act} {w w' : World}
theorem StepFrom.fieldAddr {x : Operand} {t : TypeId} {i : Nat} (hop : o.op = .fieldAddr t x i) {p v : Value} (hx : a.eval x = p) (hrun : (Instr.fieldAt t p i).run P w = .ok v w) (hg : gOn g a = true) (hS : S w) (hR : R w w)
    (hV : V v w) : StepFrom P S R o V g [] a w :=
  StepFrom.ran (v := v) (by unfold execOp; simp only [hop, hx]; simp only [Sem.run_bind, hrun]; rfl) hg hS hR hV
theorem StepFrom.indexAddr {x y : Operand} {t : TypeId} (hop : o.op = .indexAddr t x y) {p q v : Value} (hx : a.eval x = p) (hy : a.eval y = q) (hrun : (Instr.indexAt t p q).run P w = .ok v w) (hg : gOn g a = true) (hS : S w) (hR : R w w)
    (hV : V v w) : StepFrom P S R o V g [] a w :=
  StepFrom.ran (v := v) (by unfold execOp; simp only [hop, hx, hy]; simp only [Sem.run_bind, hrun]; rfl) hg hS hR hV
theorem StepFrom.build {t : TypeId} {ps : List (Nat × Operand)} (hop : o.op = .build t ps.toArray) {vs : List (Nat × Value)} (hx : ps.map (fun p => (p.1, a.eval p.2)) = vs) {v : Value}
    (hrun : (Instr.build t vs.toArray).run P w = .ok v w) (hg : gOn g a = true) (hS : S w) (hR : R w w) (hV : V v w) : StepFrom P S R o V g [] a w :=
  StepFrom.ran (v := v) (by
    have e : (ps.toArray.map fun x => (x.1, a.eval x.2)) = vs.toArray := by rw [List.map_toArray, hx]
    unfold execOp
    simp only [hop, e]
    simp only [Sem.run_bind, hrun]
    rfl) hg hS hR hV
end
set_option maxRecDepth 100000 in
theorem load_int {b o : Nat} {w : World} {x : Int} (h : w.cell? ⟨b, o, none⟩ = some (.int .i64 x)) : (Instr.loadAt 3 (.pointer (some ⟨b, o, none⟩))).run Tryd.prog w = .ok (.int .i64 x) w := by go_simp
set_option maxRecDepth 100000 in
theorem add_int (x y : Int) (p q : Operand) (w : World) (h : IntKind.i64.wrap (x + y) = x + y) : ((do eqGuard .add 3 p q (.int .i64 x) (.int .i64 y); binOp .add 3 (.int .i64 x) (.int .i64 y) : Sem Value)).run Tryd.prog w = .ok (.int .i64 (x + y)) w := by go_simp
end Go.Proofs.YtfgnnbpbbnnnhaaDoor
namespace Go.Proofs.YtfgnnbpbbnnnhaaDoor
open Go.RowKit Go.Maps
section
variable {P : Program} {S : World → Prop} {R : World → World → Prop} {o : Oper} {V : Value → World → Prop} {g : Option (Option Tmp × Bool)} {a : Act} {w w' : World}
end
set_option maxRecDepth 100000 in
theorem load_lev_at {b o : Nat} {w : World} {A : Option Addr} {n c : Nat} (h : w.cell? ⟨b, o, none⟩ = some (.slice A n c)) : (Instr.loadAt 39 (.pointer (some ⟨b, o, none⟩))).run Tryd.prog w = .ok (.agg #[.slice A n c]) w := by go_simp
set_option maxRecDepth 100000 in
theorem lev_addr_o {b o n c k : Nat} {w : World} (h0 : (0 : Int) ≤ (k : Int)) (h1 : (k : Int) < (n : Int)) : (Instr.indexAt 24 (.slice (some ⟨b, o, none⟩) n c) (.int .i64 (k : Int))).run Tryd.prog w = .ok (.pointer (some ⟨b, o + k, none⟩)) w := by go_simp
end Go.Proofs.YtfgnnbpbbnnnhaaDoor
namespace Go.Proofs.YtfgnnbpbbnnnhaaDoor
open Go.RowKit Go.Maps
theorem bool_is (P : Prop) : ∃ r : Bool, r = true ↔ P := by
  by_cases h : P
  · exact ⟨true, by simpa using h⟩
  · exact ⟨false, by simpa using h⟩
set_option maxRecDepth 100000 in
theorem enter_sameLv (vs : Array Value) (w : World) : (callFunc 87 vs).run Tryd.prog w = .ok (.enter 87 vs) w := by go_simp
set_option maxRecDepth 100000 in
theorem enter_sameTm (vs : Array Value) (w : World) : (callFunc 27 vs).run Tryd.prog w = .ok (.enter 27 vs) w := by go_simp
set_option maxRecDepth 100000 in
theorem term_addr {b o n c k : Nat} {w : World} (h0 : (0 : Int) ≤ (k : Int)) (h1 : (k : Int) < (n : Int)) : (Instr.indexAt 25 (.slice (some ⟨b, o, none⟩) n c) (.int .i64 (k : Int))).run Tryd.prog w = .ok (.pointer (some ⟨b, o + k * 5, none⟩)) w := by go_simp
set_option maxRecDepth 100000 in
theorem load_term {b o : Nat} {w : World} {k n a : Int} {Al Ak : Option Addr} {nl cl nk ck : Nat} (h0 : w.cell? ⟨b, o, none⟩ = some (.int .i64 k)) (h1 : w.cell? ⟨b, o + 1, none⟩ = some (.int .i64 n)) (h2 : w.cell? ⟨b, o + 2, none⟩ = some (.int .i64 a)) (h3 : w.cell? ⟨b, o + 3, none⟩ = some (.slice Al nl cl)) (h4 : w.cell? ⟨b, o + 4, none⟩ = some (.slice Ak nk ck)) :
    (Instr.loadAt 27 (.pointer (some ⟨b, o, none⟩))).run Tryd.prog w = .ok (.agg #[.int .i64 k, .int .i64 n, .int .i64 a, .slice Al nl cl, .slice Ak nk ck]) w := by go_simp
/-- two rows that are one so far -/
theorem same_end {α : Type} {l m : List α} (hl : l.length = m.length) (h : ∀ j, j < l.length → l[j]? = m[j]?) : l = m := List.ext_getElem? fun j => by
  by_cases hj : j < l.length
  · exact h j hj
  · rw [List.getElem?_eq_none (by omega), List.getElem?_eq_none (by omega)]
set_option maxRecDepth 100000 in
set_option maxHeartbeats 4000000 in
theorem sameLevels_any (A A' : Option Addr) (ls ms : List (List (Int × Int))) (c c' n n' : Nat) (w : World) (hn : ls.length = n) (hn' : ms.length = n') (hs : SlimL ls) (hs' : SlimL ms) (h : Levs w w.heap.size A ls) (h' : Levs w w.heap.size A' ms) (r : Bool) (hr : r = true ↔ ls = ms) :
    Calls Tryd.prog 60 #[.slice A n c, .slice A' n' c'] w (HasPost w r) := by
  have hn9 : n ≤ 1048576 := by have := hs.1; omega
  have hn8 : n' ≤ 1048576 := by have := hs'.1; omega
  have HR := Lib.hid hr
  have HN := Lib.hid hn
  have HN' := Lib.hid hn'
  have HS := Lib.hid hs
  have HS' := Lib.hid hs'
  have HL := Lib.hid h
  have HL' := Lib.hid h'
  clear hr hn hn' hs hs' h h'
  by_cases hl : n = n'
  · subst hl
    have lf : ((n : Int) != (n : Int)) = false := by simp
    go_enter Tryd.func60, Tryd.ntmps60
    go_wp2
    go_loopw [5] (fun i wr => ∃ k : Nat, k ≤ n ∧ i = .int .i64 (k : Int) ∧ Below w.heap.size w wr ∧ ∀ j, j < k → ls[j]? = ms[j]?) (fun i _ => n - (intOf i).toNat)
    case atStart => exact ⟨0, Nat.zero_le _, rfl, Below.refl _ _, fun j hj => absurd hj (by omega)⟩
    case round =>
      obtain ⟨k, hk, rfl, hb, hso⟩ := hrel
      have hbz := hb.size
      by_cases hlt : k < n
      · obtain ⟨b, o, e, hbB, hcell⟩ := HL.out (by rw [HN.out]; omega)
        obtain ⟨b', o', e', hbB', hcell'⟩ := HL'.out (by rw [HN'.out]; omega)
        subst e e'
        obtain ⟨Ai, ci, q0, q1, _, _⟩ := hcell k (by rw [HN.out]; exact hlt)
        obtain ⟨Bi, di, p0, p1, _, _⟩ := hcell' k (by rw [HN'.out]; exact hlt)
        have m1 := HS.out.2 (ls.getD k []) (by rw [List.getD_eq_getElem?_getD, List.getElem?_eq_getElem (by rw [HN.out]; exact hlt)]; exact List.getElem_mem _)
        have m2 := HS'.out.2 (ms.getD k []) (by rw [List.getD_eq_getElem?_getD, List.getElem?_eq_getElem (by rw [HN'.out]; exact hlt)]; exact List.getElem_mem _)
        obtain ⟨l, hl⟩ : ∃ l, ls.getD k [] = l := ⟨_, rfl⟩
        obtain ⟨m, hm⟩ : ∃ l, ms.getD k [] = l := ⟨_, rfl⟩
        have el : ls[k]? = some l := by rw [← hl, List.getD_eq_getElem?_getD, List.getElem?_eq_getElem (by rw [HN.out]; exact hlt)]; rfl
        have em : ms[k]? = some m := by rw [← hm, List.getD_eq_getElem?_getD, List.getElem?_eq_getElem (by rw [HN'.out]; exact hlt)]; rfl
        rw [hl] at q0 q1 m1
        rw [hm] at p0 p1 m2
        obtain ⟨rk, hrk⟩ := bool_is (l = m)
        have c0 := (hb.cell (p := ⟨b, o + k, none⟩) hbB).trans q0
        have d0 := (hb.cell (p := ⟨b', o' + k, none⟩) hbB').trans p0
        have HC : Hid (∀ w', Below wr.heap.size wr w' → Calls Tryd.prog 87 #[.agg #[.slice Ai l.length ci], .agg #[.slice Bi m.length di]] w' (HasPost w' rk)) := fun w' hx => by
          have hx2 : Below w.heap.size w w' := hb.trans (hx.mono hbz)
          exact sameLevel_any Ai Bi l m ci di w' (by unfold maxLen; omega) (by unfold maxLen; omega) ((q1.below hx2).more hx2.size) ((p1.below hx2).more hx2.size) rk hrk
        obtain ⟨nl, hnl⟩ : ∃ j, l.length = j := ⟨_, rfl⟩
        obtain ⟨nm, hnm⟩ : ∃ j, m.length = j := ⟨_, rfl⟩
        rw [hnl] at c0 HC
        rw [hnm] at d0 HC
        have HB := Lib.hid hb
        have HSO := Lib.hid hso
        have HRK := Lib.hid hrk
        have EL := Lib.hid el
        have EM := Lib.hid em
        have ij0 : (0 : Int) ≤ (k : Int) := by omega
        have ij1 : (k : Int) < (n : Int) := by omega
        have hbr : b < wr.heap.size := by omega
        have hbr' : b' < wr.heap.size := by omega
        clear hb hso hrk el em q0 q1 p0 p1 hcell hcell' hl hm hnl hnm m1 m2
        have hS : Below wr.heap.size wr wr.drew := (Below.refl _ _).drew
        go_upto_region 6 with (fail)
        refine wp_region_tab (fun w' => Below wr.heap.size wr w') (fun w1 w2 : World => Below w1.heap.size w1 w2) [(fun (x : Value) (_ : World) => x = (.slice (some ⟨b, o, none⟩) n c : Value)), (fun (x : Value) (_ : World) => x = (.int .i64 (k : Int) : Value)), (fun (x : Value) (_ : World) => x = (.pointer (some ⟨b, o + k, none⟩) : Value)), (fun (x : Value) (_ : World) => x = (.agg #[.slice Ai nl ci] : Value)), (fun (x : Value) (_ : World) => x = (.slice (some ⟨b', o', none⟩) n c' : Value)), (fun (x : Value) (_ : World) => x = (.int .i64 (k : Int) : Value)), (fun (x : Value) (_ : World) => x = (.pointer (some ⟨b', o' + k, none⟩) : Value)), (fun (x : Value) (_ : World) => x = (.agg #[.slice Bi nm di] : Value)), (fun (x : Value) (_ : World) => x = (.bool rk : Value)), (fun (x : Value) (_ : World) => x = (.bool (!rk) : Value))] [⟨some 17, .move (.tmp 0), none, []⟩, ⟨some 18, .move (.tmp 5), none, []⟩, ⟨some 19, .indexAddr 24 (.tmp 17) (.tmp 18), none, [(17, 0), (18, 1)]⟩, ⟨some 20, .load 39 (.tmp 19), none, [(19, 2)]⟩, ⟨some 21, .move (.tmp 1), none, []⟩, ⟨some 22, .move (.tmp 5), none, []⟩, ⟨some 23, .indexAddr 24 (.tmp 21) (.tmp 22), none, [(21, 4), (22, 5)]⟩, ⟨some 24, .load 39 (.tmp 23), none, [(23, 6)]⟩, ⟨some 25, .call { callee := .value (.func 87), args := #[.tmp 20, .tmp 24], argTypes := #[39, 39] }, none, [(20, 3), (24, 7)]⟩, ⟨some 26, .unOp .not 4 (.tmp 25), none, [(25, 8)]⟩] [some 17, some 18, some 19, some 20, some 21, some 22, some 23, some 24, some 25, some 26] (by kernel_rfl) (by kernel_rfl) (by kernel_rfl) (by kernel_rfl) (by kernel_rfl) ?hS ?hmono ?hsteps ?hfin
        case hS => exact hS
        case hmono =>
          refine MonoL.cons (fun x w1 w2 _ _ _ hx => hx) ?_
          refine MonoL.cons (fun x w1 w2 _ _ _ hx => hx) ?_
          refine MonoL.cons (fun x w1 w2 _ _ _ hx => hx) ?_
          refine MonoL.cons (fun x w1 w2 _ _ _ hx => hx) ?_
          refine MonoL.cons (fun x w1 w2 _ _ _ hx => hx) ?_
          refine MonoL.cons (fun x w1 w2 _ _ _ hx => hx) ?_
          refine MonoL.cons (fun x w1 w2 _ _ _ hx => hx) ?_
          refine MonoL.cons (fun x w1 w2 _ _ _ hx => hx) ?_
          refine MonoL.cons (fun x w1 w2 _ _ _ hx => hx) ?_
          refine MonoL.cons (fun x w1 w2 _ _ _ hx => hx) ?_
          exact MonoL.nil
        case hsteps =>
          refine StepsT.cons (fun (x : Value) (_ : World) => x = (.slice (some ⟨b, o, none⟩) n c : Value)) [] rfl rfl (fun oq hop _ wq hQS => ?_) ?_
          · exact StepFrom.move hop (v := (.slice (some ⟨b, o, none⟩) n c : Value)) (by kernel_rfl) (by kernel_rfl) hQS (Below.refl _ _) rfl
          refine StepsT.cons (fun (x : Value) (_ : World) => x = (.int .i64 (k : Int) : Value)) [] rfl rfl (fun oq hop _ wq hQS => ?_) ?_
          · exact StepFrom.move hop (v := (.int .i64 (k : Int) : Value)) (by kernel_rfl) (by kernel_rfl) hQS (Below.refl _ _) rfl
          refine StepsT.cons (fun (x : Value) (_ : World) => x = (.pointer (some ⟨b, o + k, none⟩) : Value)) [(17, (fun (x : Value) (_ : World) => x = (.slice (some ⟨b, o, none⟩) n c : Value))), (18, (fun (x : Value) (_ : World) => x = (.int .i64 (k : Int) : Value)))] rfl rfl (fun oq hop _ wq hQS => ?_) ?_
          · refine StepFrom.more_eq ((.slice (some ⟨b, o, none⟩) n c : Value)) ?_
            refine StepFrom.more_eq ((.int .i64 (k : Int) : Value)) ?_
            exact StepFrom.indexAddr hop (p := (.slice (some ⟨b, o, none⟩) n c : Value)) (q := (.int .i64 (k : Int) : Value)) (by kernel_rfl) (by kernel_rfl) (lev_addr_o ij0 ij1) (by kernel_rfl) hQS (Below.refl _ _) rfl
          refine StepsT.cons (fun (x : Value) (_ : World) => x = (.agg #[.slice Ai nl ci] : Value)) [(19, (fun (x : Value) (_ : World) => x = (.pointer (some ⟨b, o + k, none⟩) : Value)))] rfl rfl (fun oq hop _ wq hQS => ?_) ?_
          · refine StepFrom.more_eq ((.pointer (some ⟨b, o + k, none⟩) : Value)) ?_
            exact StepFrom.load hop (p := (.pointer (some ⟨b, o + k, none⟩) : Value)) (by kernel_rfl) (load_lev_at ((hQS.cell (p := ⟨b, o + k, none⟩) hbr).trans c0)) (by kernel_rfl) hQS (Below.refl _ _) rfl
          refine StepsT.cons (fun (x : Value) (_ : World) => x = (.slice (some ⟨b', o', none⟩) n c' : Value)) [] rfl rfl (fun oq hop _ wq hQS => ?_) ?_
          · exact StepFrom.move hop (v := (.slice (some ⟨b', o', none⟩) n c' : Value)) (by kernel_rfl) (by kernel_rfl) hQS (Below.refl _ _) rfl
          refine StepsT.cons (fun (x : Value) (_ : World) => x = (.int .i64 (k : Int) : Value)) [] rfl rfl (fun oq hop _ wq hQS => ?_) ?_
          · exact StepFrom.move hop (v := (.int .i64 (k : Int) : Value)) (by kernel_rfl) (by kernel_rfl) hQS (Below.refl _ _) rfl
          refine StepsT.cons (fun (x : Value) (_ : World) => x = (.pointer (some ⟨b', o' + k, none⟩) : Value)) [(21, (fun (x : Value) (_ : World) => x = (.slice (some ⟨b', o', none⟩) n c' : Value))), (22, (fun (x : Value) (_ : World) => x = (.int .i64 (k : Int) : Value)))] rfl rfl (fun oq hop _ wq hQS => ?_) ?_
          · refine StepFrom.more_eq ((.slice (some ⟨b', o', none⟩) n c' : Value)) ?_
            refine StepFrom.more_eq ((.int .i64 (k : Int) : Value)) ?_
            exact StepFrom.indexAddr hop (p := (.slice (some ⟨b', o', none⟩) n c' : Value)) (q := (.int .i64 (k : Int) : Value)) (by kernel_rfl) (by kernel_rfl) (lev_addr_o ij0 ij1) (by kernel_rfl) hQS (Below.refl _ _) rfl
          refine StepsT.cons (fun (x : Value) (_ : World) => x = (.agg #[.slice Bi nm di] : Value)) [(23, (fun (x : Value) (_ : World) => x = (.pointer (some ⟨b', o' + k, none⟩) : Value)))] rfl rfl (fun oq hop _ wq hQS => ?_) ?_
          · refine StepFrom.more_eq ((.pointer (some ⟨b', o' + k, none⟩) : Value)) ?_
            exact StepFrom.load hop (p := (.pointer (some ⟨b', o' + k, none⟩) : Value)) (by kernel_rfl) (load_lev_at ((hQS.cell (p := ⟨b', o' + k, none⟩) hbr').trans d0)) (by kernel_rfl) hQS (Below.refl _ _) rfl
          refine StepsT.cons (fun (x : Value) (_ : World) => x = (.bool rk : Value)) [(20, (fun (x : Value) (_ : World) => x = (.agg #[.slice Ai nl ci] : Value))), (24, (fun (x : Value) (_ : World) => x = (.agg #[.slice Bi nm di] : Value)))] rfl rfl (fun oq hop _ wq hQS => ?_) ?_
          · refine StepFrom.more_eq ((.agg #[.slice Ai nl ci] : Value)) ?_
            refine StepFrom.more_eq ((.agg #[.slice Bi nm di] : Value)) ?_
            exact StepFrom.call hop (vs := [(.agg #[.slice Ai nl ci] : Value), (.agg #[.slice Bi nm di] : Value)]) (by kernel_rfl) (fun w => enter_sameLv _ w) (by kernel_rfl) ((HC.out wq hQS).mono fun e w9 h9 => ⟨_, h9.1, hQS.trans (h9.2.mono hQS.size), h9.2, rfl⟩)
          refine StepsT.cons (fun (x : Value) (_ : World) => x = (.bool (!rk) : Value)) [(25, (fun (x : Value) (_ : World) => x = (.bool rk : Value)))] rfl rfl (fun oq hop _ wq hQS => ?_) ?_
          · refine StepFrom.more_eq ((.bool rk : Value)) ?_
            exact StepFrom.not hop (b := rk) (by kernel_rfl) (by kernel_rfl) hQS (Below.refl _ _) rfl
          exact StepsT.nil
        case hfin =>
          intro wf hFS
          refine FinalFrom.more fun x17 h17 => ?_
          refine FinalFrom.more fun x18 h18 => ?_
          refine FinalFrom.more fun x19 h19 => ?_
          refine FinalFrom.more fun x20 h20 => ?_
          refine FinalFrom.more fun x21 h21 => ?_
          refine FinalFrom.more fun x22 h22 => ?_
          refine FinalFrom.more fun x23 h23 => ?_
          refine FinalFrom.more fun x24 h24 => ?_
          refine FinalFrom.more fun x25 h25 => ?_
          refine FinalFrom.more fun x26 h26 => ?_
          refine FinalFrom.done ?_
          obtain rfl : x26 = (.bool (!rk) : Value) := h26
          have HB2 : Hid (Below w.heap.size w wf) := HB.out.trans (hFS.mono hbz)
          clear hS hFS c0 d0
          simp only [Act.put, List.setIfInBounds_toArray, List.set_cons_zero, List.set_cons_succ]
          cases rk with
          | true =>
            have HSO2 : Hid (∀ j, j < k + 1 → ls[j]? = ms[j]?) := fun j hj => by
              rcases Nat.lt_succ_iff_lt_or_eq.1 hj with hj | rfl
              · exact HSO.out j hj
              · rw [EL.out, EM.out, HRK.out.1 rfl]
            go_wp2
            go_roundw
            case rel => exact ⟨k + 1, by omega, by go_num, HB2.out, HSO2.out⟩
            case measure => simp [intOf]; omega
          | false =>
            have HF : Hid (r = false) := by
              cases r with
              | false => rfl
              | true =>
                have e := HR.out.1 rfl
                have h1 := EL.out
                rw [e, EM.out] at h1
                injection h1 with h1
                have := HRK.out.2 h1.symm
                cases this
            go_wp2
            go_ret
            exact ⟨by rw [HF.out]; rfl, HB2.out⟩
      · have HF : Hid (r = true) := HR.out.2 (same_end (by rw [HN.out, HN'.out]) fun j hj => hso j (by rw [HN.out] at hj; omega))
        have HB := Lib.hid hb
        clear hb hso
        go_wp2
        go_ret
        exact ⟨by rw [HF.out]; rfl, HB.out⟩
  · have lf : ((n : Int) != (n' : Int)) = true := by simp; omega
    have HF : Hid (r = false) := by
      cases r with
      | false => rfl
      | true =>
        have e := HR.out.1 rfl
        have h1 := HN.out
        rw [e, HN'.out] at h1
        exact absurd h1.symm hl
    go_enter Tryd.func60, Tryd.ntmps60
    go_wp2
    go_ret
    exact ⟨by rw [HF.out]; rfl, Below.refl _ _⟩
/-- what SameTerm answers of a term and any other -/
def SameTm (t : Tm) : Prop := t.fit → ∀ (u : Tm) (va vb : Value) (w : World) (r : Bool), u.fit → TmAt w w.heap.size t va → TmAt w w.heap.size u vb → (r = true ↔ t = u) → Calls Tryd.prog 27 #[va, vb] w (HasPost w r)
set_option maxRecDepth 100000 in
set_option maxHeartbeats 4000000 in
theorem sameTerms_of (ls ms : List Tm) (ih : ∀ t ∈ ls, SameTm t) (A A' : Option Addr) (c c' n n' : Nat) (w : World) (hn : ls.length = n) (hn' : ms.length = n') (hs : ls.length ≤ 1048576 ∧ Tm.fitL ls) (hs' : ms.length ≤ 1048576 ∧ Tm.fitL ms) (h : Tms w w.heap.size A c ls) (h' : Tms w w.heap.size A' c' ms) (r : Bool) (hr : r = true ↔ ls = ms) :
    Calls Tryd.prog 61 #[.slice A n c, .slice A' n' c'] w (HasPost w r) := by
  have hn9 : n ≤ 1048576 := by have := hs.1; omega
  have hn8 : n' ≤ 1048576 := by have := hs'.1; omega
  have HR := Lib.hid hr
  have HN := Lib.hid hn
  have HN' := Lib.hid hn'
  have HS := Lib.hid hs
  have HS' := Lib.hid hs'
  have HL := Lib.hid h
  have HL' := Lib.hid h'
  have IH := Lib.hid ih
  clear hr hn hn' hs hs' h h' ih
  by_cases hl : n = n'
  · subst hl
    have lf : ((n : Int) != (n : Int)) = false := by simp
    go_enter Tryd.func61, Tryd.ntmps61
    go_wp2
    go_loopw [5] (fun i wr => ∃ k : Nat, k ≤ n ∧ i = .int .i64 (k : Int) ∧ Below w.heap.size w wr ∧ ∀ j, j < k → ls[j]? = ms[j]?) (fun i _ => n - (intOf i).toNat)
    case atStart => exact ⟨0, Nat.zero_le _, rfl, Below.refl _ _, fun j hj => absurd hj (by omega)⟩
    case round =>
      obtain ⟨k, hk, rfl, hb, hso⟩ := hrel
      have hbz := hb.size
      by_cases hlt : k < n
      · obtain ⟨t, el⟩ : ∃ t, ls[k]? = some t := ⟨ls[k]'(by rw [HN.out]; exact hlt), List.getElem?_eq_getElem _⟩
        obtain ⟨u, em⟩ : ∃ t, ms[k]? = some t := ⟨ms[k]'(by rw [HN'.out]; exact hlt), List.getElem?_eq_getElem _⟩
        obtain ⟨b, o, va, e, hbB, hfa, hta⟩ := HL.out.get el
        obtain ⟨b', o', vb, e', hbB', hfb, htb⟩ := HL'.out.get em
        subst e e'
        have m1 := (Tm.fitL_iff _).1 HS.out.2 _ (List.mem_of_getElem? el)
        have m2 := (Tm.fitL_iff _).1 HS'.out.2 _ (List.mem_of_getElem? em)
        have hta' := hta
        have htb' := htb
        obtain ⟨k1, n1, a1, lv1, kids1⟩ := t
        obtain ⟨k2, n2, a2, lv2, kids2⟩ := u
        obtain ⟨A1, c1, A2, c2, rfl, _, _, _⟩ := hta.open
        obtain ⟨A3, c3, A4, c4, rfl, _, _, _⟩ := htb.open
        obtain ⟨rk, hrk⟩ := bool_is (Tm.mk k1 n1 a1 lv1 kids1 = Tm.mk k2 n2 a2 lv2 kids2)
        have HC : Hid (∀ w', Below wr.heap.size wr w' → Calls Tryd.prog 27 #[.agg #[.int .i64 k1, .int .i64 n1, .int .i64 a1, .slice A1 lv1.length c1, .slice A2 kids1.length c2], .agg #[.int .i64 k2, .int .i64 n2, .int .i64 a2, .slice A3 lv2.length c3, .slice A4 kids2.length c4]] w' (HasPost w' rk)) := fun w' hx => by
          have hx2 : Below w.heap.size w w' := hb.trans (hx.mono hbz)
          exact IH.out _ (List.mem_of_getElem? el) m1 _ _ _ w' rk m2 (hta'.below hx2 hx2.size) (htb'.below hx2 hx2.size) hrk
        obtain ⟨d0, d1, d2, d3, d4, ed, f0, f1, f2, f3, f4⟩ := hfa
        obtain ⟨d5, d6, d7, d8, d9, ed', g0, g1, g2, g3, g4⟩ := hfb
        injection ed with ed
        injection ed with ed
        injection ed with e0 ed
        injection ed with e1 ed
        injection ed with e2 ed
        injection ed with e3 ed
        injection ed with e4 _
        subst e0 e1 e2 e3 e4
        injection ed' with ed
        injection ed with ed
        injection ed with e0 ed
        injection ed with e1 ed
        injection ed with e2 ed
        injection ed with e3 ed
        injection ed with e4 _
        subst e0 e1 e2 e3 e4
        obtain ⟨nl1, hnl1⟩ : ∃ j, lv1.length = j := ⟨_, rfl⟩
        obtain ⟨nk1, hnk1⟩ : ∃ j, kids1.length = j := ⟨_, rfl⟩
        obtain ⟨nl2, hnl2⟩ : ∃ j, lv2.length = j := ⟨_, rfl⟩
        obtain ⟨nk2, hnk2⟩ : ∃ j, kids2.length = j := ⟨_, rfl⟩
        rw [hnl1, hnk1, hnl2, hnk2] at HC
        rw [hnl1] at f3
        rw [hnk1] at f4
        rw [hnl2] at g3
        rw [hnk2] at g4
        replace f0 := (hb.cell (p := ⟨b, o + k * 5, none⟩) hbB).trans f0
        replace f1 := (hb.cell (p := ⟨b, o + k * 5 + 1, none⟩) hbB).trans f1
        replace f2 := (hb.cell (p := ⟨b, o + k * 5 + 2, none⟩) hbB).trans f2
        replace f3 := (hb.cell (p := ⟨b, o + k * 5 + 3, none⟩) hbB).trans f3
        replace f4 := (hb.cell (p := ⟨b, o + k * 5 + 4, none⟩) hbB).trans f4
        replace g0 := (hb.cell (p := ⟨b', o' + k * 5, none⟩) hbB').trans g0
        replace g1 := (hb.cell (p := ⟨b', o' + k * 5 + 1, none⟩) hbB').trans g1
        replace g2 := (hb.cell (p := ⟨b', o' + k * 5 + 2, none⟩) hbB').trans g2
        replace g3 := (hb.cell (p := ⟨b', o' + k * 5 + 3, none⟩) hbB').trans g3
        replace g4 := (hb.cell (p := ⟨b', o' + k * 5 + 4, none⟩) hbB').trans g4
        have HB := Lib.hid hb
        have HSO := Lib.hid hso
        have HRK := Lib.hid hrk
        have EL := Lib.hid el
        have EM := Lib.hid em
        have ij0 : (0 : Int) ≤ (k : Int) := by omega
        have ij1 : (k : Int) < (n : Int) := by omega
        have hbr : b < wr.heap.size := by omega
        have hbr' : b' < wr.heap.size := by omega
        clear hb hso hrk el em hta htb hta' htb' hnl1 hnk1 hnl2 hnk2 m1 m2
        have hS : Below wr.heap.size wr wr.drew := (Below.refl _ _).drew
        go_upto_region 6 with (fail)
        refine wp_region_tab (fun w' => Below wr.heap.size wr w') (fun w1 w2 : World => Below w1.heap.size w1 w2) [(fun (x : Value) (_ : World) => x = (.slice (some ⟨b, o, none⟩) n c : Value)), (fun (x : Value) (_ : World) => x = (.int .i64 (k : Int) : Value)), (fun (x : Value) (_ : World) => x = (.pointer (some ⟨b, o + k * 5, none⟩) : Value)), (fun (x : Value) (_ : World) => x = (.agg #[.int .i64 k1, .int .i64 n1, .int .i64 a1, .slice A1 nl1 c1, .slice A2 nk1 c2] : Value)), (fun (x : Value) (_ : World) => x = (.slice (some ⟨b', o', none⟩) n c' : Value)), (fun (x : Value) (_ : World) => x = (.int .i64 (k : Int) : Value)), (fun (x : Value) (_ : World) => x = (.pointer (some ⟨b', o' + k * 5, none⟩) : Value)), (fun (x : Value) (_ : World) => x = (.agg #[.int .i64 k2, .int .i64 n2, .int .i64 a2, .slice A3 nl2 c3, .slice A4 nk2 c4] : Value)), (fun (x : Value) (_ : World) => x = (.bool rk : Value)), (fun (x : Value) (_ : World) => x = (.bool (!rk) : Value))] [⟨some 17, .move (.tmp 0), none, []⟩, ⟨some 18, .move (.tmp 5), none, []⟩, ⟨some 19, .indexAddr 25 (.tmp 17) (.tmp 18), none, [(17, 0), (18, 1)]⟩, ⟨some 20, .load 27 (.tmp 19), none, [(19, 2)]⟩, ⟨some 21, .move (.tmp 1), none, []⟩, ⟨some 22, .move (.tmp 5), none, []⟩, ⟨some 23, .indexAddr 25 (.tmp 21) (.tmp 22), none, [(21, 4), (22, 5)]⟩, ⟨some 24, .load 27 (.tmp 23), none, [(23, 6)]⟩, ⟨some 25, .call { callee := .value (.func 27), args := #[.tmp 20, .tmp 24], argTypes := #[27, 27] }, none, [(20, 3), (24, 7)]⟩, ⟨some 26, .unOp .not 4 (.tmp 25), none, [(25, 8)]⟩] [some 17, some 18, some 19, some 20, some 21, some 22, some 23, some 24, some 25, some 26] (by kernel_rfl) (by kernel_rfl) (by kernel_rfl) (by kernel_rfl) (by kernel_rfl) ?hS ?hmono ?hsteps ?hfin
        case hS => exact hS
        case hmono =>
          refine MonoL.cons (fun x w1 w2 _ _ _ hx => hx) ?_
          refine MonoL.cons (fun x w1 w2 _ _ _ hx => hx) ?_
          refine MonoL.cons (fun x w1 w2 _ _ _ hx => hx) ?_
          refine MonoL.cons (fun x w1 w2 _ _ _ hx => hx) ?_
          refine MonoL.cons (fun x w1 w2 _ _ _ hx => hx) ?_
          refine MonoL.cons (fun x w1 w2 _ _ _ hx => hx) ?_
          refine MonoL.cons (fun x w1 w2 _ _ _ hx => hx) ?_
          refine MonoL.cons (fun x w1 w2 _ _ _ hx => hx) ?_
          refine MonoL.cons (fun x w1 w2 _ _ _ hx => hx) ?_
          refine MonoL.cons (fun x w1 w2 _ _ _ hx => hx) ?_
          exact MonoL.nil
        case hsteps =>
          refine StepsT.cons (fun (x : Value) (_ : World) => x = (.slice (some ⟨b, o, none⟩) n c : Value)) [] rfl rfl (fun oq hop _ wq hQS => ?_) ?_
          · exact StepFrom.move hop (v := (.slice (some ⟨b, o, none⟩) n c : Value)) (by kernel_rfl) (by kernel_rfl) hQS (Below.refl _ _) rfl
          refine StepsT.cons (fun (x : Value) (_ : World) => x = (.int .i64 (k : Int) : Value)) [] rfl rfl (fun oq hop _ wq hQS => ?_) ?_
          · exact StepFrom.move hop (v := (.int .i64 (k : Int) : Value)) (by kernel_rfl) (by kernel_rfl) hQS (Below.refl _ _) rfl
          refine StepsT.cons (fun (x : Value) (_ : World) => x = (.pointer (some ⟨b, o + k * 5, none⟩) : Value)) [(17, (fun (x : Value) (_ : World) => x = (.slice (some ⟨b, o, none⟩) n c : Value))), (18, (fun (x : Value) (_ : World) => x = (.int .i64 (k : Int) : Value)))] rfl rfl (fun oq hop _ wq hQS => ?_) ?_
          · refine StepFrom.more_eq ((.slice (some ⟨b, o, none⟩) n c : Value)) ?_
            refine StepFrom.more_eq ((.int .i64 (k : Int) : Value)) ?_
            exact StepFrom.indexAddr hop (p := (.slice (some ⟨b, o, none⟩) n c : Value)) (q := (.int .i64 (k : Int) : Value)) (by kernel_rfl) (by kernel_rfl) (term_addr ij0 ij1) (by kernel_rfl) hQS (Below.refl _ _) rfl
          refine StepsT.cons (fun (x : Value) (_ : World) => x = (.agg #[.int .i64 k1, .int .i64 n1, .int .i64 a1, .slice A1 nl1 c1, .slice A2 nk1 c2] : Value)) [(19, (fun (x : Value) (_ : World) => x = (.pointer (some ⟨b, o + k * 5, none⟩) : Value)))] rfl rfl (fun oq hop _ wq hQS => ?_) ?_
          · refine StepFrom.more_eq ((.pointer (some ⟨b, o + k * 5, none⟩) : Value)) ?_
            exact StepFrom.load hop (p := (.pointer (some ⟨b, o + k * 5, none⟩) : Value)) (by kernel_rfl) (load_term ((hQS.cell (p := ⟨b, o + k * 5, none⟩) hbr).trans f0) ((hQS.cell (p := ⟨b, o + k * 5 + 1, none⟩) hbr).trans f1) ((hQS.cell (p := ⟨b, o + k * 5 + 2, none⟩) hbr).trans f2) ((hQS.cell (p := ⟨b, o + k * 5 + 3, none⟩) hbr).trans f3) ((hQS.cell (p := ⟨b, o + k * 5 + 4, none⟩) hbr).trans f4)) (by kernel_rfl) hQS (Below.refl _ _) rfl
          refine StepsT.cons (fun (x : Value) (_ : World) => x = (.slice (some ⟨b', o', none⟩) n c' : Value)) [] rfl rfl (fun oq hop _ wq hQS => ?_) ?_
          · exact StepFrom.move hop (v := (.slice (some ⟨b', o', none⟩) n c' : Value)) (by kernel_rfl) (by kernel_rfl) hQS (Below.refl _ _) rfl
          refine StepsT.cons (fun (x : Value) (_ : World) => x = (.int .i64 (k : Int) : Value)) [] rfl rfl (fun oq hop _ wq hQS => ?_) ?_
          · exact StepFrom.move hop (v := (.int .i64 (k : Int) : Value)) (by kernel_rfl) (by kernel_rfl) hQS (Below.refl _ _) rfl
          refine StepsT.cons (fun (x : Value) (_ : World) => x = (.pointer (some ⟨b', o' + k * 5, none⟩) : Value)) [(21, (fun (x : Value) (_ : World) => x = (.slice (some ⟨b', o', none⟩) n c' : Value))), (22, (fun (x : Value) (_ : World) => x = (.int .i64 (k : Int) : Value)))] rfl rfl (fun oq hop _ wq hQS => ?_) ?_
          · refine StepFrom.more_eq ((.slice (some ⟨b', o', none⟩) n c' : Value)) ?_
            refine StepFrom.more_eq ((.int .i64 (k : Int) : Value)) ?_
            exact StepFrom.indexAddr hop (p := (.slice (some ⟨b', o', none⟩) n c' : Value)) (q := (.int .i64 (k : Int) : Value)) (by kernel_rfl) (by kernel_rfl) (term_addr ij0 ij1) (by kernel_rfl) hQS (Below.refl _ _) rfl
          refine StepsT.cons (fun (x : Value) (_ : World) => x = (.agg #[.int .i64 k2, .int .i64 n2, .int .i64 a2, .slice A3 nl2 c3, .slice A4 nk2 c4] : Value)) [(23, (fun (x : Value) (_ : World) => x = (.pointer (some ⟨b', o' + k * 5, none⟩) : Value)))] rfl rfl (fun oq hop _ wq hQS => ?_) ?_
          · refine StepFrom.more_eq ((.pointer (some ⟨b', o' + k * 5, none⟩) : Value)) ?_
            exact StepFrom.load hop (p := (.pointer (some ⟨b', o' + k * 5, none⟩) : Value)) (by kernel_rfl) (load_term ((hQS.cell (p := ⟨b', o' + k * 5, none⟩) hbr').trans g0) ((hQS.cell (p := ⟨b', o' + k * 5 + 1, none⟩) hbr').trans g1) ((hQS.cell (p := ⟨b', o' + k * 5 + 2, none⟩) hbr').trans g2) ((hQS.cell (p := ⟨b', o' + k * 5 + 3, none⟩) hbr').trans g3) ((hQS.cell (p := ⟨b', o' + k * 5 + 4, none⟩) hbr').trans g4)) (by kernel_rfl) hQS (Below.refl _ _) rfl
          refine StepsT.cons (fun (x : Value) (_ : World) => x = (.bool rk : Value)) [(20, (fun (x : Value) (_ : World) => x = (.agg #[.int .i64 k1, .int .i64 n1, .int .i64 a1, .slice A1 nl1 c1, .slice A2 nk1 c2] : Value))), (24, (fun (x : Value) (_ : World) => x = (.agg #[.int .i64 k2, .int .i64 n2, .int .i64 a2, .slice A3 nl2 c3, .slice A4 nk2 c4] : Value)))] rfl rfl (fun oq hop _ wq hQS => ?_) ?_
          · refine StepFrom.more_eq ((.agg #[.int .i64 k1, .int .i64 n1, .int .i64 a1, .slice A1 nl1 c1, .slice A2 nk1 c2] : Value)) ?_
            refine StepFrom.more_eq ((.agg #[.int .i64 k2, .int .i64 n2, .int .i64 a2, .slice A3 nl2 c3, .slice A4 nk2 c4] : Value)) ?_
            exact StepFrom.call hop (vs := [(.agg #[.int .i64 k1, .int .i64 n1, .int .i64 a1, .slice A1 nl1 c1, .slice A2 nk1 c2] : Value), (.agg #[.int .i64 k2, .int .i64 n2, .int .i64 a2, .slice A3 nl2 c3, .slice A4 nk2 c4] : Value)]) (by kernel_rfl) (fun w => enter_sameTm _ w) (by kernel_rfl) ((HC.out wq hQS).mono fun e w9 h9 => ⟨_, h9.1, hQS.trans (h9.2.mono hQS.size), h9.2, rfl⟩)
          refine StepsT.cons (fun (x : Value) (_ : World) => x = (.bool (!rk) : Value)) [(25, (fun (x : Value) (_ : World) => x = (.bool rk : Value)))] rfl rfl (fun oq hop _ wq hQS => ?_) ?_
          · refine StepFrom.more_eq ((.bool rk : Value)) ?_
            exact StepFrom.not hop (b := rk) (by kernel_rfl) (by kernel_rfl) hQS (Below.refl _ _) rfl
          exact StepsT.nil
        case hfin =>
          intro wf hFS
          refine FinalFrom.more fun x17 h17 => ?_
          refine FinalFrom.more fun x18 h18 => ?_
          refine FinalFrom.more fun x19 h19 => ?_
          refine FinalFrom.more fun x20 h20 => ?_
          refine FinalFrom.more fun x21 h21 => ?_
          refine FinalFrom.more fun x22 h22 => ?_
          refine FinalFrom.more fun x23 h23 => ?_
          refine FinalFrom.more fun x24 h24 => ?_
          refine FinalFrom.more fun x25 h25 => ?_
          refine FinalFrom.more fun x26 h26 => ?_
          refine FinalFrom.done ?_
          obtain rfl : x26 = (.bool (!rk) : Value) := h26
          have HB2 : Hid (Below w.heap.size w wf) := HB.out.trans (hFS.mono hbz)
          clear hS hFS f0 f1 f2 f3 f4 g0 g1 g2 g3 g4
          simp only [Act.put, List.setIfInBounds_toArray, List.set_cons_zero, List.set_cons_succ]
          cases rk with
          | true =>
            have HSO2 : Hid (∀ j, j < k + 1 → ls[j]? = ms[j]?) := fun j hj => by
              rcases Nat.lt_succ_iff_lt_or_eq.1 hj with hj | rfl
              · exact HSO.out j hj
              · rw [EL.out, EM.out, HRK.out.1 rfl]
            go_wp2
            go_roundw
            case rel => exact ⟨k + 1, by omega, by go_num, HB2.out, HSO2.out⟩
            case measure => simp [intOf]; omega
          | false =>
            have HF : Hid (r = false) := by
              cases r with
              | false => rfl
              | true =>
                have e := HR.out.1 rfl
                have h1 := EL.out
                rw [e, EM.out] at h1
                injection h1 with h1
                have := HRK.out.2 h1.symm
                cases this
            go_wp2
            go_ret
            exact ⟨by rw [HF.out]; rfl, HB2.out⟩
      · have HF : Hid (r = true) := HR.out.2 (same_end (by rw [HN.out, HN'.out]) fun j hj => hso j (by rw [HN.out] at hj; omega))
        have HB := Lib.hid hb
        clear hb hso
        go_wp2
        go_ret
        exact ⟨by rw [HF.out]; rfl, HB.out⟩
  · have lf : ((n : Int) != (n' : Int)) = true := by simp; omega
    have HF : Hid (r = false) := by
      cases r with
      | false => rfl
      | true =>
        have e := HR.out.1 rfl
        have h1 := HN.out
        rw [e, HN'.out] at h1
        exact absurd h1.symm hl
    go_enter Tryd.func61, Tryd.ntmps61
    go_wp2
    go_ret
    exact ⟨by rw [HF.out]; rfl, Below.refl _ _⟩
set_option maxRecDepth 100000 in
set_option maxHeartbeats 4000000 in
theorem sameTerm_of (k1 n1 a1 k2 n2 a2 : Int) (lv1 lv2 : List (List (Int × Int))) (kids1 kids2 : List Tm) (ih : ∀ t ∈ kids1, SameTm t) (A1 A2 A3 A4 : Option Addr) (c1 c2 c3 c4 p1 p2 p3 p4 : Nat) (w : World) (r : Bool)
    (hp1 : lv1.length = p1) (hp2 : kids1.length = p2) (hp3 : lv2.length = p3) (hp4 : kids2.length = p4) (hc : (Tm.mk k1 n1 a1 lv1 kids1).fit) (hc' : (Tm.mk k2 n2 a2 lv2 kids2).fit)
    (h1 : Levs w w.heap.size A1 lv1) (h2 : Tms w w.heap.size A2 c2 kids1) (h3 : Levs w w.heap.size A3 lv2) (h4 : Tms w w.heap.size A4 c4 kids2) (hr : r = true ↔ Tm.mk k1 n1 a1 lv1 kids1 = Tm.mk k2 n2 a2 lv2 kids2) :
    Calls Tryd.prog 27 #[.agg #[.int .i64 k1, .int .i64 n1, .int .i64 a1, .slice A1 p1 c1, .slice A2 p2 c2], .agg #[.int .i64 k2, .int .i64 n2, .int .i64 a2, .slice A3 p3 c3, .slice A4 p4 c4]] w (HasPost w r) := by
  rw [Tm.fit_mk] at hc hc'
  obtain ⟨x1, x2, _⟩ := two_allocs w (.cells #[.int .i64 k1, .int .i64 n1, .int .i64 a1, .slice A1 p1 c1, .slice A2 p2 c2] 27) (.cells #[.int .i64 k2, .int .i64 n2, .int .i64 a2, .slice A3 p3 c3, .slice A4 p4 c4] 27)
  have hb0 : Below w.heap.size w ((w.alloc (.cells #[.int .i64 k1, .int .i64 n1, .int .i64 a1, .slice A1 p1 c1, .slice A2 p2 c2] 27)).alloc (.cells #[.int .i64 k2, .int .i64 n2, .int .i64 a2, .slice A3 p3 c3, .slice A4 p4 c4] 27)) := ((Below.refl _ _).alloc (Nat.le_refl _) _).alloc (by simp) _
  obtain ⟨rl, hrl⟩ := bool_is (lv1 = lv2)
  obtain ⟨rk, hrk⟩ := bool_is (kids1 = kids2)
  have HL : Hid (∀ w', Below w.heap.size w w' → Calls Tryd.prog 60 #[.slice A1 p1 c1, .slice A3 p3 c3] w' (HasPost w' rl)) := fun w' hx => sameLevels_any A1 A3 lv1 lv2 c1 c3 p1 p3 w' hp1 hp3 hc.2.1 hc'.2.1 ((h1.below hx).more hx.size) ((h3.below hx).more hx.size) rl hrl
  have HK : Hid (∀ w', Below w.heap.size w w' → Calls Tryd.prog 61 #[.slice A2 p2 c2, .slice A4 p4 c4] w' (HasPost w' rk)) := fun w' hx => sameTerms_of kids1 kids2 ih A2 A4 c2 c4 p2 p4 w' hp2 hp4 hc.2.2 hc'.2.2 (h2.below hx hx.size) (h4.below hx hx.size) rk hrk
  have HREQ : Hid (r = (decide (k1 = k2) && decide (n1 = n2) && decide (a1 = a2) && rl && rk)) := by
    have e : (r = true ↔ (decide (k1 = k2) && decide (n1 = n2) && decide (a1 = a2) && rl && rk) = true) := by
      rw [hr]
      simp only [Bool.and_eq_true, decide_eq_true_eq, hrl, hrk, Tm.mk.injEq]
      constructor
      · rintro ⟨a, b, c, d, e⟩
        exact ⟨⟨⟨⟨a, b⟩, c⟩, d⟩, e⟩
      · rintro ⟨⟨⟨⟨a, b⟩, c⟩, d⟩, e⟩
        exact ⟨a, b, c, d, e⟩
    show r = _
    exact Bool.eq_iff_iff.2 e
  have HB0 := Lib.hid hb0
  have X1 := Lib.hid x1
  have X2 := Lib.hid x2
  have f0 := cell_of_row _ _ 0 _ _ (0, 0) x1
  have f1 := cell_of_row _ _ 1 _ _ (0, 0) x1
  have f2 := cell_of_row _ _ 2 _ _ (0, 0) x1
  have f3 := cell_of_row _ _ 3 _ _ (0, 0) x1
  have f4 := cell_of_row _ _ 4 _ _ (0, 0) x1
  have g0 := cell_of_row _ _ 0 _ _ (0, 0) x2
  have g1 := cell_of_row _ _ 1 _ _ (0, 0) x2
  have g2 := cell_of_row _ _ 2 _ _ (0, 0) x2
  have g3 := cell_of_row _ _ 3 _ _ (0, 0) x2
  have g4 := cell_of_row _ _ 4 _ _ (0, 0) x2
  clear hr hrl hrk hc hc' h1 h2 h3 h4 hp1 hp2 hp3 hp4 ih hb0 x1 x2
  go_enter Tryd.func27, Tryd.ntmps27
  go_upto_region 1 with (fail)
  obtain ⟨w1, hw1⟩ : ∃ x, (w.alloc (.cells #[.int .i64 k1, .int .i64 n1, .int .i64 a1, .slice A1 p1 c1, .slice A2 p2 c2] 27)).alloc (.cells #[.int .i64 k2, .int .i64 n2, .int .i64 a2, .slice A3 p3 c3, .slice A4 p4 c4] 27) = x := ⟨_, rfl⟩
  rw [hw1] at HB0 X1 X2 f0 f1 f2 f3 f4 g0 g1 g2 g3 g4 ⊢
  clear hw1
  by_cases e1 : k1 = k2
  · subst e1
    by_cases e2 : n1 = n2
    · subst e2
      by_cases e3 : a1 = a2
      · subst e3
        have hf : Hid (r = (rl && rk)) := by
          show _ = _
          have := HREQ.out
          simpa using this
        have HL1 := Lib.hid (HL.out w1 HB0.out)
        clear HREQ HL
        go_wp2_with (fail)
        refine HL1.out.mono ?_
        rintro e w2 ⟨rfl, hb2⟩
        have HB2 : Hid (Below w.heap.size w w2) := HB0.out.trans (hb2.mono HB0.out.size)
        have y1 := (hb2.block w.heap.size (heap_some_lt X1.out)).trans X1.out
        have y2 := (hb2.block (w.heap.size + 1) (heap_some_lt X2.out)).trans X2.out
        have f4' := cell_of_row _ _ 4 _ _ (0, 0) y1
        have g4' := cell_of_row _ _ 4 _ _ (0, 0) y2
        clear hb2 y1 y2 HL1 f0 f1 f2 f3 f4 g0 g1 g2 g3 g4
        cases rl with
        | true =>
          have HK2 := Lib.hid (HK.out w2 HB2.out)
          have hf2 : Hid (r = rk) := by show _ = _; have := hf.out; simpa using this
          clear HK hf
          go_wp2_with (fail)
          refine HK2.out.mono ?_
          rintro e w3 ⟨rfl, hb3⟩
          have HB3 : Hid (Below w.heap.size w w3) := HB2.out.trans (hb3.mono HB2.out.size)
          clear hb3
          go_wp2
          go_ret
          exact ⟨by rw [hf2.out]; rfl, HB3.out⟩
        | false =>
          have hf2 : Hid (r = false) := by show _ = _; have := hf.out; simpa using this
          clear HK hf
          go_wp2
          go_ret
          exact ⟨by rw [hf2.out]; rfl, HB2.out⟩
      · have hf : Hid (r = false) := by show _ = _; have := HREQ.out; simpa [e3] using this
        have e3' : (a1 == a2) = false := by simpa using e3
        clear HREQ HL HK X1 X2
        go_wp2
        go_ret
        exact ⟨by rw [hf.out]; rfl, HB0.out⟩
    · have hf : Hid (r = false) := by show _ = _; have := HREQ.out; simpa [e2] using this
      have e2' : (n1 == n2) = false := by simpa using e2
      clear HREQ HL HK X1 X2
      go_wp2
      go_ret
      exact ⟨by rw [hf.out]; rfl, HB0.out⟩
  · have hf : Hid (r = false) := by show _ = _; have := HREQ.out; simpa [e1] using this
    have e1' : (k1 == k2) = false := by simpa using e1
    clear HREQ HL HK X1 X2
    go_wp2
    go_ret
    exact ⟨by rw [hf.out]; rfl, HB0.out⟩
/-- SameTerm: are two terms one, node by node? -/
theorem sameTerm_any : ∀ t : Tm, SameTm t := by
  intro t
  induction t using Tm.ind with
  | h k n a lv kids ih =>
    intro hc u va vb w r hc' ha hb hr
    obtain ⟨k2, n2, a2, lv2, kids2⟩ := u
    obtain ⟨A1, c1, A2, c2, rfl, _, h1, h2⟩ := ha.open
    obtain ⟨A3, c3, A4, c4, rfl, _, h3, h4⟩ := hb.open
    exact sameTerm_of k n a k2 n2 a2 lv lv2 kids kids2 ih A1 A2 A3 A4 c1 c2 c3 c4 _ _ _ _ w r rfl rfl rfl rfl hc hc' h1 h2 h3 h4 hr
end Go.Proofs.YtfgnnbpbbnnnhaaDoor
namespace Go.Proofs.YtfgnnbpbbnnnhaaDoor
open Go.RowKit Go.Maps
/-- TermOf's count of a term, asked for up to M -/
def CountTm (t : Tm) : Prop := t.count ≤ 1048576 → ∀ (M : Nat) (v : Value) (w : World), M ≤ 1048576 → TmAt w w.heap.size t v → Calls Tryd.prog 19 #[v, .int .i64 (M : Int)] w (CountPost w t.count M)
set_option maxRecDepth 100000 in
theorem enter_levelsOf (vs : Array Value) (w : World) : (callFunc 20 vs).run Tryd.prog w = .ok (.enter 20 vs) w := by go_simp
set_option maxRecDepth 100000 in
theorem enter_termsOf (vs : Array Value) (w : World) : (callFunc 31 vs).run Tryd.prog w = .ok (.enter 31 vs) w := by go_simp
set_option maxRecDepth 100000 in
theorem term_field {b o : Nat} {w : World} (i : Nat) (hi : i < 5) : (Instr.fieldAt 27 (.pointer (some ⟨b, o, none⟩)) i).run Tryd.prog w = .ok (.pointer (some ⟨b, o + i, none⟩)) w := by
  match i, hi with
  | 0, _ => go_simp
  | 1, _ => go_simp
  | 2, _ => go_simp
  | 3, _ => go_simp
  | 4, _ => go_simp
set_option maxRecDepth 100000 in
theorem load_levels {b o n c : Nat} {w : World} {A : Option Addr} (h : w.cell? ⟨b, o, none⟩ = some (.slice A n c)) : (Instr.loadAt 24 (.pointer (some ⟨b, o, none⟩))).run Tryd.prog w = .ok (.slice A n c) w := by go_simp
set_option maxRecDepth 100000 in
theorem load_terms {b o n c : Nat} {w : World} {A : Option Addr} (h : w.cell? ⟨b, o, none⟩ = some (.slice A n c)) : (Instr.loadAt 25 (.pointer (some ⟨b, o, none⟩))).run Tryd.prog w = .ok (.slice A n c) w := by go_simp
theorem Five.agg {w : World} {b o : Nat} {c0 c1 c2 c3 c4 : Value} (h : Five w b o (.agg #[c0, c1, c2, c3, c4])) : w.cell? ⟨b, o, none⟩ = some c0 ∧ w.cell? ⟨b, o + 1, none⟩ = some c1 ∧ w.cell? ⟨b, o + 2, none⟩ = some c2 ∧ w.cell? ⟨b, o + 3, none⟩ = some c3 ∧ w.cell? ⟨b, o + 4, none⟩ = some c4 := by
  obtain ⟨d0, d1, d2, d3, d4, ed, f0, f1, f2, f3, f4⟩ := h
  injection ed with ed
  injection ed with ed
  injection ed with e0 ed
  injection ed with e1 ed
  injection ed with e2 ed
  injection ed with e3 ed
  injection ed with e4 _
  subst e0 e1 e2 e3 e4
  exact ⟨f0, f1, f2, f3, f4⟩
/-- a row's term, read out -/
theorem Tms.at {w w' : World} {B : Nat} {A : Option Addr} {c : Nat} {ts : List Tm} (h : Tms w B A c ts) (hw : Below B w w') {k : Nat} {t : Tm} (ht : ts[k]? = some t) :
    ∃ b o k1 n1 a1 A1 p1 c1 A2 p2 c2, A = some ⟨b, o, none⟩ ∧ b < B ∧ TmAt w B t (.agg #[.int .i64 k1, .int .i64 n1, .int .i64 a1, .slice A1 p1 c1, .slice A2 p2 c2]) ∧
      w'.cell? ⟨b, o + k * 5, none⟩ = some (.int .i64 k1) ∧ w'.cell? ⟨b, o + k * 5 + 1, none⟩ = some (.int .i64 n1) ∧ w'.cell? ⟨b, o + k * 5 + 2, none⟩ = some (.int .i64 a1) ∧ w'.cell? ⟨b, o + k * 5 + 3, none⟩ = some (.slice A1 p1 c1) ∧ w'.cell? ⟨b, o + k * 5 + 4, none⟩ = some (.slice A2 p2 c2) := by
  have hk : k < ts.length := (List.getElem?_eq_some_iff.1 ht).1
  obtain ⟨b, o, e, hb, hr⟩ := h.2 (by omega)
  obtain ⟨v, h5, hv⟩ := hr.get k t ht
  obtain ⟨k1, n1, a1, lv, kids⟩ := t
  obtain ⟨A1, c1, A2, c2, rfl, q1, q2, q3⟩ := hv.open
  obtain ⟨f0, f1, f2, f3, f4⟩ := h5.agg
  exact ⟨b, o, k1, n1, a1, A1, _, c1, A2, _, c2, e, hb, hv, (hw.cell (p := ⟨b, _, none⟩) hb).trans f0, (hw.cell (p := ⟨b, _, none⟩) hb).trans f1, (hw.cell (p := ⟨b, _, none⟩) hb).trans f2, (hw.cell (p := ⟨b, _, none⟩) hb).trans f3, (hw.cell (p := ⟨b, _, none⟩) hb).trans f4⟩
set_option maxRecDepth 100000 in
set_option maxHeartbeats 1000000 in
theorem termsOf_of (ts : List Tm) (ih : ∀ t ∈ ts, CountTm t) (A : Option Addr) (c M n : Nat) (w : World) (hn : ts.length = n) (hs : Tm.countL ts ≤ 1048576) (hM : M ≤ 1048576) (h : Tms w w.heap.size A c ts) :
    Calls Tryd.prog 31 #[.slice A n c, .int .i64 (M : Int)] w (CountPost w (Tm.countL ts) M) := by
  have hn9 := Tm.countL_length ts
  have hn8 : n ≤ 1048576 := by omega
  have HL := Lib.hid h
  have HN := Lib.hid hn
  have HS := Lib.hid hs
  have IH := Lib.hid ih
  clear h hn hs hn9 ih
  go_enter Tryd.func31, Tryd.ntmps31
  go_wp2
  go_loopw [5, 6] (fun u i wr => ∃ (k r : Nat), k ≤ n ∧ i = .int .i64 (k : Int) ∧ u = .int .i64 (r : Int) ∧ Below w.heap.size w wr ∧ r ≤ Tm.countL (ts.take k) ∧ (r ≤ M → r = Tm.countL (ts.take k))) (fun _ i _ => n - (intOf i).toNat)
  case atStart => exact ⟨0, 0, Nat.zero_le _, rfl, rfl, Below.refl _ _, by simp, fun _ => by simp [Tm.countL]⟩
  case round =>
    obtain ⟨k, r, hk, rfl, rfl, hb, h1, h2⟩ := hrel
    have hbz := hb.size
    have hle := Tm.countL_le ts k
    have hs9 := HS.out
    have hr9 : r ≤ 1048576 := by omega
    by_cases hlt : k < n
    · by_cases hu : r ≤ M
      · obtain ⟨t, ht⟩ : ∃ t, ts[k]? = some t := ⟨_, List.getElem?_eq_getElem (by rw [HN.out]; exact hlt)⟩
        obtain ⟨b, o, k1, n1, a1, A1, p1, c1, A2, p2, c2, e, hbB, hv, f0, f1, f2, f3, f4⟩ := HL.out.at hb ht
        subst e
        have hct := Tm.countL_take ts k t ht
        have hle1 := Tm.countL_le ts (k + 1)
        have hm := Tm.countL_mem (List.mem_of_getElem? ht)
        have HC := Lib.hid (IH.out t (List.mem_of_getElem? ht) (by omega) (M - r) _ wr (by omega) (hv.below hb hbz))
        have HT := Lib.hid hct
        have H2 := Lib.hid h2
        have HB := Lib.hid hb
        have HCL : Hid (t.count ≤ 1048576) := by show _ ≤ _; omega
        have ws0 : IntKind.i64.wrap ((M : Int) - (r : Int)) = ((M - r : Nat) : Int) := by rw [IntWalk.i64_in _ (by omega)]; omega
        have ij0 : (0 : Int) ≤ (k : Int) := by omega
        have ij1 : (k : Int) < (n : Int) := by omega
        have ij2 : (r : Int) ≤ (M : Int) := by omega
        clear hb hv h2 hct ht hm
        go_wp2_with (fail)
        refine HC.out.mono ?_
        rintro e w1 ⟨s, rfl, hs1, hs2, hb1⟩
        have hcl := HCL.out
        have ws : IntKind.i64.wrap ((r : Int) + (s : Int)) = ((r + s : Nat) : Int) := by rw [IntWalk.i64_in _ (by omega)]; omega
        have HF : Hid (r + s ≤ Tm.countL (ts.take (k + 1)) ∧ (r + s ≤ M → r + s = Tm.countL (ts.take (k + 1)))) := by
          rw [HT.out]
          refine ⟨by omega, fun h => ?_⟩
          have := hs2 (by omega)
          have := H2.out hu
          omega
        have HB1 : Hid (Below w.heap.size w w1) := HB.out.trans (hb1.mono hbz)
        clear hb1 hs2
        go_wp2
        go_roundw
        case rel => exact ⟨k + 1, r + s, by omega, by go_num, rfl, HB1.out, HF.out⟩
        case measure => simp [intOf]; omega
      · have ij2 : ¬ (r : Int) ≤ (M : Int) := by omega
        have HF : Hid (CountPost w (Tm.countL ts) M (.returned (.int .i64 (r : Int))) wr) := ⟨r, rfl, by omega, fun h => absurd h hu, hb⟩
        clear hb h2
        go_wp2
        go_ret
        exact HF.out
    · have hq : ts.take k = ts := List.take_of_length_le (by rw [HN.out]; omega)
      rw [hq] at h1 h2
      have HF : Hid (CountPost w (Tm.countL ts) M (.returned (.int .i64 (r : Int))) wr) := ⟨r, rfl, h1, h2, hb⟩
      clear hb h2 hq
      go_wp2
      go_ret
      exact HF.out
set_option maxRecDepth 100000 in
set_option maxHeartbeats 4000000 in
theorem termOf_of (k1 n1 a1 : Int) (lv : List (List (Int × Int))) (kids : List Tm) (ih : ∀ t ∈ kids, CountTm t) (A1 A2 : Option Addr) (c1 c2 p1 p2 M : Nat) (w : World) (hp1 : lv.length = p1) (hp2 : kids.length = p2) (hc : 1 + lensSum lv + Tm.countL kids ≤ 1048576) (hM : M ≤ 1048576)
    (h1 : Levs w w.heap.size A1 lv) (h2 : Tms w w.heap.size A2 c2 kids) :
    Calls Tryd.prog 19 #[.agg #[.int .i64 k1, .int .i64 n1, .int .i64 a1, .slice A1 p1 c1, .slice A2 p2 c2], .int .i64 (M : Int)] w (CountPost w (1 + lensSum lv + Tm.countL kids) M) := by
  obtain ⟨sl, hsl⟩ : ∃ s, lensSum lv = s := ⟨_, rfl⟩
  obtain ⟨sk, hsk⟩ : ∃ s, Tm.countL kids = s := ⟨_, rfl⟩
  have x1 : (w.alloc (.cells #[.int .i64 k1, .int .i64 n1, .int .i64 a1, .slice A1 p1 c1, .slice A2 p2 c2] 27)).heap[w.heap.size]? = some (.cells #[.int .i64 k1, .int .i64 n1, .int .i64 a1, .slice A1 p1 c1, .slice A2 p2 c2] 27 (0, 0)) := heap_alloc_new w _
  have hb0 : Below w.heap.size w (w.alloc (.cells #[.int .i64 k1, .int .i64 n1, .int .i64 a1, .slice A1 p1 c1, .slice A2 p2 c2] 27)) := (Below.refl _ _).alloc (Nat.le_refl _) _
  have HL : Hid (∀ w', Below w.heap.size w w' → Calls Tryd.prog 20 #[.slice A1 p1 c1, .int .i64 (M : Int)] w' (CountPost w' sl M)) := fun w' hx => by
    rw [← hsl]; exact levelsOf_m A1 lv c1 M p1 w' hp1 (by omega) hM ((h1.below hx).more hx.size)
  have HK : Hid (∀ w', Below w.heap.size w w' → Calls Tryd.prog 31 #[.slice A2 p2 c2, .int .i64 (M : Int)] w' (CountPost w' sk M)) := fun w' hx => by
    rw [← hsk]; exact termsOf_of kids ih A2 c2 M p2 w' hp2 (by omega) hM (h2.below hx hx.size)
  rw [hsl, hsk] at hc ⊢
  have f3 := cell_of_row _ _ 3 _ _ (0, 0) x1
  have f4 := cell_of_row _ _ 4 _ _ (0, 0) x1
  have hb1 : w.heap.size < (w.alloc (.cells #[.int .i64 k1, .int .i64 n1, .int .i64 a1, .slice A1 p1 c1, .slice A2 p2 c2] 27)).heap.size := by simp
  clear x1 h1 h2 hp1 hp2 ih hsl hsk
  have HB0 := Lib.hid hb0
  clear hb0
  go_enter Tryd.func19, Tryd.ntmps19
  go_upto_region 1 with (fail)
  obtain ⟨w1, hw1⟩ : ∃ x, w.alloc (.cells #[.int .i64 k1, .int .i64 n1, .int .i64 a1, .slice A1 p1 c1, .slice A2 p2 c2] 27) = x := ⟨_, rfl⟩
  rw [hw1] at HB0 f3 f4 hb1 ⊢
  clear hw1
  have hS : Below w1.heap.size w1 w1.drew := (Below.refl _ _).drew
  refine wp_region_tab (fun w' => Below w1.heap.size w1 w') (fun w1 w2 : World => Below w1.heap.size w1 w2) [(fun (x : Value) (_ : World) => x = (.pointer (some ⟨w.heap.size, 0 + 3, none⟩) : Value)), (fun (x : Value) (_ : World) => x = (.slice A1 p1 c1 : Value)), (fun (x : Value) (_ : World) => x = (.int .i64 (M : Int) : Value)), (fun (x : Value) (w : World) => ∃ s : Nat, x = .int .i64 (s : Int) ∧ s ≤ sl ∧ (s ≤ M → s = sl)), (fun (x : Value) (w : World) => ∃ s : Nat, x = .int .i64 (s : Int) ∧ s ≤ (1 + sl) ∧ (s ≤ M → s = (1 + sl))), (fun (x : Value) (_ : World) => x = (.pointer (some ⟨w.heap.size, 0 + 4, none⟩) : Value)), (fun (x : Value) (_ : World) => x = (.slice A2 p2 c2 : Value)), (fun (x : Value) (_ : World) => x = (.int .i64 (M : Int) : Value)), (fun (x : Value) (w : World) => ∃ s : Nat, x = .int .i64 (s : Int) ∧ s ≤ sk ∧ (s ≤ M → s = sk)), (fun (x : Value) (w : World) => ∃ s : Nat, x = .int .i64 (s : Int) ∧ s ≤ (1 + sl + sk) ∧ (s ≤ M → s = (1 + sl + sk))), (fun (x : Value) (w : World) => ∃ s : Nat, x = .int .i64 (s : Int) ∧ s ≤ (1 + sl + sk) ∧ (s ≤ M → s = (1 + sl + sk)))] [⟨some 5, .fieldAddr 27 (.tmp 2) 3, none, []⟩, ⟨some 6, .load 24 (.tmp 5), none, [(5, 0)]⟩, ⟨some 7, .move (.tmp 1), none, []⟩, ⟨some 8, .call { callee := .value (.func 20), args := #[.tmp 6, .tmp 7], argTypes := #[24, 3] }, none, [(6, 1), (7, 2)]⟩, ⟨some 9, .binOp .add 3 (.const (.int .i64 1)) (.tmp 8) 3, none, [(8, 3)]⟩, ⟨some 10, .fieldAddr 27 (.tmp 2) 4, none, []⟩, ⟨some 11, .load 25 (.tmp 10), none, [(10, 5)]⟩, ⟨some 12, .move (.tmp 1), none, []⟩, ⟨some 13, .call { callee := .value (.func 31), args := #[.tmp 11, .tmp 12], argTypes := #[25, 3] }, none, [(11, 6), (12, 7)]⟩, ⟨some 14, .binOp .add 3 (.tmp 9) (.tmp 13) 3, none, [(9, 4), (13, 8)]⟩, ⟨some 4, .assign (.tmp 14), none, [(14, 9)]⟩] [some 5, some 6, some 7, some 8, some 9, some 10, some 11, some 12, some 13, some 14, some 4] (by kernel_rfl) (by kernel_rfl) (by kernel_rfl) (by kernel_rfl) (by kernel_rfl) ?hS ?hmono ?hsteps ?hfin
  case hS => exact hS
  case hmono =>
    refine MonoL.cons (fun x w1 w2 _ _ _ hx => hx) ?_
    refine MonoL.cons (fun x w1 w2 _ _ _ hx => hx) ?_
    refine MonoL.cons (fun x w1 w2 _ _ _ hx => hx) ?_
    refine MonoL.cons (fun x w1 w2 _ _ hR hx => ?_) ?_
    · exact hx
    refine MonoL.cons (fun x w1 w2 _ _ hR hx => ?_) ?_
    · exact hx
    refine MonoL.cons (fun x w1 w2 _ _ _ hx => hx) ?_
    refine MonoL.cons (fun x w1 w2 _ _ _ hx => hx) ?_
    refine MonoL.cons (fun x w1 w2 _ _ _ hx => hx) ?_
    refine MonoL.cons (fun x w1 w2 _ _ hR hx => ?_) ?_
    · exact hx
    refine MonoL.cons (fun x w1 w2 _ _ hR hx => ?_) ?_
    · exact hx
    refine MonoL.cons (fun x w1 w2 _ _ hR hx => ?_) ?_
    · exact hx
    exact MonoL.nil
  case hsteps =>
    refine StepsT.cons (fun (x : Value) (_ : World) => x = (.pointer (some ⟨w.heap.size, 0 + 3, none⟩) : Value)) [] rfl rfl (fun oq hop _ wq hQS => ?_) ?_
    · exact StepFrom.fieldAddr hop (p := (.pointer (some ⟨w.heap.size, 0, none⟩) : Value)) (by kernel_rfl) (term_field 3 (by decide)) (by kernel_rfl) hQS (Below.refl _ _) rfl
    refine StepsT.cons (fun (x : Value) (_ : World) => x = (.slice A1 p1 c1 : Value)) [(5, (fun (x : Value) (_ : World) => x = (.pointer (some ⟨w.heap.size, 0 + 3, none⟩) : Value)))] rfl rfl (fun oq hop _ wq hQS => ?_) ?_
    · refine StepFrom.more_eq ((.pointer (some ⟨w.heap.size, 0 + 3, none⟩) : Value)) ?_
      exact StepFrom.load hop (p := (.pointer (some ⟨w.heap.size, 0 + 3, none⟩) : Value)) (by kernel_rfl) (load_levels ((hQS.cell (p := ⟨w.heap.size, 0 + 3, none⟩) hb1).trans f3)) (by kernel_rfl) hQS (Below.refl _ _) rfl
    refine StepsT.cons (fun (x : Value) (_ : World) => x = (.int .i64 (M : Int) : Value)) [] rfl rfl (fun oq hop _ wq hQS => ?_) ?_
    · exact StepFrom.move hop (v := (.int .i64 (M : Int) : Value)) (by kernel_rfl) (by kernel_rfl) hQS (Below.refl _ _) rfl
    refine StepsT.cons (fun (x : Value) (w : World) => ∃ s : Nat, x = .int .i64 (s : Int) ∧ s ≤ sl ∧ (s ≤ M → s = sl)) [(6, (fun (x : Value) (_ : World) => x = (.slice A1 p1 c1 : Value))), (7, (fun (x : Value) (_ : World) => x = (.int .i64 (M : Int) : Value)))] rfl rfl (fun oq hop _ wq hQS => ?_) ?_
    · refine StepFrom.more_eq ((.slice A1 p1 c1 : Value)) ?_
      refine StepFrom.more_eq ((.int .i64 (M : Int) : Value)) ?_
      exact StepFrom.call hop (vs := [(.slice A1 p1 c1 : Value), (.int .i64 (M : Int) : Value)]) (by kernel_rfl) (fun w => enter_levelsOf _ w) (by kernel_rfl) ((HL.out wq (HB0.out.trans (hQS.mono HB0.out.size))).mono fun e w9 h9 => by obtain ⟨s, q1, q2, q3, q4⟩ := h9; exact ⟨_, q1, hQS.trans (q4.mono hQS.size), q4, s, rfl, q2, q3⟩)
    refine StepsT.cons (fun (x : Value) (w : World) => ∃ s : Nat, x = .int .i64 (s : Int) ∧ s ≤ (1 + sl) ∧ (s ≤ M → s = (1 + sl))) [(8, (fun (x : Value) (w : World) => ∃ s : Nat, x = .int .i64 (s : Int) ∧ s ≤ sl ∧ (s ≤ M → s = sl)))] rfl rfl (fun oq hop _ wq hQS => ?_) ?_
    · refine StepFrom.more fun x8 h8 => ?_
      obtain ⟨s8, rfl, hs8, ht8⟩ := h8
      exact StepFrom.bin hop (vx := (.int .i64 1 : Value)) (vy := (.int .i64 (s8 : Int) : Value)) (by kernel_rfl) (by kernel_rfl) (add_int _ _ _ _ _ (IntWalk.i64_in _ (by omega))) (by kernel_rfl) hQS (Below.refl _ _) (by exact ⟨1 + s8, congrArg (Value.int .i64) (by omega), by omega, fun h => by have := ht8 (by omega); omega⟩)
    refine StepsT.cons (fun (x : Value) (_ : World) => x = (.pointer (some ⟨w.heap.size, 0 + 4, none⟩) : Value)) [] rfl rfl (fun oq hop _ wq hQS => ?_) ?_
    · exact StepFrom.fieldAddr hop (p := (.pointer (some ⟨w.heap.size, 0, none⟩) : Value)) (by kernel_rfl) (term_field 4 (by decide)) (by kernel_rfl) hQS (Below.refl _ _) rfl
    refine StepsT.cons (fun (x : Value) (_ : World) => x = (.slice A2 p2 c2 : Value)) [(10, (fun (x : Value) (_ : World) => x = (.pointer (some ⟨w.heap.size, 0 + 4, none⟩) : Value)))] rfl rfl (fun oq hop _ wq hQS => ?_) ?_
    · refine StepFrom.more_eq ((.pointer (some ⟨w.heap.size, 0 + 4, none⟩) : Value)) ?_
      exact StepFrom.load hop (p := (.pointer (some ⟨w.heap.size, 0 + 4, none⟩) : Value)) (by kernel_rfl) (load_terms ((hQS.cell (p := ⟨w.heap.size, 0 + 4, none⟩) hb1).trans f4)) (by kernel_rfl) hQS (Below.refl _ _) rfl
    refine StepsT.cons (fun (x : Value) (_ : World) => x = (.int .i64 (M : Int) : Value)) [] rfl rfl (fun oq hop _ wq hQS => ?_) ?_
    · exact StepFrom.move hop (v := (.int .i64 (M : Int) : Value)) (by kernel_rfl) (by kernel_rfl) hQS (Below.refl _ _) rfl
    refine StepsT.cons (fun (x : Value) (w : World) => ∃ s : Nat, x = .int .i64 (s : Int) ∧ s ≤ sk ∧ (s ≤ M → s = sk)) [(11, (fun (x : Value) (_ : World) => x = (.slice A2 p2 c2 : Value))), (12, (fun (x : Value) (_ : World) => x = (.int .i64 (M : Int) : Value)))] rfl rfl (fun oq hop _ wq hQS => ?_) ?_
    · refine StepFrom.more_eq ((.slice A2 p2 c2 : Value)) ?_
      refine StepFrom.more_eq ((.int .i64 (M : Int) : Value)) ?_
      exact StepFrom.call hop (vs := [(.slice A2 p2 c2 : Value), (.int .i64 (M : Int) : Value)]) (by kernel_rfl) (fun w => enter_termsOf _ w) (by kernel_rfl) ((HK.out wq (HB0.out.trans (hQS.mono HB0.out.size))).mono fun e w9 h9 => by obtain ⟨s, q1, q2, q3, q4⟩ := h9; exact ⟨_, q1, hQS.trans (q4.mono hQS.size), q4, s, rfl, q2, q3⟩)
    refine StepsT.cons (fun (x : Value) (w : World) => ∃ s : Nat, x = .int .i64 (s : Int) ∧ s ≤ (1 + sl + sk) ∧ (s ≤ M → s = (1 + sl + sk))) [(9, (fun (x : Value) (w : World) => ∃ s : Nat, x = .int .i64 (s : Int) ∧ s ≤ (1 + sl) ∧ (s ≤ M → s = (1 + sl)))), (13, (fun (x : Value) (w : World) => ∃ s : Nat, x = .int .i64 (s : Int) ∧ s ≤ sk ∧ (s ≤ M → s = sk)))] rfl rfl (fun oq hop _ wq hQS => ?_) ?_
    · refine StepFrom.more fun x9 h9 => ?_
      obtain ⟨s9, rfl, hs9, ht9⟩ := h9
      refine StepFrom.more fun x13 h13 => ?_
      obtain ⟨s13, rfl, hs13, ht13⟩ := h13
      exact StepFrom.bin hop (vx := (.int .i64 (s9 : Int) : Value)) (vy := (.int .i64 (s13 : Int) : Value)) (by kernel_rfl) (by kernel_rfl) (add_int _ _ _ _ _ (IntWalk.i64_in _ (by omega))) (by kernel_rfl) hQS (Below.refl _ _) (by exact ⟨s9 + s13, congrArg (Value.int .i64) (by omega), by omega, fun h => by have := ht9 (by omega); have := ht13 (by omega); omega⟩)
    refine StepsT.cons (fun (x : Value) (w : World) => ∃ s : Nat, x = .int .i64 (s : Int) ∧ s ≤ (1 + sl + sk) ∧ (s ≤ M → s = (1 + sl + sk))) [(14, (fun (x : Value) (w : World) => ∃ s : Nat, x = .int .i64 (s : Int) ∧ s ≤ (1 + sl + sk) ∧ (s ≤ M → s = (1 + sl + sk))))] rfl rfl (fun oq hop _ wq hQS => ?_) ?_
    · refine StepFrom.more fun x14 h14 => ?_
      obtain ⟨s14, rfl, hs14, ht14⟩ := h14
      exact StepFrom.assign hop (v := (.int .i64 (s14 : Int) : Value)) (by kernel_rfl) (by kernel_rfl) hQS (Below.refl _ _) ⟨s14, rfl, hs14, ht14⟩
    exact StepsT.nil
  case hfin =>
    intro wf hFS
    refine FinalFrom.more fun x5 h5 => ?_
    refine FinalFrom.more fun x6 h6 => ?_
    refine FinalFrom.more fun x7 h7 => ?_
    refine FinalFrom.more fun x8 h8 => ?_
    refine FinalFrom.more fun x9 h9 => ?_
    refine FinalFrom.more fun x10 h10 => ?_
    refine FinalFrom.more fun x11 h11 => ?_
    refine FinalFrom.more fun x12 h12 => ?_
    refine FinalFrom.more fun x13 h13 => ?_
    refine FinalFrom.more fun x14 h14 => ?_
    refine FinalFrom.more fun x4 h4 => ?_
    refine FinalFrom.done ?_
    obtain ⟨s4, rfl, q1, q2⟩ := h4
    have HF : Hid (CountPost w (1 + sl + sk) M (.returned (.int .i64 (s4 : Int))) wf) := ⟨s4, rfl, q1, q2, HB0.out.trans (hFS.mono HB0.out.size)⟩
    clear hS hFS f3 f4 q1 q2
    simp only [Act.put, List.setIfInBounds_toArray, List.set_cons_zero, List.set_cons_succ]
    go_wp2
    go_ret
    exact HF.out
/-- TermOf counts a term's nodes, levels and parts, up to a bound. -/
theorem termOf_any : ∀ t : Tm, CountTm t := by
  intro t
  induction t using Tm.ind with
  | h k n a lv kids ih =>
    intro hc M v w hM h
    obtain ⟨A1, c1, A2, c2, rfl, _, h1, h2⟩ := h.open
    rw [Tm.count_mk] at hc ⊢
    exact termOf_of k n a lv kids ih A1 A2 c1 c2 _ _ M w rfl rfl hc hM h1 h2
/-- TermsOf counts a row of terms, up to a bound. -/
theorem termsOf_any (ts : List Tm) (A : Option Addr) (c M n : Nat) (w : World) (hn : ts.length = n) (hs : Tm.countL ts ≤ 1048576) (hM : M ≤ 1048576) (h : Tms w w.heap.size A c ts) :
    Calls Tryd.prog 31 #[.slice A n c, .int .i64 (M : Int)] w (CountPost w (Tm.countL ts) M) := termsOf_of ts (fun t _ => termOf_any t) A c M n w hn hs hM h
end Go.Proofs.YtfgnnbpbbnnnhaaDoor
namespace Go.Proofs.YtfgnnbpbbnnnhaaDoor
open Go.RowKit Go.Maps
mutual
/-- a term's nodes -/
def Tm.size : Tm → Nat
  | .mk _ _ _ _ kids => 1 + Tm.sizeL kids
def Tm.sizeL : List Tm → Nat
  | [] => 0
  | t :: ts => t.size + Tm.sizeL ts
end
theorem Tm.size_mk (k n a : Int) (lv : List (List (Int × Int))) (kids : List Tm) : (Tm.mk k n a lv kids).size = 1 + Tm.sizeL kids := by rw [Tm.size]
theorem Tm.sizeL_take : ∀ (ts : List Tm) (i : Nat) (t : Tm), ts[i]? = some t → Tm.sizeL (ts.take (i + 1)) = Tm.sizeL (ts.take i) + t.size
  | [], i, t, h => by simp at h
  | s :: ts, 0, t, h => by
    injection h with h
    subst h
    simp [Tm.sizeL]
  | s :: ts, i + 1, t, h => by
    have := Tm.sizeL_take ts i t (by simpa using h)
    rw [List.take_succ_cons, List.take_succ_cons]
    simp only [Tm.sizeL, this]
    omega
theorem Tm.sizeL_le : ∀ (ts : List Tm) (k : Nat), Tm.sizeL (ts.take k) ≤ Tm.sizeL ts
  | [], k => by simp
  | t :: ts, 0 => by simp [Tm.sizeL]
  | t :: ts, k + 1 => by
    have := Tm.sizeL_le ts k
    rw [List.take_succ_cons]
    simp only [Tm.sizeL]
    omega
theorem Tm.sizeL_mem {ts : List Tm} {t : Tm} (h : t ∈ ts) : t.size ≤ Tm.sizeL ts := by
  obtain ⟨i, hi⟩ := List.getElem?_of_mem h
  have h1 := Tm.sizeL_take ts i t hi
  have h2 := Tm.sizeL_le ts (i + 1)
  omega
theorem Tm.sizeL_length : ∀ ts : List Tm, ts.length ≤ Tm.sizeL ts
  | [] => by simp
  | .mk k n a lv kids :: ts => by
    have := Tm.sizeL_length ts
    simp only [Tm.sizeL, Tm.size_mk, List.length_cons]
    omega
/-- what Size answers of a term of no more than this many nodes -/
def SizeTm (t : Tm) : Prop := t.size ≤ 1073741824 → ∀ (v : Value) (w : World), TmAt w w.heap.size t v → Calls Tryd.prog 12 #[v] w (fun e w' => e = .returned (.int .i64 (t.size : Int)) ∧ Below w.heap.size w w')
set_option maxRecDepth 100000 in
set_option maxHeartbeats 1000000 in
theorem size_of (k1 n1 a1 : Int) (kids : List Tm) (ih : ∀ t ∈ kids, SizeTm t) (A1 A2 : Option Addr) (c1 c2 p1 p2 : Nat) (w : World) (hp2 : kids.length = p2) (hc : 1 + Tm.sizeL kids ≤ 1073741824) (h2 : Tms w w.heap.size A2 c2 kids) :
    Calls Tryd.prog 12 #[.agg #[.int .i64 k1, .int .i64 n1, .int .i64 a1, .slice A1 p1 c1, .slice A2 p2 c2]] w (fun e w' => e = .returned (.int .i64 ((1 + Tm.sizeL kids : Nat) : Int)) ∧ Below w.heap.size w w') := by
  have hl := Tm.sizeL_length kids
  have hp9 : p2 ≤ 1073741824 := by omega
  have HL := Lib.hid h2
  have HN := Lib.hid hp2
  have HS := Lib.hid hc
  have IH := Lib.hid ih
  have HB0 : Hid (Below w.heap.size w (w.alloc (.cells #[.int .i64 k1, .int .i64 n1, .int .i64 a1, .slice A1 p1 c1, .slice A2 p2 c2] 27))) := (Below.refl _ _).alloc (Nat.le_refl _) _
  clear h2 hp2 hc ih hl
  go_enter Tryd.func12, Tryd.ntmps12
  go_wp2
  go_loopw [3, 9] (fun u i wr => ∃ (k : Nat), k ≤ p2 ∧ i = .int .i64 (k : Int) ∧ u = .int .i64 ((1 + Tm.sizeL (kids.take k) : Nat) : Int) ∧ Below w.heap.size w wr) (fun _ i _ => p2 - (intOf i).toNat)
  case atStart => exact ⟨0, Nat.zero_le _, rfl, by simp [Tm.sizeL], HB0.out⟩
  case round =>
    obtain ⟨k, hk, rfl, rfl, hb⟩ := hrel
    have hbz := hb.size
    have hle := Tm.sizeL_le kids k
    have hs9 := HS.out
    by_cases hlt : k < p2
    · obtain ⟨t, ht⟩ : ∃ t, kids[k]? = some t := ⟨_, List.getElem?_eq_getElem (by rw [HN.out]; exact hlt)⟩
      obtain ⟨b, o, k2, n2, a2, A3, p3, c3, A4, p4, c4, e, hbB, hv, f0, f1, f2, f3, f4⟩ := HL.out.at hb ht
      subst e
      have hct := Tm.sizeL_take kids k t ht
      have hle1 := Tm.sizeL_le kids (k + 1)
      have hm := Tm.sizeL_mem (List.mem_of_getElem? ht)
      have HC : Hid (∀ w', Below wr.heap.size wr w' → Calls Tryd.prog 12 #[.agg #[.int .i64 k2, .int .i64 n2, .int .i64 a2, .slice A3 p3 c3, .slice A4 p4 c4]] w' (fun e w9 => e = .returned (.int .i64 (t.size : Int)) ∧ Below w'.heap.size w' w9)) := fun w' hx => by
        have hx2 := hb.trans (hx.mono hbz)
        exact IH.out t (List.mem_of_getElem? ht) (by omega) _ w' (hv.below hx2 hx2.size)
      have ws : IntKind.i64.wrap (((1 + Tm.sizeL (kids.take k) : Nat) : Int) + (t.size : Int)) = ((1 + Tm.sizeL (kids.take (k + 1)) : Nat) : Int) := by rw [IntWalk.i64_in _ (by omega)]; omega
      have HB := Lib.hid hb
      have ij0 : (0 : Int) ≤ (k : Int) := by omega
      have ij1 : (k : Int) < (p2 : Int) := by omega
      obtain ⟨u, hu⟩ : ∃ u : Int, ((1 + Tm.sizeL (kids.take k) : Nat) : Int) = u := ⟨_, rfl⟩
      obtain ⟨s, hs⟩ : ∃ s : Int, (t.size : Int) = s := ⟨_, rfl⟩
      obtain ⟨u', hu'⟩ : ∃ u : Int, ((1 + Tm.sizeL (kids.take (k + 1)) : Nat) : Int) = u := ⟨_, rfl⟩
      rw [hu, hs, hu'] at ws
      rw [hs] at HC
      rw [hu]
      have HU := Lib.hid hu'
      clear hb hv hct ht hm hu hs hu' hle hle1 hs9
      go_wp2_with (fail)
      refine (HC.out _ ((Below.refl _ _).alloc (Nat.le_refl _) _)).mono ?_
      rintro e w1 ⟨rfl, hb1⟩
      have HB1 : Hid (Below w.heap.size w w1) := HB.out.trans ((((Below.refl _ _).alloc (Nat.le_refl _) _).trans (hb1.mono (by simp))).mono hbz)
      clear hb1
      go_wp2
      go_roundw
      case rel => exact ⟨k + 1, by omega, by go_num, by rw [HU.out], HB1.out⟩
      case measure => simp [intOf]; omega
    · have hq : kids.take k = kids := List.take_of_length_le (by rw [HN.out]; omega)
      rw [hq]
      have HB := Lib.hid hb
      clear hb hq
      go_wp2
      go_ret
      exact ⟨rfl, HB.out⟩
/-- Size tells how many nodes a term has. -/
theorem size_any : ∀ t : Tm, SizeTm t := by
  intro t
  induction t using Tm.ind with
  | h k n a lv kids ih =>
    intro hc v w h
    obtain ⟨A1, c1, A2, c2, rfl, _, h1, h2⟩ := h.open
    rw [Tm.size_mk] at hc ⊢
    exact size_of k n a kids ih A1 A2 c1 c2 _ _ w rfl hc h2
end Go.Proofs.YtfgnnbpbbnnnhaaDoor
