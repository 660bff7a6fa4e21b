/- Laws. -/
import Derived.Test.YtfgnnbpbbnnnhaaDoorApaf
import Derived.Test.YtfgnnbpbbnnnhaaDoorApag
import Derived.Test.YtfgnnbpbbnnnhaaDoorApah
namespace Go.Proofs.YtfgnnbpbbnnnhaaDoor
open Go.RowKit Go.Maps
/-- some number is told -/
def SomeInt (w : World) (e : Ending) (w' : World) : Prop := ∃ r : Int, e = .returned (.int .i64 r) ∧ Below w.heap.size w w'
set_option maxRecDepth 100000 in
theorem add_wrap9 (x y : Int) (p q : Operand) (w : World) : ((do eqGuard .add 3 p q (.int .i64 x) (.int .i64 y); binOp .add 3 (.int .i64 x) (.int .i64 y) : Sem Value)).run Tryd.prog w = .ok (.int .i64 (IntKind.i64.wrap (x + y))) w := by go_simp
theorem infoT59 : (Tryd.prog.info? 27).map (·.size) = some 5 := by kernel_rfl
set_option maxRecDepth 100000 in
theorem load_tm_at {w : World} {cs : Array Value} {g o : Nat} {a0 a1 a2 a3 a4 : Value} {t : TypeId} (h : w.heap[g]? = some (.cells cs t (0, 0))) (h0 : cs[o]? = some a0) (h1 : cs[o + 1]? = some a1) (h2 : cs[o + 2]? = some a2) (h3 : cs[o + 3]? = some a3) (h4 : cs[o + 4]? = some a4) : (Instr.loadAt 27 (.pointer (some ⟨g, o, none⟩))).run Tryd.prog w = .ok (.agg #[a0, a1, a2, a3, a4]) w :=
  run_loadAt_cells Tryd.underlying27 rfl infoT59 rfl fun j hj => by
    rw [cell_of_row _ _ _ _ _ (0, 0) h]
    match j, hj with
    | 0, _ => exact h0
    | 1, _ => exact h1
    | 2, _ => exact h2
    | 3, _ => exact h3
    | 4, _ => exact h4
set_option maxRecDepth 100000 in
theorem load_lev_in {b o n c : Nat} {w : World} {A : Option Addr} (h : w.cell? ⟨b, o, none⟩ = some (.slice A n c)) : (Instr.loadAt 39 (.pointer (some ⟨b, o, none⟩))).run Tryd.prog w = .ok (.agg #[.slice A n c]) w := by go_simp
set_option maxRecDepth 100000 in
theorem load_mems {b o n c : Nat} {w : World} {A : Option Addr} (h : w.cell? ⟨b, o, none⟩ = some (.slice A n c)) : (Instr.loadAt 40 (.pointer (some ⟨b, o, none⟩))).run Tryd.prog w = .ok (.slice A n c) w := by go_simp
set_option maxRecDepth 100000 in
theorem load_ctors {b o n c : Nat} {w : World} {A : Option Addr} (h : w.cell? ⟨b, o, none⟩ = some (.slice A n c)) : (Instr.loadAt 41 (.pointer (some ⟨b, o, none⟩))).run Tryd.prog w = .ok (.slice A n c) w := by go_simp
set_option maxRecDepth 100000 in
theorem dc_field2 {b : Nat} {w : World} : (Instr.fieldAt 43 (.pointer (some ⟨b, 0, none⟩)) 2).run Tryd.prog w = .ok (.pointer (some ⟨b, 2, none⟩)) w := by go_simp
set_option maxRecDepth 100000 in
theorem dc_field3 {b : Nat} {w : World} : (Instr.fieldAt 43 (.pointer (some ⟨b, 0, none⟩)) 3).run Tryd.prog w = .ok (.pointer (some ⟨b, 7, none⟩)) w := by go_simp
set_option maxRecDepth 100000 in
theorem dc_field4 {b : Nat} {w : World} : (Instr.fieldAt 43 (.pointer (some ⟨b, 0, none⟩)) 4).run Tryd.prog w = .ok (.pointer (some ⟨b, 12, none⟩)) w := by go_simp
set_option maxRecDepth 100000 in
theorem dc_field5 {b : Nat} {w : World} : (Instr.fieldAt 43 (.pointer (some ⟨b, 0, none⟩)) 5).run Tryd.prog w = .ok (.pointer (some ⟨b, 13, none⟩)) w := by go_simp
set_option maxRecDepth 100000 in
theorem dc_field6 {b : Nat} {w : World} : (Instr.fieldAt 43 (.pointer (some ⟨b, 0, none⟩)) 6).run Tryd.prog w = .ok (.pointer (some ⟨b, 14, none⟩)) w := by go_simp
set_option maxRecDepth 100000 in
theorem dc_field7 {b : Nat} {w : World} : (Instr.fieldAt 43 (.pointer (some ⟨b, 0, none⟩)) 7).run Tryd.prog w = .ok (.pointer (some ⟨b, 15, none⟩)) w := by go_simp
set_option maxRecDepth 100000 in
theorem enter_termOf9 (vs : Array Value) (w : World) : (callFunc 19 vs).run Tryd.prog w = .ok (.enter 19 vs) w := by go_simp
set_option maxRecDepth 100000 in
theorem enter_levelOf9 (vs : Array Value) (w : World) : (callFunc 49 vs).run Tryd.prog w = .ok (.enter 49 vs) w := by go_simp
set_option maxRecDepth 100000 in
theorem enter_membersOf9 (vs : Array Value) (w : World) : (callFunc 75 vs).run Tryd.prog w = .ok (.enter 75 vs) w := by go_simp
set_option maxRecDepth 100000 in
theorem enter_ctorsOf9 (vs : Array Value) (w : World) : (callFunc 76 vs).run Tryd.prog w = .ok (.enter 76 vs) w := by go_simp
set_option maxRecDepth 100000 in
set_option maxHeartbeats 2000000 in
theorem membersOf_any (ds : List (List Tm)) (A : Option Addr) (c n : Nat) (w : World) (hn : ds.length = n) (hn9 : n ≤ 1048576) (hs : ∀ m ∈ ds, Tm.countL m ≤ 1048576) (h : Mems w w.heap.size A c ds) :
    Calls Tryd.prog 75 #[.slice A n c, .int .i64 1500] w (SomeInt w) := by
  have HN := Lib.hid hn
  have HL := Lib.hid h
  have HS := Lib.hid hs
  clear hn h hs
  go_enter Tryd.func75, Tryd.ntmps75
  go_wp2
  go_loopw [5, 6] (fun u i wr => ∃ (k : Nat) (r : Int), k ≤ n ∧ i = .int .i64 (k : Int) ∧ u = .int .i64 r ∧ Below w.heap.size w wr) (fun _ i _ => n - (intOf i).toNat)
  case atStart => exact ⟨0, 0, Nat.zero_le _, rfl, rfl, Below.refl _ _⟩
  case round =>
    obtain ⟨k, r, hk, rfl, rfl, hb⟩ := hrel
    have hbz := hb.size
    have HB := Lib.hid hb
    by_cases hlt : k < n
    · by_cases hu : r ≤ 1500
      · obtain ⟨d, hd⟩ : ∃ d, ds[k]? = some d := ⟨_, List.getElem?_eq_getElem (by rw [HN.out]; exact hlt)⟩
        obtain ⟨b, o, rfl, hbB, hc⟩ := HL.out.2 (by have := HN.out; omega)
        obtain ⟨Ai, ci, q1, q2⟩ := hc k d hd
        have e0 := (hb.cell (p := ⟨b, o + k, none⟩) hbB).trans q1
        have HC := Lib.hid (termsOf_any d Ai ci 1500 _ wr rfl (HS.out d (List.mem_of_getElem? hd)) (by decide) (q2.below hb hbz))
        obtain ⟨l, hl⟩ : ∃ l, d.length = l := ⟨_, rfl⟩
        rw [hl] at e0 HC
        clear hc q1 q2 hd hl
        have ij0 : (0 : Int) ≤ (k : Int) := by omega
        have ij1 : (k : Int) < (n : Int) := by omega
        clear hb
        go_wp2_with (fail)
        refine HC.out.mono ?_
        rintro e w1 ⟨s, rfl, _, _, hb1⟩
        have HB1 : Hid (Below w.heap.size w w1) := HB.out.trans (hb1.mono hbz)
        clear hb1
        go_wp2
        go_roundw
        case rel => exact ⟨k + 1, _, by omega, by go_num, rfl, HB1.out⟩
        case measure => simp [intOf]; omega
      · have hu2 : decide (r ≤ 1500) = false := by simpa using hu
        clear hb hu
        go_wp2
        go_ret
        exact ⟨_, rfl, HB.out⟩
    · clear hb
      go_wp2
      go_ret
      exact ⟨_, rfl, HB.out⟩
set_option maxRecDepth 100000 in
set_option maxHeartbeats 2000000 in
theorem ctorsOf_any (ds : List (Int × Tm)) (A : Option Addr) (c n : Nat) (w : World) (hn : ds.length = n) (hn9 : n ≤ 1048576) (hs : ∀ m ∈ ds, m.2.count ≤ 1048576) (h : Ctrs w w.heap.size A c ds) :
    Calls Tryd.prog 76 #[.slice A n c, .int .i64 1500] w (SomeInt w) := by
  have HN := Lib.hid hn
  have HL := Lib.hid h
  have HS := Lib.hid hs
  clear hn h hs
  go_enter Tryd.func76, Tryd.ntmps76
  go_wp2
  go_loopw [5, 6] (fun u i wr => ∃ (k : Nat) (r : Int), k ≤ n ∧ i = .int .i64 (k : Int) ∧ u = .int .i64 r ∧ Below w.heap.size w wr) (fun _ i _ => n - (intOf i).toNat)
  case atStart => exact ⟨0, 0, Nat.zero_le _, rfl, rfl, Below.refl _ _⟩
  case round =>
    obtain ⟨k, r, hk, rfl, rfl, hb⟩ := hrel
    have hbz := hb.size
    have HB := Lib.hid hb
    by_cases hlt : k < n
    · by_cases hu : r ≤ 1500
      · obtain ⟨d, hd⟩ : ∃ d, ds[k]? = some d := ⟨_, List.getElem?_eq_getElem (by rw [HN.out]; exact hlt)⟩
        obtain ⟨b, o, rfl, hbB, hc⟩ := HL.out.2 (by have := HN.out; omega)
        obtain ⟨v, q1, q2, q3⟩ := hc k d hd
        obtain ⟨a0, a1, a2, a3, a4, rfl, f0, f1, f2, f3, f4⟩ := q2
        obtain ⟨i0, i1, i2, S0, S1, l0, m0, l1, m1, rfl, rfl, rfl, rfl, rfl⟩ := tm_cells5 q3
        have e0 := (hb.cell (p := ⟨b, o + k * 6 + 1, none⟩) hbB).trans f0
        have e1 := (hb.cell (p := ⟨b, o + k * 6 + 1 + 1, none⟩) hbB).trans f1
        have e2 := (hb.cell (p := ⟨b, o + k * 6 + 1 + 2, none⟩) hbB).trans f2
        have e3 := (hb.cell (p := ⟨b, o + k * 6 + 1 + 3, none⟩) hbB).trans f3
        have e4 := (hb.cell (p := ⟨b, o + k * 6 + 1 + 4, none⟩) hbB).trans f4
        have HC := Lib.hid (termOf_any d.2 (HS.out d (List.mem_of_getElem? hd)) 1500 _ wr (by decide) (q3.below hb hbz))
        clear hc q1 q3 hd f0 f1 f2 f3 f4
        have ij0 : (0 : Int) ≤ (k : Int) := by omega
        have ij1 : (k : Int) < (n : Int) := by omega
        clear hb
        go_wp2_with (fail)
        refine HC.out.mono ?_
        rintro e w1 ⟨s, rfl, _, _, hb1⟩
        have HB1 : Hid (Below w.heap.size w w1) := HB.out.trans (hb1.mono hbz)
        clear hb1
        go_wp2
        go_roundw
        case rel => exact ⟨k + 1, _, by omega, by go_num, rfl, HB1.out⟩
        case measure => simp [intOf]; omega
      · have hu2 : decide (r ≤ 1500) = false := by simpa using hu
        clear hb hu
        go_wp2
        go_ret
        exact ⟨_, rfl, HB.out⟩
    · clear hb
      go_wp2
      go_ret
      exact ⟨_, rfl, HB.out⟩
/-- what is counted of a declaration is not too great -/
def Dc.ok (d : Dc) : Prop := d.ty.count ≤ 1048576 ∧ d.bo.count ≤ 1048576 ∧ Tm.countL d.pars ≤ 1048576 ∧ d.sort.length ≤ 1048576 ∧ d.mems.length ≤ 1048576 ∧ (∀ m ∈ d.mems, Tm.countL m ≤ 1048576) ∧ d.ctors.length ≤ 1048576 ∧ ∀ m ∈ d.ctors, m.2.count ≤ 1048576
set_option maxRecDepth 100000 in
set_option maxHeartbeats 4000000 in
theorem declOf_any (d : Dc) (cs : Array Value) (w : World) (h : DcAt w w.heap.size d cs) (hok : d.ok) :
    Calls Tryd.prog 48 #[.agg cs, .int .i64 1500] w (SomeInt w) := by
  obtain ⟨w1, hw1⟩ : ∃ x, w.alloc (.cells cs 43) = x := ⟨_, rfl⟩
  have hb1 : Below w.heap.size w w1 := by rw [← hw1]; exact (Below.refl _ _).alloc (Nat.le_refl _) _
  have x1 : w1.heap[w.heap.size]? = some (.cells cs 43 (0, 0)) := by rw [← hw1]; exact heap_alloc_new w _
  obtain ⟨o1, o2, o3, o4, o5, o6, o7, o8⟩ := hok
  obtain ⟨a0, a1, a2, a3, a4, b0, b1, b2, b3, b4, Ap, As, Am, Ac, cp, cz, cm, cc, rfl, h1, h2, h3, h4, h5, h6, h7⟩ := h
  obtain ⟨np, hnp⟩ : ∃ x, d.pars.length = x := ⟨_, rfl⟩
  obtain ⟨nz, hnz⟩ : ∃ x, d.sort.length = x := ⟨_, rfl⟩
  obtain ⟨nm, hnm⟩ : ∃ x, d.mems.length = x := ⟨_, rfl⟩
  obtain ⟨nc, hnc⟩ : ∃ x, d.ctors.length = x := ⟨_, rfl⟩
  obtain ⟨kd, hkd⟩ : ∃ x, d.kind = x := ⟨_, rfl⟩
  obtain ⟨kl, hkl⟩ : ∃ x, d.lev = x := ⟨_, rfl⟩
  rw [hnp, hnz, hnm, hnc, hkd, hkl] at x1 hw1 ⊢
  have HT1 : Hid (∀ w', Below w1.heap.size w1 w' → Calls Tryd.prog 19 #[.agg #[a0, a1, a2, a3, a4], .int .i64 1500] w' (CountPost w' d.ty.count 1500)) := fun w' hx => termOf_any _ o1 1500 _ w' (by decide) (h1.below (hb1.trans (hx.mono hb1.size)) (hb1.trans (hx.mono hb1.size)).size)
  have HT2 : Hid (∀ w', Below w1.heap.size w1 w' → Calls Tryd.prog 19 #[.agg #[b0, b1, b2, b3, b4], .int .i64 1500] w' (CountPost w' d.bo.count 1500)) := fun w' hx => termOf_any _ o2 1500 _ w' (by decide) (h2.below (hb1.trans (hx.mono hb1.size)) (hb1.trans (hx.mono hb1.size)).size)
  have HT3 : Hid (∀ w', Below w1.heap.size w1 w' → Calls Tryd.prog 31 #[.slice Ap np cp, .int .i64 1500] w' (CountPost w' (Tm.countL d.pars) 1500)) := fun w' hx => termsOf_any _ Ap cp 1500 np w' hnp o3 (by decide) (h3.below (hb1.trans (hx.mono hb1.size)) (hb1.trans (hx.mono hb1.size)).size)
  have HT4 : Hid (∀ w', Calls Tryd.prog 49 #[.agg #[.slice As nz cz], .int .i64 1500] w' (CountPost w' (1 + nz) 1500)) := fun w' => levelOf_m As nz cz 1500 w' (by omega) (by decide)
  have HT5 : Hid (∀ w', Below w1.heap.size w1 w' → Calls Tryd.prog 75 #[.slice Am nm cm, .int .i64 1500] w' (SomeInt w')) := fun w' hx => membersOf_any d.mems Am cm nm w' hnm (by omega) o6 (h6.keep (hb1.trans (hx.mono hb1.size)).size fun p hp => (hb1.trans (hx.mono hb1.size)).cell hp)
  have HT6 : Hid (∀ w', Below w1.heap.size w1 w' → Calls Tryd.prog 76 #[.slice Ac nc cc, .int .i64 1500] w' (SomeInt w')) := fun w' hx => ctorsOf_any d.ctors Ac cc nc w' hnc (by omega) o8 (h7.keep (hb1.trans (hx.mono hb1.size)).size fun p hp => (hb1.trans (hx.mono hb1.size)).cell hp)
  have HB1 := Lib.hid hb1
  have l1 := heap_some_lt x1
  clear h1 h2 h3 h4 h5 h6 h7 hb1 o1 o2 o3 o4 o5 o6 o7 o8 hnp hnz hnm hnc hkd hkl
  go_enter Tryd.func48, Tryd.ntmps48
  go_upto_region 1 with (fail)
  have hS : Below w1.heap.size w1 w1.drew := (Below.refl _ _).drew
  refine wp_region_tab (fun w' => Below w1.heap.size w1 w') (fun w1 w2 : World => Below w1.heap.size w1 w2) [(fun (x : Value) (_ : World) => x = (.pointer (some ⟨w.heap.size, 2, none⟩) : Value)), (fun (x : Value) (_ : World) => x = (.agg #[a0, a1, a2, a3, a4] : Value)), (fun (x : Value) (_ : World) => x = (.int .i64 1500 : Value)), (fun (x : Value) (w : World) => ∃ r : Int, x = .int .i64 r), (fun (x : Value) (w : World) => ∃ r : Int, x = .int .i64 r), (fun (x : Value) (_ : World) => x = (.pointer (some ⟨w.heap.size, 7, none⟩) : Value)), (fun (x : Value) (_ : World) => x = (.agg #[b0, b1, b2, b3, b4] : Value)), (fun (x : Value) (_ : World) => x = (.int .i64 1500 : Value)), (fun (x : Value) (w : World) => ∃ r : Int, x = .int .i64 r), (fun (x : Value) (w : World) => ∃ r : Int, x = .int .i64 r), (fun (x : Value) (_ : World) => x = (.pointer (some ⟨w.heap.size, 12, none⟩) : Value)), (fun (x : Value) (_ : World) => x = (.slice Ap np cp : Value)), (fun (x : Value) (_ : World) => x = (.int .i64 1500 : Value)), (fun (x : Value) (w : World) => ∃ r : Int, x = .int .i64 r), (fun (x : Value) (w : World) => ∃ r : Int, x = .int .i64 r), (fun (x : Value) (_ : World) => x = (.pointer (some ⟨w.heap.size, 13, none⟩) : Value)), (fun (x : Value) (_ : World) => x = (.agg #[.slice As nz cz] : Value)), (fun (x : Value) (_ : World) => x = (.int .i64 1500 : Value)), (fun (x : Value) (w : World) => ∃ r : Int, x = .int .i64 r), (fun (x : Value) (w : World) => ∃ r : Int, x = .int .i64 r), (fun (x : Value) (_ : World) => x = (.pointer (some ⟨w.heap.size, 14, none⟩) : Value)), (fun (x : Value) (_ : World) => x = (.slice Am nm cm : Value)), (fun (x : Value) (_ : World) => x = (.int .i64 1500 : Value)), (fun (x : Value) (w : World) => ∃ r : Int, x = .int .i64 r), (fun (x : Value) (w : World) => ∃ r : Int, x = .int .i64 r), (fun (x : Value) (_ : World) => x = (.pointer (some ⟨w.heap.size, 15, none⟩) : Value)), (fun (x : Value) (_ : World) => x = (.slice Ac nc cc : Value)), (fun (x : Value) (_ : World) => x = (.int .i64 1500 : Value)), (fun (x : Value) (w : World) => ∃ r : Int, x = .int .i64 r), (fun (x : Value) (w : World) => ∃ r : Int, x = .int .i64 r), (fun (x : Value) (w : World) => ∃ r : Int, x = .int .i64 r)] [⟨some 5, .fieldAddr 43 (.tmp 2) 2, none, []⟩, ⟨some 6, .load 27 (.tmp 5), none, [(5, 0)]⟩, ⟨some 7, .move (.tmp 1), none, []⟩, ⟨some 8, .call { callee := .value (.func 19), args := #[.tmp 6, .tmp 7], argTypes := #[27, 3] }, none, [(6, 1), (7, 2)]⟩, ⟨some 9, .binOp .add 3 (.const (.int .i64 1)) (.tmp 8) 3, none, [(8, 3)]⟩, ⟨some 10, .fieldAddr 43 (.tmp 2) 3, none, []⟩, ⟨some 11, .load 27 (.tmp 10), none, [(10, 5)]⟩, ⟨some 12, .move (.tmp 1), none, []⟩, ⟨some 13, .call { callee := .value (.func 19), args := #[.tmp 11, .tmp 12], argTypes := #[27, 3] }, none, [(11, 6), (12, 7)]⟩, ⟨some 14, .binOp .add 3 (.tmp 9) (.tmp 13) 3, none, [(9, 4), (13, 8)]⟩, ⟨some 15, .fieldAddr 43 (.tmp 2) 4, none, []⟩, ⟨some 16, .load 25 (.tmp 15), none, [(15, 10)]⟩, ⟨some 17, .move (.tmp 1), none, []⟩, ⟨some 18, .call { callee := .value (.func 31), args := #[.tmp 16, .tmp 17], argTypes := #[25, 3] }, none, [(16, 11), (17, 12)]⟩, ⟨some 19, .binOp .add 3 (.tmp 14) (.tmp 18) 3, none, [(14, 9), (18, 13)]⟩, ⟨some 20, .fieldAddr 43 (.tmp 2) 5, none, []⟩, ⟨some 21, .load 39 (.tmp 20), none, [(20, 15)]⟩, ⟨some 22, .move (.tmp 1), none, []⟩, ⟨some 23, .call { callee := .value (.func 49), args := #[.tmp 21, .tmp 22], argTypes := #[39, 3] }, none, [(21, 16), (22, 17)]⟩, ⟨some 24, .binOp .add 3 (.tmp 19) (.tmp 23) 3, none, [(19, 14), (23, 18)]⟩, ⟨some 25, .fieldAddr 43 (.tmp 2) 6, none, []⟩, ⟨some 26, .load 40 (.tmp 25), none, [(25, 20)]⟩, ⟨some 27, .move (.tmp 1), none, []⟩, ⟨some 28, .call { callee := .value (.func 75), args := #[.tmp 26, .tmp 27], argTypes := #[40, 3] }, none, [(26, 21), (27, 22)]⟩, ⟨some 29, .binOp .add 3 (.tmp 24) (.tmp 28) 3, none, [(24, 19), (28, 23)]⟩, ⟨some 30, .fieldAddr 43 (.tmp 2) 7, none, []⟩, ⟨some 31, .load 41 (.tmp 30), none, [(30, 25)]⟩, ⟨some 32, .move (.tmp 1), none, []⟩, ⟨some 33, .call { callee := .value (.func 76), args := #[.tmp 31, .tmp 32], argTypes := #[41, 3] }, none, [(31, 26), (32, 27)]⟩, ⟨some 34, .binOp .add 3 (.tmp 29) (.tmp 33) 3, none, [(29, 24), (33, 28)]⟩, ⟨some 4, .assign (.tmp 34), none, [(34, 29)]⟩] [some 5, some 6, some 7, some 8, some 9, some 10, some 11, some 12, some 13, some 14, some 15, some 16, some 17, some 18, some 19, some 20, some 21, some 22, some 23, some 24, some 25, some 26, some 27, some 28, some 29, some 30, some 31, some 32, some 33, some 34, some 4] (by kernel_rfl) (by kernel_rfl) (by kernel_rfl) (by kernel_rfl) (by kernel_rfl) ?hS ?hmono ?hsteps ?hfin
  case hS => exact hS
  case hmono =>
    refine MonoL.cons (fun x w1 w2 _ _ _ hx => hx) ?_
    refine MonoL.cons (fun x w1 w2 _ _ _ hx => hx) ?_
    refine MonoL.cons (fun x w1 w2 _ _ _ hx => hx) ?_
    refine MonoL.cons (fun x w1 w2 _ _ hR hx => ?_) ?_
    · exact hx
    refine MonoL.cons (fun x w1 w2 _ _ hR hx => ?_) ?_
    · exact hx
    refine MonoL.cons (fun x w1 w2 _ _ _ hx => hx) ?_
    refine MonoL.cons (fun x w1 w2 _ _ _ hx => hx) ?_
    refine MonoL.cons (fun x w1 w2 _ _ _ hx => hx) ?_
    refine MonoL.cons (fun x w1 w2 _ _ hR hx => ?_) ?_
    · exact hx
    refine MonoL.cons (fun x w1 w2 _ _ hR hx => ?_) ?_
    · exact hx
    refine MonoL.cons (fun x w1 w2 _ _ _ hx => hx) ?_
    refine MonoL.cons (fun x w1 w2 _ _ _ hx => hx) ?_
    refine MonoL.cons (fun x w1 w2 _ _ _ hx => hx) ?_
    refine MonoL.cons (fun x w1 w2 _ _ hR hx => ?_) ?_
    · exact hx
    refine MonoL.cons (fun x w1 w2 _ _ hR hx => ?_) ?_
    · exact hx
    refine MonoL.cons (fun x w1 w2 _ _ _ hx => hx) ?_
    refine MonoL.cons (fun x w1 w2 _ _ _ hx => hx) ?_
    refine MonoL.cons (fun x w1 w2 _ _ _ hx => hx) ?_
    refine MonoL.cons (fun x w1 w2 _ _ hR hx => ?_) ?_
    · exact hx
    refine MonoL.cons (fun x w1 w2 _ _ hR hx => ?_) ?_
    · exact hx
    refine MonoL.cons (fun x w1 w2 _ _ _ hx => hx) ?_
    refine MonoL.cons (fun x w1 w2 _ _ _ hx => hx) ?_
    refine MonoL.cons (fun x w1 w2 _ _ _ hx => hx) ?_
    refine MonoL.cons (fun x w1 w2 _ _ hR hx => ?_) ?_
    · exact hx
    refine MonoL.cons (fun x w1 w2 _ _ hR hx => ?_) ?_
    · exact hx
    refine MonoL.cons (fun x w1 w2 _ _ _ hx => hx) ?_
    refine MonoL.cons (fun x w1 w2 _ _ _ hx => hx) ?_
    refine MonoL.cons (fun x w1 w2 _ _ _ hx => hx) ?_
    refine MonoL.cons (fun x w1 w2 _ _ hR hx => ?_) ?_
    · exact hx
    refine MonoL.cons (fun x w1 w2 _ _ hR hx => ?_) ?_
    · exact hx
    refine MonoL.cons (fun x w1 w2 _ _ hR hx => ?_) ?_
    · exact hx
    exact MonoL.nil
  case hsteps =>
    refine StepsT.cons (fun (x : Value) (_ : World) => x = (.pointer (some ⟨w.heap.size, 2, none⟩) : Value)) [] rfl rfl (fun oq hop _ wq hQS => ?_) ?_
    · exact StepFrom.fieldAddr hop (p := (.pointer (some ⟨w.heap.size, 0, none⟩) : Value)) (by kernel_rfl) (dc_field2) (by kernel_rfl) hQS (Below.refl _ _) rfl
    refine StepsT.cons (fun (x : Value) (_ : World) => x = (.agg #[a0, a1, a2, a3, a4] : Value)) [(5, (fun (x : Value) (_ : World) => x = (.pointer (some ⟨w.heap.size, 2, none⟩) : Value)))] rfl rfl (fun oq hop _ wq hQS => ?_) ?_
    · refine StepFrom.more_eq ((.pointer (some ⟨w.heap.size, 2, none⟩) : Value)) ?_
      exact StepFrom.load hop (p := (.pointer (some ⟨w.heap.size, 2, none⟩) : Value)) (by kernel_rfl) (load_tm_at ((hQS.block _ l1).trans x1) rfl rfl rfl rfl rfl) (by kernel_rfl) hQS (Below.refl _ _) rfl
    refine StepsT.cons (fun (x : Value) (_ : World) => x = (.int .i64 1500 : Value)) [] rfl rfl (fun oq hop _ wq hQS => ?_) ?_
    · exact StepFrom.move hop (v := (.int .i64 1500 : Value)) (by kernel_rfl) (by kernel_rfl) hQS (Below.refl _ _) rfl
    refine StepsT.cons (fun (x : Value) (w : World) => ∃ r : Int, x = .int .i64 r) [(6, (fun (x : Value) (_ : World) => x = (.agg #[a0, a1, a2, a3, a4] : Value))), (7, (fun (x : Value) (_ : World) => x = (.int .i64 1500 : Value)))] rfl rfl (fun oq hop _ wq hQS => ?_) ?_
    · refine StepFrom.more_eq ((.agg #[a0, a1, a2, a3, a4] : Value)) ?_
      refine StepFrom.more_eq ((.int .i64 1500 : Value)) ?_
      exact StepFrom.call hop (vs := [(.agg #[a0, a1, a2, a3, a4] : Value), (.int .i64 1500 : Value)]) (by kernel_rfl) (fun w => enter_termOf9 _ w) (by kernel_rfl) ((HT1.out wq hQS).mono fun e w9 h9 => by obtain ⟨s, q1, _, _, q3⟩ := h9; exact ⟨_, q1, hQS.trans (q3.mono hQS.size), q3, _, rfl⟩)
    refine StepsT.cons (fun (x : Value) (w : World) => ∃ r : Int, x = .int .i64 r) [(8, (fun (x : Value) (w : World) => ∃ r : Int, x = .int .i64 r))] rfl rfl (fun oq hop _ wq hQS => ?_) ?_
    · refine StepFrom.more fun x8 h8 => ?_
      obtain ⟨r8, rfl⟩ := h8
      exact StepFrom.bin hop (vx := (.int .i64 1 : Value)) (vy := (.int .i64 r8 : Value)) (by kernel_rfl) (by kernel_rfl) (add_wrap9 _ _ _ _ _) (by kernel_rfl) hQS (Below.refl _ _) (by exact ⟨_, rfl⟩)
    refine StepsT.cons (fun (x : Value) (_ : World) => x = (.pointer (some ⟨w.heap.size, 7, none⟩) : Value)) [] rfl rfl (fun oq hop _ wq hQS => ?_) ?_
    · exact StepFrom.fieldAddr hop (p := (.pointer (some ⟨w.heap.size, 0, none⟩) : Value)) (by kernel_rfl) (dc_field3) (by kernel_rfl) hQS (Below.refl _ _) rfl
    refine StepsT.cons (fun (x : Value) (_ : World) => x = (.agg #[b0, b1, b2, b3, b4] : Value)) [(10, (fun (x : Value) (_ : World) => x = (.pointer (some ⟨w.heap.size, 7, none⟩) : Value)))] rfl rfl (fun oq hop _ wq hQS => ?_) ?_
    · refine StepFrom.more_eq ((.pointer (some ⟨w.heap.size, 7, none⟩) : Value)) ?_
      exact StepFrom.load hop (p := (.pointer (some ⟨w.heap.size, 7, none⟩) : Value)) (by kernel_rfl) (load_tm_at ((hQS.block _ l1).trans x1) rfl rfl rfl rfl rfl) (by kernel_rfl) hQS (Below.refl _ _) rfl
    refine StepsT.cons (fun (x : Value) (_ : World) => x = (.int .i64 1500 : Value)) [] rfl rfl (fun oq hop _ wq hQS => ?_) ?_
    · exact StepFrom.move hop (v := (.int .i64 1500 : Value)) (by kernel_rfl) (by kernel_rfl) hQS (Below.refl _ _) rfl
    refine StepsT.cons (fun (x : Value) (w : World) => ∃ r : Int, x = .int .i64 r) [(11, (fun (x : Value) (_ : World) => x = (.agg #[b0, b1, b2, b3, b4] : Value))), (12, (fun (x : Value) (_ : World) => x = (.int .i64 1500 : Value)))] rfl rfl (fun oq hop _ wq hQS => ?_) ?_
    · refine StepFrom.more_eq ((.agg #[b0, b1, b2, b3, b4] : Value)) ?_
      refine StepFrom.more_eq ((.int .i64 1500 : Value)) ?_
      exact StepFrom.call hop (vs := [(.agg #[b0, b1, b2, b3, b4] : Value), (.int .i64 1500 : Value)]) (by kernel_rfl) (fun w => enter_termOf9 _ w) (by kernel_rfl) ((HT2.out wq hQS).mono fun e w9 h9 => by obtain ⟨s, q1, _, _, q3⟩ := h9; exact ⟨_, q1, hQS.trans (q3.mono hQS.size), q3, _, rfl⟩)
    refine StepsT.cons (fun (x : Value) (w : World) => ∃ r : Int, x = .int .i64 r) [(9, (fun (x : Value) (w : World) => ∃ r : Int, x = .int .i64 r)), (13, (fun (x : Value) (w : World) => ∃ r : Int, x = .int .i64 r))] rfl rfl (fun oq hop _ wq hQS => ?_) ?_
    · refine StepFrom.more fun x9 h9 => ?_
      obtain ⟨r9, rfl⟩ := h9
      refine StepFrom.more fun x13 h13 => ?_
      obtain ⟨r13, rfl⟩ := h13
      exact StepFrom.bin hop (vx := (.int .i64 r9 : Value)) (vy := (.int .i64 r13 : Value)) (by kernel_rfl) (by kernel_rfl) (add_wrap9 _ _ _ _ _) (by kernel_rfl) hQS (Below.refl _ _) (by exact ⟨_, rfl⟩)
    refine StepsT.cons (fun (x : Value) (_ : World) => x = (.pointer (some ⟨w.heap.size, 12, none⟩) : Value)) [] rfl rfl (fun oq hop _ wq hQS => ?_) ?_
    · exact StepFrom.fieldAddr hop (p := (.pointer (some ⟨w.heap.size, 0, none⟩) : Value)) (by kernel_rfl) (dc_field4) (by kernel_rfl) hQS (Below.refl _ _) rfl
    refine StepsT.cons (fun (x : Value) (_ : World) => x = (.slice Ap np cp : Value)) [(15, (fun (x : Value) (_ : World) => x = (.pointer (some ⟨w.heap.size, 12, none⟩) : Value)))] rfl rfl (fun oq hop _ wq hQS => ?_) ?_
    · refine StepFrom.more_eq ((.pointer (some ⟨w.heap.size, 12, none⟩) : Value)) ?_
      exact StepFrom.load hop (p := (.pointer (some ⟨w.heap.size, 12, none⟩) : Value)) (by kernel_rfl) (load_terms (cell_of_row _ _ 12 _ _ (0, 0) ((hQS.block _ l1).trans x1))) (by kernel_rfl) hQS (Below.refl _ _) rfl
    refine StepsT.cons (fun (x : Value) (_ : World) => x = (.int .i64 1500 : Value)) [] rfl rfl (fun oq hop _ wq hQS => ?_) ?_
    · exact StepFrom.move hop (v := (.int .i64 1500 : Value)) (by kernel_rfl) (by kernel_rfl) hQS (Below.refl _ _) rfl
    refine StepsT.cons (fun (x : Value) (w : World) => ∃ r : Int, x = .int .i64 r) [(16, (fun (x : Value) (_ : World) => x = (.slice Ap np cp : Value))), (17, (fun (x : Value) (_ : World) => x = (.int .i64 1500 : Value)))] rfl rfl (fun oq hop _ wq hQS => ?_) ?_
    · refine StepFrom.more_eq ((.slice Ap np cp : Value)) ?_
      refine StepFrom.more_eq ((.int .i64 1500 : Value)) ?_
      exact StepFrom.call hop (vs := [(.slice Ap np cp : Value), (.int .i64 1500 : Value)]) (by kernel_rfl) (fun w => enter_termsOf _ w) (by kernel_rfl) ((HT3.out wq hQS).mono fun e w9 h9 => by obtain ⟨s, q1, _, _, q3⟩ := h9; exact ⟨_, q1, hQS.trans (q3.mono hQS.size), q3, _, rfl⟩)
    refine StepsT.cons (fun (x : Value) (w : World) => ∃ r : Int, x = .int .i64 r) [(14, (fun (x : Value) (w : World) => ∃ r : Int, x = .int .i64 r)), (18, (fun (x : Value) (w : World) => ∃ r : Int, x = .int .i64 r))] rfl rfl (fun oq hop _ wq hQS => ?_) ?_
    · refine StepFrom.more fun x14 h14 => ?_
      obtain ⟨r14, rfl⟩ := h14
      refine StepFrom.more fun x18 h18 => ?_
      obtain ⟨r18, rfl⟩ := h18
      exact StepFrom.bin hop (vx := (.int .i64 r14 : Value)) (vy := (.int .i64 r18 : Value)) (by kernel_rfl) (by kernel_rfl) (add_wrap9 _ _ _ _ _) (by kernel_rfl) hQS (Below.refl _ _) (by exact ⟨_, rfl⟩)
    refine StepsT.cons (fun (x : Value) (_ : World) => x = (.pointer (some ⟨w.heap.size, 13, none⟩) : Value)) [] rfl rfl (fun oq hop _ wq hQS => ?_) ?_
    · exact StepFrom.fieldAddr hop (p := (.pointer (some ⟨w.heap.size, 0, none⟩) : Value)) (by kernel_rfl) (dc_field5) (by kernel_rfl) hQS (Below.refl _ _) rfl
    refine StepsT.cons (fun (x : Value) (_ : World) => x = (.agg #[.slice As nz cz] : Value)) [(20, (fun (x : Value) (_ : World) => x = (.pointer (some ⟨w.heap.size, 13, none⟩) : Value)))] rfl rfl (fun oq hop _ wq hQS => ?_) ?_
    · refine StepFrom.more_eq ((.pointer (some ⟨w.heap.size, 13, none⟩) : Value)) ?_
      exact StepFrom.load hop (p := (.pointer (some ⟨w.heap.size, 13, none⟩) : Value)) (by kernel_rfl) (load_lev_in (cell_of_row _ _ 13 _ _ (0, 0) ((hQS.block _ l1).trans x1))) (by kernel_rfl) hQS (Below.refl _ _) rfl
    refine StepsT.cons (fun (x : Value) (_ : World) => x = (.int .i64 1500 : Value)) [] rfl rfl (fun oq hop _ wq hQS => ?_) ?_
    · exact StepFrom.move hop (v := (.int .i64 1500 : Value)) (by kernel_rfl) (by kernel_rfl) hQS (Below.refl _ _) rfl
    refine StepsT.cons (fun (x : Value) (w : World) => ∃ r : Int, x = .int .i64 r) [(21, (fun (x : Value) (_ : World) => x = (.agg #[.slice As nz cz] : Value))), (22, (fun (x : Value) (_ : World) => x = (.int .i64 1500 : Value)))] rfl rfl (fun oq hop _ wq hQS => ?_) ?_
    · refine StepFrom.more_eq ((.agg #[.slice As nz cz] : Value)) ?_
      refine StepFrom.more_eq ((.int .i64 1500 : Value)) ?_
      exact StepFrom.call hop (vs := [(.agg #[.slice As nz cz] : Value), (.int .i64 1500 : Value)]) (by kernel_rfl) (fun w => enter_levelOf9 _ w) (by kernel_rfl) ((HT4.out wq).mono fun e w9 h9 => by obtain ⟨s, q1, _, _, q3⟩ := h9; exact ⟨_, q1, hQS.trans (q3.mono hQS.size), q3, _, rfl⟩)
    refine StepsT.cons (fun (x : Value) (w : World) => ∃ r : Int, x = .int .i64 r) [(19, (fun (x : Value) (w : World) => ∃ r : Int, x = .int .i64 r)), (23, (fun (x : Value) (w : World) => ∃ r : Int, x = .int .i64 r))] rfl rfl (fun oq hop _ wq hQS => ?_) ?_
    · refine StepFrom.more fun x19 h19 => ?_
      obtain ⟨r19, rfl⟩ := h19
      refine StepFrom.more fun x23 h23 => ?_
      obtain ⟨r23, rfl⟩ := h23
      exact StepFrom.bin hop (vx := (.int .i64 r19 : Value)) (vy := (.int .i64 r23 : Value)) (by kernel_rfl) (by kernel_rfl) (add_wrap9 _ _ _ _ _) (by kernel_rfl) hQS (Below.refl _ _) (by exact ⟨_, rfl⟩)
    refine StepsT.cons (fun (x : Value) (_ : World) => x = (.pointer (some ⟨w.heap.size, 14, none⟩) : Value)) [] rfl rfl (fun oq hop _ wq hQS => ?_) ?_
    · exact StepFrom.fieldAddr hop (p := (.pointer (some ⟨w.heap.size, 0, none⟩) : Value)) (by kernel_rfl) (dc_field6) (by kernel_rfl) hQS (Below.refl _ _) rfl
    refine StepsT.cons (fun (x : Value) (_ : World) => x = (.slice Am nm cm : Value)) [(25, (fun (x : Value) (_ : World) => x = (.pointer (some ⟨w.heap.size, 14, none⟩) : Value)))] rfl rfl (fun oq hop _ wq hQS => ?_) ?_
    · refine StepFrom.more_eq ((.pointer (some ⟨w.heap.size, 14, none⟩) : Value)) ?_
      exact StepFrom.load hop (p := (.pointer (some ⟨w.heap.size, 14, none⟩) : Value)) (by kernel_rfl) (load_mems (cell_of_row _ _ 14 _ _ (0, 0) ((hQS.block _ l1).trans x1))) (by kernel_rfl) hQS (Below.refl _ _) rfl
    refine StepsT.cons (fun (x : Value) (_ : World) => x = (.int .i64 1500 : Value)) [] rfl rfl (fun oq hop _ wq hQS => ?_) ?_
    · exact StepFrom.move hop (v := (.int .i64 1500 : Value)) (by kernel_rfl) (by kernel_rfl) hQS (Below.refl _ _) rfl
    refine StepsT.cons (fun (x : Value) (w : World) => ∃ r : Int, x = .int .i64 r) [(26, (fun (x : Value) (_ : World) => x = (.slice Am nm cm : Value))), (27, (fun (x : Value) (_ : World) => x = (.int .i64 1500 : Value)))] rfl rfl (fun oq hop _ wq hQS => ?_) ?_
    · refine StepFrom.more_eq ((.slice Am nm cm : Value)) ?_
      refine StepFrom.more_eq ((.int .i64 1500 : Value)) ?_
      exact StepFrom.call hop (vs := [(.slice Am nm cm : Value), (.int .i64 1500 : Value)]) (by kernel_rfl) (fun w => enter_membersOf9 _ w) (by kernel_rfl) ((HT5.out wq hQS).mono fun e w9 h9 => by obtain ⟨s, q1, q3⟩ := h9; exact ⟨_, q1, hQS.trans (q3.mono hQS.size), q3, _, rfl⟩)
    refine StepsT.cons (fun (x : Value) (w : World) => ∃ r : Int, x = .int .i64 r) [(24, (fun (x : Value) (w : World) => ∃ r : Int, x = .int .i64 r)), (28, (fun (x : Value) (w : World) => ∃ r : Int, x = .int .i64 r))] rfl rfl (fun oq hop _ wq hQS => ?_) ?_
    · refine StepFrom.more fun x24 h24 => ?_
      obtain ⟨r24, rfl⟩ := h24
      refine StepFrom.more fun x28 h28 => ?_
      obtain ⟨r28, rfl⟩ := h28
      exact StepFrom.bin hop (vx := (.int .i64 r24 : Value)) (vy := (.int .i64 r28 : Value)) (by kernel_rfl) (by kernel_rfl) (add_wrap9 _ _ _ _ _) (by kernel_rfl) hQS (Below.refl _ _) (by exact ⟨_, rfl⟩)
    refine StepsT.cons (fun (x : Value) (_ : World) => x = (.pointer (some ⟨w.heap.size, 15, none⟩) : Value)) [] rfl rfl (fun oq hop _ wq hQS => ?_) ?_
    · exact StepFrom.fieldAddr hop (p := (.pointer (some ⟨w.heap.size, 0, none⟩) : Value)) (by kernel_rfl) (dc_field7) (by kernel_rfl) hQS (Below.refl _ _) rfl
    refine StepsT.cons (fun (x : Value) (_ : World) => x = (.slice Ac nc cc : Value)) [(30, (fun (x : Value) (_ : World) => x = (.pointer (some ⟨w.heap.size, 15, none⟩) : Value)))] rfl rfl (fun oq hop _ wq hQS => ?_) ?_
    · refine StepFrom.more_eq ((.pointer (some ⟨w.heap.size, 15, none⟩) : Value)) ?_
      exact StepFrom.load hop (p := (.pointer (some ⟨w.heap.size, 15, none⟩) : Value)) (by kernel_rfl) (load_ctors (cell_of_row _ _ 15 _ _ (0, 0) ((hQS.block _ l1).trans x1))) (by kernel_rfl) hQS (Below.refl _ _) rfl
    refine StepsT.cons (fun (x : Value) (_ : World) => x = (.int .i64 1500 : Value)) [] rfl rfl (fun oq hop _ wq hQS => ?_) ?_
    · exact StepFrom.move hop (v := (.int .i64 1500 : Value)) (by kernel_rfl) (by kernel_rfl) hQS (Below.refl _ _) rfl
    refine StepsT.cons (fun (x : Value) (w : World) => ∃ r : Int, x = .int .i64 r) [(31, (fun (x : Value) (_ : World) => x = (.slice Ac nc cc : Value))), (32, (fun (x : Value) (_ : World) => x = (.int .i64 1500 : Value)))] rfl rfl (fun oq hop _ wq hQS => ?_) ?_
    · refine StepFrom.more_eq ((.slice Ac nc cc : Value)) ?_
      refine StepFrom.more_eq ((.int .i64 1500 : Value)) ?_
      exact StepFrom.call hop (vs := [(.slice Ac nc cc : Value), (.int .i64 1500 : Value)]) (by kernel_rfl) (fun w => enter_ctorsOf9 _ w) (by kernel_rfl) ((HT6.out wq hQS).mono fun e w9 h9 => by obtain ⟨s, q1, q3⟩ := h9; exact ⟨_, q1, hQS.trans (q3.mono hQS.size), q3, _, rfl⟩)
    refine StepsT.cons (fun (x : Value) (w : World) => ∃ r : Int, x = .int .i64 r) [(29, (fun (x : Value) (w : World) => ∃ r : Int, x = .int .i64 r)), (33, (fun (x : Value) (w : World) => ∃ r : Int, x = .int .i64 r))] rfl rfl (fun oq hop _ wq hQS => ?_) ?_
    · refine StepFrom.more fun x29 h29 => ?_
      obtain ⟨r29, rfl⟩ := h29
      refine StepFrom.more fun x33 h33 => ?_
      obtain ⟨r33, rfl⟩ := h33
      exact StepFrom.bin hop (vx := (.int .i64 r29 : Value)) (vy := (.int .i64 r33 : Value)) (by kernel_rfl) (by kernel_rfl) (add_wrap9 _ _ _ _ _) (by kernel_rfl) hQS (Below.refl _ _) (by exact ⟨_, rfl⟩)
    refine StepsT.cons (fun (x : Value) (w : World) => ∃ r : Int, x = .int .i64 r) [(34, (fun (x : Value) (w : World) => ∃ r : Int, x = .int .i64 r))] rfl rfl (fun oq hop _ wq hQS => ?_) ?_
    · refine StepFrom.more fun x34 h34 => ?_
      obtain ⟨r34, rfl⟩ := h34
      exact StepFrom.assign hop (v := (.int .i64 r34 : Value)) (by kernel_rfl) (by kernel_rfl) hQS (Below.refl _ _) ⟨_, rfl⟩
    exact StepsT.nil
  case hfin =>
    intro wf hFS
    refine FinalFrom.more fun x5 h5 => ?_
    refine FinalFrom.more fun x6 h6 => ?_
    refine FinalFrom.more fun x7 h7 => ?_
    refine FinalFrom.more fun x8 h8 => ?_
    refine FinalFrom.more fun x9 h9 => ?_
    refine FinalFrom.more fun x10 h10 => ?_
    refine FinalFrom.more fun x11 h11 => ?_
    refine FinalFrom.more fun x12 h12 => ?_
    refine FinalFrom.more fun x13 h13 => ?_
    refine FinalFrom.more fun x14 h14 => ?_
    refine FinalFrom.more fun x15 h15 => ?_
    refine FinalFrom.more fun x16 h16 => ?_
    refine FinalFrom.more fun x17 h17 => ?_
    refine FinalFrom.more fun x18 h18 => ?_
    refine FinalFrom.more fun x19 h19 => ?_
    refine FinalFrom.more fun x20 h20 => ?_
    refine FinalFrom.more fun x21 h21 => ?_
    refine FinalFrom.more fun x22 h22 => ?_
    refine FinalFrom.more fun x23 h23 => ?_
    refine FinalFrom.more fun x24 h24 => ?_
    refine FinalFrom.more fun x25 h25 => ?_
    refine FinalFrom.more fun x26 h26 => ?_
    refine FinalFrom.more fun x27 h27 => ?_
    refine FinalFrom.more fun x28 h28 => ?_
    refine FinalFrom.more fun x29 h29 => ?_
    refine FinalFrom.more fun x30 h30 => ?_
    refine FinalFrom.more fun x31 h31 => ?_
    refine FinalFrom.more fun x32 h32 => ?_
    refine FinalFrom.more fun x33 h33 => ?_
    refine FinalFrom.more fun x34 h34 => ?_
    refine FinalFrom.more fun x4 h4 => ?_
    refine FinalFrom.done ?_
    obtain ⟨r, rfl⟩ := h4
    have HF : Hid (SomeInt w (.returned (.int .i64 r)) wf) := ⟨_, rfl, HB1.out.trans (hFS.mono HB1.out.size)⟩
    clear hS hFS
    simp only [Act.put, List.setIfInBounds_toArray, List.set_cons_zero, List.set_cons_succ]
    go_wp2
    go_ret
    exact HF.out
set_option maxRecDepth 100000 in
set_option maxHeartbeats 2000000 in
theorem declsOf_any (ds : List Dc) (A : Option Addr) (c n : Nat) (w : World) (hn : ds.length = n) (hn9 : n ≤ 1048576) (hs : ∀ m ∈ ds, m.ok) (h : Dcs w w.heap.size A c ds) :
    Calls Tryd.prog 18 #[.slice A n c, .int .i64 1500] w (SomeInt w) := by
  have HN := Lib.hid hn
  have HL := Lib.hid h
  have HS := Lib.hid hs
  clear hn h hs
  go_enter Tryd.func18, Tryd.ntmps18
  go_wp2
  go_loopw [5, 6] (fun u i wr => ∃ (k : Nat) (r : Int), k ≤ n ∧ i = .int .i64 (k : Int) ∧ u = .int .i64 r ∧ Below w.heap.size w wr) (fun _ i _ => n - (intOf i).toNat)
  case atStart => exact ⟨0, 0, Nat.zero_le _, rfl, rfl, Below.refl _ _⟩
  case round =>
    obtain ⟨k, r, hk, rfl, rfl, hb⟩ := hrel
    have hbz := hb.size
    have HB := Lib.hid hb
    by_cases hlt : k < n
    · by_cases hu : r ≤ 1500
      · obtain ⟨d, hd⟩ : ∃ d, ds[k]? = some d := ⟨_, List.getElem?_eq_getElem (by rw [HN.out]; exact hlt)⟩
        obtain ⟨b, o, cs, rfl, hbB, hdc, _, hld⟩ := HL.out.get hd
        have hld1 := hld wr hb
        have HC := Lib.hid (declOf_any d cs wr (hdc.below hb hbz) (HS.out d (List.mem_of_getElem? hd)))
        clear hdc hld hd
        have ij0 : (0 : Int) ≤ (k : Int) := by omega
        have ij1 : (k : Int) < (n : Int) := by omega
        clear hb
        go_wp2_with (first | (refine wpList_load_at rfl 43 (.tmp 21) rfl (.pointer (some ⟨b, o + k * 16, none⟩)) _ rfl hld1 ?_) | fail)
        refine HC.out.mono ?_
        rintro e w1 ⟨s, rfl, hb1⟩
        have HB1 : Hid (Below w.heap.size w w1) := HB.out.trans (hb1.mono hbz)
        clear hb1
        go_wp2
        go_roundw
        case rel => exact ⟨k + 1, _, by omega, by go_num, rfl, HB1.out⟩
        case measure => simp [intOf]; omega
      · have hu2 : decide (r ≤ 1500) = false := by simpa using hu
        clear hb hu
        go_wp2
        go_ret
        exact ⟨_, rfl, HB.out⟩
    · clear hb
      go_wp2
      go_ret
      exact ⟨_, rfl, HB.out⟩
end Go.Proofs.YtfgnnbpbbnnnhaaDoor
