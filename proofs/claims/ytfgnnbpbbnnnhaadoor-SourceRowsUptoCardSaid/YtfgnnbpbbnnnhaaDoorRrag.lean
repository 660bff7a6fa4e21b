/- Laws. -/
import Derived.Test.YtfgnnbpbbnnnhaaDoorRraa
import Derived.Test.YtfgnnbpbbnnnhaaDoorRrae
import Derived.Test.YtfgnnbpbbnnnhaaDoorRraf
import Derived.Deep.RegionLaw
import Derived.Deep.AppendLies
import Derived.StillTactics
import Derived.RegionTactic
import Derived.ChangeAlike
namespace Go.Proofs.YtfgnnbpbbnnnhaaDoor
open Go.RowKit Go.Maps
theorem heap_some_lt {w : World} {g : Nat} {o : Obj} (h : w.heap[g]? = some o) : g < w.heap.size := (Array.getElem?_eq_some_iff.1 h).1
section
variable {P : Program} {S : World → Prop} {R : World → World → Prop} {o : Oper} {V : Value → World → Prop} {g : Option (Option Tmp × Bool)} {a : Act} {w w' : World}
end
end Go.Proofs.YtfgnnbpbbnnnhaaDoor
namespace Go.Proofs.YtfgnnbpbbnnnhaaDoor
open Go.RowKit Go.Maps
section
variable {P : Program} {S : World → Prop} {R : World → World → Prop} {o : Oper} {V : Value → World → Prop} {g : Option (Option Tmp × Bool)} {a : Act} {w w' : World}
theorem StepFrom.fieldAddr {x : Operand} {t : TypeId} {i : Nat} (hop : o.op = .fieldAddr t x i) {p v : Value} (hx : a.eval x = p) (hrun : (Instr.fieldAt t p i).run P w = .ok v w) (hg : gOn g a = true) (hS : S w) (hR : R w w)
    (hV : V v w) : StepFrom P S R o V g [] a w :=
  StepFrom.ran (v := v) (by unfold execOp; simp only [hop, hx]; simp only [Sem.run_bind, hrun]; rfl) hg hS hR hV
theorem StepFrom.indexAddr {x y : Operand} {t : TypeId} (hop : o.op = .indexAddr t x y) {p q v : Value} (hx : a.eval x = p) (hy : a.eval y = q) (hrun : (Instr.indexAt t p q).run P w = .ok v w) (hg : gOn g a = true) (hS : S w) (hR : R w w)
    (hV : V v w) : StepFrom P S R o V g [] a w :=
  StepFrom.ran (v := v) (by unfold execOp; simp only [hop, hx, hy]; simp only [Sem.run_bind, hrun]; rfl) hg hS hR hV
theorem StepFrom.build {t : TypeId} {ps : List (Nat × Operand)} (hop : o.op = .build t ps.toArray) {vs : List (Nat × Value)} (hx : ps.map (fun p => (p.1, a.eval p.2)) = vs) {v : Value}
    (hrun : (Instr.build t vs.toArray).run P w = .ok v w) (hg : gOn g a = true) (hS : S w) (hR : R w w) (hV : V v w) : StepFrom P S R o V g [] a w :=
  StepFrom.ran (v := v) (by
    have e : (ps.toArray.map fun x => (x.1, a.eval x.2)) = vs.toArray := by rw [List.map_toArray, hx]
    unfold execOp
    simp only [hop, e]
    simp only [Sem.run_bind, hrun]
    rfl) hg hS hR hV
end
set_option maxRecDepth 100000 in
theorem load_int {b o : Nat} {w : World} {x : Int} (h : w.cell? ⟨b, o, none⟩ = some (.int .i64 x)) : (Instr.loadAt 3 (.pointer (some ⟨b, o, none⟩))).run Tryd.prog w = .ok (.int .i64 x) w := by go_simp
set_option maxRecDepth 100000 in
theorem add_int (x y : Int) (p q : Operand) (w : World) (h : IntKind.i64.wrap (x + y) = x + y) : ((do eqGuard .add 3 p q (.int .i64 x) (.int .i64 y); binOp .add 3 (.int .i64 x) (.int .i64 y) : Sem Value)).run Tryd.prog w = .ok (.int .i64 (x + y)) w := by go_simp
end Go.Proofs.YtfgnnbpbbnnnhaaDoor
namespace Go.Proofs.YtfgnnbpbbnnnhaaDoor
open Go.RowKit Go.Maps
set_option maxRecDepth 100000 in
theorem term_addr {b o n c k : Nat} {w : World} (h0 : (0 : Int) ≤ (k : Int)) (h1 : (k : Int) < (n : Int)) : (Instr.indexAt 25 (.slice (some ⟨b, o, none⟩) n c) (.int .i64 (k : Int))).run Tryd.prog w = .ok (.pointer (some ⟨b, o + k * 5, none⟩)) w := by go_simp
set_option maxRecDepth 100000 in
theorem load_term {b o : Nat} {w : World} {k n a : Int} {Al Ak : Option Addr} {nl cl nk ck : Nat} (h0 : w.cell? ⟨b, o, none⟩ = some (.int .i64 k)) (h1 : w.cell? ⟨b, o + 1, none⟩ = some (.int .i64 n)) (h2 : w.cell? ⟨b, o + 2, none⟩ = some (.int .i64 a)) (h3 : w.cell? ⟨b, o + 3, none⟩ = some (.slice Al nl cl)) (h4 : w.cell? ⟨b, o + 4, none⟩ = some (.slice Ak nk ck)) :
    (Instr.loadAt 27 (.pointer (some ⟨b, o, none⟩))).run Tryd.prog w = .ok (.agg #[.int .i64 k, .int .i64 n, .int .i64 a, .slice Al nl cl, .slice Ak nk ck]) w := by go_simp
end Go.Proofs.YtfgnnbpbbnnnhaaDoor
namespace Go.Proofs.YtfgnnbpbbnnnhaaDoor
open Go.RowKit Go.Maps
/-- TermOf's count of a term, asked for up to M -/
def CountTm (t : Tm) : Prop := t.count ≤ 1048576 → ∀ (M : Nat) (v : Value) (w : World), M ≤ 1048576 → TmAt w w.heap.size t v → Calls Tryd.prog 19 #[v, .int .i64 (M : Int)] w (CountPost w t.count M)
set_option maxRecDepth 100000 in
theorem enter_levelsOf (vs : Array Value) (w : World) : (callFunc 20 vs).run Tryd.prog w = .ok (.enter 20 vs) w := by go_simp
set_option maxRecDepth 100000 in
theorem enter_termsOf (vs : Array Value) (w : World) : (callFunc 31 vs).run Tryd.prog w = .ok (.enter 31 vs) w := by go_simp
set_option maxRecDepth 100000 in
theorem term_field {b o : Nat} {w : World} (i : Nat) (hi : i < 5) : (Instr.fieldAt 27 (.pointer (some ⟨b, o, none⟩)) i).run Tryd.prog w = .ok (.pointer (some ⟨b, o + i, none⟩)) w := by
  match i, hi with
  | 0, _ => go_simp
  | 1, _ => go_simp
  | 2, _ => go_simp
  | 3, _ => go_simp
  | 4, _ => go_simp
set_option maxRecDepth 100000 in
theorem load_levels {b o n c : Nat} {w : World} {A : Option Addr} (h : w.cell? ⟨b, o, none⟩ = some (.slice A n c)) : (Instr.loadAt 24 (.pointer (some ⟨b, o, none⟩))).run Tryd.prog w = .ok (.slice A n c) w := by go_simp
set_option maxRecDepth 100000 in
theorem load_terms {b o n c : Nat} {w : World} {A : Option Addr} (h : w.cell? ⟨b, o, none⟩ = some (.slice A n c)) : (Instr.loadAt 25 (.pointer (some ⟨b, o, none⟩))).run Tryd.prog w = .ok (.slice A n c) w := by go_simp
theorem Five.agg {w : World} {b o : Nat} {c0 c1 c2 c3 c4 : Value} (h : Five w b o (.agg #[c0, c1, c2, c3, c4])) : w.cell? ⟨b, o, none⟩ = some c0 ∧ w.cell? ⟨b, o + 1, none⟩ = some c1 ∧ w.cell? ⟨b, o + 2, none⟩ = some c2 ∧ w.cell? ⟨b, o + 3, none⟩ = some c3 ∧ w.cell? ⟨b, o + 4, none⟩ = some c4 := by
  obtain ⟨d0, d1, d2, d3, d4, ed, f0, f1, f2, f3, f4⟩ := h
  injection ed with ed
  injection ed with ed
  injection ed with e0 ed
  injection ed with e1 ed
  injection ed with e2 ed
  injection ed with e3 ed
  injection ed with e4 _
  subst e0 e1 e2 e3 e4
  exact ⟨f0, f1, f2, f3, f4⟩
/-- a row's term, read out -/
theorem Tms.at {w w' : World} {B : Nat} {A : Option Addr} {c : Nat} {ts : List Tm} (h : Tms w B A c ts) (hw : Below B w w') {k : Nat} {t : Tm} (ht : ts[k]? = some t) :
    ∃ b o k1 n1 a1 A1 p1 c1 A2 p2 c2, A = some ⟨b, o, none⟩ ∧ b < B ∧ TmAt w B t (.agg #[.int .i64 k1, .int .i64 n1, .int .i64 a1, .slice A1 p1 c1, .slice A2 p2 c2]) ∧
      w'.cell? ⟨b, o + k * 5, none⟩ = some (.int .i64 k1) ∧ w'.cell? ⟨b, o + k * 5 + 1, none⟩ = some (.int .i64 n1) ∧ w'.cell? ⟨b, o + k * 5 + 2, none⟩ = some (.int .i64 a1) ∧ w'.cell? ⟨b, o + k * 5 + 3, none⟩ = some (.slice A1 p1 c1) ∧ w'.cell? ⟨b, o + k * 5 + 4, none⟩ = some (.slice A2 p2 c2) := by
  have hk : k < ts.length := (List.getElem?_eq_some_iff.1 ht).1
  obtain ⟨b, o, e, hb, hr⟩ := h.2 (by omega)
  obtain ⟨v, h5, hv⟩ := hr.get k t ht
  obtain ⟨k1, n1, a1, lv, kids⟩ := t
  obtain ⟨A1, c1, A2, c2, rfl, q1, q2, q3⟩ := hv.open
  obtain ⟨f0, f1, f2, f3, f4⟩ := h5.agg
  exact ⟨b, o, k1, n1, a1, A1, _, c1, A2, _, c2, e, hb, hv, (hw.cell (p := ⟨b, _, none⟩) hb).trans f0, (hw.cell (p := ⟨b, _, none⟩) hb).trans f1, (hw.cell (p := ⟨b, _, none⟩) hb).trans f2, (hw.cell (p := ⟨b, _, none⟩) hb).trans f3, (hw.cell (p := ⟨b, _, none⟩) hb).trans f4⟩
set_option maxRecDepth 100000 in
set_option maxHeartbeats 1000000 in
theorem termsOf_of (ts : List Tm) (ih : ∀ t ∈ ts, CountTm t) (A : Option Addr) (c M n : Nat) (w : World) (hn : ts.length = n) (hs : Tm.countL ts ≤ 1048576) (hM : M ≤ 1048576) (h : Tms w w.heap.size A c ts) :
    Calls Tryd.prog 31 #[.slice A n c, .int .i64 (M : Int)] w (CountPost w (Tm.countL ts) M) := by
  have hn9 := Tm.countL_length ts
  have hn8 : n ≤ 1048576 := by omega
  have HL := Lib.hid h
  have HN := Lib.hid hn
  have HS := Lib.hid hs
  have IH := Lib.hid ih
  clear h hn hs hn9 ih
  go_enter Tryd.func31, Tryd.ntmps31
  go_wp2
  go_loopw [5, 6] (fun u i wr => ∃ (k r : Nat), k ≤ n ∧ i = .int .i64 (k : Int) ∧ u = .int .i64 (r : Int) ∧ Below w.heap.size w wr ∧ r ≤ Tm.countL (ts.take k) ∧ (r ≤ M → r = Tm.countL (ts.take k))) (fun _ i _ => n - (intOf i).toNat)
  case atStart => exact ⟨0, 0, Nat.zero_le _, rfl, rfl, Below.refl _ _, by simp, fun _ => by simp [Tm.countL]⟩
  case round =>
    obtain ⟨k, r, hk, rfl, rfl, hb, h1, h2⟩ := hrel
    have hbz := hb.size
    have hle := Tm.countL_le ts k
    have hs9 := HS.out
    have hr9 : r ≤ 1048576 := by omega
    by_cases hlt : k < n
    · by_cases hu : r ≤ M
      · obtain ⟨t, ht⟩ : ∃ t, ts[k]? = some t := ⟨_, List.getElem?_eq_getElem (by rw [HN.out]; exact hlt)⟩
        obtain ⟨b, o, k1, n1, a1, A1, p1, c1, A2, p2, c2, e, hbB, hv, f0, f1, f2, f3, f4⟩ := HL.out.at hb ht
        subst e
        have hct := Tm.countL_take ts k t ht
        have hle1 := Tm.countL_le ts (k + 1)
        have hm := Tm.countL_mem (List.mem_of_getElem? ht)
        have HC := Lib.hid (IH.out t (List.mem_of_getElem? ht) (by omega) (M - r) _ wr (by omega) (hv.below hb hbz))
        have HT := Lib.hid hct
        have H2 := Lib.hid h2
        have HB := Lib.hid hb
        have HCL : Hid (t.count ≤ 1048576) := by show _ ≤ _; omega
        have ws0 : IntKind.i64.wrap ((M : Int) - (r : Int)) = ((M - r : Nat) : Int) := by rw [IntWalk.i64_in _ (by omega)]; omega
        have ij0 : (0 : Int) ≤ (k : Int) := by omega
        have ij1 : (k : Int) < (n : Int) := by omega
        have ij2 : (r : Int) ≤ (M : Int) := by omega
        clear hb hv h2 hct ht hm
        go_wp2_with (fail)
        refine HC.out.mono ?_
        rintro e w1 ⟨s, rfl, hs1, hs2, hb1⟩
        have hcl := HCL.out
        have ws : IntKind.i64.wrap ((r : Int) + (s : Int)) = ((r + s : Nat) : Int) := by rw [IntWalk.i64_in _ (by omega)]; omega
        have HF : Hid (r + s ≤ Tm.countL (ts.take (k + 1)) ∧ (r + s ≤ M → r + s = Tm.countL (ts.take (k + 1)))) := by
          rw [HT.out]
          refine ⟨by omega, fun h => ?_⟩
          have := hs2 (by omega)
          have := H2.out hu
          omega
        have HB1 : Hid (Below w.heap.size w w1) := HB.out.trans (hb1.mono hbz)
        clear hb1 hs2
        go_wp2
        go_roundw
        case rel => exact ⟨k + 1, r + s, by omega, by go_num, rfl, HB1.out, HF.out⟩
        case measure => simp [intOf]; omega
      · have ij2 : ¬ (r : Int) ≤ (M : Int) := by omega
        have HF : Hid (CountPost w (Tm.countL ts) M (.returned (.int .i64 (r : Int))) wr) := ⟨r, rfl, by omega, fun h => absurd h hu, hb⟩
        clear hb h2
        go_wp2
        go_ret
        exact HF.out
    · have hq : ts.take k = ts := List.take_of_length_le (by rw [HN.out]; omega)
      rw [hq] at h1 h2
      have HF : Hid (CountPost w (Tm.countL ts) M (.returned (.int .i64 (r : Int))) wr) := ⟨r, rfl, h1, h2, hb⟩
      clear hb h2 hq
      go_wp2
      go_ret
      exact HF.out
set_option maxRecDepth 100000 in
set_option maxHeartbeats 4000000 in
theorem termOf_of (k1 n1 a1 : Int) (lv : List (List (Int × Int))) (kids : List Tm) (ih : ∀ t ∈ kids, CountTm t) (A1 A2 : Option Addr) (c1 c2 p1 p2 M : Nat) (w : World) (hp1 : lv.length = p1) (hp2 : kids.length = p2) (hc : 1 + lensSum lv + Tm.countL kids ≤ 1048576) (hM : M ≤ 1048576)
    (h1 : Levs w w.heap.size A1 lv) (h2 : Tms w w.heap.size A2 c2 kids) :
    Calls Tryd.prog 19 #[.agg #[.int .i64 k1, .int .i64 n1, .int .i64 a1, .slice A1 p1 c1, .slice A2 p2 c2], .int .i64 (M : Int)] w (CountPost w (1 + lensSum lv + Tm.countL kids) M) := by
  obtain ⟨sl, hsl⟩ : ∃ s, lensSum lv = s := ⟨_, rfl⟩
  obtain ⟨sk, hsk⟩ : ∃ s, Tm.countL kids = s := ⟨_, rfl⟩
  have x1 : (w.alloc (.cells #[.int .i64 k1, .int .i64 n1, .int .i64 a1, .slice A1 p1 c1, .slice A2 p2 c2] 27)).heap[w.heap.size]? = some (.cells #[.int .i64 k1, .int .i64 n1, .int .i64 a1, .slice A1 p1 c1, .slice A2 p2 c2] 27 (0, 0)) := heap_alloc_new w _
  have hb0 : Below w.heap.size w (w.alloc (.cells #[.int .i64 k1, .int .i64 n1, .int .i64 a1, .slice A1 p1 c1, .slice A2 p2 c2] 27)) := (Below.refl _ _).alloc (Nat.le_refl _) _
  have HL : Hid (∀ w', Below w.heap.size w w' → Calls Tryd.prog 20 #[.slice A1 p1 c1, .int .i64 (M : Int)] w' (CountPost w' sl M)) := fun w' hx => by
    rw [← hsl]; exact levelsOf_m A1 lv c1 M p1 w' hp1 (by omega) hM ((h1.below hx).more hx.size)
  have HK : Hid (∀ w', Below w.heap.size w w' → Calls Tryd.prog 31 #[.slice A2 p2 c2, .int .i64 (M : Int)] w' (CountPost w' sk M)) := fun w' hx => by
    rw [← hsk]; exact termsOf_of kids ih A2 c2 M p2 w' hp2 (by omega) hM (h2.below hx hx.size)
  rw [hsl, hsk] at hc ⊢
  have f3 := cell_of_row _ _ 3 _ _ (0, 0) x1
  have f4 := cell_of_row _ _ 4 _ _ (0, 0) x1
  have hb1 : w.heap.size < (w.alloc (.cells #[.int .i64 k1, .int .i64 n1, .int .i64 a1, .slice A1 p1 c1, .slice A2 p2 c2] 27)).heap.size := by simp
  clear x1 h1 h2 hp1 hp2 ih hsl hsk
  have HB0 := Lib.hid hb0
  clear hb0
  go_enter Tryd.func19, Tryd.ntmps19
  go_upto_region 1 with (fail)
  obtain ⟨w1, hw1⟩ : ∃ x, w.alloc (.cells #[.int .i64 k1, .int .i64 n1, .int .i64 a1, .slice A1 p1 c1, .slice A2 p2 c2] 27) = x := ⟨_, rfl⟩
  rw [hw1] at HB0 f3 f4 hb1 ⊢
  clear hw1
  have hS : Below w1.heap.size w1 w1.drew := (Below.refl _ _).drew
  refine wp_region_tab (fun w' => Below w1.heap.size w1 w') (fun w1 w2 : World => Below w1.heap.size w1 w2) [(fun (x : Value) (_ : World) => x = (.pointer (some ⟨w.heap.size, 0 + 3, none⟩) : Value)), (fun (x : Value) (_ : World) => x = (.slice A1 p1 c1 : Value)), (fun (x : Value) (_ : World) => x = (.int .i64 (M : Int) : Value)), (fun (x : Value) (w : World) => ∃ s : Nat, x = .int .i64 (s : Int) ∧ s ≤ sl ∧ (s ≤ M → s = sl)), (fun (x : Value) (w : World) => ∃ s : Nat, x = .int .i64 (s : Int) ∧ s ≤ (1 + sl) ∧ (s ≤ M → s = (1 + sl))), (fun (x : Value) (_ : World) => x = (.pointer (some ⟨w.heap.size, 0 + 4, none⟩) : Value)), (fun (x : Value) (_ : World) => x = (.slice A2 p2 c2 : Value)), (fun (x : Value) (_ : World) => x = (.int .i64 (M : Int) : Value)), (fun (x : Value) (w : World) => ∃ s : Nat, x = .int .i64 (s : Int) ∧ s ≤ sk ∧ (s ≤ M → s = sk)), (fun (x : Value) (w : World) => ∃ s : Nat, x = .int .i64 (s : Int) ∧ s ≤ (1 + sl + sk) ∧ (s ≤ M → s = (1 + sl + sk))), (fun (x : Value) (w : World) => ∃ s : Nat, x = .int .i64 (s : Int) ∧ s ≤ (1 + sl + sk) ∧ (s ≤ M → s = (1 + sl + sk)))] [⟨some 5, .fieldAddr 27 (.tmp 2) 3, none, []⟩, ⟨some 6, .load 24 (.tmp 5), none, [(5, 0)]⟩, ⟨some 7, .move (.tmp 1), none, []⟩, ⟨some 8, .call { callee := .value (.func 20), args := #[.tmp 6, .tmp 7], argTypes := #[24, 3] }, none, [(6, 1), (7, 2)]⟩, ⟨some 9, .binOp .add 3 (.const (.int .i64 1)) (.tmp 8) 3, none, [(8, 3)]⟩, ⟨some 10, .fieldAddr 27 (.tmp 2) 4, none, []⟩, ⟨some 11, .load 25 (.tmp 10), none, [(10, 5)]⟩, ⟨some 12, .move (.tmp 1), none, []⟩, ⟨some 13, .call { callee := .value (.func 31), args := #[.tmp 11, .tmp 12], argTypes := #[25, 3] }, none, [(11, 6), (12, 7)]⟩, ⟨some 14, .binOp .add 3 (.tmp 9) (.tmp 13) 3, none, [(9, 4), (13, 8)]⟩, ⟨some 4, .assign (.tmp 14), none, [(14, 9)]⟩] [some 5, some 6, some 7, some 8, some 9, some 10, some 11, some 12, some 13, some 14, some 4] (by kernel_rfl) (by kernel_rfl) (by kernel_rfl) (by kernel_rfl) (by kernel_rfl) ?hS ?hmono ?hsteps ?hfin
  case hS => exact hS
  case hmono =>
    refine MonoL.cons (fun x w1 w2 _ _ _ hx => hx) ?_
    refine MonoL.cons (fun x w1 w2 _ _ _ hx => hx) ?_
    refine MonoL.cons (fun x w1 w2 _ _ _ hx => hx) ?_
    refine MonoL.cons (fun x w1 w2 _ _ hR hx => ?_) ?_
    · exact hx
    refine MonoL.cons (fun x w1 w2 _ _ hR hx => ?_) ?_
    · exact hx
    refine MonoL.cons (fun x w1 w2 _ _ _ hx => hx) ?_
    refine MonoL.cons (fun x w1 w2 _ _ _ hx => hx) ?_
    refine MonoL.cons (fun x w1 w2 _ _ _ hx => hx) ?_
    refine MonoL.cons (fun x w1 w2 _ _ hR hx => ?_) ?_
    · exact hx
    refine MonoL.cons (fun x w1 w2 _ _ hR hx => ?_) ?_
    · exact hx
    refine MonoL.cons (fun x w1 w2 _ _ hR hx => ?_) ?_
    · exact hx
    exact MonoL.nil
  case hsteps =>
    refine StepsT.cons (fun (x : Value) (_ : World) => x = (.pointer (some ⟨w.heap.size, 0 + 3, none⟩) : Value)) [] rfl rfl (fun oq hop _ wq hQS => ?_) ?_
    · exact StepFrom.fieldAddr hop (p := (.pointer (some ⟨w.heap.size, 0, none⟩) : Value)) (by kernel_rfl) (term_field 3 (by decide)) (by kernel_rfl) hQS (Below.refl _ _) rfl
    refine StepsT.cons (fun (x : Value) (_ : World) => x = (.slice A1 p1 c1 : Value)) [(5, (fun (x : Value) (_ : World) => x = (.pointer (some ⟨w.heap.size, 0 + 3, none⟩) : Value)))] rfl rfl (fun oq hop _ wq hQS => ?_) ?_
    · refine StepFrom.more_eq ((.pointer (some ⟨w.heap.size, 0 + 3, none⟩) : Value)) ?_
      exact StepFrom.load hop (p := (.pointer (some ⟨w.heap.size, 0 + 3, none⟩) : Value)) (by kernel_rfl) (load_levels ((hQS.cell (p := ⟨w.heap.size, 0 + 3, none⟩) hb1).trans f3)) (by kernel_rfl) hQS (Below.refl _ _) rfl
    refine StepsT.cons (fun (x : Value) (_ : World) => x = (.int .i64 (M : Int) : Value)) [] rfl rfl (fun oq hop _ wq hQS => ?_) ?_
    · exact StepFrom.move hop (v := (.int .i64 (M : Int) : Value)) (by kernel_rfl) (by kernel_rfl) hQS (Below.refl _ _) rfl
    refine StepsT.cons (fun (x : Value) (w : World) => ∃ s : Nat, x = .int .i64 (s : Int) ∧ s ≤ sl ∧ (s ≤ M → s = sl)) [(6, (fun (x : Value) (_ : World) => x = (.slice A1 p1 c1 : Value))), (7, (fun (x : Value) (_ : World) => x = (.int .i64 (M : Int) : Value)))] rfl rfl (fun oq hop _ wq hQS => ?_) ?_
    · refine StepFrom.more_eq ((.slice A1 p1 c1 : Value)) ?_
      refine StepFrom.more_eq ((.int .i64 (M : Int) : Value)) ?_
      exact StepFrom.call hop (vs := [(.slice A1 p1 c1 : Value), (.int .i64 (M : Int) : Value)]) (by kernel_rfl) (fun w => enter_levelsOf _ w) (by kernel_rfl) ((HL.out wq (HB0.out.trans (hQS.mono HB0.out.size))).mono fun e w9 h9 => by obtain ⟨s, q1, q2, q3, q4⟩ := h9; exact ⟨_, q1, hQS.trans (q4.mono hQS.size), q4, s, rfl, q2, q3⟩)
    refine StepsT.cons (fun (x : Value) (w : World) => ∃ s : Nat, x = .int .i64 (s : Int) ∧ s ≤ (1 + sl) ∧ (s ≤ M → s = (1 + sl))) [(8, (fun (x : Value) (w : World) => ∃ s : Nat, x = .int .i64 (s : Int) ∧ s ≤ sl ∧ (s ≤ M → s = sl)))] rfl rfl (fun oq hop _ wq hQS => ?_) ?_
    · refine StepFrom.more fun x8 h8 => ?_
      obtain ⟨s8, rfl, hs8, ht8⟩ := h8
      exact StepFrom.bin hop (vx := (.int .i64 1 : Value)) (vy := (.int .i64 (s8 : Int) : Value)) (by kernel_rfl) (by kernel_rfl) (add_int _ _ _ _ _ (IntWalk.i64_in _ (by omega))) (by kernel_rfl) hQS (Below.refl _ _) (by exact ⟨1 + s8, congrArg (Value.int .i64) (by omega), by omega, fun h => by have := ht8 (by omega); omega⟩)
    refine StepsT.cons (fun (x : Value) (_ : World) => x = (.pointer (some ⟨w.heap.size, 0 + 4, none⟩) : Value)) [] rfl rfl (fun oq hop _ wq hQS => ?_) ?_
    · exact StepFrom.fieldAddr hop (p := (.pointer (some ⟨w.heap.size, 0, none⟩) : Value)) (by kernel_rfl) (term_field 4 (by decide)) (by kernel_rfl) hQS (Below.refl _ _) rfl
    refine StepsT.cons (fun (x : Value) (_ : World) => x = (.slice A2 p2 c2 : Value)) [(10, (fun (x : Value) (_ : World) => x = (.pointer (some ⟨w.heap.size, 0 + 4, none⟩) : Value)))] rfl rfl (fun oq hop _ wq hQS => ?_) ?_
    · refine StepFrom.more_eq ((.pointer (some ⟨w.heap.size, 0 + 4, none⟩) : Value)) ?_
      exact StepFrom.load hop (p := (.pointer (some ⟨w.heap.size, 0 + 4, none⟩) : Value)) (by kernel_rfl) (load_terms ((hQS.cell (p := ⟨w.heap.size, 0 + 4, none⟩) hb1).trans f4)) (by kernel_rfl) hQS (Below.refl _ _) rfl
    refine StepsT.cons (fun (x : Value) (_ : World) => x = (.int .i64 (M : Int) : Value)) [] rfl rfl (fun oq hop _ wq hQS => ?_) ?_
    · exact StepFrom.move hop (v := (.int .i64 (M : Int) : Value)) (by kernel_rfl) (by kernel_rfl) hQS (Below.refl _ _) rfl
    refine StepsT.cons (fun (x : Value) (w : World) => ∃ s : Nat, x = .int .i64 (s : Int) ∧ s ≤ sk ∧ (s ≤ M → s = sk)) [(11, (fun (x : Value) (_ : World) => x = (.slice A2 p2 c2 : Value))), (12, (fun (x : Value) (_ : World) => x = (.int .i64 (M : Int) : Value)))] rfl rfl (fun oq hop _ wq hQS => ?_) ?_
    · refine StepFrom.more_eq ((.slice A2 p2 c2 : Value)) ?_
      refine StepFrom.more_eq ((.int .i64 (M : Int) : Value)) ?_
      exact StepFrom.call hop (vs := [(.slice A2 p2 c2 : Value), (.int .i64 (M : Int) : Value)]) (by kernel_rfl) (fun w => enter_termsOf _ w) (by kernel_rfl) ((HK.out wq (HB0.out.trans (hQS.mono HB0.out.size))).mono fun e w9 h9 => by obtain ⟨s, q1, q2, q3, q4⟩ := h9; exact ⟨_, q1, hQS.trans (q4.mono hQS.size), q4, s, rfl, q2, q3⟩)
    refine StepsT.cons (fun (x : Value) (w : World) => ∃ s : Nat, x = .int .i64 (s : Int) ∧ s ≤ (1 + sl + sk) ∧ (s ≤ M → s = (1 + sl + sk))) [(9, (fun (x : Value) (w : World) => ∃ s : Nat, x = .int .i64 (s : Int) ∧ s ≤ (1 + sl) ∧ (s ≤ M → s = (1 + sl)))), (13, (fun (x : Value) (w : World) => ∃ s : Nat, x = .int .i64 (s : Int) ∧ s ≤ sk ∧ (s ≤ M → s = sk)))] rfl rfl (fun oq hop _ wq hQS => ?_) ?_
    · refine StepFrom.more fun x9 h9 => ?_
      obtain ⟨s9, rfl, hs9, ht9⟩ := h9
      refine StepFrom.more fun x13 h13 => ?_
      obtain ⟨s13, rfl, hs13, ht13⟩ := h13
      exact StepFrom.bin hop (vx := (.int .i64 (s9 : Int) : Value)) (vy := (.int .i64 (s13 : Int) : Value)) (by kernel_rfl) (by kernel_rfl) (add_int _ _ _ _ _ (IntWalk.i64_in _ (by omega))) (by kernel_rfl) hQS (Below.refl _ _) (by exact ⟨s9 + s13, congrArg (Value.int .i64) (by omega), by omega, fun h => by have := ht9 (by omega); have := ht13 (by omega); omega⟩)
    refine StepsT.cons (fun (x : Value) (w : World) => ∃ s : Nat, x = .int .i64 (s : Int) ∧ s ≤ (1 + sl + sk) ∧ (s ≤ M → s = (1 + sl + sk))) [(14, (fun (x : Value) (w : World) => ∃ s : Nat, x = .int .i64 (s : Int) ∧ s ≤ (1 + sl + sk) ∧ (s ≤ M → s = (1 + sl + sk))))] rfl rfl (fun oq hop _ wq hQS => ?_) ?_
    · refine StepFrom.more fun x14 h14 => ?_
      obtain ⟨s14, rfl, hs14, ht14⟩ := h14
      exact StepFrom.assign hop (v := (.int .i64 (s14 : Int) : Value)) (by kernel_rfl) (by kernel_rfl) hQS (Below.refl _ _) ⟨s14, rfl, hs14, ht14⟩
    exact StepsT.nil
  case hfin =>
    intro wf hFS
    refine FinalFrom.more fun x5 h5 => ?_
    refine FinalFrom.more fun x6 h6 => ?_
    refine FinalFrom.more fun x7 h7 => ?_
    refine FinalFrom.more fun x8 h8 => ?_
    refine FinalFrom.more fun x9 h9 => ?_
    refine FinalFrom.more fun x10 h10 => ?_
    refine FinalFrom.more fun x11 h11 => ?_
    refine FinalFrom.more fun x12 h12 => ?_
    refine FinalFrom.more fun x13 h13 => ?_
    refine FinalFrom.more fun x14 h14 => ?_
    refine FinalFrom.more fun x4 h4 => ?_
    refine FinalFrom.done ?_
    obtain ⟨s4, rfl, q1, q2⟩ := h4
    have HF : Hid (CountPost w (1 + sl + sk) M (.returned (.int .i64 (s4 : Int))) wf) := ⟨s4, rfl, q1, q2, HB0.out.trans (hFS.mono HB0.out.size)⟩
    clear hS hFS f3 f4 q1 q2
    simp only [Act.put, List.setIfInBounds_toArray, List.set_cons_zero, List.set_cons_succ]
    go_wp2
    go_ret
    exact HF.out
/-- TermOf counts a term's nodes, levels and parts, up to a bound. -/
theorem termOf_any : ∀ t : Tm, CountTm t := by
  intro t
  induction t using Tm.ind with
  | h k n a lv kids ih =>
    intro hc M v w hM h
    obtain ⟨A1, c1, A2, c2, rfl, _, h1, h2⟩ := h.open
    rw [Tm.count_mk] at hc ⊢
    exact termOf_of k n a lv kids ih A1 A2 c1 c2 _ _ M w rfl rfl hc hM h1 h2
/-- TermsOf counts a row of terms, up to a bound. -/
theorem termsOf_any (ts : List Tm) (A : Option Addr) (c M n : Nat) (w : World) (hn : ts.length = n) (hs : Tm.countL ts ≤ 1048576) (hM : M ≤ 1048576) (h : Tms w w.heap.size A c ts) :
    Calls Tryd.prog 31 #[.slice A n c, .int .i64 (M : Int)] w (CountPost w (Tm.countL ts) M) := termsOf_of ts (fun t _ => termOf_any t) A c M n w hn hs hM h
end Go.Proofs.YtfgnnbpbbnnnhaaDoor
namespace Go.Proofs.YtfgnnbpbbnnnhaaDoor
open Go.RowKit Go.Maps
mutual
/-- a term's nodes -/
def Tm.size : Tm → Nat
  | .mk _ _ _ _ kids => 1 + Tm.sizeL kids
def Tm.sizeL : List Tm → Nat
  | [] => 0
  | t :: ts => t.size + Tm.sizeL ts
end
theorem Tm.size_mk (k n a : Int) (lv : List (List (Int × Int))) (kids : List Tm) : (Tm.mk k n a lv kids).size = 1 + Tm.sizeL kids := by rw [Tm.size]
theorem Tm.sizeL_take : ∀ (ts : List Tm) (i : Nat) (t : Tm), ts[i]? = some t → Tm.sizeL (ts.take (i + 1)) = Tm.sizeL (ts.take i) + t.size
  | [], i, t, h => by simp at h
  | s :: ts, 0, t, h => by
    injection h with h
    subst h
    simp [Tm.sizeL]
  | s :: ts, i + 1, t, h => by
    have := Tm.sizeL_take ts i t (by simpa using h)
    rw [List.take_succ_cons, List.take_succ_cons]
    simp only [Tm.sizeL, this]
    omega
theorem Tm.sizeL_le : ∀ (ts : List Tm) (k : Nat), Tm.sizeL (ts.take k) ≤ Tm.sizeL ts
  | [], k => by simp
  | t :: ts, 0 => by simp [Tm.sizeL]
  | t :: ts, k + 1 => by
    have := Tm.sizeL_le ts k
    rw [List.take_succ_cons]
    simp only [Tm.sizeL]
    omega
theorem Tm.sizeL_mem {ts : List Tm} {t : Tm} (h : t ∈ ts) : t.size ≤ Tm.sizeL ts := by
  obtain ⟨i, hi⟩ := List.getElem?_of_mem h
  have h1 := Tm.sizeL_take ts i t hi
  have h2 := Tm.sizeL_le ts (i + 1)
  omega
theorem Tm.sizeL_length : ∀ ts : List Tm, ts.length ≤ Tm.sizeL ts
  | [] => by simp
  | .mk k n a lv kids :: ts => by
    have := Tm.sizeL_length ts
    simp only [Tm.sizeL, Tm.size_mk, List.length_cons]
    omega
end Go.Proofs.YtfgnnbpbbnnnhaaDoor
namespace Go.Proofs.YtfgnnbpbbnnnhaaDoor
open Go.RowKit Go.Maps
def RightAt (ps : List (Int × Int)) (n : Int) (i : Nat) : Prop :=
  0 ≤ (ps.getD i (0, 0)).1 ∧ (ps.getD i (0, 0)).1 ≤ n ∧ 0 ≤ (ps.getD i (0, 0)).2 ∧ (ps.getD i (0, 0)).2 ≤ 1000 ∧ (0 < i → (ps.getD (i - 1) (0, 0)).1 < (ps.getD i (0, 0)).1)
def RightS (ps : List (Int × Int)) (n : Int) : Prop := ps.length ≤ 9 ∧ ∀ i, i < ps.length → RightAt ps n i
theorem right_snoc {ps : List (Int × Int)} {n : Int} {k : Nat} (h : ∀ i, i < k → RightAt ps n i) (hk : RightAt ps n k) : ∀ i, i < k + 1 → RightAt ps n i := fun i hi => by
  rcases Nat.lt_succ_iff_lt_or_eq.1 hi with hi | rfl
  · exact h i hi
  · exact hk
set_option maxRecDepth 100000 in
set_option maxHeartbeats 4000000 in
theorem right_any (A : Option Addr) (ps : List (Int × Int)) (c : Nat) (n : Int) (w : World) (hm : ps.length ≤ maxLen) (h : Lev w w.heap.size A ps) (r : Bool) (hr : r = true ↔ RightS ps n) :
    Calls Tryd.prog 70 #[.agg #[.slice A ps.length c], .int .i64 n] w (HasPost w r) := by
  unfold maxLen at hm
  have HB0 := Lib.hid ((Below.refl w.heap.size w).alloc (Nat.le_refl _) (.cells #[.slice A ps.length c] 39))
  have HR := Lib.hid hr
  have HL := Lib.hid h
  obtain ⟨len, hlen⟩ : ∃ len, ps.length = len := ⟨_, rfl⟩
  have HLN := Lib.hid hlen
  rw [hlen] at HB0 hm ⊢
  have X0 := Lib.hid (heap_alloc_new w (.cells #[.slice A len c] 39))
  clear h hr hlen
  go_enter Tryd.func70, Tryd.ntmps70
  by_cases h9 : (9 : Int) < (len : Int)
  · have HF : Hid (HasPost w r (.returned (.bool false)) (w.alloc (.cells #[.slice A len c] 39))) := ⟨by
      have : r = false := by
        rcases r with _ | _
        · rfl
        · have := (HR.out.1 rfl).1
          have := HLN.out
          omega
      rw [this], HB0.out⟩
    go_wp2
    go_ret
    exact HF.out
  · have d9 : decide ((9 : Int) < (len : Int)) = false := by simpa using h9
    go_wp2
    go_loopw [14] (fun i wr => ∃ k : Nat, k ≤ len ∧ i = .int .i64 k ∧ Below (w.heap.size + 1) (w.alloc (.cells #[.slice A len c] 39)) wr ∧ ∀ j, j < k → RightAt ps n j) (fun i _ => len - (intOf i).toNat)
    case atStart => exact ⟨0, Nat.zero_le _, rfl, Below.refl _ _, fun j hj => absurd hj (by omega)⟩
    case round =>
      obtain ⟨k, hk, rfl, hb, hs⟩ := hrel
      have hbz := hb.size
      simp at hbz
      have hB : Below w.heap.size w wr := HB0.out.trans (hb.mono (by omega))
      have e0 : wr.heap[w.heap.size]? = some (.cells #[.slice A len c] 39 (0, 0)) := (hb.block _ (by omega)).trans X0.out
      have f0 := cell_of_one e0
      by_cases hlt : k < len
      · obtain ⟨b, o, rfl, hbB, hcell⟩ := HL.out (by have := HLN.out; omega)
        have c0 := (hB.cell hbB).trans (hcell k (by have := HLN.out; omega)).1
        have c1 := (hB.cell hbB).trans (hcell k (by have := HLN.out; omega)).2
        obtain ⟨x, hx⟩ : ∃ x, x = (ps.getD k (0, 0)).1 := ⟨_, rfl⟩
        obtain ⟨y, hy⟩ : ∃ y, y = (ps.getD k (0, 0)).2 := ⟨_, rfl⟩
        rw [← hx] at c0
        rw [← hy] at c1
        have HB := Lib.hid hb
        have ij0 : (0 : Int) ≤ (k : Int) := by omega
        have ij1 : (k : Int) < (len : Int) := by omega
        have hbw : b < wr.heap.size := by omega
        have hww : w.heap.size < wr.heap.size := by omega
        have HN : ∀ m, ¬ RightAt ps n k → Hid (HasPost w r (.returned (.bool false)) ((wr.alloc (.cells #[.int .i64 x, .int .i64 y] 91)).drewN m)) := fun m hn => ⟨by
          have : r = false := by
            rcases r with _ | _
            · rfl
            · exact absurd ((HR.out.1 rfl).2 k (by have := HLN.out; omega)) hn
          rw [this], below_drewN (hB.alloc (by omega) _) _⟩
        have HY : RightAt ps n k → Hid (∀ j, j < k + 1 → RightAt ps n j) := fun hy => right_snoc hs hy
        have HAT : Hid (RightAt ps n k ↔ 0 ≤ x ∧ x ≤ n ∧ 0 ≤ y ∧ y ≤ 1000 ∧ (0 < k → (ps.getD (k - 1) (0, 0)).1 < x)) := by
          unfold Hid RightAt
          rw [← hx, ← hy]
        have HPV : Hid (0 < k → wr.cell? ⟨b, o + (k - 1) * 2, none⟩ = some (.int .i64 (ps.getD (k - 1) (0, 0)).1)) := fun _ => (hB.cell hbB).trans (hcell (k - 1) (by have := HLN.out; omega)).1
        obtain ⟨pv, hpv⟩ : ∃ pv, pv = (ps.getD (k - 1) (0, 0)).1 := ⟨_, rfl⟩
        rw [← hpv] at HAT HPV
        have hn2 := two_new wr (.int .i64 x) (.int .i64 y) 91
        clear hs hx hy hcell hb hB e0 hpv
        by_cases t1 : x < 0
        · have HF := fun m => HN m (fun h => by have := HAT.out.1 h; omega)
          clear HN HY HAT HPV
          go_wp2
          go_ret
          exact (HF 0).out
        · have d1 : decide (x < 0) = false := by simpa using t1
          by_cases t2 : n < x
          · have HF := fun m => HN m (fun h => by have := HAT.out.1 h; omega)
            clear HN HY HAT HPV
            go_wp2
            go_ret
            exact (HF 0).out
          · have d2 : decide (n < x) = false := by simpa using t2
            by_cases t3 : y < 0
            · have HF := fun m => HN m (fun h => by have := HAT.out.1 h; omega)
              clear HN HY HAT HPV
              go_wp2
              go_ret
              exact (HF 0).out
            · have d3 : decide (y < 0) = false := by simpa using t3
              by_cases t4 : 1000 < y
              · have HF := fun m => HN m (fun h => by have := HAT.out.1 h; omega)
                clear HN HY HAT HPV
                go_wp2
                go_ret
                exact (HF 0).out
              · have d4 : decide (1000 < y) = false := by simpa using t4
                by_cases t5 : 0 < k
                · obtain ⟨j, rfl⟩ : ∃ j, k = j + 1 := ⟨k - 1, by omega⟩
                  have cp := HPV.out (by omega)
                  simp only [Nat.add_sub_cancel] at cp
                  have ij2 : (0 : Int) ≤ (j : Int) := by omega
                  have ij3 : (j : Int) < (len : Int) := by omega
                  have ij4 : (0 : Int) < ((j : Int) + 1) := by omega
                  by_cases t6 : x ≤ pv
                  · have HF := fun m => HN m (fun h => by have := (HAT.out.1 h).2.2.2.2 (by omega); omega)
                    clear HN HY HAT HPV
                    go_wp2_with (fail)
                    go_quiet (fail)
                    go_wp2
                    go_ret
                    exact (HF _).out
                  · have d6 : decide (x ≤ pv) = false := by simpa using t6
                    have HF := HY (HAT.out.2 ⟨by omega, by omega, by omega, by omega, fun _ => by omega⟩)
                    clear HN HY HAT HPV
                    go_wp2_with (fail)
                    go_quiet (fail)
                    go_wp2
                    go_roundw
                    case rel => exact ⟨j + 1 + 1, by omega, by go_num, below_drewN (HB.out.alloc (by omega) _) _, HF.out⟩
                    case measure => simp [intOf]; omega
                · obtain rfl : k = 0 := by omega
                  simp only [Nat.zero_mul, Nat.add_zero] at c0 c1
                  have HF := HY (HAT.out.2 ⟨by omega, by omega, by omega, by omega, fun _ => by omega⟩)
                  clear HN HY HAT HPV
                  go_wp2_with (fail)
                  go_quiet (fail)
                  go_wp2
                  go_roundw
                  case rel => exact ⟨0 + 1, by omega, by go_num, below_drewN (HB.out.alloc (by omega) _) _, HF.out⟩
                  case measure => simp [intOf]; omega
      · obtain rfl : k = len := by omega
        have HF : Hid (HasPost w r (.returned (.bool true)) wr) := ⟨by
          have : r = true := HR.out.2 ⟨by have := HLN.out; omega, fun i hi => hs i (by have := HLN.out; omega)⟩
          rw [this], hB⟩
        clear hs hb hB e0
        go_wp2
        go_ret
        exact HF.out
end Go.Proofs.YtfgnnbpbbnnnhaaDoor
namespace Go.Proofs.YtfgnnbpbbnnnhaaDoor
open Go.RowKit Go.Maps
/-- an error is thrown -/
def ThrowPost (w : World) (k : Int) (e : Ending) (w' : World) : Prop := e = .panicked [{ v := .iface 112 (.int .i64 k), recovered := false }] ∧ Below w.heap.size w w'
/-- it ends as it should, or throws an error -/
def MustPost (w : World) (k : Int) (b : Bool) (e : Ending) (w' : World) : Prop := (b = true → e = .returned (.tuple #[]) ∧ Below w.heap.size w w') ∧ (b = false → ThrowPost w k e w')
theorem MustPost.yes {w w' : World} {k : Int} {e : Ending} (h1 : e = .returned (.tuple #[])) (h2 : Below w.heap.size w w') : MustPost w k true e w' := ⟨fun _ => ⟨h1, h2⟩, fun h => (by cases h)⟩
theorem MustPost.no {w w' : World} {k : Int} {e : Ending} (h : ThrowPost w k e w') : MustPost w k false e w' := ⟨fun h => (by cases h), fun _ => h⟩
theorem MustPost.from {w0 w w' : World} {k : Int} {b : Bool} {e : Ending} (h : MustPost w k b e w') (hb : Below w0.heap.size w0 w) : MustPost w0 k b e w' :=
  ⟨fun q => ⟨(h.1 q).1, hb.trans ((h.1 q).2.mono hb.size)⟩, fun q => ⟨(h.2 q).1, hb.trans ((h.2 q).2.mono hb.size)⟩⟩
/-- a row of truths -/
def Bools (w : World) (A : Option Addr) (bs : List Bool) : Prop := 0 < bs.length → ∃ b o, A = some ⟨b, o, none⟩ ∧ b < w.heap.size ∧ ∀ i, i < bs.length → w.cell? ⟨b, o + i, none⟩ = some (.bool (bs.getD i true))
set_option maxRecDepth 100000 in
set_option maxHeartbeats 1000000 in
theorem mustT_any (k : Int) (bs : List Bool) (A : Option Addr) (n c : Nat) (w : World) (hn : bs.length = n) (hm : n ≤ 1048576) (h : Bools w A bs) :
    Calls Tryd.prog 69 #[.int .i64 k, .slice A n c] w (MustPost w k (bs.all id)) := by
  have HN := Lib.hid hn
  have HB := Lib.hid h
  clear hn h
  go_enter Tryd.func69, Tryd.ntmps69
  go_wp2
  go_loopw [8] (fun i wr => ∃ j : Nat, j ≤ n ∧ i = .int .i64 j ∧ wr = w ∧ ∀ m, m < j → bs.getD m true = true) (fun i _ => n - (intOf i).toNat)
  case atStart => exact ⟨0, Nat.zero_le _, rfl, rfl, fun m hm => absurd hm (by omega)⟩
  case round =>
    obtain ⟨j, hj, rfl, rfl, hall⟩ := hrel
    by_cases hlt : j < n
    · obtain ⟨b, o, rfl, hb, hc⟩ := HB.out (by have := HN.out; omega)
      have c0 := hc j (by have := HN.out; omega)
      obtain ⟨x, hx⟩ : ∃ x, bs.getD j true = x := ⟨_, rfl⟩
      rw [hx] at c0
      have HX := Lib.hid hx
      clear hc hx
      cases x with
      | true =>
        have HF : Hid (∀ m, m < j + 1 → bs.getD m true = true) := fun m hm => by
          rcases Nat.lt_succ_iff_lt_or_eq.1 hm with hm | rfl
          · exact hall m hm
          · exact HX.out
        clear hall
        go_wp2
        go_roundw
        case rel => exact ⟨j + 1, by omega, by go_num, (by trivial), HF.out⟩
        case measure => simp [intOf]; omega
      | false =>
        have HF : Hid (bs.all id = false) := by
          cases e : bs.all id with
          | false => exact rfl
          | true =>
            have hlen := HN.out
            have h1 := List.all_eq_true.1 e bs[j] (List.getElem_mem (by omega))
            have h2 := HX.out
            rw [List.getD_eq_getElem?_getD, List.getElem?_eq_getElem (by omega : j < bs.length)] at h2
            have h2 : bs[j] = false := h2
            rw [h2] at h1
            exact absurd h1 (by decide)
        clear hall
        go_wp2
        refine ⟨rfl, ?_⟩
        rw [HF.out]
        exact MustPost.no ⟨rfl, Below.refl _ _⟩
    · obtain rfl : j = n := by omega
      have HF : Hid (bs.all id = true) := List.all_eq_true.2 fun x hx => by
        obtain ⟨i, hi, rfl⟩ := List.getElem_of_mem hx
        have := hall i (by have := HN.out; omega)
        rwa [List.getD_eq_getElem?_getD, List.getElem?_eq_getElem hi] at this
      clear hall
      go_wp2
      go_end0
      rw [HF.out]
      exact MustPost.yes rfl (Below.refl _ _)
theorem bools_one (w : World) (b : Bool) : Bools (w.alloc (.cells #[.bool b] 4)) (some ⟨w.heap.size, 0, none⟩) [b] := fun _ => ⟨w.heap.size, 0, rfl, by simp, fun i hi => by
  have hi : i = 0 := by simp at hi; exact hi
  subst hi
  exact cell_of_one (heap_alloc_new w (.cells #[.bool b] 4))⟩
set_option maxRecDepth 100000 in
theorem thrown_any (k o : Int) (w : World) : Calls Tryd.prog 89 #[.iface 112 (.int .i64 k), .int .i64 o] w (fun e w' => e = .returned (.int .i64 k) ∧ w' = w) := by
  have hta : ∀ w, (Instr.typeAssert (.iface 112 (.int .i64 k)) 20 112 true).run Tryd.prog w = .ok (.tuple #[.int .i64 k, .bool true]) w := fun _ => by kernel_rfl
  go_enter Tryd.func89, Tryd.ntmps89
  go_wp2
  go_ret
  exact ⟨rfl, rfl⟩
set_option maxRecDepth 100000 in
theorem told_idle (p : Array Value) (hp : p.size = 3) (w : World) :
    CallsD Tryd.prog 88 p .returning w fun e u' w' => e = .returned (.tuple #[]) ∧ u' = .returning ∧ w' = w := by
  obtain ⟨p0, p1, p2, rfl⟩ : ∃ p0 p1 p2, p = #[p0, p1, p2] := by
    obtain ⟨l⟩ := p
    match l, hp with
    | [a, b, c], _ => exact ⟨a, b, c, rfl⟩
  refine callsD_of_wpS Tryd.func88 rfl fun c₀ cs hu => ?_
  apply wpS_seq
  apply wpS_region
  simp [wpOpsS, go_sem, recoverD, hu, Tryd.ntmps88, Exit.thenS]
  apply wpS_seq
  apply wpS_region
  simp [wpOpsS, go_sem, Exit.thenS]
  refine wpS_cond (t := false) (by simp [Act.eval, Array.replicate]) ?_
  simp only [Bool.false_eq_true, if_false]
  refine wpS_of_wp (wp_skip ?_)
  cases c₀
  simp_all [bodyPostS, results, Tryd.results88]
set_option maxRecDepth 100000 in
set_option maxHeartbeats 1000000 in
theorem told_catch (g0 g1 g2 : Nat) (k o : Int) (x y : Value) (older : List PanicEntry) (w : World) (h0 : w.cell? ⟨g0, 0, none⟩ = some (.int .i64 o)) (h1 : w.cell? ⟨g1, 0, none⟩ = some x) (h2 : w.cell? ⟨g2, 0, none⟩ = some y) (z1 : w.frozen? ⟨g1, 0, none⟩ = false) (z2 : w.frozen? ⟨g2, 0, none⟩ = false) (hne : g1 ≠ g2) :
    CallsD Tryd.prog 88 #[.pointer (some ⟨g0, 0, none⟩), .pointer (some ⟨g1, 0, none⟩), .pointer (some ⟨g2, 0, none⟩)] (.panicking ({ v := .iface 112 (.int .i64 k), recovered := false } :: older)) w fun e u' w' =>
      e = .returned (.tuple #[]) ∧ u' = .panicking ({ v := .iface 112 (.int .i64 k), recovered := true } :: older) ∧ w' = (w.setCell ⟨g1, 0, none⟩ (.int .i64 0)).setCell ⟨g2, 0, none⟩ (.int .i64 k) := by
  have hta : ∀ w, (Instr.typeAssert (.iface 112 (.int .i64 k)) 20 112 true).run Tryd.prog w = .ok (.tuple #[.int .i64 k, .bool true]) w := fun _ => by kernel_rfl
  refine callsD_of_wpS Tryd.func88 rfl fun c₀ cs hu => ?_
  apply wpS_seq
  apply wpS_region
  simp [wpOpsS, go_sem, recoverD, hu, Tryd.ntmps88, Exit.thenS]
  apply wpS_seq
  apply wpS_region
  simp [wpOpsS, go_sem, Exit.thenS]
  refine wpS_cond (t := true) (by simp [Act.eval, Array.replicate]) ?_
  simp only [if_true]
  refine wpS_of_wp ?_
  simp only [Array.replicate, List.replicate, List.append_toArray, List.setIfInBounds_toArray, List.set]
  go_wp2_with (fail)
  refine (thrown_any k o w).mono ?_
  rintro e w2 ⟨rfl, rfl⟩
  have e2 : (w2.setCell ⟨g1, 0, none⟩ (.int .i64 0)).cell? ⟨g2, 0, none⟩ = some y := (World.cell?_setCell_other _ _ _ _ (by intro e; exact hne (congrArg (fun a : Addr => a.block) e))).trans h2
  have z3 : (w2.setCell ⟨g1, 0, none⟩ (.int .i64 0)).frozen? ⟨g2, 0, none⟩ = false := by rw [World.frozen?_setCell]; exact z2
  go_wp2
  cases c₀
  simp_all [bodyPostS, results, Tryd.results88]
/-- told 0, or an error is thrown -/
def ZeroPost (w : World) (k : Int) (b : Bool) (e : Ending) (w' : World) : Prop := (b = true → e = .returned (.int .i64 0) ∧ Below w.heap.size w w') ∧ (b = false → ThrowPost w k e w')
set_option maxRecDepth 100000 in
set_option maxHeartbeats 1000000 in
theorem holds1_any (g fid : Nat) (caps : Array Value) (k : Int) (b : Bool) (w : World) (hg : w.cell? ⟨g, 0, none⟩ = some (.func (.func fid) #[] caps)) (hcall : ∀ vs w, (callFunc fid vs).run Tryd.prog w = .ok (.enter fid vs) w) (hA : Calls Tryd.prog fid caps w (MustPost w k b)) :
    Calls Tryd.prog 64 #[.pointer (some ⟨g, 0, none⟩)] w (ZeroPost w k b) := by
  have HA := Lib.hid hA
  clear hA
  go_enter Tryd.func64, Tryd.ntmps64
  go_wp2_with (fail)
  refine HA.out.mono ?_
  rintro e w2 h
  cases b with
  | true =>
    obtain ⟨rfl, hb⟩ := h.1 rfl
    have HB := Lib.hid hb
    clear h hb HA
    go_wp2
    go_ret
    exact ⟨fun _ => ⟨rfl, HB.out⟩, fun h => (by cases h)⟩
  | false =>
    obtain ⟨rfl, hb⟩ := h.2 rfl
    have HB := Lib.hid hb
    clear h hb HA
    go_wp2
    exact ⟨rfl, fun h => (by cases h), fun _ => ⟨rfl, HB.out⟩⟩
/-- told a number and no error, or nothing and the error -/
def ToldPost (w : World) (k : Int) (b : Bool) (e : Ending) (w' : World) : Prop := e = .returned (.tuple #[.int .i64 0, .int .i64 (if b then 0 else k)]) ∧ Below w.heap.size w w'
set_option maxRecDepth 100000 in
set_option maxHeartbeats 2000000 in
theorem told_any (g : Nat) (o k : Int) (b : Bool) (w : World) (hA : ∀ w', Below w.heap.size w w' → Calls Tryd.prog 64 #[.pointer (some ⟨g, 0, none⟩)] w' (ZeroPost w' k b)) :
    Calls Tryd.prog 63 #[.int .i64 o, .func (.func 64) #[] #[.pointer (some ⟨g, 0, none⟩)]] w (ToldPost w k b) := by
  obtain ⟨w1, hw1⟩ : ∃ x, ((w.alloc (.cells #[.int .i64 o] 112)).alloc (.cells #[.int .i64 0] 3)).alloc (.cells #[.int .i64 0] 112) = x := ⟨_, rfl⟩
  have hb1 : Below w.heap.size w w1 := by rw [← hw1]; exact (((Below.refl _ _).alloc (Nat.le_refl _) _).alloc (by simp) _).alloc (by simp; omega) _
  have hs1 : w1.heap.size = w.heap.size + 3 := by rw [← hw1]; simp
  obtain ⟨z1, z2, _⟩ := two_allocs w (.cells #[.int .i64 o] 112) (.cells #[.int .i64 0] 3)
  have x0 : w1.heap[w.heap.size]? = some (.cells #[.int .i64 o] 112 (0, 0)) := by rw [← hw1, Below.heap_alloc _ _ _ (by simp; omega)]; exact z1
  have x1 : w1.heap[w.heap.size + 1]? = some (.cells #[.int .i64 0] 3 (0, 0)) := by rw [← hw1, Below.heap_alloc _ _ _ (by simp)]; exact z2
  have x2 : w1.heap[w.heap.size + 1 + 1]? = some (.cells #[.int .i64 0] 112 (0, 0)) := by
    rw [← hw1]
    have := heap_alloc_new ((w.alloc (.cells #[.int .i64 o] 112)).alloc (.cells #[.int .i64 0] 3)) (.cells #[.int .i64 0] 112)
    simpa using this
  have HA := Lib.hid (hA w1 hb1)
  have X0 := Lib.hid x0
  have X1 := Lib.hid x1
  have X2 := Lib.hid x2
  have HB1 := Lib.hid hb1
  have HS1 := Lib.hid hs1
  have hmf : ∀ (W : World), (Instr.makeFunc (.func 88) #[] #[.pointer (some ⟨w.heap.size, 0, none⟩), .pointer (some ⟨w.heap.size + 1, 0, none⟩), .pointer (some ⟨w.heap.size + 1 + 1, 0, none⟩)]).run Tryd.prog W = .ok (.func (.func 88) #[] #[.pointer (some ⟨w.heap.size, 0, none⟩), .pointer (some ⟨w.heap.size + 1, 0, none⟩), .pointer (some ⟨w.heap.size + 1 + 1, 0, none⟩)]) W := fun _ => rfl
  clear hA hb1 hs1 z1 z2 x0 x1 x2
  go_enter_defers Tryd.func63, Tryd.ntmps63
  go_wp2_with (fail)
  refine HA.out.mono ?_
  rintro e w2 h
  have hlt : w2.heap.size ≥ w1.heap.size ∧ Below w1.heap.size w1 w2 := by
    cases b with
    | true => have := (h.1 rfl).2; exact ⟨this.size, this⟩
    | false => have := (h.2 rfl).2; exact ⟨this.size, this⟩
  have y0 := cell_of_one ((hlt.2.block _ (by have := HS1.out; omega)).trans X0.out)
  have y1 := cell_of_one ((hlt.2.block _ (by have := HS1.out; omega)).trans X1.out)
  have y2 := cell_of_one ((hlt.2.block _ (by have := HS1.out; omega)).trans X2.out)
  have f1 := free_of_one ((hlt.2.block _ (by have := HS1.out; omega)).trans X1.out)
  have f2 := free_of_one ((hlt.2.block _ (by have := HS1.out; omega)).trans X2.out)
  have HB2 : Hid (Below w.heap.size w w2) := HB1.out.trans (hlt.2.mono (by have := HS1.out; omega))
  have e2 : ∀ v, (w2.setCell ⟨w.heap.size + 1, 0, none⟩ v).cell? ⟨w.heap.size + 1 + 1, 0, none⟩ = some (.int .i64 0) := fun v => (World.cell?_setCell_other _ _ _ _ (by intro e; have := congrArg (fun a : Addr => a.block) e; simp at this)).trans y2
  cases b with
  | true =>
    obtain ⟨rfl, hb⟩ := h.1 rfl
    have HF : Hid (Below w.heap.size w ((w2.setCell ⟨w.heap.size + 1, 0, none⟩ (.int .i64 0)).setCell ⟨w.heap.size + 1 + 1, 0, none⟩ (.int .i64 0))) := (HB2.out.setCell (by show w.heap.size ≤ w.heap.size + 1; omega) _).setCell (by show w.heap.size ≤ w.heap.size + 1 + 1; omega) _
    clear h hb hlt HA
    have q1 : ((w2.setCell ⟨w.heap.size + 1, 0, none⟩ (.int .i64 0)).setCell ⟨w.heap.size + 1 + 1, 0, none⟩ (.int .i64 0)).cell? ⟨w.heap.size + 1, 0, none⟩ = some (.int .i64 0) := (World.cell?_setCell_other _ _ _ _ (by intro e; have := congrArg (fun a : Addr => a.block) e; simp at this)).trans (World.cell?_setCell_same _ _ _ y1)
    have q2 : ((w2.setCell ⟨w.heap.size + 1, 0, none⟩ (.int .i64 0)).setCell ⟨w.heap.size + 1 + 1, 0, none⟩ (.int .i64 0)).cell? ⟨w.heap.size + 1 + 1, 0, none⟩ = some (.int .i64 0) := World.cell?_setCell_same _ _ _ (e2 _)
    go_wp2
    refine leaves_cons (f := 88) (args := #[.pointer (some ⟨w.heap.size, 0, none⟩), .pointer (some ⟨w.heap.size + 1, 0, none⟩), .pointer (some ⟨w.heap.size + 1 + 1, 0, none⟩)]) (by simp) (by simp [go_sem]) ?_
    refine (told_idle _ rfl _).mono ?_
    rintro e u' w'' ⟨rfl, rfl, rfl⟩
    have hx := HF.out
    simp [Leaves, settle, results, Tryd.results63, go_sem, q1, q2]
    exact ⟨rfl, hx⟩
  | false =>
    obtain ⟨rfl, hb⟩ := h.2 rfl
    have HF : Hid (Below w.heap.size w ((w2.setCell ⟨w.heap.size + 1, 0, none⟩ (.int .i64 0)).setCell ⟨w.heap.size + 1 + 1, 0, none⟩ (.int .i64 k))) := (HB2.out.setCell (by show w.heap.size ≤ w.heap.size + 1; omega) _).setCell (by show w.heap.size ≤ w.heap.size + 1 + 1; omega) _
    have q1 : ((w2.setCell ⟨w.heap.size + 1, 0, none⟩ (.int .i64 0)).setCell ⟨w.heap.size + 1 + 1, 0, none⟩ (.int .i64 k)).cell? ⟨w.heap.size + 1, 0, none⟩ = some (.int .i64 0) := (World.cell?_setCell_other _ _ _ _ (by intro e; have := congrArg (fun a : Addr => a.block) e; simp at this)).trans (World.cell?_setCell_same _ _ _ y1)
    have q2 : ((w2.setCell ⟨w.heap.size + 1, 0, none⟩ (.int .i64 0)).setCell ⟨w.heap.size + 1 + 1, 0, none⟩ (.int .i64 k)).cell? ⟨w.heap.size + 1 + 1, 0, none⟩ = some (.int .i64 k) := World.cell?_setCell_same _ _ _ (e2 _)
    clear h hb hlt HA
    go_wp2
    refine leaves_cons (f := 88) (args := #[.pointer (some ⟨w.heap.size, 0, none⟩), .pointer (some ⟨w.heap.size + 1, 0, none⟩), .pointer (some ⟨w.heap.size + 1 + 1, 0, none⟩)]) (by simp) (by simp [go_sem]) ?_
    refine (told_catch _ _ _ k o _ _ [] _ y0 y1 y2 f1 f2 (by omega)).mono ?_
    rintro e u' w'' ⟨rfl, rfl, rfl⟩
    have hx := HF.out
    simp [Leaves, settle, results, Tryd.results63, go_sem, q1, q2]
    exact ⟨rfl, hx⟩
set_option maxRecDepth 100000 in
set_option maxHeartbeats 1000000 in
/-- Holds says whether a call throws nothing. -/
theorem holds_any (fid : Nat) (caps : Array Value) (k : Int) (hk : k ≠ 0) (b : Bool) (w : World) (hcall : ∀ vs w, (callFunc fid vs).run Tryd.prog w = .ok (.enter fid vs) w) (hA : ∀ w', Below w.heap.size w w' → Calls Tryd.prog fid caps w' (MustPost w' k b)) :
    Calls Tryd.prog 32 #[.func (.func fid) #[] caps] w (HasPost w b) := by
  have hb1 : Below w.heap.size w (w.alloc (.cells #[.func (.func fid) #[] caps] 1)) := (Below.refl _ _).alloc (Nat.le_refl _) _
  have x0 := heap_alloc_new w (.cells #[.func (.func fid) #[] caps] 1)
  have HT : Hid (Calls Tryd.prog 63 #[.int .i64 18, .func (.func 64) #[] #[.pointer (some ⟨w.heap.size, 0, none⟩)]] (w.alloc (.cells #[.func (.func fid) #[] caps] 1)) (ToldPost (w.alloc (.cells #[.func (.func fid) #[] caps] 1)) k b)) :=
    told_any w.heap.size 18 k b _ fun w' hb => holds1_any _ fid caps k b w' (cell_of_one ((hb.block _ (by simp)).trans x0)) hcall (hA w' (hb1.trans (hb.mono (by simp))))
  have HB := Lib.hid hb1
  have HK := Lib.hid hk
  have hmf : ∀ (W : World), (Instr.makeFunc (.func 64) #[] #[.pointer (some ⟨w.heap.size, 0, none⟩)]).run Tryd.prog W = .ok (.func (.func 64) #[] #[.pointer (some ⟨w.heap.size, 0, none⟩)]) W := fun _ => rfl
  clear hb1 x0 hA hcall hk
  go_enter Tryd.func32, Tryd.ntmps32
  go_wp2_with (fail)
  refine HT.out.mono ?_
  rintro e w2 ⟨rfl, hb⟩
  have HF : Hid (Below w.heap.size w w2) := HB.out.trans (hb.mono (by simp))
  clear HT hb
  cases b with
  | true =>
    go_wp2
    go_ret
    exact ⟨rfl, HF.out⟩
  | false =>
    have e0 : (k == 0) = false := by simpa using HK.out
    go_wp2
    go_ret
    exact ⟨rfl, HF.out⟩
end Go.Proofs.YtfgnnbpbbnnnhaaDoor
