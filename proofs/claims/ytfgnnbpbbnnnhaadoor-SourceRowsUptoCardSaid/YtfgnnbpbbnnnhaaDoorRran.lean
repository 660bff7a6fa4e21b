/- Laws. -/
import Derived.Test.YtfgnnbpbbnnnhaaDoorRrae
import Derived.Laws.Rows
import Derived.Laws.CopyOwn
import Derived.Great.Walk
namespace Go.Proofs.YtfgnnbpbbnnnhaaDoor
open Go.RowKit Go.Maps
/-- A declaration: its kind, levels, type, body, params, sort, members (their index types), constructors (their members, types). -/
structure Dc where
  kind : Int
  lev : Int
  ty : Tm
  bo : Tm
  pars : List Tm
  sort : List (Int × Int)
  mems : List (List Tm)
  ctors : List (Int × Tm)
def Mems (w : World) (B : Nat) (A : Option Addr) (c : Nat) (ms : List (List Tm)) : Prop := (A = none → c = 0) ∧ (0 < ms.length → ∃ b o, A = some ⟨b, o, none⟩ ∧ b < B ∧ ∀ (i : Nat) (m : List Tm), ms[i]? = some m → ∃ Ai ci, w.cell? ⟨b, o + i, none⟩ = some (.slice Ai m.length ci) ∧ Tms w B Ai ci m)
def Ctrs (w : World) (B : Nat) (A : Option Addr) (c : Nat) (cs : List (Int × Tm)) : Prop := (A = none → c = 0) ∧ (0 < cs.length → ∃ b o, A = some ⟨b, o, none⟩ ∧ b < B ∧ ∀ (i : Nat) (x : Int × Tm), cs[i]? = some x → ∃ v, w.cell? ⟨b, o + i * 6, none⟩ = some (.int .i64 x.1) ∧ Five w b (o + i * 6 + 1) v ∧ TmAt w B x.2 v)
/-- a declaration's sixteen cells -/
def DcAt (w : World) (B : Nat) (d : Dc) (cs : Array Value) : Prop := ∃ (a0 a1 a2 a3 a4 b0 b1 b2 b3 b4 : Value) (Ap As Am Ac : Option Addr) (cp cz cm cc : Nat), cs = #[.int .i64 d.kind, .int .i64 d.lev, a0, a1, a2, a3, a4, b0, b1, b2, b3, b4, .slice Ap d.pars.length cp, .slice As d.sort.length cz, .slice Am d.mems.length cm, .slice Ac d.ctors.length cc] ∧
  TmAt w B d.ty (.agg #[a0, a1, a2, a3, a4]) ∧ TmAt w B d.bo (.agg #[b0, b1, b2, b3, b4]) ∧ Tms w B Ap cp d.pars ∧ (As = none → cz = 0) ∧ Lev w B As d.sort ∧ Mems w B Am cm d.mems ∧ Ctrs w B Ac cc d.ctors
/-- a row of declarations -/
def Dcs (w : World) (B : Nat) (A : Option Addr) (c : Nat) (ds : List Dc) : Prop := (A = none → c = 0) ∧ (0 < ds.length → ∃ b o, A = some ⟨b, o, none⟩ ∧ b < B ∧ ∀ (i : Nat) (d : Dc), ds[i]? = some d → ∃ cs, DcAt w B d cs ∧ ∀ j, j < 16 → w.cell? ⟨b, o + i * 16 + j, none⟩ = cs[j]?)
theorem Mems.keep {w w' : World} {B B' : Nat} {A : Option Addr} {c : Nat} {ms : List (List Tm)} (h : Mems w B A c ms) (hB : B ≤ B') (hk : ∀ p : Addr, p.block < B → w'.cell? p = w.cell? p) : Mems w' B' A c ms := ⟨h.1, fun hn => by
  obtain ⟨b, o, e, hb, hc⟩ := h.2 hn
  refine ⟨b, o, e, by omega, fun i m hi => ?_⟩
  obtain ⟨Ai, ci, h1, h2⟩ := hc i m hi
  exact ⟨Ai, ci, (hk ⟨b, _, none⟩ hb).trans h1, h2.keep hB hk⟩⟩
theorem Ctrs.keep {w w' : World} {B B' : Nat} {A : Option Addr} {c : Nat} {cs : List (Int × Tm)} (h : Ctrs w B A c cs) (hB : B ≤ B') (hk : ∀ p : Addr, p.block < B → w'.cell? p = w.cell? p) : Ctrs w' B' A c cs := ⟨h.1, fun hn => by
  obtain ⟨b, o, e, hb, hc⟩ := h.2 hn
  refine ⟨b, o, e, by omega, fun i x hi => ?_⟩
  obtain ⟨v, h1, h2, h3⟩ := hc i x hi
  exact ⟨v, (hk ⟨b, _, none⟩ hb).trans h1, h2.keep fun j => hk ⟨b, j, none⟩ hb, TmAt.keep hB hk _ _ h3⟩⟩
theorem DcAt.keep {w w' : World} {B B' : Nat} {d : Dc} {cs : Array Value} (h : DcAt w B d cs) (hB : B ≤ B') (hk : ∀ p : Addr, p.block < B → w'.cell? p = w.cell? p) : DcAt w' B' d cs := by
  obtain ⟨a0, a1, a2, a3, a4, b0, b1, b2, b3, b4, Ap, As, Am, Ac, cp, cz, cm, cc, e, h1, h2, h3, h4, h5, h6, h7⟩ := h
  exact ⟨a0, a1, a2, a3, a4, b0, b1, b2, b3, b4, Ap, As, Am, Ac, cp, cz, cm, cc, e, TmAt.keep hB hk _ _ h1, TmAt.keep hB hk _ _ h2, h3.keep hB hk, h4, (h5.keep hk).more hB, h6.keep hB hk, h7.keep hB hk⟩
theorem Dcs.keep {w w' : World} {B B' : Nat} {A : Option Addr} {c : Nat} {ds : List Dc} (h : Dcs w B A c ds) (hB : B ≤ B') (hk : ∀ p : Addr, p.block < B → w'.cell? p = w.cell? p) : Dcs w' B' A c ds := ⟨h.1, fun hn => by
  obtain ⟨b, o, e, hb, hc⟩ := h.2 hn
  refine ⟨b, o, e, by omega, fun i d hi => ?_⟩
  obtain ⟨cs, h1, h2⟩ := hc i d hi
  exact ⟨cs, h1.keep hB hk, fun j hj => (hk ⟨b, _, none⟩ hb).trans (h2 j hj)⟩⟩
theorem DcAt.below {w w' : World} {B B' : Nat} {d : Dc} {cs : Array Value} (h : DcAt w B d cs) (hb : Below B w w') (hB : B ≤ B') : DcAt w' B' d cs := h.keep hB fun _ hp => hb.cell hp
theorem Dcs.below {w w' : World} {B B' : Nat} {A : Option Addr} {c : Nat} {ds : List Dc} (h : Dcs w B A c ds) (hb : Below B w w') (hB : B ≤ B') : Dcs w' B' A c ds := h.keep hB fun _ hp => hb.cell hp
theorem DcAt.size {w : World} {B : Nat} {d : Dc} {cs : Array Value} (h : DcAt w B d cs) : cs.size = 16 := by
  obtain ⟨a0, a1, a2, a3, a4, b0, b1, b2, b3, b4, Ap, As, Am, Ac, cp, cz, cm, cc, rfl, _⟩ := h
  rfl
theorem tm_one {w : World} {B : Nat} {t : Tm} {a0 a1 a2 a3 a4 : Value} (h : TmAt w B t (.agg #[a0, a1, a2, a3, a4])) : a0.oneCell' = true ∧ a1.oneCell' = true ∧ a2.oneCell' = true ∧ a3.oneCell' = true ∧ a4.oneCell' = true := by
  obtain ⟨k, n, a, lv, kids⟩ := t
  obtain ⟨Al, cl, Ak, ck, e, _⟩ := h.open
  injection e with e
  injection e with e
  injection e with e0 e
  injection e with e1 e
  injection e with e2 e
  injection e with e3 e
  injection e with e4 _
  subst e0 e1 e2 e3 e4
  exact ⟨rfl, rfl, rfl, rfl, rfl⟩
theorem DcAt.one {w : World} {B : Nat} {d : Dc} {cs : Array Value} (h : DcAt w B d cs) : cs.all (·.oneCell') = true := by
  obtain ⟨a0, a1, a2, a3, a4, b0, b1, b2, b3, b4, Ap, As, Am, Ac, cp, cz, cm, cc, rfl, h1, h2, _⟩ := h
  obtain ⟨p0, p1, p2, p3, p4⟩ := tm_one h1
  obtain ⟨q0, q1, q2, q3, q4⟩ := tm_one h2
  rw [Array.all_eq_true_iff_forall_mem]
  intro v hv
  simp only [List.mem_toArray, List.mem_cons, List.not_mem_nil, or_false] at hv
  rcases hv with rfl | rfl | rfl | rfl | rfl | rfl | rfl | rfl | rfl | rfl | rfl | rfl | rfl | rfl | rfl | rfl <;> first | assumption | rfl
/-- what its cells look like -/
theorem tm_cells5 {w : World} {B : Nat} {t : Tm} {a0 a1 a2 a3 a4 : Value} (h : TmAt w B t (.agg #[a0, a1, a2, a3, a4])) : ∃ (i j l : Int) (A C : Option Addr) (n c m d : Nat), a0 = .int .i64 i ∧ a1 = .int .i64 j ∧ a2 = .int .i64 l ∧ a3 = .slice A n c ∧ a4 = .slice C m d := by
  obtain ⟨k, n, a, lv, kids⟩ := t
  obtain ⟨Al, cl, Ak, ck, e, _⟩ := h.open
  injection e with e
  injection e with e
  injection e with e0 e
  injection e with e1 e
  injection e with e2 e
  injection e with e3 e
  injection e with e4 _
  exact ⟨_, _, _, _, _, _, _, _, _, e0, e1, e2, e3, e4⟩
theorem DcAt.shape {w : World} {B : Nat} {d : Dc} {cs : Array Value} (h : DcAt w B d cs) : ∃ (i0 i1 i2 i3 i4 i5 i6 i7 : Int) (S0 S1 S2 S3 S4 S5 S6 S7 : Option Addr) (l0 l1 l2 l3 l4 l5 l6 l7 m0 m1 m2 m3 m4 m5 m6 m7 : Nat), cs = #[.int .i64 i0, .int .i64 i1, .int .i64 i2, .int .i64 i3, .int .i64 i4, .slice S0 l0 m0, .slice S1 l1 m1, .int .i64 i5, .int .i64 i6, .int .i64 i7, .slice S2 l2 m2, .slice S3 l3 m3, .slice S4 l4 m4, .slice S5 l5 m5, .slice S6 l6 m6, .slice S7 l7 m7] := by
  obtain ⟨a0, a1, a2, a3, a4, b0, b1, b2, b3, b4, Ap, As, Am, Ac, cp, cz, cm, cc, rfl, h1, h2, _⟩ := h
  obtain ⟨_, _, _, _, _, _, _, _, _, rfl, rfl, rfl, rfl, rfl⟩ := tm_cells5 h1
  obtain ⟨_, _, _, _, _, _, _, _, _, rfl, rfl, rfl, rfl, rfl⟩ := tm_cells5 h2
  exact ⟨_, _, _, _, _, _, _, _, _, _, _, _, _, _, _, _, _, _, _, _, _, _, _, _, _, _, _, _, _, _, _, _, rfl⟩
/-- a struct's cells, read at once -/
theorem run_loadAt_cells {P : Program} {w : World} {ty : TypeId} {d : TypeDesc} {n : Nat} {cs : Array Value} {b o : Nat} (hu : P.underlying ty = some d) (hd : (match d with | .struct _ | .array _ _ => true | _ => false) = true) (hi : (P.info? ty).map (·.size) = some n) (hs : cs.size = n)
    (h : ∀ j, j < n → w.cell? ⟨b, o + j, none⟩ = cs[j]?) : (Instr.loadAt ty (.pointer (some ⟨b, o, none⟩))).run P w = .ok (.agg cs) w := by
  have hl : (loadCells ⟨b, o, none⟩ cs.toList.length).run P w = .ok cs.toList.toArray w :=
    run_loadCells_list (P := P) w ⟨b, o, none⟩ cs.toList (fun j v hv => by
      have hj : j < n := by
        have := (List.getElem?_eq_some_iff.1 hv).1
        simpa [hs] using this
      have hadd : (⟨b, o, none⟩ : Addr).add j = ⟨b, o + j, none⟩ := by unfold Addr.add; split <;> simp_all
      rw [hadd, h j hj]
      simpa using hv)
  cases hq : P.info? ty with
  | none => simp [hq] at hi
  | some i =>
    have hs2 : i.size = cs.size := by simp [hq] at hi; omega
    have hagg : (isAgg ty).run P w = .ok true w := by
      unfold isAgg
      rw [Sem.run_bind, run_underlying hu w]
      cases d <;> simp_all
    simp only [Array.length_toList, Array.toArray_toList] at hl
    simp [Instr.loadAt, Instr.sureAddr, loadVar, Sem.run_bind, hagg, sizeOf, typeInfo, hq, hs2, hl]
/-- the operation that reads a struct at once -/
theorem wpList_load_at {P : Program} {ops : Array Oper} {rest : List Oper} {o : Oper} {a : Act} {w : World} {Q : Exit → Act → World → Prop} (hgd : o.guard = none) (ty : TypeId) (x : Operand) (ho : o.op = .load ty x) (p v : Value) (hx : a.eval x = p)
    (hr : (Instr.loadAt ty p).run P w = .ok v w) (h : wpList P ops Q rest (a.put o.dst v) w) : wpList P ops Q (o :: rest) a w :=
  wpList_plain hgd fun K hK => by
    unfold Oper.wp execOp
    simp only [ho, hx, Sem.run_bind, Sem.run_pure, Result.andThen_ok, hr]
    exact hK _ _ h
theorem infoDc : (Tryd.prog.info? 43).map (·.size) = some 16 := by kernel_rfl
set_option maxRecDepth 100000 in
theorem load_dc {w : World} {cs : Array Value} {b o : Nat} (hs : cs.size = 16) (h : ∀ j, j < 16 → w.cell? ⟨b, o + j, none⟩ = cs[j]?) : (Instr.loadAt 43 (.pointer (some ⟨b, o, none⟩))).run Tryd.prog w = .ok (.agg cs) w :=
  run_loadAt_cells Tryd.underlying43 rfl infoDc hs h
/-- a row's declaration, read out in whatever world comes -/
theorem Dcs.get {w : World} {B : Nat} {A : Option Addr} {c : Nat} {ds : List Dc} (h : Dcs w B A c ds) {k : Nat} {d : Dc} (hk : ds[k]? = some d) :
    ∃ b o cs, A = some ⟨b, o, none⟩ ∧ b < B ∧ DcAt w B d cs ∧ (∀ j, j < 16 → w.cell? ⟨b, o + k * 16 + j, none⟩ = cs[j]?) ∧ ∀ w', Below B w w' → (Instr.loadAt 43 (.pointer (some ⟨b, o + k * 16, none⟩))).run Tryd.prog w' = .ok (.agg cs) w' := by
  have hl := (List.getElem?_eq_some_iff.1 hk).1
  obtain ⟨b, o, e, hb, hc⟩ := h.2 (by omega)
  obtain ⟨cs, h1, h2⟩ := hc k d hk
  exact ⟨b, o, cs, e, hb, h1, h2, fun w' hw => load_dc h1.size fun j hj => (hw.cell (p := ⟨b, _, none⟩) hb).trans (h2 j hj)⟩
/-- a declaration in a block of its own: what is read of it there -/
theorem DcAt.box {w w' : World} {B g : Nat} {d : Dc} {cs : Array Value} (h : DcAt w B d cs) (hg : w'.heap[g]? = some (.cells cs 43 (0, 0))) :
    w'.cell? ⟨g, 0, none⟩ = some (.int .i64 d.kind) ∧ w'.cell? ⟨g, 0 + 1, none⟩ = some (.int .i64 d.lev) ∧ (∃ Am cm, w'.cell? ⟨g, 0 + 14, none⟩ = some (.slice Am d.mems.length cm)) ∧ ∃ Ac cc, w'.cell? ⟨g, 0 + 15, none⟩ = some (.slice Ac d.ctors.length cc) := by
  obtain ⟨a0, a1, a2, a3, a4, b0, b1, b2, b3, b4, Ap, As, Am, Ac, cp, cz, cm, cc, rfl, _⟩ := h
  exact ⟨cell_of_row _ _ 0 _ _ (0, 0) hg, cell_of_row _ _ 1 _ _ (0, 0) hg, ⟨Am, cm, cell_of_row _ _ 14 _ _ (0, 0) hg⟩, Ac, cc, cell_of_row _ _ 15 _ _ (0, 0) hg⟩
end Go.Proofs.YtfgnnbpbbnnnhaaDoor
