/- Laws. -/
import Derived.Test.YtfgnnbpbbnnnhaaDoorKqao
import Derived.Test.YtfgnnbpbbnnnhaaDoorKqas
import Derived.MapKept
namespace Go.Proofs.YtfgnnbpbbnnnhaaDoor
open Go.RowKit Go.Maps Go.ChangeMaps Go.MapKept
/-- an entry of the table -/
def cyE (i : Nat) (k : Int) (f : Nat) : MapEntry := { key := .int .i64 k, val := .func (.func f) #[] #[], born := i }
def cyL : List MapEntry := [cyE 0 3 77, cyE 1 8 78, cyE 2 9 79, cyE 3 10 80]
/-- the table lies in block m -/
def CyAt (w : World) (m : Nat) : Prop := w.heap[m]? = some (.map cyL.toArray 4)
theorem CyAt.below {w w' : World} {m B : Nat} (h : CyAt w m) (hb : Below B w w') (hm : m < B) : CyAt w' m := (hb.block m hm).trans h
theorem cy_key : Tryd.prog.underlying 23 = some (.int .i64) := by kernel_rfl
theorem cy_map : Tryd.prog.underlying 97 = some (.map 23 131) := by kernel_rfl
theorem cy_ok (k : Int) (e : Bool) (w : World) : (Instr.checkKey e 10000 23 (.int .i64 k)).run Tryd.prog w = .ok () w := run_checkKey (n := 9999) cy_key (by simp [IsKey]) e
theorem cy_insert {w : World} {b i : Nat} {es : List MapEntry} {k : Int} {f : Nat} (h : w.heap[b]? = some (.map es.toArray i)) (hn : Instr.findNow (.int .i64) (.int .i64 k) es 0 = some none) :
    (Instr.mapUpdate 97 (.map (some b)) (.int .i64 k) (.func (.func f) #[] #[])).run Tryd.prog w = .ok () (setBlock w b (.map (es ++ [cyE i k f]).toArray (i + 1))) := by
  have hf := run_findKey (w := w) (P := Tryd.prog) cy_key hn
  unfold Instr.mapUpdate
  simp only [Sem.run_bind, run_underlying cy_map, Result.andThen, Go.MapKept.run_getObj_map h, cy_ok, hf, Go.MapKept.run_setObj_map _ h]
  simp [setBlock, cyE]
theorem cy_post {w0 w : World} {b i : Nat} {es : List MapEntry} {k : Int} {f : Nat} (h : w.heap[b]? = some (.map es.toArray i)) (hb : Below w0.heap.size w0 w) (hle : w0.heap.size ≤ b) :
    (setBlock w b (.map (es ++ [cyE i k f]).toArray (i + 1))).heap[b]? = some (.map (es ++ [cyE i k f]).toArray (i + 1)) ∧ Below w0.heap.size w0 (setBlock w b (.map (es ++ [cyE i k f]).toArray (i + 1))) :=
  ⟨heap_setBlock_same h _, ⟨hb.os, hb.tape, hb.output, by simpa [setBlock] using hb.size, fun j hj => (heap_setBlock_other h _ (by omega)).trans (hb.block j hj)⟩⟩
theorem wpList_cy {ops : Array Oper} {rest : List Oper} {o : Oper} {a : Act} {Q : Exit → Act → World → Prop} {w0 w : World} (hg : o.guard = none) (mm kk xx : Operand) (hop : o.op = Op.insert 97 mm kk xx)
    (b i : Nat) (es : List MapEntry) (k : Int) (f : Nat) (hm : a.eval mm = .map (some b)) (hk : a.eval kk = .int .i64 k) (hx : a.eval xx = .func (.func f) #[] #[]) (h : w.heap[b]? = some (.map es.toArray i)) (hb : Below w0.heap.size w0 w) (hle : w0.heap.size ≤ b)
    (hn : Instr.findNow (.int .i64) (.int .i64 k) es 0 = some none)
    (hK : ∀ w', w'.heap[b]? = some (.map (es ++ [cyE i k f]).toArray (i + 1)) → Below w0.heap.size w0 w' → wpList Tryd.prog ops Q rest (a.put o.dst undef) w') : wpList Tryd.prog ops Q (o :: rest) a w := by
  refine wpList_plain hg fun K' hK' => ?_
  have hrun := cy_insert (f := f) h hn
  obtain ⟨q1, q2⟩ := cy_post (k := k) (f := f) h hb hle
  unfold Oper.wp
  simp [execOp, hop, hm, hk, hx, hrun, Result.andThen]
  exact hK' _ _ (hK _ q1 q2)
/-- a carrier: declarations, their bases, the table -/
def CarV (Ad : Option Addr) (nd cd : Nat) (Aa : Option Addr) (na ca m : Nat) : Value := .agg #[.slice Ad nd cd, .slice Aa na ca, .map (some m)]
set_option maxRecDepth 100000 in
set_option maxHeartbeats 4000000 in
theorem cstart_any (Ad : Option Addr) (nd cd : Nat) (Aa : Option Addr) (na ca : Nat) (w : World) : Calls Tryd.prog 50 #[.slice Ad nd cd, .slice Aa na ca] w (fun e w' => ∃ m, e = .returned (CarV Ad nd cd Aa na ca m) ∧ w.heap.size ≤ m ∧ m < w'.heap.size ∧ CyAt w' m ∧ Below w.heap.size w w') := by
  have hmm := @run_makeMap Tryd.prog
  obtain ⟨wa, hwa⟩ : ∃ x, w.alloc (.cells #[.slice none 0 0, .slice none 0 0, .map none] 99) = x := ⟨_, rfl⟩
  have hba : Below w.heap.size w wa := by rw [← hwa]; exact (Below.refl _ _).alloc (Nat.le_refl _) _
  have hsa : wa.heap.size = w.heap.size + 1 := by rw [← hwa]; simp
  have xa : wa.heap[w.heap.size]? = some (.cells #[.slice none 0 0, .slice none 0 0, .map none] 99 (0, 0)) := by rw [← hwa]; exact heap_alloc_new w _
  have hb : Below wa.heap.size wa (wa.alloc (.map #[] 0)) := (Below.refl _ _).alloc (Nat.le_refl _) _
  have hz : (wa.alloc (.map #[] 0)).heap[w.heap.size + 1]? = some (.map ([] : List MapEntry).toArray 0) := by rw [← hsa]; exact heap_alloc_new wa _
  have hle : wa.heap.size ≤ w.heap.size + 1 := by omega
  have XA := Lib.hid xa
  have HBA := Lib.hid hba
  have HSA := Lib.hid hsa
  have c0 : True := trivial
  have c1 : True := trivial
  have c2 : True := trivial
  have u0 : True := trivial
  have u1 : True := trivial
  have u2 : True := trivial
  unfold CarV
  clear xa hba
  go_enter Tryd.func50, Tryd.ntmps50
  go_wp2_with (first | (refine wpList_cy (w0 := wa) rfl _ _ _ rfl (w.heap.size + 1) _ _ _ _ rfl rfl rfl (by assumption) (by assumption) hle (by rfl) ?_; clear hz hb c0 c1 c2 u0 u1 u2; intro w' hz hb; have hc := (hb.block w.heap.size (by have := HSA.out; omega)).trans XA.out; have c0 := cell_of_row _ _ 0 _ _ (0, 0) hc; have c1 := cell_of_row _ _ 1 _ _ (0, 0) hc; have c2 := cell_of_row _ _ 2 _ _ (0, 0) hc; have u0 := thawed hc 0; have u1 := thawed hc 1; have u2 := thawed hc 2; replace hc := Lib.hid hc) | fail)
  have h3 := set_same (set_same (set_same hc.out 0 (.slice Ad nd cd)) 1 (.slice Aa na ca)) 2 (.map (some (w.heap.size + 1)))
  have r0 := row_cell h3 (j := 0) (v := .slice Ad nd cd) rfl
  have r1 := row_cell h3 (j := 1) (v := .slice Aa na ca) rfl
  have r2 := row_cell h3 (j := 2) (v := .map (some (w.heap.size + 1))) rfl
  have HB2 : Hid (Below w.heap.size w (((w'.setCell ⟨w.heap.size, 0, none⟩ (.slice Ad nd cd)).setCell ⟨w.heap.size, 1, none⟩ (.slice Aa na ca)).setCell ⟨w.heap.size, 2, none⟩ (.map (some (w.heap.size + 1))))) := (((HBA.out.trans (hb.mono HBA.out.size)).setCell (Nat.le_refl _) _).setCell (Nat.le_refl _) _).setCell (Nat.le_refl _) _
  have HM : Hid (CyAt (((w'.setCell ⟨w.heap.size, 0, none⟩ (.slice Ad nd cd)).setCell ⟨w.heap.size, 1, none⟩ (.slice Aa na ca)).setCell ⟨w.heap.size, 2, none⟩ (.map (some (w.heap.size + 1)))) (w.heap.size + 1)) := by
    show _ = _
    rw [heap_setCell_other _ _ _ _ (by show w.heap.size + 1 ≠ w.heap.size; omega), heap_setCell_other _ _ _ _ (by show w.heap.size + 1 ≠ w.heap.size; omega), heap_setCell_other _ _ _ _ (by show w.heap.size + 1 ≠ w.heap.size; omega)]
    exact hz
  obtain ⟨wz, hwz⟩ : ∃ x, ((w'.setCell ⟨w.heap.size, 0, none⟩ (.slice Ad nd cd)).setCell ⟨w.heap.size, 1, none⟩ (.slice Aa na ca)).setCell ⟨w.heap.size, 2, none⟩ (.map (some (w.heap.size + 1))) = x := ⟨_, rfl⟩
  rw [hwz] at HB2 HM r0 r1 r2 ⊢
  clear hz hb c0 c1 c2 u0 u1 u2 h3 hwz
  exact bodyPost_ret (v := .agg #[.slice Ad nd cd, .slice Aa na ca, .map (some (w.heap.size + 1))]) (by simp [results, Tryd.results50, go_sem, r0, r1, r2]) rfl ⟨_, rfl, by omega, heap_some_lt HM.out, HM.out, HB2.out⟩
set_option maxRecDepth 100000 in
set_option maxHeartbeats 1000000 in
/-- Told tells what a call tells, or the error that it throws. -/
theorem told_opt (fid : Nat) (caps : Array Value) (o : Int) (res : Option Int) (w : World) (hcall : ∀ vs w, (callFunc fid vs).run Tryd.prog w = .ok (.enter fid vs) w) (hA : ∀ w', Below w.heap.size w w' → Calls Tryd.prog fid caps w' (OptPost w' res)) :
    Calls Tryd.prog 63 #[.int .i64 o, .func (.func fid) #[] caps] w (fun e w' => e = .returned (.tuple #[.int .i64 (res.getD 0), .int .i64 (if res.isSome then 0 else 18)]) ∧ Below w.heap.size w w') := by
  obtain ⟨w1, hw1⟩ : ∃ x, ((w.alloc (.cells #[.int .i64 o] 112)).alloc (.cells #[.int .i64 0] 3)).alloc (.cells #[.int .i64 0] 112) = x := ⟨_, rfl⟩
  have hb1 : Below w.heap.size w w1 := by rw [← hw1]; exact (((Below.refl _ _).alloc (Nat.le_refl _) _).alloc (by simp) _).alloc (by simp; omega) _
  have hs1 : w1.heap.size = w.heap.size + 3 := by rw [← hw1]; simp
  obtain ⟨z1, z2, _⟩ := two_allocs w (.cells #[.int .i64 o] 112) (.cells #[.int .i64 0] 3)
  have x0 : w1.heap[w.heap.size]? = some (.cells #[.int .i64 o] 112 (0, 0)) := by rw [← hw1, Below.heap_alloc _ _ _ (by simp; omega)]; exact z1
  have x1 : w1.heap[w.heap.size + 1]? = some (.cells #[.int .i64 0] 3 (0, 0)) := by rw [← hw1, Below.heap_alloc _ _ _ (by simp)]; exact z2
  have x2 : w1.heap[w.heap.size + 1 + 1]? = some (.cells #[.int .i64 0] 112 (0, 0)) := by
    rw [← hw1]
    have := heap_alloc_new ((w.alloc (.cells #[.int .i64 o] 112)).alloc (.cells #[.int .i64 0] 3)) (.cells #[.int .i64 0] 112)
    simpa using this
  have HA := Lib.hid (hA w1 hb1)
  have X0 := Lib.hid x0
  have X1 := Lib.hid x1
  have X2 := Lib.hid x2
  have HB1 := Lib.hid hb1
  have HS1 := Lib.hid hs1
  have hmf : ∀ (W : World), (Instr.makeFunc (.func 88) #[] #[.pointer (some ⟨w.heap.size, 0, none⟩), .pointer (some ⟨w.heap.size + 1, 0, none⟩), .pointer (some ⟨w.heap.size + 1 + 1, 0, none⟩)]).run Tryd.prog W = .ok (.func (.func 88) #[] #[.pointer (some ⟨w.heap.size, 0, none⟩), .pointer (some ⟨w.heap.size + 1, 0, none⟩), .pointer (some ⟨w.heap.size + 1 + 1, 0, none⟩)]) W := fun _ => rfl
  clear hA hb1 hs1 z1 z2 x0 x1 x2
  go_enter_defers Tryd.func63, Tryd.ntmps63
  go_wp2_with (fail)
  refine HA.out.mono ?_
  rintro e w2 h
  have hlt : w2.heap.size ≥ w1.heap.size ∧ Below w1.heap.size w1 w2 := by
    cases res with
    | some x => have := (h.1 x rfl).2; exact ⟨this.size, this⟩
    | none => have := (h.2 rfl).2; exact ⟨this.size, this⟩
  have y0 := cell_of_one ((hlt.2.block _ (by have := HS1.out; omega)).trans X0.out)
  have y1 := cell_of_one ((hlt.2.block _ (by have := HS1.out; omega)).trans X1.out)
  have y2 := cell_of_one ((hlt.2.block _ (by have := HS1.out; omega)).trans X2.out)
  have f1 := free_of_one ((hlt.2.block _ (by have := HS1.out; omega)).trans X1.out)
  have f2 := free_of_one ((hlt.2.block _ (by have := HS1.out; omega)).trans X2.out)
  have HB2 : Hid (Below w.heap.size w w2) := HB1.out.trans (hlt.2.mono (by have := HS1.out; omega))
  have e2 : ∀ v, (w2.setCell ⟨w.heap.size + 1, 0, none⟩ v).cell? ⟨w.heap.size + 1 + 1, 0, none⟩ = some (.int .i64 0) := fun v => (World.cell?_setCell_other _ _ _ _ (by intro e; have := congrArg (fun a : Addr => a.block) e; simp at this)).trans y2
  cases res with
  | some x =>
    obtain ⟨rfl, hb⟩ := h.1 x rfl
    have HF : Hid (Below w.heap.size w ((w2.setCell ⟨w.heap.size + 1, 0, none⟩ (.int .i64 x)).setCell ⟨w.heap.size + 1 + 1, 0, none⟩ (.int .i64 0))) := (HB2.out.setCell (by show w.heap.size ≤ w.heap.size + 1; omega) _).setCell (by show w.heap.size ≤ w.heap.size + 1 + 1; omega) _
    clear h hb hlt HA hcall
    have q1 : ((w2.setCell ⟨w.heap.size + 1, 0, none⟩ (.int .i64 x)).setCell ⟨w.heap.size + 1 + 1, 0, none⟩ (.int .i64 0)).cell? ⟨w.heap.size + 1, 0, none⟩ = some (.int .i64 x) := (World.cell?_setCell_other _ _ _ _ (by intro e; have := congrArg (fun a : Addr => a.block) e; simp at this)).trans (World.cell?_setCell_same _ _ _ y1)
    have q2 : ((w2.setCell ⟨w.heap.size + 1, 0, none⟩ (.int .i64 x)).setCell ⟨w.heap.size + 1 + 1, 0, none⟩ (.int .i64 0)).cell? ⟨w.heap.size + 1 + 1, 0, none⟩ = some (.int .i64 0) := World.cell?_setCell_same _ _ _ (e2 _)
    go_wp2
    refine leaves_cons (f := 88) (args := #[.pointer (some ⟨w.heap.size, 0, none⟩), .pointer (some ⟨w.heap.size + 1, 0, none⟩), .pointer (some ⟨w.heap.size + 1 + 1, 0, none⟩)]) (by simp) (by simp [go_sem]) ?_
    refine (told_idle _ rfl _).mono ?_
    rintro e u' w'' ⟨rfl, rfl, rfl⟩
    have hx := HF.out
    simp [Leaves, settle, results, Tryd.results63, go_sem, q1, q2]
    exact hx
  | none =>
    obtain ⟨rfl, hb⟩ := h.2 rfl
    have HF : Hid (Below w.heap.size w ((w2.setCell ⟨w.heap.size + 1, 0, none⟩ (.int .i64 0)).setCell ⟨w.heap.size + 1 + 1, 0, none⟩ (.int .i64 18))) := (HB2.out.setCell (by show w.heap.size ≤ w.heap.size + 1; omega) _).setCell (by show w.heap.size ≤ w.heap.size + 1 + 1; omega) _
    have q1 : ((w2.setCell ⟨w.heap.size + 1, 0, none⟩ (.int .i64 0)).setCell ⟨w.heap.size + 1 + 1, 0, none⟩ (.int .i64 18)).cell? ⟨w.heap.size + 1, 0, none⟩ = some (.int .i64 0) := (World.cell?_setCell_other _ _ _ _ (by intro e; have := congrArg (fun a : Addr => a.block) e; simp at this)).trans (World.cell?_setCell_same _ _ _ y1)
    have q2 : ((w2.setCell ⟨w.heap.size + 1, 0, none⟩ (.int .i64 0)).setCell ⟨w.heap.size + 1 + 1, 0, none⟩ (.int .i64 18)).cell? ⟨w.heap.size + 1 + 1, 0, none⟩ = some (.int .i64 18) := World.cell?_setCell_same _ _ _ (e2 _)
    clear h hb hlt HA hcall
    go_wp2
    refine leaves_cons (f := 88) (args := #[.pointer (some ⟨w.heap.size, 0, none⟩), .pointer (some ⟨w.heap.size + 1, 0, none⟩), .pointer (some ⟨w.heap.size + 1 + 1, 0, none⟩)]) (by simp) (by simp [go_sem]) ?_
    refine (told_catch _ _ _ 18 o _ _ [] _ y0 y1 y2 f1 f2 (by omega)).mono ?_
    rintro e u' w'' ⟨rfl, rfl, rfl⟩
    have hx := HF.out
    simp [Leaves, settle, results, Tryd.results63, go_sem, q1, q2]
    exact hx
end Go.Proofs.YtfgnnbpbbnnnhaaDoor
namespace Go.Proofs.YtfgnnbpbbnnnhaaDoor
open Go.RowKit Go.Maps Go.ChangeMaps Go.MapKept
/-- which look-up a kind has -/
def cyOf (k : Int) : Option Nat :=
  if k = 3 then some 77
  else if k = 8 then some 78
  else if k = 9 then some 79
  else if k = 10 then some 80
  else none
/-- the constant of a name, if there is one -/
def cyO (ds : List Dc) (ns : List Int) (k num pos : Int) : Option Int :=
  if k = 3 then nameO conF ds ns num else if k = 8 then nameO (memF pos) ds ns num else if k = 9 then nameO (ctoF pos) ds ns num else if k = 10 then nameO (recF pos) ds ns num else none
theorem cyOf_kind {k : Int} {f : Nat} (h : cyOf k = some f) : k = 3 ∨ k = 8 ∨ k = 9 ∨ k = 10 := by
  unfold cyOf at h
  by_cases e3 : k = 3
  · omega
  rw [if_neg e3] at h
  by_cases e8 : k = 8
  · omega
  rw [if_neg e8] at h
  by_cases e9 : k = 9
  · omega
  rw [if_neg e9] at h
  by_cases e10 : k = 10
  · omega
  rw [if_neg e10] at h
  cases h
theorem cyOf_none {k : Int} (h : cyOf k = none) : k ≠ 3 ∧ k ≠ 8 ∧ k ≠ 9 ∧ k ≠ 10 := by
  refine ⟨?_, ?_, ?_, ?_⟩ <;> (rintro rfl; exact absurd h (by decide))
set_option maxRecDepth 100000 in
theorem cy_some {w : World} {m i : Nat} {k : Int} {v : Value} (h : CyAt w m) (hf : Instr.findNow (.int .i64) (.int .i64 k) cyL 0 = some (some (i, v))) :
    (Instr.lookup 97 (.map (some m)) (.int .i64 k) true).run Tryd.prog w = .ok (.tuple #[v, .bool true]) w := by
  have hf := run_findKey (w := w) (P := Tryd.prog) cy_key hf
  unfold Instr.lookup
  simp only [Sem.run_bind, run_underlying cy_map, Result.andThen, Go.MapKept.run_getObj_map h, Sem.run_pure, cy_ok, hf, if_true]
theorem cy_zero (w : World) : (zeroValue 131).run Tryd.prog w = .ok Value.nilFunc w := by kernel_rfl
set_option maxRecDepth 100000 in
theorem cy_none {w : World} {m : Nat} {k : Int} (h : CyAt w m) (hf : Instr.findNow (.int .i64) (.int .i64 k) cyL 0 = some none) :
    (Instr.lookup 97 (.map (some m)) (.int .i64 k) true).run Tryd.prog w = .ok (.tuple #[Value.nilFunc, .bool false]) w := by
  have hf := run_findKey (w := w) (P := Tryd.prog) cy_key hf
  unfold Instr.lookup
  simp only [Sem.run_bind, run_underlying cy_map, Result.andThen, Go.MapKept.run_getObj_map h, Sem.run_pure, cy_ok, hf, cy_zero, if_true]
theorem cy_find {k : Int} {f : Nat} (hf : cyOf k = some f) : ∃ i, Instr.findNow (.int .i64) (.int .i64 k) cyL 0 = some (some (i, .func (.func f) #[] #[])) := by
  rcases cyOf_kind hf with rfl | rfl | rfl | rfl <;> (obtain rfl := Option.some.inj hf; exact ⟨_, rfl⟩)
set_option maxRecDepth 100000 in
theorem enter_cyconst (vs : Array Value) (w : World) : (callFunc 77 vs).run Tryd.prog w = .ok (.enter 77 vs) w := by go_simp
set_option maxRecDepth 100000 in
theorem enter_cymember (vs : Array Value) (w : World) : (callFunc 78 vs).run Tryd.prog w = .ok (.enter 78 vs) w := by go_simp
set_option maxRecDepth 100000 in
theorem enter_cyctor (vs : Array Value) (w : World) : (callFunc 79 vs).run Tryd.prog w = .ok (.enter 79 vs) w := by go_simp
set_option maxRecDepth 100000 in
theorem enter_cyrec (vs : Array Value) (w : World) : (callFunc 80 vs).run Tryd.prog w = .ok (.enter 80 vs) w := by go_simp
set_option maxRecDepth 100000 in
theorem enter_cyclo (vs : Array Value) (w : World) : (callFunc 118 vs).run Tryd.prog w = .ok (.enter 118 vs) w := by go_simp
/-- what carry looks names up in -/
structure CyOver (W : World) (B : Nat) (ds : List Dc) (ns : List Int) (Ad : Option Addr) (nd cd : Nat) (Aa : Option Addr) (na : Nat) : Prop where
  decls : Dcs W B Ad cd ds
  many : ds.length = nd
  ints : Ints W B Aa ns
  bases : ns.length = na
  good : ∀ z ∈ ns, 0 ≤ z ∧ z ≤ 1099511627776
  small : ∀ d ∈ ds, d.mems.length ≤ 1048576 ∧ d.ctors.length ≤ 1048576
theorem CyOver.below {W W' : World} {B B' : Nat} {ds : List Dc} {ns : List Int} {Ad : Option Addr} {nd cd : Nat} {Aa : Option Addr} {na : Nat} (h : CyOver W B ds ns Ad nd cd Aa na) (hb : Below B W W') (hB : B ≤ B') : CyOver W' B' ds ns Ad nd cd Aa na :=
  ⟨h.decls.below hb hB, h.many, (h.ints.below hb).more hB, h.bases, h.good, h.small⟩
theorem cy_call {W : World} {B : Nat} {ds : List Dc} {ns : List Int} {Ad : Option Addr} {nd cd : Nat} {Aa : Option Addr} {na : Nat} (ca : Nat) (h : CyOver W B ds ns Ad nd cd Aa na) (hB : B ≤ W.heap.size) (k num pos : Int) (A1 : Option Addr) (p1 c1 : Nat) (A2 : Option Addr) (p2 c2 : Nat) (f : Nat) (hf : cyOf k = some f) :
    Calls Tryd.prog f #[BasesV Ad nd cd Aa na ca, .agg #[.int .i64 k, .int .i64 num, .int .i64 pos, .slice A1 p1 c1, .slice A2 p2 c2]] W (OptPost W (cyO ds ns k num pos)) ∧ ∀ vs w, (callFunc f vs).run Tryd.prog w = .ok (.enter f vs) w := by
  rcases cyOf_kind hf with rfl | rfl | rfl | rfl
  · obtain rfl : 77 = f := Option.some.inj hf
    exact ⟨cconst_any ds ns Ad nd cd Aa na ca _ num pos A1 p1 c1 A2 p2 c2 B W hB h.decls h.many h.ints h.bases, enter_cyconst⟩
  · obtain rfl : 78 = f := Option.some.inj hf
    exact ⟨cmember_any ds ns Ad nd cd Aa na ca _ num pos A1 p1 c1 A2 p2 c2 B W hB h.decls h.many h.ints h.bases h.good h.small, enter_cymember⟩
  · obtain rfl : 79 = f := Option.some.inj hf
    exact ⟨cctor_any ds ns Ad nd cd Aa na ca _ num pos A1 p1 c1 A2 p2 c2 B W hB h.decls h.many h.ints h.bases h.good h.small, enter_cyctor⟩
  · obtain rfl : 80 = f := Option.some.inj hf
    exact ⟨crec_any ds ns Ad nd cd Aa na ca _ num pos A1 p1 c1 A2 p2 c2 B W hB h.decls h.many h.ints h.bases h.good h.small, enter_cyrec⟩
set_option maxRecDepth 100000 in
set_option maxHeartbeats 1000000 in
theorem cyclo_any (gf gc gt f : Nat) (Ad : Option Addr) (nd cd : Nat) (Aa : Option Addr) (na ca m : Nat) (k num pos : Int) (A1 : Option Addr) (p1 c1 : Nat) (A2 : Option Addr) (p2 c2 : Nat) (o : Option Int) (w : World)
    (hf : w.cell? ⟨gf, 0, none⟩ = some (.func (.func f) #[] #[])) (hc : w.heap[gc]? = some (.cells #[.slice Ad nd cd, .slice Aa na ca, .map (some m)] 99 (0, 0))) (ht : w.heap[gt]? = some (.cells #[.int .i64 k, .int .i64 num, .int .i64 pos, .slice A1 p1 c1, .slice A2 p2 c2] 27 (0, 0)))
    (hcall : ∀ vs w, (callFunc f vs).run Tryd.prog w = .ok (.enter f vs) w) (hC : Calls Tryd.prog f #[BasesV Ad nd cd Aa na ca, .agg #[.int .i64 k, .int .i64 num, .int .i64 pos, .slice A1 p1 c1, .slice A2 p2 c2]] w (OptPost w o)) :
    Calls Tryd.prog 118 #[.pointer (some ⟨gf, 0, none⟩), .pointer (some ⟨gc, 0, none⟩), .pointer (some ⟨gt, 0, none⟩)] w (OptPost w o) := by
  have a0 := cell_of_row _ _ 0 _ _ (0, 0) hc
  have a1 := cell_of_row _ _ 1 _ _ (0, 0) hc
  have b0 := cell_of_row _ _ 0 _ _ (0, 0) ht
  have b1 := cell_of_row _ _ 1 _ _ (0, 0) ht
  have b2 := cell_of_row _ _ 2 _ _ (0, 0) ht
  have b3 := cell_of_row _ _ 3 _ _ (0, 0) ht
  have b4 := cell_of_row _ _ 4 _ _ (0, 0) ht
  unfold BasesV at hC
  have HC := Lib.hid hC
  clear hc ht hC
  go_enter Tryd.func118, Tryd.ntmps118
  go_wp2_with (fail)
  refine HC.out.mono ?_
  rintro e w2 h
  clear HC hcall a0 a1 b0 b1 b2 b3 b4 hf
  cases o with
  | some x =>
    obtain ⟨rfl, hb⟩ := h.1 x rfl
    have HB := Lib.hid hb
    clear h hb
    go_wp2
    go_ret
    exact OptPost.yes rfl HB.out
  | none =>
    obtain ⟨rfl, hb⟩ := h.2 rfl
    have HB := Lib.hid hb
    clear h hb
    go_wp2
    exact ⟨rfl, OptPost.no ⟨rfl, HB.out⟩⟩
set_option maxRecDepth 100000 in
set_option maxHeartbeats 4000000 in
theorem named_any {W : World} {B : Nat} {ds : List Dc} {ns : List Int} {Ad : Option Addr} {nd cd : Nat} {Aa : Option Addr} {na : Nat} (ca m : Nat) (h : CyOver W B ds ns Ad nd cd Aa na) (hB : B ≤ W.heap.size) (hm : CyAt W m) (hmB : m < B) (k num pos : Int) (A1 : Option Addr) (p1 c1 : Nat) (A2 : Option Addr) (p2 c2 : Nat) (w : World) (hw : Below B W w) :
    Calls Tryd.prog 114 #[CarV Ad nd cd Aa na ca m, .agg #[.int .i64 k, .int .i64 num, .int .i64 pos, .slice A1 p1 c1, .slice A2 p2 c2]] w (fun e w' => e = .returned (.tuple #[.int .i64 ((cyO ds ns k num pos).getD 0), .bool (cyO ds ns k num pos).isSome]) ∧ Below w.heap.size w w') := by
  unfold CarV
  obtain ⟨z1, z2, _⟩ := two_allocs w (.cells #[.slice Ad nd cd, .slice Aa na ca, .map (some m)] 99) (.cells #[.int .i64 k, .int .i64 num, .int .i64 pos, .slice A1 p1 c1, .slice A2 p2 c2] 27)
  obtain ⟨w1, hw1⟩ : ∃ x, (w.alloc (.cells #[.slice Ad nd cd, .slice Aa na ca, .map (some m)] 99)).alloc (.cells #[.int .i64 k, .int .i64 num, .int .i64 pos, .slice A1 p1 c1, .slice A2 p2 c2] 27) = x := ⟨_, rfl⟩
  have hb1 : Below w.heap.size w w1 := by rw [← hw1]; exact ((Below.refl _ _).alloc (Nat.le_refl _) _).alloc (by simp) _
  have hs1 : w1.heap.size = w.heap.size + 2 := by rw [← hw1]; simp
  rw [hw1] at z1 z2
  have hwB : B ≤ w.heap.size := Nat.le_trans hB hw.size
  have hbw1 : Below B W w1 := hw.trans (hb1.mono hwB)
  have hAs : CyAt w1 m := hm.below hbw1 hmB
  have x2 := cell_of_row _ _ 2 _ _ (0, 0) z1
  have y0 := cell_of_row _ _ 0 _ _ (0, 0) z2
  have HB1 := Lib.hid hb1
  have HS1 := Lib.hid hs1
  have X1 := Lib.hid z1
  have X2 := Lib.hid z2
  cases hk : cyOf k with
  | none =>
    obtain ⟨e1, e2, e3, e4⟩ := cyOf_none hk
    have hO : cyO ds ns k num pos = none := by unfold cyO; rw [if_neg e1, if_neg e2, if_neg e3, if_neg e4]
    have hn0 : Instr.findNow (.int .i64) (.int .i64 k) cyL 0 = some none := by
      have f1 : (k == 3) = false := by simpa using e1
      have f2 : (k == 8) = false := by simpa using e2
      have f3 : (k == 9) = false := by simpa using e3
      have f4 : (k == 10) = false := by simpa using e4
      simp [Instr.findNow, cyL, cyE, Instr.sameNow, f1, f2, f3, f4]
    have hlk := cy_none hAs hn0
    rw [hO]
    have HFN : Hid (Below w.heap.size w (w1.alloc (.cells #[Value.nilFunc] 131))) := HB1.out.alloc HB1.out.size _
    have hst : (store ⟨w1.heap.size, 0, none⟩ Value.nilFunc).run Tryd.prog (w1.alloc (.cells #[Value.nilFunc] 131)) = .ok () (w1.alloc (.cells #[Value.nilFunc] 131)) := by
      have hx := heap_alloc_new w1 (.cells #[Value.nilFunc] 131)
      rw [run_store _ _ _ _ _ rfl, cell_of_row _ _ 0 _ _ (0, 0) hx]
      simp [thawed hx 0, setCell_eq_setRow _ _ 0 _ _ _ _ hx, World.setRow_alloc_new]
    clear h hm hw hb1 hs1 z1 z2 hbw1 hAs hk hn0 e1 e2 e3 e4 hO X1 X2
    go_enter Tryd.func114, Tryd.ntmps114
    go_wp2
    go_ret2
    exact ⟨rfl, HFN.out⟩
  | some f =>
    obtain ⟨i0, hfn⟩ := cy_find hk
    have hlk := cy_some hAs hfn
    have hst : (store ⟨w1.heap.size, 0, none⟩ (.func (.func f) #[] #[])).run Tryd.prog (w1.alloc (.cells #[Value.nilFunc] 131)) = .ok () (w1.alloc (.cells #[.func (.func f) #[] #[]] 131)) := by
      have hx := heap_alloc_new w1 (.cells #[Value.nilFunc] 131)
      rw [run_store _ _ _ _ _ rfl, cell_of_row _ _ 0 _ _ (0, 0) hx]
      simp [thawed hx 0, setCell_eq_setRow _ _ 0 _ _ _ _ hx, World.setRow_alloc_new]
    obtain ⟨w2, hw2⟩ : ∃ x, w1.alloc (.cells #[.func (.func f) #[] #[]] 131) = x := ⟨_, rfl⟩
    have hb2 : Below w1.heap.size w1 w2 := by rw [← hw2]; exact (Below.refl _ _).alloc (Nat.le_refl _) _
    have x3 : w2.heap[w1.heap.size]? = some (.cells #[.func (.func f) #[] #[]] 131 (0, 0)) := by rw [← hw2]; exact heap_alloc_new w1 _
    have HT : Hid (Calls Tryd.prog 63 #[.int .i64 18, .func (.func 118) #[] #[.pointer (some ⟨w1.heap.size, 0, none⟩), .pointer (some ⟨w.heap.size, 0, none⟩), .pointer (some ⟨w.heap.size + 1, 0, none⟩)]] w2 (fun e w' => e = .returned (.tuple #[.int .i64 ((cyO ds ns k num pos).getD 0), .int .i64 (if (cyO ds ns k num pos).isSome then 0 else 18)]) ∧ Below w2.heap.size w2 w')) := by
      refine told_opt _ _ 18 _ w2 enter_cyclo fun w' hx => ?_
      have hbx : Below B W w' := (hbw1.trans (hb2.mono (by omega))).trans (hx.mono (by have := hb2.size; omega))
      have q := cy_call ca (h.below hbx (Nat.le_refl _)) (Nat.le_trans hB hbx.size) k num pos A1 p1 c1 A2 p2 c2 f hk
      exact cyclo_any w1.heap.size w.heap.size (w.heap.size + 1) f Ad nd cd Aa na ca m k num pos A1 p1 c1 A2 p2 c2 _ w' (cell_of_row _ _ 0 _ _ (0, 0) ((hx.block _ (heap_some_lt x3)).trans x3)) ((hx.block _ (by have := hb2.size; omega)).trans ((hb2.block _ (by omega)).trans X1.out)) ((hx.block _ (by have := hb2.size; omega)).trans ((hb2.block _ (by omega)).trans X2.out)) q.2 q.1
    have HB2 : Hid (Below w.heap.size w w2) := HB1.out.trans (hb2.mono (by omega))
    have hmf : ∀ (W : World), (Instr.makeFunc (.func 118) #[] #[.pointer (some ⟨w1.heap.size, 0, none⟩), .pointer (some ⟨w.heap.size, 0, none⟩), .pointer (some ⟨w.heap.size + 1, 0, none⟩)]).run Tryd.prog W = .ok (.func (.func 118) #[] #[.pointer (some ⟨w1.heap.size, 0, none⟩), .pointer (some ⟨w.heap.size, 0, none⟩), .pointer (some ⟨w.heap.size + 1, 0, none⟩)]) W := fun _ => rfl
    obtain ⟨o, ho⟩ : ∃ o, cyO ds ns k num pos = o := ⟨_, rfl⟩
    rw [ho] at HT ⊢
    clear h hm hw hb1 hs1 z1 z2 hbw1 hAs hk hfn X1 X2 x3 hb2 ho
    go_enter Tryd.func114, Tryd.ntmps114
    go_wp2_with (fail)
    refine HT.out.mono ?_
    rintro e w3 ⟨rfl, hb3⟩
    have HB3 : Hid (Below w.heap.size w w3) := HB2.out.trans (hb3.mono HB2.out.size)
    clear HT hb3
    cases o with
    | some x =>
      go_wp2
      go_ret2
      exact ⟨rfl, HB3.out⟩
    | none =>
      go_wp2
      go_ret2
      exact ⟨rfl, HB3.out⟩
end Go.Proofs.YtfgnnbpbbnnnhaaDoor
namespace Go.Proofs.YtfgnnbpbbnnnhaaDoor
open Go.RowKit Go.Maps
/-- a node without kids, carried over -/
def leafV (o : Option Int) (k num pos : Int) (A1 : Option Addr) (p1 c1 : Nat) (A2 : Option Addr) (c2 : Nat) : Array Value := match o with
  | some x => #[.int .i64 3, .int .i64 x, .int .i64 0, .slice A1 p1 c1, .slice A2 0 c2]
  | none => #[.int .i64 k, .int .i64 num, .int .i64 pos, .slice A1 p1 c1, .slice A2 0 c2]
theorem leafV_size (o : Option Int) (k num pos : Int) (A1 : Option Addr) (p1 c1 : Nat) (A2 : Option Addr) (c2 : Nat) : (leafV o k num pos A1 p1 c1 A2 c2).size = 5 := by cases o <;> rfl
theorem leafV_one (o : Option Int) (k num pos : Int) (A1 : Option Addr) (p1 c1 : Nat) (A2 : Option Addr) (c2 : Nat) : (leafV o k num pos A1 p1 c1 A2 c2).all (·.oneCell') = true := by cases o <;> simp [leafV, Value.oneCell']
theorem infoT5 : (Tryd.prog.info? 27).map (·.size) = some 5 := by kernel_rfl
def zeroTm : Array Value := #[.int .i64 0, .int .i64 0, .int .i64 0, .slice none 0 0, .slice none 0 0]
set_option maxRecDepth 100000 in
set_option maxHeartbeats 4000000 in
theorem cterm_leaf {W : World} {B : Nat} {ds : List Dc} {ns : List Int} {Ad : Option Addr} {nd cd : Nat} {Aa : Option Addr} {na : Nat} (ca m : Nat) (h : CyOver W B ds ns Ad nd cd Aa na) (hB : B ≤ W.heap.size) (hm : CyAt W m) (hmB : m < B) (k num pos : Int) (A1 : Option Addr) (p1 c1 : Nat) (A2 : Option Addr) (c2 : Nat) (w : World) (hw : Below B W w) :
    Calls Tryd.prog 107 #[CarV Ad nd cd Aa na ca m, .agg #[.int .i64 k, .int .i64 num, .int .i64 pos, .slice A1 p1 c1, .slice A2 0 c2]] w (fun e w' => e = .returned (.agg (leafV (cyO ds ns k num pos) k num pos A1 p1 c1 A2 c2)) ∧ Below w.heap.size w w') := by
  obtain ⟨w1, hw1⟩ : ∃ x, ((w.alloc (.cells #[.slice Ad nd cd, .slice Aa na ca, .map (some m)] 99)).alloc (.cells #[.int .i64 k, .int .i64 num, .int .i64 pos, .slice A1 p1 c1, .slice A2 0 c2] 27)).alloc (.cells zeroTm 27) = x := ⟨_, rfl⟩
  have hb1 : Below w.heap.size w w1 := by rw [← hw1]; exact (((Below.refl _ _).alloc (Nat.le_refl _) _).alloc (by simp) _).alloc (by simp; omega) _
  have hs1 : w1.heap.size = w.heap.size + 3 := by rw [← hw1]; simp
  obtain ⟨z1, z2, _⟩ := two_allocs w (.cells #[.slice Ad nd cd, .slice Aa na ca, .map (some m)] 99) (.cells #[.int .i64 k, .int .i64 num, .int .i64 pos, .slice A1 p1 c1, .slice A2 0 c2] 27)
  have x0 : w1.heap[w.heap.size]? = some (.cells #[.slice Ad nd cd, .slice Aa na ca, .map (some m)] 99 (0, 0)) := by rw [← hw1, Below.heap_alloc _ _ _ (by simp; omega)]; exact z1
  have x1 : w1.heap[w.heap.size + 1]? = some (.cells #[.int .i64 k, .int .i64 num, .int .i64 pos, .slice A1 p1 c1, .slice A2 0 c2] 27 (0, 0)) := by rw [← hw1, Below.heap_alloc _ _ _ (by simp)]; exact z2
  have x2 : w1.heap[w.heap.size + 1 + 1]? = some (.cells zeroTm 27 (0, 0)) := by
    rw [← hw1]
    have := heap_alloc_new ((w.alloc (.cells #[.slice Ad nd cd, .slice Aa na ca, .map (some m)] 99)).alloc (.cells #[.int .i64 k, .int .i64 num, .int .i64 pos, .slice A1 p1 c1, .slice A2 0 c2] 27)) (.cells zeroTm 27)
    simpa using this
  have hwB : B ≤ w.heap.size := Nat.le_trans hB hw.size
  have HN := Lib.hid (named_any ca m h hB hm hmB k num pos A1 p1 c1 A2 0 c2 w1 (hw.trans (hb1.mono hwB)))
  have HB1 := Lib.hid hb1
  have HS1 := Lib.hid hs1
  have X1 := Lib.hid x1
  have X2 := Lib.hid x2
  have y0 := cell_of_row _ _ 0 _ _ (0, 0) x0
  have y1 := cell_of_row _ _ 1 _ _ (0, 0) x0
  have y2 := cell_of_row _ _ 2 _ _ (0, 0) x0
  have a0 := cell_of_row _ _ 0 _ _ (0, 0) x1
  have a1 := cell_of_row _ _ 1 _ _ (0, 0) x1
  have a2 := cell_of_row _ _ 2 _ _ (0, 0) x1
  have a3 := cell_of_row _ _ 3 _ _ (0, 0) x1
  have a4 := cell_of_row _ _ 4 _ _ (0, 0) x1
  obtain ⟨o, ho⟩ : ∃ o, cyO ds ns k num pos = o := ⟨_, rfl⟩
  rw [ho] at HN ⊢
  have hin : Hid ((Tryd.prog.info? 27).map (·.size) = some (leafV o k num pos A1 p1 c1 A2 c2).size) := by show _ = _; rw [leafV_size]; exact infoT5
  have hsz : Hid (zeroTm.size = (leafV o k num pos A1 p1 c1 A2 c2).size) := by show _ = _; rw [leafV_size]; rfl
  have hone := Lib.hid (leafV_one o k num pos A1 p1 c1 A2 c2)
  obtain ⟨cs, hcs⟩ : ∃ y, leafV o k num pos A1 p1 c1 A2 c2 = y := ⟨_, rfl⟩
  rw [hcs] at hin hsz hone ⊢
  have HCS := Lib.hid hcs
  unfold zeroTm at hw1
  unfold CarV at HN ⊢
  clear h hB hm hmB hw hb1 hs1 z1 z2 x0 x1 x2 hwB ho hcs
  go_enter Tryd.func107, Tryd.ntmps107
  go_wp2_with (fail)
  refine HN.out.mono ?_
  rintro e w2 ⟨rfl, hb2⟩
  have Y1 := (hb2.block _ (heap_some_lt X1.out)).trans X1.out
  have Y2 := Lib.hid ((hb2.block _ (heap_some_lt X2.out)).trans X2.out)
  have HB2 : Hid (Below w.heap.size w w2) := HB1.out.trans (hb2.mono HB1.out.size)
  clear HN hb2 y0 y1 y2 a0 a1 a2 a3 a4 hw1
  cases o with
  | some x =>
    have b0 := cell_of_row _ _ 0 _ _ (0, 0) Y1
    have b1 := cell_of_row _ _ 1 _ _ (0, 0) Y1
    have b2 := cell_of_row _ _ 2 _ _ (0, 0) Y1
    have b4 := cell_of_row _ _ 4 _ _ (0, 0) Y1
    have u0 := thawed Y1 0
    have u1 := thawed Y1 1
    have u2 := thawed Y1 2
    have Y3 := Lib.hid (set_same (set_same (set_same Y1 0 (.int .i64 3)) 1 (.int .i64 x)) 2 (.int .i64 0))
    clear Y1
    have HB3 : Hid (Below w.heap.size w (((w2.setCell ⟨w.heap.size + 1, 0, none⟩ (.int .i64 3)).setCell ⟨w.heap.size + 1, 1, none⟩ (.int .i64 x)).setCell ⟨w.heap.size + 1, 2, none⟩ (.int .i64 0))) := ((HB2.out.setCell (by show w.heap.size ≤ w.heap.size + 1; omega) _).setCell (by show w.heap.size ≤ w.heap.size + 1; omega) _).setCell (by show w.heap.size ≤ w.heap.size + 1; omega) _
    have Y2' : Hid ((((w2.setCell ⟨w.heap.size + 1, 0, none⟩ (.int .i64 3)).setCell ⟨w.heap.size + 1, 1, none⟩ (.int .i64 x)).setCell ⟨w.heap.size + 1, 2, none⟩ (.int .i64 0)).heap[w.heap.size + 1 + 1]? = some (.cells zeroTm 27 (0, 0))) := by
      show _ = _
      rw [heap_setCell_other _ _ _ _ (by show w.heap.size + 1 + 1 ≠ w.heap.size + 1; omega), heap_setCell_other _ _ _ _ (by show w.heap.size + 1 + 1 ≠ w.heap.size + 1; omega), heap_setCell_other _ _ _ _ (by show w.heap.size + 1 + 1 ≠ w.heap.size + 1; omega)]
      exact Y2.out
    go_wp2_with (fail)
    obtain ⟨w3, hw3⟩ : ∃ y, ((w2.setCell ⟨w.heap.size + 1, 0, none⟩ (.int .i64 3)).setCell ⟨w.heap.size + 1, 1, none⟩ (.int .i64 x)).setCell ⟨w.heap.size + 1, 2, none⟩ (.int .i64 0) = y := ⟨_, rfl⟩
    rw [hw3] at HB3 Y2' Y3 ⊢
    clear hw3 b0 b1 b2 b4 u0 u1 u2
    go_loopw [23] (fun i wr => i = .int .i64 0 ∧ wr = w3) (fun _ _ => 0)
    case atStart => exact ⟨rfl, rfl⟩
    case round =>
      obtain ⟨rfl, rfl⟩ := hrel
      have Y4 := Y3.out
      have Z2 := Y2'.out
      have Y5 : wr.heap[w.heap.size + 1]? = some (.cells cs 27 (0, 0)) := by rw [← HCS.out]; exact Y4
      have HFF : Hid (Below w.heap.size w (wr.setRow (w.heap.size + 1 + 1) cs)) := below_setRow HB3.out (by omega) _
      have Z3 := Lib.hid (setRow_heap wr (w.heap.size + 1 + 1) _ cs _ _ Z2)
      clear Y4
      go_wp2_with (first | (refine wpList_load_row rfl 27 (.tmp 3) rfl (w.heap.size + 1) rfl 27 cs (0, 0) _ Y5 Tryd.underlying27 rfl hin.out ?_) | (refine wpList_store_row rfl 27 (.tmp 4) (.tmp 36) rfl (w.heap.size + 1 + 1) cs rfl rfl 27 zeroTm Z2 hin.out hsz.out hone.out ?_) | fail)
      exact bodyPost_ret (v := .agg cs) (results_cell_row rfl _ _ (w.heap.size + 1 + 1) 27 cs (0, 0) _ rfl Z3.out Tryd.underlying27 rfl hin.out) rfl ⟨rfl, HFF.out⟩
  | none =>
    have b4 := cell_of_row _ _ 4 _ _ (0, 0) Y1
    have Y3 := Lib.hid Y1
    have HB3 := HB2
    clear Y1
    go_wp2_with (fail)
    clear b4
    go_loopw [23] (fun i wr => i = .int .i64 0 ∧ wr = w2) (fun _ _ => 0)
    case atStart => exact ⟨rfl, rfl⟩
    case round =>
      obtain ⟨rfl, rfl⟩ := hrel
      have Y4 := Y3.out
      have Z2 := Y2.out
      have Y5 : wr.heap[w.heap.size + 1]? = some (.cells cs 27 (0, 0)) := by rw [← HCS.out]; exact Y4
      have HFF : Hid (Below w.heap.size w (wr.setRow (w.heap.size + 1 + 1) cs)) := below_setRow HB3.out (by omega) _
      have Z3 := Lib.hid (setRow_heap wr (w.heap.size + 1 + 1) _ cs _ _ Z2)
      clear Y4
      go_wp2_with (first | (refine wpList_load_row rfl 27 (.tmp 3) rfl (w.heap.size + 1) rfl 27 cs (0, 0) _ Y5 Tryd.underlying27 rfl hin.out ?_) | (refine wpList_store_row rfl 27 (.tmp 4) (.tmp 36) rfl (w.heap.size + 1 + 1) cs rfl rfl 27 zeroTm Z2 hin.out hsz.out hone.out ?_) | fail)
      exact bodyPost_ret (v := .agg cs) (results_cell_row rfl _ _ (w.heap.size + 1 + 1) 27 cs (0, 0) _ rfl Z3.out Tryd.underlying27 rfl hin.out) rfl ⟨rfl, HFF.out⟩
end Go.Proofs.YtfgnnbpbbnnnhaaDoor
