/- Laws. -/
import Derived.Test.YtfgnnbpbbnnnhaaDoorRraf
import Derived.Test.YtfgnnbpbbnnnhaaDoorRrag
import Derived.Test.YtfgnnbpbbnnnhaaDoorRraq
import Derived.MapKept
import Derived.Carry
namespace Go.Proofs.YtfgnnbpbbnnnhaaDoor
open Go.RowKit Go.Maps Go.ChangeMaps Go.MapKept
/-- an entry of the table: a method, of the walk that it was taken of -/
def srE (v : Value) (i : Nat) (k : Int) (f : Nat) : MapEntry := { key := .int .i64 k, val := .func (.func f) #[v] #[], born := i }
def srL (v : Value) : List MapEntry := [srE v 0 1 90, srE v 1 2 91, srE v 2 3 92, srE v 3 4 91, srE v 4 5 91, srE v 5 6 91, srE v 6 7 91, srE v 7 8 93, srE v 8 9 94, srE v 9 10 95, srE v 10 11 96]
/-- the table lies in block m -/
def SrAt (w : World) (m : Nat) (v : Value) : Prop := w.heap[m]? = some (.map (srL v).toArray 11)
theorem SrAt.below {w w' : World} {m B : Nat} {v : Value} (h : SrAt w m v) (hb : Below B w w') (hm : m < B) : SrAt w' m v := (hb.block m hm).trans h
theorem sr_key : Tryd.prog.underlying 23 = some (.int .i64) := by kernel_rfl
theorem sr_map : Tryd.prog.underlying 116 = some (.map 23 120) := by kernel_rfl
theorem sr_ok (k : Int) (e : Bool) (w : World) : (Instr.checkKey e 10000 23 (.int .i64 k)).run Tryd.prog w = .ok () w := run_checkKey (n := 9999) sr_key (by simp [IsKey]) e
theorem sr_insert {w : World} {b i : Nat} {es : List MapEntry} {k : Int} {f : Nat} {v : Value} (h : w.heap[b]? = some (.map es.toArray i)) (hn : Instr.findNow (.int .i64) (.int .i64 k) es 0 = some none) :
    (Instr.mapUpdate 116 (.map (some b)) (.int .i64 k) (.func (.func f) #[v] #[])).run Tryd.prog w = .ok () (setBlock w b (.map (es ++ [srE v i k f]).toArray (i + 1))) := by
  have hf := run_findKey (w := w) (P := Tryd.prog) sr_key hn
  unfold Instr.mapUpdate
  simp only [Sem.run_bind, run_underlying sr_map, Result.andThen, Go.MapKept.run_getObj_map h, sr_ok, hf, Go.MapKept.run_setObj_map _ h]
  simp [setBlock, srE]
theorem sr_post {w0 w : World} {b i : Nat} {es : List MapEntry} {k : Int} {f : Nat} {v : Value} (h : w.heap[b]? = some (.map es.toArray i)) (hb : Below w0.heap.size w0 w) (hle : w0.heap.size ≤ b) :
    (setBlock w b (.map (es ++ [srE v i k f]).toArray (i + 1))).heap[b]? = some (.map (es ++ [srE v i k f]).toArray (i + 1)) ∧ Below w0.heap.size w0 (setBlock w b (.map (es ++ [srE v i k f]).toArray (i + 1))) :=
  ⟨heap_setBlock_same h _, ⟨hb.os, hb.tape, hb.output, by simpa [setBlock] using hb.size, fun j hj => (heap_setBlock_other h _ (by omega)).trans (hb.block j hj)⟩⟩
theorem wpList_sr {ops : Array Oper} {rest : List Oper} {o : Oper} {a : Act} {Q : Exit → Act → World → Prop} {w0 w : World} (hg : o.guard = none) (mm kk xx : Operand) (hop : o.op = Op.insert 116 mm kk xx)
    (b i : Nat) (es : List MapEntry) (k : Int) (f : Nat) (v : Value) (hm : a.eval mm = .map (some b)) (hk : a.eval kk = .int .i64 k) (hx : a.eval xx = .func (.func f) #[v] #[]) (h : w.heap[b]? = some (.map es.toArray i)) (hb : Below w0.heap.size w0 w) (hle : w0.heap.size ≤ b)
    (hn : Instr.findNow (.int .i64) (.int .i64 k) es 0 = some none)
    (hK : ∀ w', w'.heap[b]? = some (.map (es ++ [srE v i k f]).toArray (i + 1)) → Below w0.heap.size w0 w' → wpList Tryd.prog ops Q rest (a.put o.dst undef) w') : wpList Tryd.prog ops Q (o :: rest) a w := by
  refine wpList_plain hg fun K' hK' => ?_
  have hrun := sr_insert (f := f) (v := v) h hn
  obtain ⟨q1, q2⟩ := sr_post (k := k) (f := f) (v := v) h hb hle
  unfold Oper.wp
  simp [execOp, hop, hm, hk, hx, hrun, Result.andThen]
  exact hK' _ _ (hK _ q1 q2)
theorem infoSw : (Tryd.prog.info? 118).map (·.size) = some 5 := by kernel_rfl
def swC (Ad : Option Addr) (nd cd : Nat) (n sc sf : Int) (m : Option Nat) : Array Value := #[.slice Ad nd cd, .int .i64 n, .int .i64 sc, .int .i64 sf, .map m]
def swZ : Array Value := #[.slice none 0 0, .int .i64 0, .int .i64 0, .int .i64 0, .map none]
set_option maxRecDepth 100000 in
set_option maxHeartbeats 4000000 in
theorem sstart_any (Ad : Option Addr) (nd cd : Nat) (n sc sf : Int) (w : World) : Calls Tryd.prog 65 #[OvV Ad nd cd n sc sf] w (fun e w' => ∃ m, e = .returned (SwV Ad nd cd n sc sf (some m)) ∧ w.heap.size ≤ m ∧ m < w'.heap.size ∧ SrAt w' m (SwV Ad nd cd n sc sf none) ∧ Below w.heap.size w w') := by
  have hmm := @run_makeMap Tryd.prog
  obtain ⟨wo, hwo⟩ : ∃ x, (w.alloc (.cells #[.slice Ad nd cd, .int .i64 n, .int .i64 sc, .int .i64 sf] 69)).alloc (.cells swZ 118) = x := ⟨_, rfl⟩
  obtain ⟨wa, hwa⟩ : ∃ x, wo.alloc (.cells (swC Ad nd cd n sc sf none) 118) = x := ⟨_, rfl⟩
  have hbo : Below w.heap.size w wo := by rw [← hwo]; exact stwo w _ _
  have hso : wo.heap.size = w.heap.size + 1 + 1 := by rw [← hwo]; simp
  have hba : Below wo.heap.size wo wa := by rw [← hwa]; exact (Below.refl _ _).alloc (Nat.le_refl _) _
  have hsa : wa.heap.size = w.heap.size + 1 + 1 + 1 := by rw [← hwa]; simp [hso]
  obtain ⟨z0, z1, _⟩ := two_allocs w (.cells #[.slice Ad nd cd, .int .i64 n, .int .i64 sc, .int .i64 sf] 69) (.cells swZ 118)
  rw [hwo] at z0 z1
  have f0 := cell_of_row _ _ 0 _ _ (0, 0) z0
  have f1 := cell_of_row _ _ 1 _ _ (0, 0) z0
  have f2 := cell_of_row _ _ 2 _ _ (0, 0) z0
  have f3 := cell_of_row _ _ 3 _ _ (0, 0) z0
  have x1 := (hba.block _ (heap_some_lt z1)).trans z1
  have x2 : wa.heap[w.heap.size + 1 + 1]? = some (.cells (swC Ad nd cd n sc sf none) 118 (0, 0)) := by rw [← hwa, ← hso]; exact heap_alloc_new wo _
  have a4 := cell_of_row _ _ 4 _ _ (0, 0) x2
  have b4 := thawed x2 4
  obtain ⟨wb, hwb⟩ : ∃ x, wa.setCell ⟨w.heap.size + 1 + 1, 4, none⟩ (.map none) = x := ⟨_, rfl⟩
  have y1 : wb.heap[w.heap.size + 1]? = some (.cells swZ 118 (0, 0)) := by rw [← hwb]; exact (Below.heap_setCell _ _ _ _ (by show w.heap.size + 1 ≠ w.heap.size + 1 + 1; omega)).trans x1
  have y2 : wb.heap[w.heap.size + 1 + 1]? = some (.cells (swC Ad nd cd n sc sf none) 118 (0, 0)) := by rw [← hwb]; exact set_same x2 4 (.map none)
  have hsb : wb.heap.size = w.heap.size + 1 + 1 + 1 := by rw [← hwb]; simp [hsa]
  have hbb : Below w.heap.size w wb := by rw [← hwb]; exact (hbo.trans (hba.mono (by omega))).setCell (by show w.heap.size ≤ w.heap.size + 1 + 1; omega) _
  have hb : Below wb.heap.size wb (wb.alloc (.map #[] 0)) := (Below.refl _ _).alloc (Nat.le_refl _) _
  have hz : (wb.alloc (.map #[] 0)).heap[w.heap.size + 1 + 1 + 1]? = some (.map ([] : List MapEntry).toArray 0) := by rw [← hsb]; exact heap_alloc_new wb _
  have hc := (hb.block _ (heap_some_lt y2)).trans y2
  have hle : wb.heap.size ≤ w.heap.size + 1 + 1 + 1 := by omega
  have X1 := Lib.hid y1
  have X2 := Lib.hid y2
  have HBB := Lib.hid hbb
  have HSB := Lib.hid hsb
  have c0 := cell_of_row _ _ 0 _ _ (0, 0) hc
  have c1 := cell_of_row _ _ 1 _ _ (0, 0) hc
  have c2 := cell_of_row _ _ 2 _ _ (0, 0) hc
  have c3 := cell_of_row _ _ 3 _ _ (0, 0) hc
  have c4 := cell_of_row _ _ 4 _ _ (0, 0) hc
  have u4 := thawed hc 4
  unfold swZ at hwo
  unfold swC at hwa a4 c0 c1 c2 c3 c4
  unfold OvV
  clear x1 x2 hbo hba hsa z0 z1 y1 y2 hbb
  go_enter Tryd.func65, Tryd.ntmps65
  go_upto_region 3 with (first | (refine wpList_sr (w0 := wb) rfl _ _ _ rfl (w.heap.size + 1 + 1 + 1) _ _ _ _ _ rfl rfl rfl (by assumption) (by assumption) hle (by rfl) ?_; clear hz hb hc c0 c1 c2 c3 c4 u4; intro w' hz hb; have hc := (hb.block _ (heap_some_lt X2.out)).trans X2.out; have c0 := cell_of_row _ _ 0 _ _ (0, 0) hc; have c1 := cell_of_row _ _ 1 _ _ (0, 0) hc; have c2 := cell_of_row _ _ 2 _ _ (0, 0) hc; have c3 := cell_of_row _ _ 3 _ _ (0, 0) hc; have c4 := cell_of_row _ _ 4 _ _ (0, 0) hc; have u4 := thawed hc 4; unfold swC at c0 c1 c2 c3 c4) | fail)
  have HZ : Hid (w'.heap[w.heap.size + 1 + 1 + 1]? = some (.map (srL (SwV Ad nd cd n sc sf none)).toArray 11)) := hz
  have HX : Hid (Below w.heap.size w w') := HBB.out.trans (hb.mono HBB.out.size)
  obtain ⟨wz, hwz⟩ : ∃ x, w'.setCell ⟨w.heap.size + 1 + 1, 4, none⟩ (.map (some (w.heap.size + 1 + 1 + 1))) = x := ⟨_, rfl⟩
  have q2 : wz.heap[w.heap.size + 1 + 1]? = some (.cells (swC Ad nd cd n sc sf (some (w.heap.size + 1 + 1 + 1))) 118 (0, 0)) := by rw [← hwz]; exact set_same hc 4 _
  have q1 : wz.heap[w.heap.size + 1]? = some (.cells swZ 118 (0, 0)) := by rw [← hwz]; exact (Below.heap_setCell _ _ _ _ (by show w.heap.size + 1 ≠ w.heap.size + 1 + 1; omega)).trans ((hb.block _ (heap_some_lt X1.out)).trans X1.out)
  have q3 : SrAt wz (w.heap.size + 1 + 1 + 1) (SwV Ad nd cd n sc sf none) := by
    show _ = _
    rw [← hwz]
    exact (Below.heap_setCell _ _ _ _ (by show w.heap.size + 1 + 1 + 1 ≠ w.heap.size + 1 + 1; omega)).trans HZ.out
  have q4 : Below w.heap.size w wz := by rw [← hwz]; exact HX.out.setCell (by show w.heap.size ≤ w.heap.size + 1 + 1; omega) _
  have Q3 := Lib.hid q3
  have Q4 := Lib.hid q4
  have Z1 := Lib.hid (setRow_heap wz (w.heap.size + 1) _ (swC Ad nd cd n sc sf (some (w.heap.size + 1 + 1 + 1))) _ _ q1)
  have hall : Hid ((swC Ad nd cd n sc sf (some (w.heap.size + 1 + 1 + 1))).all (·.oneCell') = true) := by show _ = _; simp [swC, Value.oneCell']
  rw [hwz]
  clear hz hb hc c0 c1 c2 c3 c4 u4 q3 q4 a4 b4 hwb hwa hwo hsb HZ HX hwz
  go_wp2_with (first | (refine wpList_load_row rfl 118 (.tmp 3) rfl (w.heap.size + 1 + 1) rfl 118 (swC Ad nd cd n sc sf (some (w.heap.size + 1 + 1 + 1))) (0, 0) _ q2 Tryd.underlying118 rfl infoSw ?_) | (refine wpList_store_row rfl 118 (.tmp 2) (.tmp 31) rfl (w.heap.size + 1) (swC Ad nd cd n sc sf (some (w.heap.size + 1 + 1 + 1))) rfl rfl 118 swZ q1 infoSw rfl hall.out ?_) | fail)
  exact bodyPost_ret (v := SwV Ad nd cd n sc sf (some (w.heap.size + 1 + 1 + 1))) (results_cell_row rfl _ _ (w.heap.size + 1) 118 (swC Ad nd cd n sc sf (some (w.heap.size + 1 + 1 + 1))) (0, 0) _ rfl Z1.out Tryd.underlying118 rfl infoSw) rfl ⟨_, rfl, by omega, by rw [setRow_size]; exact heap_some_lt Q3.out, (by show _ = _; rw [setRow_other _ _ _ _ (by omega)]; exact Q3.out), below_setRow Q4.out (by omega) _⟩
/-- which function asks of a kind -/
def askSOf (k : Int) : Option Nat :=
  if k = 1 then some 90
  else if k = 2 then some 91
  else if k = 3 then some 92
  else if k = 4 then some 91
  else if k = 5 then some 91
  else if k = 6 then some 91
  else if k = 7 then some 91
  else if k = 8 then some 93
  else if k = 9 then some 94
  else if k = 10 then some 95
  else if k = 11 then some 96
  else none
theorem askSOf_kind {k : Int} {f : Nat} (h : askSOf k = some f) : k = 1 ∨ k = 2 ∨ k = 3 ∨ k = 4 ∨ k = 5 ∨ k = 6 ∨ k = 7 ∨ k = 8 ∨ k = 9 ∨ k = 10 ∨ k = 11 := by
  by_cases e : k = 1 ∨ k = 2 ∨ k = 3 ∨ k = 4 ∨ k = 5 ∨ k = 6 ∨ k = 7 ∨ k = 8 ∨ k = 9 ∨ k = 10 ∨ k = 11
  · exact e
  · unfold askSOf at h
    rw [if_neg (by omega), if_neg (by omega), if_neg (by omega), if_neg (by omega), if_neg (by omega), if_neg (by omega), if_neg (by omega), if_neg (by omega), if_neg (by omega), if_neg (by omega), if_neg (by omega)] at h
    cases h
theorem askSOf_none {k : Int} (h : askSOf k = none) : k ≠ 1 ∧ k ≠ 2 ∧ k ≠ 3 ∧ k ≠ 4 ∧ k ≠ 5 ∧ k ≠ 6 ∧ k ≠ 7 ∧ k ≠ 8 ∧ k ≠ 9 ∧ k ≠ 10 ∧ k ≠ 11 := by
  refine ⟨?_, ?_, ?_, ?_, ?_, ?_, ?_, ?_, ?_, ?_, ?_⟩ <;> (rintro rfl; exact absurd h (by decide))
set_option maxRecDepth 100000 in
theorem sr_some {w : World} {m i : Nat} {k : Int} {u v : Value} (h : SrAt w m u) (hf : Instr.findNow (.int .i64) (.int .i64 k) (srL u) 0 = some (some (i, v))) :
    (Instr.lookup 116 (.map (some m)) (.int .i64 k) true).run Tryd.prog w = .ok (.tuple #[v, .bool true]) w := by
  have hf := run_findKey (w := w) (P := Tryd.prog) sr_key hf
  unfold Instr.lookup
  simp only [Sem.run_bind, run_underlying sr_map, Result.andThen, Go.MapKept.run_getObj_map h, Sem.run_pure, sr_ok, hf, if_true]
theorem sr_zero (w : World) : (zeroValue 120).run Tryd.prog w = .ok Value.nilFunc w := by kernel_rfl
set_option maxRecDepth 100000 in
theorem sr_none {w : World} {m : Nat} {k : Int} {u : Value} (h : SrAt w m u) (hf : Instr.findNow (.int .i64) (.int .i64 k) (srL u) 0 = some none) :
    (Instr.lookup 116 (.map (some m)) (.int .i64 k) true).run Tryd.prog w = .ok (.tuple #[Value.nilFunc, .bool false]) w := by
  have hf := run_findKey (w := w) (P := Tryd.prog) sr_key hf
  unfold Instr.lookup
  simp only [Sem.run_bind, run_underlying sr_map, Result.andThen, Go.MapKept.run_getObj_map h, Sem.run_pure, sr_ok, hf, sr_zero, if_true]
theorem sr_find {k : Int} {f : Nat} (hf : askSOf k = some f) (u : Value) : ∃ i, Instr.findNow (.int .i64) (.int .i64 k) (srL u) 0 = some (some (i, .func (.func f) #[u] #[])) := by
  rcases askSOf_kind hf with rfl | rfl | rfl | rfl | rfl | rfl | rfl | rfl | rfl | rfl | rfl <;> (obtain rfl := Option.some.inj hf; exact ⟨_, rfl⟩)
set_option maxRecDepth 100000 in
theorem enter_svar (vs : Array Value) (w : World) : (callFunc 90 vs).run Tryd.prog w = .ok (.enter 90 vs) w := by go_simp
set_option maxRecDepth 100000 in
theorem enter_splain (vs : Array Value) (w : World) : (callFunc 91 vs).run Tryd.prog w = .ok (.enter 91 vs) w := by go_simp
set_option maxRecDepth 100000 in
theorem enter_sconst (vs : Array Value) (w : World) : (callFunc 92 vs).run Tryd.prog w = .ok (.enter 92 vs) w := by go_simp
set_option maxRecDepth 100000 in
theorem enter_smember (vs : Array Value) (w : World) : (callFunc 93 vs).run Tryd.prog w = .ok (.enter 93 vs) w := by go_simp
set_option maxRecDepth 100000 in
theorem enter_sctor (vs : Array Value) (w : World) : (callFunc 94 vs).run Tryd.prog w = .ok (.enter 94 vs) w := by go_simp
set_option maxRecDepth 100000 in
theorem enter_srec (vs : Array Value) (w : World) : (callFunc 95 vs).run Tryd.prog w = .ok (.enter 95 vs) w := by go_simp
set_option maxRecDepth 100000 in
theorem enter_sown (vs : Array Value) (w : World) : (callFunc 96 vs).run Tryd.prog w = .ok (.enter 96 vs) w := by go_simp
/-- has a node what its kind has? -/
noncomputable def askSB (sc sf : Int) (ds : List Dc) (d : Nat) (k num pos : Int) (nl : Nat) : Bool := by classical exact decide (AskS sc sf ds d k num pos nl)
theorem askSB_iff (sc sf : Int) (ds : List Dc) (d : Nat) (k num pos : Int) (nl : Nat) : askSB sc sf ds d k num pos nl = true ↔ AskS sc sf ds d k num pos nl := by unfold askSB; simp
theorem askSB_of {sc sf : Int} {ds : List Dc} {d : Nat} {k num pos : Int} {nl : Nat} {b : Bool} (h : b = true ↔ AskS sc sf ds d k num pos nl) : b = askSB sc sf ds d k num pos nl := by
  rw [← askSB_iff] at h
  cases b <;> cases e : askSB sc sf ds d k num pos nl <;> simp_all
theorem askSB_none {sc sf : Int} {ds : List Dc} {d : Nat} {k num pos : Int} {nl : Nat} (h : askSOf k = none) : ¬ AskS sc sf ds d k num pos nl := by
  obtain ⟨e1, e2, e3, e4, e5, e6, e7, e8, e9, e10, e11⟩ := askSOf_none h
  unfold AskS
  rintro (h | h | h | h | h | h | h)
  · exact e1 h.1
  · omega
  · exact e3 h.1
  · exact e8 h.1
  · exact e9 h.1
  · exact e10 h.1
  · exact e11 h.1
set_option maxRecDepth 100000 in
theorem sask_call (ds : List Dc) (Ad : Option Addr) (nd cd : Nat) (n sc sf : Int) (m : Option Nat) (k num pos : Int) (A1 : Option Addr) (p1 c1 : Nat) (A2 : Option Addr) (p2 c2 d B : Nat) (w : World) (hB : B ≤ w.heap.size) (hd : Dcs w B Ad cd ds) (hnd : ds.length = nd) (hp1 : p1 ≤ 1048576) (hd9 : d ≤ 1073741824) (hn : Rng num) (f : Nat) (hf : askSOf k = some f) :
    Calls Tryd.prog f #[SwV Ad nd cd n sc sf m, .agg #[.int .i64 k, .int .i64 num, .int .i64 pos, .slice A1 p1 c1, .slice A2 p2 c2], .int .i64 (d : Int)] w (MustPost w 4 (askSB sc sf ds d k num pos p1)) ∧ ∀ vs w, (callFunc f vs).run Tryd.prog w = .ok (.enter f vs) w := by
  rcases askSOf_kind hf with rfl | rfl | rfl | rfl | rfl | rfl | rfl | rfl | rfl | rfl | rfl
  · obtain rfl : 90 = f := Option.some.inj hf
    rw [← askSB_of (b := decide (num < d) || decide (num - d < sc)) (by unfold AskS; simp)]
    exact ⟨svar_any Ad nd cd n sc sf m 1 num pos A1 p1 c1 A2 p2 c2 d w hd9 hn, enter_svar⟩
  · obtain rfl : 91 = f := Option.some.inj hf
    rw [← askSB_of (b := true) (by unfold AskS; simp)]
    exact ⟨splain_any Ad nd cd n sc sf m 2 num pos A1 p1 c1 A2 p2 c2 d w, enter_splain⟩
  · obtain rfl : 92 = f := Option.some.inj hf
    exact ⟨sconst_any ds Ad nd cd n sc sf m 3 num pos A1 p1 c1 A2 p2 c2 d B w hB hd hnd hp1 _ (by rw [askSB_iff]; unfold AskS; simp), enter_sconst⟩
  · obtain rfl : 91 = f := Option.some.inj hf
    rw [← askSB_of (b := true) (by unfold AskS; simp)]
    exact ⟨splain_any Ad nd cd n sc sf m 4 num pos A1 p1 c1 A2 p2 c2 d w, enter_splain⟩
  · obtain rfl : 91 = f := Option.some.inj hf
    rw [← askSB_of (b := true) (by unfold AskS; simp)]
    exact ⟨splain_any Ad nd cd n sc sf m 5 num pos A1 p1 c1 A2 p2 c2 d w, enter_splain⟩
  · obtain rfl : 91 = f := Option.some.inj hf
    rw [← askSB_of (b := true) (by unfold AskS; simp)]
    exact ⟨splain_any Ad nd cd n sc sf m 6 num pos A1 p1 c1 A2 p2 c2 d w, enter_splain⟩
  · obtain rfl : 91 = f := Option.some.inj hf
    rw [← askSB_of (b := true) (by unfold AskS; simp)]
    exact ⟨splain_any Ad nd cd n sc sf m 7 num pos A1 p1 c1 A2 p2 c2 d w, enter_splain⟩
  · obtain rfl : 93 = f := Option.some.inj hf
    exact ⟨smember_any ds Ad nd cd n sc sf m 8 num pos A1 p1 c1 A2 p2 c2 d B w hB hd hnd hp1 _ (by rw [askSB_iff]; unfold AskS; simp), enter_smember⟩
  · obtain rfl : 94 = f := Option.some.inj hf
    exact ⟨sctor_any ds Ad nd cd n sc sf m 9 num pos A1 p1 c1 A2 p2 c2 d B w hB hd hnd hp1 _ (by rw [askSB_iff]; unfold AskS; simp), enter_sctor⟩
  · obtain rfl : 95 = f := Option.some.inj hf
    exact ⟨srec_any ds Ad nd cd n sc sf m 10 num pos A1 p1 c1 A2 p2 c2 d B w hB hd hnd hp1 _ (by rw [askSB_iff]; unfold AskS; simp), enter_srec⟩
  · obtain rfl : 96 = f := Option.some.inj hf
    rw [← askSB_of (b := decide (pos < sf)) (by unfold AskS; simp)]
    exact ⟨sown_any Ad nd cd n sc sf m 11 num pos A1 p1 c1 A2 p2 c2 d w, enter_sown⟩
end Go.Proofs.YtfgnnbpbbnnnhaaDoor
namespace Go.Proofs.YtfgnnbpbbnnnhaaDoor
open Go.RowKit Go.Maps Go.ChangeMaps Go.MapKept
/-- is a term right in the source, so many binders deep? -/
noncomputable def srcB (n sc sf : Int) (ds : List Dc) (d : Nat) (t : Tm) : Bool := by classical exact decide (t.src n sc sf ds d)
theorem srcB_iff (n sc sf : Int) (ds : List Dc) (d : Nat) (t : Tm) : srcB n sc sf ds d t = true ↔ t.src n sc sf ds d := by unfold srcB; simp
/-- is a level right? -/
noncomputable def rlS (ps : List (Int × Int)) (n : Int) : Bool := by classical exact decide (RightS ps n)
theorem rlS_iff (ps : List (Int × Int)) (n : Int) : rlS ps n = true ↔ RightS ps n := by unfold rlS; simp
def SrcTm (W : World) (B m : Nat) (n sc sf : Int) (ds : List Dc) (Ad : Option Addr) (nd cd : Nat) (t : Tm) : Prop := t.fit → ∀ (d : Nat) (v : Value) (w : World), d + t.size ≤ 1073741824 → Below B W w → TmAt W B t v →
  Calls Tryd.prog 66 #[SwV Ad nd cd n sc sf (some m), v, .int .i64 (d : Int)] w (MustPost w 4 (srcB n sc sf ds d t))
set_option maxRecDepth 100000 in
set_option maxHeartbeats 8000000 in
theorem src_of (W : World) (B m : Nat) (n sc sf : Int) (ds : List Dc) (Ad : Option Addr) (nd cd : Nat) (hB : 0 < B) (hBW : B ≤ W.heap.size) (hK : KindsAt W) (hm : SrAt W m (SwV Ad nd cd n sc sf none)) (hmB : m < B) (hds : Dcs W B Ad cd ds) (hnd : ds.length = nd)
    (k num pos : Int) (lv : List (List (Int × Int))) (kids : List Tm) (ih : ∀ t ∈ kids, SrcTm W B m n sc sf ds Ad nd cd t) : SrcTm W B m n sc sf ds Ad nd cd (.mk k num pos lv kids) := by
  intro hf d v w hd hb hv
  obtain ⟨A1, c1, A2, c2, rfl, q1, q2, q3⟩ := hv.open
  rw [Tm.fit_mk] at hf
  rw [Tm.size_mk] at hd
  obtain ⟨p1, hp1⟩ : ∃ p, lv.length = p := ⟨_, rfl⟩
  obtain ⟨p2, hp2⟩ : ∃ p, kids.length = p := ⟨_, rfl⟩
  obtain ⟨r, hr⟩ : ∃ r, srcB n sc sf ds d (.mk k num pos lv kids) = r := ⟨_, rfl⟩
  have hrr : r = true ↔ AskS sc sf ds d k num pos p1 ∧ (∀ l ∈ lv, RightS l n) ∧ ∀ (j : Nat) (t : Tm), kids[j]? = some t → t.src n sc sf ds (d + under k j) := by
    rw [← hr, srcB_iff, Tm.src_mk, hp1, Tm.srcL_iff]
    simp only [Nat.zero_add]
  rw [hr, hp1, hp2]
  have hwB : B ≤ w.heap.size := Nat.le_trans hBW hb.size
  obtain ⟨w1, hw1⟩ : ∃ x, (w.alloc (.cells #[.slice Ad nd cd, .int .i64 n, .int .i64 sc, .int .i64 sf, .map (some m)] 118)).alloc (.cells #[.int .i64 k, .int .i64 num, .int .i64 pos, .slice A1 p1 c1, .slice A2 p2 c2] 27) = x := ⟨_, rfl⟩
  have hb1 : Below w.heap.size w w1 := by rw [← hw1]; exact stwo w _ _
  have hs1 : w1.heap.size = w.heap.size + 1 + 1 := by rw [← hw1]; simp
  obtain ⟨z1, z2, _⟩ := two_allocs w (.cells #[.slice Ad nd cd, .int .i64 n, .int .i64 sc, .int .i64 sf, .map (some m)] 118) (.cells #[.int .i64 k, .int .i64 num, .int .i64 pos, .slice A1 p1 c1, .slice A2 p2 c2] 27)
  rw [hw1] at z1 z2
  have hbw1 : Below B W w1 := hb.trans (hb1.mono hwB)
  have hAs := hm.below hbw1 hmB
  have x4 := cell_of_row _ _ 4 _ _ (0, 0) z1
  have y0 := cell_of_row _ _ 0 _ _ (0, 0) z2
  have X0 := Lib.hid z1
  have X1 := Lib.hid z2
  have HB1 := Lib.hid hb1
  have HS := Lib.hid hs1
  have HBW1 := Lib.hid hbw1
  have HBD := Lib.hid hb
  have HWB := Lib.hid hwB
  have HRR := Lib.hid hrr
  have HF := Lib.hid hf
  have HD := Lib.hid hd
  have HP1 := Lib.hid hp1
  have HP2 := Lib.hid hp2
  have HL := Lib.hid q2
  have HQ := Lib.hid q3
  have HK := Lib.hid hK
  have HB := Lib.hid hB
  have HBWW := Lib.hid hBW
  have IH := Lib.hid ih
  have HM1 := Lib.hid (fun b => smust_one b w1 w1.heap.size rfl)
  cases hk : askSOf k with
  | none =>
    obtain ⟨e1, e2, e3, e4, e5, e6, e7, e8, e9, e10, e11⟩ := askSOf_none hk
    have hn0 : Instr.findNow (.int .i64) (.int .i64 k) (srL (SwV Ad nd cd n sc sf none)) 0 = some none := by
      have f1 : (k == 1) = false := by simpa using e1
      have f2 : (k == 2) = false := by simpa using e2
      have f3 : (k == 3) = false := by simpa using e3
      have f4 : (k == 4) = false := by simpa using e4
      have f5 : (k == 5) = false := by simpa using e5
      have f6 : (k == 6) = false := by simpa using e6
      have f7 : (k == 7) = false := by simpa using e7
      have f8 : (k == 8) = false := by simpa using e8
      have f9 : (k == 9) = false := by simpa using e9
      have f10 : (k == 10) = false := by simpa using e10
      have f11 : (k == 11) = false := by simpa using e11
      simp [Instr.findNow, srL, srE, Instr.sameNow, f1, f2, f3, f4, f5, f6, f7, f8, f9, f10, f11]
    have hlk := sr_none hAs hn0
    have hrf : r = false := by
      cases r with
      | false => rfl
      | true => exact absurd (hrr.1 rfl).1 (askSB_none hk)
    subst hrf
    clear hf hd hp1 hp2 q1 q2 q3 hr hrr hb1 hs1 z1 z2 hbw1 hb hwB hK hB hBW hnd hds ih hm hAs hn0 hv hmB
    unfold SwV
    go_enter Tryd.func66, Tryd.ntmps66
    go_wp2_with (fail)
    refine (HM1.out false).mono ?_
    rintro e w2 h
    obtain ⟨rfl, hb2⟩ := h.2 rfl
    have HFF := Lib.hid (HB1.out.trans (hb2.mono HB1.out.size))
    clear h hb2
    go_wp2
    exact ⟨rfl, MustPost.no ⟨rfl, HFF.out⟩⟩
  | some f =>
    obtain ⟨i0, hfn⟩ := sr_find hk (SwV Ad nd cd n sc sf none)
    have hlk := sr_some hAs hfn
    obtain ⟨ab, hab⟩ : ∃ x, askSB sc sf ds d k num pos p1 = x := ⟨_, rfl⟩
    have hab2 : ab = true ↔ AskS sc sf ds d k num pos p1 := by rw [← hab]; exact askSB_iff ..
    have hp19 : p1 ≤ 1048576 := by rw [← hp1]; exact hf.2.1.1
    have HCC : Hid (∀ W', Below w1.heap.size w1 W' → Calls Tryd.prog f #[SwV Ad nd cd n sc sf none, .agg #[.int .i64 k, .int .i64 num, .int .i64 pos, .slice A1 p1 c1, .slice A2 p2 c2], .int .i64 (d : Int)] W' (MustPost W' 4 ab)) := fun W' hW => by
      have hbx : Below B W W' := hbw1.trans (hW.mono (Nat.le_trans hwB hb1.size))
      rw [← hab]
      exact (sask_call ds Ad nd cd n sc sf none k num pos A1 p1 c1 A2 p2 c2 d B W' (Nat.le_trans hBW hbx.size) (hds.below hbx (Nat.le_refl _)) hnd hp19 (by omega) hf.1 f hk).1
    have hcall := (sask_call ds Ad nd cd n sc sf none k num pos A1 p1 c1 A2 p2 c2 d B w1 (Nat.le_trans hBW hbw1.size) (hds.below hbw1 (Nat.le_refl _)) hnd hp19 (by omega) hf.1 f hk).2
    have HAB := Lib.hid hab2
    clear hf hd hp1 hp2 q1 q2 q3 hr hrr hb1 hs1 z1 z2 hbw1 hb hwB hK hB hBW hnd hds ih hm hAs hfn hv hmB hab hab2 hk hp19
    unfold SwV at HCC hlk ⊢
    go_enter Tryd.func66, Tryd.ntmps66
    go_wp2_with (fail)
    refine (HM1.out true).mono ?_
    rintro e w2 h
    obtain ⟨rfl, hb2⟩ := h.1 rfl
    have HB2 := Lib.hid hb2
    have hx := (hb2.block w.heap.size (by have := HS.out; omega)).trans X0.out
    have hy := (hb2.block (w.heap.size + 1) (by have := HS.out; omega)).trans X1.out
    have b0 := cell_of_row _ _ 0 _ _ (0, 0) hy
    have b1 := cell_of_row _ _ 1 _ _ (0, 0) hy
    have b2 := cell_of_row _ _ 2 _ _ (0, 0) hy
    have b3 := cell_of_row _ _ 3 _ _ (0, 0) hy
    have b4 := cell_of_row _ _ 4 _ _ (0, 0) hy
    have HC2 := Lib.hid (HCC.out w2 hb2)
    clear h hb2 hx hy x4 y0 hlk HM1
    go_wp2_with (fail)
    refine HC2.out.mono ?_
    rintro e w3 h
    clear b0 b1 b2 b3 b4 HC2 hcall
    cases ab with
    | false =>
      obtain ⟨rfl, hb3⟩ := h.2 rfl
      have HFF : Hid (MustPost w 4 r (.panicked [{ v := .iface 112 (.int .i64 4), recovered := false }]) w3) := by
        have hrf : r = false := by
          cases r with
          | false => rfl
          | true => exact absurd (HAB.out.2 (HRR.out.1 rfl).1) (by decide)
        rw [hrf]
        exact MustPost.no ⟨rfl, HB1.out.trans ((HB2.out.trans (hb3.mono HB2.out.size)).mono (by have := HS.out; omega))⟩
      clear h hb3
      go_wp2
      exact ⟨rfl, HFF.out⟩
    | true =>
      obtain ⟨rfl, hb3⟩ := h.1 rfl
      have HB3 : Hid (Below w1.heap.size w1 w3) := HB2.out.trans (hb3.mono HB2.out.size)
      have b3 := cell_of_row _ _ 3 _ _ (0, 0) ((HB3.out.block (w.heap.size + 1) (by have := HS.out; omega)).trans X1.out)
      have HAC := Lib.hid (HAB.out.1 rfl)
      clear h hb3
      go_wp2_with (fail)
      go_loopw [31] (fun i wr => ∃ q : Nat, q ≤ p1 ∧ i = .int .i64 q ∧ Below w1.heap.size w1 wr ∧ ∀ (j : Nat) (l : List (Int × Int)), j < q → lv[j]? = some l → RightS l n) (fun i _ => p1 - (intOf i).toNat)
      case atStart => exact ⟨0, Nat.zero_le _, rfl, HB3.out, fun j t hj => absurd hj (by omega)⟩
      case round =>
        obtain ⟨q, hq, rfl, hbq, hall⟩ := hrel
        by_cases hlt : q < p1
        · have hlen := HP1.out
          have hp9 : p1 ≤ 1048576 := by have := HF.out.2.1.1; omega
          obtain ⟨l, hl⟩ : ∃ l, lv[q]? = some l := ⟨lv[q]'(by omega), List.getElem?_eq_getElem (by omega)⟩
          have hbr : Below B W wr := HBW1.out.trans (hbq.mono (Nat.le_trans HWB.out HB1.out.size))
          obtain ⟨b, o, rfl, hbB, hc⟩ := HL.out (by omega)
          obtain ⟨Ai, ci, g1, g2, _, g4⟩ := hc q (by omega)
          have hlq : lv.getD q [] = l := by rw [List.getD_eq_getElem?_getD, hl]; rfl
          rw [hlq] at g1 g2 g4
          have hl9 := HF.out.2.1.2 l (List.mem_of_getElem? hl)
          have g1 := (hbr.cell (p := ⟨b, o + q, none⟩) hbB).trans g1
          have hgw : b < wr.heap.size := by have := hbr.size; have := HBWW.out; omega
          obtain ⟨wa, hwa⟩ : ∃ x, wr.alloc (.cells #[.slice Ai l.length ci] 39) = x := ⟨_, rfl⟩
          have hba : Below wr.heap.size wr wa := by rw [← hwa]; exact (Below.refl _ _).alloc (Nat.le_refl _) _
          have za : wa.heap[wr.heap.size]? = some (.cells #[.slice Ai l.length ci] 39 (0, 0)) := by rw [← hwa]; exact heap_alloc_new wr _
          have hqz := hbq.size
          have hsz := HS.out
          have s0 := cell_of_row _ _ 0 _ _ (0, 0) za
          have hxa := (hba.block w.heap.size (by omega)).trans ((hbq.block w.heap.size (by omega)).trans X0.out)
          have a1 := cell_of_row _ _ 1 _ _ (0, 0) hxa
          obtain ⟨rb, hrb⟩ : ∃ x, rlS l n = x := ⟨_, rfl⟩
          have hbWa : Below B W wa := hbr.trans (hba.mono (Nat.le_trans HBWW.out hbr.size))
          have HR : Hid (Calls Tryd.prog 70 #[.agg #[.slice Ai l.length ci], .int .i64 n] wa (HasPost wa rb)) := right_any Ai l ci n wa (by unfold maxLen; omega) ((g2.below hbWa).more (Nat.le_trans HBWW.out hbWa.size)) rb (by rw [← hrb]; exact rlS_iff ..)
          obtain ⟨lq, hlq9⟩ : ∃ x, l.length = x := ⟨_, rfl⟩
          rw [hlq9] at g1 hwa za s0 HR
          have HRB := Lib.hid hrb
          have HBA : Hid (Below w1.heap.size w1 wa) := hbq.trans (hba.mono hqz)
          have HLL := Lib.hid hl
          have HALL := Lib.hid hall
          clear hlq hlq9 hl9 hba za hxa hrb hbWa hbq hall hbr hc g2 g4 hbB hl hlen hsz
          go_wp2_with (fail)
          refine HR.out.mono ?_
          rintro e w6 ⟨rfl, hb6⟩
          clear HR g1 s0 a1 hwa
          have HB6 : Hid (Below w1.heap.size w1 w6) := HBA.out.trans (hb6.mono HBA.out.size)
          have HM6 := Lib.hid (smust_one rb w6 w6.heap.size rfl)
          clear hb6
          go_wp2_with (fail)
          refine HM6.out.mono ?_
          rintro e w7 h
          clear HM6
          cases rb with
          | true =>
            obtain ⟨rfl, hb7⟩ := h.1 rfl
            have HB7 : Hid (Below w1.heap.size w1 w7) := HB6.out.trans (hb7.mono HB6.out.size)
            have HAL : Hid (∀ (j : Nat) (l : List (Int × Int)), j < q + 1 → lv[j]? = some l → RightS l n) := fun j l2 hj hl2 => by
              rcases Nat.lt_succ_iff_lt_or_eq.1 hj with hj | rfl
              · exact HALL.out j l2 hj hl2
              · rw [HLL.out] at hl2
                injection hl2 with hl2
                subst hl2
                exact (rlS_iff ..).1 HRB.out
            clear h hb7
            go_wp2
            go_roundw
            case rel => exact ⟨q + 1, by omega, by go_num, HB7.out, HAL.out⟩
            case measure => simp [intOf]; omega
          | false =>
            obtain ⟨rfl, hb7⟩ := h.2 rfl
            have HFF : Hid (MustPost w 4 r (.panicked [{ v := .iface 112 (.int .i64 4), recovered := false }]) w7) := by
              have hrf : r = false := by
                cases r with
                | false => rfl
                | true =>
                  have h1 := (HRR.out.1 rfl).2.1 _ (List.mem_of_getElem? HLL.out)
                  rw [← rlS_iff, HRB.out] at h1
                  cases h1
              rw [hrf]
              exact MustPost.no ⟨rfl, HB1.out.trans ((HB6.out.trans (hb7.mono HB6.out.size)).mono (by have := HS.out; omega))⟩
            clear h hb7
            go_wp2
            exact ⟨rfl, HFF.out⟩
        · obtain rfl : q = p1 := by omega
          have b4 := cell_of_row _ _ 4 _ _ (0, 0) ((hbq.block (w.heap.size + 1) (by have := HS.out; omega)).trans X1.out)
          have HLV : Hid (∀ l ∈ lv, RightS l n) := fun l hl => by
            obtain ⟨j, hj⟩ := List.getElem?_of_mem hl
            exact hall j l (by have := (List.getElem?_eq_some_iff.1 hj).1; have := HP1.out; omega) hj
          have HBQ := Lib.hid hbq
          clear hall hbq b3
          go_wp2_with (fail)
          go_loopw [46] (fun i wr => ∃ q : Nat, q ≤ p2 ∧ i = .int .i64 q ∧ Below w1.heap.size w1 wr ∧ ∀ (j : Nat) (t : Tm), j < q → kids[j]? = some t → t.src n sc sf ds (d + under k j)) (fun i _ => p2 - (intOf i).toNat)
          case atStart => exact ⟨0, Nat.zero_le _, rfl, HBQ.out, fun j t hj => absurd hj (by omega)⟩
          case round =>
            obtain ⟨g, hg, rfl, hbg, hall⟩ := hrel
            by_cases hlt2 : g < p2
            · have hlen := HP2.out
              have hp9 : p2 ≤ 1048576 := by have := HF.out.2.2.1; omega
              obtain ⟨t, ht⟩ : ∃ t, kids[g]? = some t := ⟨kids[g]'(by omega), List.getElem?_eq_getElem (by omega)⟩
              have hbr : Below B W wr := HBW1.out.trans (hbg.mono (Nat.le_trans HWB.out HB1.out.size))
              have hqz := hbg.size
              have hsz := HS.out
              obtain ⟨b, o, v9, rfl, hbB, hfive, htm⟩ := HQ.out.get ht
              have HIH : Hid (∀ (du : Nat) (w' : World), d + under k g = du → Below B W w' → Calls Tryd.prog 66 #[SwV Ad nd cd n sc sf (some m), v9, .int .i64 (du : Int)] w' (MustPost w' 4 (srcB n sc sf ds du t))) := fun du w' hdu hw' =>
                IH.out t (List.mem_of_getElem? ht) ((Tm.fitL_iff kids).1 HF.out.2.2.2 t (List.mem_of_getElem? ht)) du v9 w' (by
                  have h1 := Tm.sizeL_take kids g t ht
                  have h2 : Tm.sizeL (kids.take (g + 1)) ≤ Tm.sizeL kids := Tm.sizeL_le kids (g + 1)
                  have h3 : under k g ≤ 1 := under_le k g
                  have := HD.out
                  omega) hw' htm
              obtain ⟨k1, n1, a1, lv1, kids1⟩ := t
              obtain ⟨B1, m1, B2, m2, rfl, _, _, _⟩ := htm.open
              obtain ⟨c0', c1', c2', c3', c4', e, g0, g1, g2, g3, g4⟩ := hfive.keep (fun j => hbr.cell (p := ⟨b, j, none⟩) hbB)
              injection e with e
              injection e with e
              injection e with e0 e
              injection e with e1 e
              injection e with e2 e
              injection e with e3 e
              injection e with e4 _
              subst e0 e1 e2 e3 e4
              obtain ⟨l1, hl1⟩ : ∃ x, lv1.length = x := ⟨_, rfl⟩
              obtain ⟨l2, hl2⟩ : ∃ x, kids1.length = x := ⟨_, rfl⟩
              rw [hl1] at g3 HIH
              rw [hl2] at g4 HIH
              obtain ⟨wa, hwa⟩ : ∃ x, wr.alloc (.cells #[.int .i64 k1, .int .i64 n1, .int .i64 a1, .slice B1 l1 m1, .slice B2 l2 m2] 27) = x := ⟨_, rfl⟩
              have hba : Below wr.heap.size wr wa := by rw [← hwa]; exact (Below.refl _ _).alloc (Nat.le_refl _) _
              have za : wa.heap[wr.heap.size]? = some (.cells #[.int .i64 k1, .int .i64 n1, .int .i64 a1, .slice B1 l1 m1, .slice B2 l2 m2] 27 (0, 0)) := by rw [← hwa]; exact heap_alloc_new wr _
              have hya := (hba.block (w.heap.size + 1) (by omega)).trans ((hbg.block (w.heap.size + 1) (by omega)).trans X1.out)
              have t0 := cell_of_row _ _ 0 _ _ (0, 0) hya
              have hbWa : Below B W wa := hbr.trans (hba.mono (Nat.le_trans HBWW.out hbr.size))
              have HBI := Lib.hid (binds_any k g wa (by omega) (HK.out.below hbWa HB.out))
              obtain ⟨du, hdu⟩ : ∃ x, d + under k g = x := ⟨_, rfl⟩
              have HDU := Lib.hid hdu
              have HUN : Hid (under k g = if binds k g then 1 else 0) := by show _ = _; rfl
              have HD9 : Hid (d ≤ 1073741823) := by have := HD.out; have h1 := Tm.sizeL_length kids; show _ ≤ _; omega
              have HBA : Hid (Below w1.heap.size w1 wa) := hbg.trans (hba.mono hqz)
              have HBWA := Lib.hid hbWa
              have ZA := Lib.hid za
              have HT := Lib.hid ht
              have HALL := Lib.hid hall
              have hgw : b < wr.heap.size := by have := hbr.size; have := HBWW.out; omega
              obtain ⟨bb, hbb⟩ : ∃ x, binds k g = x := ⟨_, rfl⟩
              rw [hbb] at HBI HUN
              clear hba za hya hbWa hdu hbg hall hbr htm ht hfive hbB hlen hl1 hl2 hsz hbb
              go_wp2_with (fail)
              refine HBI.out.mono ?_
              rintro e w6 ⟨rfl, hb6⟩
              clear HBI t0 g0 g1 g2 g3 g4 hwa
              have HB6 : Hid (Below w1.heap.size w1 w6) := HBA.out.trans (hb6.mono HBA.out.size)
              have HBW6 : Hid (Below B W w6) := HBWA.out.trans (hb6.mono (Nat.le_trans HBWW.out HBWA.out.size))
              have hx6 := (HB6.out.block w.heap.size (by have := HS.out; omega)).trans X0.out
              have hz6 := (hb6.block _ (heap_some_lt ZA.out)).trans ZA.out
              have s0 := cell_of_row _ _ 0 _ _ (0, 0) hx6
              have s1 := cell_of_row _ _ 1 _ _ (0, 0) hx6
              have s2 := cell_of_row _ _ 2 _ _ (0, 0) hx6
              have s3 := cell_of_row _ _ 3 _ _ (0, 0) hx6
              have s4 := cell_of_row _ _ 4 _ _ (0, 0) hx6
              have u0 := cell_of_row _ _ 0 _ _ (0, 0) hz6
              have u1 := cell_of_row _ _ 1 _ _ (0, 0) hz6
              have u2 := cell_of_row _ _ 2 _ _ (0, 0) hz6
              have u3 := cell_of_row _ _ 3 _ _ (0, 0) hz6
              have u4 := cell_of_row _ _ 4 _ _ (0, 0) hz6
              obtain ⟨rb, hrb⟩ : ∃ x, srcB n sc sf ds du (.mk k1 n1 a1 lv1 kids1) = x := ⟨_, rfl⟩
              have HI := Lib.hid (HIH.out du w6 HDU.out HBW6.out)
              rw [hrb] at HI
              have HRB := Lib.hid hrb
              clear hb6 hx6 hz6 HIH hrb
              unfold SwV at HI
              have hcs : (bb = true ∧ du = d + 1) ∨ (bb = false ∧ du = d) := by
                have h1 := HDU.out
                have h2 := HUN.out
                cases bb
                · simp at h2
                  exact Or.inr ⟨rfl, by omega⟩
                · simp at h2
                  exact Or.inl ⟨rfl, by omega⟩
              have hwd : IntKind.i64.wrap ((d : Int) + 1) = ((d : Int) + 1) := IntWalk.i64_in _ (by have := HD9.out; omega)
              rcases hcs with ⟨rfl, rfl⟩ | ⟨rfl, rfl⟩
              · rw [show ((d + 1 : Nat) : Int) = (d : Int) + 1 by omega] at HI
                go_wp2_with (fail)
                refine HI.out.mono ?_
                rintro e w8 h
                clear s0 s1 s2 s3 s4 u0 u1 u2 u3 u4 HI
                cases rb with
                | true =>
                  obtain ⟨rfl, hb8⟩ := h.1 rfl
                  have HB8 : Hid (Below w1.heap.size w1 w8) := HB6.out.trans (hb8.mono HB6.out.size)
                  have HAL : Hid (∀ (j : Nat) (t : Tm), j < g + 1 → kids[j]? = some t → t.src n sc sf ds (d + under k j)) := fun j t hj ht2 => by
                    rcases Nat.lt_succ_iff_lt_or_eq.1 hj with hj | rfl
                    · exact HALL.out j t hj ht2
                    · rw [HT.out] at ht2
                      injection ht2 with ht2
                      subst ht2
                      rw [HDU.out]
                      exact (srcB_iff ..).1 HRB.out
                  clear h hb8
                  go_wp2
                  go_roundw
                  case rel => exact ⟨g + 1, by omega, by go_num, HB8.out, HAL.out⟩
                  case measure => simp [intOf]; omega
                | false =>
                  obtain ⟨rfl, hb8⟩ := h.2 rfl
                  have HFF : Hid (MustPost w 4 r (.panicked [{ v := .iface 112 (.int .i64 4), recovered := false }]) w8) := by
                    have hrf : r = false := by
                      cases r with
                      | false => rfl
                      | true =>
                        have h1 := (HRR.out.1 rfl).2.2 g _ HT.out
                        rw [HDU.out, ← srcB_iff, HRB.out] at h1
                        cases h1
                    rw [hrf]
                    exact MustPost.no ⟨rfl, HB1.out.trans ((HB6.out.trans (hb8.mono HB6.out.size)).mono (by have := HS.out; omega))⟩
                  clear h hb8
                  go_wp2
                  exact ⟨rfl, HFF.out⟩
              · clear hwd
                go_wp2_with (fail)
                refine HI.out.mono ?_
                rintro e w8 h
                clear s0 s1 s2 s3 s4 u0 u1 u2 u3 u4 HI
                cases rb with
                | true =>
                  obtain ⟨rfl, hb8⟩ := h.1 rfl
                  have HB8 : Hid (Below w1.heap.size w1 w8) := HB6.out.trans (hb8.mono HB6.out.size)
                  have HAL : Hid (∀ (j : Nat) (t : Tm), j < g + 1 → kids[j]? = some t → t.src n sc sf ds (du + under k j)) := fun j t hj ht2 => by
                    rcases Nat.lt_succ_iff_lt_or_eq.1 hj with hj | rfl
                    · exact HALL.out j t hj ht2
                    · rw [HT.out] at ht2
                      injection ht2 with ht2
                      subst ht2
                      rw [HDU.out]
                      exact (srcB_iff ..).1 HRB.out
                  clear h hb8
                  go_wp2
                  go_roundw
                  case rel => exact ⟨g + 1, by omega, by go_num, HB8.out, HAL.out⟩
                  case measure => simp [intOf]; omega
                | false =>
                  obtain ⟨rfl, hb8⟩ := h.2 rfl
                  have HFF : Hid (MustPost w 4 r (.panicked [{ v := .iface 112 (.int .i64 4), recovered := false }]) w8) := by
                    have hrf : r = false := by
                      cases r with
                      | false => rfl
                      | true =>
                        have h1 := (HRR.out.1 rfl).2.2 g _ HT.out
                        rw [HDU.out, ← srcB_iff, HRB.out] at h1
                        cases h1
                    rw [hrf]
                    exact MustPost.no ⟨rfl, HB1.out.trans ((HB6.out.trans (hb8.mono HB6.out.size)).mono (by have := HS.out; omega))⟩
                  clear h hb8
                  go_wp2
                  exact ⟨rfl, HFF.out⟩
            · obtain rfl : g = p2 := by omega
              have HFF : Hid (MustPost w 4 r (.returned (.tuple #[])) wr) := by
                have hrt : r = true := HRR.out.2 ⟨HAC.out, HLV.out, fun j t ht => hall j t (by have := (List.getElem?_eq_some_iff.1 ht).1; have := HP2.out; omega) ht⟩
                rw [hrt]
                exact MustPost.yes rfl (HB1.out.trans (hbg.mono (by have := HS.out; omega)))
              clear hall hbg
              go_wp2
              go_end0
              exact HFF.out
/-- walk.term ends as it should just if the term is right, but for what a right term asks. -/
theorem src_any (W : World) (B m : Nat) (n sc sf : Int) (ds : List Dc) (Ad : Option Addr) (nd cd : Nat) (hB : 0 < B) (hBW : B ≤ W.heap.size) (hK : KindsAt W) (hm : SrAt W m (SwV Ad nd cd n sc sf none)) (hmB : m < B) (hds : Dcs W B Ad cd ds) (hnd : ds.length = nd) : ∀ t, SrcTm W B m n sc sf ds Ad nd cd t :=
  Tm.ind fun k num pos lv kids ih => src_of W B m n sc sf ds Ad nd cd hB hBW hK hm hmB hds hnd k num pos lv kids ih
end Go.Proofs.YtfgnnbpbbnnnhaaDoor
namespace Go.Proofs.YtfgnnbpbbnnnhaaDoor
open Go.RowKit Go.Maps Go.ChangeMaps Go.MapKept
set_option maxRecDepth 100000 in
theorem enter_sstart (vs : Array Value) (w : World) : (callFunc 65 vs).run Tryd.prog w = .ok (.enter 65 vs) w := by go_simp
set_option maxRecDepth 100000 in
theorem enter_sright1 (vs : Array Value) (w : World) : (callFunc 33 vs).run Tryd.prog w = .ok (.enter 33 vs) w := by go_simp
theorem infoOv : (Tryd.prog.info? 69).map (·.size) = some 4 := by kernel_rfl
theorem infoTs : (Tryd.prog.info? 27).map (·.size) = some 5 := by kernel_rfl
theorem load_ov {w w' : World} {g : Nat} {cs : Array Value} (h : w.heap[g]? = some (.cells cs 69 (0, 0))) (hb : Below w.heap.size w w') (hs : cs.size = 4 := by rfl) : (Instr.loadAt 69 (.pointer (some ⟨g, 0, none⟩))).run Tryd.prog w' = .ok (.agg cs) w' :=
  run_loadAt_cells Tryd.underlying69 rfl infoOv hs fun j _ => by rw [Nat.zero_add]; exact cell_of_row _ _ j _ _ (0, 0) ((hb.block _ (heap_some_lt h)).trans h)
theorem load_box9s {w w' : World} {g : Nat} {cs : Array Value} (h : w.heap[g]? = some (.cells cs 27 (0, 0))) (hb : Below w.heap.size w w') (hs : cs.size = 5 := by rfl) : (Instr.loadAt 27 (.pointer (some ⟨g, 0, none⟩))).run Tryd.prog w' = .ok (.agg cs) w' :=
  run_loadAt_cells Tryd.underlying27 rfl infoTs hs fun j _ => by rw [Nat.zero_add]; exact cell_of_row _ _ j _ _ (0, 0) ((hb.block _ (heap_some_lt h)).trans h)
/-- is a term right in the source? -/
noncomputable def rightSB (n sc sf : Int) (ds : List Dc) (t : Tm) : Bool := by classical exact decide (RightSrc n sc sf ds t)
theorem rightSB_iff (n sc sf : Int) (ds : List Dc) (t : Tm) : rightSB n sc sf ds t = true ↔ RightSrc n sc sf ds t := by unfold rightSB; simp
set_option maxRecDepth 100000 in
set_option maxHeartbeats 4000000 in
theorem overRight_any (n sc sf : Int) (ds : List Dc) (Ad : Option Addr) (nd cd : Nat) (t : Tm) (v : Value) (w : World) (hK : KindsAll w) (hds : Dcs w w.heap.size Ad cd ds) (hnd : ds.length = nd) (hf : t.fit) (hd : t.size ≤ 1073741824) (ht : TmAt w w.heap.size t v) :
    Calls Tryd.prog 34 #[OvV Ad nd cd n sc sf, v] w (MustPost w 4 (rightSB n sc sf ds t)) := by
  obtain ⟨r, hr⟩ : ∃ r, rightSB n sc sf ds t = r := ⟨_, rfl⟩
  have hrr : r = true ↔ t.right = true ∧ t.src n sc sf ds 0 := by rw [← hr, rightSB_iff]; rfl
  rw [hr]
  have ht0 := ht
  obtain ⟨k, num, pos, lv, kids⟩ := t
  obtain ⟨A1, c1, A2, c2, rfl, _, _, _⟩ := ht.open
  obtain ⟨p1, hp1⟩ : ∃ p, lv.length = p := ⟨_, rfl⟩
  obtain ⟨p2, hp2⟩ : ∃ p, kids.length = p := ⟨_, rfl⟩
  obtain ⟨u, hu⟩ : ∃ u, Tm.mk k num pos lv kids = u := ⟨_, rfl⟩
  rw [hu] at hf hd hrr ht0
  rw [hp1, hp2] at ht0 ⊢
  have hw0 : 0 < w.heap.size := cell_lt (hK 0 (by decide)).1
  obtain ⟨w1, hw1⟩ : ∃ x, (w.alloc (.cells #[.slice Ad nd cd, .int .i64 n, .int .i64 sc, .int .i64 sf] 69)).alloc (.cells #[.int .i64 k, .int .i64 num, .int .i64 pos, .slice A1 p1 c1, .slice A2 p2 c2] 27) = x := ⟨_, rfl⟩
  have hb1 : Below w.heap.size w w1 := by rw [← hw1]; exact stwo w _ _
  have hs1 : w1.heap.size = w.heap.size + 1 + 1 := by rw [← hw1]; simp
  obtain ⟨z1, z2, _⟩ := two_allocs w (.cells #[.slice Ad nd cd, .int .i64 n, .int .i64 sc, .int .i64 sf] 69) (.cells #[.int .i64 k, .int .i64 num, .int .i64 pos, .slice A1 p1 c1, .slice A2 p2 c2] 27)
  rw [hw1] at z1 z2
  have y0 := cell_of_row _ _ 0 _ _ (0, 0) z2
  have y1 := cell_of_row _ _ 1 _ _ (0, 0) z2
  have y2 := cell_of_row _ _ 2 _ _ (0, 0) z2
  have y3 := cell_of_row _ _ 3 _ _ (0, 0) z2
  have y4 := cell_of_row _ _ 4 _ _ (0, 0) z2
  have HRT := Lib.hid (rightOf_any u hf _ w1 (hK.below hb1 hw0) (ht0.below hb1 hb1.size))
  obtain ⟨tr, htr⟩ : ∃ x, u.right = x := ⟨_, rfl⟩
  rw [htr] at HRT hrr
  have X0 := Lib.hid z1
  have X1 := Lib.hid z2
  have HB1 := Lib.hid hb1
  have HS1 := Lib.hid hs1
  have HRR := Lib.hid hrr
  have HK := Lib.hid hK.binds
  have HND := Lib.hid hnd
  have HDS := Lib.hid hds
  have HF := Lib.hid hf
  have HT := Lib.hid ht0
  clear hr hrr hK hnd hds hf ht ht0 hb1 hs1 z1 z2 hu hp1 hp2 htr
  unfold OvV
  go_enter Tryd.func34, Tryd.ntmps34
  go_wp2_with (fail)
  refine HRT.out.mono ?_
  rintro e wm ⟨rfl, hbm⟩
  have HBM : Hid (Below w.heap.size w wm) := HB1.out.trans (hbm.mono HB1.out.size)
  have XM0 := Lib.hid ((hbm.block _ (by have := HS1.out; omega)).trans X0.out)
  have XM1 := Lib.hid ((hbm.block _ (by have := HS1.out; omega)).trans X1.out)
  have HM := Lib.hid (smust_one tr wm wm.heap.size rfl)
  clear hbm HRT y0 y1 y2 y3 y4
  go_wp2_with (fail)
  refine HM.out.mono ?_
  rintro e w2 h
  clear HM
  cases tr with
  | false =>
    obtain ⟨rfl, hb2⟩ := h.2 rfl
    have HFF : Hid (MustPost w 4 r (.panicked [{ v := .iface 112 (.int .i64 4), recovered := false }]) w2) := by
      have hrf : r = false := by
        cases r with
        | false => rfl
        | true => exact absurd (HRR.out.1 rfl).1 (by decide)
      rw [hrf]
      exact MustPost.no ⟨rfl, HBM.out.trans (hb2.mono HBM.out.size)⟩
    clear h hb2
    go_wp2
    exact ⟨rfl, HFF.out⟩
  | true =>
      obtain ⟨rfl, hb2⟩ := h.1 rfl
      have Y0 := Lib.hid ((hb2.block _ (heap_some_lt XM0.out)).trans XM0.out)
      have Y1 := Lib.hid ((hb2.block _ (heap_some_lt XM1.out)).trans XM1.out)
      have HB2 : Hid (Below w.heap.size w w2) := HBM.out.trans (hb2.mono HBM.out.size)
      have hS : Below w2.heap.size w2 w2.drew := (Below.refl _ _).drew
      clear h hb2
      go_upto_region 2 with (fail)
      refine wp_region_tail 3 (fun w' => Below w2.heap.size w2 w') (fun w1 w2 : World => Below w1.heap.size w1 w2) [(fun (x : Value) (_ : World) => x = (.agg #[.slice Ad nd cd, .int .i64 n, .int .i64 sc, .int .i64 sf] : Value)), (fun (x : Value) (w : World) => ∃ m, x = SwV Ad nd cd n sc sf (some m) ∧ m < w.heap.size ∧ SrAt w m (SwV Ad nd cd n sc sf none)), (fun (x : Value) (_ : World) => x = (.agg #[.int .i64 k, .int .i64 num, .int .i64 pos, .slice A1 p1 c1, .slice A2 p2 c2] : Value))] [⟨some 8, .load 69 (.tmp 2), none, []⟩, ⟨some 9, .call { callee := .value (.func 65), args := #[.tmp 8], argTypes := #[69] }, none, [(8, 0)]⟩, ⟨some 10, .load 27 (.tmp 3), none, []⟩] [some 8, some 9, some 10] [] [] (by kernel_rfl) (by kernel_rfl) (by kernel_rfl) (by kernel_rfl) (by kernel_rfl) (by kernel_rfl) (by kernel_rfl) (by kernel_rfl) ?hrun ?hold ?hS ?hmono ?hsteps ?hfin
      case hrun => exact fun p hp => by cases hp
      case hold => exact fun p hp => by cases hp
      case hS => exact hS
      case hmono =>
        refine MonoL.cons (fun x w1 w2 _ _ _ hx => hx) ?_
        refine MonoL.cons (fun x w1 w2 _ _ hR hx => ?_) ?_
        · obtain ⟨m, q1, q2, q3⟩ := hx; exact ⟨m, q1, by have := hR.size; omega, q3.below hR q2⟩
        refine MonoL.cons (fun x w1 w2 _ _ _ hx => hx) ?_
        exact MonoL.nil
      case hsteps =>
        refine StepsT.cons (fun (x : Value) (_ : World) => x = (.agg #[.slice Ad nd cd, .int .i64 n, .int .i64 sc, .int .i64 sf] : Value)) [] rfl rfl (fun oq hop _ wq hQS => ?_) ?_
        · exact StepFrom.load hop (p := (.pointer (some ⟨w.heap.size, 0, none⟩) : Value)) (by kernel_rfl) (load_ov Y0.out hQS) (by kernel_rfl) hQS (Below.refl _ _) rfl
        refine StepsT.cons (fun (x : Value) (w : World) => ∃ m, x = SwV Ad nd cd n sc sf (some m) ∧ m < w.heap.size ∧ SrAt w m (SwV Ad nd cd n sc sf none)) [(8, (fun (x : Value) (_ : World) => x = (.agg #[.slice Ad nd cd, .int .i64 n, .int .i64 sc, .int .i64 sf] : Value)))] rfl rfl (fun oq hop _ wq hQS => ?_) ?_
        · refine StepFrom.more_eq ((.agg #[.slice Ad nd cd, .int .i64 n, .int .i64 sc, .int .i64 sf] : Value)) ?_
          exact StepFrom.call hop (vs := [(.agg #[.slice Ad nd cd, .int .i64 n, .int .i64 sc, .int .i64 sf] : Value)]) (by kernel_rfl) (fun w => enter_sstart _ w) (by kernel_rfl) ((by have h := sstart_any Ad nd cd n sc sf wq; unfold OvV at h; exact h : Calls _ _ _ _ _).mono fun e w9 h9 => by obtain ⟨m, q1, q2, q3, q4, q5⟩ := h9; exact ⟨_, q1, hQS.trans (q5.mono hQS.size), q5, ⟨m, rfl, q3, q4⟩⟩)
        refine StepsT.cons (fun (x : Value) (_ : World) => x = (.agg #[.int .i64 k, .int .i64 num, .int .i64 pos, .slice A1 p1 c1, .slice A2 p2 c2] : Value)) [] rfl rfl (fun oq hop _ wq hQS => ?_) ?_
        · exact StepFrom.load hop (p := (.pointer (some ⟨w.heap.size + 1, 0, none⟩) : Value)) (by kernel_rfl) (load_box9s Y1.out hQS) (by kernel_rfl) hQS (Below.refl _ _) rfl
        exact StepsT.nil
      case hfin =>
        intro wf hFS
        refine FinalFrom.more fun x8 h8 => ?_
        refine FinalFrom.more fun x9 h9 => ?_
        refine FinalFrom.more fun x10 h10 => ?_
        refine FinalFrom.done ?_
        intro _
        obtain rfl : x10 = (.agg #[.int .i64 k, .int .i64 num, .int .i64 pos, .slice A1 p1 c1, .slice A2 p2 c2] : Value) := h10
        obtain ⟨m, rfl, hm, ha⟩ := h9
        simp only [Act.put, List.setIfInBounds_toArray, List.set_cons_zero, List.set_cons_succ, List.drop_succ_cons, List.drop_zero]
        obtain ⟨rb, hrb⟩ : ∃ x, srcB n sc sf ds 0 u = x := ⟨_, rfl⟩
        have hbf : Below w.heap.size w wf := HB2.out.trans (hFS.mono HB2.out.size)
        have HCR : Hid (Calls Tryd.prog 66 #[SwV Ad nd cd n sc sf (some m), .agg #[.int .i64 k, .int .i64 num, .int .i64 pos, .slice A1 p1 c1, .slice A2 p2 c2], .int .i64 0] wf (MustPost wf 4 rb)) := by
          have h := src_any wf wf.heap.size m n sc sf ds Ad nd cd (by have := hbf.size; omega) (Nat.le_refl _) (HK.out.below hbf hw0) ha hm (HDS.out.below hbf hbf.size) HND.out u HF.out 0 _ wf (by omega) (Below.refl _ _) (HT.out.below hbf hbf.size)
          rw [← hrb]
          exact h
        have HRB := Lib.hid hrb
        have HBF := Lib.hid hbf
        clear hS hFS ha hbf hrb
        unfold SwV at HCR ⊢
        go_wp2_with (fail)
        refine HCR.out.mono ?_
        rintro e w5 h
        cases rb with
        | true =>
          obtain ⟨rfl, hb⟩ := h.1 rfl
          have HFF : Hid (MustPost w 4 r (.returned (.tuple #[])) w5) := by
            have hrt : r = true := HRR.out.2 ⟨by trivial, (srcB_iff ..).1 HRB.out⟩
            rw [hrt]
            exact MustPost.yes rfl (HBF.out.trans (hb.mono HBF.out.size))
          clear h hb
          go_wp2
          go_end0
          exact HFF.out
        | false =>
          obtain ⟨rfl, hb⟩ := h.2 rfl
          have HFF : Hid (MustPost w 4 r (.panicked [{ v := .iface 112 (.int .i64 4), recovered := false }]) w5) := by
            have hrf : r = false := by
              cases r with
              | false => rfl
              | true =>
                have h1 := (HRR.out.1 rfl).2
                rw [← srcB_iff, HRB.out] at h1
                cases h1
            rw [hrf]
            exact MustPost.no ⟨rfl, HBF.out.trans (hb.mono HBF.out.size)⟩
          clear h hb
          go_wp2
          exact ⟨rfl, HFF.out⟩
set_option maxRecDepth 100000 in
set_option maxHeartbeats 2000000 in
theorem sright1_any (g0 g1 g2 g3 g4 : Nat) (n sc sf : Int) (ds : List Dc) (Ad : Option Addr) (nd cd : Nat) (t : Tm) (v0 v1 v2 v3 v4 : Value) (w : World) (hK : KindsAll w) (hds : Dcs w w.heap.size Ad cd ds) (hnd : ds.length = nd) (hf : t.fit) (hd : t.size ≤ 1073741824) (ht : TmAt w w.heap.size t (.agg #[v0, v1, v2, v3, v4]))
    (h0 : w.heap[g0]? = some (.cells #[.slice Ad nd cd] 22 (0, 0))) (h1 : w.heap[g1]? = some (.cells #[.int .i64 n] 3 (0, 0))) (h2 : w.heap[g2]? = some (.cells #[.int .i64 sc] 3 (0, 0))) (h3 : w.heap[g3]? = some (.cells #[.int .i64 sf] 3 (0, 0))) (h4 : w.heap[g4]? = some (.cells #[v0, v1, v2, v3, v4] 27 (0, 0))) :
    Calls Tryd.prog 33 #[.pointer (some ⟨g0, 0, none⟩), .pointer (some ⟨g1, 0, none⟩), .pointer (some ⟨g2, 0, none⟩), .pointer (some ⟨g3, 0, none⟩), .pointer (some ⟨g4, 0, none⟩)] w (MustPost w 4 (rightSB n sc sf ds t)) := by
  have HC := Lib.hid (overRight_any n sc sf ds Ad nd cd t _ w hK hds hnd hf hd ht)
  have f0 := cell_of_one h0
  have f1 := cell_of_one h1
  have f2 := cell_of_one h2
  have f3 := cell_of_one h3
  have e0 := cell_of_row _ _ 0 _ _ (0, 0) h4
  have e1 := cell_of_row _ _ 1 _ _ (0, 0) h4
  have e2 := cell_of_row _ _ 2 _ _ (0, 0) h4
  have e3 := cell_of_row _ _ 3 _ _ (0, 0) h4
  have e4 := cell_of_row _ _ 4 _ _ (0, 0) h4
  obtain ⟨r, hr⟩ : ∃ r, rightSB n sc sf ds t = r := ⟨_, rfl⟩
  rw [hr] at HC ⊢
  unfold OvV at HC
  clear hK hds hnd hf hd ht h0 h1 h2 h3 h4 hr
  go_enter Tryd.func33, Tryd.ntmps33
  go_wp2_with (fail)
  refine HC.out.mono ?_
  rintro e w2 h
  cases r with
  | true =>
    obtain ⟨rfl, hb⟩ := h.1 rfl
    have HF := Lib.hid hb
    clear h hb HC
    go_wp2
    go_end0
    exact MustPost.yes rfl HF.out
  | false =>
    obtain ⟨rfl, hb⟩ := h.2 rfl
    have HF := Lib.hid hb
    clear h hb HC
    go_wp2
    exact ⟨rfl, MustPost.no ⟨rfl, HF.out⟩⟩
set_option maxRecDepth 100000 in
set_option maxHeartbeats 2000000 in
/-- Right says whether a term is right in the source. -/
theorem rightS_any (n sc sf : Int) (ds : List Dc) (Ad : Option Addr) (nd cd : Nat) (t : Tm) (v : Value) (w : World) (hK : KindsAll w) (hds : Dcs w w.heap.size Ad cd ds) (hnd : ds.length = nd) (hf : t.fit) (hd : t.size ≤ 1073741824) (ht : TmAt w w.heap.size t v) :
    Calls Tryd.prog 9 #[.slice Ad nd cd, .int .i64 n, .int .i64 sc, .int .i64 sf, v] w (HasPost w (rightSB n sc sf ds t)) := by
  obtain ⟨c0, c1, c2, c3, c4, rfl⟩ : ∃ c0 c1 c2 c3 c4, v = .agg #[c0, c1, c2, c3, c4] := by
    obtain ⟨k, num, pos, lv, kids⟩ := t
    obtain ⟨A1, c1, A2, c2, rfl, _⟩ := ht.open
    exact ⟨_, _, _, _, _, rfl⟩
  have hw0 : 0 < w.heap.size := cell_lt (hK 0 (by decide)).1
  obtain ⟨wa, hwa⟩ : ∃ x, (w.alloc (.cells #[.slice Ad nd cd] 22)).alloc (.cells #[.int .i64 n] 3) = x := ⟨_, rfl⟩
  obtain ⟨wb, hwb⟩ : ∃ x, (wa.alloc (.cells #[.int .i64 sc] 3)).alloc (.cells #[.int .i64 sf] 3) = x := ⟨_, rfl⟩
  obtain ⟨w1, hw1⟩ : ∃ x, wb.alloc (.cells #[c0, c1, c2, c3, c4] 27) = x := ⟨_, rfl⟩
  have hsa : wa.heap.size = w.heap.size + 1 + 1 := by rw [← hwa]; simp
  have hsb : wb.heap.size = w.heap.size + 1 + 1 + 1 + 1 := by rw [← hwb]; simp [hsa]
  have hba : Below w.heap.size w wa := by rw [← hwa]; exact stwo w _ _
  have hbb : Below wa.heap.size wa wb := by rw [← hwb]; exact stwo wa _ _
  have hb1b : Below wb.heap.size wb w1 := by rw [← hw1]; exact (Below.refl _ _).alloc (Nat.le_refl _) _
  have hb1 := (hba.trans (hbb.mono (by omega))).trans (hb1b.mono (by omega))
  obtain ⟨z1, z2, _⟩ := two_allocs w (.cells #[.slice Ad nd cd] 22) (.cells #[.int .i64 n] 3)
  obtain ⟨z3, z4, _⟩ := two_allocs wa (.cells #[.int .i64 sc] 3) (.cells #[.int .i64 sf] 3)
  rw [hwa] at z1 z2
  rw [hwb, hsa] at z3 z4
  have z5 : w1.heap[w.heap.size + 1 + 1 + 1 + 1]? = some (.cells #[c0, c1, c2, c3, c4] 27 (0, 0)) := by rw [← hw1, ← hsb]; exact heap_alloc_new wb _
  have z1 := (hb1b.block _ (by omega)).trans ((hbb.block _ (heap_some_lt z1)).trans z1)
  have z2 := (hb1b.block _ (by omega)).trans ((hbb.block _ (heap_some_lt z2)).trans z2)
  have z3 := (hb1b.block _ (heap_some_lt z3)).trans z3
  have z4 := (hb1b.block _ (heap_some_lt z4)).trans z4
  have HH : Hid (Calls Tryd.prog 32 #[.func (.func 33) #[] #[.pointer (some ⟨w.heap.size, 0, none⟩), .pointer (some ⟨w.heap.size + 1, 0, none⟩), .pointer (some ⟨w.heap.size + 1 + 1, 0, none⟩), .pointer (some ⟨w.heap.size + 1 + 1 + 1, 0, none⟩), .pointer (some ⟨w.heap.size + 1 + 1 + 1 + 1, 0, none⟩)]] w1 (HasPost w1 (rightSB n sc sf ds t))) :=
    holds_any _ _ 4 (by decide) _ w1 enter_sright1 fun w' hw' => by
      have hb' := hb1.trans (hw'.mono hb1.size)
      exact sright1_any _ _ _ _ _ n sc sf ds Ad nd cd t _ _ _ _ _ w' (hK.below hb' hw0) (hds.below hb' hb'.size) hnd hf hd (ht.below hb' hb'.size) ((hw'.block _ (heap_some_lt z1)).trans z1) ((hw'.block _ (heap_some_lt z2)).trans z2) ((hw'.block _ (heap_some_lt z3)).trans z3) ((hw'.block _ (heap_some_lt z4)).trans z4) ((hw'.block _ (heap_some_lt z5)).trans z5)
  have hmf : ∀ (W : World), (Instr.makeFunc (.func 33) #[] #[.pointer (some ⟨w.heap.size, 0, none⟩), .pointer (some ⟨w.heap.size + 1, 0, none⟩), .pointer (some ⟨w.heap.size + 1 + 1, 0, none⟩), .pointer (some ⟨w.heap.size + 1 + 1 + 1, 0, none⟩), .pointer (some ⟨w.heap.size + 1 + 1 + 1 + 1, 0, none⟩)]).run Tryd.prog W = .ok (.func (.func 33) #[] #[.pointer (some ⟨w.heap.size, 0, none⟩), .pointer (some ⟨w.heap.size + 1, 0, none⟩), .pointer (some ⟨w.heap.size + 1 + 1, 0, none⟩), .pointer (some ⟨w.heap.size + 1 + 1 + 1, 0, none⟩), .pointer (some ⟨w.heap.size + 1 + 1 + 1 + 1, 0, none⟩)]) W := fun _ => rfl
  have HB1 := Lib.hid hb1
  obtain ⟨r, hr⟩ : ∃ r, rightSB n sc sf ds t = r := ⟨_, rfl⟩
  rw [hr] at HH ⊢
  clear hb1 hb1b hbb hba z1 z2 z3 z4 z5 hK hnd hds hf hd ht hr hw0
  go_enter Tryd.func9, Tryd.ntmps9
  go_wp2_with (fail)
  refine HH.out.mono ?_
  rintro e w2 ⟨rfl, hb⟩
  have HFF := Lib.hid (HB1.out.trans (hb.mono HB1.out.size))
  clear hb HH
  go_wp2
  go_ret
  exact ⟨rfl, HFF.out⟩
end Go.Proofs.YtfgnnbpbbnnnhaaDoor
namespace Go.Proofs.YtfgnnbpbbnnnhaaDoor
open Go.RowKit Go.Maps Go.ChangeMaps Go.MapKept
theorem DcAt.box4 {w w' : World} {B g : Nat} {d : Dc} {cs : Array Value} (h : DcAt w B d cs) (hg : w'.heap[g]? = some (.cells cs 43 (0, 0))) :
    (∃ Ap cp, w'.cell? ⟨g, 0 + 12, none⟩ = some (.slice Ap d.pars.length cp)) ∧ (∃ As cz, w'.cell? ⟨g, 0 + 13, none⟩ = some (.slice As d.sort.length cz)) ∧ (∃ Am cm, w'.cell? ⟨g, 0 + 14, none⟩ = some (.slice Am d.mems.length cm)) ∧ ∃ Ac cc, w'.cell? ⟨g, 0 + 15, none⟩ = some (.slice Ac d.ctors.length cc) := by
  obtain ⟨a0, a1, a2, a3, a4, b0, b1, b2, b3, b4, Ap, As, Am, Ac, cp, cz, cm, cc, rfl, _⟩ := h
  exact ⟨⟨Ap, cp, cell_of_row _ _ 12 _ _ (0, 0) hg⟩, ⟨As, cz, cell_of_row _ _ 13 _ _ (0, 0) hg⟩, ⟨Am, cm, cell_of_row _ _ 14 _ _ (0, 0) hg⟩, Ac, cc, cell_of_row _ _ 15 _ _ (0, 0) hg⟩
/-- a declaration has nothing of what a block alone has -/
def Dc.noB (d : Dc) : Bool := decide (d.pars.length = 0) && decide (d.sort.length = 0) && decide (d.mems.length = 0) && decide (d.ctors.length = 0)
set_option maxRecDepth 100000 in
set_option maxHeartbeats 2000000 in
theorem noBlock_any (d : Dc) (cs : Array Value) (B : Nat) (w w0 : World) (hd : DcAt w0 B d cs) : Calls Tryd.prog 42 #[.agg cs] w (HasPost w d.noB) := by
  obtain ⟨w1, hw1⟩ : ∃ x, w.alloc (.cells cs 43) = x := ⟨_, rfl⟩
  have hb1 : Below w.heap.size w w1 := by rw [← hw1]; exact (Below.refl _ _).alloc (Nat.le_refl _) _
  have x1 : w1.heap[w.heap.size]? = some (.cells cs 43 (0, 0)) := by rw [← hw1]; exact heap_alloc_new w _
  obtain ⟨⟨Ap, cp, e12⟩, ⟨As, cz, e13⟩, ⟨Am, cm, e14⟩, Ac, cc, e15⟩ := hd.box4 x1
  obtain ⟨r, hr⟩ : ∃ r, d.noB = r := ⟨_, rfl⟩
  rw [hr]
  unfold Dc.noB at hr
  obtain ⟨P, hP⟩ : ∃ x, d.pars.length = x := ⟨_, rfl⟩
  obtain ⟨S, hS⟩ : ∃ x, d.sort.length = x := ⟨_, rfl⟩
  obtain ⟨M, hM⟩ : ∃ x, d.mems.length = x := ⟨_, rfl⟩
  obtain ⟨C, hC⟩ : ∃ x, d.ctors.length = x := ⟨_, rfl⟩
  rw [hP, hS, hM, hC] at hr
  rw [hP] at e12
  rw [hS] at e13
  rw [hM] at e14
  rw [hC] at e15
  have HB1 := Lib.hid hb1
  clear hd hP hS hM hC x1 hb1
  by_cases h0 : P = 0
  · subst h0
    by_cases h1 : S = 0
    · subst h1
      by_cases h2 : M = 0
      · subst h2
        by_cases h3 : C = 0
        · subst h3
          have HR : Hid (r = true) := by show _ = _; rw [← hr]; rfl
          clear hr
          go_enter Tryd.func42, Tryd.ntmps42
          go_wp2
          go_ret
          exact ⟨by rw [HR.out]; rfl, HB1.out⟩
        · have e : ((C : Int) == 0) = false := by simpa using (by omega : ¬ (C : Int) = 0)
          have HR : Hid (r = false) := by show _ = _; rw [← hr]; simp [h3]
          clear hr h3
          go_enter Tryd.func42, Tryd.ntmps42
          go_wp2
          go_ret
          exact ⟨by rw [HR.out]; rfl, HB1.out⟩
      · have e : ((M : Int) == 0) = false := by simpa using (by omega : ¬ (M : Int) = 0)
        have HR : Hid (r = false) := by show _ = _; rw [← hr]; simp [h2]
        clear hr h2
        go_enter Tryd.func42, Tryd.ntmps42
        go_wp2
        go_ret
        exact ⟨by rw [HR.out]; rfl, HB1.out⟩
    · have e : ((S : Int) == 0) = false := by simpa using (by omega : ¬ (S : Int) = 0)
      have HR : Hid (r = false) := by show _ = _; rw [← hr]; simp [h1]
      clear hr h1
      go_enter Tryd.func42, Tryd.ntmps42
      go_wp2
      go_ret
      exact ⟨by rw [HR.out]; rfl, HB1.out⟩
  · have e : ((P : Int) == 0) = false := by simpa using (by omega : ¬ (P : Int) = 0)
    have HR : Hid (r = false) := by show _ = _; rw [← hr]; simp [h0]
    clear hr h0
    go_enter Tryd.func42, Tryd.ntmps42
    go_wp2
    go_ret
    exact ⟨by rw [HR.out]; rfl, HB1.out⟩
/-- a term has nothing -/
def Tm.none9 : Tm → Bool
  | .mk k num pos lv kids => decide (k = 0) && decide (num = 0) && decide (pos = 0) && decide (lv.length = 0) && decide (kids.length = 0)
set_option maxRecDepth 100000 in
set_option maxHeartbeats 2000000 in
theorem empty_any (t : Tm) (v : Value) (B : Nat) (w w0 : World) (ht : TmAt w0 B t v) : Calls Tryd.prog 43 #[v] w (HasPost w t.none9) := by
  obtain ⟨k, num, pos, lv, kids⟩ := t
  obtain ⟨A1, c1, A2, c2, rfl, _, _, _⟩ := ht.open
  obtain ⟨r, hr⟩ : ∃ r, (Tm.mk k num pos lv kids).none9 = r := ⟨_, rfl⟩
  rw [hr]
  have hr : (decide (k = 0) && decide (num = 0) && decide (pos = 0) && decide (lv.length = 0) && decide (kids.length = 0)) = r := hr
  obtain ⟨p1, hp1⟩ : ∃ p, lv.length = p := ⟨_, rfl⟩
  obtain ⟨p2, hp2⟩ : ∃ p, kids.length = p := ⟨_, rfl⟩
  rw [hp1, hp2] at hr ⊢
  have HB1 := Lib.hid ((Below.refl w.heap.size w).alloc (Nat.le_refl _) (.cells #[.int .i64 k, .int .i64 num, .int .i64 pos, .slice A1 p1 c1, .slice A2 p2 c2] 27))
  clear ht hp1 hp2
  by_cases h0 : k = 0
  · subst h0
    by_cases h1 : num = 0
    · subst h1
      by_cases h2 : pos = 0
      · subst h2
        by_cases h3 : p1 = 0
        · subst h3
          by_cases h4 : p2 = 0
          · subst h4
            have HR : Hid (r = true) := by show _ = _; rw [← hr]; rfl
            clear hr
            go_enter Tryd.func43, Tryd.ntmps43
            go_wp2
            go_ret
            exact ⟨by rw [HR.out]; rfl, HB1.out⟩
          · have e : ((p2 : Int) == 0) = false := by simpa using (by omega : ¬ (p2 : Int) = 0)
            have HR : Hid (r = false) := by show _ = _; rw [← hr]; simp [h4]
            clear hr h4
            go_enter Tryd.func43, Tryd.ntmps43
            go_wp2
            go_ret
            exact ⟨by rw [HR.out]; rfl, HB1.out⟩
        · have e : ((p1 : Int) == 0) = false := by simpa using (by omega : ¬ (p1 : Int) = 0)
          have HR : Hid (r = false) := by show _ = _; rw [← hr]; simp [h3]
          clear hr h3
          go_enter Tryd.func43, Tryd.ntmps43
          go_wp2
          go_ret
          exact ⟨by rw [HR.out]; rfl, HB1.out⟩
      · have e : (pos == 0) = false := by simpa using h2
        have HR : Hid (r = false) := by show _ = _; rw [← hr]; simp [h2]
        clear hr h2
        go_enter Tryd.func43, Tryd.ntmps43
        go_wp2
        go_ret
        exact ⟨by rw [HR.out]; rfl, HB1.out⟩
    · have e : (num == 0) = false := by simpa using h1
      have HR : Hid (r = false) := by show _ = _; rw [← hr]; simp [h1]
      clear hr h1
      go_enter Tryd.func43, Tryd.ntmps43
      go_wp2
      go_ret
      exact ⟨by rw [HR.out]; rfl, HB1.out⟩
  · have e : (k == 0) = false := by simpa using h0
    have HR : Hid (r = false) := by show _ = _; rw [← hr]; simp [h0]
    clear hr h0
    go_enter Tryd.func43, Tryd.ntmps43
    go_wp2
    go_ret
    exact ⟨by rw [HR.out]; rfl, HB1.out⟩
/-- a row of types is right: each below those ahead, and no more than may be -/
def RowSrc (n sc sf : Int) (ds : List Dc) (l : List Tm) (most : Int) : Prop := (l.length : Int) ≤ most ∧ ∀ (i : Nat) (t : Tm), l[i]? = some t → RightSrc n (sc + i) sf ds t
noncomputable def rowSB (n sc sf : Int) (ds : List Dc) (l : List Tm) (most : Int) : Bool := by classical exact decide (RowSrc n sc sf ds l most)
theorem rowSB_iff (n sc sf : Int) (ds : List Dc) (l : List Tm) (most : Int) : rowSB n sc sf ds l most = true ↔ RowSrc n sc sf ds l most := by unfold rowSB; simp
set_option maxRecDepth 100000 in
set_option maxHeartbeats 4000000 in
theorem srow_any (n sc sf : Int) (ds : List Dc) (Ad : Option Addr) (nd cd : Nat) (l : List Tm) (A : Option Addr) (ln c : Nat) (most : Int) (w : World) (hK : KindsAll w) (hds : Dcs w w.heap.size Ad cd ds) (hnd : ds.length = nd) (hl : Tms w w.heap.size A c l) (hln : l.length = ln) (h9 : ln ≤ 1048576) (hfit : ∀ t ∈ l, t.fit ∧ t.size ≤ 1073741824) (h0 : 0 ≤ sc) (h8 : sc ≤ 1048576) :
    Calls Tryd.prog 71 #[OvV Ad nd cd n sc sf, .slice A ln c, .int .i64 most] w (MustPost w 4 (rowSB n sc sf ds l most)) := by
  obtain ⟨r, hr⟩ : ∃ r, rowSB n sc sf ds l most = r := ⟨_, rfl⟩
  have hrr : r = true ↔ (ln : Int) ≤ most ∧ ∀ (i : Nat) (t : Tm), l[i]? = some t → RightSrc n (sc + i) sf ds t := by rw [← hr, rowSB_iff, ← hln]; rfl
  rw [hr]
  obtain ⟨w1, hw1⟩ : ∃ x, w.alloc (.cells #[.slice Ad nd cd, .int .i64 n, .int .i64 sc, .int .i64 sf] 69) = x := ⟨_, rfl⟩
  have hb1 : Below w.heap.size w w1 := by rw [← hw1]; exact (Below.refl _ _).alloc (Nat.le_refl _) _
  have hs1 : w1.heap.size = w.heap.size + 1 := by rw [← hw1]; simp
  have x0 : w1.heap[w.heap.size]? = some (.cells #[.slice Ad nd cd, .int .i64 n, .int .i64 sc, .int .i64 sf] 69 (0, 0)) := by rw [← hw1]; exact heap_alloc_new w _
  have hw0 : 0 < w.heap.size := cell_lt (hK 0 (by decide)).1
  have HM := Lib.hid (smust_one (decide ((ln : Int) ≤ most)) w1 w1.heap.size rfl)
  have X0 := Lib.hid x0
  have HB1 := Lib.hid hb1
  have HS1 := Lib.hid hs1
  have HRR := Lib.hid hrr
  have HK := Lib.hid hK
  have HDS := Lib.hid hds
  have HND := Lib.hid hnd
  have HL := Lib.hid hl
  have HLN := Lib.hid hln
  have HFIT := Lib.hid hfit
  clear hr hrr hb1 hs1 x0 hK hds hnd hl hln hfit
  unfold OvV
  go_enter Tryd.func71, Tryd.ntmps71
  go_wp2_with (fail)
  refine HM.out.mono ?_
  rintro e w2 h
  clear HM
  cases hm : decide ((ln : Int) ≤ most) with
  | false =>
    rw [hm] at h
    obtain ⟨rfl, hb2⟩ := h.2 rfl
    have HFF : Hid (MustPost w 4 r (.panicked [{ v := .iface 112 (.int .i64 4), recovered := false }]) w2) := by
      have hrf : r = false := by
        cases r with
        | false => rfl
        | true => exact absurd (HRR.out.1 rfl).1 (of_decide_eq_false hm)
      rw [hrf]
      exact MustPost.no ⟨rfl, HB1.out.trans (hb2.mono HB1.out.size)⟩
    clear h hb2 hm
    go_wp2
    exact ⟨rfl, HFF.out⟩
  | true =>
    rw [hm] at h
    have HMO := Lib.hid (of_decide_eq_true hm)
    obtain ⟨rfl, hb2⟩ := h.1 rfl
    have HB2 := Lib.hid hb2
    clear h hb2 hm
    go_wp2_with (fail)
    go_loopw [17] (fun i wr => ∃ q : Nat, q ≤ ln ∧ i = .int .i64 q ∧ Below w1.heap.size w1 wr ∧ ∀ (j : Nat) (t : Tm), j < q → l[j]? = some t → RightSrc n (sc + j) sf ds t) (fun i _ => ln - (intOf i).toNat)
    case atStart => exact ⟨0, Nat.zero_le _, rfl, HB2.out, fun j t hj => absurd hj (by omega)⟩
    case round =>
      obtain ⟨q, hq, rfl, hbq, hall⟩ := hrel
      by_cases hlt : q < ln
      · have hlen := HLN.out
        obtain ⟨t, ht⟩ : ∃ t, l[q]? = some t := ⟨l[q]'(by omega), List.getElem?_eq_getElem (by omega)⟩
        have hbr : Below w.heap.size w wr := HB1.out.trans (hbq.mono HB1.out.size)
        obtain ⟨b, o, v9, rfl, hbB, hfive, htm⟩ := HL.out.get ht
        obtain ⟨hft, hst⟩ := HFIT.out t (List.mem_of_getElem? ht)
        have HTM := Lib.hid htm
        obtain ⟨u, hu⟩ : ∃ u, t = u := ⟨_, rfl⟩
        have HT := Lib.hid ht
        obtain ⟨k1, n1, a1, lv1, kids1⟩ := t
        obtain ⟨B1, m1, B2, m2, rfl, _, _, _⟩ := htm.open
        obtain ⟨c0', c1', c2', c3', c4', e, g0, g1, g2, g3, g4⟩ := hfive.keep (fun j => hbr.cell (p := ⟨b, j, none⟩) hbB)
        injection e with e
        injection e with e
        injection e with e0 e
        injection e with e1 e
        injection e with e2 e
        injection e with e3 e
        injection e with e4 _
        subst e0 e1 e2 e3 e4
        rw [hu] at HTM HT hft hst
        obtain ⟨l1, hl1⟩ : ∃ x, lv1.length = x := ⟨_, rfl⟩
        obtain ⟨l2, hl2⟩ : ∃ x, kids1.length = x := ⟨_, rfl⟩
        rw [hl1] at g3
        rw [hl2] at g4
        rw [hl1, hl2] at HTM
        obtain ⟨wb, hwb⟩ : ∃ x, wr.alloc (.cells #[.int .i64 k1, .int .i64 n1, .int .i64 a1, .slice B1 l1 m1, .slice B2 l2 m2] 27) = x := ⟨_, rfl⟩
        obtain ⟨wa, hwa⟩ : ∃ x, wb.alloc (.cells #[.slice Ad nd cd, .int .i64 n, .int .i64 sc, .int .i64 sf] 69) = x := ⟨_, rfl⟩
        obtain ⟨wc, hwc⟩ : ∃ x, wa.setCell ⟨wb.heap.size, 2, none⟩ (.int .i64 (sc + q)) = x := ⟨_, rfl⟩
        have hbb : Below wr.heap.size wr wb := by rw [← hwb]; exact (Below.refl _ _).alloc (Nat.le_refl _) _
        have hba : Below wb.heap.size wb wa := by rw [← hwa]; exact (Below.refl _ _).alloc (Nat.le_refl _) _
        have hsb : wr.heap.size + 1 ≤ wb.heap.size := by rw [← hwb]; simp
        have zb : wb.heap[wr.heap.size]? = some (.cells #[.int .i64 k1, .int .i64 n1, .int .i64 a1, .slice B1 l1 m1, .slice B2 l2 m2] 27 (0, 0)) := by rw [← hwb]; exact heap_alloc_new wr _
        have za : wa.heap[wb.heap.size]? = some (.cells #[.slice Ad nd cd, .int .i64 n, .int .i64 sc, .int .i64 sf] 69 (0, 0)) := by rw [← hwa]; exact heap_alloc_new wb _
        have zc : wc.heap[wb.heap.size]? = some (.cells #[.slice Ad nd cd, .int .i64 n, .int .i64 (sc + q), .int .i64 sf] 69 (0, 0)) := by rw [← hwc]; exact set_same za 2 _
        have yc : wc.heap[wr.heap.size]? = some (.cells #[.int .i64 k1, .int .i64 n1, .int .i64 a1, .slice B1 l1 m1, .slice B2 l2 m2] 27 (0, 0)) := by rw [← hwc]; exact (Below.heap_setCell _ _ _ _ (by show wr.heap.size ≠ wb.heap.size; omega)).trans ((hba.block _ (heap_some_lt zb)).trans zb)
        have hbc : Below wr.heap.size wr wc := by rw [← hwc]; exact (hbb.trans (hba.mono (by omega))).setCell (by show wr.heap.size ≤ wb.heap.size; omega) _
        have hqz := hbq.size
        have hxb := (hbb.block w.heap.size (by have := HS1.out; omega)).trans ((hbq.block w.heap.size (by have := HS1.out; omega)).trans X0.out)
        have s0 := cell_of_row _ _ 0 _ _ (0, 0) hxb
        have s1 := cell_of_row _ _ 1 _ _ (0, 0) hxb
        have s2 := cell_of_row _ _ 2 _ _ (0, 0) hxb
        have s3 := cell_of_row _ _ 3 _ _ (0, 0) hxb
        have a2 := cell_of_row _ _ 2 _ _ (0, 0) za
        have b2 := thawed za 2
        have d0 := cell_of_row _ _ 0 _ _ (0, 0) zc
        have d1 := cell_of_row _ _ 1 _ _ (0, 0) zc
        have d2 := cell_of_row _ _ 2 _ _ (0, 0) zc
        have d3 := cell_of_row _ _ 3 _ _ (0, 0) zc
        have f0 := cell_of_row _ _ 0 _ _ (0, 0) yc
        have f1 := cell_of_row _ _ 1 _ _ (0, 0) yc
        have f2 := cell_of_row _ _ 2 _ _ (0, 0) yc
        have f3 := cell_of_row _ _ 3 _ _ (0, 0) yc
        have f4 := cell_of_row _ _ 4 _ _ (0, 0) yc
        have hws : IntKind.i64.wrap (sc + (q : Int)) = sc + (q : Int) := IntWalk.i64_in _ (by omega)
        have HBC : Hid (Below w1.heap.size w1 wc) := hbq.trans (hbc.mono hqz)
        have hbwc : Below w.heap.size w wc := HB1.out.trans (HBC.out.mono HB1.out.size)
        have HC := Lib.hid (overRight_any n (sc + q) sf ds Ad nd cd u _ wc (HK.out.below hbwc hw0) (HDS.out.below hbwc hbwc.size) HND.out hft hst (HTM.out.below hbwc hbwc.size))
        obtain ⟨rb, hrb⟩ : ∃ x, rightSB n (sc + q) sf ds u = x := ⟨_, rfl⟩
        rw [hrb] at HC
        have HRB := Lib.hid hrb
        have HALL := Lib.hid hall
        have hgw : b < wr.heap.size := by have := hbr.size; omega
        unfold OvV at HC
        clear hbb hba hsb zb za zc yc hbc hbq hall hbr hbwc hxb hrb hu ht htm hfive hft hst HTM hl1 hl2 hlen hbB
        go_wp2_with (fail)
        refine HC.out.mono ?_
        rintro e w8 h
        clear HC s0 s1 s2 s3 a2 b2 d0 d1 d2 d3 f0 f1 f2 f3 f4 g0 g1 g2 g3 g4 hwa hwb hwc
        cases rb with
        | true =>
          obtain ⟨rfl, hb8⟩ := h.1 rfl
          have HB8 : Hid (Below w1.heap.size w1 w8) := HBC.out.trans (hb8.mono HBC.out.size)
          have HAL : Hid (∀ (j : Nat) (t : Tm), j < q + 1 → l[j]? = some t → RightSrc n (sc + j) sf ds t) := fun j t hj ht2 => by
            rcases Nat.lt_succ_iff_lt_or_eq.1 hj with hj | rfl
            · exact HALL.out j t hj ht2
            · rw [HT.out] at ht2
              injection ht2 with ht2
              subst ht2
              exact (rightSB_iff ..).1 HRB.out
          clear h hb8
          go_wp2
          go_roundw
          case rel => exact ⟨q + 1, by omega, by go_num, HB8.out, HAL.out⟩
          case measure => simp [intOf]; omega
        | false =>
          obtain ⟨rfl, hb8⟩ := h.2 rfl
          have HFF : Hid (MustPost w 4 r (.panicked [{ v := .iface 112 (.int .i64 4), recovered := false }]) w8) := by
            have hrf : r = false := by
              cases r with
              | false => rfl
              | true =>
                have h1 := (HRR.out.1 rfl).2 q _ HT.out
                rw [← rightSB_iff, HRB.out] at h1
                cases h1
            rw [hrf]
            exact MustPost.no ⟨rfl, HB1.out.trans ((HBC.out.trans (hb8.mono HBC.out.size)).mono HB1.out.size)⟩
          clear h hb8
          go_wp2
          exact ⟨rfl, HFF.out⟩
      · obtain rfl : q = ln := by omega
        have HFF : Hid (MustPost w 4 r (.returned (.tuple #[])) wr) := by
          have hrt : r = true := HRR.out.2 ⟨HMO.out, fun j t ht => hall j t (by have := (List.getElem?_eq_some_iff.1 ht).1; have := HLN.out; omega) ht⟩
          rw [hrt]
          exact MustPost.yes rfl (HB1.out.trans (hbq.mono HB1.out.size))
        clear hall hbq
        go_wp2
        go_end0
        exact HFF.out
end Go.Proofs.YtfgnnbpbbnnnhaaDoor
