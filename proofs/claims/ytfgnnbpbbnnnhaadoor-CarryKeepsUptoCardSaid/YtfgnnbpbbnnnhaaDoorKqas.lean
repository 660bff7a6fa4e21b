/- Laws. -/
import Derived.Test.YtfgnnbpbbnnnhaaDoorKqar
import Derived.Deep.WholeRow
namespace Go.Proofs.YtfgnnbpbbnnnhaaDoor
open Go.RowKit Go.Maps
theorem dc_alloc (w : World) (cs : Array Value) : (w.alloc (.cells zeroDc 43)).setRow w.heap.size cs = w.alloc (.cells cs 43) := World.setRow_alloc_new _ _ _ _
set_option maxRecDepth 100000 in
set_option maxHeartbeats 2000000 in
theorem cblock_any (ds : List Dc) (ns : List Int) (Ad : Option Addr) (nd cd : Nat) (Aa : Option Addr) (na ca : Nat) (i : Int) (B : Nat) (w : World) (hB : B ≤ w.heap.size) (hd : Dcs w B Ad cd ds) (hnd : ds.length = nd) (hI : Ints w B Aa ns) (hna : ns.length = na) :
    Calls Tryd.prog 106 #[BasesV Ad nd cd Aa na ca, .int .i64 i] w (OrThrow w 18 (decide (0 ≤ i) && decide (i < nd) && decide (i < na) && decide (((ds[i.toNat]?).map Dc.kind) = some 3)) fun e _ => ∃ d z cs, ds[i.toNat]? = some d ∧ ns[i.toNat]? = some z ∧ d.kind = 3 ∧ e = .returned (.tuple #[.agg cs, .int .i64 z]) ∧ DcAt w B d cs) := by
  unfold BasesV
  obtain ⟨z0, z1, _⟩ := two_allocs w (.cells #[.slice Ad nd cd, .slice Aa na ca] 96) (.cells zeroDc 43)
  obtain ⟨w1, hw1⟩ : ∃ x, (w.alloc (.cells #[.slice Ad nd cd, .slice Aa na ca] 96)).alloc (.cells zeroDc 43) = x := ⟨_, rfl⟩
  have hb1 : Below w.heap.size w w1 := by rw [← hw1]; exact ((Below.refl _ _).alloc (Nat.le_refl _) _).alloc (by simp) _
  have hs1 : w1.heap.size = w.heap.size + 2 := by rw [← hw1]; simp
  rw [hw1] at z0 z1
  have f0 := cell_of_row _ _ 0 _ _ (0, 0) z0
  have f1 := cell_of_row _ _ 1 _ _ (0, 0) z0
  have HC := Lib.hid (cdecl_any ds ns Ad nd cd Aa na ca i B w1 (by omega) (hd.below (hb1.mono hB) (Nat.le_refl _)) hnd (hI.below (hb1.mono hB)) hna)
  unfold BasesV at HC
  have HB1 := Lib.hid hb1
  have HS1 := Lib.hid hs1
  have X1 := Lib.hid z1
  unfold zeroDc at hw1
  have HBB := Lib.hid hB
  clear hd hI hnd hna hb1 hs1 z0 z1 hB
  go_enter Tryd.func106, Tryd.ntmps106
  go_wp2_with (fail)
  refine HC.out.mono ?_
  rintro e w2 h
  clear HC
  by_cases hv : (decide (0 ≤ i) && decide (i < (nd : Int)) && decide (i < (na : Int))) = true
  · obtain ⟨⟨d, z, cs, hdk, hz, rfl, hdc⟩, hb⟩ := h.1 hv
    have hx1 := (hb.block _ (heap_some_lt X1.out)).trans X1.out
    obtain ⟨w3, hw3⟩ : ∃ x, w2.alloc (.cells cs 43) = x := ⟨_, rfl⟩
    have hb3 : Below w2.heap.size w2 w3 := by rw [← hw3]; exact (Below.refl _ _).alloc (Nat.le_refl _) _
    have x3 : w3.heap[w2.heap.size]? = some (.cells cs 43 (0, 0)) := by rw [← hw3]; exact heap_alloc_new w2 _
    obtain ⟨e0, _, _, _⟩ := hdc.box x3
    have HX1 := Lib.hid ((hb3.block _ (heap_some_lt hx1)).trans hx1)
    have HB3 : Hid (Below w.heap.size w w3) := (HB1.out.trans (hb.mono HB1.out.size)).trans (hb3.mono (by have := hb.size; have := HB1.out.size; omega))
    have HDC := Lib.hid hdc
    have HX3 := Lib.hid x3
    have HDK := Lib.hid hdk
    have HZ := Lib.hid hz
    have HV := Lib.hid hv
    have hz2 := heap_alloc_new w2 (.cells zeroDc 43)
    have hsz : Hid (zeroDc.size = cs.size) := by show _ = _; rw [hdc.size]; rfl
    have hin : Hid ((Tryd.prog.info? 43).map (·.size) = some cs.size) := by show _ = _; rw [hdc.size]; exact infoDc
    have hall := Lib.hid hdc.one
    have hda := Lib.hid (dc_alloc w2 cs)
    obtain ⟨kd, hkd⟩ : ∃ x, d.kind = x := ⟨_, rfl⟩
    rw [hkd] at e0
    have HKD := Lib.hid hkd
    clear h hb hdk hz hdc hv hb3 x3 hx1 hkd
    unfold zeroDc at hz2 hda
    obtain ⟨w4, hw4⟩ : ∃ x, w3.alloc (.cells #[.bool (kd == 3)] 4) = x := ⟨_, rfl⟩
    have hb4 : Below w3.heap.size w3 w4 := by rw [← hw4]; exact (Below.refl _ _).alloc (Nat.le_refl _) _
    have x4 : w4.heap[w3.heap.size]? = some (.cells ([kd == 3].map Value.bool).toArray 4 (0, 0)) := by rw [← hw4]; exact heap_alloc_new w3 _
    have HM := Lib.hid (cmust_any [kd == 3] (some ⟨w3.heap.size, 0, none⟩) 1 1 w4 rfl (by decide) (bools_block x4))
    have HX1' := Lib.hid ((hb4.block _ (heap_some_lt HX1.out)).trans HX1.out)
    have HX3' := Lib.hid ((hb4.block _ (heap_some_lt HX3.out)).trans HX3.out)
    have HB4 : Hid (Below w.heap.size w w4) := HB3.out.trans (hb4.mono (by have := HB3.out.size; omega))
    clear hb4 x4
    go_wp2_with (first | (refine wpList_store_row rfl 43 (.tmp 6) (.tmp 12) rfl w2.heap.size cs rfl rfl 43 zeroDc hz2 hin.out hsz.out hall.out ?_; rw [hda.out, hw3]) | fail)
    refine HM.out.mono ?_
    rintro e w5 h
    clear HM hw3 hda hz2 hsz
    have hke : (decide (((ds[i.toNat]?).map Dc.kind) = some 3)) = (kd == 3) := by
      rw [HDK.out]
      show decide (some d.kind = some 3) = (kd == 3)
      rw [HKD.out]
      by_cases h3 : kd = 3 <;> simp [h3]
    have hg : (decide (0 ≤ i) && decide (i < (nd : Int)) && decide (i < (na : Int)) && decide (((ds[i.toNat]?).map Dc.kind) = some 3)) = (kd == 3) := by rw [HV.out, hke, Bool.true_and]
    have HG := Lib.hid hg
    clear hg hke
    cases hk3 : (kd == 3) with
    | true =>
      rw [hk3] at h
      obtain ⟨rfl, hb5⟩ := h.1 rfl
      have Y1 := (hb5.block _ (heap_some_lt HX1'.out)).trans HX1'.out
      have Y3 := (hb5.block _ (heap_some_lt HX3'.out)).trans HX3'.out
      have Z1 := Lib.hid (setRow_heap w5 (w.heap.size + 1) _ cs _ _ Y1)
      have HF : Hid (Below w.heap.size w (w5.setRow (w.heap.size + 1) cs)) := below_setRow (HB4.out.trans (hb5.mono HB4.out.size)) (by omega) _
      have H3 : Hid (kd = 3) := by show _ = _; simpa using hk3
      have hsz : Hid (zeroDc.size = cs.size) := by show _ = _; rw [HDC.out.size]; rfl
      clear h hb5 e0
      go_wp2_with (first | (refine wpList_load_row rfl 43 (.tmp 6) rfl w2.heap.size rfl 43 cs (0, 0) _ Y3 Tryd.underlying43 rfl hin.out ?_) | (refine wpList_store_row rfl 43 (.tmp 4) (.tmp 19) rfl (w.heap.size + 1) cs rfl rfl 43 zeroDc Y1 hin.out hsz.out hall.out ?_) | fail)
      obtain ⟨wg, hwg⟩ : ∃ x, w5.setRow (w.heap.size + 1) cs = x := ⟨_, rfl⟩
      rw [hwg] at HF Z1 ⊢
      refine bodyPost_ret (v := .tuple #[.agg cs, .int .i64 z]) ?_ rfl ⟨fun _ => ⟨⟨d, z, cs, HDK.out, HZ.out, by rw [HKD.out, H3.out], rfl, HDC.out.keep (Nat.le_refl _) fun p hp => (HB1.out.cell (by have := HBB.out; omega)).symm⟩, HF.out⟩, fun h => ?_⟩
      · rw [results_cell_tmp rfl]
        have := run_loadVar_row wg (w.heap.size + 1) 43 43 cs (0, 0) _ Z1.out Tryd.underlying43 rfl hin.out
        simp [asAddr, this, Result.andThen]
      · rw [HG.out, H3.out] at h
        cases h
    | false =>
      rw [hk3] at h
      obtain ⟨rfl, hb5⟩ := h.2 rfl
      have HF : Hid (Below w.heap.size w w5) := HB4.out.trans (hb5.mono HB4.out.size)
      have H3 := Lib.hid hk3
      clear h hb5
      go_wp2
      refine ⟨rfl, fun h => ?_, fun _ => ⟨rfl, HF.out⟩⟩
      rw [HG.out, H3.out] at h
      cases h
  · have hv2 : (decide (0 ≤ i) && decide (i < (nd : Int)) && decide (i < (na : Int))) = false := by simpa using hv
    obtain ⟨rfl, hb⟩ := h.2 hv2
    have HF : Hid (Below w.heap.size w w2) := HB1.out.trans (hb.mono HB1.out.size)
    have HV := Lib.hid hv2
    clear h hb hv hv2
    go_wp2
    refine ⟨rfl, fun h => ?_, fun _ => ⟨rfl, HF.out⟩⟩
    rw [HV.out, Bool.false_and] at h
    cases h
end Go.Proofs.YtfgnnbpbbnnnhaaDoor
namespace Go.Proofs.YtfgnnbpbbnnnhaaDoor
open Go.RowKit Go.Maps
/-- an error of number 18, or a number -/
def OptPost (w : World) (o : Option Int) (e : Ending) (w' : World) : Prop := (∀ x, o = some x → e = .returned (.int .i64 x) ∧ Below w.heap.size w w') ∧ (o = none → ThrowPost w 18 e w')
theorem OptPost.yes {w w' : World} {x : Int} {e : Ending} (h1 : e = .returned (.int .i64 x)) (h2 : Below w.heap.size w w') : OptPost w (some x) e w' := ⟨fun y h => (by injection h with h; subst h; exact ⟨h1, h2⟩), fun h => (by cases h)⟩
theorem OptPost.no {w w' : World} {e : Ending} (h : ThrowPost w 18 e w') : OptPost w none e w' := ⟨fun y h => (by cases h), fun _ => h⟩
/-- what is told of the declaration of a number, and its base -/
def nameO (f : Dc → Int → Option Int) (ds : List Dc) (ns : List Int) (num : Int) : Option Int := if 0 ≤ num then (ds[num.toNat]?).bind fun d => (ns[num.toNat]?).bind fun z => f d z else none
def conF (d : Dc) (z : Int) : Option Int := if d.kind = 1 ∨ d.kind = 2 then some z else none
def memF (pos : Int) (d : Dc) (z : Int) : Option Int := if d.kind = 3 ∧ 0 ≤ pos ∧ pos < d.mems.length then some (z + 5 + pos) else none
def ctoF (pos : Int) (d : Dc) (z : Int) : Option Int := if d.kind = 3 ∧ 0 ≤ pos ∧ pos < d.ctors.length then some (z + 5 + d.mems.length + pos) else none
def recF (pos : Int) (d : Dc) (z : Int) : Option Int := if d.kind = 3 ∧ 0 ≤ pos ∧ pos < d.mems.length then some (z + 5 + d.mems.length + d.ctors.length + 1 + pos) else none
theorem nameO_some {f : Dc → Int → Option Int} {ds : List Dc} {ns : List Int} {num : Int} {d : Dc} {z : Int} (h0 : 0 ≤ num) (h1 : ds[num.toNat]? = some d) (h2 : ns[num.toNat]? = some z) : nameO f ds ns num = f d z := by
  unfold nameO
  rw [if_pos h0, h1, h2]
  rfl
/-- where no declaration is told of there is no name -/
theorem nameO_none {f : Dc → Int → Option Int} {ds : List Dc} {ns : List Int} {num : Int} {nd na : Nat} (hnd : ds.length = nd) (hna : ns.length = na) (h : (decide (0 ≤ num) && decide (num < (nd : Int)) && decide (num < (na : Int))) = false) : nameO f ds ns num = none := by
  unfold nameO
  by_cases h0 : 0 ≤ num
  · rw [if_pos h0]
    by_cases h1 : num < (nd : Int)
    · have h2 : ¬ num < (na : Int) := fun h2 => by simp [h0, h1, h2] at h
      rw [List.getElem?_eq_none (l := ns) (by omega)]
      cases ds[num.toNat]? <;> rfl
    · rw [List.getElem?_eq_none (l := ds) (by omega)]
      rfl
  · rw [if_neg h0]
theorem nameO_other {f : Dc → Int → Option Int} {ds : List Dc} {ns : List Int} {num : Int} {nd na : Nat} (hf : ∀ d z, d.kind ≠ 3 → f d z = none) (hnd : ds.length = nd) (hna : ns.length = na) (h : (decide (0 ≤ num) && decide (num < (nd : Int)) && decide (num < (na : Int)) && decide (((ds[num.toNat]?).map Dc.kind) = some 3)) = false) : nameO f ds ns num = none := by
  by_cases hv : (decide (0 ≤ num) && decide (num < (nd : Int)) && decide (num < (na : Int))) = false
  · exact nameO_none hnd hna hv
  · have hv : (decide (0 ≤ num) && decide (num < (nd : Int)) && decide (num < (na : Int))) = true := Bool.of_not_eq_false hv
    rw [hv, Bool.true_and] at h
    have h := of_decide_eq_false h
    unfold nameO
    split
    · cases e : ds[num.toNat]? with
      | none => rfl
      | some d =>
        rw [e] at h
        have hk : d.kind ≠ 3 := fun hk => h (by simp [hk])
        simp only [Option.bind_some]
        cases ns[num.toNat]? with
        | none => rfl
        | some z => exact hf d z hk
    · rfl
theorem nameO_lt {num : Int} {nd na : Nat} {b : Bool} (h : (decide (0 ≤ num) && decide (num < (nd : Int)) && decide (num < (na : Int)) && b) = true) : 0 ≤ num := by
  simp only [Bool.and_eq_true, decide_eq_true_eq] at h
  exact h.1.1.1
set_option maxRecDepth 100000 in
set_option maxHeartbeats 2000000 in
theorem cmember_any (ds : List Dc) (ns : List Int) (Ad : Option Addr) (nd cd : Nat) (Aa : Option Addr) (na ca : Nat) (k num pos : Int) (A1 : Option Addr) (p1 c1 : Nat) (A2 : Option Addr) (p2 c2 : Nat) (B : Nat) (w : World) (hB : B ≤ w.heap.size) (hd : Dcs w B Ad cd ds) (hnd : ds.length = nd) (hI : Ints w B Aa ns) (hna : ns.length = na)
    (hok : ∀ z ∈ ns, 0 ≤ z ∧ z ≤ 1099511627776) (hsm : ∀ d ∈ ds, d.mems.length ≤ 1048576 ∧ d.ctors.length ≤ 1048576) :
    Calls Tryd.prog 78 #[BasesV Ad nd cd Aa na ca, .agg #[.int .i64 k, .int .i64 num, .int .i64 pos, .slice A1 p1 c1, .slice A2 p2 c2]] w (OptPost w (nameO (memF pos) ds ns num)) := by
  unfold BasesV
  obtain ⟨z0, z1, _⟩ := two_allocs w (.cells #[.slice Ad nd cd, .slice Aa na ca] 96) (.cells #[.int .i64 k, .int .i64 num, .int .i64 pos, .slice A1 p1 c1, .slice A2 p2 c2] 27)
  obtain ⟨w1, hw1⟩ : ∃ x, (w.alloc (.cells #[.slice Ad nd cd, .slice Aa na ca] 96)).alloc (.cells #[.int .i64 k, .int .i64 num, .int .i64 pos, .slice A1 p1 c1, .slice A2 p2 c2] 27) = x := ⟨_, rfl⟩
  have hb1 : Below w.heap.size w w1 := by rw [← hw1]; exact ((Below.refl _ _).alloc (Nat.le_refl _) _).alloc (by simp) _
  have hs1 : w1.heap.size = w.heap.size + 2 := by rw [← hw1]; simp
  rw [hw1] at z0 z1
  have f0 : w1.cell? ⟨w.heap.size, 0, none⟩ = some (.slice Ad nd cd) := cell_of_row _ _ 0 _ _ (0, 0) z0
  have f1 : w1.cell? ⟨w.heap.size, 1, none⟩ = some (.slice Aa na ca) := cell_of_row _ _ 1 _ _ (0, 0) z0
  have g1 : w1.cell? ⟨w.heap.size + 1, 1, none⟩ = some (.int .i64 num) := cell_of_row _ _ 1 _ _ (0, 0) z1
  have HC := Lib.hid (cblock_any ds ns Ad nd cd Aa na ca num B w1 (by omega) (hd.below (hb1.mono hB) (Nat.le_refl _)) hnd (hI.below (hb1.mono hB)) hna)
  unfold BasesV at HC
  have HB1 := Lib.hid hb1
  have X1 := Lib.hid z1
  have HBB := Lib.hid hB
  have HND := Lib.hid hnd
  have HNA := Lib.hid hna
  have HOK := Lib.hid hok
  have HSM := Lib.hid hsm
  clear hd hI hnd hna hb1 hs1 z0 z1 hB hok hsm
  go_enter Tryd.func78, Tryd.ntmps78
  go_wp2_with (fail)
  refine HC.out.mono ?_
  rintro e w2 h
  clear HC f0 f1 g1
  by_cases hv : (decide (0 ≤ num) && decide (num < (nd : Int)) && decide (num < (na : Int)) && decide (((ds[num.toNat]?).map Dc.kind) = some 3)) = true
  · obtain ⟨⟨d, z, cs, hdk, hz, hk3, rfl, hdc⟩, hb⟩ := h.1 hv
    have HN : Hid (nameO (memF pos) ds ns num = memF pos d z) := nameO_some (nameO_lt hv) hdk hz
    obtain ⟨hz1, hz2'⟩ := HOK.out z (List.mem_of_getElem? hz)
    obtain ⟨hm9, hc9⟩ := HSM.out d (List.mem_of_getElem? hdk)
    have hx1 := (hb.block _ (heap_some_lt X1.out)).trans X1.out
    obtain ⟨w3, hw3⟩ : ∃ x, w2.alloc (.cells cs 43) = x := ⟨_, rfl⟩
    have hb3 : Below w2.heap.size w2 w3 := by rw [← hw3]; exact (Below.refl _ _).alloc (Nat.le_refl _) _
    have x3 : w3.heap[w2.heap.size]? = some (.cells cs 43 (0, 0)) := by rw [← hw3]; exact heap_alloc_new w2 _
    have hx3 := (hb3.block _ (heap_some_lt hx1)).trans hx1
    obtain ⟨_, _, ⟨Am, cm, e14⟩, Ac, cc, e15⟩ := hdc.box x3
    have g2 : w3.cell? ⟨w.heap.size + 1, 2, none⟩ = some (.int .i64 pos) := cell_of_row _ _ 2 _ _ (0, 0) hx3
    obtain ⟨M, hM⟩ : ∃ x, d.mems.length = x := ⟨_, rfl⟩
    obtain ⟨C, hC⟩ : ∃ x, d.ctors.length = x := ⟨_, rfl⟩
    rw [hM] at e14 hm9
    rw [hC] at e15 hc9
    have HV : Hid (memF pos d z = if 0 ≤ pos ∧ pos < (M : Int) then some (z + 5 + pos) else none) := by
      show _ = _
      unfold memF
      rw [hM]
      simp [hk3]
    obtain ⟨w4, hw4⟩ : ∃ x, w3.alloc (.cells #[.bool (decide (0 ≤ pos)), .bool (decide (pos < (M : Int)))] 4) = x := ⟨_, rfl⟩
    have hb4 : Below w3.heap.size w3 w4 := by rw [← hw4]; exact (Below.refl _ _).alloc (Nat.le_refl _) _
    have x4 : w4.heap[w3.heap.size]? = some (.cells ([decide (0 ≤ pos), decide (pos < (M : Int))].map Value.bool).toArray 4 (0, 0)) := by rw [← hw4]; exact heap_alloc_new w3 _
    have HM := Lib.hid (cmust_any [decide (0 ≤ pos), decide (pos < (M : Int))] (some ⟨w3.heap.size, 0, none⟩) 2 2 w4 rfl (by decide) (bools_block x4))
    have HG2 := Lib.hid ((hb4.cell (p := ⟨w.heap.size + 1, 2, none⟩) (heap_some_lt hx3)).trans g2)
    have HE14 := Lib.hid ((hb4.cell (p := ⟨w2.heap.size, 0 + 14, none⟩) (heap_some_lt x3)).trans e14)
    have HE15 := Lib.hid ((hb4.cell (p := ⟨w2.heap.size, 0 + 15, none⟩) (heap_some_lt x3)).trans e15)
    have L3 := Lib.hid (heap_some_lt ((hb4.block _ (heap_some_lt hx3)).trans hx3))
    have L4 := Lib.hid (heap_some_lt ((hb4.block _ (heap_some_lt x3)).trans x3))
    have HB4 : Hid (Below w.heap.size w w4) := ((HB1.out.trans (hb.mono HB1.out.size)).trans (hb3.mono (by have := hb.size; have := HB1.out.size; omega))).trans (hb4.mono (by have := hb.size; have := HB1.out.size; have := hb3.size; omega))
    have hz2 := heap_alloc_new w2 (.cells zeroDc 43)
    have hsz : Hid (zeroDc.size = cs.size) := by show _ = _; rw [hdc.size]; rfl
    have hin : Hid ((Tryd.prog.info? 43).map (·.size) = some cs.size) := by show _ = _; rw [hdc.size]; exact infoDc
    have hall := Lib.hid hdc.one
    have hda := Lib.hid (dc_alloc w2 cs)
    clear h hb hdk hz hdc hv hb3 x3 hx1 hM hC hk3 hx3 hb4 x4
    unfold zeroDc at hz2 hda
    go_wp2_with (first | (refine wpList_store_row rfl 43 (.tmp 5) (.tmp 12) rfl w2.heap.size cs rfl rfl 43 zeroDc hz2 hin.out hsz.out hall.out ?_; rw [hda.out, hw3]) | fail)
    refine HM.out.mono ?_
    rintro e w5 h
    clear HM hw3 hda hz2 hsz hin hall e14 e15 g2
    by_cases hp : 0 ≤ pos ∧ pos < (M : Int)
    · have hp3 : ([decide (0 ≤ pos), decide (pos < (M : Int))].all id) = true := by simp [hp.1, hp.2]
      rw [hp3] at h
      obtain ⟨rfl, hb5⟩ := h.1 rfl
      have g2 := (hb5.cell (p := ⟨w.heap.size + 1, 2, none⟩) L3.out).trans HG2.out
      have e14 := (hb5.cell (p := ⟨w2.heap.size, 0 + 14, none⟩) L4.out).trans HE14.out
      have e15 := (hb5.cell (p := ⟨w2.heap.size, 0 + 15, none⟩) L4.out).trans HE15.out
      have HF : Hid (Below w.heap.size w w5) := HB4.out.trans (hb5.mono HB4.out.size)
      have HV2 : Hid (nameO (memF pos) ds ns num = some (z + 5 + pos)) := by show _ = _; rw [HN.out, HV.out, if_pos hp]
      obtain ⟨q0, q1⟩ := hp
      have s0 : IntKind.i64.wrap (z + 5) = z + 5 := IntWalk.i64_in _ (by omega)
      have s1 : IntKind.i64.wrap (z + 5 + pos) = z + 5 + pos := IntWalk.i64_in _ (by omega)
      clear h hb5 hp3
      go_wp2
      go_ret
      rw [HV2.out]
      exact OptPost.yes rfl HF.out
    · have hp3 : ([decide (0 ≤ pos), decide (pos < (M : Int))].all id) = false := by
        simp
        omega
      rw [hp3] at h
      obtain ⟨rfl, hb5⟩ := h.2 rfl
      have HF : Hid (Below w.heap.size w w5) := HB4.out.trans (hb5.mono HB4.out.size)
      have HV2 : Hid (nameO (memF pos) ds ns num = none) := by show _ = _; rw [HN.out, HV.out, if_neg hp]
      clear h hb5 hp3 hp
      go_wp2
      refine ⟨rfl, ?_⟩
      rw [HV2.out]
      exact OptPost.no ⟨rfl, HF.out⟩
  · have hv2 : (decide (0 ≤ num) && decide (num < (nd : Int)) && decide (num < (na : Int)) && decide (((ds[num.toNat]?).map Dc.kind) = some 3)) = false := by simpa using hv
    obtain ⟨rfl, hb⟩ := h.2 hv2
    have HF : Hid (Below w.heap.size w w2) := HB1.out.trans (hb.mono HB1.out.size)
    have HV2 : Hid (nameO (memF pos) ds ns num = none) := nameO_other (fun d z hk => by unfold memF; rw [if_neg (fun h => hk h.1)]) HND.out HNA.out hv2
    clear h hb hv hv2
    go_wp2
    refine ⟨rfl, ?_⟩
    rw [HV2.out]
    exact OptPost.no ⟨rfl, HF.out⟩
set_option maxRecDepth 100000 in
set_option maxHeartbeats 2000000 in
theorem cctor_any (ds : List Dc) (ns : List Int) (Ad : Option Addr) (nd cd : Nat) (Aa : Option Addr) (na ca : Nat) (k num pos : Int) (A1 : Option Addr) (p1 c1 : Nat) (A2 : Option Addr) (p2 c2 : Nat) (B : Nat) (w : World) (hB : B ≤ w.heap.size) (hd : Dcs w B Ad cd ds) (hnd : ds.length = nd) (hI : Ints w B Aa ns) (hna : ns.length = na)
    (hok : ∀ z ∈ ns, 0 ≤ z ∧ z ≤ 1099511627776) (hsm : ∀ d ∈ ds, d.mems.length ≤ 1048576 ∧ d.ctors.length ≤ 1048576) :
    Calls Tryd.prog 79 #[BasesV Ad nd cd Aa na ca, .agg #[.int .i64 k, .int .i64 num, .int .i64 pos, .slice A1 p1 c1, .slice A2 p2 c2]] w (OptPost w (nameO (ctoF pos) ds ns num)) := by
  unfold BasesV
  obtain ⟨z0, z1, _⟩ := two_allocs w (.cells #[.slice Ad nd cd, .slice Aa na ca] 96) (.cells #[.int .i64 k, .int .i64 num, .int .i64 pos, .slice A1 p1 c1, .slice A2 p2 c2] 27)
  obtain ⟨w1, hw1⟩ : ∃ x, (w.alloc (.cells #[.slice Ad nd cd, .slice Aa na ca] 96)).alloc (.cells #[.int .i64 k, .int .i64 num, .int .i64 pos, .slice A1 p1 c1, .slice A2 p2 c2] 27) = x := ⟨_, rfl⟩
  have hb1 : Below w.heap.size w w1 := by rw [← hw1]; exact ((Below.refl _ _).alloc (Nat.le_refl _) _).alloc (by simp) _
  have hs1 : w1.heap.size = w.heap.size + 2 := by rw [← hw1]; simp
  rw [hw1] at z0 z1
  have f0 : w1.cell? ⟨w.heap.size, 0, none⟩ = some (.slice Ad nd cd) := cell_of_row _ _ 0 _ _ (0, 0) z0
  have f1 : w1.cell? ⟨w.heap.size, 1, none⟩ = some (.slice Aa na ca) := cell_of_row _ _ 1 _ _ (0, 0) z0
  have g1 : w1.cell? ⟨w.heap.size + 1, 1, none⟩ = some (.int .i64 num) := cell_of_row _ _ 1 _ _ (0, 0) z1
  have HC := Lib.hid (cblock_any ds ns Ad nd cd Aa na ca num B w1 (by omega) (hd.below (hb1.mono hB) (Nat.le_refl _)) hnd (hI.below (hb1.mono hB)) hna)
  unfold BasesV at HC
  have HB1 := Lib.hid hb1
  have X1 := Lib.hid z1
  have HBB := Lib.hid hB
  have HND := Lib.hid hnd
  have HNA := Lib.hid hna
  have HOK := Lib.hid hok
  have HSM := Lib.hid hsm
  clear hd hI hnd hna hb1 hs1 z0 z1 hB hok hsm
  go_enter Tryd.func79, Tryd.ntmps79
  go_wp2_with (fail)
  refine HC.out.mono ?_
  rintro e w2 h
  clear HC f0 f1 g1
  by_cases hv : (decide (0 ≤ num) && decide (num < (nd : Int)) && decide (num < (na : Int)) && decide (((ds[num.toNat]?).map Dc.kind) = some 3)) = true
  · obtain ⟨⟨d, z, cs, hdk, hz, hk3, rfl, hdc⟩, hb⟩ := h.1 hv
    have HN : Hid (nameO (ctoF pos) ds ns num = ctoF pos d z) := nameO_some (nameO_lt hv) hdk hz
    obtain ⟨hz1, hz2'⟩ := HOK.out z (List.mem_of_getElem? hz)
    obtain ⟨hm9, hc9⟩ := HSM.out d (List.mem_of_getElem? hdk)
    have hx1 := (hb.block _ (heap_some_lt X1.out)).trans X1.out
    obtain ⟨w3, hw3⟩ : ∃ x, w2.alloc (.cells cs 43) = x := ⟨_, rfl⟩
    have hb3 : Below w2.heap.size w2 w3 := by rw [← hw3]; exact (Below.refl _ _).alloc (Nat.le_refl _) _
    have x3 : w3.heap[w2.heap.size]? = some (.cells cs 43 (0, 0)) := by rw [← hw3]; exact heap_alloc_new w2 _
    have hx3 := (hb3.block _ (heap_some_lt hx1)).trans hx1
    obtain ⟨_, _, ⟨Am, cm, e14⟩, Ac, cc, e15⟩ := hdc.box x3
    have g2 : w3.cell? ⟨w.heap.size + 1, 2, none⟩ = some (.int .i64 pos) := cell_of_row _ _ 2 _ _ (0, 0) hx3
    obtain ⟨M, hM⟩ : ∃ x, d.mems.length = x := ⟨_, rfl⟩
    obtain ⟨C, hC⟩ : ∃ x, d.ctors.length = x := ⟨_, rfl⟩
    rw [hM] at e14 hm9
    rw [hC] at e15 hc9
    have HV : Hid (ctoF pos d z = if 0 ≤ pos ∧ pos < (C : Int) then some (z + 5 + (M : Int) + pos) else none) := by
      show _ = _
      unfold ctoF
      rw [hM, hC]
      simp [hk3]
    obtain ⟨w4, hw4⟩ : ∃ x, w3.alloc (.cells #[.bool (decide (0 ≤ pos)), .bool (decide (pos < (C : Int)))] 4) = x := ⟨_, rfl⟩
    have hb4 : Below w3.heap.size w3 w4 := by rw [← hw4]; exact (Below.refl _ _).alloc (Nat.le_refl _) _
    have x4 : w4.heap[w3.heap.size]? = some (.cells ([decide (0 ≤ pos), decide (pos < (C : Int))].map Value.bool).toArray 4 (0, 0)) := by rw [← hw4]; exact heap_alloc_new w3 _
    have HM := Lib.hid (cmust_any [decide (0 ≤ pos), decide (pos < (C : Int))] (some ⟨w3.heap.size, 0, none⟩) 2 2 w4 rfl (by decide) (bools_block x4))
    have HG2 := Lib.hid ((hb4.cell (p := ⟨w.heap.size + 1, 2, none⟩) (heap_some_lt hx3)).trans g2)
    have HE14 := Lib.hid ((hb4.cell (p := ⟨w2.heap.size, 0 + 14, none⟩) (heap_some_lt x3)).trans e14)
    have HE15 := Lib.hid ((hb4.cell (p := ⟨w2.heap.size, 0 + 15, none⟩) (heap_some_lt x3)).trans e15)
    have L3 := Lib.hid (heap_some_lt ((hb4.block _ (heap_some_lt hx3)).trans hx3))
    have L4 := Lib.hid (heap_some_lt ((hb4.block _ (heap_some_lt x3)).trans x3))
    have HB4 : Hid (Below w.heap.size w w4) := ((HB1.out.trans (hb.mono HB1.out.size)).trans (hb3.mono (by have := hb.size; have := HB1.out.size; omega))).trans (hb4.mono (by have := hb.size; have := HB1.out.size; have := hb3.size; omega))
    have hz2 := heap_alloc_new w2 (.cells zeroDc 43)
    have hsz : Hid (zeroDc.size = cs.size) := by show _ = _; rw [hdc.size]; rfl
    have hin : Hid ((Tryd.prog.info? 43).map (·.size) = some cs.size) := by show _ = _; rw [hdc.size]; exact infoDc
    have hall := Lib.hid hdc.one
    have hda := Lib.hid (dc_alloc w2 cs)
    clear h hb hdk hz hdc hv hb3 x3 hx1 hM hC hk3 hx3 hb4 x4
    unfold zeroDc at hz2 hda
    go_wp2_with (first | (refine wpList_store_row rfl 43 (.tmp 5) (.tmp 12) rfl w2.heap.size cs rfl rfl 43 zeroDc hz2 hin.out hsz.out hall.out ?_; rw [hda.out, hw3]) | fail)
    refine HM.out.mono ?_
    rintro e w5 h
    clear HM hw3 hda hz2 hsz hin hall e14 e15 g2
    by_cases hp : 0 ≤ pos ∧ pos < (C : Int)
    · have hp3 : ([decide (0 ≤ pos), decide (pos < (C : Int))].all id) = true := by simp [hp.1, hp.2]
      rw [hp3] at h
      obtain ⟨rfl, hb5⟩ := h.1 rfl
      have g2 := (hb5.cell (p := ⟨w.heap.size + 1, 2, none⟩) L3.out).trans HG2.out
      have e14 := (hb5.cell (p := ⟨w2.heap.size, 0 + 14, none⟩) L4.out).trans HE14.out
      have e15 := (hb5.cell (p := ⟨w2.heap.size, 0 + 15, none⟩) L4.out).trans HE15.out
      have HF : Hid (Below w.heap.size w w5) := HB4.out.trans (hb5.mono HB4.out.size)
      have HV2 : Hid (nameO (ctoF pos) ds ns num = some (z + 5 + (M : Int) + pos)) := by show _ = _; rw [HN.out, HV.out, if_pos hp]
      obtain ⟨q0, q1⟩ := hp
      have s0 : IntKind.i64.wrap (z + 5) = z + 5 := IntWalk.i64_in _ (by omega)
      have s1 : IntKind.i64.wrap (z + 5 + (M : Int)) = z + 5 + (M : Int) := IntWalk.i64_in _ (by omega)
      have s2 : IntKind.i64.wrap (z + 5 + (M : Int) + pos) = z + 5 + (M : Int) + pos := IntWalk.i64_in _ (by omega)
      clear h hb5 hp3
      go_wp2
      go_ret
      rw [HV2.out]
      exact OptPost.yes rfl HF.out
    · have hp3 : ([decide (0 ≤ pos), decide (pos < (C : Int))].all id) = false := by
        simp
        omega
      rw [hp3] at h
      obtain ⟨rfl, hb5⟩ := h.2 rfl
      have HF : Hid (Below w.heap.size w w5) := HB4.out.trans (hb5.mono HB4.out.size)
      have HV2 : Hid (nameO (ctoF pos) ds ns num = none) := by show _ = _; rw [HN.out, HV.out, if_neg hp]
      clear h hb5 hp3 hp
      go_wp2
      refine ⟨rfl, ?_⟩
      rw [HV2.out]
      exact OptPost.no ⟨rfl, HF.out⟩
  · have hv2 : (decide (0 ≤ num) && decide (num < (nd : Int)) && decide (num < (na : Int)) && decide (((ds[num.toNat]?).map Dc.kind) = some 3)) = false := by simpa using hv
    obtain ⟨rfl, hb⟩ := h.2 hv2
    have HF : Hid (Below w.heap.size w w2) := HB1.out.trans (hb.mono HB1.out.size)
    have HV2 : Hid (nameO (ctoF pos) ds ns num = none) := nameO_other (fun d z hk => by unfold ctoF; rw [if_neg (fun h => hk h.1)]) HND.out HNA.out hv2
    clear h hb hv hv2
    go_wp2
    refine ⟨rfl, ?_⟩
    rw [HV2.out]
    exact OptPost.no ⟨rfl, HF.out⟩
set_option maxRecDepth 100000 in
set_option maxHeartbeats 2000000 in
theorem crec_any (ds : List Dc) (ns : List Int) (Ad : Option Addr) (nd cd : Nat) (Aa : Option Addr) (na ca : Nat) (k num pos : Int) (A1 : Option Addr) (p1 c1 : Nat) (A2 : Option Addr) (p2 c2 : Nat) (B : Nat) (w : World) (hB : B ≤ w.heap.size) (hd : Dcs w B Ad cd ds) (hnd : ds.length = nd) (hI : Ints w B Aa ns) (hna : ns.length = na)
    (hok : ∀ z ∈ ns, 0 ≤ z ∧ z ≤ 1099511627776) (hsm : ∀ d ∈ ds, d.mems.length ≤ 1048576 ∧ d.ctors.length ≤ 1048576) :
    Calls Tryd.prog 80 #[BasesV Ad nd cd Aa na ca, .agg #[.int .i64 k, .int .i64 num, .int .i64 pos, .slice A1 p1 c1, .slice A2 p2 c2]] w (OptPost w (nameO (recF pos) ds ns num)) := by
  unfold BasesV
  obtain ⟨z0, z1, _⟩ := two_allocs w (.cells #[.slice Ad nd cd, .slice Aa na ca] 96) (.cells #[.int .i64 k, .int .i64 num, .int .i64 pos, .slice A1 p1 c1, .slice A2 p2 c2] 27)
  obtain ⟨w1, hw1⟩ : ∃ x, (w.alloc (.cells #[.slice Ad nd cd, .slice Aa na ca] 96)).alloc (.cells #[.int .i64 k, .int .i64 num, .int .i64 pos, .slice A1 p1 c1, .slice A2 p2 c2] 27) = x := ⟨_, rfl⟩
  have hb1 : Below w.heap.size w w1 := by rw [← hw1]; exact ((Below.refl _ _).alloc (Nat.le_refl _) _).alloc (by simp) _
  have hs1 : w1.heap.size = w.heap.size + 2 := by rw [← hw1]; simp
  rw [hw1] at z0 z1
  have f0 : w1.cell? ⟨w.heap.size, 0, none⟩ = some (.slice Ad nd cd) := cell_of_row _ _ 0 _ _ (0, 0) z0
  have f1 : w1.cell? ⟨w.heap.size, 1, none⟩ = some (.slice Aa na ca) := cell_of_row _ _ 1 _ _ (0, 0) z0
  have g1 : w1.cell? ⟨w.heap.size + 1, 1, none⟩ = some (.int .i64 num) := cell_of_row _ _ 1 _ _ (0, 0) z1
  have HC := Lib.hid (cblock_any ds ns Ad nd cd Aa na ca num B w1 (by omega) (hd.below (hb1.mono hB) (Nat.le_refl _)) hnd (hI.below (hb1.mono hB)) hna)
  unfold BasesV at HC
  have HB1 := Lib.hid hb1
  have X1 := Lib.hid z1
  have HBB := Lib.hid hB
  have HND := Lib.hid hnd
  have HNA := Lib.hid hna
  have HOK := Lib.hid hok
  have HSM := Lib.hid hsm
  clear hd hI hnd hna hb1 hs1 z0 z1 hB hok hsm
  go_enter Tryd.func80, Tryd.ntmps80
  go_wp2_with (fail)
  refine HC.out.mono ?_
  rintro e w2 h
  clear HC f0 f1 g1
  by_cases hv : (decide (0 ≤ num) && decide (num < (nd : Int)) && decide (num < (na : Int)) && decide (((ds[num.toNat]?).map Dc.kind) = some 3)) = true
  · obtain ⟨⟨d, z, cs, hdk, hz, hk3, rfl, hdc⟩, hb⟩ := h.1 hv
    have HN : Hid (nameO (recF pos) ds ns num = recF pos d z) := nameO_some (nameO_lt hv) hdk hz
    obtain ⟨hz1, hz2'⟩ := HOK.out z (List.mem_of_getElem? hz)
    obtain ⟨hm9, hc9⟩ := HSM.out d (List.mem_of_getElem? hdk)
    have hx1 := (hb.block _ (heap_some_lt X1.out)).trans X1.out
    obtain ⟨w3, hw3⟩ : ∃ x, w2.alloc (.cells cs 43) = x := ⟨_, rfl⟩
    have hb3 : Below w2.heap.size w2 w3 := by rw [← hw3]; exact (Below.refl _ _).alloc (Nat.le_refl _) _
    have x3 : w3.heap[w2.heap.size]? = some (.cells cs 43 (0, 0)) := by rw [← hw3]; exact heap_alloc_new w2 _
    have hx3 := (hb3.block _ (heap_some_lt hx1)).trans hx1
    obtain ⟨_, _, ⟨Am, cm, e14⟩, Ac, cc, e15⟩ := hdc.box x3
    have g2 : w3.cell? ⟨w.heap.size + 1, 2, none⟩ = some (.int .i64 pos) := cell_of_row _ _ 2 _ _ (0, 0) hx3
    obtain ⟨M, hM⟩ : ∃ x, d.mems.length = x := ⟨_, rfl⟩
    obtain ⟨C, hC⟩ : ∃ x, d.ctors.length = x := ⟨_, rfl⟩
    rw [hM] at e14 hm9
    rw [hC] at e15 hc9
    have HV : Hid (recF pos d z = if 0 ≤ pos ∧ pos < (M : Int) then some (z + 5 + (M : Int) + (C : Int) + 1 + pos) else none) := by
      show _ = _
      unfold recF
      rw [hM, hC]
      simp [hk3]
    obtain ⟨w4, hw4⟩ : ∃ x, w3.alloc (.cells #[.bool (decide (0 ≤ pos)), .bool (decide (pos < (M : Int)))] 4) = x := ⟨_, rfl⟩
    have hb4 : Below w3.heap.size w3 w4 := by rw [← hw4]; exact (Below.refl _ _).alloc (Nat.le_refl _) _
    have x4 : w4.heap[w3.heap.size]? = some (.cells ([decide (0 ≤ pos), decide (pos < (M : Int))].map Value.bool).toArray 4 (0, 0)) := by rw [← hw4]; exact heap_alloc_new w3 _
    have HM := Lib.hid (cmust_any [decide (0 ≤ pos), decide (pos < (M : Int))] (some ⟨w3.heap.size, 0, none⟩) 2 2 w4 rfl (by decide) (bools_block x4))
    have HG2 := Lib.hid ((hb4.cell (p := ⟨w.heap.size + 1, 2, none⟩) (heap_some_lt hx3)).trans g2)
    have HE14 := Lib.hid ((hb4.cell (p := ⟨w2.heap.size, 0 + 14, none⟩) (heap_some_lt x3)).trans e14)
    have HE15 := Lib.hid ((hb4.cell (p := ⟨w2.heap.size, 0 + 15, none⟩) (heap_some_lt x3)).trans e15)
    have L3 := Lib.hid (heap_some_lt ((hb4.block _ (heap_some_lt hx3)).trans hx3))
    have L4 := Lib.hid (heap_some_lt ((hb4.block _ (heap_some_lt x3)).trans x3))
    have HB4 : Hid (Below w.heap.size w w4) := ((HB1.out.trans (hb.mono HB1.out.size)).trans (hb3.mono (by have := hb.size; have := HB1.out.size; omega))).trans (hb4.mono (by have := hb.size; have := HB1.out.size; have := hb3.size; omega))
    have hz2 := heap_alloc_new w2 (.cells zeroDc 43)
    have hsz : Hid (zeroDc.size = cs.size) := by show _ = _; rw [hdc.size]; rfl
    have hin : Hid ((Tryd.prog.info? 43).map (·.size) = some cs.size) := by show _ = _; rw [hdc.size]; exact infoDc
    have hall := Lib.hid hdc.one
    have hda := Lib.hid (dc_alloc w2 cs)
    clear h hb hdk hz hdc hv hb3 x3 hx1 hM hC hk3 hx3 hb4 x4
    unfold zeroDc at hz2 hda
    go_wp2_with (first | (refine wpList_store_row rfl 43 (.tmp 5) (.tmp 12) rfl w2.heap.size cs rfl rfl 43 zeroDc hz2 hin.out hsz.out hall.out ?_; rw [hda.out, hw3]) | fail)
    refine HM.out.mono ?_
    rintro e w5 h
    clear HM hw3 hda hz2 hsz hin hall e14 e15 g2
    by_cases hp : 0 ≤ pos ∧ pos < (M : Int)
    · have hp3 : ([decide (0 ≤ pos), decide (pos < (M : Int))].all id) = true := by simp [hp.1, hp.2]
      rw [hp3] at h
      obtain ⟨rfl, hb5⟩ := h.1 rfl
      have g2 := (hb5.cell (p := ⟨w.heap.size + 1, 2, none⟩) L3.out).trans HG2.out
      have e14 := (hb5.cell (p := ⟨w2.heap.size, 0 + 14, none⟩) L4.out).trans HE14.out
      have e15 := (hb5.cell (p := ⟨w2.heap.size, 0 + 15, none⟩) L4.out).trans HE15.out
      have HF : Hid (Below w.heap.size w w5) := HB4.out.trans (hb5.mono HB4.out.size)
      have HV2 : Hid (nameO (recF pos) ds ns num = some (z + 5 + (M : Int) + (C : Int) + 1 + pos)) := by show _ = _; rw [HN.out, HV.out, if_pos hp]
      obtain ⟨q0, q1⟩ := hp
      have s0 : IntKind.i64.wrap (z + 5) = z + 5 := IntWalk.i64_in _ (by omega)
      have s1 : IntKind.i64.wrap (z + 5 + (M : Int)) = z + 5 + (M : Int) := IntWalk.i64_in _ (by omega)
      have s2 : IntKind.i64.wrap (z + 5 + (M : Int) + (C : Int)) = z + 5 + (M : Int) + (C : Int) := IntWalk.i64_in _ (by omega)
      have s3 : IntKind.i64.wrap (z + 5 + (M : Int) + (C : Int) + 1) = z + 5 + (M : Int) + (C : Int) + 1 := IntWalk.i64_in _ (by omega)
      have s4 : IntKind.i64.wrap (z + 5 + (M : Int) + (C : Int) + 1 + pos) = z + 5 + (M : Int) + (C : Int) + 1 + pos := IntWalk.i64_in _ (by omega)
      clear h hb5 hp3
      go_wp2
      go_ret
      rw [HV2.out]
      exact OptPost.yes rfl HF.out
    · have hp3 : ([decide (0 ≤ pos), decide (pos < (M : Int))].all id) = false := by
        simp
        omega
      rw [hp3] at h
      obtain ⟨rfl, hb5⟩ := h.2 rfl
      have HF : Hid (Below w.heap.size w w5) := HB4.out.trans (hb5.mono HB4.out.size)
      have HV2 : Hid (nameO (recF pos) ds ns num = none) := by show _ = _; rw [HN.out, HV.out, if_neg hp]
      clear h hb5 hp3 hp
      go_wp2
      refine ⟨rfl, ?_⟩
      rw [HV2.out]
      exact OptPost.no ⟨rfl, HF.out⟩
  · have hv2 : (decide (0 ≤ num) && decide (num < (nd : Int)) && decide (num < (na : Int)) && decide (((ds[num.toNat]?).map Dc.kind) = some 3)) = false := by simpa using hv
    obtain ⟨rfl, hb⟩ := h.2 hv2
    have HF : Hid (Below w.heap.size w w2) := HB1.out.trans (hb.mono HB1.out.size)
    have HV2 : Hid (nameO (recF pos) ds ns num = none) := nameO_other (fun d z hk => by unfold recF; rw [if_neg (fun h => hk h.1)]) HND.out HNA.out hv2
    clear h hb hv hv2
    go_wp2
    refine ⟨rfl, ?_⟩
    rw [HV2.out]
    exact OptPost.no ⟨rfl, HF.out⟩
set_option maxRecDepth 100000 in
set_option maxHeartbeats 2000000 in
theorem cconst_any (ds : List Dc) (ns : List Int) (Ad : Option Addr) (nd cd : Nat) (Aa : Option Addr) (na ca : Nat) (k num pos : Int) (A1 : Option Addr) (p1 c1 : Nat) (A2 : Option Addr) (p2 c2 : Nat) (B : Nat) (w : World) (hB : B ≤ w.heap.size) (hd : Dcs w B Ad cd ds) (hnd : ds.length = nd) (hI : Ints w B Aa ns) (hna : ns.length = na) :
    Calls Tryd.prog 77 #[BasesV Ad nd cd Aa na ca, .agg #[.int .i64 k, .int .i64 num, .int .i64 pos, .slice A1 p1 c1, .slice A2 p2 c2]] w (OptPost w (nameO conF ds ns num)) := by
  unfold BasesV
  obtain ⟨z0, z1, _⟩ := two_allocs w (.cells #[.slice Ad nd cd, .slice Aa na ca] 96) (.cells #[.int .i64 k, .int .i64 num, .int .i64 pos, .slice A1 p1 c1, .slice A2 p2 c2] 27)
  obtain ⟨w1, hw1⟩ : ∃ x, (w.alloc (.cells #[.slice Ad nd cd, .slice Aa na ca] 96)).alloc (.cells #[.int .i64 k, .int .i64 num, .int .i64 pos, .slice A1 p1 c1, .slice A2 p2 c2] 27) = x := ⟨_, rfl⟩
  have hb1 : Below w.heap.size w w1 := by rw [← hw1]; exact ((Below.refl _ _).alloc (Nat.le_refl _) _).alloc (by simp) _
  have hs1 : w1.heap.size = w.heap.size + 2 := by rw [← hw1]; simp
  rw [hw1] at z0 z1
  have f0 : w1.cell? ⟨w.heap.size, 0, none⟩ = some (.slice Ad nd cd) := cell_of_row _ _ 0 _ _ (0, 0) z0
  have f1 : w1.cell? ⟨w.heap.size, 1, none⟩ = some (.slice Aa na ca) := cell_of_row _ _ 1 _ _ (0, 0) z0
  have g1 : w1.cell? ⟨w.heap.size + 1, 1, none⟩ = some (.int .i64 num) := cell_of_row _ _ 1 _ _ (0, 0) z1
  have HC := Lib.hid (cdecl_any ds ns Ad nd cd Aa na ca num B w1 (by omega) (hd.below (hb1.mono hB) (Nat.le_refl _)) hnd (hI.below (hb1.mono hB)) hna)
  unfold BasesV at HC
  have HB1 := Lib.hid hb1
  have HND := Lib.hid hnd
  have HNA := Lib.hid hna
  clear hd hI hnd hna hb1 hs1 z0 z1 hB
  go_enter Tryd.func77, Tryd.ntmps77
  go_wp2_with (fail)
  refine HC.out.mono ?_
  rintro e w2 h
  clear HC f0 f1 g1
  by_cases hv : (decide (0 ≤ num) && decide (num < (nd : Int)) && decide (num < (na : Int))) = true
  · obtain ⟨⟨d, z, cs, hdk, hz, rfl, hdc⟩, hb⟩ := h.1 hv
    have HN : Hid (nameO conF ds ns num = conF d z) := nameO_some (by simp only [Bool.and_eq_true, decide_eq_true_eq] at hv; exact hv.1.1) hdk hz
    obtain ⟨w3, hw3⟩ : ∃ x, w2.alloc (.cells cs 43) = x := ⟨_, rfl⟩
    have hb3 : Below w2.heap.size w2 w3 := by rw [← hw3]; exact (Below.refl _ _).alloc (Nat.le_refl _) _
    have x3 : w3.heap[w2.heap.size]? = some (.cells cs 43 (0, 0)) := by rw [← hw3]; exact heap_alloc_new w2 _
    obtain ⟨e0, _, _, _⟩ := hdc.box x3
    obtain ⟨kd, hkd⟩ : ∃ x, d.kind = x := ⟨_, rfl⟩
    rw [hkd] at e0
    have HV : Hid (conF d z = if kd = 1 ∨ kd = 2 then some z else none) := by
      show _ = _
      unfold conF
      rw [hkd]
    have hz2 := heap_alloc_new w2 (.cells zeroDc 43)
    have hsz : Hid (zeroDc.size = cs.size) := by show _ = _; rw [hdc.size]; rfl
    have hin : Hid ((Tryd.prog.info? 43).map (·.size) = some cs.size) := by show _ = _; rw [hdc.size]; exact infoDc
    have hall := Lib.hid hdc.one
    have hda := Lib.hid (dc_alloc w2 cs)
    have HB3 : Hid (Below w.heap.size w w3) := (HB1.out.trans (hb.mono HB1.out.size)).trans (hb3.mono (by have := hb.size; have := HB1.out.size; omega))
    clear h hb hdk hz hdc hv hb3 x3 hkd
    unfold zeroDc at hz2 hda
    by_cases h12 : kd = 1 ∨ kd = 2
    · obtain ⟨w4, hw4⟩ : ∃ x, w3.alloc (.cells #[.bool true] 4) = x := ⟨_, rfl⟩
      have hb4 : Below w3.heap.size w3 w4 := by rw [← hw4]; exact (Below.refl _ _).alloc (Nat.le_refl _) _
      have x4 : w4.heap[w3.heap.size]? = some (.cells ([true].map Value.bool).toArray 4 (0, 0)) := by rw [← hw4]; exact heap_alloc_new w3 _
      have HM := Lib.hid (cmust_any [true] (some ⟨w3.heap.size, 0, none⟩) 1 1 w4 rfl (by decide) (bools_block x4))
      have HB4 : Hid (Below w.heap.size w w4) := HB3.out.trans (hb4.mono HB3.out.size)
      have HV2 : Hid (nameO conF ds ns num = some z) := by show _ = _; rw [HN.out, HV.out, if_pos h12]
      clear hb4 x4
      rcases h12 with rfl | rfl
      all_goals
        go_wp2_with (first | (refine wpList_store_row rfl 43 (.tmp 5) (.tmp 12) rfl w2.heap.size cs rfl rfl 43 zeroDc hz2 hin.out hsz.out hall.out ?_; rw [hda.out, hw3]) | fail)
        refine HM.out.mono ?_
        rintro e w5 h
        obtain ⟨rfl, hb5⟩ := h.1 rfl
        have HF : Hid (Below w.heap.size w w5) := HB4.out.trans (hb5.mono HB4.out.size)
        clear h hb5
        go_wp2
        go_ret
        rw [HV2.out]
        exact OptPost.yes rfl HF.out
    · obtain ⟨w4, hw4⟩ : ∃ x, w3.alloc (.cells #[.bool false] 4) = x := ⟨_, rfl⟩
      have hb4 : Below w3.heap.size w3 w4 := by rw [← hw4]; exact (Below.refl _ _).alloc (Nat.le_refl _) _
      have x4 : w4.heap[w3.heap.size]? = some (.cells ([false].map Value.bool).toArray 4 (0, 0)) := by rw [← hw4]; exact heap_alloc_new w3 _
      have HM := Lib.hid (cmust_any [false] (some ⟨w3.heap.size, 0, none⟩) 1 1 w4 rfl (by decide) (bools_block x4))
      have HB4 : Hid (Below w.heap.size w w4) := HB3.out.trans (hb4.mono HB3.out.size)
      have HV2 : Hid (nameO conF ds ns num = none) := by show _ = _; rw [HN.out, HV.out, if_neg h12]
      have j1 : (kd == 1) = false := by simp; omega
      have j2 : (kd == 2) = false := by simp; omega
      clear hb4 x4 h12
      go_wp2_with (first | (refine wpList_store_row rfl 43 (.tmp 5) (.tmp 12) rfl w2.heap.size cs rfl rfl 43 zeroDc hz2 hin.out hsz.out hall.out ?_; rw [hda.out, hw3]) | fail)
      refine HM.out.mono ?_
      rintro e w5 h
      obtain ⟨rfl, hb5⟩ := h.2 rfl
      have HF : Hid (Below w.heap.size w w5) := HB4.out.trans (hb5.mono HB4.out.size)
      clear h hb5
      go_wp2
      refine ⟨rfl, ?_⟩
      rw [HV2.out]
      exact OptPost.no ⟨rfl, HF.out⟩
  · have hv2 : (decide (0 ≤ num) && decide (num < (nd : Int)) && decide (num < (na : Int))) = false := by simpa using hv
    obtain ⟨rfl, hb⟩ := h.2 hv2
    have HF : Hid (Below w.heap.size w w2) := HB1.out.trans (hb.mono HB1.out.size)
    have HV2 : Hid (nameO conF ds ns num = none) := nameO_none HND.out HNA.out hv2
    clear h hb hv hv2
    go_wp2
    refine ⟨rfl, ?_⟩
    rw [HV2.out]
    exact OptPost.no ⟨rfl, HF.out⟩
end Go.Proofs.YtfgnnbpbbnnnhaaDoor
