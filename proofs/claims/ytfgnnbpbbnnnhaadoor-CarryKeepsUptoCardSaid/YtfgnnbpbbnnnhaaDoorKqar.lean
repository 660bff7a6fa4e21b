/- Laws. -/
import Derived.Test.YtfgnnbpbbnnnhaaDoorKqai
import Derived.Test.YtfgnnbpbbnnnhaaDoorKqam
import Derived.Test.YtfgnnbpbbnnnhaaDoorKqao
import Derived.Laws.ResultCell
import Derived.BigRegion
namespace Go.Proofs.YtfgnnbpbbnnnhaaDoor
open Go.RowKit Go.Maps
theorem bools_block {w : World} {g : Nat} {bs : List Bool} {t : TypeId} (h : w.heap[g]? = some (.cells (bs.map Value.bool).toArray t (0, 0))) : Bools w (some ⟨g, 0, none⟩) bs := fun _ => ⟨g, 0, rfl, heap_some_lt h, fun i hi => by
  rw [Nat.zero_add, cell_of_row _ _ i _ _ (0, 0) h, List.getElem?_toArray, List.getElem?_map, List.getElem?_eq_getElem hi, List.getD_eq_getElem?_getD, List.getElem?_eq_getElem hi]
  rfl⟩
set_option maxRecDepth 100000 in
theorem cmust_any (bs : List Bool) (A : Option Addr) (n c : Nat) (w : World) (hn : bs.length = n) (hm : n ≤ 1048576) (h : Bools w A bs) : Calls Tryd.prog 105 #[.slice A n c] w (MustPost w 18 (bs.all id)) := by
  have HM := Lib.hid (mustT_any 18 bs A n c w hn hm h)
  obtain ⟨b, hb⟩ : ∃ b, bs.all id = b := ⟨_, rfl⟩
  rw [hb] at HM ⊢
  clear hn hm h hb
  go_enter Tryd.func105, Tryd.ntmps105
  go_wp2_with (fail)
  refine HM.out.mono ?_
  rintro e w2 h
  cases b with
  | true =>
    obtain ⟨rfl, hb⟩ := h.1 rfl
    have HB := Lib.hid hb
    clear h hb HM
    go_wp2
    go_end0
    exact MustPost.yes rfl HB.out
  | false =>
    obtain ⟨rfl, hb⟩ := h.2 rfl
    have HB := Lib.hid hb
    clear h hb HM
    go_wp2
    exact ⟨rfl, MustPost.no ⟨rfl, HB.out⟩⟩
/-- what is told, or an error is thrown -/
def OrThrow (w : World) (k : Int) (b : Bool) (P : Ending → World → Prop) (e : Ending) (w' : World) : Prop := (b = true → P e w' ∧ Below w.heap.size w w') ∧ (b = false → ThrowPost w k e w')
/-- bases: declarations, and where the constants of each begin -/
def BasesV (Ad : Option Addr) (nd cd : Nat) (Aa : Option Addr) (na ca : Nat) : Value := .agg #[.slice Ad nd cd, .slice Aa na ca]
theorem set_lit16 (z0 z1 z2 z3 z4 z5 z6 z7 z8 z9 z10 z11 z12 z13 z14 z15 v0 v1 v2 v3 v4 v5 v6 v7 v8 v9 v10 v11 v12 v13 v14 v15 : Value) : ((((((((((((((((#[z0, z1, z2, z3, z4, z5, z6, z7, z8, z9, z10, z11, z12, z13, z14, z15].setIfInBounds 0 v0).setIfInBounds 1 v1).setIfInBounds 2 v2).setIfInBounds 3 v3).setIfInBounds 4 v4).setIfInBounds 5 v5).setIfInBounds 6 v6).setIfInBounds 7 v7).setIfInBounds 8 v8).setIfInBounds 9 v9).setIfInBounds 10 v10).setIfInBounds 11 v11).setIfInBounds 12 v12).setIfInBounds 13 v13).setIfInBounds 14 v14).setIfInBounds 15 v15) = #[v0, v1, v2, v3, v4, v5, v6, v7, v8, v9, v10, v11, v12, v13, v14, v15] := by
  simp only [List.setIfInBounds_toArray, List.set_cons_zero, List.set_cons_succ]
theorem set16 {w : World} {g : Nat} {z : Array Value} {t : TypeId} (h : w.heap[g]? = some (.cells z t (0, 0))) (hz : z.size = 16) (v0 v1 v2 v3 v4 v5 v6 v7 v8 v9 v10 v11 v12 v13 v14 v15 : Value) : ((((((((((((((((w.setCell ⟨g, 0, none⟩ v0).setCell ⟨g, 1, none⟩ v1).setCell ⟨g, 2, none⟩ v2).setCell ⟨g, 3, none⟩ v3).setCell ⟨g, 4, none⟩ v4).setCell ⟨g, 5, none⟩ v5).setCell ⟨g, 6, none⟩ v6).setCell ⟨g, 7, none⟩ v7).setCell ⟨g, 8, none⟩ v8).setCell ⟨g, 9, none⟩ v9).setCell ⟨g, 10, none⟩ v10).setCell ⟨g, 11, none⟩ v11).setCell ⟨g, 12, none⟩ v12).setCell ⟨g, 13, none⟩ v13).setCell ⟨g, 14, none⟩ v14).setCell ⟨g, 15, none⟩ v15).heap[g]? = some (.cells #[v0, v1, v2, v3, v4, v5, v6, v7, v8, v9, v10, v11, v12, v13, v14, v15] t (0, 0)) := by
  obtain ⟨z0, z1, z2, z3, z4, z5, z6, z7, z8, z9, z10, z11, z12, z13, z14, z15, rfl⟩ : ∃ z0 z1 z2 z3 z4 z5 z6 z7 z8 z9 z10 z11 z12 z13 z14 z15, z = #[z0, z1, z2, z3, z4, z5, z6, z7, z8, z9, z10, z11, z12, z13, z14, z15] := by
    obtain ⟨l⟩ := z
    match l, hz with
    | [z0, z1, z2, z3, z4, z5, z6, z7, z8, z9, z10, z11, z12, z13, z14, z15], _ => exact ⟨_, _, _, _, _, _, _, _, _, _, _, _, _, _, _, _, rfl⟩
  have h16 := (set_same (set_same (set_same (set_same (set_same (set_same (set_same (set_same (set_same (set_same (set_same (set_same (set_same (set_same (set_same (set_same h 0 v0) 1 v1) 2 v2) 3 v3) 4 v4) 5 v5) 6 v6) 7 v7) 8 v8) 9 v9) 10 v10) 11 v11) 12 v12) 13 v13) 14 v14) 15 v15)
  rw [set_lit16] at h16
  exact h16
/-- a declaration of nothing -/
def zeroDc : Array Value := #[.int .i64 0, .int .i64 0, .int .i64 0, .int .i64 0, .int .i64 0, .slice none 0 0, .slice none 0 0, .int .i64 0, .int .i64 0, .int .i64 0, .slice none 0 0, .slice none 0 0, .slice none 0 0, .slice none 0 0, .slice none 0 0, .slice none 0 0]
set_option maxRecDepth 100000 in
set_option maxHeartbeats 2000000 in
theorem cdecl_any (ds : List Dc) (ns : List Int) (Ad : Option Addr) (nd cd : Nat) (Aa : Option Addr) (na ca : Nat) (i : Int) (B : Nat) (w : World) (hB : B ≤ w.heap.size) (hd : Dcs w B Ad cd ds) (hnd : ds.length = nd) (hI : Ints w B Aa ns) (hna : ns.length = na) :
    Calls Tryd.prog 104 #[BasesV Ad nd cd Aa na ca, .int .i64 i] w (OrThrow w 18 (decide (0 ≤ i) && decide (i < nd) && decide (i < na)) fun e _ => ∃ d z cs, ds[i.toNat]? = some d ∧ ns[i.toNat]? = some z ∧ e = .returned (.tuple #[.agg cs, .int .i64 z]) ∧ DcAt w B d cs) := by
  unfold BasesV
  obtain ⟨z0, z1, _⟩ := two_allocs w (.cells #[.slice Ad nd cd, .slice Aa na ca] 96) (.cells zeroDc 43)
  obtain ⟨w1, hw1⟩ : ∃ x, ((w.alloc (.cells #[.slice Ad nd cd, .slice Aa na ca] 96)).alloc (.cells zeroDc 43)).alloc (.cells #[.bool (decide (0 ≤ i)), .bool (decide (i < nd)), .bool (decide (i < na))] 4) = x := ⟨_, rfl⟩
  have hb1 : Below w.heap.size w w1 := by rw [← hw1]; exact (((Below.refl _ _).alloc (Nat.le_refl _) _).alloc (by simp) _).alloc (by simp; omega) _
  have hs1 : w1.heap.size = w.heap.size + 3 := by rw [← hw1]; simp
  have x0 : w1.heap[w.heap.size]? = some (.cells #[.slice Ad nd cd, .slice Aa na ca] 96 (0, 0)) := by rw [← hw1, Below.heap_alloc _ _ _ (by simp; omega)]; exact z0
  have x1 : w1.heap[w.heap.size + 1]? = some (.cells zeroDc 43 (0, 0)) := by rw [← hw1, Below.heap_alloc _ _ _ (by simp)]; exact z1
  have x2 : w1.heap[w.heap.size + 1 + 1]? = some (.cells ([decide (0 ≤ i), decide (i < nd), decide (i < na)].map Value.bool).toArray 4 (0, 0)) := by
    rw [← hw1]
    have := heap_alloc_new ((w.alloc (.cells #[.slice Ad nd cd, .slice Aa na ca] 96)).alloc (.cells zeroDc 43)) (.cells #[.bool (decide (0 ≤ i)), .bool (decide (i < nd)), .bool (decide (i < na))] 4)
    simpa using this
  have HM := Lib.hid (cmust_any [decide (0 ≤ i), decide (i < nd), decide (i < na)] (some ⟨w.heap.size + 1 + 1, 0, none⟩) 3 3 w1 rfl (by decide) (bools_block x2))
  have HBB := Lib.hid hB
  have HD := Lib.hid hd
  have HI := Lib.hid hI
  have HND := Lib.hid hnd
  have HNA := Lib.hid hna
  have HB1 := Lib.hid hb1
  have HS1 := Lib.hid hs1
  have X0 := Lib.hid x0
  have X1 := Lib.hid x1
  unfold zeroDc at hw1
  clear hd hI hnd hna hb1 hs1 x0 x1 x2 z0 z1 hB
  go_enter Tryd.func104, Tryd.ntmps104
  go_wp2_with (fail)
  refine HM.out.mono ?_
  rintro e w2 h
  clear HM
  by_cases hv : 0 ≤ i ∧ i < nd ∧ i < na
  · obtain ⟨v0, v1, v2⟩ := hv
    have hv3 : ([decide (0 ≤ i), decide (i < nd), decide (i < na)].all id) = true := by simp [v0, v1, v2]
    rw [hv3] at h
    obtain ⟨rfl, hb⟩ := h.1 rfl
    obtain ⟨k, rfl⟩ : ∃ k : Nat, i = (k : Int) := ⟨i.toNat, by omega⟩
    obtain ⟨d, hdk⟩ : ∃ d, ds[k]? = some d := ⟨_, List.getElem?_eq_getElem (by have := HND.out; omega)⟩
    obtain ⟨z, hz⟩ : ∃ z, ns[k]? = some z := ⟨_, List.getElem?_eq_getElem (by have := HNA.out; omega)⟩
    have HB2 : Hid (Below w.heap.size w w2) := HB1.out.trans (hb.mono HB1.out.size)
    obtain ⟨b, o, cs, rfl, hbB, hdc, hce, hld⟩ := HD.out.get hdk
    have HLD : Hid (∀ w', Below w2.heap.size w2 w' → (Instr.loadAt 43 (.pointer (some ⟨b, o + k * 16, none⟩))).run Tryd.prog w' = .ok (.agg cs) w') := fun w' hx => hld w' ((HB2.out.trans (hx.mono HB2.out.size)).mono HBB.out)
    obtain ⟨ba, oa, rfl, hba, hc⟩ := HI.out (by have := HNA.out; omega)
    have c1 := (HB2.out.cell (p := ⟨ba, oa + k, none⟩) (by have := HBB.out; show ba < _; omega)).trans (hc k (by have := HNA.out; omega))
    rw [List.getD_eq_getElem?_getD, hz] at c1
    have c1 : w2.cell? ⟨ba, oa + k, none⟩ = some (.int .i64 z) := c1
    have X0' := (hb.block w.heap.size (by have := HS1.out; omega)).trans X0.out
    have X1' := Lib.hid ((hb.block (w.heap.size + 1) (by have := HS1.out; omega)).trans X1.out)
    have f0 := cell_of_row _ _ 0 _ _ (0, 0) X0'
    have f1 := cell_of_row _ _ 1 _ _ (0, 0) X0'
    have g1 : w.heap.size < w2.heap.size := by have := HB2.out.size; have := HS1.out; have := hb.size; omega
    have g2 : ba < w2.heap.size := by have := HBB.out; omega
    have g3 : ba < w.heap.size := by have := HBB.out; omega
    have g4 : b < w.heap.size := by have := HBB.out; omega
    have ij0 : (0 : Int) ≤ (k : Int) := v0
    have ij1 : (k : Int) < (nd : Int) := v1
    have ij2 : (k : Int) < (na : Int) := v2
    have HDC := Lib.hid hdc
    have HCE : Hid (∀ j, j < 16 → w2.cell? ⟨b, o + k * 16 + j, none⟩ = cs[j]?) := fun j hj => (HB2.out.cell (p := ⟨b, _, none⟩) (by have := HBB.out; show b < _; omega)).trans (hce j hj)
    have HDK := Lib.hid hdk
    have HZ := Lib.hid hz
    clear h hb hdk hz hdc hce hld hc X0' hv3 v0 v1 v2 HI HD hw1
    obtain ⟨i0, i1, i2, i3, i4, i5, i6, i7, S0, S1, S2, S3, S4, S5, S6, S7, l0, l1, l2, l3, l4, l5, l6, l7, m0, m1, m2, m3, m4, m5, m6, m7, rfl⟩ := HDC.out.shape
    have c20 : w2.cell? ⟨b, o + k * 16, none⟩ = some (.int .i64 i0) := HCE.out 0 (by decide)
    have c21 : w2.cell? ⟨b, o + k * 16 + 1, none⟩ = some (.int .i64 i1) := HCE.out 1 (by decide)
    have c22 : w2.cell? ⟨b, o + k * 16 + 2, none⟩ = some (.int .i64 i2) := HCE.out 2 (by decide)
    have c23 : w2.cell? ⟨b, o + k * 16 + 3, none⟩ = some (.int .i64 i3) := HCE.out 3 (by decide)
    have c24 : w2.cell? ⟨b, o + k * 16 + 4, none⟩ = some (.int .i64 i4) := HCE.out 4 (by decide)
    have c25 : w2.cell? ⟨b, o + k * 16 + 5, none⟩ = some (.slice S0 l0 m0) := HCE.out 5 (by decide)
    have c26 : w2.cell? ⟨b, o + k * 16 + 6, none⟩ = some (.slice S1 l1 m1) := HCE.out 6 (by decide)
    have c27 : w2.cell? ⟨b, o + k * 16 + 7, none⟩ = some (.int .i64 i5) := HCE.out 7 (by decide)
    have c28 : w2.cell? ⟨b, o + k * 16 + 8, none⟩ = some (.int .i64 i6) := HCE.out 8 (by decide)
    have c29 : w2.cell? ⟨b, o + k * 16 + 9, none⟩ = some (.int .i64 i7) := HCE.out 9 (by decide)
    have c30 : w2.cell? ⟨b, o + k * 16 + 10, none⟩ = some (.slice S2 l2 m2) := HCE.out 10 (by decide)
    have c31 : w2.cell? ⟨b, o + k * 16 + 11, none⟩ = some (.slice S3 l3 m3) := HCE.out 11 (by decide)
    have c32 : w2.cell? ⟨b, o + k * 16 + 12, none⟩ = some (.slice S4 l4 m4) := HCE.out 12 (by decide)
    have c33 : w2.cell? ⟨b, o + k * 16 + 13, none⟩ = some (.slice S5 l5 m5) := HCE.out 13 (by decide)
    have c34 : w2.cell? ⟨b, o + k * 16 + 14, none⟩ = some (.slice S6 l6 m6) := HCE.out 14 (by decide)
    have c35 : w2.cell? ⟨b, o + k * 16 + 15, none⟩ = some (.slice S7 l7 m7) := HCE.out 15 (by decide)
    have y1 := X1'.out
    have z0 : w2.cell? ⟨w.heap.size + 1, 0, none⟩ = some (.int .i64 0) := cell_of_row _ _ 0 _ _ (0, 0) y1
    have t0 := thawed y1 0
    have z1 : w2.cell? ⟨w.heap.size + 1, 1, none⟩ = some (.int .i64 0) := cell_of_row _ _ 1 _ _ (0, 0) y1
    have t1 := thawed y1 1
    have z2 : w2.cell? ⟨w.heap.size + 1, 2, none⟩ = some (.int .i64 0) := cell_of_row _ _ 2 _ _ (0, 0) y1
    have t2 := thawed y1 2
    have z3 : w2.cell? ⟨w.heap.size + 1, 3, none⟩ = some (.int .i64 0) := cell_of_row _ _ 3 _ _ (0, 0) y1
    have t3 := thawed y1 3
    have z4 : w2.cell? ⟨w.heap.size + 1, 4, none⟩ = some (.int .i64 0) := cell_of_row _ _ 4 _ _ (0, 0) y1
    have t4 := thawed y1 4
    have z5 : w2.cell? ⟨w.heap.size + 1, 5, none⟩ = some (.slice none 0 0) := cell_of_row _ _ 5 _ _ (0, 0) y1
    have t5 := thawed y1 5
    have z6 : w2.cell? ⟨w.heap.size + 1, 6, none⟩ = some (.slice none 0 0) := cell_of_row _ _ 6 _ _ (0, 0) y1
    have t6 := thawed y1 6
    have z7 : w2.cell? ⟨w.heap.size + 1, 7, none⟩ = some (.int .i64 0) := cell_of_row _ _ 7 _ _ (0, 0) y1
    have t7 := thawed y1 7
    have z8 : w2.cell? ⟨w.heap.size + 1, 8, none⟩ = some (.int .i64 0) := cell_of_row _ _ 8 _ _ (0, 0) y1
    have t8 := thawed y1 8
    have z9 : w2.cell? ⟨w.heap.size + 1, 9, none⟩ = some (.int .i64 0) := cell_of_row _ _ 9 _ _ (0, 0) y1
    have t9 := thawed y1 9
    have z10 : w2.cell? ⟨w.heap.size + 1, 10, none⟩ = some (.slice none 0 0) := cell_of_row _ _ 10 _ _ (0, 0) y1
    have t10 := thawed y1 10
    have z11 : w2.cell? ⟨w.heap.size + 1, 11, none⟩ = some (.slice none 0 0) := cell_of_row _ _ 11 _ _ (0, 0) y1
    have t11 := thawed y1 11
    have z12 : w2.cell? ⟨w.heap.size + 1, 12, none⟩ = some (.slice none 0 0) := cell_of_row _ _ 12 _ _ (0, 0) y1
    have t12 := thawed y1 12
    have z13 : w2.cell? ⟨w.heap.size + 1, 13, none⟩ = some (.slice none 0 0) := cell_of_row _ _ 13 _ _ (0, 0) y1
    have t13 := thawed y1 13
    have z14 : w2.cell? ⟨w.heap.size + 1, 14, none⟩ = some (.slice none 0 0) := cell_of_row _ _ 14 _ _ (0, 0) y1
    have t14 := thawed y1 14
    have z15 : w2.cell? ⟨w.heap.size + 1, 15, none⟩ = some (.slice none 0 0) := cell_of_row _ _ 15 _ _ (0, 0) y1
    have t15 := thawed y1 15
    clear HLD y1
    have HY : Hid (((((((((((((((((w2.setCell ⟨w.heap.size + 1, 0, none⟩ (.int .i64 i0)).setCell ⟨w.heap.size + 1, 1, none⟩ (.int .i64 i1)).setCell ⟨w.heap.size + 1, 2, none⟩ (.int .i64 i2)).setCell ⟨w.heap.size + 1, 3, none⟩ (.int .i64 i3)).setCell ⟨w.heap.size + 1, 4, none⟩ (.int .i64 i4)).setCell ⟨w.heap.size + 1, 5, none⟩ (.slice S0 l0 m0)).setCell ⟨w.heap.size + 1, 6, none⟩ (.slice S1 l1 m1)).setCell ⟨w.heap.size + 1, 7, none⟩ (.int .i64 i5)).setCell ⟨w.heap.size + 1, 8, none⟩ (.int .i64 i6)).setCell ⟨w.heap.size + 1, 9, none⟩ (.int .i64 i7)).setCell ⟨w.heap.size + 1, 10, none⟩ (.slice S2 l2 m2)).setCell ⟨w.heap.size + 1, 11, none⟩ (.slice S3 l3 m3)).setCell ⟨w.heap.size + 1, 12, none⟩ (.slice S4 l4 m4)).setCell ⟨w.heap.size + 1, 13, none⟩ (.slice S5 l5 m5)).setCell ⟨w.heap.size + 1, 14, none⟩ (.slice S6 l6 m6)).setCell ⟨w.heap.size + 1, 15, none⟩ (.slice S7 l7 m7)).drew.heap[w.heap.size + 1]? = some (.cells #[.int .i64 i0, .int .i64 i1, .int .i64 i2, .int .i64 i3, .int .i64 i4, .slice S0 l0 m0, .slice S1 l1 m1, .int .i64 i5, .int .i64 i6, .int .i64 i7, .slice S2 l2 m2, .slice S3 l3 m3, .slice S4 l4 m4, .slice S5 l5 m5, .slice S6 l6 m6, .slice S7 l7 m7] 43 (0, 0))) := by
      show _ = _
      rw [heap_drew]
      exact set16 X1'.out rfl _ _ _ _ _ _ _ _ _ _ _ _ _ _ _ _
    have HF : Hid (Below w.heap.size w ((((((((((((((((w2.setCell ⟨w.heap.size + 1, 0, none⟩ (.int .i64 i0)).setCell ⟨w.heap.size + 1, 1, none⟩ (.int .i64 i1)).setCell ⟨w.heap.size + 1, 2, none⟩ (.int .i64 i2)).setCell ⟨w.heap.size + 1, 3, none⟩ (.int .i64 i3)).setCell ⟨w.heap.size + 1, 4, none⟩ (.int .i64 i4)).setCell ⟨w.heap.size + 1, 5, none⟩ (.slice S0 l0 m0)).setCell ⟨w.heap.size + 1, 6, none⟩ (.slice S1 l1 m1)).setCell ⟨w.heap.size + 1, 7, none⟩ (.int .i64 i5)).setCell ⟨w.heap.size + 1, 8, none⟩ (.int .i64 i6)).setCell ⟨w.heap.size + 1, 9, none⟩ (.int .i64 i7)).setCell ⟨w.heap.size + 1, 10, none⟩ (.slice S2 l2 m2)).setCell ⟨w.heap.size + 1, 11, none⟩ (.slice S3 l3 m3)).setCell ⟨w.heap.size + 1, 12, none⟩ (.slice S4 l4 m4)).setCell ⟨w.heap.size + 1, 13, none⟩ (.slice S5 l5 m5)).setCell ⟨w.heap.size + 1, 14, none⟩ (.slice S6 l6 m6)).setCell ⟨w.heap.size + 1, 15, none⟩ (.slice S7 l7 m7)).drew) := ((((((((((((((((HB2.out.setCell (by show w.heap.size ≤ w.heap.size + 1; omega) _).setCell (by show w.heap.size ≤ w.heap.size + 1; omega) _).setCell (by show w.heap.size ≤ w.heap.size + 1; omega) _).setCell (by show w.heap.size ≤ w.heap.size + 1; omega) _).setCell (by show w.heap.size ≤ w.heap.size + 1; omega) _).setCell (by show w.heap.size ≤ w.heap.size + 1; omega) _).setCell (by show w.heap.size ≤ w.heap.size + 1; omega) _).setCell (by show w.heap.size ≤ w.heap.size + 1; omega) _).setCell (by show w.heap.size ≤ w.heap.size + 1; omega) _).setCell (by show w.heap.size ≤ w.heap.size + 1; omega) _).setCell (by show w.heap.size ≤ w.heap.size + 1; omega) _).setCell (by show w.heap.size ≤ w.heap.size + 1; omega) _).setCell (by show w.heap.size ≤ w.heap.size + 1; omega) _).setCell (by show w.heap.size ≤ w.heap.size + 1; omega) _).setCell (by show w.heap.size ≤ w.heap.size + 1; omega) _).setCell (by show w.heap.size ≤ w.heap.size + 1; omega) _).drew
    go_upto_region 2 with (fail)
    go_region
    obtain ⟨wg, hwg⟩ : ∃ x, ((((((((((((((((w2.setCell ⟨w.heap.size + 1, 0, none⟩ (.int .i64 i0)).setCell ⟨w.heap.size + 1, 1, none⟩ (.int .i64 i1)).setCell ⟨w.heap.size + 1, 2, none⟩ (.int .i64 i2)).setCell ⟨w.heap.size + 1, 3, none⟩ (.int .i64 i3)).setCell ⟨w.heap.size + 1, 4, none⟩ (.int .i64 i4)).setCell ⟨w.heap.size + 1, 5, none⟩ (.slice S0 l0 m0)).setCell ⟨w.heap.size + 1, 6, none⟩ (.slice S1 l1 m1)).setCell ⟨w.heap.size + 1, 7, none⟩ (.int .i64 i5)).setCell ⟨w.heap.size + 1, 8, none⟩ (.int .i64 i6)).setCell ⟨w.heap.size + 1, 9, none⟩ (.int .i64 i7)).setCell ⟨w.heap.size + 1, 10, none⟩ (.slice S2 l2 m2)).setCell ⟨w.heap.size + 1, 11, none⟩ (.slice S3 l3 m3)).setCell ⟨w.heap.size + 1, 12, none⟩ (.slice S4 l4 m4)).setCell ⟨w.heap.size + 1, 13, none⟩ (.slice S5 l5 m5)).setCell ⟨w.heap.size + 1, 14, none⟩ (.slice S6 l6 m6)).setCell ⟨w.heap.size + 1, 15, none⟩ (.slice S7 l7 m7)).drew = x := ⟨_, rfl⟩
    rw [hwg] at HY HF ⊢
    obtain ⟨cs, hcs⟩ : ∃ x : Array Value, #[.int .i64 i0, .int .i64 i1, .int .i64 i2, .int .i64 i3, .int .i64 i4, .slice S0 l0 m0, .slice S1 l1 m1, .int .i64 i5, .int .i64 i6, .int .i64 i7, .slice S2 l2 m2, .slice S3 l3 m3, .slice S4 l4 m4, .slice S5 l5 m5, .slice S6 l6 m6, .slice S7 l7 m7] = x := ⟨_, rfl⟩
    rw [hcs] at HY HDC ⊢
    clear hwg hcs f0 f1 c1 c20 c21 c22 c23 c24 c25 c26 c27 c28 c29 c30 c31 c32 c33 c34 c35 z0 z1 z2 z3 z4 z5 z6 z7 z8 z9 z10 z11 z12 z13 z14 z15 t0 t1 t2 t3 t4 t5 t6 t7 t8 t9 t10 t11 t12 t13 t14 t15
    go_wp2
    refine bodyPost_ret (v := .tuple #[.agg cs, .int .i64 z]) ?_ rfl ⟨fun _ => ⟨⟨d, z, cs, HDK.out, HZ.out, rfl, HDC.out⟩, HF.out⟩, fun h => ?_⟩
    · rw [results_cell_tmp rfl]
      have := run_loadVar_row wg (w.heap.size + 1) 43 43 cs (0, 0) _ HY.out Tryd.underlying43 rfl (by rw [HDC.out.size]; exact infoDc)
      simp [asAddr, this, Result.andThen]
    · simp at h
      omega
  · have hv3 : ([decide (0 ≤ i), decide (i < nd), decide (i < na)].all id) = false := by
      simp
      omega
    have hv4 : (decide (0 ≤ i) && decide (i < nd) && decide (i < na)) = false := by
      simp
      omega
    rw [hv3] at h
    obtain ⟨rfl, hb⟩ := h.2 rfl
    have HF : Hid (Below w.heap.size w w2) := HB1.out.trans (hb.mono HB1.out.size)
    have HV4 := Lib.hid hv4
    clear h hb hv hv3 hv4
    go_wp2
    refine ⟨rfl, fun h => ?_, fun _ => ⟨rfl, HF.out⟩⟩
    rw [HV4.out] at h
    cases h
end Go.Proofs.YtfgnnbpbbnnnhaaDoor
