/- Laws. -/
import Derived.Test.YtfgnnbpbbnnnhaaDoorRrao
import Derived.Test.YtfgnnbpbbnnnhaaDoorRrap
import Derived.Deep.WholeRow
namespace Go.Proofs.YtfgnnbpbbnnnhaaDoor
open Go.RowKit Go.Maps
theorem dc_alloc (w : World) (cs : Array Value) : (w.alloc (.cells zeroDc 43)).setRow w.heap.size cs = w.alloc (.cells cs 43) := World.setRow_alloc_new _ _ _ _
end Go.Proofs.YtfgnnbpbbnnnhaaDoor
namespace Go.Proofs.YtfgnnbpbbnnnhaaDoor
open Go.RowKit Go.Maps
set_option maxRecDepth 100000 in
theorem smust_any (bs : List Bool) (A : Option Addr) (n c : Nat) (w : World) (hn : bs.length = n) (hm : n ≤ 1048576) (h : Bools w A bs) : Calls Tryd.prog 41 #[.slice A n c] w (MustPost w 4 (bs.all id)) := by
  have HM := Lib.hid (mustT_any 4 bs A n c w hn hm h)
  obtain ⟨b, hb⟩ : ∃ b, bs.all id = b := ⟨_, rfl⟩
  rw [hb] at HM ⊢
  clear hn hm h hb
  go_enter Tryd.func41, Tryd.ntmps41
  go_wp2_with (fail)
  refine HM.out.mono ?_
  rintro e w2 h
  cases b with
  | true =>
    obtain ⟨rfl, hb⟩ := h.1 rfl
    have HB := Lib.hid hb
    clear h hb HM
    go_wp2
    go_end0
    exact MustPost.yes rfl HB.out
  | false =>
    obtain ⟨rfl, hb⟩ := h.2 rfl
    have HB := Lib.hid hb
    clear h hb HM
    go_wp2
    exact ⟨rfl, MustPost.no ⟨rfl, HB.out⟩⟩
/-- must of one truth, in a row just made -/
theorem smust_one (b : Bool) (w : World) (g : Nat) (hg : g = w.heap.size) : Calls Tryd.prog 41 #[.slice (some ⟨g, 0, none⟩) 1 1] (w.alloc (.cells #[.bool b] 4)) (MustPost w 4 b) := by
  subst hg
  exact (smust_any [b] _ 1 1 _ rfl (by decide) (bools_one w b)).mono fun e w' h => by
      have h := h.from ((Below.refl w.heap.size w).alloc (Nat.le_refl _) (.cells #[.bool b] 4))
      simpa using h
theorem smust_two (b c : Bool) (w : World) (g : Nat) (hg : g = w.heap.size) : Calls Tryd.prog 41 #[.slice (some ⟨g, 0, none⟩) 2 2] (w.alloc (.cells #[.bool b, .bool c] 4)) (MustPost w 4 (b && c)) := by
  subst hg
  exact (smust_any [b, c] _ 2 2 _ rfl (by decide) (bools_block (bs := [b, c]) (heap_alloc_new w _))).mono fun e w' h => by
      have h := h.from ((Below.refl w.heap.size w).alloc (Nat.le_refl _) (.cells #[.bool b, .bool c] 4))
      simpa using h
theorem smust_three (b c d : Bool) (w : World) (g : Nat) (hg : g = w.heap.size) : Calls Tryd.prog 41 #[.slice (some ⟨g, 0, none⟩) 3 3] (w.alloc (.cells #[.bool b, .bool c, .bool d] 4)) (MustPost w 4 (b && c && d)) := by
  subst hg
  exact (smust_any [b, c, d] _ 3 3 _ rfl (by decide) (bools_block (bs := [b, c, d]) (heap_alloc_new w _))).mono fun e w' h => by
      have h := h.from ((Below.refl w.heap.size w).alloc (Nat.le_refl _) (.cells #[.bool b, .bool c, .bool d] 4))
      simpa [Bool.and_assoc] using h
theorem smust_four (b c d f : Bool) (w : World) (g : Nat) (hg : g = w.heap.size) : Calls Tryd.prog 41 #[.slice (some ⟨g, 0, none⟩) 4 4] (w.alloc (.cells #[.bool b, .bool c, .bool d, .bool f] 4)) (MustPost w 4 (b && c && d && f)) := by
  subst hg
  exact (smust_any [b, c, d, f] _ 4 4 _ rfl (by decide) (bools_block (bs := [b, c, d, f]) (heap_alloc_new w _))).mono fun e w' h => by
      have h := h.from ((Below.refl w.heap.size w).alloc (Nat.le_refl _) (.cells #[.bool b, .bool c, .bool d, .bool f] 4))
      simpa [Bool.and_assoc] using h
theorem stwo (w : World) (x y : Obj) : Below w.heap.size w ((w.alloc x).alloc y) := ((Below.refl _ _).alloc (Nat.le_refl _) _).alloc (by simp) _
/-- what a term is asked over: declarations, level variables, variables, members -/
def OvV (Ad : Option Addr) (nd cd : Nat) (n sc sf : Int) : Value := .agg #[.slice Ad nd cd, .int .i64 n, .int .i64 sc, .int .i64 sf]
/-- a walk of the source -/
def SwV (Ad : Option Addr) (nd cd : Nat) (n sc sf : Int) (m : Option Nat) : Value := .agg #[.slice Ad nd cd, .int .i64 n, .int .i64 sc, .int .i64 sf, .map m]
set_option maxRecDepth 100000 in
theorem splain_any (Ad : Option Addr) (nd cd : Nat) (n sc sf : Int) (m : Option Nat) (k num pos : Int) (A1 : Option Addr) (p1 c1 : Nat) (A2 : Option Addr) (p2 c2 : Nat) (x : Int) (w : World) : Calls Tryd.prog 91 #[SwV Ad nd cd n sc sf m, .agg #[.int .i64 k, .int .i64 num, .int .i64 pos, .slice A1 p1 c1, .slice A2 p2 c2], .int .i64 x] w (MustPost w 4 true) := by
  have HB := Lib.hid (stwo w (.cells #[.slice Ad nd cd, .int .i64 n, .int .i64 sc, .int .i64 sf, .map m] 118) (.cells #[.int .i64 k, .int .i64 num, .int .i64 pos, .slice A1 p1 c1, .slice A2 p2 c2] 27))
  unfold SwV
  go_enter Tryd.func91, Tryd.ntmps91
  go_wp2
  go_end0
  exact MustPost.yes rfl HB.out
set_option maxRecDepth 100000 in
theorem sown_any (Ad : Option Addr) (nd cd : Nat) (n sc sf : Int) (m : Option Nat) (k num pos : Int) (A1 : Option Addr) (p1 c1 : Nat) (A2 : Option Addr) (p2 c2 : Nat) (x : Int) (w : World) : Calls Tryd.prog 96 #[SwV Ad nd cd n sc sf m, .agg #[.int .i64 k, .int .i64 num, .int .i64 pos, .slice A1 p1 c1, .slice A2 p2 c2], .int .i64 x] w (MustPost w 4 (decide (pos < sf))) := by
  have HB := Lib.hid (stwo w (.cells #[.slice Ad nd cd, .int .i64 n, .int .i64 sc, .int .i64 sf, .map m] 118) (.cells #[.int .i64 k, .int .i64 num, .int .i64 pos, .slice A1 p1 c1, .slice A2 p2 c2] 27))
  have HM := Lib.hid (smust_one (decide (pos < sf)) ((w.alloc (.cells #[.slice Ad nd cd, .int .i64 n, .int .i64 sc, .int .i64 sf, .map m] 118)).alloc (.cells #[.int .i64 k, .int .i64 num, .int .i64 pos, .slice A1 p1 c1, .slice A2 p2 c2] 27)) (w.heap.size + 1 + 1) (by simp))
  obtain ⟨r, hr⟩ : ∃ r, decide (pos < sf) = r := ⟨_, rfl⟩
  rw [hr]
  have HR := Lib.hid hr
  clear hr
  unfold SwV
  go_enter Tryd.func96, Tryd.ntmps96
  go_wp2_with (fail)
  refine HM.out.mono ?_
  clear HM
  rintro e w2 h
  rw [HR.out] at h
  cases r with
  | true =>
    obtain ⟨rfl, hb⟩ := h.1 rfl
    have HF := Lib.hid (HB.out.trans (hb.mono HB.out.size))
    clear h hb
    go_wp2
    go_end0
    exact MustPost.yes rfl HF.out
  | false =>
    obtain ⟨rfl, hb⟩ := h.2 rfl
    have HF := Lib.hid (HB.out.trans (hb.mono HB.out.size))
    clear h hb
    go_wp2
    exact ⟨rfl, MustPost.no ⟨rfl, HF.out⟩⟩
set_option maxRecDepth 100000 in
set_option maxHeartbeats 1000000 in
theorem svar_any (Ad : Option Addr) (nd cd : Nat) (n sc sf : Int) (m : Option Nat) (k num pos : Int) (A1 : Option Addr) (p1 c1 : Nat) (A2 : Option Addr) (p2 c2 : Nat) (d : Nat) (w : World) (hd : d ≤ 1073741824) (hn : Rng num) : Calls Tryd.prog 90 #[SwV Ad nd cd n sc sf m, .agg #[.int .i64 k, .int .i64 num, .int .i64 pos, .slice A1 p1 c1, .slice A2 p2 c2], .int .i64 (d : Int)] w (MustPost w 4 (decide (num < d) || decide (num - d < sc))) := by
  obtain ⟨r, hr⟩ : ∃ r, (decide (num < d) || decide (num - d < sc)) = r := ⟨_, rfl⟩
  have HB := Lib.hid (stwo w (.cells #[.slice Ad nd cd, .int .i64 n, .int .i64 sc, .int .i64 sf, .map m] 118) (.cells #[.int .i64 k, .int .i64 num, .int .i64 pos, .slice A1 p1 c1, .slice A2 p2 c2] 27))
  rw [hr]
  unfold SwV
  unfold Rng at hn
  by_cases h0 : num < d
  · have hrt : r = true := by rw [← hr]; simp [h0]
    subst hrt
    have HM := Lib.hid (smust_one true ((w.alloc (.cells #[.slice Ad nd cd, .int .i64 n, .int .i64 sc, .int .i64 sf, .map m] 118)).alloc (.cells #[.int .i64 k, .int .i64 num, .int .i64 pos, .slice A1 p1 c1, .slice A2 p2 c2] 27)) (w.heap.size + 1 + 1) (by simp))
    clear hr hn
    go_enter Tryd.func90, Tryd.ntmps90
    go_wp2_with (fail)
    refine HM.out.mono ?_
    clear HM
    rintro e w2 h
    obtain ⟨rfl, hb⟩ := h.1 rfl
    have HF := Lib.hid (HB.out.trans (hb.mono HB.out.size))
    clear h hb
    go_wp2
    go_end0
    exact MustPost.yes rfl HF.out
  · have e0 : decide (num < d) = false := by simpa using h0
    have hw : IntKind.i64.wrap (num - d) = num - d := IntWalk.i64_in _ (by omega)
    have hr2 : decide (num - d < sc) = r := by rw [← hr, e0, Bool.false_or]
    have HM := Lib.hid (smust_one (decide (num - d < sc)) ((w.alloc (.cells #[.slice Ad nd cd, .int .i64 n, .int .i64 sc, .int .i64 sf, .map m] 118)).alloc (.cells #[.int .i64 k, .int .i64 num, .int .i64 pos, .slice A1 p1 c1, .slice A2 p2 c2] 27)) (w.heap.size + 1 + 1) (by simp))
    have HR := Lib.hid hr2
    clear hr hn hr2
    go_enter Tryd.func90, Tryd.ntmps90
    go_wp2_with (fail)
    refine HM.out.mono ?_
    clear HM
    rintro e w2 h
    rw [HR.out] at h
    cases r with
    | true =>
      obtain ⟨rfl, hb⟩ := h.1 rfl
      have HF := Lib.hid (HB.out.trans (hb.mono HB.out.size))
      clear h hb
      go_wp2
      go_end0
      exact MustPost.yes rfl HF.out
    | false =>
      obtain ⟨rfl, hb⟩ := h.2 rfl
      have HF := Lib.hid (HB.out.trans (hb.mono HB.out.size))
      clear h hb
      go_wp2
      exact ⟨rfl, MustPost.no ⟨rfl, HF.out⟩⟩
set_option maxRecDepth 100000 in
set_option maxHeartbeats 2000000 in
theorem snamed_any (ds : List Dc) (Ad : Option Addr) (nd cd : Nat) (n sc sf : Int) (m : Option Nat) (k num pos : Int) (A1 : Option Addr) (p1 c1 : Nat) (A2 : Option Addr) (p2 c2 : Nat) (B : Nat) (w : World) (hB : B ≤ w.heap.size) (hd : Dcs w B Ad cd ds) (hnd : ds.length = nd) :
    Calls Tryd.prog 113 #[SwV Ad nd cd n sc sf m, .agg #[.int .i64 k, .int .i64 num, .int .i64 pos, .slice A1 p1 c1, .slice A2 p2 c2]] w (OrThrow w 4 (decide (0 ≤ num) && decide (num < nd)) fun e w' => ∃ d cs, ds[num.toNat]? = some d ∧ e = .returned (.agg cs) ∧ DcAt w' B d cs) := by
  obtain ⟨z0, z1, _⟩ := two_allocs w (.cells #[.slice Ad nd cd, .int .i64 n, .int .i64 sc, .int .i64 sf, .map m] 118) (.cells #[.int .i64 k, .int .i64 num, .int .i64 pos, .slice A1 p1 c1, .slice A2 p2 c2] 27)
  obtain ⟨wa, hwa⟩ : ∃ x, (w.alloc (.cells #[.slice Ad nd cd, .int .i64 n, .int .i64 sc, .int .i64 sf, .map m] 118)).alloc (.cells #[.int .i64 k, .int .i64 num, .int .i64 pos, .slice A1 p1 c1, .slice A2 p2 c2] 27) = x := ⟨_, rfl⟩
  obtain ⟨w1, hw1⟩ : ∃ x, wa.alloc (.cells zeroDc 43) = x := ⟨_, rfl⟩
  have hba : Below w.heap.size w wa := by rw [← hwa]; exact stwo w _ _
  have hsa : wa.heap.size = w.heap.size + 1 + 1 := by rw [← hwa]; simp
  have hb1a : Below wa.heap.size wa w1 := by rw [← hw1]; exact (Below.refl _ _).alloc (Nat.le_refl _) _
  have hb1 := hba.trans (hb1a.mono (by omega))
  have hs1 : w1.heap.size = w.heap.size + 1 + 1 + 1 := by rw [← hw1]; simp [hsa]
  rw [hwa] at z0 z1
  have x0 := (hb1a.block _ (heap_some_lt z0)).trans z0
  have x1 := (hb1a.block _ (heap_some_lt z1)).trans z1
  have x2 : w1.heap[wa.heap.size]? = some (.cells zeroDc 43 (0, 0)) := by rw [← hw1]; exact heap_alloc_new wa _
  have f0 := cell_of_row _ _ 0 _ _ (0, 0) x0
  have f1 := cell_of_row _ _ 1 _ _ (0, 0) x1
  have HM := Lib.hid (smust_two (decide (0 ≤ num)) (decide (num < nd)) w1 w1.heap.size rfl)
  have HBB := Lib.hid hB
  have HD := Lib.hid hd
  have HND := Lib.hid hnd
  have HB1 := Lib.hid hb1
  have HS1 := Lib.hid hs1
  have HSA := Lib.hid hsa
  have X0 := Lib.hid x0
  have X1 := Lib.hid x1
  have X2 := Lib.hid x2
  unfold zeroDc at hw1
  unfold SwV
  clear hd hnd hb1 hs1 x0 x1 x2 z0 z1 hB hba hsa hb1a
  go_enter Tryd.func113, Tryd.ntmps113
  go_wp2_with (fail)
  refine HM.out.mono ?_
  rintro e w2 h
  clear HM f0 f1
  by_cases hv : 0 ≤ num ∧ num < nd
  · obtain ⟨v0, v1⟩ := hv
    have hv3 : (decide (0 ≤ num) && decide (num < (nd : Int))) = true := by simp [v0, v1]
    rw [hv3] at h
    have HV := Lib.hid hv3
    obtain ⟨rfl, hb⟩ := h.1 rfl
    obtain ⟨i, rfl⟩ : ∃ i : Nat, num = (i : Int) := ⟨num.toNat, by omega⟩
    obtain ⟨d, hdk⟩ : ∃ d, ds[i]? = some d := ⟨_, List.getElem?_eq_getElem (by have := HND.out; omega)⟩
    have HB2 : Hid (Below w.heap.size w w2) := HB1.out.trans (hb.mono HB1.out.size)
    obtain ⟨b, o, cs, rfl, hbB, hdc, hce, hld⟩ := HD.out.get hdk
    have hld1 := hld w2 (HB2.out.mono HBB.out)
    have Y0 := (hb.block _ (by have := HS1.out; omega)).trans X0.out
    have Y1 := (hb.block _ (by have := HS1.out; omega)).trans X1.out
    have Y2 := (hb.block _ (by have := HS1.out; have := HSA.out; omega)).trans X2.out
    have f0 := cell_of_row _ _ 0 _ _ (0, 0) Y0
    have f1 := cell_of_row _ _ 1 _ _ (0, 0) Y1
    have ij0 : (0 : Int) ≤ (i : Int) := v0
    have ij1 : (i : Int) < (nd : Int) := v1
    have Z1 := Lib.hid (setRow_heap w2 wa.heap.size _ cs _ _ Y2)
    have HF : Hid (Below w.heap.size w (w2.setRow wa.heap.size cs)) := below_setRow HB2.out (by have := HSA.out; omega) _
    have hsz : Hid (zeroDc.size = cs.size) := by show _ = _; rw [hdc.size]; rfl
    have hin : Hid ((Tryd.prog.info? 43).map (·.size) = some cs.size) := by show _ = _; rw [hdc.size]; exact infoDc
    have hall := Lib.hid hdc.one
    have HDC := Lib.hid hdc
    have HDK := Lib.hid hdk
    clear h hb hdk hdc hce hld Y0 Y1 hv3 v0 v1 HD
    go_wp2_with (first | (refine wpList_load_at rfl 43 (.tmp 22) rfl (.pointer (some ⟨b, o + i * 16, none⟩)) _ rfl hld1 ?_) | (refine wpList_store_row rfl 43 (.tmp 4) (.tmp 23) rfl wa.heap.size cs rfl rfl 43 zeroDc Y2 hin.out hsz.out hall.out ?_) | fail)
    obtain ⟨wg, hwg⟩ : ∃ x, w2.setRow wa.heap.size cs = x := ⟨_, rfl⟩
    rw [hwg] at HF Z1 ⊢
    exact bodyPost_ret (v := .agg cs) (results_cell_row rfl _ _ wa.heap.size 43 cs (0, 0) _ rfl Z1.out Tryd.underlying43 rfl hin.out) rfl ⟨fun _ => ⟨⟨d, cs, HDK.out, rfl, HDC.out.keep (Nat.le_refl _) fun p hp => HF.out.cell (by have := HBB.out; omega)⟩, HF.out⟩, fun h => by rw [HV.out] at h; cases h⟩
  · have hv3 : (decide (0 ≤ num) && decide (num < (nd : Int))) = false := by
      simp
      omega
    rw [hv3] at h
    have HV := Lib.hid hv3
    obtain ⟨rfl, hb⟩ := h.2 rfl
    have HF : Hid (Below w.heap.size w w2) := HB1.out.trans (hb.mono HB1.out.size)
    clear h hb hv hv3
    go_wp2
    exact ⟨rfl, fun h => (by rw [HV.out] at h; cases h), fun _ => ⟨rfl, HF.out⟩⟩
theorem named_iff {ds : List Dc} {num : Int} {d : Dc} {Q : Dc → Prop} (h0 : 0 ≤ num) (h : ds[num.toNat]? = some d) : NamedS ds num Q ↔ Q d := by
  constructor
  · rintro ⟨_, D, h1, h2⟩
    rw [h] at h1
    injection h1 with h1
    subst h1
    exact h2
  · exact fun hq => ⟨h0, d, h, hq⟩
theorem named_no {ds : List Dc} {num : Int} {nd : Nat} {Q : Dc → Prop} (hnd : ds.length = nd) (h : (decide (0 ≤ num) && decide (num < (nd : Int))) = false) : ¬ NamedS ds num Q := by
  rintro ⟨h0, D, h1, _⟩
  have := (List.getElem?_eq_some_iff.1 h1).1
  simp at h
  omega
set_option maxRecDepth 100000 in
set_option maxHeartbeats 2000000 in
theorem sconst_any (ds : List Dc) (Ad : Option Addr) (nd cd : Nat) (n sc sf : Int) (m : Option Nat) (k num pos : Int) (A1 : Option Addr) (p1 c1 : Nat) (A2 : Option Addr) (p2 c2 : Nat) (x : Int) (B : Nat) (w : World) (hB : B ≤ w.heap.size) (hd : Dcs w B Ad cd ds) (hnd : ds.length = nd) (_ : p1 ≤ 1048576) (r : Bool) (hr : r = true ↔ NamedS ds num fun D => (D.kind = 1 ∨ D.kind = 2) ∧ (p1 : Int) = D.lev) :
    Calls Tryd.prog 92 #[SwV Ad nd cd n sc sf m, .agg #[.int .i64 k, .int .i64 num, .int .i64 pos, .slice A1 p1 c1, .slice A2 p2 c2], .int .i64 x] w (MustPost w 4 r) := by
  obtain ⟨z0, z1, _⟩ := two_allocs w (.cells #[.slice Ad nd cd, .int .i64 n, .int .i64 sc, .int .i64 sf, .map m] 118) (.cells #[.int .i64 k, .int .i64 num, .int .i64 pos, .slice A1 p1 c1, .slice A2 p2 c2] 27)
  have hb1 := stwo w (.cells #[.slice Ad nd cd, .int .i64 n, .int .i64 sc, .int .i64 sf, .map m] 118) (.cells #[.int .i64 k, .int .i64 num, .int .i64 pos, .slice A1 p1 c1, .slice A2 p2 c2] 27)
  have hs1 : ((w.alloc (.cells #[.slice Ad nd cd, .int .i64 n, .int .i64 sc, .int .i64 sf, .map m] 118)).alloc (.cells #[.int .i64 k, .int .i64 num, .int .i64 pos, .slice A1 p1 c1, .slice A2 p2 c2] 27)).heap.size = w.heap.size + 1 + 1 := by simp
  have HN := Lib.hid (snamed_any ds Ad nd cd n sc sf m k num pos A1 p1 c1 A2 p2 c2 B ((w.alloc (.cells #[.slice Ad nd cd, .int .i64 n, .int .i64 sc, .int .i64 sf, .map m] 118)).alloc (.cells #[.int .i64 k, .int .i64 num, .int .i64 pos, .slice A1 p1 c1, .slice A2 p2 c2] 27)) (by omega) (hd.below (hb1.mono hB) (Nat.le_refl _)) hnd)
  have HB1 := Lib.hid hb1
  have HS1 := Lib.hid hs1
  have Z1 := Lib.hid z1
  have HR := Lib.hid hr
  have HND := Lib.hid hnd
  unfold SwV at HN ⊢
  clear hd hnd hb1 hs1 z0 z1 hB hr
  go_enter Tryd.func92, Tryd.ntmps92
  go_wp2_with (fail)
  refine HN.out.mono ?_
  rintro e w2 h
  clear HN
  cases hv : (decide (0 ≤ num) && decide (num < (nd : Int))) with
  | true =>
    rw [hv] at h
    obtain ⟨⟨d, cs, hdk, rfl, hdc⟩, hb⟩ := h.1 rfl
    have h0 : 0 ≤ num := by simp at hv; omega
    have hq : r = true ↔ (d.kind = 1 ∨ d.kind = 2) ∧ (p1 : Int) = d.lev := HR.out.trans (named_iff h0 hdk)
    obtain ⟨w3, hw3⟩ : ∃ x, w2.alloc (.cells cs 43) = x := ⟨_, rfl⟩
    have hb3 : Below w2.heap.size w2 w3 := by rw [← hw3]; exact (Below.refl _ _).alloc (Nat.le_refl _) _
    have x3 : w3.heap[w2.heap.size]? = some (.cells cs 43 (0, 0)) := by rw [← hw3]; exact heap_alloc_new w2 _
    obtain ⟨e0, e1, ⟨Am, cm, e14⟩, Ac, cc, e15⟩ := hdc.box x3
    have y1 := (hb3.block _ (by have := hb.size; have := HS1.out; omega)).trans ((hb.block _ (by have := HS1.out; omega)).trans Z1.out)
    have g2 := cell_of_row _ _ 2 _ _ (0, 0) y1
    have g3 := cell_of_row _ _ 3 _ _ (0, 0) y1
    have HB3 : Hid (Below w.heap.size w w3) := (HB1.out.trans (hb.mono HB1.out.size)).trans (hb3.mono (by have := hb.size; have := HB1.out.size; omega))
    have hz2 := heap_alloc_new w2 (.cells zeroDc 43)
    have hsz : Hid (zeroDc.size = cs.size) := by show _ = _; rw [hdc.size]; rfl
    have hin : Hid ((Tryd.prog.info? 43).map (·.size) = some cs.size) := by show _ = _; rw [hdc.size]; exact infoDc
    have hall := Lib.hid hdc.one
    have hda := Lib.hid (dc_alloc w2 cs)
    obtain ⟨kd, hkd⟩ : ∃ x, d.kind = x := ⟨_, rfl⟩
    obtain ⟨ld, hld⟩ : ∃ x, d.lev = x := ⟨_, rfl⟩
    obtain ⟨M, hM⟩ : ∃ x, d.mems.length = x := ⟨_, rfl⟩
    obtain ⟨C, hC⟩ : ∃ x, d.ctors.length = x := ⟨_, rfl⟩
    rw [hkd] at e0
    rw [hld] at e1
    rw [hM] at e14
    rw [hC] at e15
    have HQ : Hid (r = true ↔ (kd = 1 ∨ kd = 2) ∧ (p1 : Int) = ld) := by
      rw [← hkd, ← hld]
      exact hq
    clear h hb hdk hdc hb3 x3 y1 hkd hld hM hC hq h0 hv HR
    unfold zeroDc at hz2 hda
    by_cases h1 : kd = 1
    · subst h1
      have HM := Lib.hid (smust_two (true) ((p1 : Int) == ld) w3 w3.heap.size rfl)
      have hrr : r = (true && (p1 : Int) == ld) := by
        rw [Bool.eq_iff_iff, HQ.out]
        simp
      rw [← hrr] at HM
      clear hrr
      go_wp2_with (first | (refine wpList_store_row rfl 43 (.tmp 6) (.tmp 9) rfl w2.heap.size cs rfl rfl 43 zeroDc hz2 hin.out hsz.out hall.out ?_; rw [hda.out, hw3]) | fail)
      refine HM.out.mono ?_
      clear HM hw3 hda hz2 hsz
      rintro e w5 h
      cases r with
      | true =>
        obtain ⟨rfl, hb⟩ := h.1 rfl
        have HF := Lib.hid (HB3.out.trans (hb.mono HB3.out.size))
        clear h hb
        go_wp2
        go_end0
        exact MustPost.yes rfl HF.out
      | false =>
        obtain ⟨rfl, hb⟩ := h.2 rfl
        have HF := Lib.hid (HB3.out.trans (hb.mono HB3.out.size))
        clear h hb
        go_wp2
        exact ⟨rfl, MustPost.no ⟨rfl, HF.out⟩⟩
    · have j1 : (kd == 1) = false := by simpa using h1
      have HM := Lib.hid (smust_two (kd == 2) ((p1 : Int) == ld) w3 w3.heap.size rfl)
      have hrr : r = (kd == 2 && (p1 : Int) == ld) := by
        rw [Bool.eq_iff_iff, HQ.out]
        simp [h1]
      rw [← hrr] at HM
      clear hrr
      go_wp2_with (first | (refine wpList_store_row rfl 43 (.tmp 6) (.tmp 9) rfl w2.heap.size cs rfl rfl 43 zeroDc hz2 hin.out hsz.out hall.out ?_; rw [hda.out, hw3]) | fail)
      refine HM.out.mono ?_
      clear HM hw3 hda hz2 hsz
      rintro e w5 h
      cases r with
      | true =>
        obtain ⟨rfl, hb⟩ := h.1 rfl
        have HF := Lib.hid (HB3.out.trans (hb.mono HB3.out.size))
        clear h hb
        go_wp2
        go_end0
        exact MustPost.yes rfl HF.out
      | false =>
        obtain ⟨rfl, hb⟩ := h.2 rfl
        have HF := Lib.hid (HB3.out.trans (hb.mono HB3.out.size))
        clear h hb
        go_wp2
        exact ⟨rfl, MustPost.no ⟨rfl, HF.out⟩⟩
  | false =>
    rw [hv] at h
    obtain ⟨rfl, hb⟩ := h.2 rfl
    have hrf : r = false := by
      cases r with
      | false => rfl
      | true => exact absurd (HR.out.1 rfl) (named_no HND.out hv)
    subst hrf
    have HF : Hid (Below w.heap.size w w2) := HB1.out.trans (hb.mono HB1.out.size)
    clear h hb hv HR
    go_wp2
    exact ⟨rfl, MustPost.no ⟨rfl, HF.out⟩⟩
set_option maxRecDepth 100000 in
set_option maxHeartbeats 2000000 in
theorem smember_any (ds : List Dc) (Ad : Option Addr) (nd cd : Nat) (n sc sf : Int) (m : Option Nat) (k num pos : Int) (A1 : Option Addr) (p1 c1 : Nat) (A2 : Option Addr) (p2 c2 : Nat) (x : Int) (B : Nat) (w : World) (hB : B ≤ w.heap.size) (hd : Dcs w B Ad cd ds) (hnd : ds.length = nd) (_ : p1 ≤ 1048576) (r : Bool) (hr : r = true ↔ NamedS ds num fun D => D.kind = 3 ∧ (p1 : Int) = D.lev ∧ pos < D.mems.length) :
    Calls Tryd.prog 93 #[SwV Ad nd cd n sc sf m, .agg #[.int .i64 k, .int .i64 num, .int .i64 pos, .slice A1 p1 c1, .slice A2 p2 c2], .int .i64 x] w (MustPost w 4 r) := by
  obtain ⟨z0, z1, _⟩ := two_allocs w (.cells #[.slice Ad nd cd, .int .i64 n, .int .i64 sc, .int .i64 sf, .map m] 118) (.cells #[.int .i64 k, .int .i64 num, .int .i64 pos, .slice A1 p1 c1, .slice A2 p2 c2] 27)
  have hb1 := stwo w (.cells #[.slice Ad nd cd, .int .i64 n, .int .i64 sc, .int .i64 sf, .map m] 118) (.cells #[.int .i64 k, .int .i64 num, .int .i64 pos, .slice A1 p1 c1, .slice A2 p2 c2] 27)
  have hs1 : ((w.alloc (.cells #[.slice Ad nd cd, .int .i64 n, .int .i64 sc, .int .i64 sf, .map m] 118)).alloc (.cells #[.int .i64 k, .int .i64 num, .int .i64 pos, .slice A1 p1 c1, .slice A2 p2 c2] 27)).heap.size = w.heap.size + 1 + 1 := by simp
  have HN := Lib.hid (snamed_any ds Ad nd cd n sc sf m k num pos A1 p1 c1 A2 p2 c2 B ((w.alloc (.cells #[.slice Ad nd cd, .int .i64 n, .int .i64 sc, .int .i64 sf, .map m] 118)).alloc (.cells #[.int .i64 k, .int .i64 num, .int .i64 pos, .slice A1 p1 c1, .slice A2 p2 c2] 27)) (by omega) (hd.below (hb1.mono hB) (Nat.le_refl _)) hnd)
  have HB1 := Lib.hid hb1
  have HS1 := Lib.hid hs1
  have Z1 := Lib.hid z1
  have HR := Lib.hid hr
  have HND := Lib.hid hnd
  unfold SwV at HN ⊢
  clear hd hnd hb1 hs1 z0 z1 hB hr
  go_enter Tryd.func93, Tryd.ntmps93
  go_wp2_with (fail)
  refine HN.out.mono ?_
  rintro e w2 h
  clear HN
  cases hv : (decide (0 ≤ num) && decide (num < (nd : Int))) with
  | true =>
    rw [hv] at h
    obtain ⟨⟨d, cs, hdk, rfl, hdc⟩, hb⟩ := h.1 rfl
    have h0 : 0 ≤ num := by simp at hv; omega
    have hq : r = true ↔ d.kind = 3 ∧ (p1 : Int) = d.lev ∧ pos < d.mems.length := HR.out.trans (named_iff h0 hdk)
    obtain ⟨w3, hw3⟩ : ∃ x, w2.alloc (.cells cs 43) = x := ⟨_, rfl⟩
    have hb3 : Below w2.heap.size w2 w3 := by rw [← hw3]; exact (Below.refl _ _).alloc (Nat.le_refl _) _
    have x3 : w3.heap[w2.heap.size]? = some (.cells cs 43 (0, 0)) := by rw [← hw3]; exact heap_alloc_new w2 _
    obtain ⟨e0, e1, ⟨Am, cm, e14⟩, Ac, cc, e15⟩ := hdc.box x3
    have y1 := (hb3.block _ (by have := hb.size; have := HS1.out; omega)).trans ((hb.block _ (by have := HS1.out; omega)).trans Z1.out)
    have g2 := cell_of_row _ _ 2 _ _ (0, 0) y1
    have g3 := cell_of_row _ _ 3 _ _ (0, 0) y1
    have HB3 : Hid (Below w.heap.size w w3) := (HB1.out.trans (hb.mono HB1.out.size)).trans (hb3.mono (by have := hb.size; have := HB1.out.size; omega))
    have hz2 := heap_alloc_new w2 (.cells zeroDc 43)
    have hsz : Hid (zeroDc.size = cs.size) := by show _ = _; rw [hdc.size]; rfl
    have hin : Hid ((Tryd.prog.info? 43).map (·.size) = some cs.size) := by show _ = _; rw [hdc.size]; exact infoDc
    have hall := Lib.hid hdc.one
    have hda := Lib.hid (dc_alloc w2 cs)
    obtain ⟨kd, hkd⟩ : ∃ x, d.kind = x := ⟨_, rfl⟩
    obtain ⟨ld, hld⟩ : ∃ x, d.lev = x := ⟨_, rfl⟩
    obtain ⟨M, hM⟩ : ∃ x, d.mems.length = x := ⟨_, rfl⟩
    obtain ⟨C, hC⟩ : ∃ x, d.ctors.length = x := ⟨_, rfl⟩
    rw [hkd] at e0
    rw [hld] at e1
    rw [hM] at e14
    rw [hC] at e15
    have HQ : Hid (r = true ↔ kd = 3 ∧ (p1 : Int) = ld ∧ pos < M) := by
      rw [← hkd, ← hld, ← hM]
      exact hq
    clear h hb hdk hdc hb3 x3 y1 hkd hld hM hC hq h0 hv HR
    unfold zeroDc at hz2 hda
    have HM := Lib.hid (smust_three (kd == 3) ((p1 : Int) == ld) (decide (pos < (M : Int))) w3 w3.heap.size rfl)
    have hrr : r = (kd == 3 && (p1 : Int) == ld && decide (pos < (M : Int))) := by
      rw [Bool.eq_iff_iff, HQ.out]
      simp only [Bool.and_eq_true, decide_eq_true_eq, beq_iff_eq, and_assoc]
    rw [← hrr] at HM
    clear hrr
    go_wp2_with (first | (refine wpList_store_row rfl 43 (.tmp 6) (.tmp 9) rfl w2.heap.size cs rfl rfl 43 zeroDc hz2 hin.out hsz.out hall.out ?_; rw [hda.out, hw3]) | fail)
    refine HM.out.mono ?_
    clear HM hw3 hda hz2 hsz
    rintro e w5 h
    cases r with
    | true =>
      obtain ⟨rfl, hb⟩ := h.1 rfl
      have HF := Lib.hid (HB3.out.trans (hb.mono HB3.out.size))
      clear h hb
      go_wp2
      go_end0
      exact MustPost.yes rfl HF.out
    | false =>
      obtain ⟨rfl, hb⟩ := h.2 rfl
      have HF := Lib.hid (HB3.out.trans (hb.mono HB3.out.size))
      clear h hb
      go_wp2
      exact ⟨rfl, MustPost.no ⟨rfl, HF.out⟩⟩
  | false =>
    rw [hv] at h
    obtain ⟨rfl, hb⟩ := h.2 rfl
    have hrf : r = false := by
      cases r with
      | false => rfl
      | true => exact absurd (HR.out.1 rfl) (named_no HND.out hv)
    subst hrf
    have HF : Hid (Below w.heap.size w w2) := HB1.out.trans (hb.mono HB1.out.size)
    clear h hb hv HR
    go_wp2
    exact ⟨rfl, MustPost.no ⟨rfl, HF.out⟩⟩
set_option maxRecDepth 100000 in
set_option maxHeartbeats 2000000 in
theorem sctor_any (ds : List Dc) (Ad : Option Addr) (nd cd : Nat) (n sc sf : Int) (m : Option Nat) (k num pos : Int) (A1 : Option Addr) (p1 c1 : Nat) (A2 : Option Addr) (p2 c2 : Nat) (x : Int) (B : Nat) (w : World) (hB : B ≤ w.heap.size) (hd : Dcs w B Ad cd ds) (hnd : ds.length = nd) (_ : p1 ≤ 1048576) (r : Bool) (hr : r = true ↔ NamedS ds num fun D => D.kind = 3 ∧ (p1 : Int) = D.lev ∧ pos < D.ctors.length) :
    Calls Tryd.prog 94 #[SwV Ad nd cd n sc sf m, .agg #[.int .i64 k, .int .i64 num, .int .i64 pos, .slice A1 p1 c1, .slice A2 p2 c2], .int .i64 x] w (MustPost w 4 r) := by
  obtain ⟨z0, z1, _⟩ := two_allocs w (.cells #[.slice Ad nd cd, .int .i64 n, .int .i64 sc, .int .i64 sf, .map m] 118) (.cells #[.int .i64 k, .int .i64 num, .int .i64 pos, .slice A1 p1 c1, .slice A2 p2 c2] 27)
  have hb1 := stwo w (.cells #[.slice Ad nd cd, .int .i64 n, .int .i64 sc, .int .i64 sf, .map m] 118) (.cells #[.int .i64 k, .int .i64 num, .int .i64 pos, .slice A1 p1 c1, .slice A2 p2 c2] 27)
  have hs1 : ((w.alloc (.cells #[.slice Ad nd cd, .int .i64 n, .int .i64 sc, .int .i64 sf, .map m] 118)).alloc (.cells #[.int .i64 k, .int .i64 num, .int .i64 pos, .slice A1 p1 c1, .slice A2 p2 c2] 27)).heap.size = w.heap.size + 1 + 1 := by simp
  have HN := Lib.hid (snamed_any ds Ad nd cd n sc sf m k num pos A1 p1 c1 A2 p2 c2 B ((w.alloc (.cells #[.slice Ad nd cd, .int .i64 n, .int .i64 sc, .int .i64 sf, .map m] 118)).alloc (.cells #[.int .i64 k, .int .i64 num, .int .i64 pos, .slice A1 p1 c1, .slice A2 p2 c2] 27)) (by omega) (hd.below (hb1.mono hB) (Nat.le_refl _)) hnd)
  have HB1 := Lib.hid hb1
  have HS1 := Lib.hid hs1
  have Z1 := Lib.hid z1
  have HR := Lib.hid hr
  have HND := Lib.hid hnd
  unfold SwV at HN ⊢
  clear hd hnd hb1 hs1 z0 z1 hB hr
  go_enter Tryd.func94, Tryd.ntmps94
  go_wp2_with (fail)
  refine HN.out.mono ?_
  rintro e w2 h
  clear HN
  cases hv : (decide (0 ≤ num) && decide (num < (nd : Int))) with
  | true =>
    rw [hv] at h
    obtain ⟨⟨d, cs, hdk, rfl, hdc⟩, hb⟩ := h.1 rfl
    have h0 : 0 ≤ num := by simp at hv; omega
    have hq : r = true ↔ d.kind = 3 ∧ (p1 : Int) = d.lev ∧ pos < d.ctors.length := HR.out.trans (named_iff h0 hdk)
    obtain ⟨w3, hw3⟩ : ∃ x, w2.alloc (.cells cs 43) = x := ⟨_, rfl⟩
    have hb3 : Below w2.heap.size w2 w3 := by rw [← hw3]; exact (Below.refl _ _).alloc (Nat.le_refl _) _
    have x3 : w3.heap[w2.heap.size]? = some (.cells cs 43 (0, 0)) := by rw [← hw3]; exact heap_alloc_new w2 _
    obtain ⟨e0, e1, ⟨Am, cm, e14⟩, Ac, cc, e15⟩ := hdc.box x3
    have y1 := (hb3.block _ (by have := hb.size; have := HS1.out; omega)).trans ((hb.block _ (by have := HS1.out; omega)).trans Z1.out)
    have g2 := cell_of_row _ _ 2 _ _ (0, 0) y1
    have g3 := cell_of_row _ _ 3 _ _ (0, 0) y1
    have HB3 : Hid (Below w.heap.size w w3) := (HB1.out.trans (hb.mono HB1.out.size)).trans (hb3.mono (by have := hb.size; have := HB1.out.size; omega))
    have hz2 := heap_alloc_new w2 (.cells zeroDc 43)
    have hsz : Hid (zeroDc.size = cs.size) := by show _ = _; rw [hdc.size]; rfl
    have hin : Hid ((Tryd.prog.info? 43).map (·.size) = some cs.size) := by show _ = _; rw [hdc.size]; exact infoDc
    have hall := Lib.hid hdc.one
    have hda := Lib.hid (dc_alloc w2 cs)
    obtain ⟨kd, hkd⟩ : ∃ x, d.kind = x := ⟨_, rfl⟩
    obtain ⟨ld, hld⟩ : ∃ x, d.lev = x := ⟨_, rfl⟩
    obtain ⟨M, hM⟩ : ∃ x, d.mems.length = x := ⟨_, rfl⟩
    obtain ⟨C, hC⟩ : ∃ x, d.ctors.length = x := ⟨_, rfl⟩
    rw [hkd] at e0
    rw [hld] at e1
    rw [hM] at e14
    rw [hC] at e15
    have HQ : Hid (r = true ↔ kd = 3 ∧ (p1 : Int) = ld ∧ pos < C) := by
      rw [← hkd, ← hld, ← hC]
      exact hq
    clear h hb hdk hdc hb3 x3 y1 hkd hld hM hC hq h0 hv HR
    unfold zeroDc at hz2 hda
    have HM := Lib.hid (smust_three (kd == 3) ((p1 : Int) == ld) (decide (pos < (C : Int))) w3 w3.heap.size rfl)
    have hrr : r = (kd == 3 && (p1 : Int) == ld && decide (pos < (C : Int))) := by
      rw [Bool.eq_iff_iff, HQ.out]
      simp only [Bool.and_eq_true, decide_eq_true_eq, beq_iff_eq, and_assoc]
    rw [← hrr] at HM
    clear hrr
    go_wp2_with (first | (refine wpList_store_row rfl 43 (.tmp 6) (.tmp 9) rfl w2.heap.size cs rfl rfl 43 zeroDc hz2 hin.out hsz.out hall.out ?_; rw [hda.out, hw3]) | fail)
    refine HM.out.mono ?_
    clear HM hw3 hda hz2 hsz
    rintro e w5 h
    cases r with
    | true =>
      obtain ⟨rfl, hb⟩ := h.1 rfl
      have HF := Lib.hid (HB3.out.trans (hb.mono HB3.out.size))
      clear h hb
      go_wp2
      go_end0
      exact MustPost.yes rfl HF.out
    | false =>
      obtain ⟨rfl, hb⟩ := h.2 rfl
      have HF := Lib.hid (HB3.out.trans (hb.mono HB3.out.size))
      clear h hb
      go_wp2
      exact ⟨rfl, MustPost.no ⟨rfl, HF.out⟩⟩
  | false =>
    rw [hv] at h
    obtain ⟨rfl, hb⟩ := h.2 rfl
    have hrf : r = false := by
      cases r with
      | false => rfl
      | true => exact absurd (HR.out.1 rfl) (named_no HND.out hv)
    subst hrf
    have HF : Hid (Below w.heap.size w w2) := HB1.out.trans (hb.mono HB1.out.size)
    clear h hb hv HR
    go_wp2
    exact ⟨rfl, MustPost.no ⟨rfl, HF.out⟩⟩
set_option maxRecDepth 100000 in
set_option maxHeartbeats 2000000 in
theorem srec_any (ds : List Dc) (Ad : Option Addr) (nd cd : Nat) (n sc sf : Int) (m : Option Nat) (k num pos : Int) (A1 : Option Addr) (p1 c1 : Nat) (A2 : Option Addr) (p2 c2 : Nat) (x : Int) (B : Nat) (w : World) (hB : B ≤ w.heap.size) (hd : Dcs w B Ad cd ds) (hnd : ds.length = nd) (hp1 : p1 ≤ 1048576) (r : Bool) (hr : r = true ↔ NamedS ds num fun D => D.kind = 3 ∧ (p1 : Int) - 1 = D.lev ∧ pos < D.mems.length) :
    Calls Tryd.prog 95 #[SwV Ad nd cd n sc sf m, .agg #[.int .i64 k, .int .i64 num, .int .i64 pos, .slice A1 p1 c1, .slice A2 p2 c2], .int .i64 x] w (MustPost w 4 r) := by
  obtain ⟨z0, z1, _⟩ := two_allocs w (.cells #[.slice Ad nd cd, .int .i64 n, .int .i64 sc, .int .i64 sf, .map m] 118) (.cells #[.int .i64 k, .int .i64 num, .int .i64 pos, .slice A1 p1 c1, .slice A2 p2 c2] 27)
  have hb1 := stwo w (.cells #[.slice Ad nd cd, .int .i64 n, .int .i64 sc, .int .i64 sf, .map m] 118) (.cells #[.int .i64 k, .int .i64 num, .int .i64 pos, .slice A1 p1 c1, .slice A2 p2 c2] 27)
  have hs1 : ((w.alloc (.cells #[.slice Ad nd cd, .int .i64 n, .int .i64 sc, .int .i64 sf, .map m] 118)).alloc (.cells #[.int .i64 k, .int .i64 num, .int .i64 pos, .slice A1 p1 c1, .slice A2 p2 c2] 27)).heap.size = w.heap.size + 1 + 1 := by simp
  have HN := Lib.hid (snamed_any ds Ad nd cd n sc sf m k num pos A1 p1 c1 A2 p2 c2 B ((w.alloc (.cells #[.slice Ad nd cd, .int .i64 n, .int .i64 sc, .int .i64 sf, .map m] 118)).alloc (.cells #[.int .i64 k, .int .i64 num, .int .i64 pos, .slice A1 p1 c1, .slice A2 p2 c2] 27)) (by omega) (hd.below (hb1.mono hB) (Nat.le_refl _)) hnd)
  have HB1 := Lib.hid hb1
  have HS1 := Lib.hid hs1
  have Z1 := Lib.hid z1
  have HR := Lib.hid hr
  have HND := Lib.hid hnd
  unfold SwV at HN ⊢
  clear hd hnd hb1 hs1 z0 z1 hB hr
  go_enter Tryd.func95, Tryd.ntmps95
  go_wp2_with (fail)
  refine HN.out.mono ?_
  rintro e w2 h
  clear HN
  cases hv : (decide (0 ≤ num) && decide (num < (nd : Int))) with
  | true =>
    rw [hv] at h
    obtain ⟨⟨d, cs, hdk, rfl, hdc⟩, hb⟩ := h.1 rfl
    have h0 : 0 ≤ num := by simp at hv; omega
    have hq : r = true ↔ d.kind = 3 ∧ (p1 : Int) - 1 = d.lev ∧ pos < d.mems.length := HR.out.trans (named_iff h0 hdk)
    obtain ⟨w3, hw3⟩ : ∃ x, w2.alloc (.cells cs 43) = x := ⟨_, rfl⟩
    have hb3 : Below w2.heap.size w2 w3 := by rw [← hw3]; exact (Below.refl _ _).alloc (Nat.le_refl _) _
    have x3 : w3.heap[w2.heap.size]? = some (.cells cs 43 (0, 0)) := by rw [← hw3]; exact heap_alloc_new w2 _
    obtain ⟨e0, e1, ⟨Am, cm, e14⟩, Ac, cc, e15⟩ := hdc.box x3
    have y1 := (hb3.block _ (by have := hb.size; have := HS1.out; omega)).trans ((hb.block _ (by have := HS1.out; omega)).trans Z1.out)
    have g2 := cell_of_row _ _ 2 _ _ (0, 0) y1
    have g3 := cell_of_row _ _ 3 _ _ (0, 0) y1
    have HB3 : Hid (Below w.heap.size w w3) := (HB1.out.trans (hb.mono HB1.out.size)).trans (hb3.mono (by have := hb.size; have := HB1.out.size; omega))
    have hz2 := heap_alloc_new w2 (.cells zeroDc 43)
    have hsz : Hid (zeroDc.size = cs.size) := by show _ = _; rw [hdc.size]; rfl
    have hin : Hid ((Tryd.prog.info? 43).map (·.size) = some cs.size) := by show _ = _; rw [hdc.size]; exact infoDc
    have hall := Lib.hid hdc.one
    have hda := Lib.hid (dc_alloc w2 cs)
    obtain ⟨kd, hkd⟩ : ∃ x, d.kind = x := ⟨_, rfl⟩
    obtain ⟨ld, hld⟩ : ∃ x, d.lev = x := ⟨_, rfl⟩
    obtain ⟨M, hM⟩ : ∃ x, d.mems.length = x := ⟨_, rfl⟩
    obtain ⟨C, hC⟩ : ∃ x, d.ctors.length = x := ⟨_, rfl⟩
    rw [hkd] at e0
    rw [hld] at e1
    rw [hM] at e14
    rw [hC] at e15
    have HQ : Hid (r = true ↔ kd = 3 ∧ (p1 : Int) - 1 = ld ∧ pos < M) := by
      rw [← hkd, ← hld, ← hM]
      exact hq
    clear h hb hdk hdc hb3 x3 y1 hkd hld hM hC hq h0 hv HR
    unfold zeroDc at hz2 hda
    have hwp : IntKind.i64.wrap ((p1 : Int) - 1) = (p1 : Int) - 1 := IntWalk.i64_in _ (by omega)
    have HM := Lib.hid (smust_three (kd == 3) ((p1 : Int) - 1 == ld) (decide (pos < (M : Int))) w3 w3.heap.size rfl)
    have hrr : r = (kd == 3 && (p1 : Int) - 1 == ld && decide (pos < (M : Int))) := by
      rw [Bool.eq_iff_iff, HQ.out]
      simp only [Bool.and_eq_true, decide_eq_true_eq, beq_iff_eq, and_assoc]
    rw [← hrr] at HM
    clear hrr
    go_wp2_with (first | (refine wpList_store_row rfl 43 (.tmp 6) (.tmp 9) rfl w2.heap.size cs rfl rfl 43 zeroDc hz2 hin.out hsz.out hall.out ?_; rw [hda.out, hw3]) | fail)
    refine HM.out.mono ?_
    clear HM hw3 hda hz2 hsz
    rintro e w5 h
    cases r with
    | true =>
      obtain ⟨rfl, hb⟩ := h.1 rfl
      have HF := Lib.hid (HB3.out.trans (hb.mono HB3.out.size))
      clear h hb
      go_wp2
      go_end0
      exact MustPost.yes rfl HF.out
    | false =>
      obtain ⟨rfl, hb⟩ := h.2 rfl
      have HF := Lib.hid (HB3.out.trans (hb.mono HB3.out.size))
      clear h hb
      go_wp2
      exact ⟨rfl, MustPost.no ⟨rfl, HF.out⟩⟩
  | false =>
    rw [hv] at h
    obtain ⟨rfl, hb⟩ := h.2 rfl
    have hrf : r = false := by
      cases r with
      | false => rfl
      | true => exact absurd (HR.out.1 rfl) (named_no HND.out hv)
    subst hrf
    have HF : Hid (Below w.heap.size w w2) := HB1.out.trans (hb.mono HB1.out.size)
    clear h hb hv HR
    go_wp2
    exact ⟨rfl, MustPost.no ⟨rfl, HF.out⟩⟩
end Go.Proofs.YtfgnnbpbbnnnhaaDoor
