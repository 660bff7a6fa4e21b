/- Laws. -/
import Derived.Test.YtfgnnbpbbnnnhaaDoorApaj
import Derived.Test.YtfgnnbpbbnnnhaaDoorApam
import Derived.Maps.AppendAt
import Derived.Deep.RegionHeld3
namespace Go.Proofs.YtfgnnbpbbnnnhaaDoor
open Go.RowKit Go.Maps
/-- lifted by nothing, a node stays -/
theorem lift_leaf (k num pos : Int) (lv : List (List (Int × Int))) (h : Rng num) : (Tm.mk k num pos lv []).walk (liftT 0 0) 0 = .mk k num pos lv [] := by
  have hn : liftN 0 k num 0 0 = num := by
    unfold liftN
    split
    · unfold Rng at h; rw [Int.add_zero, IntWalk.i64_in _ (by omega)]
    · rfl
  rw [Tm.walk_go (tr := liftT 0 0) (n' := liftN 0 k num 0 0) (lv' := lv) rfl, hn, Tm.walkL]
set_option maxRecDepth 100000 in
theorem load_tmrow {w : World} {cs : Array Value} {g : Nat} (hs : cs.size = 5 := by rfl) (h : w.heap[g]? = some (.cells cs 27 (0, 0))) : (Instr.loadAt 27 (.pointer (some ⟨g, 0, none⟩))).run Tryd.prog w = .ok (.agg cs) w :=
  run_loadAt_cells Tryd.underlying27 rfl infoT5 hs fun j _ => by rw [Nat.zero_add]; exact cell_of_row _ _ j _ _ (0, 0) h
theorem infoT9 : (Tryd.prog.info? 27).map (fun i => (i.zero, i.size, i.bytes)) = some (some (.agg #[.int .i64 0, .int .i64 0, .int .i64 0, .slice none 0 0, .slice none 0 0]), 5, 72) := by kernel_rfl
set_option maxRecDepth 100000 in
set_option maxHeartbeats 4000000 in
theorem cterms_leaf {W : World} {B : Nat} {ds : List Dc} {ns : List Int} {Ad : Option Addr} {nd cd : Nat} {Aa : Option Addr} {na : Nat} (ca m : Nat) (h : CyOver W B ds ns Ad nd cd Aa na) (hB : B ≤ W.heap.size) (hB0 : 0 < B) (hK : KindsAt W) (hm : CyAt W m) (hmB : m < B) (k num pos : Int) (lv : List (List (Int × Int))) (hf : (Tm.mk k num pos lv []).fit) (A1 : Option Addr) (p1 c1 : Nat) (A2 : Option Addr) (c2 : Nat) (hv : TmAt W B (.mk k num pos lv []) (.agg #[.int .i64 k, .int .i64 num, .int .i64 pos, .slice A1 p1 c1, .slice A2 0 c2])) (w : World) (hw : Below B W w) (g : Nat)
    (hg : w.heap[g]? = some (.cells #[.int .i64 k, .int .i64 num, .int .i64 pos, .slice A1 p1 c1, .slice A2 0 c2] 27 (0, 0))) :
    Calls Tryd.prog 81 #[CarV Ad nd cd Aa na ca m, .slice (some ⟨g, 0, none⟩) 1 1] w (fun e w' => ∃ (v : Value) (A1 : Option Addr) (p1 c1 : Nat) (A2 : Option Addr) (c2 : Nat), e = .returned v ∧ w'.ownsRow w.heap.size 27 5 v 1 (leafV (cyO ds ns k num pos) k num pos A1 p1 c1 A2 c2).toList ∧ Below w.heap.size w w') := by
  obtain ⟨i0, hi, hz0, hz1, hz2⟩ := info_parts infoT9
  obtain ⟨o, ho⟩ : ∃ o, cyO ds ns k num pos = o := ⟨_, rfl⟩
  obtain ⟨k9, n9, a9, hl9⟩ : ∃ k9 n9 a9, ∀ (A1 : Option Addr) (p1 c1 : Nat) (A2 : Option Addr) (c2 : Nat), leafV o k num pos A1 p1 c1 A2 c2 = #[.int .i64 k9, .int .i64 n9, .int .i64 a9, .slice A1 p1 c1, .slice A2 0 c2] := by
    cases o
    · exact ⟨_, _, _, fun _ _ _ _ _ => rfl⟩
    · exact ⟨_, _, _, fun _ _ _ _ _ => rfl⟩
  have HL9 := Lib.hid hl9
  have hwB : B ≤ w.heap.size := Nat.le_trans hB hw.size
  have HL0 : Hid (∀ w', Below w.heap.size w w' → Calls Tryd.prog 10 #[.agg #[.int .i64 k, .int .i64 num, .int .i64 pos, .slice A1 p1 c1, .slice A2 0 c2], .int .i64 0, .int .i64 0] w' (fun e w9 => ∃ (A1 : Option Addr) (p1 c1 : Nat) (A2 : Option Addr) (c2 : Nat), e = .returned (.agg #[.int .i64 k, .int .i64 num, .int .i64 pos, .slice A1 p1 c1, .slice A2 0 c2]) ∧ Below w'.heap.size w' w9)) := fun w' hx => by
    have hbx : Below B W w' := hw.trans (hx.mono hwB)
    refine (lift_any _ hf _ w' 0 0 (by rw [Tm.size_mk]; simp [Tm.sizeL]) (hK.below hbx hB0) (hv.below hbx (Nat.le_trans hB hbx.size))).mono ?_
    rintro e w9 ⟨v, rfl, hv9, hb9⟩
    rw [lift_leaf k num pos lv ((Tm.fit_mk ..).1 hf).1] at hv9
    obtain ⟨Al, cl, Ak, ck, e9, _⟩ := (hv9.tmAt).open
    exact ⟨Al, _, cl, Ak, ck, by rw [e9]; rfl, hb9⟩
  have HT0 : Hid (∀ w' (A1 : Option Addr) (p1 c1 : Nat) (A2 : Option Addr) (c2 : Nat), Below w.heap.size w w' → Calls Tryd.prog 107 #[.agg #[.slice Ad nd cd, .slice Aa na ca, .map (some m)], .agg #[.int .i64 k, .int .i64 num, .int .i64 pos, .slice A1 p1 c1, .slice A2 0 c2]] w' (fun e w9 => e = .returned (.agg #[.int .i64 k9, .int .i64 n9, .int .i64 a9, .slice A1 p1 c1, .slice A2 0 c2]) ∧ Below w'.heap.size w' w9)) := fun w' A1 p1 c1 A2 c2 hx => by
    rw [← hl9, ← ho]
    exact cterm_leaf ca m h hB hm hmB k num pos A1 p1 c1 A2 c2 w' (hw.trans (hx.mono hwB))
  rw [ho]
  obtain ⟨w1, hw1⟩ : ∃ x, w.alloc (.cells #[.slice Ad nd cd, .slice Aa na ca, .map (some m)] 99) = x := ⟨_, rfl⟩
  have hb1 : Below w.heap.size w w1 := by rw [← hw1]; exact (Below.refl _ _).alloc (Nat.le_refl _) _
  have hs1 : w1.heap.size = w.heap.size + 1 := by rw [← hw1]; simp
  have x1 : w1.heap[w.heap.size]? = some (.cells #[.slice Ad nd cd, .slice Aa na ca, .map (some m)] 99 (0, 0)) := by rw [← hw1]; exact heap_alloc_new w _
  have gl := heap_some_lt hg
  have g1 := (hb1.block _ gl).trans hg
  have HB1 := Lib.hid hb1
  have HS1 := Lib.hid hs1
  have X1 := Lib.hid x1
  have G1 := Lib.hid g1
  unfold CarV
  clear h hB hB0 hK hm hmB hf hv hw hwB ho hb1 hs1 x1 gl g1 hg hl9
  go_enter Tryd.func81, Tryd.ntmps81
  go_wp2_with (fail)
  go_loopw [5, 10] (fun u i wr => (i = .int .i64 0 ∧ u = .slice none 0 0 ∧ wr = w1) ∨ (i = .int .i64 1 ∧ Below w.heap.size w wr ∧ ∃ (A1 : Option Addr) (p1 c1 : Nat) (A2 : Option Addr) (c2 : Nat), wr.ownsRow w.heap.size 27 5 u 1 (leafV o k num pos A1 p1 c1 A2 c2).toList)) (fun _ i _ => 1 - (intOf i).toNat)
  case atStart => exact Or.inl ⟨rfl, rfl, rfl⟩
  case round =>
    rcases hrel with ⟨rfl, rfl, rfl⟩ | ⟨rfl, hb, hrow⟩
    · obtain ⟨w4, hw4⟩ : ∃ y, wr.alloc (.cells #[.int .i64 k, .int .i64 num, .int .i64 pos, .slice A1 p1 c1, .slice A2 0 c2] 27) = y := ⟨_, rfl⟩
      have hb4 : Below wr.heap.size wr w4 := by rw [← hw4]; exact (Below.refl _ _).alloc (Nat.le_refl _) _
      have x4 : w4.heap[wr.heap.size]? = some (.cells #[.int .i64 k, .int .i64 num, .int .i64 pos, .slice A1 p1 c1, .slice A2 0 c2] 27 (0, 0)) := by rw [← hw4]; exact heap_alloc_new wr _
      have HX0 := Lib.hid ((hb4.block _ (heap_some_lt X1.out)).trans X1.out)
      have HX4 := Lib.hid x4
      have HB4 : Hid (Below w.heap.size w w4) := HB1.out.trans (hb4.mono HB1.out.size)
      have hz := heap_alloc_new wr (.cells zeroTm 27)
      have hda : Hid ((wr.alloc (.cells zeroTm 27)).setRow wr.heap.size #[.int .i64 k, .int .i64 num, .int .i64 pos, .slice A1 p1 c1, .slice A2 0 c2] = wr.alloc (.cells #[.int .i64 k, .int .i64 num, .int .i64 pos, .slice A1 p1 c1, .slice A2 0 c2] 27)) := World.setRow_alloc_new _ _ _ _
      have hg := G1.out
      have HL : Hid (∀ w', Below w4.heap.size w4 w' → Calls Tryd.prog 10 #[.agg #[.int .i64 k, .int .i64 num, .int .i64 pos, .slice A1 p1 c1, .slice A2 0 c2], .int .i64 0, .int .i64 0] w' (fun e w9 => ∃ (A1 : Option Addr) (p1 c1 : Nat) (A2 : Option Addr) (c2 : Nat), e = .returned (.agg #[.int .i64 k, .int .i64 num, .int .i64 pos, .slice A1 p1 c1, .slice A2 0 c2]) ∧ Below w'.heap.size w' w9)) := fun w' hx => HL0.out w' (HB4.out.trans (hx.mono HB4.out.size))
      have HT : Hid (∀ w' (A1 : Option Addr) (p1 c1 : Nat) (A2 : Option Addr) (c2 : Nat), Below w4.heap.size w4 w' → Calls Tryd.prog 107 #[.agg #[.slice Ad nd cd, .slice Aa na ca, .map (some m)], .agg #[.int .i64 k, .int .i64 num, .int .i64 pos, .slice A1 p1 c1, .slice A2 0 c2]] w' (fun e w9 => e = .returned (.agg #[.int .i64 k9, .int .i64 n9, .int .i64 a9, .slice A1 p1 c1, .slice A2 0 c2]) ∧ Below w'.heap.size w' w9)) := fun w' A1 p1 c1 A2 c2 hx => HT0.out w' A1 p1 c1 A2 c2 (HB4.out.trans (hx.mono HB4.out.size))
      clear hb4 x4
      unfold zeroTm at hz hda
      go_upto_region 5 with (first | (refine wpList_load_row rfl 27 (.tmp 12) rfl g rfl 27 _ (0, 0) _ hg Tryd.underlying27 rfl infoT5 ?_) | (refine wpList_store_row rfl 27 (.tmp 7) (.tmp 13) rfl wr.heap.size #[.int .i64 k, .int .i64 num, .int .i64 pos, .slice A1 p1 c1, .slice A2 0 c2] rfl rfl 27 zeroTm hz infoT5 rfl (by simp [Value.oneCell']) ?_; rw [hda.out, hw4]) | fail)
      have HSR : Hid (∀ w', Below w4.heap.size w4 w' → w'.cell? ⟨w.heap.size, 0, none⟩ = some (.slice Ad nd cd) ∧ w'.cell? ⟨w.heap.size, 1, none⟩ = some (.slice Aa na ca) ∧ w'.cell? ⟨w.heap.size, 2, none⟩ = some (.map (some m)) ∧ w'.cell? ⟨wr.heap.size, 0, none⟩ = some (.int .i64 k) ∧ w'.cell? ⟨wr.heap.size, 1, none⟩ = some (.int .i64 num) ∧ w'.cell? ⟨wr.heap.size, 2, none⟩ = some (.int .i64 pos) ∧ w'.cell? ⟨wr.heap.size, 3, none⟩ = some (.slice A1 p1 c1) ∧ w'.cell? ⟨wr.heap.size, 4, none⟩ = some (.slice A2 0 c2)) := fun w' hx =>
        have y0 := (hx.block _ (heap_some_lt HX0.out)).trans HX0.out
        have y4 := (hx.block _ (heap_some_lt HX4.out)).trans HX4.out
        ⟨cell_of_row _ _ 0 _ _ (0, 0) y0, cell_of_row _ _ 1 _ _ (0, 0) y0, cell_of_row _ _ 2 _ _ (0, 0) y0, cell_of_row _ _ 0 _ _ (0, 0) y4, cell_of_row _ _ 1 _ _ (0, 0) y4, cell_of_row _ _ 2 _ _ (0, 0) y4, cell_of_row _ _ 3 _ _ (0, 0) y4, cell_of_row _ _ 4 _ _ (0, 0) y4⟩
      have HD : Hid (Below w4.heap.size w4 w4.drew) := (Below.refl _ _).drew
      have HW4 : Hid (w.heap.size ≤ w4.heap.size) := HB4.out.size
      clear hg hz hda hw4
      go_region_held3 (fun w' => w'.cell? ⟨w.heap.size, 0, none⟩ = some (.slice Ad nd cd) ∧ w'.cell? ⟨w.heap.size, 1, none⟩ = some (.slice Aa na ca) ∧ w'.cell? ⟨w.heap.size, 2, none⟩ = some (.map (some m)) ∧ w'.cell? ⟨wr.heap.size, 0, none⟩ = some (.int .i64 k) ∧ w'.cell? ⟨wr.heap.size, 1, none⟩ = some (.int .i64 num) ∧ w'.cell? ⟨wr.heap.size, 2, none⟩ = some (.int .i64 pos) ∧ w'.cell? ⟨wr.heap.size, 3, none⟩ = some (.slice A1 p1 c1) ∧ w'.cell? ⟨wr.heap.size, 4, none⟩ = some (.slice A2 0 c2))
        (first
          | exact HSR.out _ HD.out
          | (apply HSR.out; assumption)
          | (apply HSR.out; apply Below.alloc; assumption; apply Below.size; assumption)
          | (apply HSR.out; exact (Below.alloc hx2 hx2.size _).grown hgrow (by have := hx2.size; simp; omega) (fun b e => by cases e)))
        (first
          | (go_at_call 10; refine (HL.out _ ?_).mono ?_; exact HD.out; rintro e wB ⟨B1, q1, d1, B2, d2, rfl, hx0⟩; have hx1 := HD.out.trans (hx0.mono HD.out.size))
          | (go_at_call 107; refine (HT.out _ _ _ _ _ _ ?_).mono ?_; exact hx1; rintro e wL ⟨rfl, hx9⟩; have hx2 := hx1.trans (hx9.mono hx1.size))
          | (refine step_append_lies _ (by rfl) _ _ 25 (by rfl) w.heap.size 27 i0 (.agg #[.int .i64 0, .int .i64 0, .int .i64 0, .slice none 0 0, .slice none 0 0]) 5 72 Tryd.underlying25 hi hz0 hz1 hz2 rfl (by omega) (.slice none 0 0) 0 [] (by rfl) (own_nil _ _ _ _) ⟨wL.heap.size, 0, none⟩ 1 1 [.int .i64 k9, .int .i64 n9, .int .i64 a9, .slice B1 q1 d1, .slice B2 0 d2] (by rfl) (by rfl) (World.news_of_block (cs := #[.int .i64 k9, .int .i64 n9, .int .i64 a9, .slice B1 q1 d1, .slice B2 0 d2]) (t := 27) (fr := (0, 0)) (heap_alloc_new wL _)) (by simp [Value.oneCell']) (by omega) (by unfold maxLen; omega) (by omega) (by have := hx2.size; have := HW4.out; simp; omega) (wL.heap.size + 1) (by simp) ?_; intro gg cap w8 hown hgrow hat hlt8))
      have HB8 : Hid (Below w.heap.size w w8) := HB4.out.trans (((Below.alloc hx2 hx2.size _).grown hgrow (by have := hx2.size; simp; omega) (fun b e => by cases e)).mono HB4.out.size)
      have HR8 := Lib.hid hown
      clear hown hgrow hat hx0 hx1 hx2 hx9 HSR HL HT
      go_wp2
      go_roundw
      case rel => exact Or.inr ⟨by go_num, HB8.out, B1, q1, d1, B2, d2, by rw [HL9.out]; exact HR8.out⟩
      case measure => simp [intOf]
    · obtain ⟨B1, q1, d1, B2, d2, hr⟩ := hrow
      have HF : Hid (∃ (v : Value) (A1 : Option Addr) (p1 c1 : Nat) (A2 : Option Addr) (c2 : Nat), Ending.returned u5 = Ending.returned v ∧ wr.ownsRow w.heap.size 27 5 v 1 (leafV o k num pos A1 p1 c1 A2 c2).toList ∧ Below w.heap.size w wr) := ⟨_, B1, q1, d1, B2, d2, rfl, hr, hb⟩
      clear hb hr
      go_wp2
      go_ret
      exact HF.out
set_option maxRecDepth 100000 in
theorem enter_cone (vs : Array Value) (w : World) : (callFunc 51 vs).run Tryd.prog w = .ok (.enter 51 vs) w := by go_simp
set_option maxRecDepth 100000 in
theorem enter_cstart (vs : Array Value) (w : World) : (callFunc 50 vs).run Tryd.prog w = .ok (.enter 50 vs) w := by go_simp
set_option maxRecDepth 100000 in
set_option maxHeartbeats 4000000 in
theorem cone_leaf {W : World} {B : Nat} {ds : List Dc} {ns : List Int} {Ad : Option Addr} {nd cd : Nat} {Aa : Option Addr} {na : Nat} (ca m : Nat) (h : CyOver W B ds ns Ad nd cd Aa na) (hB : B ≤ W.heap.size) (hB0 : 0 < B) (hK : KindsAt W) (hm : CyAt W m) (hmB : m < B) (k num pos : Int) (lv : List (List (Int × Int))) (hf : (Tm.mk k num pos lv []).fit) (A1 : Option Addr) (p1 c1 : Nat) (A2 : Option Addr) (c2 : Nat) (hv : TmAt W B (.mk k num pos lv []) (.agg #[.int .i64 k, .int .i64 num, .int .i64 pos, .slice A1 p1 c1, .slice A2 0 c2])) (w : World) (hw : Below B W w) :
    Calls Tryd.prog 51 #[CarV Ad nd cd Aa na ca m, .agg #[.int .i64 k, .int .i64 num, .int .i64 pos, .slice A1 p1 c1, .slice A2 0 c2]] w (fun e w' => ∃ (A1 : Option Addr) (p1 c1 : Nat) (A2 : Option Addr) (c2 : Nat), e = .returned (.agg (leafV (cyO ds ns k num pos) k num pos A1 p1 c1 A2 c2)) ∧ Below w.heap.size w w') := by
  obtain ⟨w1, hw1⟩ : ∃ x, ((w.alloc (.cells #[.slice Ad nd cd, .slice Aa na ca, .map (some m)] 99)).alloc (.cells #[.int .i64 k, .int .i64 num, .int .i64 pos, .slice A1 p1 c1, .slice A2 0 c2] 27)).alloc (.cells zeroTm 27) = x := ⟨_, rfl⟩
  have hb1 : Below w.heap.size w w1 := by rw [← hw1]; exact (((Below.refl _ _).alloc (Nat.le_refl _) _).alloc (by simp) _).alloc (by simp; omega) _
  have hs1 : w1.heap.size = w.heap.size + 3 := by rw [← hw1]; simp
  obtain ⟨z1, z2, _⟩ := two_allocs w (.cells #[.slice Ad nd cd, .slice Aa na ca, .map (some m)] 99) (.cells #[.int .i64 k, .int .i64 num, .int .i64 pos, .slice A1 p1 c1, .slice A2 0 c2] 27)
  have x0 : w1.heap[w.heap.size]? = some (.cells #[.slice Ad nd cd, .slice Aa na ca, .map (some m)] 99 (0, 0)) := by rw [← hw1, Below.heap_alloc _ _ _ (by simp; omega)]; exact z1
  have x1 : w1.heap[w.heap.size + 1]? = some (.cells #[.int .i64 k, .int .i64 num, .int .i64 pos, .slice A1 p1 c1, .slice A2 0 c2] 27 (0, 0)) := by rw [← hw1, Below.heap_alloc _ _ _ (by simp)]; exact z2
  have x2 : w1.heap[w.heap.size + 1 + 1]? = some (.cells zeroTm 27 (0, 0)) := by
    rw [← hw1]
    have := heap_alloc_new ((w.alloc (.cells #[.slice Ad nd cd, .slice Aa na ca, .map (some m)] 99)).alloc (.cells #[.int .i64 k, .int .i64 num, .int .i64 pos, .slice A1 p1 c1, .slice A2 0 c2] 27)) (.cells zeroTm 27)
    simpa using this
  obtain ⟨w2, hw2⟩ : ∃ x, w1.alloc (.cells #[.int .i64 k, .int .i64 num, .int .i64 pos, .slice A1 p1 c1, .slice A2 0 c2] 27) = x := ⟨_, rfl⟩
  have hb2 : Below w1.heap.size w1 w2 := by rw [← hw2]; exact (Below.refl _ _).alloc (Nat.le_refl _) _
  have x3 : w2.heap[w1.heap.size]? = some (.cells #[.int .i64 k, .int .i64 num, .int .i64 pos, .slice A1 p1 c1, .slice A2 0 c2] 27 (0, 0)) := by rw [← hw2]; exact heap_alloc_new w1 _
  have hwB : B ≤ w.heap.size := Nat.le_trans hB hw.size
  have HB2 : Hid (Below w.heap.size w w2) := hb1.trans (hb2.mono (by omega))
  have hx2 := (hb2.block _ (heap_some_lt x2)).trans x2
  have HC := Lib.hid (cterms_leaf ca m h hB hB0 hK hm hmB k num pos lv hf A1 p1 c1 A2 c2 hv w2 (hw.trans (HB2.out.mono hwB)) _ x3)
  have HX2 := Lib.hid hx2
  have HS1 := Lib.hid hs1
  have HS2 : Hid (w1.heap.size < w2.heap.size) := heap_some_lt x3
  obtain ⟨o, ho⟩ : ∃ o, cyO ds ns k num pos = o := ⟨_, rfl⟩
  rw [ho] at HC ⊢
  have y0 := cell_of_row _ _ 0 _ _ (0, 0) x0
  have y1 := cell_of_row _ _ 1 _ _ (0, 0) x0
  have y2 := cell_of_row _ _ 2 _ _ (0, 0) x0
  have a0 := cell_of_row _ _ 0 _ _ (0, 0) x1
  have a1 := cell_of_row _ _ 1 _ _ (0, 0) x1
  have a2 := cell_of_row _ _ 2 _ _ (0, 0) x1
  have a3 := cell_of_row _ _ 3 _ _ (0, 0) x1
  have a4 := cell_of_row _ _ 4 _ _ (0, 0) x1
  unfold zeroTm at hw1
  unfold CarV at HC ⊢
  clear h hB hB0 hK hm hmB hf hv hw hb1 hs1 z1 z2 x0 x1 x2 hb2 x3 hwB hx2 ho
  go_enter Tryd.func51, Tryd.ntmps51
  go_wp2_with (fail)
  refine HC.out.mono ?_
  rintro e w3 ⟨v, B1, q1, d1, B2, d2, rfl, hrow, hb3⟩
  have HB3 : Hid (Below w.heap.size w w3) := HB2.out.trans (hb3.mono HB2.out.size)
  have hY := (hb3.block _ (heap_some_lt HX2.out)).trans HX2.out
  obtain ⟨cs, hcs⟩ : ∃ y, leafV o k num pos B1 q1 d1 B2 d2 = y := ⟨_, rfl⟩
  have hsz5 : cs.size = 5 := by rw [← hcs]; exact leafV_size ..
  have hone : cs.all (·.oneCell') = true := by rw [← hcs]; exact leafV_one ..
  rw [hcs] at hrow
  rcases hrow.2 with ⟨_, e2⟩ | ⟨gg, cap, cur, rfl, hge, hgg, _⟩
  · omega
  · have hld : (Instr.loadAt 27 (.pointer (some ⟨gg, 0, none⟩))).run Tryd.prog w3 = .ok (.agg cs) w3 :=
      run_loadAt_cells Tryd.underlying27 rfl infoT5 hsz5 fun j hj => by
        rw [Nat.zero_add]
        have := hrow.cellAt j (by omega)
        rw [this]
        simp
    have hin : Hid ((Tryd.prog.info? 27).map (·.size) = some cs.size) := by show _ = _; rw [hsz5]; exact infoT5
    have hsz : Hid (zeroTm.size = cs.size) := by show _ = _; rw [hsz5]; rfl
    have HFF : Hid (Below w.heap.size w (w3.setRow (w.heap.size + 1 + 1) cs)) := below_setRow HB3.out (by omega) _
    have Z3 := Lib.hid (setRow_heap w3 (w.heap.size + 1 + 1) _ cs _ _ hY)
    have HONE := Lib.hid hone
    have HLD := Lib.hid hld
    have HCS := Lib.hid hcs
    clear hrow hb3 hcs hone hld hsz5 y0 y1 y2 a0 a1 a2 a3 a4 hw1 hw2 HC hge hgg
    have ij0 : (0 : Int) < (1 : Int) := by decide
    go_wp2_with (first | (refine wpList_load_at rfl 27 (.tmp 9) rfl (.pointer (some ⟨gg, 0, none⟩)) _ rfl HLD.out ?_) | (refine wpList_store_row rfl 27 (.tmp 4) (.tmp 10) rfl (w.heap.size + 1 + 1) cs rfl rfl 27 zeroTm hY hin.out hsz.out HONE.out ?_) | fail)
    exact bodyPost_ret (v := .agg cs) (results_cell_row rfl _ _ (w.heap.size + 1 + 1) 27 cs (0, 0) _ rfl Z3.out Tryd.underlying27 rfl hin.out) rfl ⟨B1, q1, d1, B2, d2, by rw [HCS.out], HFF.out⟩
end Go.Proofs.YtfgnnbpbbnnnhaaDoor
namespace Go.Proofs.YtfgnnbpbbnnnhaaDoor
open Go.RowKit Go.Maps
set_option maxRecDepth 100000 in
set_option maxHeartbeats 4000000 in
theorem carryT_leaf {ds : List Dc} {ns : List Int} {Ad : Option Addr} {nd cd : Nat} {Aa : Option Addr} {na : Nat} (ca : Nat) (w : World) (h : CyOver w w.heap.size ds ns Ad nd cd Aa na) (h0 : 0 < w.heap.size) (hK : KindsAt w) (k num pos : Int) (lv : List (List (Int × Int))) (hf : (Tm.mk k num pos lv []).fit) (A1 : Option Addr) (p1 c1 : Nat) (A2 : Option Addr) (c2 : Nat) (hv : TmAt w w.heap.size (.mk k num pos lv []) (.agg #[.int .i64 k, .int .i64 num, .int .i64 pos, .slice A1 p1 c1, .slice A2 0 c2])) :
    Calls Tryd.prog 22 #[.slice Ad nd cd, .slice Aa na ca, .agg #[.int .i64 k, .int .i64 num, .int .i64 pos, .slice A1 p1 c1, .slice A2 0 c2]] w (fun e w' => ∃ (A1 : Option Addr) (p1 c1 : Nat) (A2 : Option Addr) (c2 : Nat), e = .returned (.agg (leafV (cyO ds ns k num pos) k num pos A1 p1 c1 A2 c2)) ∧ Below w.heap.size w w') := by
  obtain ⟨z1, z2, _⟩ := two_allocs w (.cells #[.int .i64 k, .int .i64 num, .int .i64 pos, .slice A1 p1 c1, .slice A2 0 c2] 27) (.cells zeroTm 27)
  obtain ⟨w1, hw1⟩ : ∃ x, (w.alloc (.cells #[.int .i64 k, .int .i64 num, .int .i64 pos, .slice A1 p1 c1, .slice A2 0 c2] 27)).alloc (.cells zeroTm 27) = x := ⟨_, rfl⟩
  have hb1 : Below w.heap.size w w1 := by rw [← hw1]; exact ((Below.refl _ _).alloc (Nat.le_refl _) _).alloc (by simp) _
  have hs1 : w1.heap.size = w.heap.size + 2 := by rw [← hw1]; simp
  rw [hw1] at z1 z2
  obtain ⟨o, ho⟩ : ∃ o, cyO ds ns k num pos = o := ⟨_, rfl⟩
  have HO : Hid (∀ w' m, Below w1.heap.size w1 w' → m < w'.heap.size → CyAt w' m → Calls Tryd.prog 51 #[CarV Ad nd cd Aa na ca m, .agg #[.int .i64 k, .int .i64 num, .int .i64 pos, .slice A1 p1 c1, .slice A2 0 c2]] w' (fun e w9 => ∃ (A1 : Option Addr) (p1 c1 : Nat) (A2 : Option Addr) (c2 : Nat), e = .returned (.agg (leafV o k num pos A1 p1 c1 A2 c2)) ∧ Below w'.heap.size w' w9)) := fun w' m hx hm ha => by
    have hb := hb1.trans (hx.mono hb1.size)
    rw [← ho]
    exact cone_leaf ca m (h.below hb hb.size) (Nat.le_refl _) (by have := hb.size; omega) (hK.below hb h0) ha hm k num pos lv hf A1 p1 c1 A2 c2 (hv.below hb hb.size) w' (Below.refl _ _)
  rw [ho]
  have HB1 := Lib.hid hb1
  have HS1 := Lib.hid hs1
  have x1 := z1
  have X2 := Lib.hid z2
  have l1 := heap_some_lt z1
  unfold zeroTm at hw1
  clear h h0 hK hf hv hb1 hs1 ho z1 z2
  go_enter Tryd.func22, Tryd.ntmps22
  go_upto_region 1 with (fail)
  have hS : Below w1.heap.size w1 w1.drew := (Below.refl _ _).drew
  refine wp_region_tail 5 (fun w' => Below w1.heap.size w1 w') (fun w1 w2 : World => Below w1.heap.size w1 w2) [(fun (x : Value) (_ : World) => x = (.slice Ad nd cd : Value)), (fun (x : Value) (_ : World) => x = (.slice Aa na ca : Value)), (fun (x : Value) (w : World) => ∃ m, x = CarV Ad nd cd Aa na ca m ∧ m < w.heap.size ∧ CyAt w m), (fun (x : Value) (_ : World) => x = (.agg #[.int .i64 k, .int .i64 num, .int .i64 pos, .slice A1 p1 c1, .slice A2 0 c2] : Value)), (fun (x : Value) (w : World) => ∃ (A1 : Option Addr) (p1 c1 : Nat) (A2 : Option Addr) (c2 : Nat), x = .agg (leafV o k num pos A1 p1 c1 A2 c2))] [⟨some 7, .move (.tmp 0), none, []⟩, ⟨some 8, .move (.tmp 1), none, []⟩, ⟨some 9, .call { callee := .value (.func 50), args := #[.tmp 7, .tmp 8], argTypes := #[22, 54] }, none, [(7, 0), (8, 1)]⟩, ⟨some 10, .load 27 (.tmp 5), none, []⟩, ⟨some 11, .call { callee := .value (.func 51), args := #[.tmp 9, .tmp 10], argTypes := #[99, 27] }, none, [(9, 2), (10, 3)]⟩] [some 7, some 8, some 9, some 10, some 11] [] [] (by kernel_rfl) (by kernel_rfl) (by kernel_rfl) (by kernel_rfl) (by kernel_rfl) (by kernel_rfl) (by kernel_rfl) (by kernel_rfl) ?hrun ?hold ?hS ?hmono ?hsteps ?hfin
  case hrun => exact fun p hp => by cases hp
  case hold => exact fun p hp => by cases hp
  case hS => exact hS
  case hmono =>
    refine MonoL.cons (fun x w1 w2 _ _ _ hx => hx) ?_
    refine MonoL.cons (fun x w1 w2 _ _ _ hx => hx) ?_
    refine MonoL.cons (fun x w1 w2 _ _ hR hx => ?_) ?_
    · obtain ⟨m, q1, q2, q3⟩ := hx; exact ⟨m, q1, Nat.lt_of_lt_of_le q2 hR.size, q3.below hR q2⟩
    refine MonoL.cons (fun x w1 w2 _ _ _ hx => hx) ?_
    refine MonoL.cons (fun x w1 w2 _ _ hR hx => ?_) ?_
    · exact hx
    exact MonoL.nil
  case hsteps =>
    refine StepsT.cons (fun (x : Value) (_ : World) => x = (.slice Ad nd cd : Value)) [] rfl rfl (fun oq hop _ wq hQS => ?_) ?_
    · exact StepFrom.move hop (v := (.slice Ad nd cd : Value)) (by kernel_rfl) (by kernel_rfl) hQS (Below.refl _ _) rfl
    refine StepsT.cons (fun (x : Value) (_ : World) => x = (.slice Aa na ca : Value)) [] rfl rfl (fun oq hop _ wq hQS => ?_) ?_
    · exact StepFrom.move hop (v := (.slice Aa na ca : Value)) (by kernel_rfl) (by kernel_rfl) hQS (Below.refl _ _) rfl
    refine StepsT.cons (fun (x : Value) (w : World) => ∃ m, x = CarV Ad nd cd Aa na ca m ∧ m < w.heap.size ∧ CyAt w m) [(7, (fun (x : Value) (_ : World) => x = (.slice Ad nd cd : Value))), (8, (fun (x : Value) (_ : World) => x = (.slice Aa na ca : Value)))] rfl rfl (fun oq hop _ wq hQS => ?_) ?_
    · refine StepFrom.more_eq ((.slice Ad nd cd : Value)) ?_
      refine StepFrom.more_eq ((.slice Aa na ca : Value)) ?_
      exact StepFrom.call hop (vs := [(.slice Ad nd cd : Value), (.slice Aa na ca : Value)]) (by kernel_rfl) (fun w => enter_cstart _ w) (by kernel_rfl) ((cstart_any Ad nd cd Aa na ca wq).mono fun e w9 h9 => by obtain ⟨m, q1, _, q3, q4, q5⟩ := h9; exact ⟨_, q1, hQS.trans (q5.mono hQS.size), q5, m, rfl, q3, q4⟩)
    refine StepsT.cons (fun (x : Value) (_ : World) => x = (.agg #[.int .i64 k, .int .i64 num, .int .i64 pos, .slice A1 p1 c1, .slice A2 0 c2] : Value)) [] rfl rfl (fun oq hop _ wq hQS => ?_) ?_
    · exact StepFrom.load hop (p := (.pointer (some ⟨w.heap.size, 0, none⟩) : Value)) (by kernel_rfl) (load_tmrow (h := (hQS.block _ l1).trans x1)) (by kernel_rfl) hQS (Below.refl _ _) rfl
    refine StepsT.cons (fun (x : Value) (w : World) => ∃ (A1 : Option Addr) (p1 c1 : Nat) (A2 : Option Addr) (c2 : Nat), x = .agg (leafV o k num pos A1 p1 c1 A2 c2)) [(9, (fun (x : Value) (w : World) => ∃ m, x = CarV Ad nd cd Aa na ca m ∧ m < w.heap.size ∧ CyAt w m)), (10, (fun (x : Value) (_ : World) => x = (.agg #[.int .i64 k, .int .i64 num, .int .i64 pos, .slice A1 p1 c1, .slice A2 0 c2] : Value)))] rfl rfl (fun oq hop _ wq hQS => ?_) ?_
    · refine StepFrom.more fun x9 h9 => ?_
      obtain ⟨m9, rfl, hm9, ha9⟩ := h9
      refine StepFrom.more_eq ((.agg #[.int .i64 k, .int .i64 num, .int .i64 pos, .slice A1 p1 c1, .slice A2 0 c2] : Value)) ?_
      exact StepFrom.call hop (vs := [(CarV Ad nd cd Aa na ca m9 : Value), (.agg #[.int .i64 k, .int .i64 num, .int .i64 pos, .slice A1 p1 c1, .slice A2 0 c2] : Value)]) (by kernel_rfl) (fun w => enter_cone _ w) (by kernel_rfl) ((HO.out wq m9 hQS hm9 ha9).mono fun e w9 h9 => by obtain ⟨A1, p1, c1, A2, c2, q1, q2⟩ := h9; exact ⟨_, q1, hQS.trans (q2.mono hQS.size), q2, A1, p1, c1, A2, c2, rfl⟩)
    exact StepsT.nil
  case hfin =>
    intro wf hFS
    refine FinalFrom.more fun x7 h7 => ?_
    refine FinalFrom.more fun x8 h8 => ?_
    refine FinalFrom.more fun x9 h9 => ?_
    refine FinalFrom.more fun x10 h10 => ?_
    refine FinalFrom.more fun x11 h11 => ?_
    refine FinalFrom.done ?_
    intro _
    obtain ⟨B1, q1, d1, B2, d2, rfl⟩ := h11
    obtain ⟨cs, hcs⟩ : ∃ y, leafV o k num pos B1 q1 d1 B2 d2 = y := ⟨_, rfl⟩
    have hsz5 : cs.size = 5 := by rw [← hcs]; exact leafV_size ..
    have hone : cs.all (·.oneCell') = true := by rw [← hcs]; exact leafV_one ..
    rw [hcs]
    have hY := (hFS.block _ (heap_some_lt X2.out)).trans X2.out
    have hin : Hid ((Tryd.prog.info? 27).map (·.size) = some cs.size) := by show _ = _; rw [hsz5]; exact infoT5
    have hsz : Hid (zeroTm.size = cs.size) := by show _ = _; rw [hsz5]; rfl
    have HFF : Hid (Below w.heap.size w (wf.setRow (w.heap.size + 1) cs)) := below_setRow (HB1.out.trans (hFS.mono HB1.out.size)) (by omega) _
    have Z3 := Lib.hid (setRow_heap wf (w.heap.size + 1) _ cs _ _ hY)
    have HCS := Lib.hid hcs
    simp only [Act.put, List.setIfInBounds_toArray, List.set_cons_zero, List.set_cons_succ, List.drop_succ_cons, List.drop_zero]
    refine wpList_store_row rfl 27 (.tmp 6) (.tmp 11) rfl (w.heap.size + 1) cs rfl rfl 27 zeroTm hY hin.out hsz.out hone ?_
    clear hS hFS hY hcs hone hsz5 h7 h8 h9 h10
    go_wp2
    exact bodyPost_ret (v := .agg cs) (results_cell_row rfl _ _ (w.heap.size + 1) 27 cs (0, 0) _ rfl Z3.out Tryd.underlying27 rfl hin.out) rfl ⟨B1, q1, d1, B2, d2, by rw [HCS.out], HFF.out⟩
end Go.Proofs.YtfgnnbpbbnnnhaaDoor
namespace Go.Proofs.YtfgnnbpbbnnnhaaDoor
open Go.RowKit Go.Maps
/-- how many constants declarations have -/
def cntSum : List Dc → Nat
  | [] => 0
  | d :: ds => d.cnt + cntSum ds
theorem cntSum_take : ∀ (ds : List Dc) (k : Nat) (d : Dc), ds[k]? = some d → cntSum (ds.take (k + 1)) = cntSum (ds.take k) + d.cnt
  | [], k, d, h => by simp at h
  | e :: ds, 0, d, h => by
    injection h with h
    subst h
    simp [cntSum]
  | e :: ds, k + 1, d, h => by
    have := cntSum_take ds k d (by simpa using h)
    rw [List.take_succ_cons, List.take_succ_cons]
    simp only [cntSum, this]
    omega
theorem cntSum_le : ∀ (ds : List Dc) (k : Nat), cntSum (ds.take k) ≤ cntSum ds
  | [], k => by simp [cntSum]
  | d :: ds, 0 => by simp [cntSum]
  | d :: ds, k + 1 => by
    have := cntSum_le ds k
    rw [List.take_succ_cons]
    simp only [cntSum]
    omega
/-- where the constants of the first k begin -/
def cyB (ds : List Dc) (k : Nat) : List Int := (List.range k).map fun i => (cntSum (ds.take i) : Int)
theorem cyB_succ (ds : List Dc) (k : Nat) : cyB ds (k + 1) = cyB ds k ++ [(cntSum (ds.take k) : Int)] := by
  unfold cyB
  rw [List.range_succ, List.map_append]
  rfl
theorem cyB_length (ds : List Dc) (k : Nat) : (cyB ds k).length = k := by simp [cyB]
theorem cyB_get {ds : List Dc} {k i : Nat} (h : i < k) : (cyB ds k)[i]? = some (cntSum (ds.take i) : Int) := by
  unfold cyB
  simp [h]
def intV9 (x : Int) : Value := .int .i64 x
theorem infoI9 : (Tryd.prog.info? 3).map (fun i => (i.zero, i.size, i.bytes)) = some (some (.int .i64 0), 1, 8) := by kernel_rfl
theorem ints_of_own9 {w : World} {base n : Nat} {v : Value} {ns : List Int} (h : w.ownsRow base 3 1 v n (ns.map intV9)) (hn : ns.length = n) : ∃ A c, v = .slice A n c ∧ (A = none → c = 0) ∧ Ints w w.heap.size A ns := by
  rcases h.2 with ⟨rfl, rfl⟩ | ⟨g, cap, cur, rfl, hb, hg, h1, h2, h3, h4⟩
  · exact ⟨none, 0, rfl, fun _ => rfl, fun h => by omega⟩
  · refine ⟨_, _, rfl, fun h => (by cases h), fun h0 => ⟨g, 0, rfl, heap_some_lt hg, fun j hj => ?_⟩⟩
    rw [Nat.zero_add, cell_of_row w g j cur _ (0, 0) hg]
    have h5 : (cur.toList.take (n * 1))[j]? = (ns.map intV9)[j]? := by rw [h4]
    rw [List.getElem?_take, if_pos (by omega), Array.getElem?_toList, List.getElem?_map, List.getElem?_eq_getElem hj] at h5
    rw [h5, List.getD_eq_getElem?_getD, List.getElem?_eq_getElem hj]
    rfl
theorem own9_below {w w' : World} {B : Nat} {e : TypeId} {s : Nat} {v : Value} {n : Nat} {xs : List Value} (h : w.ownsRow B e s v n xs) (hb : Below w.heap.size w w') : w'.ownsRow B e s v n xs :=
  h.kept ⟨hb.os, hb.tape, hb.output, hb.size, fun k hk _ => hb.block k hk⟩ (row := none) (by cases v.ownBlock <;> simp)
set_option maxRecDepth 100000 in
set_option maxHeartbeats 4000000 in
theorem carryAt_any (ds : List Dc) (Ad : Option Addr) (nd cd : Nat) (w : World) (hd : Dcs w w.heap.size Ad cd ds) (hnd : ds.length = nd) (hn9 : nd ≤ 1048576) (hsm : ∀ d ∈ ds, d.mems.length ≤ 1048576 ∧ d.ctors.length ≤ 1048576) (hsum : cntSum ds ≤ 1099511627776) :
    Calls Tryd.prog 21 #[.slice Ad nd cd] w (fun e w' => ∃ v, e = .returned v ∧ w'.ownsRow w.heap.size 3 1 v nd ((cyB ds nd).map intV9) ∧ Below w.heap.size w w') := by
  obtain ⟨i0, hi, hz0, hz1, hz2⟩ := info_parts infoI9
  have HD := Lib.hid hd
  have HND := Lib.hid hnd
  have HSM := Lib.hid hsm
  have HSUM := Lib.hid hsum
  clear hd hnd hsm hsum
  go_enter Tryd.func21, Tryd.ntmps21
  go_wp2_with (fail)
  go_loopw [3, 4, 9] (fun u s i wr => ∃ k : Nat, k ≤ nd ∧ i = .int .i64 (k : Int) ∧ s = .int .i64 (cntSum (ds.take k) : Int) ∧ Below w.heap.size w wr ∧ wr.ownsRow w.heap.size 3 1 u k ((cyB ds k).map intV9)) (fun _ _ i _ => nd - (intOf i).toNat)
  case atStart => exact ⟨0, Nat.zero_le _, rfl, rfl, Below.refl _ _, own_nil _ _ _ _⟩
  case round =>
    obtain ⟨k, hk, rfl, rfl, hb, hrow⟩ := hrel
    obtain ⟨Av, nv, cv, rfl⟩ := own_slice hrow
    have hbz := hb.size
    by_cases hlt : k < nd
    · obtain ⟨d, hdk⟩ : ∃ d, ds[k]? = some d := ⟨_, List.getElem?_eq_getElem (by rw [HND.out]; exact hlt)⟩
      obtain ⟨b, o, cs, rfl, hbB, hdc, hce, hld⟩ := HD.out.get hdk
      have hld1 := hld wr hb
      obtain ⟨hm9, hc9⟩ := HSM.out d (List.mem_of_getElem? hdk)
      have hct := cntSum_take ds k d hdk
      have hle1 := cntSum_le ds (k + 1)
      have hsum9 := HSUM.out
      obtain ⟨w3, hw3⟩ : ∃ x, wr.alloc (.cells cs 43) = x := ⟨_, rfl⟩
      have hb3 : Below wr.heap.size wr w3 := by rw [← hw3]; exact (Below.refl _ _).alloc (Nat.le_refl _) _
      have x3 : w3.heap[wr.heap.size]? = some (.cells cs 43 (0, 0)) := by rw [← hw3]; exact heap_alloc_new wr _
      have hz2' := heap_alloc_new wr (.cells zeroDc 43)
      have hsz : Hid (zeroDc.size = cs.size) := by show _ = _; rw [hdc.size]; rfl
      have hin : Hid ((Tryd.prog.info? 43).map (·.size) = some cs.size) := by show _ = _; rw [hdc.size]; exact infoDc
      have hall := Lib.hid hdc.one
      have hda := Lib.hid (dc_alloc wr cs)
      obtain ⟨s, hs⟩ : ∃ s, cntSum (ds.take k) = s := ⟨_, rfl⟩
      have HS := Lib.hid hs
      have HOWN3 := Lib.hid (own9_below hrow hb3)
      have HLT : Hid (∀ b, (Value.slice Av nv cv).ownBlock = some b → b < wr.heap.size) := fun b e => (hrow.lt b e).2
      have hs9 : s ≤ 1099511627776 := by omega
      have HB3 : Hid (Below w.heap.size w w3) := hb.trans (hb3.mono hbz)
      have HX3 := Lib.hid x3
      obtain ⟨cn, hcn⟩ : ∃ c, d.cnt = c := ⟨_, rfl⟩
      have HCN := Lib.hid hct
      have hcs9 : s + cn ≤ 1099511627776 := by omega
      have HCT : Hid (∀ w', Calls Tryd.prog 28 #[.agg cs] w' (fun e w9 => e = .returned (.int .i64 (cn : Int)) ∧ Below w'.heap.size w' w9)) := fun w' => by rw [← hcn]; exact count_any d cs _ w' w hdc hm9 hc9
      have HCNT := Lib.hid hcn
      rw [hs]
      have ij0 : (0 : Int) ≤ (k : Int) := by omega
      have ij1 : (k : Int) < (nd : Int) := by omega
      have ws : IntKind.i64.wrap ((s : Int) + (cn : Int)) = ((s + cn : Nat) : Int) := by rw [IntWalk.i64_in _ (by omega)]; omega
      clear hdk hdc hce hld hb hrow hb3 x3 hct hle1 hsum9 hs hcn hm9 hc9
      unfold zeroDc at hz2' hda
      go_wp2_with (first | (refine wpList_load_at rfl 43 (.tmp 11) rfl (.pointer (some ⟨b, o + k * 16, none⟩)) _ rfl hld1 ?_) | (refine wpList_store_row rfl 43 (.tmp 6) (.tmp 12) rfl wr.heap.size cs rfl rfl 43 zeroDc hz2' hin.out hsz.out hall.out ?_; rw [hda.out, hw3]) | (at_builtin; refine wpList_append_own_at _ rfl _ _ 54 rfl w.heap.size 3 i0 (.int .i64 0) 1 8 Tryd.underlying54 hi hz0 hz1 hz2 rfl (by decide) _ k _ rfl (HOWN3.out.alloc _) ⟨w3.heap.size, 0, none⟩ 1 1 [.int .i64 (s : Int)] rfl rfl (cell_one_new _ _ _) (by simp [Value.oneCell']) ?c1 ?c2 ?c3 ?_) | fail)
      case c1 => unfold maxLen; omega
      case c2 => omega
      case c3 => have := HB3.out.size; simp; omega
      intro v' w4 hown4 hgrow4 _ hloc4
      have hx4 := (hgrow4.block wr.heap.size (by have := heap_some_lt HX3.out; simp; omega) (fun e => by have := HLT.out _ e.symm; omega)).trans ((Below.heap_alloc w3 (.cells #[.int .i64 (s : Int)] 3) wr.heap.size (heap_some_lt HX3.out)).trans HX3.out)
      have HB4 : Hid (Below w.heap.size w w4) := (HB3.out.alloc HB3.out.size _).grown hgrow4 (by have := HB3.out.size; simp; omega) (fun b e => (HOWN3.out.lt b e).1)
      have HOWN4 := Lib.hid hown4
      clear hown4 hgrow4 hloc4 hz2' hda hw3 hld1
      go_wp2_with (first | (refine wpList_load_row rfl 43 (.tmp 6) rfl wr.heap.size rfl 43 cs (0, 0) _ hx4 Tryd.underlying43 rfl hin.out ?_) | fail)
      refine (HCT.out w4).mono ?_
      rintro e w5 ⟨rfl, hb5⟩
      have HB5 : Hid (Below w.heap.size w w5) := HB4.out.trans (hb5.mono HB4.out.size)
      have HR5 : Hid (w5.ownsRow w.heap.size 3 1 v' (k + 1) ((cyB ds (k + 1)).map intV9)) := by
        have h := own9_below HOWN4.out hb5
        show World.ownsRow _ _ _ _ _ _ _
        rw [cyB_succ, List.map_append, HS.out]
        exact h
      have HSS : Hid (cntSum (ds.take (k + 1)) = s + cn) := by show _ = _; rw [HCN.out, HS.out, HCNT.out]
      clear hb5 hx4 HCT
      go_wp2
      go_roundw
      case rel => exact ⟨k + 1, by omega, by go_num, by rw [HSS.out, Int.natCast_add], HB5.out, HR5.out⟩
      case measure => simp [intOf]; omega
    · obtain rfl : k = nd := by omega
      have HF : Hid (∃ v, Ending.returned (Value.slice Av nv cv) = .returned v ∧ wr.ownsRow w.heap.size 3 1 v k ((cyB ds k).map intV9) ∧ Below w.heap.size w wr) := ⟨_, rfl, hrow, hb⟩
      clear hb hrow
      go_wp2
      go_ret
      exact HF.out
end Go.Proofs.YtfgnnbpbbnnnhaaDoor
