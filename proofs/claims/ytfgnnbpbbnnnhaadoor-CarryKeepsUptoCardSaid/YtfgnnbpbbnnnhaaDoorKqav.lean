/- Laws. -/
import Derived.Test.YtfgnnbpbbnnnhaaDoorKqap
import Derived.Test.YtfgnnbpbbnnnhaaDoorKqat
import Derived.Test.YtfgnnbpbbnnnhaaDoorKqau
import Derived.Deep.RegionHeld3
namespace Go.Proofs.YtfgnnbpbbnnnhaaDoor
open Go.RowKit Go.Maps
/-- lifted by nothing, a node stays -/
theorem lift_leaf (k num pos : Int) (lv : List (List (Int × Int))) (h : Rng num) : (Tm.mk k num pos lv []).walk (liftT 0 0) 0 = .mk k num pos lv [] := by
  have hn : liftN 0 k num 0 0 = num := by
    unfold liftN
    split
    · unfold Rng at h; rw [Int.add_zero, IntWalk.i64_in _ (by omega)]
    · rfl
  rw [Tm.walk_go (tr := liftT 0 0) (n' := liftN 0 k num 0 0) (lv' := lv) rfl, hn, Tm.walkL]
set_option maxRecDepth 100000 in
theorem enter_lift9 (vs : Array Value) (w : World) : (callFunc 10 vs).run Tryd.prog w = .ok (.enter 10 vs) w := by go_simp
set_option maxRecDepth 100000 in
theorem load_tmrow {w : World} {cs : Array Value} {g : Nat} (hs : cs.size = 5 := by rfl) (h : w.heap[g]? = some (.cells cs 27 (0, 0))) : (Instr.loadAt 27 (.pointer (some ⟨g, 0, none⟩))).run Tryd.prog w = .ok (.agg cs) w :=
  run_loadAt_cells Tryd.underlying27 rfl infoT5 hs fun j _ => by rw [Nat.zero_add]; exact cell_of_row _ _ j _ _ (0, 0) h
theorem infoT9 : (Tryd.prog.info? 27).map (fun i => (i.zero, i.size, i.bytes)) = some (some (.agg #[.int .i64 0, .int .i64 0, .int .i64 0, .slice none 0 0, .slice none 0 0]), 5, 72) := by kernel_rfl
set_option maxRecDepth 100000 in
set_option maxHeartbeats 4000000 in
theorem cterms_leaf {W : World} {B : Nat} {ds : List Dc} {ns : List Int} {Ad : Option Addr} {nd cd : Nat} {Aa : Option Addr} {na : Nat} (ca m : Nat) (h : CyOver W B ds ns Ad nd cd Aa na) (hB : B ≤ W.heap.size) (hB0 : 0 < B) (hK : KindsAt W) (hm : CyAt W m) (hmB : m < B) (k num pos : Int) (lv : List (List (Int × Int))) (hf : (Tm.mk k num pos lv []).fit) (A1 : Option Addr) (p1 c1 : Nat) (A2 : Option Addr) (c2 : Nat) (hv : TmAt W B (.mk k num pos lv []) (.agg #[.int .i64 k, .int .i64 num, .int .i64 pos, .slice A1 p1 c1, .slice A2 0 c2])) (w : World) (hw : Below B W w) (g : Nat)
    (hg : w.heap[g]? = some (.cells #[.int .i64 k, .int .i64 num, .int .i64 pos, .slice A1 p1 c1, .slice A2 0 c2] 27 (0, 0))) :
    Calls Tryd.prog 81 #[CarV Ad nd cd Aa na ca m, .slice (some ⟨g, 0, none⟩) 1 1] w (fun e w' => ∃ (v : Value) (A1 : Option Addr) (p1 c1 : Nat) (A2 : Option Addr) (c2 : Nat), e = .returned v ∧ w'.ownsRow w.heap.size 27 5 v 1 (leafV (cyO ds ns k num pos) k num pos A1 p1 c1 A2 c2).toList ∧ Below w.heap.size w w') := by
  obtain ⟨i0, hi, hz0, hz1, hz2⟩ := info_parts infoT9
  obtain ⟨o, ho⟩ : ∃ o, cyO ds ns k num pos = o := ⟨_, rfl⟩
  obtain ⟨k9, n9, a9, hl9⟩ : ∃ k9 n9 a9, ∀ (A1 : Option Addr) (p1 c1 : Nat) (A2 : Option Addr) (c2 : Nat), leafV o k num pos A1 p1 c1 A2 c2 = #[.int .i64 k9, .int .i64 n9, .int .i64 a9, .slice A1 p1 c1, .slice A2 0 c2] := by
    cases o
    · exact ⟨_, _, _, fun _ _ _ _ _ => rfl⟩
    · exact ⟨_, _, _, fun _ _ _ _ _ => rfl⟩
  have HL9 := Lib.hid hl9
  have hwB : B ≤ w.heap.size := Nat.le_trans hB hw.size
  have HL0 : Hid (∀ w', Below w.heap.size w w' → Calls Tryd.prog 10 #[.agg #[.int .i64 k, .int .i64 num, .int .i64 pos, .slice A1 p1 c1, .slice A2 0 c2], .int .i64 0, .int .i64 0] w' (fun e w9 => ∃ (A1 : Option Addr) (p1 c1 : Nat) (A2 : Option Addr) (c2 : Nat), e = .returned (.agg #[.int .i64 k, .int .i64 num, .int .i64 pos, .slice A1 p1 c1, .slice A2 0 c2]) ∧ Below w'.heap.size w' w9)) := fun w' hx => by
    have hbx : Below B W w' := hw.trans (hx.mono hwB)
    refine (lift_any _ hf _ w' 0 0 (by rw [Tm.size_mk]; simp [Tm.sizeL]) (hK.below hbx hB0) (hv.below hbx (Nat.le_trans hB hbx.size))).mono ?_
    rintro e w9 ⟨v, rfl, hv9, hb9⟩
    rw [lift_leaf k num pos lv ((Tm.fit_mk ..).1 hf).1] at hv9
    obtain ⟨Al, cl, Ak, ck, e9, _⟩ := (hv9.tmAt).open
    exact ⟨Al, _, cl, Ak, ck, by rw [e9]; rfl, hb9⟩
  have HT0 : Hid (∀ w' (A1 : Option Addr) (p1 c1 : Nat) (A2 : Option Addr) (c2 : Nat), Below w.heap.size w w' → Calls Tryd.prog 107 #[.agg #[.slice Ad nd cd, .slice Aa na ca, .map (some m)], .agg #[.int .i64 k, .int .i64 num, .int .i64 pos, .slice A1 p1 c1, .slice A2 0 c2]] w' (fun e w9 => e = .returned (.agg #[.int .i64 k9, .int .i64 n9, .int .i64 a9, .slice A1 p1 c1, .slice A2 0 c2]) ∧ Below w'.heap.size w' w9)) := fun w' A1 p1 c1 A2 c2 hx => by
    rw [← hl9, ← ho]
    exact cterm_leaf ca m h hB hm hmB k num pos A1 p1 c1 A2 c2 w' (hw.trans (hx.mono hwB))
  rw [ho]
  obtain ⟨w1, hw1⟩ : ∃ x, w.alloc (.cells #[.slice Ad nd cd, .slice Aa na ca, .map (some m)] 99) = x := ⟨_, rfl⟩
  have hb1 : Below w.heap.size w w1 := by rw [← hw1]; exact (Below.refl _ _).alloc (Nat.le_refl _) _
  have hs1 : w1.heap.size = w.heap.size + 1 := by rw [← hw1]; simp
  have x1 : w1.heap[w.heap.size]? = some (.cells #[.slice Ad nd cd, .slice Aa na ca, .map (some m)] 99 (0, 0)) := by rw [← hw1]; exact heap_alloc_new w _
  have gl := heap_some_lt hg
  have g1 := (hb1.block _ gl).trans hg
  have HB1 := Lib.hid hb1
  have HS1 := Lib.hid hs1
  have X1 := Lib.hid x1
  have G1 := Lib.hid g1
  unfold CarV
  clear h hB hB0 hK hm hmB hf hv hw hwB ho hb1 hs1 x1 gl g1 hg hl9
  go_enter Tryd.func81, Tryd.ntmps81
  go_wp2_with (fail)
  go_loopw [5, 10] (fun u i wr => (i = .int .i64 0 ∧ u = .slice none 0 0 ∧ wr = w1) ∨ (i = .int .i64 1 ∧ Below w.heap.size w wr ∧ ∃ (A1 : Option Addr) (p1 c1 : Nat) (A2 : Option Addr) (c2 : Nat), wr.ownsRow w.heap.size 27 5 u 1 (leafV o k num pos A1 p1 c1 A2 c2).toList)) (fun _ i _ => 1 - (intOf i).toNat)
  case atStart => exact Or.inl ⟨rfl, rfl, rfl⟩
  case round =>
    rcases hrel with ⟨rfl, rfl, rfl⟩ | ⟨rfl, hb, hrow⟩
    · obtain ⟨w4, hw4⟩ : ∃ y, wr.alloc (.cells #[.int .i64 k, .int .i64 num, .int .i64 pos, .slice A1 p1 c1, .slice A2 0 c2] 27) = y := ⟨_, rfl⟩
      have hb4 : Below wr.heap.size wr w4 := by rw [← hw4]; exact (Below.refl _ _).alloc (Nat.le_refl _) _
      have x4 : w4.heap[wr.heap.size]? = some (.cells #[.int .i64 k, .int .i64 num, .int .i64 pos, .slice A1 p1 c1, .slice A2 0 c2] 27 (0, 0)) := by rw [← hw4]; exact heap_alloc_new wr _
      have HX0 := Lib.hid ((hb4.block _ (heap_some_lt X1.out)).trans X1.out)
      have HX4 := Lib.hid x4
      have HB4 : Hid (Below w.heap.size w w4) := HB1.out.trans (hb4.mono HB1.out.size)
      have hz := heap_alloc_new wr (.cells zeroTm 27)
      have hda : Hid ((wr.alloc (.cells zeroTm 27)).setRow wr.heap.size #[.int .i64 k, .int .i64 num, .int .i64 pos, .slice A1 p1 c1, .slice A2 0 c2] = wr.alloc (.cells #[.int .i64 k, .int .i64 num, .int .i64 pos, .slice A1 p1 c1, .slice A2 0 c2] 27)) := World.setRow_alloc_new _ _ _ _
      have hg := G1.out
      have HL : Hid (∀ w', Below w4.heap.size w4 w' → Calls Tryd.prog 10 #[.agg #[.int .i64 k, .int .i64 num, .int .i64 pos, .slice A1 p1 c1, .slice A2 0 c2], .int .i64 0, .int .i64 0] w' (fun e w9 => ∃ (A1 : Option Addr) (p1 c1 : Nat) (A2 : Option Addr) (c2 : Nat), e = .returned (.agg #[.int .i64 k, .int .i64 num, .int .i64 pos, .slice A1 p1 c1, .slice A2 0 c2]) ∧ Below w'.heap.size w' w9)) := fun w' hx => HL0.out w' (HB4.out.trans (hx.mono HB4.out.size))
      have HT : Hid (∀ w' (A1 : Option Addr) (p1 c1 : Nat) (A2 : Option Addr) (c2 : Nat), Below w4.heap.size w4 w' → Calls Tryd.prog 107 #[.agg #[.slice Ad nd cd, .slice Aa na ca, .map (some m)], .agg #[.int .i64 k, .int .i64 num, .int .i64 pos, .slice A1 p1 c1, .slice A2 0 c2]] w' (fun e w9 => e = .returned (.agg #[.int .i64 k9, .int .i64 n9, .int .i64 a9, .slice A1 p1 c1, .slice A2 0 c2]) ∧ Below w'.heap.size w' w9)) := fun w' A1 p1 c1 A2 c2 hx => HT0.out w' A1 p1 c1 A2 c2 (HB4.out.trans (hx.mono HB4.out.size))
      clear hb4 x4
      unfold zeroTm at hz hda
      go_upto_region 5 with (first | (refine wpList_load_row rfl 27 (.tmp 12) rfl g rfl 27 _ (0, 0) _ hg Tryd.underlying27 rfl infoT5 ?_) | (refine wpList_store_row rfl 27 (.tmp 7) (.tmp 13) rfl wr.heap.size #[.int .i64 k, .int .i64 num, .int .i64 pos, .slice A1 p1 c1, .slice A2 0 c2] rfl rfl 27 zeroTm hz infoT5 rfl (by simp [Value.oneCell']) ?_; rw [hda.out, hw4]) | fail)
      have HSR : Hid (∀ w', Below w4.heap.size w4 w' → w'.cell? ⟨w.heap.size, 0, none⟩ = some (.slice Ad nd cd) ∧ w'.cell? ⟨w.heap.size, 1, none⟩ = some (.slice Aa na ca) ∧ w'.cell? ⟨w.heap.size, 2, none⟩ = some (.map (some m)) ∧ w'.cell? ⟨wr.heap.size, 0, none⟩ = some (.int .i64 k) ∧ w'.cell? ⟨wr.heap.size, 1, none⟩ = some (.int .i64 num) ∧ w'.cell? ⟨wr.heap.size, 2, none⟩ = some (.int .i64 pos) ∧ w'.cell? ⟨wr.heap.size, 3, none⟩ = some (.slice A1 p1 c1) ∧ w'.cell? ⟨wr.heap.size, 4, none⟩ = some (.slice A2 0 c2)) := fun w' hx =>
        have y0 := (hx.block _ (heap_some_lt HX0.out)).trans HX0.out
        have y4 := (hx.block _ (heap_some_lt HX4.out)).trans HX4.out
        ⟨cell_of_row _ _ 0 _ _ (0, 0) y0, cell_of_row _ _ 1 _ _ (0, 0) y0, cell_of_row _ _ 2 _ _ (0, 0) y0, cell_of_row _ _ 0 _ _ (0, 0) y4, cell_of_row _ _ 1 _ _ (0, 0) y4, cell_of_row _ _ 2 _ _ (0, 0) y4, cell_of_row _ _ 3 _ _ (0, 0) y4, cell_of_row _ _ 4 _ _ (0, 0) y4⟩
      have HD : Hid (Below w4.heap.size w4 w4.drew) := (Below.refl _ _).drew
      have HW4 : Hid (w.heap.size ≤ w4.heap.size) := HB4.out.size
      clear hg hz hda hw4
      go_region_held3 (fun w' => w'.cell? ⟨w.heap.size, 0, none⟩ = some (.slice Ad nd cd) ∧ w'.cell? ⟨w.heap.size, 1, none⟩ = some (.slice Aa na ca) ∧ w'.cell? ⟨w.heap.size, 2, none⟩ = some (.map (some m)) ∧ w'.cell? ⟨wr.heap.size, 0, none⟩ = some (.int .i64 k) ∧ w'.cell? ⟨wr.heap.size, 1, none⟩ = some (.int .i64 num) ∧ w'.cell? ⟨wr.heap.size, 2, none⟩ = some (.int .i64 pos) ∧ w'.cell? ⟨wr.heap.size, 3, none⟩ = some (.slice A1 p1 c1) ∧ w'.cell? ⟨wr.heap.size, 4, none⟩ = some (.slice A2 0 c2))
        (first
          | exact HSR.out _ HD.out
          | (apply HSR.out; assumption)
          | (apply HSR.out; apply Below.alloc; assumption; apply Below.size; assumption)
          | (apply HSR.out; exact (Below.alloc hx2 hx2.size _).grown hgrow (by have := hx2.size; simp; omega) (fun b e => by cases e)))
        (first
          | (go_at_call 10; refine (HL.out _ ?_).mono ?_; exact HD.out; rintro e wB ⟨B1, q1, d1, B2, d2, rfl, hx0⟩; have hx1 := HD.out.trans (hx0.mono HD.out.size))
          | (go_at_call 107; refine (HT.out _ _ _ _ _ _ ?_).mono ?_; exact hx1; rintro e wL ⟨rfl, hx9⟩; have hx2 := hx1.trans (hx9.mono hx1.size))
          | (refine step_append_lies _ (by rfl) _ _ 25 (by rfl) w.heap.size 27 i0 (.agg #[.int .i64 0, .int .i64 0, .int .i64 0, .slice none 0 0, .slice none 0 0]) 5 72 Tryd.underlying25 hi hz0 hz1 hz2 rfl (by omega) (.slice none 0 0) 0 [] (by rfl) (own_nil _ _ _ _) ⟨wL.heap.size, 0, none⟩ 1 1 [.int .i64 k9, .int .i64 n9, .int .i64 a9, .slice B1 q1 d1, .slice B2 0 d2] (by rfl) (by rfl) (World.news_of_block (cs := #[.int .i64 k9, .int .i64 n9, .int .i64 a9, .slice B1 q1 d1, .slice B2 0 d2]) (t := 27) (fr := (0, 0)) (heap_alloc_new wL _)) (by simp [Value.oneCell']) (by omega) (by unfold maxLen; omega) (by omega) (by have := hx2.size; have := HW4.out; simp; omega) (wL.heap.size + 1) (by simp) ?_; intro gg cap w8 hown hgrow hat hlt8))
      have HB8 : Hid (Below w.heap.size w w8) := HB4.out.trans (((Below.alloc hx2 hx2.size _).grown hgrow (by have := hx2.size; simp; omega) (fun b e => by cases e)).mono HB4.out.size)
      have HR8 := Lib.hid hown
      clear hown hgrow hat hx0 hx1 hx2 hx9 HSR HL HT
      go_wp2
      go_roundw
      case rel => exact Or.inr ⟨by go_num, HB8.out, B1, q1, d1, B2, d2, by rw [HL9.out]; exact HR8.out⟩
      case measure => simp [intOf]
    · obtain ⟨B1, q1, d1, B2, d2, hr⟩ := hrow
      have HF : Hid (∃ (v : Value) (A1 : Option Addr) (p1 c1 : Nat) (A2 : Option Addr) (c2 : Nat), Ending.returned u5 = Ending.returned v ∧ wr.ownsRow w.heap.size 27 5 v 1 (leafV o k num pos A1 p1 c1 A2 c2).toList ∧ Below w.heap.size w wr) := ⟨_, B1, q1, d1, B2, d2, rfl, hr, hb⟩
      clear hb hr
      go_wp2
      go_ret
      exact HF.out
set_option maxRecDepth 100000 in
theorem enter_cone (vs : Array Value) (w : World) : (callFunc 51 vs).run Tryd.prog w = .ok (.enter 51 vs) w := by go_simp
set_option maxRecDepth 100000 in
theorem enter_cstart (vs : Array Value) (w : World) : (callFunc 50 vs).run Tryd.prog w = .ok (.enter 50 vs) w := by go_simp
set_option maxRecDepth 100000 in
set_option maxHeartbeats 4000000 in
theorem cone_leaf {W : World} {B : Nat} {ds : List Dc} {ns : List Int} {Ad : Option Addr} {nd cd : Nat} {Aa : Option Addr} {na : Nat} (ca m : Nat) (h : CyOver W B ds ns Ad nd cd Aa na) (hB : B ≤ W.heap.size) (hB0 : 0 < B) (hK : KindsAt W) (hm : CyAt W m) (hmB : m < B) (k num pos : Int) (lv : List (List (Int × Int))) (hf : (Tm.mk k num pos lv []).fit) (A1 : Option Addr) (p1 c1 : Nat) (A2 : Option Addr) (c2 : Nat) (hv : TmAt W B (.mk k num pos lv []) (.agg #[.int .i64 k, .int .i64 num, .int .i64 pos, .slice A1 p1 c1, .slice A2 0 c2])) (w : World) (hw : Below B W w) :
    Calls Tryd.prog 51 #[CarV Ad nd cd Aa na ca m, .agg #[.int .i64 k, .int .i64 num, .int .i64 pos, .slice A1 p1 c1, .slice A2 0 c2]] w (fun e w' => ∃ (A1 : Option Addr) (p1 c1 : Nat) (A2 : Option Addr) (c2 : Nat), e = .returned (.agg (leafV (cyO ds ns k num pos) k num pos A1 p1 c1 A2 c2)) ∧ Below w.heap.size w w') := by
  obtain ⟨w1, hw1⟩ : ∃ x, ((w.alloc (.cells #[.slice Ad nd cd, .slice Aa na ca, .map (some m)] 99)).alloc (.cells #[.int .i64 k, .int .i64 num, .int .i64 pos, .slice A1 p1 c1, .slice A2 0 c2] 27)).alloc (.cells zeroTm 27) = x := ⟨_, rfl⟩
  have hb1 : Below w.heap.size w w1 := by rw [← hw1]; exact (((Below.refl _ _).alloc (Nat.le_refl _) _).alloc (by simp) _).alloc (by simp; omega) _
  have hs1 : w1.heap.size = w.heap.size + 3 := by rw [← hw1]; simp
  obtain ⟨z1, z2, _⟩ := two_allocs w (.cells #[.slice Ad nd cd, .slice Aa na ca, .map (some m)] 99) (.cells #[.int .i64 k, .int .i64 num, .int .i64 pos, .slice A1 p1 c1, .slice A2 0 c2] 27)
  have x0 : w1.heap[w.heap.size]? = some (.cells #[.slice Ad nd cd, .slice Aa na ca, .map (some m)] 99 (0, 0)) := by rw [← hw1, Below.heap_alloc _ _ _ (by simp; omega)]; exact z1
  have x1 : w1.heap[w.heap.size + 1]? = some (.cells #[.int .i64 k, .int .i64 num, .int .i64 pos, .slice A1 p1 c1, .slice A2 0 c2] 27 (0, 0)) := by rw [← hw1, Below.heap_alloc _ _ _ (by simp)]; exact z2
  have x2 : w1.heap[w.heap.size + 1 + 1]? = some (.cells zeroTm 27 (0, 0)) := by
    rw [← hw1]
    have := heap_alloc_new ((w.alloc (.cells #[.slice Ad nd cd, .slice Aa na ca, .map (some m)] 99)).alloc (.cells #[.int .i64 k, .int .i64 num, .int .i64 pos, .slice A1 p1 c1, .slice A2 0 c2] 27)) (.cells zeroTm 27)
    simpa using this
  obtain ⟨w2, hw2⟩ : ∃ x, w1.alloc (.cells #[.int .i64 k, .int .i64 num, .int .i64 pos, .slice A1 p1 c1, .slice A2 0 c2] 27) = x := ⟨_, rfl⟩
  have hb2 : Below w1.heap.size w1 w2 := by rw [← hw2]; exact (Below.refl _ _).alloc (Nat.le_refl _) _
  have x3 : w2.heap[w1.heap.size]? = some (.cells #[.int .i64 k, .int .i64 num, .int .i64 pos, .slice A1 p1 c1, .slice A2 0 c2] 27 (0, 0)) := by rw [← hw2]; exact heap_alloc_new w1 _
  have hwB : B ≤ w.heap.size := Nat.le_trans hB hw.size
  have HB2 : Hid (Below w.heap.size w w2) := hb1.trans (hb2.mono (by omega))
  have hx2 := (hb2.block _ (heap_some_lt x2)).trans x2
  have HC := Lib.hid (cterms_leaf ca m h hB hB0 hK hm hmB k num pos lv hf A1 p1 c1 A2 c2 hv w2 (hw.trans (HB2.out.mono hwB)) _ x3)
  have HX2 := Lib.hid hx2
  have HS1 := Lib.hid hs1
  have HS2 : Hid (w1.heap.size < w2.heap.size) := heap_some_lt x3
  obtain ⟨o, ho⟩ : ∃ o, cyO ds ns k num pos = o := ⟨_, rfl⟩
  rw [ho] at HC ⊢
  have y0 := cell_of_row _ _ 0 _ _ (0, 0) x0
  have y1 := cell_of_row _ _ 1 _ _ (0, 0) x0
  have y2 := cell_of_row _ _ 2 _ _ (0, 0) x0
  have a0 := cell_of_row _ _ 0 _ _ (0, 0) x1
  have a1 := cell_of_row _ _ 1 _ _ (0, 0) x1
  have a2 := cell_of_row _ _ 2 _ _ (0, 0) x1
  have a3 := cell_of_row _ _ 3 _ _ (0, 0) x1
  have a4 := cell_of_row _ _ 4 _ _ (0, 0) x1
  unfold zeroTm at hw1
  unfold CarV at HC ⊢
  clear h hB hB0 hK hm hmB hf hv hw hb1 hs1 z1 z2 x0 x1 x2 hb2 x3 hwB hx2 ho
  go_enter Tryd.func51, Tryd.ntmps51
  go_wp2_with (fail)
  refine HC.out.mono ?_
  rintro e w3 ⟨v, B1, q1, d1, B2, d2, rfl, hrow, hb3⟩
  have HB3 : Hid (Below w.heap.size w w3) := HB2.out.trans (hb3.mono HB2.out.size)
  have hY := (hb3.block _ (heap_some_lt HX2.out)).trans HX2.out
  obtain ⟨cs, hcs⟩ : ∃ y, leafV o k num pos B1 q1 d1 B2 d2 = y := ⟨_, rfl⟩
  have hsz5 : cs.size = 5 := by rw [← hcs]; exact leafV_size ..
  have hone : cs.all (·.oneCell') = true := by rw [← hcs]; exact leafV_one ..
  rw [hcs] at hrow
  rcases hrow.2 with ⟨_, e2⟩ | ⟨gg, cap, cur, rfl, hge, hgg, _⟩
  · omega
  · have hld : (Instr.loadAt 27 (.pointer (some ⟨gg, 0, none⟩))).run Tryd.prog w3 = .ok (.agg cs) w3 :=
      run_loadAt_cells Tryd.underlying27 rfl infoT5 hsz5 fun j hj => by
        rw [Nat.zero_add]
        have := hrow.cellAt j (by omega)
        rw [this]
        simp
    have hin : Hid ((Tryd.prog.info? 27).map (·.size) = some cs.size) := by show _ = _; rw [hsz5]; exact infoT5
    have hsz : Hid (zeroTm.size = cs.size) := by show _ = _; rw [hsz5]; rfl
    have HFF : Hid (Below w.heap.size w (w3.setRow (w.heap.size + 1 + 1) cs)) := below_setRow HB3.out (by omega) _
    have Z3 := Lib.hid (setRow_heap w3 (w.heap.size + 1 + 1) _ cs _ _ hY)
    have HONE := Lib.hid hone
    have HLD := Lib.hid hld
    have HCS := Lib.hid hcs
    clear hrow hb3 hcs hone hld hsz5 y0 y1 y2 a0 a1 a2 a3 a4 hw1 hw2 HC hge hgg
    have ij0 : (0 : Int) < (1 : Int) := by decide
    go_wp2_with (first | (refine wpList_load_at rfl 27 (.tmp 9) rfl (.pointer (some ⟨gg, 0, none⟩)) _ rfl HLD.out ?_) | (refine wpList_store_row rfl 27 (.tmp 4) (.tmp 10) rfl (w.heap.size + 1 + 1) cs rfl rfl 27 zeroTm hY hin.out hsz.out HONE.out ?_) | fail)
    exact bodyPost_ret (v := .agg cs) (results_cell_row rfl _ _ (w.heap.size + 1 + 1) 27 cs (0, 0) _ rfl Z3.out Tryd.underlying27 rfl hin.out) rfl ⟨B1, q1, d1, B2, d2, by rw [HCS.out], HFF.out⟩
end Go.Proofs.YtfgnnbpbbnnnhaaDoor
namespace Go.Proofs.YtfgnnbpbbnnnhaaDoor
open Go.RowKit Go.Maps
mutual
/-- a term carried over: f is the constant of a name, if there is one -/
def Tm.cy (f : Int → Int → Int → Option Int) : Tm → Tm
  | .mk k n a lv kids => match f k n a with
    | some x => .mk 3 x 0 lv (Tm.cyL f kids)
    | none => .mk k n a lv (Tm.cyL f kids)
def Tm.cyL (f : Int → Int → Int → Option Int) : List Tm → List Tm
  | [] => []
  | t :: ts => t.cy f :: Tm.cyL f ts
end
theorem Tm.cyL_map (f : Int → Int → Int → Option Int) : ∀ ts : List Tm, Tm.cyL f ts = ts.map (Tm.cy f)
  | [] => by rw [Tm.cyL]; rfl
  | t :: ts => by rw [Tm.cyL, Tm.cyL_map f ts]; rfl
theorem Tm.cy_mk (f : Int → Int → Int → Option Int) (k n a : Int) (lv : List (List (Int × Int))) (kids : List Tm) : (Tm.mk k n a lv kids).cy f = .mk (if (f k n a).isSome then 3 else k) ((f k n a).getD n) (if (f k n a).isSome then 0 else a) lv (kids.map (Tm.cy f)) := by
  rw [Tm.cy, Tm.cyL_map]
  cases f k n a <;> rfl
/-- all is as it was, but for the blocks from lo on ahead of hi, and new ones -/
structure OutIn (lo hi : Nat) (w w' : World) : Prop where
  os : w'.os = w.os
  tape : w'.tape = w.tape
  output : w'.output = w.output
  size : w.heap.size ≤ w'.heap.size
  block : ∀ k, k < w.heap.size → (k < lo ∨ hi ≤ k) → w'.heap[k]? = w.heap[k]?
theorem OutIn.refl (lo hi : Nat) (w : World) : OutIn lo hi w w := ⟨rfl, rfl, rfl, Nat.le_refl _, fun _ _ _ => rfl⟩
theorem OutIn.trans {lo hi : Nat} {w w1 w2 : World} (h : OutIn lo hi w w1) (k : OutIn lo hi w1 w2) : OutIn lo hi w w2 :=
  ⟨k.os.trans h.os, k.tape.trans h.tape, k.output.trans h.output, Nat.le_trans h.size k.size, fun j hj hk => (k.block j (by have := h.size; omega) hk).trans (h.block j hj hk)⟩
theorem OutIn.wide {lo hi lo' hi' : Nat} {w w' : World} (h : OutIn lo hi w w') (h1 : lo' ≤ lo) (h2 : hi ≤ hi') : OutIn lo' hi' w w' :=
  ⟨h.os, h.tape, h.output, h.size, fun k hk hd => h.block k hk (by omega)⟩
theorem OutIn.of_below {lo hi B : Nat} {w w' : World} (h : Below B w w') (hB : w.heap.size ≤ B) : OutIn lo hi w w' := ⟨h.os, h.tape, h.output, h.size, fun k hk _ => h.block k (by omega)⟩
theorem OutIn.below {lo hi B : Nat} {w w' : World} (h : OutIn lo hi w w') (h1 : B ≤ lo) (h2 : B ≤ w.heap.size) : Below B w w' := ⟨h.os, h.tape, h.output, h.size, fun k hk => h.block k (by omega) (Or.inl (by omega))⟩
theorem OutIn.setCell {lo hi : Nat} {w w' : World} (h : OutIn lo hi w w') {g j : Nat} (v : Value) (hg : (lo ≤ g ∧ g < hi) ∨ w.heap.size ≤ g) : OutIn lo hi w (w'.setCell ⟨g, j, none⟩ v) :=
  ⟨h.os, h.tape, h.output, by simpa [World.setCell] using h.size, fun k hk hd => (Below.heap_setCell w' _ _ _ (fun e => by have e : k = g := e; omega)).trans (h.block k hk hd)⟩
theorem OutIn.keptIn {lo hi l h' : Nat} {w w' : World} (h : OutIn lo hi w w') (h1 : h' ≤ lo ∨ hi ≤ l) (h2 : h' ≤ w.heap.size) : KeptIn l h' w w' := fun b hb hb2 => h.block b (by omega) (by omega)
/-- five cells put from one on -/
def put5 (xs : List Value) (o : Nat) (d0 d1 d2 d3 d4 : Value) : List Value := ((((xs.set o d0).set (o + 1) d1).set (o + 2) d2).set (o + 3) d3).set (o + 4) d4
theorem put5_length (xs : List Value) (o : Nat) (d0 d1 d2 d3 d4 : Value) : (put5 xs o d0 d1 d2 d3 d4).length = xs.length := by simp [put5]
theorem put5_skip (c0 c1 c2 c3 c4 : Value) (xs : List Value) (q : Nat) (d0 d1 d2 d3 d4 : Value) : put5 (c0 :: c1 :: c2 :: c3 :: c4 :: xs) ((q + 1) * 5) d0 d1 d2 d3 d4 = c0 :: c1 :: c2 :: c3 :: c4 :: put5 xs (q * 5) d0 d1 d2 d3 d4 := by
  rw [show (q + 1) * 5 = q * 5 + 1 + 1 + 1 + 1 + 1 by omega]
  unfold put5
  simp only [List.set_cons_succ, show q * 5 + 1 + 1 + 1 + 1 + 1 + 1 = (q * 5 + 1) + 1 + 1 + 1 + 1 + 1 by omega, show q * 5 + 1 + 1 + 1 + 1 + 1 + 2 = (q * 5 + 2) + 1 + 1 + 1 + 1 + 1 by omega, show q * 5 + 1 + 1 + 1 + 1 + 1 + 3 = (q * 5 + 3) + 1 + 1 + 1 + 1 + 1 by omega, show q * 5 + 1 + 1 + 1 + 1 + 1 + 4 = (q * 5 + 4) + 1 + 1 + 1 + 1 + 1 by omega]
/-- a row's term, and what the row is when it has become another -/
theorem OwnTms.part {w : World} : ∀ {ts : List Tm} {lo hi : Nat} {xs : List Value} (q : Nat) {t : Tm}, OwnTms w lo hi ts xs → ts[q]? = some t → ∃ lo' hi' c0 c1 c2 c3 c4, lo ≤ lo' ∧ lo' ≤ hi' ∧ hi' ≤ hi ∧ xs[q * 5]? = some c0 ∧ xs[q * 5 + 1]? = some c1 ∧ xs[q * 5 + 2]? = some c2 ∧ xs[q * 5 + 3]? = some c3 ∧ xs[q * 5 + 4]? = some c4 ∧ OwnTm w lo' hi' t (.agg #[c0, c1, c2, c3, c4]) ∧
    ∀ (w' : World) (t' : Tm) (d0 d1 d2 d3 d4 : Value), KeptIn lo lo' w w' → KeptIn hi' hi w w' → OwnTm w' lo' hi' t' (.agg #[d0, d1, d2, d3, d4]) → OwnTms w' lo hi (ts.set q t') (put5 xs (q * 5) d0 d1 d2 d3 d4)
  | [], _, _, _, q, t, _, hi => by simp at hi
  | s :: ts, lo, hi, xs, 0, t, h, ht => by
    unfold OwnTms at h
    obtain ⟨c0, c1, c2, c3, c4, xs', mid, rfl, h0, h1, h2⟩ := h
    simp at ht
    subst ht
    refine ⟨lo, mid, c0, c1, c2, c3, c4, Nat.le_refl _, h0, h2.le, rfl, rfl, rfl, rfl, rfl, h1, fun w' t' d0 d1 d2 d3 d4 _ k2 h3 => ?_⟩
    show OwnTms w' lo hi (t' :: ts) _
    unfold OwnTms
    exact ⟨d0, d1, d2, d3, d4, xs', mid, rfl, h0, h3, h2.kept k2⟩
  | s :: ts, lo, hi, xs, q + 1, t, h, ht => by
    unfold OwnTms at h
    obtain ⟨c0, c1, c2, c3, c4, xs', mid, rfl, h0, h1, h2⟩ := h
    obtain ⟨lo', hi', e0, e1, e2, e3, e4, a1, a2, a3, q0, q1, q2, q3, q4, q5, q6⟩ := h2.part q (by simpa using ht)
    have e : (q + 1) * 5 = q * 5 + 5 := by omega
    refine ⟨lo', hi', e0, e1, e2, e3, e4, by omega, a2, a3, ?_, ?_, ?_, ?_, ?_, q5, fun w' t' d0 d1 d2 d3 d4 k1 k2 h3 => ?_⟩
    · rw [e]; simpa using q0
    · rw [e]; simpa [Nat.add_assoc] using q1
    · rw [e]; simpa [Nat.add_assoc] using q2
    · rw [e]; simpa [Nat.add_assoc] using q3
    · rw [e]; simpa [Nat.add_assoc] using q4
    · rw [put5_skip]
      show OwnTms w' lo hi (s :: ts.set q t') _
      unfold OwnTms
      exact ⟨c0, c1, c2, c3, c4, _, mid, rfl, h0, h1.kept (k1.sub (Nat.le_refl _) a1), q6 w' t' d0 d1 d2 d3 d4 (k1.sub h0 (Nat.le_refl _)) k2 h3⟩
/-- the world with five cells stored -/
def st5 (w : World) (g o : Nat) (d0 d1 d2 d3 d4 : Value) : World := ((((w.setCell ⟨g, o, none⟩ d0).setCell ⟨g, o + 1, none⟩ d1).setCell ⟨g, o + 2, none⟩ d2).setCell ⟨g, o + 3, none⟩ d3).setCell ⟨g, o + 4, none⟩ d4
theorem st5_out {lo hi : Nat} {w w' : World} (h : OutIn lo hi w w') {g o : Nat} (d0 d1 d2 d3 d4 : Value) (hg : (lo ≤ g ∧ g < hi) ∨ w.heap.size ≤ g) : OutIn lo hi w (st5 w' g o d0 d1 d2 d3 d4) :=
  ((((h.setCell _ hg).setCell _ hg).setCell _ hg).setCell _ hg).setCell _ hg
theorem st5_kept {lo hi : Nat} {w : World} {g o : Nat} (d0 d1 d2 d3 d4 : Value) (hg : g < lo ∨ hi ≤ g) : KeptIn lo hi w (st5 w g o d0 d1 d2 d3 d4) := fun b h1 h2 => by
  have hb : b ≠ g := by omega
  unfold st5
  rw [Below.heap_setCell _ _ _ _ hb, Below.heap_setCell _ _ _ _ hb, Below.heap_setCell _ _ _ _ hb, Below.heap_setCell _ _ _ _ hb, Below.heap_setCell _ _ _ _ hb]
theorem st5_row {w : World} {g o : Nat} {cur : Array Value} {t : TypeId} (h : w.heap[g]? = some (.cells cur t (0, 0))) (d0 d1 d2 d3 d4 : Value) : (st5 w g o d0 d1 d2 d3 d4).heap[g]? = some (.cells (((((cur.setIfInBounds o d0).setIfInBounds (o + 1) d1).setIfInBounds (o + 2) d2).setIfInBounds (o + 3) d3).setIfInBounds (o + 4) d4) t (0, 0)) :=
  set_same (set_same (set_same (set_same (set_same h o d0) (o + 1) d1) (o + 2) d2) (o + 3) d3) (o + 4) d4
/-- a row of terms with one stored -/
theorem RowIn.st5 {w : World} {lo hi : Nat} {e : TypeId} {n : Nat} {v : Value} {xs : List Value} {c g : Nat} (h : RowIn w lo hi e 5 v n xs) (hv : v = .slice (some ⟨g, 0, none⟩) n c) (q : Nat) (d0 d1 d2 d3 d4 : Value) : RowIn (st5 w g (q * 5) d0 d1 d2 d3 d4) lo hi e 5 v n (put5 xs (q * 5) d0 d1 d2 d3 d4) := by
  refine ⟨h.1, h.2.1, ⟨by rw [put5_length]; exact h.2.2.1.1, ?_⟩, h.2.2.2⟩
  rcases h.2.2.1.2 with ⟨e1, _⟩ | ⟨g', cap, cur, e1, q1, q2, q3, q4, q5, q6⟩
  · rw [hv] at e1
    cases e1
  · rw [hv] at e1
    injection e1 with e1 _ e2
    injection e1 with e1
    injection e1 with e1
    subst e1 e2
    refine Or.inr ⟨g, c, _, hv, q1, st5_row q2 d0 d1 d2 d3 d4, q3, q4, by simpa using q5, ?_⟩
    simp only [Array.toList_setIfInBounds, List.take_set, q6]
    rfl
end Go.Proofs.YtfgnnbpbbnnnhaaDoor
namespace Go.Proofs.YtfgnnbpbbnnnhaaDoor
open Go.RowKit Go.Maps
/-- kids, the first so many carried over -/
def mixed (f : Int → Int → Int → Option Int) (kids : List Tm) (q : Nat) : List Tm := (kids.take q).map (Tm.cy f) ++ kids.drop q
theorem mixed_get {f : Int → Int → Int → Option Int} {kids : List Tm} {q : Nat} {t : Tm} (h : kids[q]? = some t) : (mixed f kids q)[q]? = some t := by
  have hq := (List.getElem?_eq_some_iff.1 h).1
  unfold mixed
  rw [List.getElem?_append_right (by simp; omega)]
  simp only [List.length_map, List.length_take, Nat.min_eq_left (Nat.le_of_lt hq), Nat.sub_self]
  rw [List.getElem?_drop]
  simpa using h
theorem mixed_set {f : Int → Int → Int → Option Int} {kids : List Tm} {q : Nat} {t : Tm} (h : kids[q]? = some t) : (mixed f kids q).set q (t.cy f) = mixed f kids (q + 1) := by
  obtain ⟨hq, he⟩ := List.getElem?_eq_some_iff.1 h
  unfold mixed
  rw [List.set_append_right _ _ (by simp; omega)]
  simp only [List.length_map, List.length_take, Nat.min_eq_left (Nat.le_of_lt hq), Nat.sub_self]
  rw [List.drop_eq_getElem_cons hq, List.set_cons_zero, List.take_add_one, h, List.map_append, List.append_assoc]
  rfl
theorem mixed_all {f : Int → Int → Int → Option Int} {kids : List Tm} {q : Nat} (h : kids.length ≤ q) : mixed f kids q = kids.map (Tm.cy f) := by
  unfold mixed
  rw [List.take_of_length_le h, List.drop_eq_nil_of_le h, List.append_nil]
/-- what carrier.term does with a term -/
def CyTm (W : World) (B : Nat) (ds : List Dc) (ns : List Int) (Ad : Option Addr) (nd cd : Nat) (Aa : Option Addr) (na ca m : Nat) (t : Tm) : Prop := ∀ (w : World) (lo hi : Nat) (v : Value), Below B W w → B ≤ lo → hi ≤ w.heap.size → OwnTm w lo hi t v →
  Calls Tryd.prog 107 #[CarV Ad nd cd Aa na ca m, v] w (fun e w' => ∃ v', e = .returned v' ∧ OwnTm w' lo hi (t.cy (cyO ds ns)) v' ∧ OutIn lo hi w w')
set_option maxRecDepth 100000 in
set_option maxHeartbeats 8000000 in
theorem cterm_of {W : World} {B : Nat} {ds : List Dc} {ns : List Int} {Ad : Option Addr} {nd cd : Nat} {Aa : Option Addr} {na : Nat} (ca m : Nat) (h : CyOver W B ds ns Ad nd cd Aa na) (hB : B ≤ W.heap.size) (hm : CyAt W m) (hmB : m < B)
    (k num pos : Int) (lv : List (List (Int × Int))) (kids : List Tm) (ih : ∀ t ∈ kids, CyTm W B ds ns Ad nd cd Aa na ca m t) : CyTm W B ds ns Ad nd cd Aa na ca m (.mk k num pos lv kids) := by
  intro w lo hi v hw hlo hhi hown
  obtain ⟨_, _, m1, m2, xs0, rfl, r1, ⟨A1, c1, rfl⟩, r2, r3⟩ := hown.open
  obtain ⟨A2, c2, rfl, hk9⟩ := r2.2.1
  have hl1 := r1.le
  have hl2 := r2.1
  have hl3 := r3.le
  obtain ⟨p1, hp1⟩ : ∃ p, lv.length = p := ⟨_, rfl⟩
  obtain ⟨p2, hp2⟩ : ∃ p, kids.length = p := ⟨_, rfl⟩
  rw [hp2] at r2 hk9
  rw [hp1, hp2] at hown ⊢
  have HP1 := Lib.hid hp1
  have HP2 := Lib.hid hp2
  obtain ⟨w1, hw1⟩ : ∃ x, ((w.alloc (.cells #[.slice Ad nd cd, .slice Aa na ca, .map (some m)] 99)).alloc (.cells #[.int .i64 k, .int .i64 num, .int .i64 pos, .slice A1 p1 c1, .slice A2 p2 c2] 27)).alloc (.cells zeroTm 27) = x := ⟨_, rfl⟩
  have hb1 : Below w.heap.size w w1 := by rw [← hw1]; exact (((Below.refl _ _).alloc (Nat.le_refl _) _).alloc (by simp) _).alloc (by simp; omega) _
  have hs1 : w1.heap.size = w.heap.size + 3 := by rw [← hw1]; simp
  obtain ⟨z1, z2, _⟩ := two_allocs w (.cells #[.slice Ad nd cd, .slice Aa na ca, .map (some m)] 99) (.cells #[.int .i64 k, .int .i64 num, .int .i64 pos, .slice A1 p1 c1, .slice A2 p2 c2] 27)
  have x0 : w1.heap[w.heap.size]? = some (.cells #[.slice Ad nd cd, .slice Aa na ca, .map (some m)] 99 (0, 0)) := by rw [← hw1, Below.heap_alloc _ _ _ (by simp; omega)]; exact z1
  have x1 : w1.heap[w.heap.size + 1]? = some (.cells #[.int .i64 k, .int .i64 num, .int .i64 pos, .slice A1 p1 c1, .slice A2 p2 c2] 27 (0, 0)) := by rw [← hw1, Below.heap_alloc _ _ _ (by simp)]; exact z2
  have x2 : w1.heap[w.heap.size + 1 + 1]? = some (.cells zeroTm 27 (0, 0)) := by
    rw [← hw1]
    have := heap_alloc_new ((w.alloc (.cells #[.slice Ad nd cd, .slice Aa na ca, .map (some m)] 99)).alloc (.cells #[.int .i64 k, .int .i64 num, .int .i64 pos, .slice A1 p1 c1, .slice A2 p2 c2] 27)) (.cells zeroTm 27)
    simpa using this
  have hwB : B ≤ w.heap.size := Nat.le_trans hB hw.size
  have HN := Lib.hid (named_any ca m h hB hm hmB k num pos A1 p1 c1 A2 p2 c2 w1 (hw.trans (hb1.mono hwB)))
  have HB1 := Lib.hid hb1
  have HS1 := Lib.hid hs1
  have X0 := Lib.hid x0
  have X1 := Lib.hid x1
  have X2 := Lib.hid x2
  have y0 := cell_of_row _ _ 0 _ _ (0, 0) x0
  have y1 := cell_of_row _ _ 1 _ _ (0, 0) x0
  have y2 := cell_of_row _ _ 2 _ _ (0, 0) x0
  have a0 := cell_of_row _ _ 0 _ _ (0, 0) x1
  have a1 := cell_of_row _ _ 1 _ _ (0, 0) x1
  have a2 := cell_of_row _ _ 2 _ _ (0, 0) x1
  have a3 := cell_of_row _ _ 3 _ _ (0, 0) x1
  have a4 := cell_of_row _ _ 4 _ _ (0, 0) x1
  obtain ⟨o, ho⟩ : ∃ o, cyO ds ns k num pos = o := ⟨_, rfl⟩
  rw [ho] at HN
  have HO := Lib.hid ho
  obtain ⟨k9, hk99⟩ : ∃ x, (if o.isSome then 3 else k) = x := ⟨_, rfl⟩
  obtain ⟨n9, hn99⟩ : ∃ x, o.getD num = x := ⟨_, rfl⟩
  obtain ⟨a9, ha99⟩ : ∃ x, (if o.isSome then 0 else pos) = x := ⟨_, rfl⟩
  have HK9 := Lib.hid hk99
  have HN9 := Lib.hid hn99
  have HA9 := Lib.hid ha99
  have IH := Lib.hid ih
  have HW := Lib.hid hw
  have R1 := Lib.hid r1
  have R2 := Lib.hid r2
  have R3 := Lib.hid r3
  unfold zeroTm at hw1
  unfold CarV at HN ⊢
  clear h hB hm hmB hw hb1 hs1 z1 z2 x0 x1 x2 ho hk99 hn99 ha99 hown hp1 hp2 r1 r2 r3 ih
  go_enter Tryd.func107, Tryd.ntmps107
  go_wp2_with (fail)
  refine HN.out.mono ?_
  rintro e w2 ⟨rfl, hb2⟩
  have Y0 := Lib.hid ((hb2.block _ (heap_some_lt X0.out)).trans X0.out)
  have Y1 := Lib.hid ((hb2.block _ (heap_some_lt X1.out)).trans X1.out)
  have Y2 := Lib.hid ((hb2.block _ (heap_some_lt X2.out)).trans X2.out)
  have HB2 : Hid (Below w.heap.size w w2) := HB1.out.trans (hb2.mono HB1.out.size)
  clear HN hb2 y0 y1 y2 a0 a1 a2 a3 a4 hw1
  go_upto_if 15 with (fail)
  go_cut [] from 16 to 19 (fun wc => Below w.heap.size w wc ∧ wc.heap[w.heap.size]? = some (.cells #[.slice Ad nd cd, .slice Aa na ca, .map (some m)] 99 (0, 0)) ∧ wc.heap[w.heap.size + 1]? = some (.cells #[.int .i64 k9, .int .i64 n9, .int .i64 a9, .slice A1 p1 c1, .slice A2 p2 c2] 27 (0, 0)) ∧ wc.heap[w.heap.size + 1 + 1]? = some (.cells zeroTm 27 (0, 0)))
  case first =>
    cases o with
    | some x =>
      have b0 := cell_of_row _ _ 0 _ _ (0, 0) Y1.out
      have b1 := cell_of_row _ _ 1 _ _ (0, 0) Y1.out
      have b2 := cell_of_row _ _ 2 _ _ (0, 0) Y1.out
      have u0 := thawed Y1.out 0
      have u1 := thawed Y1.out 1
      have u2 := thawed Y1.out 2
      have Y3 := Lib.hid (set_same (set_same (set_same Y1.out 0 (.int .i64 3)) 1 (.int .i64 x)) 2 (.int .i64 0))
      have HB3 : Hid (Below w.heap.size w (((w2.setCell ⟨w.heap.size + 1, 0, none⟩ (.int .i64 3)).setCell ⟨w.heap.size + 1, 1, none⟩ (.int .i64 x)).setCell ⟨w.heap.size + 1, 2, none⟩ (.int .i64 0))) := ((HB2.out.setCell (by show w.heap.size ≤ w.heap.size + 1; omega) _).setCell (by show w.heap.size ≤ w.heap.size + 1; omega) _).setCell (by show w.heap.size ≤ w.heap.size + 1; omega) _
      have Y2' : Hid ((((w2.setCell ⟨w.heap.size + 1, 0, none⟩ (.int .i64 3)).setCell ⟨w.heap.size + 1, 1, none⟩ (.int .i64 x)).setCell ⟨w.heap.size + 1, 2, none⟩ (.int .i64 0)).heap[w.heap.size + 1 + 1]? = some (.cells zeroTm 27 (0, 0))) := by
        show _ = _
        rw [heap_setCell_other _ _ _ _ (by show w.heap.size + 1 + 1 ≠ w.heap.size + 1; omega), heap_setCell_other _ _ _ _ (by show w.heap.size + 1 + 1 ≠ w.heap.size + 1; omega), heap_setCell_other _ _ _ _ (by show w.heap.size + 1 + 1 ≠ w.heap.size + 1; omega)]
        exact Y2.out
      have Y0' : Hid ((((w2.setCell ⟨w.heap.size + 1, 0, none⟩ (.int .i64 3)).setCell ⟨w.heap.size + 1, 1, none⟩ (.int .i64 x)).setCell ⟨w.heap.size + 1, 2, none⟩ (.int .i64 0)).heap[w.heap.size]? = some (.cells #[.slice Ad nd cd, .slice Aa na ca, .map (some m)] 99 (0, 0))) := by
        show _ = _
        rw [heap_setCell_other _ _ _ _ (by show w.heap.size ≠ w.heap.size + 1; omega), heap_setCell_other _ _ _ _ (by show w.heap.size ≠ w.heap.size + 1; omega), heap_setCell_other _ _ _ _ (by show w.heap.size ≠ w.heap.size + 1; omega)]
        exact Y0.out
      go_wp2_with (fail)
      go_meet
      case rel =>
        refine ⟨HB3.out, Y0'.out, ?_, Y2'.out⟩
        rw [← HK9.out, ← HN9.out, ← HA9.out]
        exact Y3.out
    | none =>
      go_wp2_with (fail)
      go_meet
      case rel =>
        refine ⟨HB2.out, Y0.out, ?_, Y2.out⟩
        rw [← HK9.out, ← HN9.out, ← HA9.out]
        exact Y1.out
  case rest =>
    obtain ⟨hb3, y0, y1, y2⟩ := hcut
    have hs3 := hb3.size
    have HB3 := Lib.hid hb3
    have Z0 := Lib.hid y0
    have Z1 := Lib.hid y1
    have Z2 := Lib.hid y2
    have a4 := cell_of_row _ _ 4 _ _ (0, 0) y1
    have hlt2 := heap_some_lt y2
    have R1' : Hid (OwnRowL wc lo m1 (.slice A1 lv.length c1) lv) := R1.out.kept (keptIn_below hb3 (by omega))
    have R2' : Hid (RowIn wc m1 m2 27 5 (.slice A2 p2 c2) p2 xs0) := R2.out.kept (keptIn_below hb3 (by omega))
    have R3' : Hid (OwnTms wc m2 hi kids xs0) := R3.out.kept (keptIn_below hb3 (by omega))
    clear hb3 y0 y1 y2 R1 R2 R3 Y0 Y1 Y2 HB2 X0 X1 X2 HB1 HS1
    go_wp2_with (fail)
    clear a4
    go_loopw [7, 8, 23] (fun _ _ i wr => ∃ q : Nat, q ≤ p2 ∧ i = .int .i64 (q : Int) ∧ OutIn m1 hi wc wr ∧ ∃ xs, OwnTms wr m2 hi (mixed (cyO ds ns) kids q) xs ∧ RowIn wr m1 m2 27 5 (.slice A2 p2 c2) p2 xs) (fun _ _ i _ => p2 - (intOf i).toNat)
    case atStart => exact ⟨0, Nat.zero_le _, rfl, OutIn.refl _ _ _, xs0, by simpa [mixed] using R3'.out, R2'.out⟩
    case round =>
      obtain ⟨q, hq, rfl, hout, xs, hms, hri⟩ := hrel
      have hzz := hout.size
      have HOUT := Lib.hid hout
      have hout9 : ∀ {j}, (j < wc.heap.size ∧ hi ≤ j) → wr.heap[j]? = wc.heap[j]? := fun h => hout.block _ h.1 (Or.inr h.2)
      have HMS := Lib.hid hms
      have HRI := Lib.hid hri
      clear hout
      by_cases hlt : q < p2
      · obtain ⟨t, ht⟩ : ∃ t, kids[q]? = some t := ⟨_, List.getElem?_eq_getElem (by rw [HP2.out]; exact hlt)⟩
        obtain ⟨lo', hi', e0, e1, e2, e3, e4, d1, d2, d3, q0, q1, q2, q3, q4, q5, q6⟩ := hms.part q (mixed_get ht)
        obtain ⟨g, cur, rfl, hg1, hg2, hgc⟩ : ∃ g cur, A2 = some ⟨g, 0, none⟩ ∧ m1 ≤ g ∧ g < m2 ∧ wr.heap[g]? = some (.cells cur 27 (0, 0)) := by
          rcases hri.2.2.1.2 with ⟨e, _⟩ | ⟨g, cap, cur, e, h1, h2, _⟩
          · injection e with _ e _
            omega
          · injection e with e _ _
            subst e
            exact ⟨g, cur, rfl, h1, hri.2.2.2 g rfl, h2⟩
        obtain ⟨i1, i2, i3, X1, X2, n1, l1, n2, l2, es⟩ := own_shape q5
        injection es with es
        injection es with es
        injection es with f0 es
        injection es with f1 es
        injection es with f2 es
        injection es with f3 es
        injection es with f4 _
        subst f0 f1 f2 f3 f4
        have hca : ∀ j, j < p2 * 5 → wr.cell? ⟨g, j, none⟩ = xs[j]? := fun j hj => hri.2.2.1.cellAt j hj
        have hld : (Instr.loadAt 27 (.pointer (some ⟨g, q * 5, none⟩))).run Tryd.prog wr = .ok (.agg #[.int .i64 i1, .int .i64 i2, .int .i64 i3, .slice X1 n1 l1, .slice X2 n2 l2]) wr := run_loadAt_cells Tryd.underlying27 rfl infoT5 rfl fun j hj => by
          rw [hca _ (by omega)]
          match j, hj with
          | 0, _ => exact q0
          | 1, _ => exact q1
          | 2, _ => exact q2
          | 3, _ => exact q3
          | 4, _ => exact q4
        obtain ⟨w4, hw4⟩ : ∃ y, wr.alloc (.cells #[.int .i64 i1, .int .i64 i2, .int .i64 i3, .slice X1 n1 l1, .slice X2 n2 l2] 27) = y := ⟨_, rfl⟩
        have hb4 : Below wr.heap.size wr w4 := by rw [← hw4]; exact (Below.refl _ _).alloc (Nat.le_refl _) _
        have hs4 : w4.heap.size = wr.heap.size + 1 := by rw [← hw4]; simp
        have x4 : w4.heap[wr.heap.size]? = some (.cells #[.int .i64 i1, .int .i64 i2, .int .i64 i3, .slice X1 n1 l1, .slice X2 n2 l2] 27 (0, 0)) := by rw [← hw4]; exact heap_alloc_new wr _
        have hz := heap_alloc_new wr (.cells zeroTm 27)
        have hda : Hid ((wr.alloc (.cells zeroTm 27)).setRow wr.heap.size #[.int .i64 i1, .int .i64 i2, .int .i64 i3, .slice X1 n1 l1, .slice X2 n2 l2] = wr.alloc (.cells #[.int .i64 i1, .int .i64 i2, .int .i64 i3, .slice X1 n1 l1, .slice X2 n2 l2] 27)) := World.setRow_alloc_new _ _ _ _
        unfold zeroTm at hz hda
        have P0 := Lib.hid (((hb4.block _ (by omega)).trans (hout9 ⟨by omega, by omega⟩)).trans Z0.out)
        have P1 := Lib.hid (((hb4.block _ (by omega)).trans (hout9 ⟨by omega, by omega⟩)).trans Z1.out)
        have HX4 := Lib.hid x4
        have HB4 := Lib.hid hb4
        have HS4 := Lib.hid hs4
        have HT : Hid (Calls Tryd.prog 107 #[.agg #[.slice Ad nd cd, .slice Aa na ca, .map (some m)], .agg #[.int .i64 i1, .int .i64 i2, .int .i64 i3, .slice X1 n1 l1, .slice X2 n2 l2]] w4.drew (fun e w' => ∃ v', e = .returned v' ∧ OwnTm w' lo' hi' (t.cy (cyO ds ns)) v' ∧ OutIn lo' hi' w4.drew w')) :=
          IH.out t (List.mem_of_getElem? ht) w4.drew lo' hi' _ (HW.out.trans ((HB3.out.mono hwB).trans ((HOUT.out.below (by omega) (by omega)).trans (hb4.drew.mono (by omega))))) (by omega) (by show hi' ≤ w4.heap.size; omega) (q5.kept (keptIn_below (hb4.drew) (by omega)))
        have HSR : Hid (∀ w', OutIn m1 hi w4 w' → w'.cell? ⟨w.heap.size, 0, none⟩ = some (.slice Ad nd cd) ∧ w'.cell? ⟨w.heap.size, 1, none⟩ = some (.slice Aa na ca) ∧ w'.cell? ⟨w.heap.size, 2, none⟩ = some (.map (some m)) ∧ w'.cell? ⟨w.heap.size + 1, 4, none⟩ = some (.slice (some ⟨g, 0, none⟩) p2 c2) ∧ w'.cell? ⟨wr.heap.size, 0, none⟩ = some (.int .i64 i1) ∧ w'.cell? ⟨wr.heap.size, 1, none⟩ = some (.int .i64 i2) ∧ w'.cell? ⟨wr.heap.size, 2, none⟩ = some (.int .i64 i3) ∧ w'.cell? ⟨wr.heap.size, 3, none⟩ = some (.slice X1 n1 l1) ∧ w'.cell? ⟨wr.heap.size, 4, none⟩ = some (.slice X2 n2 l2)) := fun w' hx =>
          have h4 := HS4.out
          have y0 := (hx.block _ (by omega) (Or.inr (by omega))).trans P0.out
          have y1 := (hx.block _ (by omega) (Or.inr (by omega))).trans P1.out
          have y4 := (hx.block _ (by omega) (Or.inr (by omega))).trans HX4.out
          ⟨cell_of_row _ _ 0 _ _ (0, 0) y0, cell_of_row _ _ 1 _ _ (0, 0) y0, cell_of_row _ _ 2 _ _ (0, 0) y0, cell_of_row _ _ 4 _ _ (0, 0) y1, cell_of_row _ _ 0 _ _ (0, 0) y4, cell_of_row _ _ 1 _ _ (0, 0) y4, cell_of_row _ _ 2 _ _ (0, 0) y4, cell_of_row _ _ 3 _ _ (0, 0) y4, cell_of_row _ _ 4 _ _ (0, 0) y4⟩
        have HD : Hid (OutIn m1 hi w4 w4.drew) := OutIn.of_below (Below.refl _ _).drew (Nat.le_refl _)
        have HGF : Hid (∀ w', OutIn lo' hi' w4.drew w' → (w'.cell? ⟨g, q * 5, none⟩ = some (.int .i64 i1) ∧ w'.cell? ⟨g, q * 5 + 1, none⟩ = some (.int .i64 i2) ∧ w'.cell? ⟨g, q * 5 + 2, none⟩ = some (.int .i64 i3) ∧ w'.cell? ⟨g, q * 5 + 3, none⟩ = some (.slice X1 n1 l1) ∧ w'.cell? ⟨g, q * 5 + 4, none⟩ = some (.slice X2 n2 l2)) ∧ ∀ j, w'.frozen? ⟨g, j, none⟩ = false) := fun w' hx => by
          have hb : w'.heap[g]? = wr.heap[g]? := (hx.block g (by show g < w4.heap.size; omega) (Or.inl (by omega))).trans (hb4.block g (by omega))
          refine ⟨⟨?_, ?_, ?_, ?_, ?_⟩, fun j => thawed (hb.trans hgc) j⟩
          · rw [World.cell?_of_block (w := wr) hb, hca _ (by omega)]; exact q0
          · rw [World.cell?_of_block (w := wr) hb, hca _ (by omega)]; exact q1
          · rw [World.cell?_of_block (w := wr) hb, hca _ (by omega)]; exact q2
          · rw [World.cell?_of_block (w := wr) hb, hca _ (by omega)]; exact q3
          · rw [World.cell?_of_block (w := wr) hb, hca _ (by omega)]; exact q4
        have ij0 : (0 : Int) ≤ (q : Int) := by omega
        have ij1 : (q : Int) < (p2 : Int) := by omega
        have HQ6 := Lib.hid q6
        clear hms hri hca q0 q1 q2 q3 q4 q5 q6 hgc x4 hb4 hout9
        go_upto_region 7 with (first | (refine wpList_load_at rfl 27 (.tmp 26) rfl (.pointer (some ⟨g, q * 5, none⟩)) _ rfl hld ?_) | (refine wpList_store_row rfl 27 (.tmp 8) (.tmp 27) rfl wr.heap.size #[.int .i64 i1, .int .i64 i2, .int .i64 i3, .slice X1 n1 l1, .slice X2 n2 l2] rfl rfl 27 zeroTm hz infoT5 rfl (by simp [Value.oneCell']) ?_; rw [hda.out, hw4]) | fail)
        clear hz hda hw4 hld
        go_region_held3 (fun w' => w'.cell? ⟨w.heap.size, 0, none⟩ = some (.slice Ad nd cd) ∧ w'.cell? ⟨w.heap.size, 1, none⟩ = some (.slice Aa na ca) ∧ w'.cell? ⟨w.heap.size, 2, none⟩ = some (.map (some m)) ∧ w'.cell? ⟨w.heap.size + 1, 4, none⟩ = some (.slice (some ⟨g, 0, none⟩) p2 c2) ∧ w'.cell? ⟨wr.heap.size, 0, none⟩ = some (.int .i64 i1) ∧ w'.cell? ⟨wr.heap.size, 1, none⟩ = some (.int .i64 i2) ∧ w'.cell? ⟨wr.heap.size, 2, none⟩ = some (.int .i64 i3) ∧ w'.cell? ⟨wr.heap.size, 3, none⟩ = some (.slice X1 n1 l1) ∧ w'.cell? ⟨wr.heap.size, 4, none⟩ = some (.slice X2 n2 l2))
          (first
            | exact HSR.out _ HD.out
            | (apply HSR.out; assumption)
            | (apply HSR.out; exact hx9)
            | exact HSR.out _ (st5_out hx9 (g := g) (o := q * 5) _ _ _ _ _ (Or.inl ⟨hg1, by omega⟩)))
          (first
            | (go_at_call 107; refine HT.out.mono ?_; rintro e wB ⟨v', rfl, hown, hx⟩
               obtain ⟨j1, j2, j3, V1, V2, s1, t1, s2, t2, rfl⟩ := own_shape hown
               have hx9 := HD.out.trans (hx.wide (show m1 ≤ lo' by omega) (show hi' ≤ hi by omega))
               obtain ⟨⟨g0, g1, g2, g3, g4⟩, gf⟩ := HGF.out _ hx
               have gf0 := gf (q * 5)
               have gf1 := gf (q * 5 + 1)
               have gf2 := gf (q * 5 + 2)
               have gf3 := gf (q * 5 + 3)
               have gf4 := gf (q * 5 + 4)))
        obtain ⟨w6, hw6⟩ : ∃ y, st5 wB g (q * 5) (.int .i64 j1) (.int .i64 j2) (.int .i64 j3) (.slice V1 s1 t1) (.slice V2 s2 t2) = y := ⟨_, rfl⟩
        have hzB := hx.size
        have hz4 : w4.drew.heap.size = w4.heap.size := rfl
        have hs4 := HS4.out
        have hwB : OutIn lo' hi' wr wB := (OutIn.of_below (HB4.out.drew) (Nat.le_refl _)).trans hx
        have hk6 : ∀ {l h}, g < l ∨ h ≤ g → KeptIn l h wB w6 := fun hd => by rw [← hw6]; exact st5_kept _ _ _ _ _ hd
        have HF1 : Hid (OwnTms w6 m2 hi (mixed (cyO ds ns) kids (q + 1)) (put5 xs (q * 5) (.int .i64 j1) (.int .i64 j2) (.int .i64 j3) (.slice V1 s1 t1) (.slice V2 s2 t2))) := by
          have hh := HQ6.out w6 (t.cy (cyO ds ns)) (.int .i64 j1) (.int .i64 j2) (.int .i64 j3) (.slice V1 s1 t1) (.slice V2 s2 t2) (fun b h1 h2 => (hk6 (l := m2) (h := lo') (Or.inl hg2) b h1 h2).trans (hwB.keptIn (l := m2) (h' := lo') (Or.inl (Nat.le_refl _)) (by omega) b h1 h2)) (fun b h1 h2 => (hk6 (l := hi') (h := hi) (Or.inl (by omega)) b h1 h2).trans (hwB.keptIn (l := hi') (h' := hi) (Or.inr (Nat.le_refl _)) (by omega) b h1 h2)) (hown.kept (hk6 (Or.inl (by omega))))
          rw [mixed_set ht] at hh
          exact hh
        have HF2 : Hid (RowIn w6 m1 m2 27 5 (.slice (some ⟨g, 0, none⟩) p2 c2) p2 (put5 xs (q * 5) (.int .i64 j1) (.int .i64 j2) (.int .i64 j3) (.slice V1 s1 t1) (.slice V2 s2 t2))) := by
          rw [← hw6]
          exact (HRI.out.kept (hwB.keptIn (Or.inl (by omega)) (by omega))).st5 rfl q _ _ _ _ _
        have HF3 : Hid (OutIn m1 hi wc w6) := by
          rw [← hw6]
          exact st5_out (HOUT.out.trans (hwB.wide (by omega) (by omega))) _ _ _ _ _ (Or.inl ⟨hg1, by omega⟩)
        show Exit.inBlock 1 _ Exit.normal _ (st5 wB g (q * 5) (.int .i64 j1) (.int .i64 j2) (.int .i64 j3) (.slice V1 s1 t1) (.slice V2 s2 t2))
        rw [hw6]
        clear hx hx9 hown gf gf0 gf1 gf2 gf3 gf4 g0 g1 g2 g3 g4 hwB hk6 hw6 HSR HT HGF
        go_wp2
        go_roundw
        case rel => exact ⟨q + 1, by omega, by go_num, HF3.out, _, HF1.out, HF2.out⟩
        case measure => simp [intOf]; omega
      · obtain rfl : p2 = q := by omega
        have hms2 := hms
        rw [mixed_all (Nat.le_of_eq HP2.out)] at hms2
        have W1 := (hout9 ⟨by omega, by omega⟩).trans Z1.out
        have W2 := (hout9 ⟨by omega, by omega⟩).trans Z2.out
        have hR1 : OwnRowL wr lo m1 (.slice A1 lv.length c1) lv := R1'.out.kept (HOUT.out.keptIn (Or.inl (Nat.le_refl _)) (by omega))
        have hcy : (Tm.mk k num pos lv kids).cy (cyO ds ns) = .mk k9 n9 a9 lv (kids.map (Tm.cy (cyO ds ns))) := by
          rw [Tm.cy_mk, HO.out, HK9.out, HN9.out, HA9.out]
        have HFIN : Hid (∃ v', Ending.returned (Value.agg #[.int .i64 k9, .int .i64 n9, .int .i64 a9, .slice A1 p1 c1, .slice A2 p2 c2]) = .returned v' ∧ OwnTm (wr.setRow (w.heap.size + 1 + 1) #[.int .i64 k9, .int .i64 n9, .int .i64 a9, .slice A1 p1 c1, .slice A2 p2 c2]) lo hi ((Tm.mk k num pos lv kids).cy (cyO ds ns)) v' ∧ OutIn lo hi w (wr.setRow (w.heap.size + 1 + 1) #[.int .i64 k9, .int .i64 n9, .int .i64 a9, .slice A1 p1 c1, .slice A2 p2 c2])) := by
          have hke : ∀ {l h}, h ≤ hi → KeptIn l h wr (wr.setRow (w.heap.size + 1 + 1) #[.int .i64 k9, .int .i64 n9, .int .i64 a9, .slice A1 p1 c1, .slice A2 p2 c2]) := fun hh b h1 h2 => setRow_other wr _ b _ (by omega)
          refine ⟨_, rfl, ?_, ?_⟩
          · rw [hcy]
            unfold OwnTm
            have h1 := hR1.kept (hke (by omega))
            have h2 := hri.kept (hke (by omega))
            rw [HP1.out] at h1
            refine ⟨_, _, m1, m2, xs, rfl, h1, ⟨A1, c1, by rw [HP1.out]⟩, ?_, hms2.kept (hke (Nat.le_refl _))⟩
            rw [List.length_map, HP2.out]
            exact h2
          · have ho : OutIn lo hi w wr := (OutIn.of_below HB3.out (Nat.le_refl _)).trans (HOUT.out.wide hl1 (Nat.le_refl _))
            exact ⟨ho.os, ho.tape, ho.output, by simpa [World.setRow] using ho.size, fun j hj hd => (setRow_other wr _ j _ (by omega)).trans (ho.block j hj hd)⟩
        have Z3 := Lib.hid (setRow_heap wr (w.heap.size + 1 + 1) _ #[.int .i64 k9, .int .i64 n9, .int .i64 a9, .slice A1 p1 c1, .slice A2 p2 c2] _ _ W2)
        unfold zeroTm at W2
        clear hms hms2 hri hR1 hcy hout9
        go_wp2_with (first | (refine wpList_load_row rfl 27 (.tmp 3) rfl (w.heap.size + 1) rfl 27 _ (0, 0) _ W1 Tryd.underlying27 rfl infoT5 ?_) | (refine wpList_store_row rfl 27 (.tmp 4) (.tmp 36) rfl (w.heap.size + 1 + 1) #[.int .i64 k9, .int .i64 n9, .int .i64 a9, .slice A1 p1 c1, .slice A2 p2 c2] rfl rfl 27 zeroTm W2 infoT5 rfl (by simp [Value.oneCell']) ?_) | fail)
        exact bodyPost_ret (v := .agg #[.int .i64 k9, .int .i64 n9, .int .i64 a9, .slice A1 p1 c1, .slice A2 p2 c2]) (results_cell_row rfl _ _ (w.heap.size + 1 + 1) 27 _ (0, 0) _ rfl Z3.out Tryd.underlying27 rfl infoT5) rfl HFIN.out
theorem cterm_any {W : World} {B : Nat} {ds : List Dc} {ns : List Int} {Ad : Option Addr} {nd cd : Nat} {Aa : Option Addr} {na : Nat} (ca m : Nat) (h : CyOver W B ds ns Ad nd cd Aa na) (hB : B ≤ W.heap.size) (hm : CyAt W m) (hmB : m < B) (t : Tm) : CyTm W B ds ns Ad nd cd Aa na ca m t := by
  induction t using Tm.ind with
  | h k n a lv kids ih => exact cterm_of ca m h hB hm hmB k n a lv kids ih
end Go.Proofs.YtfgnnbpbbnnnhaaDoor
namespace Go.Proofs.YtfgnnbpbbnnnhaaDoor
open Go.RowKit Go.Maps
set_option maxRecDepth 100000 in
set_option maxHeartbeats 4000000 in
theorem carryT_leaf {ds : List Dc} {ns : List Int} {Ad : Option Addr} {nd cd : Nat} {Aa : Option Addr} {na : Nat} (ca : Nat) (w : World) (h : CyOver w w.heap.size ds ns Ad nd cd Aa na) (h0 : 0 < w.heap.size) (hK : KindsAt w) (k num pos : Int) (lv : List (List (Int × Int))) (hf : (Tm.mk k num pos lv []).fit) (A1 : Option Addr) (p1 c1 : Nat) (A2 : Option Addr) (c2 : Nat) (hv : TmAt w w.heap.size (.mk k num pos lv []) (.agg #[.int .i64 k, .int .i64 num, .int .i64 pos, .slice A1 p1 c1, .slice A2 0 c2])) :
    Calls Tryd.prog 22 #[.slice Ad nd cd, .slice Aa na ca, .agg #[.int .i64 k, .int .i64 num, .int .i64 pos, .slice A1 p1 c1, .slice A2 0 c2]] w (fun e w' => ∃ (A1 : Option Addr) (p1 c1 : Nat) (A2 : Option Addr) (c2 : Nat), e = .returned (.agg (leafV (cyO ds ns k num pos) k num pos A1 p1 c1 A2 c2)) ∧ Below w.heap.size w w') := by
  obtain ⟨z1, z2, _⟩ := two_allocs w (.cells #[.int .i64 k, .int .i64 num, .int .i64 pos, .slice A1 p1 c1, .slice A2 0 c2] 27) (.cells zeroTm 27)
  obtain ⟨w1, hw1⟩ : ∃ x, (w.alloc (.cells #[.int .i64 k, .int .i64 num, .int .i64 pos, .slice A1 p1 c1, .slice A2 0 c2] 27)).alloc (.cells zeroTm 27) = x := ⟨_, rfl⟩
  have hb1 : Below w.heap.size w w1 := by rw [← hw1]; exact ((Below.refl _ _).alloc (Nat.le_refl _) _).alloc (by simp) _
  have hs1 : w1.heap.size = w.heap.size + 2 := by rw [← hw1]; simp
  rw [hw1] at z1 z2
  obtain ⟨o, ho⟩ : ∃ o, cyO ds ns k num pos = o := ⟨_, rfl⟩
  have HO : Hid (∀ w' m, Below w1.heap.size w1 w' → m < w'.heap.size → CyAt w' m → Calls Tryd.prog 51 #[CarV Ad nd cd Aa na ca m, .agg #[.int .i64 k, .int .i64 num, .int .i64 pos, .slice A1 p1 c1, .slice A2 0 c2]] w' (fun e w9 => ∃ (A1 : Option Addr) (p1 c1 : Nat) (A2 : Option Addr) (c2 : Nat), e = .returned (.agg (leafV o k num pos A1 p1 c1 A2 c2)) ∧ Below w'.heap.size w' w9)) := fun w' m hx hm ha => by
    have hb := hb1.trans (hx.mono hb1.size)
    rw [← ho]
    exact cone_leaf ca m (h.below hb hb.size) (Nat.le_refl _) (by have := hb.size; omega) (hK.below hb h0) ha hm k num pos lv hf A1 p1 c1 A2 c2 (hv.below hb hb.size) w' (Below.refl _ _)
  rw [ho]
  have HB1 := Lib.hid hb1
  have HS1 := Lib.hid hs1
  have x1 := z1
  have X2 := Lib.hid z2
  have l1 := heap_some_lt z1
  unfold zeroTm at hw1
  clear h h0 hK hf hv hb1 hs1 ho z1 z2
  go_enter Tryd.func22, Tryd.ntmps22
  go_upto_region 1 with (fail)
  have hS : Below w1.heap.size w1 w1.drew := (Below.refl _ _).drew
  refine wp_region_tail 5 (fun w' => Below w1.heap.size w1 w') (fun w1 w2 : World => Below w1.heap.size w1 w2) [(fun (x : Value) (_ : World) => x = (.slice Ad nd cd : Value)), (fun (x : Value) (_ : World) => x = (.slice Aa na ca : Value)), (fun (x : Value) (w : World) => ∃ m, x = CarV Ad nd cd Aa na ca m ∧ m < w.heap.size ∧ CyAt w m), (fun (x : Value) (_ : World) => x = (.agg #[.int .i64 k, .int .i64 num, .int .i64 pos, .slice A1 p1 c1, .slice A2 0 c2] : Value)), (fun (x : Value) (w : World) => ∃ (A1 : Option Addr) (p1 c1 : Nat) (A2 : Option Addr) (c2 : Nat), x = .agg (leafV o k num pos A1 p1 c1 A2 c2))] [⟨some 7, .move (.tmp 0), none, []⟩, ⟨some 8, .move (.tmp 1), none, []⟩, ⟨some 9, .call { callee := .value (.func 50), args := #[.tmp 7, .tmp 8], argTypes := #[22, 54] }, none, [(7, 0), (8, 1)]⟩, ⟨some 10, .load 27 (.tmp 5), none, []⟩, ⟨some 11, .call { callee := .value (.func 51), args := #[.tmp 9, .tmp 10], argTypes := #[99, 27] }, none, [(9, 2), (10, 3)]⟩] [some 7, some 8, some 9, some 10, some 11] [] [] (by kernel_rfl) (by kernel_rfl) (by kernel_rfl) (by kernel_rfl) (by kernel_rfl) (by kernel_rfl) (by kernel_rfl) (by kernel_rfl) ?hrun ?hold ?hS ?hmono ?hsteps ?hfin
  case hrun => exact fun p hp => by cases hp
  case hold => exact fun p hp => by cases hp
  case hS => exact hS
  case hmono =>
    refine MonoL.cons (fun x w1 w2 _ _ _ hx => hx) ?_
    refine MonoL.cons (fun x w1 w2 _ _ _ hx => hx) ?_
    refine MonoL.cons (fun x w1 w2 _ _ hR hx => ?_) ?_
    · obtain ⟨m, q1, q2, q3⟩ := hx; exact ⟨m, q1, Nat.lt_of_lt_of_le q2 hR.size, q3.below hR q2⟩
    refine MonoL.cons (fun x w1 w2 _ _ _ hx => hx) ?_
    refine MonoL.cons (fun x w1 w2 _ _ hR hx => ?_) ?_
    · exact hx
    exact MonoL.nil
  case hsteps =>
    refine StepsT.cons (fun (x : Value) (_ : World) => x = (.slice Ad nd cd : Value)) [] rfl rfl (fun oq hop _ wq hQS => ?_) ?_
    · exact StepFrom.move hop (v := (.slice Ad nd cd : Value)) (by kernel_rfl) (by kernel_rfl) hQS (Below.refl _ _) rfl
    refine StepsT.cons (fun (x : Value) (_ : World) => x = (.slice Aa na ca : Value)) [] rfl rfl (fun oq hop _ wq hQS => ?_) ?_
    · exact StepFrom.move hop (v := (.slice Aa na ca : Value)) (by kernel_rfl) (by kernel_rfl) hQS (Below.refl _ _) rfl
    refine StepsT.cons (fun (x : Value) (w : World) => ∃ m, x = CarV Ad nd cd Aa na ca m ∧ m < w.heap.size ∧ CyAt w m) [(7, (fun (x : Value) (_ : World) => x = (.slice Ad nd cd : Value))), (8, (fun (x : Value) (_ : World) => x = (.slice Aa na ca : Value)))] rfl rfl (fun oq hop _ wq hQS => ?_) ?_
    · refine StepFrom.more_eq ((.slice Ad nd cd : Value)) ?_
      refine StepFrom.more_eq ((.slice Aa na ca : Value)) ?_
      exact StepFrom.call hop (vs := [(.slice Ad nd cd : Value), (.slice Aa na ca : Value)]) (by kernel_rfl) (fun w => enter_cstart _ w) (by kernel_rfl) ((cstart_any Ad nd cd Aa na ca wq).mono fun e w9 h9 => by obtain ⟨m, q1, _, q3, q4, q5⟩ := h9; exact ⟨_, q1, hQS.trans (q5.mono hQS.size), q5, m, rfl, q3, q4⟩)
    refine StepsT.cons (fun (x : Value) (_ : World) => x = (.agg #[.int .i64 k, .int .i64 num, .int .i64 pos, .slice A1 p1 c1, .slice A2 0 c2] : Value)) [] rfl rfl (fun oq hop _ wq hQS => ?_) ?_
    · exact StepFrom.load hop (p := (.pointer (some ⟨w.heap.size, 0, none⟩) : Value)) (by kernel_rfl) (load_tmrow (h := (hQS.block _ l1).trans x1)) (by kernel_rfl) hQS (Below.refl _ _) rfl
    refine StepsT.cons (fun (x : Value) (w : World) => ∃ (A1 : Option Addr) (p1 c1 : Nat) (A2 : Option Addr) (c2 : Nat), x = .agg (leafV o k num pos A1 p1 c1 A2 c2)) [(9, (fun (x : Value) (w : World) => ∃ m, x = CarV Ad nd cd Aa na ca m ∧ m < w.heap.size ∧ CyAt w m)), (10, (fun (x : Value) (_ : World) => x = (.agg #[.int .i64 k, .int .i64 num, .int .i64 pos, .slice A1 p1 c1, .slice A2 0 c2] : Value)))] rfl rfl (fun oq hop _ wq hQS => ?_) ?_
    · refine StepFrom.more fun x9 h9 => ?_
      obtain ⟨m9, rfl, hm9, ha9⟩ := h9
      refine StepFrom.more_eq ((.agg #[.int .i64 k, .int .i64 num, .int .i64 pos, .slice A1 p1 c1, .slice A2 0 c2] : Value)) ?_
      exact StepFrom.call hop (vs := [(CarV Ad nd cd Aa na ca m9 : Value), (.agg #[.int .i64 k, .int .i64 num, .int .i64 pos, .slice A1 p1 c1, .slice A2 0 c2] : Value)]) (by kernel_rfl) (fun w => enter_cone _ w) (by kernel_rfl) ((HO.out wq m9 hQS hm9 ha9).mono fun e w9 h9 => by obtain ⟨A1, p1, c1, A2, c2, q1, q2⟩ := h9; exact ⟨_, q1, hQS.trans (q2.mono hQS.size), q2, A1, p1, c1, A2, c2, rfl⟩)
    exact StepsT.nil
  case hfin =>
    intro wf hFS
    refine FinalFrom.more fun x7 h7 => ?_
    refine FinalFrom.more fun x8 h8 => ?_
    refine FinalFrom.more fun x9 h9 => ?_
    refine FinalFrom.more fun x10 h10 => ?_
    refine FinalFrom.more fun x11 h11 => ?_
    refine FinalFrom.done ?_
    intro _
    obtain ⟨B1, q1, d1, B2, d2, rfl⟩ := h11
    obtain ⟨cs, hcs⟩ : ∃ y, leafV o k num pos B1 q1 d1 B2 d2 = y := ⟨_, rfl⟩
    have hsz5 : cs.size = 5 := by rw [← hcs]; exact leafV_size ..
    have hone : cs.all (·.oneCell') = true := by rw [← hcs]; exact leafV_one ..
    rw [hcs]
    have hY := (hFS.block _ (heap_some_lt X2.out)).trans X2.out
    have hin : Hid ((Tryd.prog.info? 27).map (·.size) = some cs.size) := by show _ = _; rw [hsz5]; exact infoT5
    have hsz : Hid (zeroTm.size = cs.size) := by show _ = _; rw [hsz5]; rfl
    have HFF : Hid (Below w.heap.size w (wf.setRow (w.heap.size + 1) cs)) := below_setRow (HB1.out.trans (hFS.mono HB1.out.size)) (by omega) _
    have Z3 := Lib.hid (setRow_heap wf (w.heap.size + 1) _ cs _ _ hY)
    have HCS := Lib.hid hcs
    simp only [Act.put, List.setIfInBounds_toArray, List.set_cons_zero, List.set_cons_succ, List.drop_succ_cons, List.drop_zero]
    refine wpList_store_row rfl 27 (.tmp 6) (.tmp 11) rfl (w.heap.size + 1) cs rfl rfl 27 zeroTm hY hin.out hsz.out hone ?_
    clear hS hFS hY hcs hone hsz5 h7 h8 h9 h10
    go_wp2
    exact bodyPost_ret (v := .agg cs) (results_cell_row rfl _ _ (w.heap.size + 1) 27 cs (0, 0) _ rfl Z3.out Tryd.underlying27 rfl hin.out) rfl ⟨B1, q1, d1, B2, d2, by rw [HCS.out], HFF.out⟩
end Go.Proofs.YtfgnnbpbbnnnhaaDoor
namespace Go.Proofs.YtfgnnbpbbnnnhaaDoor
open Go.RowKit Go.Maps
theorem lift_own : ∀ (t : Tm) (d : Nat), t.fit → t.walk (liftT 0 0) d = t := by
  refine Tm.ind ?_
  intro k num pos lv kids ih d hf
  rw [Tm.fit_mk] at hf
  have hn : liftN d k num 0 0 = num := by
    unfold liftN
    split
    · unfold Rng at hf; rw [Int.add_zero, IntWalk.i64_in _ (by omega)]
    · rfl
  rw [Tm.walk_go (tr := liftT 0 0) (n' := liftN d k num 0 0) (lv' := lv) rfl, hn]
  congr 1
  refine List.ext_getElem? fun j => ?_
  rw [Tm.walkL_get]
  cases e : kids[j]? with
  | none => simp
  | some t =>
    have ht := List.mem_of_getElem? e
    simp only [Option.map_some]
    rw [ih t ht _ ((Tm.fitL_iff kids).1 hf.2.2.2 t ht)]
set_option maxRecDepth 100000 in
set_option maxHeartbeats 4000000 in
theorem cterms_own {W : World} {B : Nat} {ds : List Dc} {ns : List Int} {Ad : Option Addr} {nd cd : Nat} {Aa : Option Addr} {na : Nat} (ca m : Nat) (h : CyOver W B ds ns Ad nd cd Aa na) (hB : B ≤ W.heap.size) (hB0 : 0 < B) (hK : KindsAt W) (hm : CyAt W m) (hmB : m < B) (t : Tm) (hf : t.fit) (hz9 : t.size ≤ 1073741824) (k num pos : Int) (A1 : Option Addr) (p1 c1 : Nat) (A2 : Option Addr) (p2 c2 : Nat) (hv : TmAt W B t (.agg #[.int .i64 k, .int .i64 num, .int .i64 pos, .slice A1 p1 c1, .slice A2 p2 c2])) (w : World) (hw : Below B W w) (g : Nat)
    (hg : w.heap[g]? = some (.cells #[.int .i64 k, .int .i64 num, .int .i64 pos, .slice A1 p1 c1, .slice A2 p2 c2] 27 (0, 0))) :
    Calls Tryd.prog 81 #[CarV Ad nd cd Aa na ca m, .slice (some ⟨g, 0, none⟩) 1 1] w (fun e w' => ∃ (v : Value) (k num pos : Int) (A1 : Option Addr) (p1 c1 : Nat) (A2 : Option Addr) (p2 c2 : Nat), e = .returned v ∧ w'.ownsRow w.heap.size 27 5 v 1 [.int .i64 k, .int .i64 num, .int .i64 pos, .slice A1 p1 c1, .slice A2 p2 c2] ∧ OwnTm w' w.heap.size w'.heap.size (t.cy (cyO ds ns)) (.agg #[.int .i64 k, .int .i64 num, .int .i64 pos, .slice A1 p1 c1, .slice A2 p2 c2]) ∧ Below w.heap.size w w') := by
  obtain ⟨i0, hi, hz0, hz1, hz2⟩ := info_parts infoT9
  have hwB : B ≤ w.heap.size := Nat.le_trans hB hw.size
  have HL0 : Hid (∀ w', Below w.heap.size w w' → Calls Tryd.prog 10 #[.agg #[.int .i64 k, .int .i64 num, .int .i64 pos, .slice A1 p1 c1, .slice A2 p2 c2], .int .i64 0, .int .i64 0] w' (fun e w9 => ∃ (j1 j2 j3 : Int) (B1 : Option Addr) (q1 d1 : Nat) (B2 : Option Addr) (q2 d2 : Nat), e = .returned (.agg #[.int .i64 j1, .int .i64 j2, .int .i64 j3, .slice B1 q1 d1, .slice B2 q2 d2]) ∧ OwnTm w9 w'.heap.size w9.heap.size t (.agg #[.int .i64 j1, .int .i64 j2, .int .i64 j3, .slice B1 q1 d1, .slice B2 q2 d2]) ∧ Below w'.heap.size w' w9)) := fun w' hx => by
    have hbx : Below B W w' := hw.trans (hx.mono hwB)
    refine (lift_any _ hf _ w' 0 0 hz9 (hK.below hbx hB0) (hv.below hbx (Nat.le_trans hB hbx.size))).mono ?_
    rintro e w9 ⟨v, rfl, hv9, hb9⟩
    rw [lift_own t 0 hf] at hv9
    obtain ⟨j1, j2, j3, B1, B2, q1, d1, q2, d2, rfl⟩ := own_shape hv9
    exact ⟨j1, j2, j3, B1, q1, d1, B2, q2, d2, rfl, hv9, hb9⟩
  have HT0 : Hid (∀ (w' : World) (lo hi : Nat) (v : Value), Below w.heap.size w w' → w.heap.size ≤ lo → hi ≤ w'.heap.size → OwnTm w' lo hi t v → Calls Tryd.prog 107 #[.agg #[.slice Ad nd cd, .slice Aa na ca, .map (some m)], v] w' (fun e w9 => ∃ (j1 j2 j3 : Int) (B1 : Option Addr) (q1 d1 : Nat) (B2 : Option Addr) (q2 d2 : Nat), e = .returned (.agg #[.int .i64 j1, .int .i64 j2, .int .i64 j3, .slice B1 q1 d1, .slice B2 q2 d2]) ∧ OwnTm w9 lo hi (t.cy (cyO ds ns)) (.agg #[.int .i64 j1, .int .i64 j2, .int .i64 j3, .slice B1 q1 d1, .slice B2 q2 d2]) ∧ OutIn lo hi w' w9)) := fun w' lo hi v hx hlo hhi ho => by
    refine (cterm_any ca m h hB hm hmB t w' lo hi v (hw.trans (hx.mono hwB)) (by omega) hhi ho).mono ?_
    rintro e w9 ⟨v, rfl, hv9, hb9⟩
    obtain ⟨j1, j2, j3, B1, B2, q1, d1, q2, d2, rfl⟩ := own_shape hv9
    exact ⟨j1, j2, j3, B1, q1, d1, B2, q2, d2, rfl, hv9, hb9⟩
  obtain ⟨w1, hw1⟩ : ∃ x, w.alloc (.cells #[.slice Ad nd cd, .slice Aa na ca, .map (some m)] 99) = x := ⟨_, rfl⟩
  have hb1 : Below w.heap.size w w1 := by rw [← hw1]; exact (Below.refl _ _).alloc (Nat.le_refl _) _
  have hs1 : w1.heap.size = w.heap.size + 1 := by rw [← hw1]; simp
  have x1 : w1.heap[w.heap.size]? = some (.cells #[.slice Ad nd cd, .slice Aa na ca, .map (some m)] 99 (0, 0)) := by rw [← hw1]; exact heap_alloc_new w _
  have gl := heap_some_lt hg
  have g1 := (hb1.block _ gl).trans hg
  have HB1 := Lib.hid hb1
  have HS1 := Lib.hid hs1
  have X1 := Lib.hid x1
  have G1 := Lib.hid g1
  unfold CarV
  clear h hB hB0 hK hm hmB hf hz9 hv hw hwB hb1 hs1 x1 gl g1 hg
  go_enter Tryd.func81, Tryd.ntmps81
  go_wp2_with (fail)
  go_loopw [5, 10] (fun u i wr => (i = .int .i64 0 ∧ u = .slice none 0 0 ∧ wr = w1) ∨ (i = .int .i64 1 ∧ Below w.heap.size w wr ∧ ∃ (k num pos : Int) (A1 : Option Addr) (p1 c1 : Nat) (A2 : Option Addr) (p2 c2 : Nat), wr.ownsRow w.heap.size 27 5 u 1 [.int .i64 k, .int .i64 num, .int .i64 pos, .slice A1 p1 c1, .slice A2 p2 c2] ∧ OwnTm wr w.heap.size wr.heap.size (t.cy (cyO ds ns)) (.agg #[.int .i64 k, .int .i64 num, .int .i64 pos, .slice A1 p1 c1, .slice A2 p2 c2]))) (fun _ i _ => 1 - (intOf i).toNat)
  case atStart => exact Or.inl ⟨rfl, rfl, rfl⟩
  case round =>
    rcases hrel with ⟨rfl, rfl, rfl⟩ | ⟨rfl, hb, hrow⟩
    · obtain ⟨w4, hw4⟩ : ∃ y, wr.alloc (.cells #[.int .i64 k, .int .i64 num, .int .i64 pos, .slice A1 p1 c1, .slice A2 p2 c2] 27) = y := ⟨_, rfl⟩
      have hb4 : Below wr.heap.size wr w4 := by rw [← hw4]; exact (Below.refl _ _).alloc (Nat.le_refl _) _
      have x4 : w4.heap[wr.heap.size]? = some (.cells #[.int .i64 k, .int .i64 num, .int .i64 pos, .slice A1 p1 c1, .slice A2 p2 c2] 27 (0, 0)) := by rw [← hw4]; exact heap_alloc_new wr _
      have HX0 := Lib.hid ((hb4.block _ (heap_some_lt X1.out)).trans X1.out)
      have HX4 := Lib.hid x4
      have HB4 : Hid (Below w.heap.size w w4) := HB1.out.trans (hb4.mono HB1.out.size)
      have hz := heap_alloc_new wr (.cells zeroTm 27)
      have hda : Hid ((wr.alloc (.cells zeroTm 27)).setRow wr.heap.size #[.int .i64 k, .int .i64 num, .int .i64 pos, .slice A1 p1 c1, .slice A2 p2 c2] = wr.alloc (.cells #[.int .i64 k, .int .i64 num, .int .i64 pos, .slice A1 p1 c1, .slice A2 p2 c2] 27)) := World.setRow_alloc_new _ _ _ _
      have hg := G1.out
      have HL := Lib.hid (HL0.out w4.drew (HB4.out.trans ((Below.refl _ _).drew.mono HB4.out.size)))
      have HTT : Hid (∀ (w' : World) (lo hi : Nat) (v : Value), Below w4.heap.size w4 w' → w4.heap.size ≤ lo → hi ≤ w'.heap.size → OwnTm w' lo hi t v → Calls Tryd.prog 107 #[.agg #[.slice Ad nd cd, .slice Aa na ca, .map (some m)], v] w' (fun e w9 => ∃ (j1 j2 j3 : Int) (B1 : Option Addr) (q1 d1 : Nat) (B2 : Option Addr) (q2 d2 : Nat), e = .returned (.agg #[.int .i64 j1, .int .i64 j2, .int .i64 j3, .slice B1 q1 d1, .slice B2 q2 d2]) ∧ OwnTm w9 lo hi (t.cy (cyO ds ns)) (.agg #[.int .i64 j1, .int .i64 j2, .int .i64 j3, .slice B1 q1 d1, .slice B2 q2 d2]) ∧ OutIn lo hi w' w9)) := fun w' lo hi v hx hlo => HT0.out w' lo hi v (HB4.out.trans (hx.mono HB4.out.size)) (by have := HB4.out.size; omega)
      clear hb4 x4
      unfold zeroTm at hz hda
      go_upto_region 5 with (first | (refine wpList_load_row rfl 27 (.tmp 12) rfl g rfl 27 _ (0, 0) _ hg Tryd.underlying27 rfl infoT5 ?_) | (refine wpList_store_row rfl 27 (.tmp 7) (.tmp 13) rfl wr.heap.size #[.int .i64 k, .int .i64 num, .int .i64 pos, .slice A1 p1 c1, .slice A2 p2 c2] rfl rfl 27 zeroTm hz infoT5 rfl (by simp [Value.oneCell']) ?_; rw [hda.out, hw4]) | fail)
      have HSR : Hid (∀ w', Below w4.heap.size w4 w' → w'.cell? ⟨w.heap.size, 0, none⟩ = some (.slice Ad nd cd) ∧ w'.cell? ⟨w.heap.size, 1, none⟩ = some (.slice Aa na ca) ∧ w'.cell? ⟨w.heap.size, 2, none⟩ = some (.map (some m)) ∧ w'.cell? ⟨wr.heap.size, 0, none⟩ = some (.int .i64 k) ∧ w'.cell? ⟨wr.heap.size, 1, none⟩ = some (.int .i64 num) ∧ w'.cell? ⟨wr.heap.size, 2, none⟩ = some (.int .i64 pos) ∧ w'.cell? ⟨wr.heap.size, 3, none⟩ = some (.slice A1 p1 c1) ∧ w'.cell? ⟨wr.heap.size, 4, none⟩ = some (.slice A2 p2 c2)) := fun w' hx =>
        have y0 := (hx.block _ (heap_some_lt HX0.out)).trans HX0.out
        have y4 := (hx.block _ (heap_some_lt HX4.out)).trans HX4.out
        ⟨cell_of_row _ _ 0 _ _ (0, 0) y0, cell_of_row _ _ 1 _ _ (0, 0) y0, cell_of_row _ _ 2 _ _ (0, 0) y0, cell_of_row _ _ 0 _ _ (0, 0) y4, cell_of_row _ _ 1 _ _ (0, 0) y4, cell_of_row _ _ 2 _ _ (0, 0) y4, cell_of_row _ _ 3 _ _ (0, 0) y4, cell_of_row _ _ 4 _ _ (0, 0) y4⟩
      have HD : Hid (Below w4.heap.size w4 w4.drew) := (Below.refl _ _).drew
      have HW4 : Hid (w.heap.size ≤ w4.heap.size) := HB4.out.size
      clear hg hz hda hw4
      go_region_held3 (fun w' => w'.cell? ⟨w.heap.size, 0, none⟩ = some (.slice Ad nd cd) ∧ w'.cell? ⟨w.heap.size, 1, none⟩ = some (.slice Aa na ca) ∧ w'.cell? ⟨w.heap.size, 2, none⟩ = some (.map (some m)) ∧ w'.cell? ⟨wr.heap.size, 0, none⟩ = some (.int .i64 k) ∧ w'.cell? ⟨wr.heap.size, 1, none⟩ = some (.int .i64 num) ∧ w'.cell? ⟨wr.heap.size, 2, none⟩ = some (.int .i64 pos) ∧ w'.cell? ⟨wr.heap.size, 3, none⟩ = some (.slice A1 p1 c1) ∧ w'.cell? ⟨wr.heap.size, 4, none⟩ = some (.slice A2 p2 c2))
        (first
          | exact HSR.out _ HD.out
          | (apply HSR.out; assumption)
          | (apply HSR.out; apply Below.alloc; assumption; apply Below.size; assumption)
          | (apply HSR.out; exact (Below.alloc hx2 hx2.size _).grown hgrow (by have := hx2.size; simp; omega) (fun b e => by cases e)))
        (first
          | (go_at_call 10; refine HL.out.mono ?_; rintro e wB ⟨j1, j2, j3, B1, q1, d1, B2, q2, d2, rfl, hoB, hx0⟩; have hx1 := HD.out.trans (hx0.mono HD.out.size))
          | (go_at_call 107; refine (HTT.out _ w4.drew.heap.size wB.heap.size _ hx1 HD.out.size (Nat.le_refl _) hoB).mono ?_; rintro e wL ⟨r1, r2, r3, C1, s1, t1, C2, s2, t2, rfl, hoL, hx9⟩; have hx2 := hx1.trans (hx9.below HD.out.size hx1.size))
          | (refine step_append_lies _ (by rfl) _ _ 25 (by rfl) w.heap.size 27 i0 (.agg #[.int .i64 0, .int .i64 0, .int .i64 0, .slice none 0 0, .slice none 0 0]) 5 72 Tryd.underlying25 hi hz0 hz1 hz2 rfl (by omega) (.slice none 0 0) 0 [] (by rfl) (own_nil _ _ _ _) ⟨wL.heap.size, 0, none⟩ 1 1 [.int .i64 r1, .int .i64 r2, .int .i64 r3, .slice C1 s1 t1, .slice C2 s2 t2] (by rfl) (by rfl) (World.news_of_block (cs := #[.int .i64 r1, .int .i64 r2, .int .i64 r3, .slice C1 s1 t1, .slice C2 s2 t2]) (t := 27) (fr := (0, 0)) (heap_alloc_new wL _)) (by simp [Value.oneCell']) (by omega) (by unfold maxLen; omega) (by omega) (by have := hx2.size; have := HW4.out; simp; omega) (wL.heap.size + 1) (by simp) ?_; intro gg cap w8 hown hgrow hat hlt8))
      have hx8 := (Below.alloc hx2 hx2.size (.cells #[.int .i64 r1, .int .i64 r2, .int .i64 r3, .slice C1 s1 t1, .slice C2 s2 t2] 27)).grown hgrow (by have := hx2.size; simp; omega) (fun b e => by cases e)
      have HB8 : Hid (Below w.heap.size w w8) := HB4.out.trans (hx8.mono HB4.out.size)
      have HO8 : Hid (OwnTm w8 w.heap.size w8.heap.size (t.cy (cyO ds ns)) (.agg #[.int .i64 r1, .int .i64 r2, .int .i64 r3, .slice C1 s1 t1, .slice C2 s2 t2])) := by
        have h1 := hx9.size
        have h2 := hgrow.size
        have h3 := HW4.out
        have h4 := HD.out.size
        simp at h2
        refine (hoL.kept (fun b p q => ?_)).wide (by omega) (by omega)
        exact (hgrow.block b (by simp; omega) (fun e => by cases e)).trans (Below.heap_alloc wL _ b (by omega))
      have HR8 := Lib.hid hown
      clear hown hgrow hat hx0 hx1 hx2 hx8 hx9 hoB hoL HSR HL HTT
      go_wp2
      go_roundw
      case rel => exact Or.inr ⟨by go_num, HB8.out, r1, r2, r3, C1, s1, t1, C2, s2, t2, HR8.out, HO8.out⟩
      case measure => simp [intOf]
    · obtain ⟨j1, j2, j3, B1, q1, d1, B2, q2, d2, hr, ho⟩ := hrow
      have HF : Hid (∃ (v : Value) (k num pos : Int) (A1 : Option Addr) (p1 c1 : Nat) (A2 : Option Addr) (p2 c2 : Nat), Ending.returned u5 = Ending.returned v ∧ wr.ownsRow w.heap.size 27 5 v 1 [.int .i64 k, .int .i64 num, .int .i64 pos, .slice A1 p1 c1, .slice A2 p2 c2] ∧ OwnTm wr w.heap.size wr.heap.size (t.cy (cyO ds ns)) (.agg #[.int .i64 k, .int .i64 num, .int .i64 pos, .slice A1 p1 c1, .slice A2 p2 c2]) ∧ Below w.heap.size w wr) := ⟨_, j1, j2, j3, B1, q1, d1, B2, q2, d2, rfl, hr, ho, hb⟩
      clear hb hr ho
      go_wp2
      go_ret
      exact HF.out
set_option maxRecDepth 100000 in
set_option maxHeartbeats 4000000 in
theorem cone_own {W : World} {B : Nat} {ds : List Dc} {ns : List Int} {Ad : Option Addr} {nd cd : Nat} {Aa : Option Addr} {na : Nat} (ca m : Nat) (h : CyOver W B ds ns Ad nd cd Aa na) (hB : B ≤ W.heap.size) (hB0 : 0 < B) (hK : KindsAt W) (hm : CyAt W m) (hmB : m < B) (t : Tm) (hf : t.fit) (hz9 : t.size ≤ 1073741824) (k num pos : Int) (A1 : Option Addr) (p1 c1 : Nat) (A2 : Option Addr) (p2 c2 : Nat) (hv : TmAt W B t (.agg #[.int .i64 k, .int .i64 num, .int .i64 pos, .slice A1 p1 c1, .slice A2 p2 c2])) (w : World) (hw : Below B W w) :
    Calls Tryd.prog 51 #[CarV Ad nd cd Aa na ca m, .agg #[.int .i64 k, .int .i64 num, .int .i64 pos, .slice A1 p1 c1, .slice A2 p2 c2]] w (TermPost w (t.cy (cyO ds ns))) := by
  obtain ⟨w1, hw1⟩ : ∃ x, ((w.alloc (.cells #[.slice Ad nd cd, .slice Aa na ca, .map (some m)] 99)).alloc (.cells #[.int .i64 k, .int .i64 num, .int .i64 pos, .slice A1 p1 c1, .slice A2 p2 c2] 27)).alloc (.cells zeroTm 27) = x := ⟨_, rfl⟩
  have hb1 : Below w.heap.size w w1 := by rw [← hw1]; exact (((Below.refl _ _).alloc (Nat.le_refl _) _).alloc (by simp) _).alloc (by simp; omega) _
  have hs1 : w1.heap.size = w.heap.size + 3 := by rw [← hw1]; simp
  obtain ⟨z1, z2, _⟩ := two_allocs w (.cells #[.slice Ad nd cd, .slice Aa na ca, .map (some m)] 99) (.cells #[.int .i64 k, .int .i64 num, .int .i64 pos, .slice A1 p1 c1, .slice A2 p2 c2] 27)
  have x0 : w1.heap[w.heap.size]? = some (.cells #[.slice Ad nd cd, .slice Aa na ca, .map (some m)] 99 (0, 0)) := by rw [← hw1, Below.heap_alloc _ _ _ (by simp; omega)]; exact z1
  have x1 : w1.heap[w.heap.size + 1]? = some (.cells #[.int .i64 k, .int .i64 num, .int .i64 pos, .slice A1 p1 c1, .slice A2 p2 c2] 27 (0, 0)) := by rw [← hw1, Below.heap_alloc _ _ _ (by simp)]; exact z2
  have x2 : w1.heap[w.heap.size + 1 + 1]? = some (.cells zeroTm 27 (0, 0)) := by
    rw [← hw1]
    have := heap_alloc_new ((w.alloc (.cells #[.slice Ad nd cd, .slice Aa na ca, .map (some m)] 99)).alloc (.cells #[.int .i64 k, .int .i64 num, .int .i64 pos, .slice A1 p1 c1, .slice A2 p2 c2] 27)) (.cells zeroTm 27)
    simpa using this
  obtain ⟨w2, hw2⟩ : ∃ x, w1.alloc (.cells #[.int .i64 k, .int .i64 num, .int .i64 pos, .slice A1 p1 c1, .slice A2 p2 c2] 27) = x := ⟨_, rfl⟩
  have hb2 : Below w1.heap.size w1 w2 := by rw [← hw2]; exact (Below.refl _ _).alloc (Nat.le_refl _) _
  have x3 : w2.heap[w1.heap.size]? = some (.cells #[.int .i64 k, .int .i64 num, .int .i64 pos, .slice A1 p1 c1, .slice A2 p2 c2] 27 (0, 0)) := by rw [← hw2]; exact heap_alloc_new w1 _
  have hwB : B ≤ w.heap.size := Nat.le_trans hB hw.size
  have HB2 : Hid (Below w.heap.size w w2) := hb1.trans (hb2.mono (by omega))
  have hx2 := (hb2.block _ (heap_some_lt x2)).trans x2
  have HC := Lib.hid (cterms_own ca m h hB hB0 hK hm hmB t hf hz9 k num pos A1 p1 c1 A2 p2 c2 hv w2 (hw.trans (HB2.out.mono hwB)) _ x3)
  have HX2 := Lib.hid hx2
  have HS1 := Lib.hid hs1
  have HS2 : Hid (w1.heap.size < w2.heap.size) := heap_some_lt x3
  have y0 := cell_of_row _ _ 0 _ _ (0, 0) x0
  have y1 := cell_of_row _ _ 1 _ _ (0, 0) x0
  have y2 := cell_of_row _ _ 2 _ _ (0, 0) x0
  have a0 := cell_of_row _ _ 0 _ _ (0, 0) x1
  have a1 := cell_of_row _ _ 1 _ _ (0, 0) x1
  have a2 := cell_of_row _ _ 2 _ _ (0, 0) x1
  have a3 := cell_of_row _ _ 3 _ _ (0, 0) x1
  have a4 := cell_of_row _ _ 4 _ _ (0, 0) x1
  unfold zeroTm at hw1
  unfold CarV at HC ⊢
  clear h hB hB0 hK hm hmB hf hz9 hv hw hb1 hs1 z1 z2 x0 x1 x2 hb2 x3 hwB hx2
  go_enter Tryd.func51, Tryd.ntmps51
  go_wp2_with (fail)
  refine HC.out.mono ?_
  rintro e w3 ⟨v, j1, j2, j3, B1, q1, d1, B2, q2, d2, rfl, hrow, hown, hb3⟩
  have HB3 : Hid (Below w.heap.size w w3) := HB2.out.trans (hb3.mono HB2.out.size)
  have hY := (hb3.block _ (heap_some_lt HX2.out)).trans HX2.out
  rcases hrow.2 with ⟨_, e2⟩ | ⟨gg, cap, cur, rfl, hge, hgg, _⟩
  · omega
  · have hld : (Instr.loadAt 27 (.pointer (some ⟨gg, 0, none⟩))).run Tryd.prog w3 = .ok (.agg #[.int .i64 j1, .int .i64 j2, .int .i64 j3, .slice B1 q1 d1, .slice B2 q2 d2]) w3 :=
      run_loadAt_cells Tryd.underlying27 rfl infoT5 rfl fun j hj => by
        rw [Nat.zero_add]
        have := hrow.cellAt j (by omega)
        rw [this]
        simp
    have HFF : Hid (TermPost w (t.cy (cyO ds ns)) (.returned (.agg #[.int .i64 j1, .int .i64 j2, .int .i64 j3, .slice B1 q1 d1, .slice B2 q2 d2])) (w3.setRow (w.heap.size + 1 + 1) #[.int .i64 j1, .int .i64 j2, .int .i64 j3, .slice B1 q1 d1, .slice B2 q2 d2])) := by
      have h1 := HS1.out
      have h2 := HS2.out
      have h3 := hb3.size
      refine ⟨_, rfl, (hown.kept (fun b p q => setRow_other w3 _ b _ (by omega))).wide (by omega) (by simp [World.setRow]), below_setRow HB3.out (by omega) _⟩
    have Z3 := Lib.hid (setRow_heap w3 (w.heap.size + 1 + 1) _ #[.int .i64 j1, .int .i64 j2, .int .i64 j3, .slice B1 q1 d1, .slice B2 q2 d2] _ _ hY)
    have HLD := Lib.hid hld
    unfold zeroTm at hY
    clear hrow hb3 hown hld y0 y1 y2 a0 a1 a2 a3 a4 hw1 hw2 HC hge hgg
    have ij0 : (0 : Int) < (1 : Int) := by decide
    go_wp2_with (first | (refine wpList_load_at rfl 27 (.tmp 9) rfl (.pointer (some ⟨gg, 0, none⟩)) _ rfl HLD.out ?_) | (refine wpList_store_row rfl 27 (.tmp 4) (.tmp 10) rfl (w.heap.size + 1 + 1) #[.int .i64 j1, .int .i64 j2, .int .i64 j3, .slice B1 q1 d1, .slice B2 q2 d2] rfl rfl 27 zeroTm hY infoT5 rfl (by simp [Value.oneCell']) ?_) | fail)
    exact bodyPost_ret (v := .agg #[.int .i64 j1, .int .i64 j2, .int .i64 j3, .slice B1 q1 d1, .slice B2 q2 d2]) (results_cell_row rfl _ _ (w.heap.size + 1 + 1) 27 _ (0, 0) _ rfl Z3.out Tryd.underlying27 rfl infoT5) rfl HFF.out
set_option maxRecDepth 100000 in
set_option maxHeartbeats 4000000 in
theorem carryT_own {ds : List Dc} {ns : List Int} {Ad : Option Addr} {nd cd : Nat} {Aa : Option Addr} {na : Nat} (ca : Nat) (w : World) (h : CyOver w w.heap.size ds ns Ad nd cd Aa na) (h0 : 0 < w.heap.size) (hK : KindsAt w) (t : Tm) (hf : t.fit) (hz9 : t.size ≤ 1073741824) (k num pos : Int) (A1 : Option Addr) (p1 c1 : Nat) (A2 : Option Addr) (p2 c2 : Nat) (hv : TmAt w w.heap.size t (.agg #[.int .i64 k, .int .i64 num, .int .i64 pos, .slice A1 p1 c1, .slice A2 p2 c2])) :
    Calls Tryd.prog 22 #[.slice Ad nd cd, .slice Aa na ca, .agg #[.int .i64 k, .int .i64 num, .int .i64 pos, .slice A1 p1 c1, .slice A2 p2 c2]] w (TermPost w (t.cy (cyO ds ns))) := by
  obtain ⟨z1, z2, _⟩ := two_allocs w (.cells #[.int .i64 k, .int .i64 num, .int .i64 pos, .slice A1 p1 c1, .slice A2 p2 c2] 27) (.cells zeroTm 27)
  obtain ⟨w1, hw1⟩ : ∃ x, (w.alloc (.cells #[.int .i64 k, .int .i64 num, .int .i64 pos, .slice A1 p1 c1, .slice A2 p2 c2] 27)).alloc (.cells zeroTm 27) = x := ⟨_, rfl⟩
  have hb1 : Below w.heap.size w w1 := by rw [← hw1]; exact ((Below.refl _ _).alloc (Nat.le_refl _) _).alloc (by simp) _
  have hs1 : w1.heap.size = w.heap.size + 2 := by rw [← hw1]; simp
  rw [hw1] at z1 z2
  have HO : Hid (∀ w' m, Below w1.heap.size w1 w' → m < w'.heap.size → CyAt w' m → Calls Tryd.prog 51 #[CarV Ad nd cd Aa na ca m, .agg #[.int .i64 k, .int .i64 num, .int .i64 pos, .slice A1 p1 c1, .slice A2 p2 c2]] w' (TermPost w' (t.cy (cyO ds ns)))) := fun w' m hx hm ha => by
    have hb := hb1.trans (hx.mono hb1.size)
    exact cone_own ca m (h.below hb hb.size) (Nat.le_refl _) (by have := hb.size; omega) (hK.below hb h0) ha hm t hf hz9 k num pos A1 p1 c1 A2 p2 c2 (hv.below hb hb.size) w' (Below.refl _ _)
  have HB1 := Lib.hid hb1
  have HS1 := Lib.hid hs1
  have x1 := z1
  have X2 := Lib.hid z2
  have l1 := heap_some_lt z1
  unfold zeroTm at hw1
  clear h h0 hK hf hz9 hv hb1 hs1 z1 z2
  go_enter Tryd.func22, Tryd.ntmps22
  go_upto_region 1 with (fail)
  have hS : Below w1.heap.size w1 w1.drew := (Below.refl _ _).drew
  refine wp_region_tail 5 (fun w' => Below w1.heap.size w1 w') (fun w1 w2 : World => Below w1.heap.size w1 w2) [(fun (x : Value) (_ : World) => x = (.slice Ad nd cd : Value)), (fun (x : Value) (_ : World) => x = (.slice Aa na ca : Value)), (fun (x : Value) (w : World) => ∃ m, x = CarV Ad nd cd Aa na ca m ∧ m < w.heap.size ∧ CyAt w m), (fun (x : Value) (_ : World) => x = (.agg #[.int .i64 k, .int .i64 num, .int .i64 pos, .slice A1 p1 c1, .slice A2 p2 c2] : Value)), (fun (x : Value) (w : World) => OwnTm w w1.heap.size w.heap.size (t.cy (cyO ds ns)) x)] [⟨some 7, .move (.tmp 0), none, []⟩, ⟨some 8, .move (.tmp 1), none, []⟩, ⟨some 9, .call { callee := .value (.func 50), args := #[.tmp 7, .tmp 8], argTypes := #[22, 54] }, none, [(7, 0), (8, 1)]⟩, ⟨some 10, .load 27 (.tmp 5), none, []⟩, ⟨some 11, .call { callee := .value (.func 51), args := #[.tmp 9, .tmp 10], argTypes := #[99, 27] }, none, [(9, 2), (10, 3)]⟩] [some 7, some 8, some 9, some 10, some 11] [] [] (by kernel_rfl) (by kernel_rfl) (by kernel_rfl) (by kernel_rfl) (by kernel_rfl) (by kernel_rfl) (by kernel_rfl) (by kernel_rfl) ?hrun ?hold ?hS ?hmono ?hsteps ?hfin
  case hrun => exact fun p hp => by cases hp
  case hold => exact fun p hp => by cases hp
  case hS => exact hS
  case hmono =>
    refine MonoL.cons (fun x w1 w2 _ _ _ hx => hx) ?_
    refine MonoL.cons (fun x w1 w2 _ _ _ hx => hx) ?_
    refine MonoL.cons (fun x w1 w2 _ _ hR hx => ?_) ?_
    · obtain ⟨m, q1, q2, q3⟩ := hx; exact ⟨m, q1, Nat.lt_of_lt_of_le q2 hR.size, q3.below hR q2⟩
    refine MonoL.cons (fun x w1 w2 _ _ _ hx => hx) ?_
    refine MonoL.cons (fun x w1 w2 _ _ hR hx => ?_) ?_
    · exact (hx.kept (keptIn_below hR (Nat.le_refl _))).wide (Nat.le_refl _) hR.size
    exact MonoL.nil
  case hsteps =>
    refine StepsT.cons (fun (x : Value) (_ : World) => x = (.slice Ad nd cd : Value)) [] rfl rfl (fun oq hop _ wq hQS => ?_) ?_
    · exact StepFrom.move hop (v := (.slice Ad nd cd : Value)) (by kernel_rfl) (by kernel_rfl) hQS (Below.refl _ _) rfl
    refine StepsT.cons (fun (x : Value) (_ : World) => x = (.slice Aa na ca : Value)) [] rfl rfl (fun oq hop _ wq hQS => ?_) ?_
    · exact StepFrom.move hop (v := (.slice Aa na ca : Value)) (by kernel_rfl) (by kernel_rfl) hQS (Below.refl _ _) rfl
    refine StepsT.cons (fun (x : Value) (w : World) => ∃ m, x = CarV Ad nd cd Aa na ca m ∧ m < w.heap.size ∧ CyAt w m) [(7, (fun (x : Value) (_ : World) => x = (.slice Ad nd cd : Value))), (8, (fun (x : Value) (_ : World) => x = (.slice Aa na ca : Value)))] rfl rfl (fun oq hop _ wq hQS => ?_) ?_
    · refine StepFrom.more_eq ((.slice Ad nd cd : Value)) ?_
      refine StepFrom.more_eq ((.slice Aa na ca : Value)) ?_
      exact StepFrom.call hop (vs := [(.slice Ad nd cd : Value), (.slice Aa na ca : Value)]) (by kernel_rfl) (fun w => enter_cstart _ w) (by kernel_rfl) ((cstart_any Ad nd cd Aa na ca wq).mono fun e w9 h9 => by obtain ⟨m, q1, _, q3, q4, q5⟩ := h9; exact ⟨_, q1, hQS.trans (q5.mono hQS.size), q5, m, rfl, q3, q4⟩)
    refine StepsT.cons (fun (x : Value) (_ : World) => x = (.agg #[.int .i64 k, .int .i64 num, .int .i64 pos, .slice A1 p1 c1, .slice A2 p2 c2] : Value)) [] rfl rfl (fun oq hop _ wq hQS => ?_) ?_
    · exact StepFrom.load hop (p := (.pointer (some ⟨w.heap.size, 0, none⟩) : Value)) (by kernel_rfl) (load_tmrow (h := (hQS.block _ l1).trans x1)) (by kernel_rfl) hQS (Below.refl _ _) rfl
    refine StepsT.cons (fun (x : Value) (w : World) => OwnTm w w1.heap.size w.heap.size (t.cy (cyO ds ns)) x) [(9, (fun (x : Value) (w : World) => ∃ m, x = CarV Ad nd cd Aa na ca m ∧ m < w.heap.size ∧ CyAt w m)), (10, (fun (x : Value) (_ : World) => x = (.agg #[.int .i64 k, .int .i64 num, .int .i64 pos, .slice A1 p1 c1, .slice A2 p2 c2] : Value)))] rfl rfl (fun oq hop _ wq hQS => ?_) ?_
    · refine StepFrom.more fun x9 h9 => ?_
      obtain ⟨m9, rfl, hm9, ha9⟩ := h9
      refine StepFrom.more_eq ((.agg #[.int .i64 k, .int .i64 num, .int .i64 pos, .slice A1 p1 c1, .slice A2 p2 c2] : Value)) ?_
      exact StepFrom.call hop (vs := [(CarV Ad nd cd Aa na ca m9 : Value), (.agg #[.int .i64 k, .int .i64 num, .int .i64 pos, .slice A1 p1 c1, .slice A2 p2 c2] : Value)]) (by kernel_rfl) (fun w => enter_cone _ w) (by kernel_rfl) ((HO.out wq m9 hQS hm9 ha9).mono fun e w9 h9 => by obtain ⟨v, q1, q2, q3⟩ := h9; exact ⟨v, q1, hQS.trans (q3.mono hQS.size), q3, q2.wide hQS.size (Nat.le_refl _)⟩)
    exact StepsT.nil
  case hfin =>
    intro wf hFS
    refine FinalFrom.more fun x7 h7 => ?_
    refine FinalFrom.more fun x8 h8 => ?_
    refine FinalFrom.more fun x9 h9 => ?_
    refine FinalFrom.more fun x10 h10 => ?_
    refine FinalFrom.more fun x11 h11 => ?_
    refine FinalFrom.done ?_
    intro _
    obtain ⟨j1, j2, j3, B1, B2, q1, d1, q2, d2, rfl⟩ := own_shape h11
    have hY := (hFS.block _ (heap_some_lt X2.out)).trans X2.out
    have HFF : Hid (TermPost w (t.cy (cyO ds ns)) (.returned (.agg #[.int .i64 j1, .int .i64 j2, .int .i64 j3, .slice B1 q1 d1, .slice B2 q2 d2])) (wf.setRow (w.heap.size + 1) #[.int .i64 j1, .int .i64 j2, .int .i64 j3, .slice B1 q1 d1, .slice B2 q2 d2])) := by
      have h1 := HS1.out
      exact ⟨_, rfl, (h11.kept (fun b p q => setRow_other wf _ b _ (by omega))).wide (by omega) (by simp [World.setRow]), below_setRow (HB1.out.trans (hFS.mono HB1.out.size)) (by omega) _⟩
    have Z3 := Lib.hid (setRow_heap wf (w.heap.size + 1) _ #[.int .i64 j1, .int .i64 j2, .int .i64 j3, .slice B1 q1 d1, .slice B2 q2 d2] _ _ hY)
    unfold zeroTm at hY
    simp only [Act.put, List.setIfInBounds_toArray, List.set_cons_zero, List.set_cons_succ, List.drop_succ_cons, List.drop_zero]
    refine wpList_store_row rfl 27 (.tmp 6) (.tmp 11) rfl (w.heap.size + 1) #[.int .i64 j1, .int .i64 j2, .int .i64 j3, .slice B1 q1 d1, .slice B2 q2 d2] rfl rfl 27 zeroTm hY infoT5 rfl (by simp [Value.oneCell']) ?_
    clear hS hFS hY h7 h8 h9 h10 h11
    go_wp2
    exact bodyPost_ret (v := .agg #[.int .i64 j1, .int .i64 j2, .int .i64 j3, .slice B1 q1 d1, .slice B2 q2 d2]) (results_cell_row rfl _ _ (w.heap.size + 1) 27 _ (0, 0) _ rfl Z3.out Tryd.underlying27 rfl infoT5) rfl HFF.out
end Go.Proofs.YtfgnnbpbbnnnhaaDoor
