/- Laws. -/
import Derived.Test.YtkijhinhjnbnlaaDoorKpal
import Derived.Test.YtkijhinhjnbnlaaDoorKpao
import Derived.Test.YtkijhinhjnbnlaaDoorKpat
import Derived.Deep.CutBlock
namespace Go.Proofs.YtkijhinhjnbnlaaDoor
open Go.RowKit Go.Maps
theorem tms_one5 {t : Tm} {c0 c1 c2 c3 c4 : Value} {w : World} (h : TmAt w w.heap.size t (.agg #[c0, c1, c2, c3, c4])) : Tms (w.alloc (.cells #[c0, c1, c2, c3, c4] 27)) (w.alloc (.cells #[c0, c1, c2, c3, c4] 27)).heap.size (some ⟨w.heap.size, 0, none⟩) 1 [t] := by
  have hb : Below w.heap.size w (w.alloc (.cells #[c0, c1, c2, c3, c4] 27)) := (Below.refl _ _).alloc (Nat.le_refl _) _
  have hx := heap_alloc_new w (.cells #[c0, c1, c2, c3, c4] 27)
  refine ⟨(fun h => by cases h), fun _ => ⟨w.heap.size, 0, rfl, by simp, ?_⟩⟩
  unfold TmsAt
  refine ⟨⟨_, Five.of hx (o := 0) ⟨rfl, rfl, rfl, rfl, rfl⟩, h.below hb hb.size⟩, ?_⟩
  unfold TmsAt
  trivial
set_option maxRecDepth 100000 in
set_option maxHeartbeats 32000000 in
theorem keeps_of (n sc : Int) (cs : List Int) (A : Option Addr) (nc cc : Nat) (tt : Tm) (s0 s1 s2 s3 s4 : Value) (Ab : Option Addr) (nb cb : Nat) (bs : List Tm) (lift from' : Int) (Al : Option Addr) (nl cl : Nat) (bys : List (List (Int × Int))) (w : World)
    (hK : KindsAt w) (hnc : cs.length = nc) (hcs : Ints w w.heap.size A cs) (ht : TmAt w w.heap.size tt (.agg #[s0, s1, s2, s3, s4])) (hb : Tms w w.heap.size Ab cb bs) (hnb : bs.length = nb) (hls : Levs w w.heap.size Al bys) (hnl : bys.length = nl) (h9 : Bys bys) (ft : tt.fit) (fb : Tm.fitL bs) (hc : Tm.countL [tt] ≤ 1048576) (hcb : Tm.countL bs ≤ 1048576) :
    Calls Tryd.prog 3 #[.int .i64 n, .int .i64 sc, .slice A nc cc, .agg #[s0, s1, s2, s3, s4], .slice Ab nb cb, .int .i64 lift, .int .i64 from', .slice Al nl cl] w (HasPost w true) := by
  have h0 : 0 < w.heap.size := cell_lt (hK 0 (by decide))
  obtain ⟨w1, hw1⟩ : ∃ x, w.alloc (.cells #[s0, s1, s2, s3, s4] 27) = x := ⟨_, rfl⟩
  have hb1 : Below w.heap.size w w1 := by rw [← hw1]; exact (Below.refl _ _).alloc (Nat.le_refl _) _
  have hs1 : w1.heap.size = w.heap.size + 1 := by rw [← hw1]; simp
  have x0 : w1.heap[w.heap.size]? = some (.cells #[s0, s1, s2, s3, s4] 27 (0, 0)) := by rw [← hw1]; exact heap_alloc_new w _
  have hK1 := hK.below hb1 h0
  have HAW := Lib.hid (awake5_any w1 hK1)
  have HK1 := Lib.hid hK1
  have HS1 : Hid (w1.heap.size = w.heap.size + 1) := hs1
  have X1 := Lib.hid x0
  have HT1 := Lib.hid (ht.below hb1 hb1.size)
  have HBY := Lib.hid (hb.below hb1 hb1.size)
  have HL1 := Lib.hid ((hls.below hb1).more hb1.size)
  have HI1 := Lib.hid (ints_more (hcs.below hb1) hb1.size)
  have HE : Hid (∀ w', Below w1.heap.size w1 w' → Below w.heap.size w w') := fun w' hx => hb1.trans (hx.mono hb1.size)
  have H01 : Hid (0 < w1.heap.size) := by show _ < _; omega
  have HX : Hid (∀ w', Below w1.heap.size w1 w' → w'.heap[w.heap.size]? = some (.cells #[s0, s1, s2, s3, s4] 27 (0, 0))) := fun w' hx => (hx.block _ (by omega)).trans x0
  have HNB := Lib.hid hnb
  have HNL := Lib.hid hnl
  have H9 := Lib.hid h9
  have FT := Lib.hid ft
  have FB := Lib.hid fb
  have HC := Lib.hid hc
  have HCB := Lib.hid hcb
  have HRC : Hid (∀ (n' sc' : Int) (t : Tm) (v : Value) (w' : World), Below w1.heap.size w1 w' → t.fit → t.size ≤ 1073741824 → TmAt w' w'.heap.size t v → Calls Tryd.prog 7 #[.int .i64 n', .int .i64 sc', .slice A nc cc, v] w' (HasPost w' (rightCB n' sc' cs t))) := fun n' sc' t v w' hb' hf hd hv =>
    rightC_any n' sc' cs A nc cc t v w' (hK1.below hb' (by omega)) hnc (ints_more ((ints_more (hcs.below hb1) hb1.size).below hb') hb'.size) hf hd hv
  have HG1 : Hid (∀ w', Below w1.heap.size w1 w' → Calls Tryd.prog 6 #[.slice (some ⟨w'.heap.size, 0, none⟩) 1 1] (w'.alloc (.cells #[s0, s1, s2, s3, s4] 27)) (fun e w2 => ∃ b : Bool, e = .returned (.bool b) ∧ (b = false → Tm.countL [tt] ≤ 3000) ∧ Below w1.heap.size w1 w2)) := fun w' hb' => by
    refine (great5_any [tt] _ 1 1 _ rfl hc (tms_one5 ((ht.below hb1 hb1.size).below hb' hb'.size))).mono ?_
    rintro e w2 ⟨b, q1, q2, q3⟩
    exact ⟨b, q1, q2, hb'.trans ((((Below.refl w'.heap.size w').alloc (Nat.le_refl _) _).trans (q3.mono (by simp))).mono hb'.size)⟩
  have HG2 : Hid (∀ w', Below w1.heap.size w1 w' → Calls Tryd.prog 6 #[.slice Ab nb cb] w' (fun e w2 => ∃ b : Bool, e = .returned (.bool b) ∧ (b = false → Tm.countL bs ≤ 3000) ∧ Below w1.heap.size w1 w2)) := fun w' hb' => by
    refine (great5_any bs Ab cb nb _ hnb hcb ((hb.below hb1 hb1.size).below hb' hb'.size)).mono ?_
    rintro e w2 ⟨b, q1, q2, q3⟩
    exact ⟨b, q1, q2, hb'.trans (q3.mono hb'.size)⟩
  clear hK hnc hcs ht hb hnb hls hnl h9 ft fb hc hcb h0 hb1 hs1 x0 hK1
  go_enter Tryd.func3, Tryd.ntmps3
  go_wp2_with (fail)
  refine HAW.out.mono ?_
  rintro e w2 ⟨rfl, hb2⟩
  have HB2 : Hid (Below w1.heap.size w1 w2) := hb2
  clear hw1 HAW hb2
  have x2 := HX.out w2 HB2.out
  have t0 := cell_of_row _ _ 0 _ _ (0, 0) x2
  have t1 := cell_of_row _ _ 1 _ _ (0, 0) x2
  have t2 := cell_of_row _ _ 2 _ _ (0, 0) x2
  have t3 := cell_of_row _ _ 3 _ _ (0, 0) x2
  have t4 := cell_of_row _ _ 4 _ _ (0, 0) x2
  clear x2
  go_wp2_with (fail)
  refine (HG1.out w2 HB2.out).mono ?_
  rintro e w3 ⟨b1, rfl, hc1, hb3⟩
  have HB3 : Hid (Below w1.heap.size w1 w3) := hb3
  have HC1 : Hid (b1 = false → Tm.countL [tt] ≤ 3000) := hc1
  clear t0 t1 t2 t3 t4 hb3 hc1 HG1 HB2
  cases b1 with
  | true =>
    have HF : Hid (HasPost w true (.returned (.bool true)) w3) := ⟨rfl, HE.out _ HB3.out⟩
    go_wp2
    go_ret
    exact HF.out
  | false =>
    go_wp2_with (fail)
    refine (HG2.out w3 HB3.out).mono ?_
    rintro e w4 ⟨b2, rfl, hc2, hb4⟩
    have HB4 : Hid (Below w1.heap.size w1 w4) := hb4
    have HC2 : Hid (b2 = false → Tm.countL bs ≤ 3000) := hc2
    clear hb4 hc2 HG2 HB3
    have HF : Hid (HasPost w true (.returned (.bool true)) w4) := ⟨rfl, HE.out _ HB4.out⟩
    cases b2 with
    | true =>
      go_wp2
      go_ret
      exact HF.out
    | false =>
      by_cases g0 : (3000 : Int) < (nc : Int)
      · go_wp2
        go_ret
        exact HF.out
      by_cases g1 : (20 : Int) < (nl : Int)
      · go_wp2
        go_ret
        exact HF.out
      by_cases g2 : (1000 : Int) < sc
      · go_wp2
        go_ret
        exact HF.out
      by_cases g3 : lift < 0
      · go_wp2
        go_ret
        exact HF.out
      by_cases g4 : (1000 : Int) < lift
      · go_wp2
        go_ret
        exact HF.out
      have hcc : Tm.countL [tt] ≤ 3000 := HC1.out (by first | rfl | trivial)
      have hcc2 : Tm.countL bs ≤ 3000 := HC2.out (by first | rfl | trivial)
      have hsz : tt.size ≤ 3000 := by
        have := Tm.size_le_count tt
        simp only [Tm.countL] at hcc
        omega
      have x4 := HX.out w4 HB4.out
      have t0 := cell_of_row _ _ 0 _ _ (0, 0) x4
      have t1 := cell_of_row _ _ 1 _ _ (0, 0) x4
      have t2 := cell_of_row _ _ 2 _ _ (0, 0) x4
      have t3 := cell_of_row _ _ 3 _ _ (0, 0) x4
      have t4 := cell_of_row _ _ 4 _ _ (0, 0) x4
      have HR1 := Lib.hid (HRC.out n sc tt _ w4 HB4.out FT.out (by omega) (HT1.out.below HB4.out HB4.out.size))
      obtain ⟨rb, hrb⟩ : ∃ x, rightCB n sc cs tt = x := ⟨_, rfl⟩
      rw [hrb] at HR1
      have HSZ : Hid (tt.size ≤ 3000) := hsz
      have HCC : Hid (Tm.countL [tt] ≤ 3000) := hcc
      have HCC2 : Hid (Tm.countL bs ≤ 3000) := hcc2
      have HRB := Lib.hid hrb
      clear x4 hsz hcc hcc2 hrb HC1 HC2 HC HCB
      go_wp2_with (fail)
      refine HR1.out.mono ?_
      rintro e w5 ⟨rfl, hb5⟩
      have HB5 : Hid (Below w1.heap.size w1 w5) := HB4.out.trans (hb5.mono HB4.out.size)
      clear t0 t1 t2 t3 t4 hb5 HR1 HB4 HF
      cases rb with
      | false =>
        have HF : Hid (HasPost w true (.returned (.bool true)) w5) := ⟨rfl, HE.out _ HB5.out⟩
        go_wp2
        go_ret
        exact HF.out
      | true =>
        have HRR : Hid (RightC n sc cs tt) := (rightCB_iff ..).1 HRB.out
        clear HRB
        have hn0 : 0 ≤ n := HRR.out.1
        have hsc0 : 0 ≤ sc := HRR.out.2.1
        have hsz3 := HSZ.out
        have hnb3 : nb ≤ 3000 := by have := Tm.countL_length bs; have := HCC2.out; have := HNB.out; omega
        go_upto_region 5 with (fail)
        go_cut [75] from 61 to 75 (fun s wc => s = .bool false ∧ Below w1.heap.size w1 wc)
        case first =>
          by_cases hf : 0 ≤ from'
          · have hw : IntKind.i64.wrap (sc + lift) = sc + lift := IntWalk.i64_in _ (by omega)
            have HKT : Hid (rightCB n (sc + lift) cs (tt.walk (liftT lift from') 0) = true) := (rightCB_iff ..).2 ⟨hn0, by omega, core_lift (by omega) (by omega) (by omega) tt 0 (by omega) HRR.out.2.2⟩
            have x5 := HX.out w5 HB5.out
            have t0 := cell_of_row _ _ 0 _ _ (0, 0) x5
            have t1 := cell_of_row _ _ 1 _ _ (0, 0) x5
            have t2 := cell_of_row _ _ 2 _ _ (0, 0) x5
            have t3 := cell_of_row _ _ 3 _ _ (0, 0) x5
            have t4 := cell_of_row _ _ 4 _ _ (0, 0) x5
            have HLF := Lib.hid (lift_any tt FT.out _ w5 lift from' (by omega) (HK1.out.below HB5.out H01.out) (HT1.out.below HB5.out HB5.out.size))
            clear x5
            go_wp2_with (fail)
            refine HLF.out.mono ?_
            rintro e w6 ⟨vx, rfl, hvx, hb6⟩
            have HB6 : Hid (Below w1.heap.size w1 w6) := HB5.out.trans (hb6.mono HB5.out.size)
            have HR2 := Lib.hid (HRC.out n (sc + lift) (tt.walk (liftT lift from') 0) vx w6 HB6.out (fit_liftT _ _ tt 0 FT.out) (by rw [size_liftT]; omega) hvx.tmAt)
            rw [HKT.out] at HR2
            clear t0 t1 t2 t3 t4 hvx hb6 HLF
            go_wp2_with (fail)
            refine HR2.out.mono ?_
            rintro e w7 ⟨rfl, hb7⟩
            have HB7 : Hid (Below w1.heap.size w1 w7) := HB6.out.trans (hb7.mono HB6.out.size)
            clear hb7 HR2
            go_wp2
            go_meet
            case rel => exact ⟨by first | rfl | trivial, HB7.out⟩
          · go_wp2
            go_meet
            case rel => exact ⟨by first | rfl | trivial | simp, HB5.out⟩
        case rest =>
          obtain ⟨rfl, hb8⟩ := hcut
          have HB8 := Lib.hid hb8
          clear hb8 HB5
          go_upto_block 0 with (fail)
          go_cut [17, 18] from 80 to 99 (fun f i wc => ∃ b : Bool, f = .bool b ∧ (b = true → (nb : Int) ≤ sc ∧ ∀ t ∈ bs, RightC n (sc - (nb : Int)) cs t) ∧ Below w1.heap.size w1 wc)
          case first =>
            go_wp2_with (fail)
            go_loopw [17, 18] (fun f i wr => ∃ (b : Bool) (k : Nat), k ≤ nb ∧ f = .bool b ∧ i = .int .i64 (k : Int) ∧ (b = true → (nb : Int) ≤ sc ∧ ∀ (j : Nat) (t : Tm), j < k → bs[j]? = some t → RightC n (sc - (nb : Int)) cs t) ∧ Below w1.heap.size w1 wr) (fun _ i _ => nb - (intOf i).toNat)
            case atStart => exact ⟨decide ((nb : Int) ≤ sc), 0, Nat.zero_le _, by first | rfl | trivial, rfl, fun h => ⟨of_decide_eq_true h, fun j t hj => absurd hj (by omega)⟩, HB8.out⟩
            case round =>
              obtain ⟨b, k, hk, rfl, rfl, hbi, hbr⟩ := hrel
              have HBI := Lib.hid hbi
              have HBR := Lib.hid hbr
              clear hbi hbr
              by_cases hlt : k < nb
              · cases b with
                | false =>
                  go_wp2
                  go_meet
                  case rel => exact ⟨false, by first | rfl | trivial, (fun h => by cases h), HBR.out⟩
                | true =>
                  obtain ⟨t, ht⟩ : ∃ t, bs[k]? = some t := ⟨bs[k]'(by have := HNB.out; omega), List.getElem?_eq_getElem (by have := HNB.out; omega)⟩
                  obtain ⟨b, o, v9, rfl, hbB, hfive, htm⟩ := HBY.out.get ht
                  have hbz := HBR.out.size
                  have hsb : t.size ≤ 1073741824 := by
                    have h1 := Tm.sizeL_take bs k t ht
                    have h2 : Tm.sizeL (bs.take (k + 1)) ≤ Tm.sizeL bs := Tm.sizeL_le bs (k + 1)
                    have h3 := Tm.sizeL_le_countL bs fun t _ => Tm.size_le_count t
                    have := HCC2.out
                    omega
                  have HT : Hid (bs[k]? = some t) := ht
                  have HR3 := Lib.hid (HRC.out n (sc - (nb : Int)) t v9 wr HBR.out ((Tm.fitL_iff bs).1 FB.out t (List.mem_of_getElem? ht)) hsb (htm.below HBR.out hbz))
                  obtain ⟨c0', c1', c2', c3', c4', e, f0, f1, f2, f3, f4⟩ := hfive.keep (fun j => HBR.out.cell (p := ⟨b, j, none⟩) hbB)
                  have hgw : b < wr.heap.size := by omega
                  obtain ⟨rb, hrb⟩ : ∃ x, rightCB n (sc - (nb : Int)) cs t = x := ⟨_, rfl⟩
                  rw [hrb] at HR3
                  have HRB := Lib.hid hrb
                  have ij0 : (0 : Int) ≤ (k : Int) := by omega
                  have ij1 : (k : Int) < (nb : Int) := by omega
                  clear hsb hbz hrb htm ht hfive hbB
                  subst e
                  go_wp2_with (fail)
                  refine HR3.out.mono ?_
                  rintro e w9 ⟨rfl, hb9⟩
                  have HB9 : Hid (Below w1.heap.size w1 w9) := HBR.out.trans (hb9.mono HBR.out.size)
                  clear hb9 HR3 f0 f1 f2 f3 f4
                  go_wp2
                  go_roundw
                  case rel => exact ⟨rb, k + 1, by omega, by first | rfl | trivial, by go_num, (fun h => ⟨(HBI.out (by first | rfl | trivial)).1, fun j t2 hj ht2 => by
                    by_cases hj2 : j < k
                    · exact (HBI.out (by first | rfl | trivial)).2 j t2 hj2 ht2
                    · obtain rfl : j = k := by omega
                      obtain rfl : t = t2 := by have := HT.out; rw [this] at ht2; exact Option.some.inj ht2
                      exact (rightCB_iff ..).1 (HRB.out.trans h)⟩), HB9.out⟩
                  case measure => simp [intOf]; omega
              · obtain rfl : k = nb := by omega
                go_wp2
                go_meet
                case rel => exact ⟨b, by first | rfl | trivial, (fun h => ⟨(HBI.out h).1, fun t ht => by
                  obtain ⟨j, hj, rfl⟩ := List.mem_iff_getElem.1 ht
                  exact (HBI.out h).2 j _ (by have := HNB.out; omega) (List.getElem?_eq_getElem hj)⟩), HBR.out⟩
          case rest =>
            obtain ⟨b, rfl, hbi, hbr⟩ := hcut
            have HBI := Lib.hid hbi
            have HBR := Lib.hid hbr
            clear hbi hbr HB8
            go_upto_region 12 with (fail)
            go_cut [113] from 100 to 113 (fun s wc => s = .bool false ∧ Below w1.heap.size w1 wc)
            case first =>
              cases b with
              | false =>
                go_wp2
                go_meet
                case rel => exact ⟨by first | rfl | trivial, HBR.out⟩
              | true =>
                have hfb := HBI.out (by first | rfl | trivial)
                have hbsz : ∀ b ∈ bs, b.size ≤ 3000 := fun b hb => by
                  obtain ⟨j, hj, rfl⟩ := List.mem_iff_getElem.1 hb
                  have h1 := Tm.sizeL_take bs j bs[j] (List.getElem?_eq_getElem hj)
                  have h2 : Tm.sizeL (bs.take (j + 1)) ≤ Tm.sizeL bs := Tm.sizeL_le bs (j + 1)
                  have h3 := Tm.sizeL_le_countL bs fun t _ => Tm.size_le_count t
                  have := HCC2.out
                  omega
                have hnbl := HNB.out
                have HKT : Hid (rightCB n (sc - (nb : Int)) cs (tt.walk (putT bs) 0) = true) := (rightCB_iff ..).2 ⟨hn0, by have := hfb.1; omega, by
                  have h := core_put (n := n) (sc := sc) (cs := cs) (by' := bs) (by omega) (by have := hfb.1; omega) (fun b hb => ⟨by have := hbsz b hb; omega, by rw [hnbl]; exact (hfb.2 b hb).2.2⟩) tt 0 (by omega) HRR.out.2.2
                  rw [hnbl] at h
                  exact h⟩
                have x5 := HX.out _ HBR.out
                have t0 := cell_of_row _ _ 0 _ _ (0, 0) x5
                have t1 := cell_of_row _ _ 1 _ _ (0, 0) x5
                have t2 := cell_of_row _ _ 2 _ _ (0, 0) x5
                have t3 := cell_of_row _ _ 3 _ _ (0, 0) x5
                have t4 := cell_of_row _ _ 4 _ _ (0, 0) x5
                have HPT := Lib.hid (putTm_any tt bs FT.out _ Ab nb cb _ (by omega) (HK1.out.below HBR.out H01.out) (HT1.out.below HBR.out HBR.out.size) hnbl (by omega) (HBY.out.below HBR.out HBR.out.size) (fun b hb => ⟨(Tm.fitL_iff bs).1 FB.out b hb, by have := hbsz b hb; omega⟩))
                have HPS : Hid ((tt.walk (putT bs) 0).size ≤ 9000000) := by
                  have h1 := size_putT (M := 3000) (by omega) hbsz tt 0
                  have h2 : tt.size * 3000 ≤ 3000 * 3000 := Nat.mul_le_mul_right _ hsz3
                  show _ ≤ _
                  omega
                have HPF : Hid ((tt.walk (putT bs) 0).fit) := fit_putT ((Tm.fitL_iff bs).1 FB.out) (by omega) tt 0 FT.out
                clear x5 hfb hbsz hnbl
                go_wp2_with (fail)
                refine HPT.out.mono ?_
                rintro e w6 ⟨vx, rfl, hvx, hb6⟩
                have HB6 : Hid (Below w1.heap.size w1 w6) := HBR.out.trans (hb6.mono HBR.out.size)
                have HR2 := Lib.hid (HRC.out n (sc - (nb : Int)) (tt.walk (putT bs) 0) vx w6 HB6.out HPF.out (by have := HPS.out; omega) hvx.tmAt)
                rw [HKT.out] at HR2
                clear t0 t1 t2 t3 t4 hvx hb6 HPT
                go_wp2_with (fail)
                refine HR2.out.mono ?_
                rintro e w7 ⟨rfl, hb7⟩
                have HB7 : Hid (Below w1.heap.size w1 w7) := HB6.out.trans (hb7.mono HB6.out.size)
                clear hb7 HR2
                go_wp2
                go_meet
                case rel => exact ⟨by first | rfl | trivial, HB7.out⟩
            case rest =>
              obtain ⟨rfl, hb10⟩ := hcut
              have HB10 := Lib.hid hb10
              clear hb10 HBR HBI hnb3
              go_upto_region 14 with (fail)
              go_cut [19] from 114 to 121 (fun s wc => ∃ b : Bool, s = .bool b ∧ (b = true → n ≤ (nl : Int) ∧ tt.lowP 400) ∧ Below w1.heap.size w1 wc)
              case first =>
                by_cases hnl : n ≤ (nl : Int)
                · have x5 := HX.out _ HB10.out
                  have t0 := cell_of_row _ _ 0 _ _ (0, 0) x5
                  have t1 := cell_of_row _ _ 1 _ _ (0, 0) x5
                  have t2 := cell_of_row _ _ 2 _ _ (0, 0) x5
                  have t3 := cell_of_row _ _ 3 _ _ (0, 0) x5
                  have t4 := cell_of_row _ _ 4 _ _ (0, 0) x5
                  have HLO := Lib.hid (low_any tt 400 _ _ FT.out (by omega) (HT1.out.below HB10.out HB10.out.size))
                  obtain ⟨lb, hlb⟩ : ∃ x, lowB 400 tt = x := ⟨_, rfl⟩
                  rw [hlb] at HLO
                  have HLB := Lib.hid hlb
                  clear x5 hlb
                  go_wp2_with (fail)
                  refine HLO.out.mono ?_
                  rintro e w7 ⟨rfl, hb7⟩
                  have HB7 : Hid (Below w1.heap.size w1 w7) := HB10.out.trans (hb7.mono HB10.out.size)
                  clear hb7 HLO t0 t1 t2 t3 t4
                  go_wp2
                  go_meet
                  case rel => exact ⟨lb, by first | rfl | trivial | simp, (fun h => ⟨hnl, (lowB_iff ..).1 (HLB.out.trans h)⟩), HB7.out⟩
                · go_wp2
                  go_meet
                  case rel => exact ⟨false, by first | rfl | trivial | simp, (fun h => by cases h), HB10.out⟩
              case rest =>
                obtain ⟨b, rfl, hbi, hb11⟩ := hcut
                have HBI := Lib.hid hbi
                have HB11 := Lib.hid hb11
                clear hbi hb11 HB10
                go_upto_block 2 with (fail)
                go_cut [19, 20, 21] from 122 to 158 (fun s i j wc => ∃ b : Bool, s = .bool b ∧ (b = true → n ≤ (nl : Int) ∧ tt.lowP 400 ∧ ∀ l ∈ bys, RightS l 8 ∧ ∀ p ∈ l, p.2 ≤ 400) ∧ Below w1.heap.size w1 wc)
                case first =>
                  go_wp2_with (fail)
                  go_loopw [19, 20] (fun f i wr => ∃ (b : Bool) (k : Nat), k ≤ nl ∧ f = .bool b ∧ i = .int .i64 (k : Int) ∧ (b = true → n ≤ (nl : Int) ∧ tt.lowP 400 ∧ ∀ (j : Nat) (l : List (Int × Int)), j < k → bys[j]? = some l → RightS l 8 ∧ ∀ p ∈ l, p.2 ≤ 400) ∧ Below w1.heap.size w1 wr) (fun _ i _ => nl - (intOf i).toNat)
                  case atStart => exact ⟨b, 0, Nat.zero_le _, by first | rfl | trivial, rfl, fun h => ⟨(HBI.out h).1, (HBI.out h).2, fun j t hj => absurd hj (by omega)⟩, HB11.out⟩
                  case round =>
                    obtain ⟨b, k, hk, rfl, rfl, hbi, hbr⟩ := hrel
                    have HBK := Lib.hid hbi
                    have HBR := Lib.hid hbr
                    clear hbi hbr
                    by_cases hlt : k < nl
                    · cases b with
                      | false =>
                        go_wp2
                        go_meet
                        case rel => exact ⟨false, by first | rfl | trivial, (fun h => by cases h), HBR.out⟩
                      | true =>
                        obtain ⟨b, o, rfl, hbB, hc⟩ := HL1.out (by have := HNL.out; omega)
                        obtain ⟨Ai, ci, g1, g2, _, g4⟩ := hc k (by have := HNL.out; omega)
                        obtain ⟨ps, hps⟩ : ∃ ps, bys.getD k [] = ps := ⟨_, rfl⟩
                        have hpl : bys[k]? = some ps := by
                          have hlt2 : k < bys.length := by have := HNL.out; omega
                          rw [← hps, List.getD_eq_getElem?_getD, List.getElem?_eq_getElem hlt2]
                          rfl
                        rw [hps] at g1 g2 g4
                        obtain ⟨r, hrr⟩ : ∃ r : Bool, (r = true ↔ RightS ps 8) := by classical exact ⟨decide (RightS ps 8), by simp⟩
                        have HRG := Lib.hid (right_any Ai ps ci 8 wr (by unfold maxLen; have := H9.out.2 ps (List.mem_of_getElem? hpl); omega) ((g2.below HBR.out).more HBR.out.size) r hrr)
                        obtain ⟨pl, hpl2⟩ : ∃ pl, ps.length = pl := ⟨_, rfl⟩
                        have hpl9 : pl ≤ 1048576 := by rw [← hpl2]; exact H9.out.2 ps (List.mem_of_getElem? hpl)
                        have g1 := (HBR.out.cell (p := ⟨b, o + k, none⟩) hbB).trans g1
                        rw [hpl2] at g1 HRG
                        have G1 := Lib.hid g1
                        have G2 := Lib.hid g2
                        have HPL := Lib.hid hpl2
                        have HPS := Lib.hid hpl
                        have HRS := Lib.hid hrr
                        have ij0 : (0 : Int) ≤ (k : Int) := by omega
                        have ij1 : (k : Int) < (nl : Int) := by omega
                        have hbw : b < wr.heap.size := by have := HBR.out.size; omega
                        have HBB : Hid (b < w1.heap.size) := hbB
                        clear hc g2 g4 hps hpl hpl2 hbB hrr
                        go_wp2_with (fail)
                        refine HRG.out.mono ?_
                        rintro e w9 ⟨rfl, hb9⟩
                        have g1 := (hb9.cell (p := ⟨b, o + k, none⟩) hbw).trans G1.out
                        have HB9 : Hid (Below w1.heap.size w1 w9) := HBR.out.trans (hb9.mono HBR.out.size)
                        have hbw9 : b < w9.heap.size := by have := hb9.size; omega
                        clear hb9 HRG hbw
                        go_wp2_with (fail)
                        go_loopw [19, 21] (fun f i ws => ∃ (b : Bool) (c : Nat), c ≤ pl ∧ f = .bool b ∧ i = .int .i64 (c : Int) ∧ (b = true → r = true ∧ ∀ (j : Nat) (p : Int × Int), j < c → ps[j]? = some p → p.2 ≤ 400) ∧ ws = w9) (fun _ i _ => pl - (intOf i).toNat)
                        case atStart => exact ⟨r, 0, Nat.zero_le _, by first | rfl | trivial, rfl, fun h => ⟨h, fun j t hj => absurd hj (by omega)⟩, rfl⟩
                        case round =>
                          obtain ⟨s, c, hc, rfl, rfl, hsi, rfl⟩ := hrel
                          have HSI := Lib.hid hsi
                          clear hsi
                          by_cases hlt2 : c < pl
                          · cases s with
                            | false =>
                              go_wp2
                              go_roundw
                              case rel => exact ⟨false, c + 1, by omega, by first | rfl | trivial, by go_num, (fun h => by cases h), by first | rfl | trivial⟩
                              case measure => simp [intOf]; omega
                            | true =>
                              obtain ⟨b2, o2, rfl, hb2, hc2⟩ := G2.out (by have := HPL.out; omega)
                              obtain ⟨pp, hpp⟩ : ∃ pp, ps.getD c (0, 0) = pp := ⟨_, rfl⟩
                              have hpl2 : ps[c]? = some pp := by
                                have hlt3 : c < ps.length := by have := HPL.out; omega
                                rw [← hpp, List.getD_eq_getElem?_getD, List.getElem?_eq_getElem hlt3]
                                rfl
                              have z1 := (HB9.out.cell (p := ⟨b2, o2 + c * 2 + 1, none⟩) hb2).trans (hc2 c (by have := HPL.out; omega)).2
                              rw [hpp] at z1
                              have HPP := Lib.hid hpl2
                              have ic0 : (0 : Int) ≤ (c : Int) := by omega
                              have ic1 : (c : Int) < (pl : Int) := by omega
                              clear hpp hpl2 hc2
                              go_wp2
                              go_roundw
                              case rel => exact ⟨decide (pp.2 ≤ 400), c + 1, by omega, by first | rfl | trivial | simp, by go_num, (fun h => ⟨(HSI.out (by first | rfl | trivial)).1, fun j p hj hp => by
                                by_cases hj2 : j < c
                                · exact (HSI.out (by first | rfl | trivial)).2 j p hj2 hp
                                · obtain rfl : j = c := by omega
                                  obtain rfl : pp = p := by have := HPP.out; rw [this] at hp; exact Option.some.inj hp
                                  exact of_decide_eq_true h⟩), by first | rfl | trivial⟩
                              case measure => simp [intOf]; omega
                          · obtain rfl : c = pl := by omega
                            go_wp2
                            go_roundw
                            case rel => exact ⟨s, k + 1, by omega, by first | rfl | trivial, by go_num, (fun h => ⟨(HBK.out (by first | rfl | trivial)).1, (HBK.out (by first | rfl | trivial)).2.1, fun j l hj hl => by
                              by_cases hj2 : j < k
                              · exact (HBK.out (by first | rfl | trivial)).2.2 j l hj2 hl
                              · obtain rfl : j = k := by omega
                                obtain rfl : ps = l := by have := HPS.out; rw [this] at hl; exact Option.some.inj hl
                                have hs := HSI.out h
                                refine ⟨HRS.out.1 hs.1, fun p hp => ?_⟩
                                obtain ⟨j2, hj3, rfl⟩ := List.mem_iff_getElem.1 hp
                                exact hs.2 j2 _ (by have := HPL.out; omega) (List.getElem?_eq_getElem hj3)⟩), HB9.out⟩
                            case measure => simp [intOf]; omega
                    · obtain rfl : k = nl := by omega
                      go_wp2
                      go_meet
                      case rel => exact ⟨b, by first | rfl | trivial, (fun h => ⟨(HBK.out h).1, (HBK.out h).2.1, fun l hl => by
                        obtain ⟨j, hj, rfl⟩ := List.mem_iff_getElem.1 hl
                        exact (HBK.out h).2.2 j _ (by have := HNL.out; omega) (List.getElem?_eq_getElem hj)⟩), HBR.out⟩
                case rest =>
                  obtain ⟨b, rfl, hbi, hbr⟩ := hcut
                  have HB12 := Lib.hid hbr
                  have HBJ := Lib.hid hbi
                  clear hbr hbi HBI HB11
                  cases b with
                  | false =>
                    have HF : Hid (HasPost w true (.returned (.bool true)) wc) := ⟨rfl, HE.out _ HB12.out⟩
                    go_wp2
                    go_ret
                    exact HF.out
                  | true =>
                    have hq := HBJ.out (by first | rfl | trivial)
                    have hKT : Hid (rightCB 8 sc cs (tt.walk (levT bys) 0) = true) := (rightCB_iff ..).2 ⟨by omega, hsc0, core_levels (by omega) hq.2.2 tt 0 HRR.out.2.2 hq.2.1⟩
                    have x5 := HX.out _ HB12.out
                    have t0 := cell_of_row _ _ 0 _ _ (0, 0) x5
                    have t1 := cell_of_row _ _ 1 _ _ (0, 0) x5
                    have t2 := cell_of_row _ _ 2 _ _ (0, 0) x5
                    have t3 := cell_of_row _ _ 3 _ _ (0, 0) x5
                    have t4 := cell_of_row _ _ 4 _ _ (0, 0) x5
                    have HLV := Lib.hid (levels_any tt bys FT.out _ Al nl cl wc (by omega) (HK1.out.below HB12.out H01.out) (HT1.out.below HB12.out HB12.out.size) HNL.out H9.out ((HL1.out.below HB12.out).more HB12.out.size))
                    have HLF : Hid ((tt.walk (levT bys) 0).fit) := fit_levN (N := 9) (by omega) (fun b hb => (hq.2.2 b hb).1.1) tt 0 FT.out (by
                      have := HCC.out
                      simp only [Tm.countL] at this
                      omega)
                    clear x5 hq
                    go_wp2_with (fail)
                    refine HLV.out.mono ?_
                    rintro e w13 ⟨vx, rfl, hvx, hb13⟩
                    have HB13 : Hid (Below w1.heap.size w1 w13) := HB12.out.trans (hb13.mono HB12.out.size)
                    have HR2 := Lib.hid (HRC.out 8 sc (tt.walk (levT bys) 0) vx w13 HB13.out HLF.out (by rw [size_levT]; omega) hvx.tmAt)
                    rw [hKT.out] at HR2
                    clear t0 t1 t2 t3 t4 hvx hb13 HLV
                    go_wp2_with (fail)
                    refine HR2.out.mono ?_
                    rintro e w14 ⟨rfl, hb14⟩
                    have HF : Hid (HasPost w true (.returned (.bool true)) w14) := ⟨rfl, HE.out _ (HB13.out.trans (hb14.mono HB13.out.size))⟩
                    clear hb14 HR2
                    go_wp2
                    go_ret
                    exact HF.out
end Go.Proofs.YtkijhinhjnbnlaaDoor
