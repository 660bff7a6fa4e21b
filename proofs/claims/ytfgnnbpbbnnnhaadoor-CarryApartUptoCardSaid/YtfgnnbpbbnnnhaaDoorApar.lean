/- Laws. -/
import Derived.Test.YtfgnnbpbbnnnhaaDoorApap
import Derived.Test.YtfgnnbpbbnnnhaaDoorApaq
import Derived.Deep.CutBlock
namespace Go.Proofs.YtfgnnbpbbnnnhaaDoor
open Go.RowKit Go.Maps
theorem infoB9 : (Tryd.prog.info? 4).map (fun i => (i.zero, i.size, i.bytes)) = some (some (.bool false), 1, 1) := by kernel_rfl
set_option maxRecDepth 100000 in
set_option maxHeartbeats 16000000 in
theorem apart_of (ds : List Dc) (Ad : Option Addr) (nd cd : Nat) (w : World) (hK : KindsAt w) (hd : Dcs w w.heap.size Ad cd ds) (hnd : ds.length = nd) (hn9 : nd ≤ 1048576) (hok : ∀ d ∈ ds, d.ok) (hsum : cntSum ds ≤ 1099511627776) :
    Calls Tryd.prog 6 #[.slice Ad nd cd] w (HasPost w true) := by
  obtain ⟨iT, hT, tz0, tz1, tz2⟩ := info_parts infoT9
  obtain ⟨iB, hB, bz0, bz1, bz2⟩ := info_parts infoB9
  have h0 : 0 < w.heap.size := cell_lt (hK 0 (by decide))
  have hsm : ∀ d ∈ ds, d.mems.length ≤ 1048576 ∧ d.ctors.length ≤ 1048576 := fun d hd => ⟨(hok d hd).2.2.2.2.1, (hok d hd).2.2.2.2.2.2.1⟩
  have HK := Lib.hid hK
  have HD := Lib.hid hd
  have HND := Lib.hid hnd
  have HOK := Lib.hid hok
  have HSM := Lib.hid hsm
  have HSUM := Lib.hid hsum
  clear hK hd hnd hok hsm hsum
  go_enter Tryd.func6, Tryd.ntmps6
  go_wp2_with (fail)
  refine (awake21_any w HK.out).mono ?_
  rintro e w1 ⟨rfl, hb1⟩
  have HB1 := Lib.hid hb1
  clear hb1
  go_wp2_with (fail)
  refine (declsOf_any ds Ad cd nd w1 HND.out hn9 HOK.out (HD.out.below HB1.out HB1.out.size)).mono ?_
  rintro e w2 ⟨r, rfl, hb2⟩
  have HB2 : Hid (Below w.heap.size w w2) := HB1.out.trans (hb2.mono HB1.out.size)
  clear hb2
  by_cases hr : (1500 : Int) < r
  · go_wp2
    go_ret
    exact ⟨rfl, HB2.out⟩
  · have hr2 : decide ((1500 : Int) < r) = false := by simpa using hr
    clear hr
    go_wp2_with (fail)
    refine (carryAt_any ds Ad nd cd w2 (HD.out.below HB2.out HB2.out.size) HND.out hn9 HSM.out HSUM.out).mono ?_
    rintro e w3 ⟨va, rfl, hown, hb3⟩
    have HB3 : Hid (Below w.heap.size w w3) := HB2.out.trans (hb3.mono HB2.out.size)
    obtain ⟨Aa, ca, rfl, hca, hI⟩ := ints_of_own9 hown (cyB_length ds nd)
    have HI := Lib.hid hI
    clear hown hb3 hI hr2
    go_wp2_with (fail)
    go_loopw [4, 5] (fun s i wr => ∃ k : Nat, k ≤ nd ∧ i = .int .i64 (k : Int) ∧ s = .int .i64 (cntSum (ds.take k) : Int) ∧ Below w3.heap.size w3 wr) (fun _ i _ => nd - (intOf i).toNat)
    case atStart => exact ⟨0, Nat.zero_le _, rfl, rfl, Below.refl _ _⟩
    case round =>
      obtain ⟨k, hk, rfl, rfl, hb⟩ := hrel
      have hbz := hb.size
      by_cases hlt : k < nd
      · obtain ⟨d, hdk⟩ : ∃ d, ds[k]? = some d := ⟨_, List.getElem?_eq_getElem (by rw [HND.out]; exact hlt)⟩
        obtain ⟨b, o, cs, rfl, hbB, hdc, hce, hld⟩ := HD.out.get hdk
        have hld1 := hld wr (HB3.out.trans (hb.mono HB3.out.size))
        obtain ⟨hm9, hc9⟩ := HSM.out d (List.mem_of_getElem? hdk)
        have hct := cntSum_take ds k d hdk
        have hle1 := cntSum_le ds (k + 1)
        have hsum9 := HSUM.out
        obtain ⟨s, hs⟩ : ∃ s, cntSum (ds.take k) = s := ⟨_, rfl⟩
        obtain ⟨cn, hcn⟩ : ∃ c, d.cnt = c := ⟨_, rfl⟩
        have HCT : Hid (∀ w', Calls Tryd.prog 28 #[.agg cs] w' (fun e w9 => e = .returned (.int .i64 (cn : Int)) ∧ Below w'.heap.size w' w9)) := fun w' => by rw [← hcn]; exact count_any d cs _ w' w hdc hm9 hc9
        have HSS : Hid (cntSum (ds.take (k + 1)) = s + cn) := by show _ = _; rw [hct, hs, hcn]
        have ws : IntKind.i64.wrap ((s : Int) + (cn : Int)) = ((s + cn : Nat) : Int) := by rw [IntWalk.i64_in _ (by omega)]; omega
        have HB := Lib.hid hb
        rw [hs]
        have ij0 : (0 : Int) ≤ (k : Int) := by omega
        have ij1 : (k : Int) < (nd : Int) := by omega
        clear hdk hdc hce hld hb hct hle1 hsum9 hs hcn hm9 hc9
        go_wp2_with (first | (refine wpList_load_at rfl 43 (.tmp 29) rfl (.pointer (some ⟨b, o + k * 16, none⟩)) _ rfl hld1 ?_) | fail)
        refine (HCT.out _).mono ?_
        rintro e w5 ⟨rfl, hb5⟩
        have HB5 : Hid (Below w3.heap.size w3 w5) := HB.out.trans (hb5.mono hbz)
        clear hb5 HCT hld1
        go_wp2
        go_roundw
        case rel => exact ⟨k + 1, by omega, by go_num, by rw [HSS.out]; rw [Int.natCast_add], HB5.out⟩
        case measure => simp [intOf]; omega
      · obtain rfl : k = nd := by omega
        have HB4 := Lib.hid hb
        have hal : cntSum (ds.take k) = cntSum ds := by rw [List.take_of_length_le (by rw [HND.out]; omega)]
        obtain ⟨all, hall⟩ : ∃ a, cntSum ds = a := ⟨_, rfl⟩
        rw [hal, hall]
        have hall9 : all ≤ 1099511627776 := by rw [← hall]; exact HSUM.out
        have HALL := Lib.hid hall
        clear hb hal hall
        go_wp2_with (at_make; refine wpList_make_row _ rfl _ _ 62 rfl 4 iB (.bool false) Tryd.underlying62 hB bz0 bz1 rfl .i64 .i64 all rfl rfl (by rw [bz2]; omega) (by omega) ?_)
        obtain ⟨w4, hw4⟩ : ∃ x, wr.alloc (.cells (madeCells #[.bool false] all) 4) = x := ⟨_, rfl⟩
        have x4 : w4.heap[wr.heap.size]? = some (.cells (madeCells #[.bool false] all) 4 (0, 0)) := by rw [← hw4]; exact heap_alloc_new wr _
        have hb4 : Below w3.heap.size w3 w4 := by rw [← hw4]; exact HB4.out.alloc HB4.out.size _
        rw [hw4]
        obtain ⟨gs, hgs⟩ : ∃ g, wr.heap.size = g := ⟨_, rfl⟩
        rw [hgs] at x4 ⊢
        have HGS : Hid (w3.heap.size ≤ gs) := by rw [← hgs]; exact HB4.out.size
        have X4 := Lib.hid x4
        have HB5 := Lib.hid hb4
        clear hw4 x4 hb4 hgs hlt hk
        go_wp2_with (fail)
        go_loopw [7] (fun i wr => ∃ j : Nat, j ≤ k ∧ i = .int .i64 (j : Int) ∧ Below w3.heap.size w3 wr ∧ ∃ sc, wr.heap[gs]? = some (.cells sc 4 (0, 0)) ∧ Seen (fun x => x < cntSum (ds.take j)) all sc) (fun i _ => k - (intOf i).toNat)
        case atStart => exact ⟨0, Nat.zero_le _, rfl, HB5.out, _, X4.out, (seen_made all).mono fun _ h => h.elim⟩
        case round =>
          obtain ⟨j, hj, rfl, hb, sc, hsc, hseen⟩ := hrel
          clear hbz
          have hbz := hb.size
          by_cases hlt : j < k
          · obtain ⟨d, hdk⟩ : ∃ d, ds[j]? = some d := ⟨_, List.getElem?_eq_getElem (by rw [HND.out]; exact hlt)⟩
            obtain ⟨b, o, cs, rfl, hbB, hdc, hce, _⟩ := HD.out.get hdk
            obtain ⟨hm9, hc9⟩ := HSM.out d (List.mem_of_getElem? hdk)
            obtain ⟨a0, a1, a2, a3, a4, b0, b1, b2, b3, b4, Ap, As, Am, Ac, cp, cz, cm, cc, rfl, _⟩ := hdc
            obtain ⟨g, hg⟩ : ∃ g, wr.heap.size = g := ⟨_, rfl⟩
            obtain ⟨M, hM⟩ : ∃ x, d.mems.length = x := ⟨_, rfl⟩
            obtain ⟨C, hC⟩ : ∃ x, d.ctors.length = x := ⟨_, rfl⟩
            obtain ⟨kd, hkd⟩ : ∃ x, d.kind = x := ⟨_, rfl⟩
            rw [hM] at hm9
            rw [hC] at hc9
            have HW : Hid (∀ w', Below g wr w' → w'.cell? ⟨b, o + j * 16, none⟩ = some (.int .i64 kd) ∧ w'.cell? ⟨b, o + j * 16 + 14, none⟩ = some (.slice Am M cm) ∧ w'.cell? ⟨b, o + j * 16 + 15, none⟩ = some (.slice Ac C cc)) := fun w' hw => by
              have hB : Below w.heap.size w w' := HB3.out.trans ((hb.trans (hw.mono (by omega))).mono HB3.out.size)
              have e0 := (hB.cell (p := ⟨b, _, none⟩) hbB).trans (hce 0 (by decide))
              have e14 := (hB.cell (p := ⟨b, _, none⟩) hbB).trans (hce 14 (by decide))
              have e15 := (hB.cell (p := ⟨b, _, none⟩) hbB).trans (hce 15 (by decide))
              rw [← hkd, ← hM, ← hC]
              exact ⟨e0, e14, e15⟩
            have HDK := Lib.hid hdk
            have HG := Lib.hid hg
            have HM := Lib.hid hM
            have HC := Lib.hid hC
            have HKD := Lib.hid hkd
            have HBW := Lib.hid hb
            have HSC := Lib.hid hsc
            have HSEEN := Lib.hid hseen
            have ij0 : (0 : Int) ≤ (j : Int) := by omega
            have ij1 : (j : Int) < (k : Int) := by omega
            obtain ⟨q0, q14, q15⟩ := HW.out wr (Below.refl _ _)
            clear hdk hbB hce hb hsc hseen hM hC hkd hg
            have HN := Lib.hid name21_any
            unfold nameV at HN
            rename World => wA
            go_upto_if 46 with (fail)
            obtain ⟨bk, hbk⟩ : ∃ x, (kd == 3) = x := ⟨_, rfl⟩
            rw [hbk]
            have HBK := Lib.hid hbk
            clear hbk
            go_cut [8, 9, 10] from 47 to 100 (fun u m c wc => wc.ownsRow g 27 5 u d.nn (nmCells d j d.nn) ∧ Below g wA wc)
            case first =>
              cases bk with
              | true =>
                have H3 : Hid (kd = 3) := by have h := HBK.out; simpa [Hid] using h
                have H3D : Hid (d.kind = 3) := HKD.out.trans H3.out
                go_wp2_with (fail)
                go_loopw [8, 9] (fun u m wc => ∃ q : Nat, q ≤ M ∧ m = .int .i64 (q : Int) ∧ Below g wA wc ∧ wc.ownsRow g 27 5 u (2 * q) (nmCells d j (2 * q))) (fun _ m _ => M - (intOf m).toNat)
                case atStart => exact ⟨0, Nat.zero_le _, rfl, Below.refl _ _, own_nil _ _ _ _⟩
                case round =>
                  obtain ⟨q, hq, rfl, hbq, hrow⟩ := hrel
                  obtain ⟨Av, nv, cv, rfl⟩ := own_slice hrow
                  have hqz := hbq.size
                  have hg9 := HG.out
                  have HBQ := Lib.hid hbq
                  have HROW := Lib.hid hrow
                  obtain ⟨p0, p14, p15⟩ := HW.out wr hbq
                  clear hbq hrow q0 q14 q15
                  by_cases hlt9 : q < M
                  · go_wp2_with (fail)
                    refine (HN.out 8 j q _).mono ?_
                    rintro e w6 ⟨rfl, hb6⟩
                    have hz6 := hb6.size
                    have HB6 : Hid (Below g wA w6) := HBQ.out.trans (hb6.mono (by omega))
                    have HR6 := Lib.hid (own9_below HROW.out hb6)
                    clear hb6
                    go_wp2_with (fail)
                    refine (HN.out 10 j q _).mono ?_
                    rintro e w7 ⟨rfl, hb7⟩
                    have hz7 := hb7.size
                    have HB7 : Hid (Below g wA w7) := HB6.out.trans (hb7.mono (by omega))
                    have HR7 := Lib.hid (own9_below HR6.out hb7)
                    clear hb7
                    go_wp2_with (at_builtin; refine wpList_append_own_at _ rfl _ _ 25 rfl g 27 iT _ 5 72 Tryd.underlying25 hT tz0 tz1 tz2 rfl (by decide) _ (2 * q) _ rfl (HR7.out.alloc _) ⟨w7.heap.size, 0, none⟩ 2 2 _ rfl rfl (World.news_of_block (heap_alloc_new _ _)) (by simp [Value.oneCell']) ?c1 ?c2 ?c3 ?_)
                    case c1 => unfold maxLen; omega
                    case c2 => omega
                    case c3 => simp; omega
                    intro v' w8 hown8 hgrow8 _ _
                    have HB8 : Hid (Below g wA w8) := (HB7.out.alloc (by omega) _).grown hgrow8 (by simp; omega) (fun b e => (HR7.out.lt b e).1)
                    have HR8 : Hid (w8.ownsRow g 27 5 v' (2 * (q + 1)) (nmCells d j (2 * (q + 1)))) := by
                      show World.ownsRow _ _ _ _ _ _ _
                      rw [nm_two j H3D.out (by rw [HM.out]; exact hlt9)]
                      exact hown8
                    clear hown8 hgrow8
                    go_wp2
                    go_roundw
                    case rel => exact ⟨q + 1, by omega, by go_num, HB8.out, HR8.out⟩
                    case measure => simp [intOf]; omega
                  · obtain rfl : M = q := by omega
                    clear hlt9
                    go_wp2_with (fail)
                    go_loopw [8, 10] (fun u m wc => ∃ c : Nat, c ≤ C ∧ m = .int .i64 (c : Int) ∧ Below g wA wc ∧ wc.ownsRow g 27 5 u (2 * M + c) (nmCells d j (2 * M + c))) (fun _ m _ => C - (intOf m).toNat)
                    case atStart => exact ⟨0, Nat.zero_le _, rfl, HBQ.out, HROW.out⟩
                    case round =>
                      clear HBQ HROW hqz p0 p14 p15
                      obtain ⟨c, hc, rfl, hbq, hrow⟩ := hrel
                      obtain ⟨Av, nv, cv, rfl⟩ := own_slice hrow
                      have hqz := hbq.size
                      have HBQ := Lib.hid hbq
                      have HROW := Lib.hid hrow
                      obtain ⟨p0, p14, p15⟩ := HW.out wr hbq
                      clear hbq hrow
                      by_cases hlt9 : c < C
                      · go_wp2_with (fail)
                        refine (HN.out 9 j c _).mono ?_
                        rintro e w6 ⟨rfl, hb6⟩
                        have hz6 := hb6.size
                        have HB6 : Hid (Below g wA w6) := HBQ.out.trans (hb6.mono (by omega))
                        have HR6 := Lib.hid (own9_below HROW.out hb6)
                        clear hb6
                        go_wp2_with (at_builtin; refine wpList_append_own_at _ rfl _ _ 25 rfl g 27 iT _ 5 72 Tryd.underlying25 hT tz0 tz1 tz2 rfl (by decide) _ (2 * M + c) _ rfl (HR6.out.alloc _) ⟨w6.heap.size, 0, none⟩ 1 1 _ rfl rfl (World.news_of_block (heap_alloc_new _ _)) (by simp [Value.oneCell']) ?c1 ?c2 ?c3 ?_)
                        case c1 => unfold maxLen; omega
                        case c2 => omega
                        case c3 => simp; omega
                        intro v' w8 hown8 hgrow8 _ _
                        have HB8 : Hid (Below g wA w8) := (HB6.out.alloc (by omega) _).grown hgrow8 (by simp; omega) (fun b e => (HR6.out.lt b e).1)
                        have HR8 : Hid (w8.ownsRow g 27 5 v' (2 * M + (c + 1)) (nmCells d j (2 * M + (c + 1)))) := by
                          show World.ownsRow _ _ _ _ _ _ _
                          have h9 := nm_ctor j H3D.out (c := c) (by rw [HC.out]; exact hlt9)
                          rw [HM.out] at h9
                          rw [h9]
                          exact hown8
                        clear hown8 hgrow8
                        go_wp2
                        go_roundw
                        case rel => exact ⟨c + 1, by omega, by go_num, HB8.out, HR8.out⟩
                        case measure => simp [intOf]; omega
                      · obtain rfl : C = c := by omega
                        clear hlt9
                        go_wp2_with (fail)
                        go_meet
                        case rel =>
                          refine ⟨?_, HBQ.out⟩
                          rw [nn_three9 H3D.out, HM.out, HC.out]
                          exact HROW.out
              | false =>
                have H3 : Hid (kd ≠ 3) := by have h := HBK.out; simpa [Hid] using h
                obtain ⟨b1, hb1⟩ : ∃ x, (kd == 1) = x := ⟨_, rfl⟩
                obtain ⟨b2, hb2⟩ : ∃ x, (kd == 2) = x := ⟨_, rfl⟩
                have hone : b1 = true ∨ b2 = true → Hid (kd = 1 ∨ kd = 2) := fun h => by
                  show _ ∨ _
                  rw [← hb1, ← hb2] at h
                  simpa using h
                have hnone : b1 = false → b2 = false → Hid (kd ≠ 1 ∧ kd ≠ 2) := fun h h' => by
                  show _ ∧ _
                  rw [← hb1] at h
                  rw [← hb2] at h'
                  exact ⟨by simpa using h, by simpa using h'⟩
                have HONE := Lib.hid hone
                have HNONE := Lib.hid hnone
                clear hone hnone
                have hg9 := HG.out
                cases b1 with
                | true =>
                  have H1 := HONE.out (Or.inl rfl)
                  go_wp2_with (fail)
                  refine (HN.out 3 j 0 _).mono ?_
                  rintro e w6 ⟨rfl, hb6⟩
                  have hz6 := hb6.size
                  have HB6 : Hid (Below g wA w6) := (Below.refl g wA).trans (hb6.mono (by omega))
                  have HR6 := Lib.hid (own_nil w6 g 27 5)
                  clear hb6
                  go_wp2_with (at_builtin; refine wpList_append_own_at _ rfl _ _ 25 rfl g 27 iT _ 5 72 Tryd.underlying25 hT tz0 tz1 tz2 rfl (by decide) _ 0 _ rfl (HR6.out.alloc _) ⟨w6.heap.size, 0, none⟩ 1 1 _ rfl rfl (World.news_of_block (heap_alloc_new _ _)) (by simp [Value.oneCell']) ?c1 ?c2 ?c3 ?_)
                  case c1 => unfold maxLen; omega
                  case c2 => omega
                  case c3 => simp; omega
                  intro v' w8 hown8 hgrow8 _ _
                  have HB8 : Hid (Below g wA w8) := (HB6.out.alloc (by omega) _).grown hgrow8 (by simp; omega) (fun b e => (HR6.out.lt b e).1)
                  have HR8 : Hid (w8.ownsRow g 27 5 v' d.nn (nmCells d j d.nn)) := by
                    show World.ownsRow _ _ _ _ _ _ _
                    rw [nn_one9 (by rw [HKD.out]; exact H1.out), nm_one j (by rw [HKD.out]; exact H1.out)]
                    exact hown8
                  clear hown8 hgrow8
                  go_wp2_with (fail)
                  go_meet
                  case rel => exact ⟨HR8.out, HB8.out⟩
                | false =>
                  cases b2 with
                  | true =>
                    have H1 := HONE.out (Or.inr rfl)
                    go_wp2_with (fail)
                    refine (HN.out 3 j 0 _).mono ?_
                    rintro e w6 ⟨rfl, hb6⟩
                    have hz6 := hb6.size
                    have HB6 : Hid (Below g wA w6) := (Below.refl g wA).trans (hb6.mono (by omega))
                    have HR6 := Lib.hid (own_nil w6 g 27 5)
                    clear hb6
                    go_wp2_with (at_builtin; refine wpList_append_own_at _ rfl _ _ 25 rfl g 27 iT _ 5 72 Tryd.underlying25 hT tz0 tz1 tz2 rfl (by decide) _ 0 _ rfl (HR6.out.alloc _) ⟨w6.heap.size, 0, none⟩ 1 1 _ rfl rfl (World.news_of_block (heap_alloc_new _ _)) (by simp [Value.oneCell']) ?c1 ?c2 ?c3 ?_)
                    case c1 => unfold maxLen; omega
                    case c2 => omega
                    case c3 => simp; omega
                    intro v' w8 hown8 hgrow8 _ _
                    have HB8 : Hid (Below g wA w8) := (HB6.out.alloc (by omega) _).grown hgrow8 (by simp; omega) (fun b e => (HR6.out.lt b e).1)
                    have HR8 : Hid (w8.ownsRow g 27 5 v' d.nn (nmCells d j d.nn)) := by
                      show World.ownsRow _ _ _ _ _ _ _
                      rw [nn_one9 (by rw [HKD.out]; exact H1.out), nm_one j (by rw [HKD.out]; exact H1.out)]
                      exact hown8
                    clear hown8 hgrow8
                    go_wp2_with (fail)
                    go_meet
                    case rel => exact ⟨HR8.out, HB8.out⟩
                  | false =>
                    have H1 := HNONE.out rfl rfl
                    go_wp2_with (fail)
                    go_meet
                    case rel =>
                      refine ⟨?_, Below.refl _ _⟩
                      rw [nn_none9 (fun h => H3.out (HKD.out.symm.trans h)) (fun h => H1.out.1 (HKD.out.symm.trans h)) (fun h => H1.out.2 (HKD.out.symm.trans h))]
                      exact own_nil _ _ _ _
            case rest =>
              obtain ⟨hnm, hbc⟩ := hcut
              obtain ⟨An, cn, rfl, _⟩ := own_read9 hnm
              obtain ⟨N, hN⟩ : ∃ x, d.nn = x := ⟨_, rfl⟩
              obtain ⟨S, hS⟩ : ∃ x, cntSum (ds.take j) = x := ⟨_, rfl⟩
              rw [hN] at hnm ⊢
              have hgg := heap_some_lt HSC.out
              rw [HG.out] at hgg
              have HGG := Lib.hid hgg
              have hbw := HBW.out.trans (hbc.mono (by rw [← HG.out]; exact HBW.out.size))
              have hscc := (hbc.block _ hgg).trans HSC.out
              have hsn := HSEEN.out
              rw [hS] at hsn
              have HBC := Lib.hid hbw
              have HNM := Lib.hid hnm
              have HSCC := Lib.hid hscc
              have HSN := Lib.hid hsn
              have HN9 := Lib.hid hN
              have HS9 := Lib.hid hS
              have HST : Hid (cntSum (ds.take (j + 1)) = S + d.cnt) := by show _ = _; rw [cntSum_take ds j d HDK.out, hS]
              have HTL : Hid (∀ (w' : World) (n p x : Int), Below w3.heap.size w3 w' → cyO ds (cyB ds k) n (j : Int) p = some x → Calls Tryd.prog 22 #[.slice (some ⟨b, o, none⟩) k cd, .slice Aa k ca, .agg #[.int .i64 n, .int .i64 (j : Int), .int .i64 p, .slice none 0 0, .slice none 0 0]] w' (fun e w9 => ∃ (A1 : Option Addr) (p1 c1 : Nat) (A2 : Option Addr) (c2 : Nat), e = .returned (.agg #[.int .i64 3, .int .i64 x, .int .i64 0, .slice A1 p1 c1, .slice A2 0 c2]) ∧ Below w'.heap.size w' w9)) := fun w' n p x hx ho => by
                have hbx := HB3.out.trans (hx.mono HB3.out.size)
                have hz3 := HB3.out.size
                have hz4 := hx.size
                have := carryT_leaf ca w' ⟨HD.out.below hbx hbx.size, HND.out, (HI.out.below hx).more hx.size, cyB_length _ _, cyB_good HSUM.out, HSM.out⟩ (by omega) (HK.out.below hbx h0) n j p [] (nameV_fit n j p (by unfold Rng; omega)) none 0 0 none 0 (nameV_at w' w'.heap.size n j p)
                rw [ho] at this
                exact this
              have hg9 := HG.out
              have hN9 : N ≤ 3145729 := by
                have h1 := nn_le9 d
                rw [HM.out, HC.out, hN] at h1
                omega
              clear hnm hbc hgg hbw hscc hsn hN hS q0 q14 q15
              go_wp2_with (fail)
              go_loopw [11] (fun m wr => ∃ q : Nat, q ≤ N ∧ m = .int .i64 (q : Int) ∧ Below w3.heap.size w3 wr ∧ wr.ownsRow g 27 5 (.slice An N cn) N (nmCells d j N) ∧ ∃ sc, wr.heap[gs]? = some (.cells sc 4 (0, 0)) ∧ Seen (fun x => x < S ∨ ∃ r, r < q ∧ x = S + d.no r) all sc) (fun m _ => N - (intOf m).toNat)
              case atStart => exact ⟨0, Nat.zero_le _, rfl, HBC.out, HNM.out, _, HSCC.out, HSN.out.mono fun _ h => Or.inl h⟩
              case round =>
                clear HBC HNM HSCC HSN HSEEN HSC sc
                obtain ⟨q, hq, rfl, hbq, hnm, sc, hsc, hsn⟩ := hrel
                have hqz := hbq.size
                have HBQ := Lib.hid hbq
                have HNM := Lib.hid hnm
                have HSC := Lib.hid hsc
                have HSN := Lib.hid hsn
                clear hbq hsc hsn
                by_cases hlt9 : q < N
                · obtain ⟨An', cn', e, _, hrd⟩ := own_read9 hnm
                  obtain ⟨gn, hgn, hgB, hgl, hcl⟩ := hrd (by omega)
                  obtain ⟨rfl, rfl⟩ : An = An' ∧ cn = cn' := by injection e with e1 _ e2; exact ⟨e1, e2⟩
                  subst hgn
                  obtain ⟨kq, hkq⟩ : ∃ x, d.nk q = x := ⟨_, rfl⟩
                  obtain ⟨aq, haq⟩ : ∃ x, d.na q = x := ⟨_, rfl⟩
                  have hld : (Instr.loadAt 27 (.pointer (some ⟨gn, q * 5, none⟩))).run Tryd.prog wr = .ok (.agg #[.int .i64 kq, .int .i64 (j : Int), .int .i64 (aq : Int), .slice none 0 0, .slice none 0 0]) wr := run_loadAt_cells Tryd.underlying27 rfl infoT5 rfl fun jj hjj => by
                    rw [hcl _ (by omega), nmCells_get d j N q hlt9 jj hjj, hkq, haq]
                    rw [List.getElem?_toArray]
                  obtain ⟨nq, hnq⟩ : ∃ x, d.no q = x := ⟨_, rfl⟩
                  have hoq : cyO ds (cyB ds k) kq (j : Int) (aq : Int) = some (((S + nq : Nat) : Int)) := by
                    have h := Dc.no_name HDK.out (cyB_get (ds := ds) (k := k) hlt) (q := q) (by rw [HN9.out]; exact hlt9)
                    rw [hkq, haq, hnq, HS9.out] at h
                    rw [h, Int.natCast_add]
                  have hnl : nq < d.cnt := by rw [← hnq]; exact Dc.no_lt (by rw [HN9.out]; exact hlt9)
                  have hal9 : S + nq < all := by
                    have h1 := HST.out
                    have h2 := cntSum_le ds (j + 1)
                    have h3 := HALL.out
                    omega
                  have hcf : sc[S + nq]? = some (.bool false) := HSN.out.not hal9 (by
                    rintro (h | ⟨r, hr, h⟩)
                    · omega
                    · have hrq := Dc.no_inj (d := d) (q := r) (r := q) (by rw [HN9.out]; omega) (by rw [HN9.out]; omega) (by omega)
                      omega)
                  obtain ⟨X, hX⟩ : ∃ x, S + nq = x := ⟨_, rfl⟩
                  rw [hX] at hoq hal9 hcf
                  have HX := Lib.hid hX
                  have HNQ := Lib.hid hnq
                  have HCF := Lib.hid hcf
                  have HOQ := Lib.hid hoq
                  have HAL9 := Lib.hid hal9
                  have iq0 : (0 : Int) ≤ (q : Int) := by omega
                  have iq1 : (q : Int) < (N : Int) := by omega
                  clear hnm hrd hcl hkq haq hnq hnl hX hcf hoq hal9 e
                  go_wp2_with (first | (refine wpList_load_at rfl 27 (.tmp 111) rfl (.pointer (some ⟨gn, q * 5, none⟩)) _ rfl hld ?_) | fail)
                  refine (HTL.out _ _ _ _ HBQ.out HOQ.out).mono ?_
                  rintro e w9 ⟨A1, p1, c1, A2, c2, rfl, hb9⟩
                  have hz9 := hb9.size
                  obtain ⟨wd, hwd⟩ : ∃ y, w9.alloc (.cells #[.int .i64 3, .int .i64 (X : Int), .int .i64 0, .slice A1 p1 c1, .slice A2 0 c2] 27) = y := ⟨_, rfl⟩
                  have hbd : Below w9.heap.size w9 wd := by rw [← hwd]; exact (Below.refl _ _).alloc (Nat.le_refl _) _
                  have x9 : wd.heap[w9.heap.size]? = some (.cells #[.int .i64 3, .int .i64 (X : Int), .int .i64 0, .slice A1 p1 c1, .slice A2 0 c2] 27 (0, 0)) := by rw [← hwd]; exact heap_alloc_new w9 _
                  have hz := heap_alloc_new w9 (.cells zeroTm 27)
                  have hda : Hid ((w9.alloc (.cells zeroTm 27)).setRow w9.heap.size #[.int .i64 3, .int .i64 (X : Int), .int .i64 0, .slice A1 p1 c1, .slice A2 0 c2] = w9.alloc (.cells #[.int .i64 3, .int .i64 (X : Int), .int .i64 0, .slice A1 p1 c1, .slice A2 0 c2] 27)) := World.setRow_alloc_new _ _ _ _
                  unfold zeroTm at hz hda
                  have hbe : Below wr.heap.size wr wd := hb9.trans (hbd.mono hz9)
                  have hgw := heap_some_lt HSC.out
                  have HSD : Hid (wd.heap[gs]? = some (.cells sc 4 (0, 0))) := (hbe.block _ hgw).trans HSC.out
                  have HBE : Hid (Below w3.heap.size w3 wd) := HBQ.out.trans (hbe.mono hqz)
                  have HNE := Lib.hid (own9_below HNM.out hbe)
                  have f0 : wd.cell? ⟨w9.heap.size, 0, none⟩ = some (.int .i64 3) := cell_of_row _ _ 0 _ _ (0, 0) x9
                  have f1 : wd.cell? ⟨w9.heap.size, 1, none⟩ = some (.int .i64 (X : Int)) := cell_of_row _ _ 1 _ _ (0, 0) x9
                  have f2 : wd.cell? ⟨gs, X, none⟩ = some (.bool false) := (cell_of_row _ _ X _ _ (0, 0) HSD.out).trans HCF.out
                  have f3 : wd.frozen? ⟨gs, X, none⟩ = false := thawed HSD.out X
                  have ix0 : (0 : Int) ≤ (X : Int) := by omega
                  have ix1 : (X : Int) < (all : Int) := by have := HAL9.out; omega
                  have ix2 : decide ((all : Int) ≤ (X : Int)) = false := by rw [decide_eq_false_iff_not]; omega
                  have ix3 : decide ((X : Int) < 0) = false := by rw [decide_eq_false_iff_not]; omega
                  clear hb9 hbd x9 hbe hgw hz9
                  go_wp2_with (first | (refine wpList_store_row rfl 27 (.tmp 12) (.tmp 113) rfl w9.heap.size #[.int .i64 3, .int .i64 (X : Int), .int .i64 0, .slice A1 p1 c1, .slice A2 0 c2] rfl rfl 27 zeroTm hz infoT5 rfl (by simp [Value.oneCell']) ?_; rw [hda.out, hwd]) | fail)
                  go_roundw
                  case rel => exact ⟨q + 1, by omega, by go_num, HBE.out.setCell HGS.out _, ownsRow_setCell_below HNE.out HGG.out _, _, set_row9 HSD.out _, HSN.out.set.mono (by
                    rintro x ((h | ⟨r, hr, h⟩) | h)
                    · exact Or.inl h
                    · exact Or.inr ⟨r, by omega, h⟩
                    · exact Or.inr ⟨q, by omega, by rw [h, HNQ.out]; exact HX.out.symm⟩)⟩
                  case measure => simp [intOf]; omega
                · obtain rfl : N = q := by omega
                  have HRL : Hid (Seen (fun x => x < cntSum (ds.take (j + 1))) all sc) := HSN.out.mono (by
                    rw [HST.out]
                    rintro x (h | ⟨r, hr, h⟩)
                    · omega
                    · have := Dc.no_lt (d := d) (q := r) (by rw [HN9.out]; exact hr)
                      omega)
                  clear hnm
                  go_wp2_with (fail)
                  go_roundw
                  case rel => exact ⟨j + 1, by omega, by go_num, HBQ.out, _, HSC.out, HRL.out⟩
                  case measure => simp [intOf]; omega
          · have HBB := Lib.hid (HB3.out.trans (hb.mono HB3.out.size))
            clear hb hsc hseen
            go_wp2_with (fail)
            go_ret
            exact ⟨rfl, HBB.out⟩
end Go.Proofs.YtfgnnbpbbnnnhaaDoor
