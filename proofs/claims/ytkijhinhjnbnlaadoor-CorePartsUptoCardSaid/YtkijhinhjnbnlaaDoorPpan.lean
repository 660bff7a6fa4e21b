/- Laws. -/
import Derived.Test.YtkijhinhjnbnlaaDoorPpak
import Derived.Test.YtkijhinhjnbnlaaDoorPpam
import Derived.Deep.RegionHeld3
namespace Go.Proofs.YtkijhinhjnbnlaaDoor
open Go.RowKit Go.Maps
/-- an append whose run is known, at the list of a plain region's operations -/
theorem wpList_append_run5 {P : Program} {w : World} {ops : Array Oper} {rest : List Oper} {o : Oper} {a : Act} {Q : Exit → Act → World → Prop} (hgd : o.guard = none) (s x : Operand) (t : TypeId)
    (ho : o.op = .call { callee := .builtin .append, args := #[s, x], argTypes := #[t, t] }) (vx vy : Value) (hs : a.eval s = vx) (hx : a.eval x = vy) {v' : Value} {w' : World}
    (hr : (Builtin.append_ #[t, t] o.type #[vx, vy]).run P w = .ok v' w') (h : wpList P ops Q rest (a.put o.dst v') w') : wpList P ops Q (o :: rest) a w := by
  refine wpList_plain hgd fun K hK => ?_
  unfold Oper.wp execOp
  simp only [ho, resolve, invoke, builtin, Sem.run_bind, Sem.run_pure, Result.andThen_ok, List.map_toArray, List.map_cons, List.map_nil, hs, hx, hr]
  exact hK _ _ h
set_option maxRecDepth 100000 in
set_option maxHeartbeats 32000000 in
theorem parts_of (n sc : Int) (cs : List Int) (A : Option Addr) (nc cc : Nat) (tt : Tm) (s0 s1 s2 s3 s4 : Value) (more : Int) (w : World)
    (hK : KindsAt w) (hnc : cs.length = nc) (hA : A = none → cc = 0) (hcs : Ints w w.heap.size A cs) (ht : TmAt w w.heap.size tt (.agg #[s0, s1, s2, s3, s4])) (ft : tt.fit) (hc : Tm.countL [tt] ≤ 1048576) :
    Calls Tryd.prog 4 #[.int .i64 n, .int .i64 sc, .slice A nc cc, .agg #[s0, s1, s2, s3, s4], .int .i64 more] w (HasPost w true) := by
  have h0 : 0 < w.heap.size := cell_lt (hK 0 (by decide))
  obtain ⟨w1, hw1⟩ : ∃ x, w.alloc (.cells #[s0, s1, s2, s3, s4] 27) = x := ⟨_, rfl⟩
  have hb1 : Below w.heap.size w w1 := by rw [← hw1]; exact (Below.refl _ _).alloc (Nat.le_refl _) _
  have hs1 : w1.heap.size = w.heap.size + 1 := by rw [← hw1]; simp
  have x0 : w1.heap[w.heap.size]? = some (.cells #[s0, s1, s2, s3, s4] 27 (0, 0)) := by rw [← hw1]; exact heap_alloc_new w _
  have hK1 := hK.below hb1 h0
  have HAW := Lib.hid (awake5_any w1 hK1)
  have HK1 := Lib.hid hK1
  have HS1 : Hid (w1.heap.size = w.heap.size + 1) := hs1
  have X1 := Lib.hid x0
  have HT1 := Lib.hid (ht.below hb1 hb1.size)
  have HI1 := Lib.hid (ints_more (hcs.below hb1) hb1.size)
  have HE : Hid (∀ w', Below w1.heap.size w1 w' → Below w.heap.size w w') := fun w' hx => hb1.trans (hx.mono hb1.size)
  have H01 : Hid (0 < w1.heap.size) := by show _ < _; omega
  have HX : Hid (∀ w', Below w1.heap.size w1 w' → w'.heap[w.heap.size]? = some (.cells #[s0, s1, s2, s3, s4] 27 (0, 0))) := fun w' hx => (hx.block _ (by omega)).trans x0
  have FT := Lib.hid ft
  have HNC := Lib.hid hnc
  have HA := Lib.hid hA
  have HC := Lib.hid hc
  have HRC : Hid (∀ (n' sc' : Int) (cs' : List Int) (A' : Option Addr) (nc' cc' : Nat) (t : Tm) (v : Value) (w' : World), Below w1.heap.size w1 w' → cs'.length = nc' → Ints w' w'.heap.size A' cs' → t.fit → t.size ≤ 1073741824 → TmAt w' w'.heap.size t v → Calls Tryd.prog 7 #[.int .i64 n', .int .i64 sc', .slice A' nc' cc', v] w' (HasPost w' (rightCB n' sc' cs' t))) := fun n' sc' cs' A' nc' cc' t v w' hb' hl hi hf hd hv =>
    rightC_any n' sc' cs' A' nc' cc' t v w' (hK1.below hb' (by omega)) hl hi hf hd hv
  have HIW : Hid (∀ w', Below w1.heap.size w1 w' → Ints w' w'.heap.size A cs) := fun w' hb' => ints_more ((ints_more (hcs.below hb1) hb1.size).below hb') hb'.size
  have HG1 : Hid (∀ w', Below w1.heap.size w1 w' → Calls Tryd.prog 6 #[.slice (some ⟨w'.heap.size, 0, none⟩) 1 1] (w'.alloc (.cells #[s0, s1, s2, s3, s4] 27)) (fun e w2 => ∃ b : Bool, e = .returned (.bool b) ∧ (b = false → Tm.countL [tt] ≤ 3000) ∧ Below w1.heap.size w1 w2)) := fun w' hb' => by
    refine (great5_any [tt] _ 1 1 _ rfl hc (tms_one5 ((ht.below hb1 hb1.size).below hb' hb'.size))).mono ?_
    rintro e w2 ⟨b, q1, q2, q3⟩
    exact ⟨b, q1, q2, hb'.trans ((((Below.refl w'.heap.size w').alloc (Nat.le_refl _) _).trans (q3.mono (by simp))).mono hb'.size)⟩
  clear hK hnc hA hcs ht ft hc h0 hb1 hs1 x0 hK1
  go_enter Tryd.func4, Tryd.ntmps4
  go_wp2_with (fail)
  refine HAW.out.mono ?_
  rintro e w2 ⟨rfl, hb2⟩
  have HB2 : Hid (Below w1.heap.size w1 w2) := hb2
  clear hw1 HAW hb2
  have x2 := HX.out w2 HB2.out
  have t0 := cell_of_row _ _ 0 _ _ (0, 0) x2
  have t1 := cell_of_row _ _ 1 _ _ (0, 0) x2
  have t2 := cell_of_row _ _ 2 _ _ (0, 0) x2
  have t3 := cell_of_row _ _ 3 _ _ (0, 0) x2
  have t4 := cell_of_row _ _ 4 _ _ (0, 0) x2
  clear x2
  go_wp2_with (fail)
  refine (HG1.out w2 HB2.out).mono ?_
  rintro e w3 ⟨b1, rfl, hc1, hb3⟩
  have HB3 : Hid (Below w1.heap.size w1 w3) := hb3
  have HC1 : Hid (b1 = false → Tm.countL [tt] ≤ 3000) := hc1
  clear t0 t1 t2 t3 t4 hb3 hc1 HG1 HB2
  cases b1 with
  | true =>
    have HF : Hid (HasPost w true (.returned (.bool true)) w3) := ⟨rfl, HE.out _ HB3.out⟩
    go_wp2
    go_ret
    exact HF.out
  | false =>
    have HF : Hid (HasPost w true (.returned (.bool true)) w3) := ⟨rfl, HE.out _ HB3.out⟩
    by_cases g0 : (3000 : Int) < (nc : Int)
    · go_wp2
      go_ret
      exact HF.out
    by_cases g1 : more < 0
    · go_wp2
      go_ret
      exact HF.out
    by_cases g2 : (1000 : Int) < more
    · go_wp2
      go_ret
      exact HF.out
    by_cases g3 : (1000 : Int) < n
    · go_wp2
      go_ret
      exact HF.out
    by_cases g4 : (1000 : Int) < sc
    · go_wp2
      go_ret
      exact HF.out
    have hcc : Tm.countL [tt] ≤ 3000 := HC1.out (by first | rfl | trivial)
    have hsz : tt.size ≤ 3000 := by
      have := Tm.size_le_count tt
      simp only [Tm.countL] at hcc
      omega
    have x4 := HX.out w3 HB3.out
    have t0 := cell_of_row _ _ 0 _ _ (0, 0) x4
    have t1 := cell_of_row _ _ 1 _ _ (0, 0) x4
    have t2 := cell_of_row _ _ 2 _ _ (0, 0) x4
    have t3 := cell_of_row _ _ 3 _ _ (0, 0) x4
    have t4 := cell_of_row _ _ 4 _ _ (0, 0) x4
    have HR1 := Lib.hid (HRC.out n sc cs A nc cc tt _ w3 HB3.out HNC.out (HIW.out w3 HB3.out) FT.out (by omega) (HT1.out.below HB3.out HB3.out.size))
    obtain ⟨rb, hrb⟩ : ∃ x, rightCB n sc cs tt = x := ⟨_, rfl⟩
    rw [hrb] at HR1
    have HSZ : Hid (tt.size ≤ 3000) := hsz
    have HCC : Hid (Tm.countL [tt] ≤ 3000) := hcc
    have HRB := Lib.hid hrb
    clear x4 hsz hcc hrb HC1 HC
    go_wp2_with (fail)
    refine HR1.out.mono ?_
    rintro e w5 ⟨rfl, hb5⟩
    have HB5 : Hid (Below w1.heap.size w1 w5) := HB3.out.trans (hb5.mono HB3.out.size)
    clear t0 t1 t2 t3 t4 hb5 HR1 HB3 HF
    cases rb with
    | false =>
      have HF : Hid (HasPost w true (.returned (.bool true)) w5) := ⟨rfl, HE.out _ HB5.out⟩
      go_wp2
      go_ret
      exact HF.out
    | true =>
      have HRR : Hid (RightC n sc cs tt) := (rightCB_iff ..).1 HRB.out
      clear HRB
      have hn0 : 0 ≤ n := HRR.out.1
      have hsc0 : 0 ≤ sc := HRR.out.2.1
      have hsz3 := HSZ.out
      go_upto_region 5 with (fail)
      go_cut [63] from 49 to 63 (fun s wc => s = .bool false ∧ Below w1.heap.size w1 wc)
      case first =>
        have q1 : IntKind.i64.wrap (n + more) = n + more := IntWalk.i64_in _ (by omega)
        have q2 : IntKind.i64.wrap (sc + more) = sc + more := IntWalk.i64_in _ (by omega)
        have HKT : Hid (rightCB (n + more) (sc + more) (cs ++ [more]) tt = true) := (rightCB_iff ..).2 ⟨by omega, by omega, core_more (by omega) (by omega) [more] tt 0 HRR.out.2.2⟩
        have HS5 : Hid (∀ w', Below w5.heap.size w5 w' → w'.cell? ⟨w.heap.size, 0, none⟩ = some s0 ∧ w'.cell? ⟨w.heap.size, 1, none⟩ = some s1 ∧ w'.cell? ⟨w.heap.size, 2, none⟩ = some s2 ∧ w'.cell? ⟨w.heap.size, 3, none⟩ = some s3 ∧ w'.cell? ⟨w.heap.size, 4, none⟩ = some s4) := fun w' hw' => by
          have x := HX.out w' (HB5.out.trans (hw'.mono HB5.out.size))
          exact ⟨cell_of_row _ _ 0 _ _ (0, 0) x, cell_of_row _ _ 1 _ _ (0, 0) x, cell_of_row _ _ 2 _ _ (0, 0) x, cell_of_row _ _ 3 _ _ (0, 0) x, cell_of_row _ _ 4 _ _ (0, 0) x⟩
        have HI5 : Hid (∀ w', Below w5.heap.size w5 w' → Ints w' w'.heap.size A cs) := fun w' hw' => HIW.out w' (HB5.out.trans (hw'.mono HB5.out.size))
        have HR5 : Hid (∀ (A' : Option Addr) (c' : Nat) (w' : World), Below w5.heap.size w5 w' → Ints w' w'.heap.size A' (cs ++ [more]) → Calls Tryd.prog 7 #[.int .i64 (n + more), .int .i64 (sc + more), .slice A' (nc + 1) c', .agg #[s0, s1, s2, s3, s4]] w' (HasPost w' true)) := fun A' c' w' hw' hi => by
          have hb' := HB5.out.trans (hw'.mono HB5.out.size)
          have h := HRC.out (n + more) (sc + more) (cs ++ [more]) A' (nc + 1) c' tt _ w' hb' (by simp [HNC.out]) hi FT.out (by omega) (HT1.out.below hb' hb'.size)
          rw [HKT.out] at h
          exact h
        go_region_held3 (fun w' => w'.cell? ⟨w.heap.size, 0, none⟩ = some s0 ∧ w'.cell? ⟨w.heap.size, 1, none⟩ = some s1 ∧ w'.cell? ⟨w.heap.size, 2, none⟩ = some s2 ∧ w'.cell? ⟨w.heap.size, 3, none⟩ = some s3 ∧ w'.cell? ⟨w.heap.size, 4, none⟩ = some s4)
          (first | (apply HS5.out; (repeat' with_reducible first | assumption | exact Below.refl _ _ | apply bel5_alloc | apply bel5_drew)))
          (first
            | ((refine step_ints (by rfl) _ _ (by rfl) w5.heap.size (0 + nc) ([] ++ cs.map intV) v7 (by rfl) _ _ _ [more] (by rfl) (by rfl) (fun h => by cases h) (by omega) (own5_below r2 (by (repeat' with_reducible first | assumption | exact Below.refl _ _ | apply bel5_alloc | apply bel5_drew))) (by with_reducible first | exact one_w1 _ _ | exact one_w2 _ _ | exact ints_one hm7 | exact one_w3 hm7) (by have := hx7.size; simp; try omega) ?_; intro v8 w8 e2 e3; have hx8 : Below w5.heap.size w5 w8 := bel5_grown (by (repeat' with_reducible first | assumption | exact Below.refl _ _ | apply bel5_alloc | apply bel5_drew)) e3 (own_ge r2); obtain ⟨A8, c8, rfl, _, hi8⟩ := ints_of_own (n := nc + 1) (ns := cs ++ [more]) (by have h := e2; simpa [List.map_append] using h) (by simp [HNC.out])))
            | (go_at_call 7; refine (HR5.out A8 c8 _ (by (repeat' with_reducible first | assumption | exact Below.refl _ _ | apply bel5_alloc | apply bel5_drew)) ?_).mono ?_; (first | exact hi8 | exact hi8.below (bel5_drew (Below.refl _ _))); rintro e w9 ⟨rfl, hb9⟩; have hx9 : Below w5.heap.size w5 w9 := hx8.trans (hb9.mono hx8.size))
            | ((refine step_ints (by rfl) _ _ (by rfl) w5.heap.size 0 [] (.slice (some ⟨w5.heap.size, 0, none⟩) 0 0) (by rfl) A nc cc cs (by rfl) HNC.out HA.out (by omega) (by with_reducible first | exact own_w1 _ | exact own_w2 _ _ | exact own_w3 _ _) (HI5.out _ (by (repeat' with_reducible first | assumption | exact Below.refl _ _ | apply bel5_alloc | apply bel5_drew))) (by simp; try omega) ?_; intro v7 w7 r2 r3; have hx7 : Below w5.heap.size w5 w7 := bel5_grown (by (repeat' with_reducible first | assumption | exact Below.refl _ _ | apply bel5_alloc | apply bel5_drew)) r3 (fun k e => by injection e with e; have e : w5.heap.size = k := e; omega); (try (first | have hm7 := keep2 r3 | have hm7 := keep3 r3))))
            | ((refine step_ints (by rfl) _ _ (by rfl) w5.heap.size 0 [] (.slice (some ⟨w5.heap.size + 1, 0, none⟩) 0 0) (by rfl) A nc cc cs (by rfl) HNC.out HA.out (by omega) (by with_reducible first | exact own_w1 _ | exact own_w2 _ _ | exact own_w3 _ _) (HI5.out _ (by (repeat' with_reducible first | assumption | exact Below.refl _ _ | apply bel5_alloc | apply bel5_drew))) (by simp; try omega) ?_; intro v7 w7 r2 r3; have hx7 : Below w5.heap.size w5 w7 := bel5_grown (by (repeat' with_reducible first | assumption | exact Below.refl _ _ | apply bel5_alloc | apply bel5_drew)) r3 (fun k e => by injection e with e; have e : w5.heap.size + 1 = k := e; omega); (try (first | have hm7 := keep2 r3 | have hm7 := keep3 r3)))))
        all_goals
          have HB9 : Hid (Below w1.heap.size w1 w9) := HB5.out.trans (hx9.mono HB5.out.size)
          go_wp2_with fail
          go_meet
          case rel => exact ⟨by first | rfl | trivial, HB9.out⟩
      case rest =>
        obtain ⟨rfl, hb6⟩ := hcut
        have HB6 := Lib.hid hb6
        obtain ⟨k, num, pos, lv, kids⟩ := tt
        obtain ⟨A1, c1, A2, c2, e, q1, q2, q3⟩ := HT1.out.open
        injection e with e
        injection e with e
        injection e with e0 e
        injection e with e1 e
        injection e with e2 e
        injection e with e3 e
        injection e with e4 _
        subst e0 e1 e2 e3 e4
        obtain ⟨p1, hp1⟩ : ∃ p, lv.length = p := ⟨_, rfl⟩
        obtain ⟨p2, hp2⟩ : ∃ p, kids.length = p := ⟨_, rfl⟩
        rw [hp1, hp2] at HX HT1 ⊢
        rw [Tm.size_mk] at hsz3
        have hp9 : p2 ≤ 3000 := by have := Tm.sizeL_length kids; omega
        have HP1 := Lib.hid hp1
        have HP2 := Lib.hid hp2
        have HQ2 := Lib.hid q2
        have HQ3 := Lib.hid q3
        have HQ1 := Lib.hid q1
        clear hb6 HB5 hp1 hp2 q1 q2 q3
        go_upto_block 0 with (fail)
        go_cut [11, 12] from 64 to 87 (fun i s wc => Below w1.heap.size w1 wc)
        case first =>
          go_wp2_with (fail)
          go_loopw [11] (fun i wr => ∃ q : Nat, q ≤ p2 ∧ i = .int .i64 (q : Int) ∧ Below w1.heap.size w1 wr) (fun i _ => p2 - (intOf i).toNat)
          case atStart => exact ⟨0, Nat.zero_le _, rfl, HB6.out⟩
          case round =>
            obtain ⟨q, hq, rfl, hbr⟩ := hrel
            have HBR := Lib.hid hbr
            clear hbr
            have xr := HX.out wr HBR.out
            have t0 := cell_of_row _ _ 0 _ _ (0, 0) xr
            have t4 := cell_of_row _ _ 4 _ _ (0, 0) xr
            clear xr
            by_cases hlt : q < p2
            · have HBI := Lib.hid (binds_any k q wr (by omega) (HK1.out.below HBR.out H01.out))
              obtain ⟨bb, hbb⟩ : ∃ x, binds k q = x := ⟨_, rfl⟩
              rw [hbb] at HBI
              have HBB := Lib.hid hbb
              clear hbb
              go_wp2_with (fail)
              refine HBI.out.mono ?_
              rintro e w7 ⟨rfl, hb7⟩
              have HB7 : Hid (Below w1.heap.size w1 w7) := HBR.out.trans (hb7.mono HBR.out.size)
              clear hb7 HBI t0 t4
              have x7 := HX.out w7 HB7.out
              have t4 := cell_of_row _ _ 4 _ _ (0, 0) x7
              obtain ⟨t, ht⟩ : ∃ t, kids[q]? = some t := ⟨kids[q]'(by have := HP2.out; omega), List.getElem?_eq_getElem (by have := HP2.out; omega)⟩
              obtain ⟨b, o, v9, rfl, hbB, hfive, htm⟩ := HQ3.out.get ht
              have hft : t.fit := by
                have h := FT.out
                rw [Tm.fit_mk] at h
                exact (Tm.fitL_iff kids).1 h.2.2.2 t (List.mem_of_getElem? ht)
              have hst : t.size ≤ 3000 := by
                have h1 := Tm.sizeL_take kids q t ht
                have h2 : Tm.sizeL (kids.take (q + 1)) ≤ Tm.sizeL kids := Tm.sizeL_le kids (q + 1)
                omega
              have hkt : rightCB n (sc + under k q) cs t = true := (rightCB_iff ..).2 (core_kid HRR.out ht)
              have HR3 := Lib.hid (HRC.out n (sc + under k q) cs A nc cc t v9 w7 HB7.out HNC.out (HIW.out w7 HB7.out) hft (by omega) (htm.below HB7.out HB7.out.size))
              rw [hkt] at HR3
              unfold under at HR3
              rw [HBB.out] at HR3
              obtain ⟨c0', c1', c2', c3', c4', e, f0, f1, f2, f3, f4⟩ := hfive.keep (fun j => HB7.out.cell (p := ⟨b, j, none⟩) hbB)
              have hgw : b < w7.heap.size := by have := HB7.out.size; omega
              have ij0 : (0 : Int) ≤ (q : Int) := by omega
              have ij1 : (q : Int) < (p2 : Int) := by omega
              clear x7 hst hft hkt htm ht hfive hbB
              subst e
              cases bb with
              | true =>
                have hw : IntKind.i64.wrap (sc + 1) = sc + 1 := IntWalk.i64_in _ (by omega)
                go_wp2_with (fail)
                refine HR3.out.mono ?_
                rintro e w9 ⟨rfl, hb9⟩
                have HB9 : Hid (Below w1.heap.size w1 w9) := HB7.out.trans (hb9.mono HB7.out.size)
                clear hb9 HR3 f0 f1 f2 f3 f4 t4
                go_wp2
                go_roundw
                case rel => exact ⟨q + 1, by omega, by go_num, HB9.out⟩
                case measure => simp [intOf]; omega
              | false =>
                have HR4 : Hid (Calls Tryd.prog 7 #[.int .i64 n, .int .i64 sc, .slice A nc cc, .agg #[c0', c1', c2', c3', c4']] w7 (HasPost w7 true)) := by
                  have h := HR3.out
                  show Calls _ _ _ _ _
                  simpa using h
                clear HR3
                go_wp2_with (fail)
                refine HR4.out.mono ?_
                rintro e w9 ⟨rfl, hb9⟩
                have HB9 : Hid (Below w1.heap.size w1 w9) := HB7.out.trans (hb9.mono HB7.out.size)
                clear hb9 HR4 f0 f1 f2 f3 f4 t4
                go_wp2
                go_roundw
                case rel => exact ⟨q + 1, by omega, by go_num, HB9.out⟩
                case measure => simp [intOf]; omega
            · obtain rfl : q = p2 := by omega
              go_wp2
              go_meet
              case rel => exact HBR.out
        case rest =>
          have HB7 := Lib.hid hcut
          clear hcut HB6
          go_upto_region 15 with (fail)
          obtain ⟨wa, hwa⟩ : ∃ x, wc = x := ⟨_, rfl⟩
          rw [hwa] at HB7 ⊢
          have hxa := HX.out wa HB7.out
          have HXA : Hid (∀ w', Below wa.heap.size wa w' → w'.cell? ⟨w.heap.size, 0, none⟩ = some (.int .i64 k) ∧ w'.cell? ⟨w.heap.size, 1, none⟩ = some (.int .i64 num) ∧ w'.cell? ⟨w.heap.size, 2, none⟩ = some (.int .i64 pos) ∧ w'.cell? ⟨w.heap.size, 3, none⟩ = some (.slice A1 p1 c1) ∧ w'.cell? ⟨w.heap.size, 4, none⟩ = some (.slice A2 p2 c2)) := fun w' hw' => by
            have x := HX.out w' (HB7.out.trans (hw'.mono HB7.out.size))
            exact ⟨cell_of_row _ _ 0 _ _ (0, 0) x, cell_of_row _ _ 1 _ _ (0, 0) x, cell_of_row _ _ 2 _ _ (0, 0) x, cell_of_row _ _ 3 _ _ (0, 0) x, cell_of_row _ _ 4 _ _ (0, 0) x⟩
          clear hwa hxa
          go_cut [13, 14] from 88 to 89 (fun sa sb wx => TwoBox wa k num pos A1 p1 c1 A2 p2 c2 sa sb wx)
          case first =>
            go_region_held3 (fun w' => w'.cell? ⟨w.heap.size, 0, none⟩ = some (.int .i64 k) ∧ w'.cell? ⟨w.heap.size, 1, none⟩ = some (.int .i64 num) ∧ w'.cell? ⟨w.heap.size, 2, none⟩ = some (.int .i64 pos) ∧ w'.cell? ⟨w.heap.size, 3, none⟩ = some (.slice A1 p1 c1) ∧ w'.cell? ⟨w.heap.size, 4, none⟩ = some (.slice A2 p2 c2))
              (first | (apply HXA.out; (repeat' with_reducible first | assumption | exact Below.refl _ _ | apply bel5_alloc | apply bel5_drew | apply bel5_set | exact Nat.le_refl _ | exact Nat.le_succ _)))
              (fail)
            all_goals
              go_wp2_with fail
              go_meet
              case rel => first | exact two_box1 .. | exact two_box2 ..
          case rest =>
            obtain ⟨pa, pb, rfl, rfl, hne, hpa, hpb, hra, hrb, hbx⟩ := hcut
            obtain ⟨wb, hwb⟩ : ∃ x, wc = x := ⟨_, rfl⟩
            rw [hwb] at hra hrb hbx ⊢
            clear hwb
            have HBX : Hid (Below w1.heap.size w1 wb) := HB7.out.trans (hbx.mono HB7.out.size)
            have hzb := hbx.size
            have hza := HB7.out.size
            obtain ⟨we, hwe⟩ : ∃ x, wb.alloc (.cells #[] 27) = x := ⟨_, rfl⟩
            have hbe : Below wb.heap.size wb we := by rw [← hwe]; exact (Below.refl _ _).alloc (Nat.le_refl _) _
            have hxe := HX.out we (HBX.out.trans (hbe.mono HBX.out.size))
            have t4 := cell_of_row _ _ 4 _ _ (0, 0) hxe
            have oe : OwnTs we wb.heap.size wa.heap.size (.slice (some ⟨wb.heap.size, 0, none⟩) 0 0) 0 [] := by rw [← hwe]; exact own_ts_empty wb hzb
            obtain ⟨v3, w3, r1, o3, g3, b3⟩ := run_terms_tms oe A2 p2 c2 HP2.out (HQ3.out.below (HBX.out.trans (hbe.mono HBX.out.size)) hza) hbe.size (by omega) 25
            have hga := heap_some_lt hra
            have hgb := heap_some_lt hrb
            have h3 : Below wb.heap.size wb w3 := hbe.trans b3
            have HV := Lib.hid (v5_any 0 w3)
            unfold bareV at HV
            have R1 := Lib.hid r1
            have O3 := Lib.hid o3
            have H3 := Lib.hid h3
            have HRA := Lib.hid hra
            have HRBB := Lib.hid hrb
            have HGA : Hid (pa < wb.heap.size) := hga
            have HGB : Hid (pb < wb.heap.size) := hgb
            have HPA : Hid (wa.heap.size ≤ pa) := hpa
            have HPB : Hid (wa.heap.size ≤ pb) := hpb
            have HNE : Hid (pa ≠ pb) := hne
            have HZB : Hid (wa.heap.size ≤ wb.heap.size) := hzb
            have HBXX : Hid (Below wa.heap.size wa wb) := hbx
            clear hza hbe hxe oe r1 o3 g3 b3 h3 hra hrb hga hgb hpa hpb hne hzb hbx
            go_wp2_with (at_builtin; refine wpList_append_run5 rfl _ _ 25 rfl _ _ rfl rfl R1.out ?_)
            refine HV.out.mono ?_
            rintro e w4 ⟨rfl, hb4⟩
            clear t4 R1 HV hwe
            obtain ⟨w5', hw5⟩ : ∃ x, w4.alloc (.cells #[.int .i64 1, .int .i64 0, .int .i64 0, .slice none 0 0, .slice none 0 0] 27) = x := ⟨_, rfl⟩
            have hb5 : Below w3.heap.size w3 w5' := by rw [← hw5]; exact hb4.alloc hb4.size _
            have hg5 : w5'.heap[w4.heap.size]? = some (.cells #[.int .i64 1, .int .i64 0, .int .i64 0, .slice none 0 0, .slice none 0 0] 27 (0, 0)) := by rw [← hw5]; exact heap_alloc_new w4 _
            have o5 := O3.out.same hb5 H3.out.size
            obtain ⟨v6, w6, r2, o6, g6, b6⟩ := run_terms_one o5 w4.heap.size 1 1 0 hg5 (Nat.le_trans H3.out.size hb5.size) (by omega) 25
            have h6 : Below wb.heap.size wb w6 := (H3.out.trans (hb5.mono H3.out.size)).trans b6
            have o6 : OwnTs w6 wb.heap.size wa.heap.size v6 (p2 + 1) (kids ++ [.mk 1 0 0 [] []]) := by simpa using o6
            obtain ⟨g, cap, rfl, hcap, hcm, hgg, hgl, _⟩ := o6.tms (by omega) h6.size
            have xa6 := (h6.block pa HGA.out).trans HRA.out
            have xb6 := (h6.block pb HGB.out).trans HRBB.out
            have hne := HNE.out
            have hga := HGA.out
            have hgb := HGB.out
            obtain ⟨w7, hw7⟩ : ∃ x, w6.setCell ⟨pa, 4, none⟩ (.slice (some ⟨g, 0, none⟩) (p2 + 1) cap) = x := ⟨_, rfl⟩
            have xa7 : w7.heap[pa]? = some (.cells #[.int .i64 k, .int .i64 num, .int .i64 pos, .slice A1 p1 c1, .slice (some ⟨g, 0, none⟩) (p2 + 1) cap] 27 (0, 0)) := by rw [← hw7]; exact set_same xa6 4 _
            have xb7 : w7.heap[pb]? = some (.cells #[.int .i64 k, .int .i64 num, .int .i64 pos, .slice A1 p1 c1, .slice A2 p2 c2] 27 (0, 0)) := by rw [← hw7]; exact (Below.heap_setCell _ _ _ _ (by show pb ≠ pa; exact Ne.symm hne)).trans xb6
            obtain ⟨w8, hw8⟩ : ∃ x, w7.setCell ⟨pb, 1, none⟩ (.int .i64 (-1)) = x := ⟨_, rfl⟩
            have xa8 : w8.heap[pa]? = some (.cells #[.int .i64 k, .int .i64 num, .int .i64 pos, .slice A1 p1 c1, .slice (some ⟨g, 0, none⟩) (p2 + 1) cap] 27 (0, 0)) := by rw [← hw8]; exact (Below.heap_setCell _ _ _ _ (by show pa ≠ pb; exact hne)).trans xa7
            have xb8 : w8.heap[pb]? = some (.cells #[.int .i64 k, .int .i64 (-1), .int .i64 pos, .slice A1 p1 c1, .slice A2 p2 c2] 27 (0, 0)) := by rw [← hw8]; exact set_same xb7 1 _
            have hB67 : Below wa.heap.size w6 w7 := by rw [← hw7]; exact (Below.refl _ _).mono (by have := HBXX.out.size; have := h6.size; omega) |>.setCell HPA.out _
            have hB78 : Below wa.heap.size w7 w8 := by rw [← hw8]; exact (Below.refl _ _).mono (by have := HBXX.out.size; have := h6.size; have := hB67.size; omega) |>.setCell HPB.out _
            have o7 : OwnTs w7 wb.heap.size wa.heap.size (.slice (some ⟨g, 0, none⟩) (p2 + 1) cap) (p2 + 1) (kids ++ [.mk 1 0 0 [] []]) := o6.keep (r := some pa) (by rw [← hw7]; exact grown_set ⟨rfl, rfl, rfl, Nat.le_refl _, fun _ _ _ => rfl⟩ 4 _) (.inr (fun e => by injection e with e; have e : g = pa := e; omega)) hB67
            have o8 : OwnTs w8 wb.heap.size wa.heap.size (.slice (some ⟨g, 0, none⟩) (p2 + 1) cap) (p2 + 1) (kids ++ [.mk 1 0 0 [] []]) := o7.keep (r := some pb) (by rw [← hw8]; exact grown_set ⟨rfl, rfl, rfl, Nat.le_refl _, fun _ _ _ => rfl⟩ 1 _) (.inr (fun e => by injection e with e; have e : g = pb := e; omega)) hB78
            have h8 : Below wa.heap.size wa w8 := ((HBXX.out.trans (h6.mono HZB.out)).trans hB67).trans hB78
            have hB8 : Below w1.heap.size w1 w8 := HB7.out.trans (h8.mono HB7.out.size)
            have hsz8 : wb.heap.size ≤ w8.heap.size := by have := h6.size; have := hB67.size; have := hB78.size; omega
            have hfit : Rng num ∧ SlimL lv ∧ kids.length ≤ 1048576 ∧ Tm.fitL kids := (Tm.fit_mk ..).1 FT.out
            have hv0 : (Tm.mk 1 0 0 [] []).fit := (Tm.fit_mk ..).2 ⟨by unfold Rng; omega, ⟨by simp, by simp⟩, by simp, by simp [Tm.fitL]⟩
            have hfl : (Tm.mk k num pos lv (kids ++ [.mk 1 0 0 [] []])).fit := (Tm.fit_mk ..).2 ⟨hfit.1, hfit.2.1, by simp [HP2.out]; omega, (Tm.fitL_iff _).2 fun t ht => by
              rcases List.mem_append.1 ht with ht | ht
              · exact (Tm.fitL_iff kids).1 hfit.2.2.2 t ht
              · obtain rfl := List.mem_singleton.1 ht; exact hv0⟩
            have hsl : (Tm.mk k num pos lv (kids ++ [.mk 1 0 0 [] []])).size ≤ 1073741824 := by
              rw [Tm.size_mk, Tm.sizeL_snoc, Tm.size_mk]
              simp only [Tm.sizeL]
              omega
            have hrl : rightCB n sc cs (.mk k num pos lv (kids ++ [.mk 1 0 0 [] []])) = false := by
              cases h : rightCB n sc cs (.mk k num pos lv (kids ++ [.mk 1 0 0 [] []])) with
              | false => rfl
              | true => exact absurd ((rightCB_iff ..).1 h) (not_long HRR.out (by simp))
            have htl : TmAt w8 w8.heap.size (.mk k num pos lv (kids ++ [.mk 1 0 0 [] []])) (.agg #[.int .i64 k, .int .i64 num, .int .i64 pos, .slice A1 p1 c1, .slice (some ⟨g, 0, none⟩) (p2 + 1) cap]) := by
              obtain ⟨g', cap', e, _, _, _, _, h⟩ := o8.tms (by omega) hsz8
              injection e with ea _ ec
              injection ea with ea
              injection ea with ea _
              subst ea ec
              have hk := h (p2 + 1) cap
              rw [List.take_of_length_le (by simp [HP2.out])] at hk
              have hm := TmAt.make (k := k) (n := num) (a := pos) HQ1.out ((HQ2.out.below hB8).more hB8.size) hk
              rw [HP1.out, show (kids ++ [Tm.mk 1 0 0 [] []]).length = p2 + 1 by simp [HP2.out]] at hm
              exact hm
            have HR1 := Lib.hid (HRC.out n sc cs A nc cc _ _ w8 hB8 HNC.out (HIW.out w8 hB8) hfl hsl htl)
            rw [hrl] at HR1
            have a0 := cell_of_row _ _ 0 _ _ (0, 0) xa8
            have a1 := cell_of_row _ _ 1 _ _ (0, 0) xa8
            have a2 := cell_of_row _ _ 2 _ _ (0, 0) xa8
            have a3 := cell_of_row _ _ 3 _ _ (0, 0) xa8
            have a4 := cell_of_row _ _ 4 _ _ (0, 0) xa8
            have d4 := cell_of_row _ _ 4 _ _ (0, 0) xa6
            have d1 := cell_of_row _ _ 1 _ _ (0, 0) xb7
            have u4 := thawed xa6 4
            have u1 := thawed xb7 1
            have R2 := Lib.hid r2
            have XA8 := Lib.hid xa8
            have XB8 := Lib.hid xb8
            have HB8 := Lib.hid hB8
            have O8 := Lib.hid o8
            have H8 := Lib.hid h8
            have HFI := Lib.hid hfit
            have HV0 := Lib.hid hv0
            have HSZ8 : Hid (wb.heap.size ≤ w8.heap.size) := hsz8
            have HCAP : Hid (p2 + 1 ≤ cap) := hcap
            have HGG : Hid (wb.heap.size ≤ g) := hgg
            clear hb5 hg5 o5 r2 o6 g6 b6 h6 xa6 xb6 hne xa7 xb7 xa8 xb8 hB67 hB78 o7 o8 h8 hB8 hsz8 hfit hv0 hfl hsl hrl htl hb4
            go_wp2_with (at_builtin; refine wpList_append_run5 rfl _ _ 25 rfl _ _ rfl rfl R2.out ?_)
            refine HR1.out.mono ?_
            rintro e w9 ⟨rfl, hb9⟩
            have HB9 : Hid (Below w1.heap.size w1 w9) := HB8.out.trans (hb9.mono HB8.out.size)
            have HB89 : Hid (Below w8.heap.size w8 w9) := hb9
            have xb9 := (hb9.block pb (heap_some_lt XB8.out)).trans XB8.out
            have b0 := cell_of_row _ _ 0 _ _ (0, 0) xb9
            have b1 := cell_of_row _ _ 1 _ _ (0, 0) xb9
            have b2 := cell_of_row _ _ 2 _ _ (0, 0) xb9
            have b3 := cell_of_row _ _ 3 _ _ (0, 0) xb9
            have b4 := cell_of_row _ _ 4 _ _ (0, 0) xb9
            have hfo : (Tm.mk k (-1) pos lv kids).fit := (Tm.fit_mk ..).2 ⟨by unfold Rng; omega, HFI.out.2⟩
            have hto : TmAt w9 w9.heap.size (.mk k (-1) pos lv kids) (.agg #[.int .i64 k, .int .i64 (-1), .int .i64 pos, .slice A1 p1 c1, .slice A2 p2 c2]) := by
              have hm := TmAt.make (k := k) (n := -1) (a := pos) HQ1.out ((HQ2.out.below HB9.out).more HB9.out.size) (HQ3.out.below HB9.out HB9.out.size)
              rw [HP1.out, HP2.out] at hm
              exact hm
            have hro : rightCB n sc cs (.mk k (-1) pos lv kids) = false := by
              cases h : rightCB n sc cs (.mk k (-1) pos lv kids) with
              | false => rfl
              | true => exact absurd ((rightCB_iff ..).1 h) (not_odd n sc cs k pos lv kids)
            have HR2 := Lib.hid (HRC.out n sc cs A nc cc _ _ w9 HB9.out HNC.out (HIW.out w9 HB9.out) hfo (by rw [Tm.size_mk]; omega) hto)
            rw [hro] at HR2
            clear a0 a1 a2 a3 a4 d4 d1 u4 u1 hw5 hw7 hw8 hb9 xb9 hfo hto hro HR1 R2
            go_wp2_with (fail)
            refine HR2.out.mono ?_
            rintro e w10 ⟨rfl, hb10⟩
            have HB10 : Hid (Below w1.heap.size w1 w10) := HB9.out.trans (hb10.mono HB9.out.size)
            have HB810 : Hid (Below w8.heap.size w8 w10) := HB89.out.trans (hb10.mono HB89.out.size)
            have x10 := HX.out w10 HB10.out
            have t4 := cell_of_row _ _ 4 _ _ (0, 0) x10
            have xa10 := (HB810.out.block pa (heap_some_lt XA8.out)).trans XA8.out
            have a4 := cell_of_row _ _ 4 _ _ (0, 0) xa10
            have ua4 := thawed xa10 4
            clear b0 b1 b2 b3 b4 hb10 x10 HR2
            by_cases hp0 : (0 : Int) < (p2 : Int)
            · obtain ⟨p3, hp3⟩ : ∃ p3, p2 = p3 + 1 := ⟨p2 - 1, by omega⟩
              obtain ⟨w11, hw11⟩ : ∃ x, w10.setCell ⟨pa, 4, none⟩ (.slice (some ⟨g, 0, none⟩) p3 cap) = x := ⟨_, rfl⟩
              have xa11 : w11.heap[pa]? = some (.cells #[.int .i64 k, .int .i64 num, .int .i64 pos, .slice A1 p1 c1, .slice (some ⟨g, 0, none⟩) p3 cap] 27 (0, 0)) := by rw [← hw11]; exact set_same xa10 4 _
              have z8 := HSZ8.out
              have z7 := HB7.out.size
              have zb := HZB.out
              have zg := HGG.out
              have zp := HGA.out
              have zq := HPA.out
              have z10 := HB810.out.size
              have hB11 : Below wa.heap.size w10 w11 := by rw [← hw11]; exact (Below.refl _ _).mono (by omega) |>.setCell zq _
              have hb11 : Below w1.heap.size w1 w11 := by rw [← hw11]; exact HB10.out.setCell (by show w1.heap.size ≤ pa; omega) _
              have o10 := O8.out.same HB810.out z8
              have o11 : OwnTs w11 wb.heap.size wa.heap.size (.slice (some ⟨g, 0, none⟩) (p2 + 1) cap) (p2 + 1) (kids ++ [.mk 1 0 0 [] []]) := o10.keep (r := some pa) (by rw [← hw11]; exact grown_set ⟨rfl, rfl, rfl, Nat.le_refl _, fun _ _ _ => rfl⟩ 4 _) (.inr (fun e => by injection e with e; have e : g = pa := e; omega)) hB11
              obtain ⟨us, hus⟩ : ∃ us, (kids ++ [Tm.mk 1 0 0 [] []]).take p3 = us := ⟨_, rfl⟩
              have hul : us.length = p3 := by rw [← hus, List.length_take, List.length_append, HP2.out]; simp; omega
              have huf : ∀ t ∈ us, t.fit := fun t ht => by
                rw [← hus] at ht
                rcases List.mem_append.1 (List.mem_of_mem_take ht) with ht | ht
                · exact (Tm.fitL_iff kids).1 HFI.out.2.2.2 t ht
                · obtain rfl := List.mem_singleton.1 ht; exact HV0.out
              have huz : Tm.sizeL us ≤ 1 + Tm.sizeL kids := by
                have h := Tm.sizeL_le (kids ++ [Tm.mk 1 0 0 [] []]) p3
                rw [hus, Tm.sizeL_snoc, Tm.size_mk] at h
                simp only [Tm.sizeL] at h
                omega
              have htl : TmAt w11 w11.heap.size (.mk k num pos lv us) (.agg #[.int .i64 k, .int .i64 num, .int .i64 pos, .slice A1 p1 c1, .slice (some ⟨g, 0, none⟩) p3 cap]) := by
                obtain ⟨g', cap', e, _, _, _, _, h⟩ := o11.tms (by omega) (by have := hB11.size; omega)
                injection e with ea _ ec
                injection ea with ea
                injection ea with ea _
                subst ea ec
                have hk := h p3 cap
                rw [hus] at hk
                have hm := TmAt.make (k := k) (n := num) (a := pos) HQ1.out ((HQ2.out.below hb11).more hb11.size) hk
                rw [HP1.out, hul] at hm
                exact hm
              have hrl : rightCB n sc cs (.mk k num pos lv us) = false := by
                cases h : rightCB n sc cs (.mk k num pos lv us) with
                | false => rfl
                | true => exact absurd ((rightCB_iff ..).1 h) (not_long HRR.out (by rw [hul, HP2.out]; omega))
              have HR1 := Lib.hid (HRC.out n sc cs A nc cc _ _ w11 hb11 HNC.out (HIW.out w11 hb11) ((Tm.fit_mk ..).2 ⟨HFI.out.1, HFI.out.2.1, by omega, (Tm.fitL_iff _).2 huf⟩) (by rw [Tm.size_mk]; omega) htl)
              rw [hrl] at HR1
              have HB11 := Lib.hid hb11
              have c0' := cell_of_row _ _ 0 _ _ (0, 0) xa11
              have c1' := cell_of_row _ _ 1 _ _ (0, 0) xa11
              have c2' := cell_of_row _ _ 2 _ _ (0, 0) xa11
              have c3' := cell_of_row _ _ 3 _ _ (0, 0) xa11
              have c4' := cell_of_row _ _ 4 _ _ (0, 0) xa11
              have hcap3 : p3 + 1 + 1 ≤ cap := by have := HCAP.out; omega
              clear xa10 xa11 z8 z7 zb zg zp zq z10 hB11 hb11 o10 o11 hus hul huf huz htl hrl
              subst hp3
              go_wp2_with (fail)
              refine HR1.out.mono ?_
              rintro e w12 ⟨rfl, hb12⟩
              have HF : Hid (HasPost w true (.returned (.bool true)) w12) := ⟨rfl, HE.out _ (HB11.out.trans (hb12.mono HB11.out.size))⟩
              clear hb12 HR1
              go_wp2
              go_ret
              exact HF.out
            · have HF : Hid (HasPost w true (.returned (.bool true)) w10) := ⟨rfl, HE.out _ HB10.out⟩
              clear xa10
              go_wp2
              go_ret
              exact HF.out
end Go.Proofs.YtkijhinhjnbnlaaDoor
