/- Laws. -/
import Derived.Test.YtfgnnbpbbnnnhaaDoorKqaq
import Derived.Test.YtfgnnbpbbnnnhaaDoorKqaw
import Derived.Test.YtfgnnbpbbnnnhaaDoorKqaz
import Derived.Test.YtfgnnbpbbnnnhaaDoorKqbb
import Derived.Test.YtfgnnbpbbnnnhaaDoorKqbf
namespace Go.Proofs.YtfgnnbpbbnnnhaaDoor
open Go.RowKit Go.Maps
set_option maxRecDepth 100000 in
theorem enter_declsOf9 (vs : Array Value) (w : World) : (callFunc 18 vs).run Tryd.prog w = .ok (.enter 18 vs) w := by go_simp
set_option maxRecDepth 100000 in
theorem enter_size9 (vs : Array Value) (w : World) : (callFunc 12 vs).run Tryd.prog w = .ok (.enter 12 vs) w := by go_simp
set_option maxRecDepth 100000 in
theorem enter_levelsOf9 (vs : Array Value) (w : World) : (callFunc 20 vs).run Tryd.prog w = .ok (.enter 20 vs) w := by go_simp
theorem lss_to9 {x y : Int} {b : Bool} (p q : Operand) (w : World) (h : decide (x < y) = b) : ((do eqGuard .lss 3 p q (.int .i64 x) (.int .i64 y); binOp .lss 3 (.int .i64 x) (.int .i64 y) : Sem Value)).run Tryd.prog w = .ok (.bool b) w := by
  rw [← h]
  go_simp
theorem load_box9 {w w' : World} {g : Nat} {cs : Array Value} (h : w.heap[g]? = some (.cells cs 27 (0, 0))) (hb : Below w.heap.size w w') (hs : cs.size = 5 := by rfl) : (Instr.loadAt 27 (.pointer (some ⟨g, 0, none⟩))).run Tryd.prog w' = .ok (.agg cs) w' :=
  load_tmrow (hs := hs) ((hb.block _ (heap_some_lt h)).trans h)
set_option maxRecDepth 100000 in
theorem enter_levels9 (vs : Array Value) (w : World) : (callFunc 26 vs).run Tryd.prog w = .ok (.enter 26 vs) w := by go_simp
set_option maxRecDepth 100000 in
theorem enter_same9 (vs : Array Value) (w : World) : (callFunc 27 vs).run Tryd.prog w = .ok (.enter 27 vs) w := by go_simp
set_option maxRecDepth 100000 in
theorem enter_free9 (vs : Array Value) (w : World) : (callFunc 23 vs).run Tryd.prog w = .ok (.enter 23 vs) w := by go_simp
set_option maxRecDepth 100000 in
theorem enter_self9 (vs : Array Value) (w : World) : (callFunc 24 vs).run Tryd.prog w = .ok (.enter 24 vs) w := by go_simp
set_option maxRecDepth 100000 in
theorem enter_uses9 (vs : Array Value) (w : World) : (callFunc 25 vs).run Tryd.prog w = .ok (.enter 25 vs) w := by go_simp
set_option maxRecDepth 100000 in
theorem neq_same9 (x : Int) (p q : Operand) (w : World) : ((do eqGuard .neq 3 p q (.int .i64 x) (.int .i64 x); binOp .neq 3 (.int .i64 x) (.int .i64 x) : Sem Value)).run Tryd.prog w = .ok (.bool false) w := by go_simp
set_option maxRecDepth 100000 in
theorem neq_sameB9 (x : Bool) (p q : Operand) (w : World) : ((do eqGuard .neq 4 p q (.bool x) (.bool x); binOp .neq 4 (.bool x) (.bool x) : Sem Value)).run Tryd.prog w = .ok (.bool false) w := by
  cases x <;> go_simp
theorem tm_shape9 {w : World} {B : Nat} {t : Tm} {v : Value} (h : TmAt w B t v) : ∃ (i j l : Int) (A B : Option Addr) (n c m d : Nat), v = .agg #[.int .i64 i, .int .i64 j, .int .i64 l, .slice A n c, .slice B m d] := by
  obtain ⟨k, n, a, lv, kids⟩ := t
  obtain ⟨Al, cl, Ak, ck, rfl, _⟩ := h.open
  exact ⟨_, _, _, _, _, _, _, _, _, rfl⟩
/-- two variables that were made are not one -/
theorem ne_ok {Vs : List (Value → World → Prop)} {Ns : List (Nat × (World → World → Value → Prop))} {i j B : Nat} (hij : i ≠ j) (h1 : Vl Vs i = BoxV B) (h2 : Vl Vs j = BoxV B) (h3 : NlW Ns i = NewB) (h4 : NlW Ns j = NewB) :
    PrOkW (fun w1 w2 : World => Below w1.heap.size w1 w2) Vs Ns [⟨i, j, fun _ x y => x ≠ y⟩] := by
  intro q hq
  obtain rfl : q = ⟨i, j, fun _ x y => x ≠ y⟩ := by simpa using hq
  simp only [h1, h2, h3, h4]
  refine ⟨hij, fun x v w w' hR q1 q2 q3 => ?_, fun x v w w' hR q1 q2 q3 => ?_, fun x y w w' hR _ _ h => h⟩
  · obtain ⟨g, rfl, _, p3⟩ := q1
    obtain ⟨g', rfl, p4⟩ := q3
    intro e
    have := heap_some_lt p3
    injection e with e
    injection e with e
    injection e with e
    omega
  · obtain ⟨g, rfl, _, p3⟩ := q1
    obtain ⟨g', rfl, p4⟩ := q3
    intro e
    have := heap_some_lt p3
    injection e with e
    injection e with e
    injection e with e
    omega
/-- a block that holds a term -/
def BoxT (w : World) (g : Nat) (t : Tm) : Prop := ∃ (i j l : Int) (A : Option Addr) (n c : Nat) (B : Option Addr) (m d : Nat), w.heap[g]? = some (.cells #[.int .i64 i, .int .i64 j, .int .i64 l, .slice A n c, .slice B m d] 27 (0, 0)) ∧ TmAt w w.heap.size t (.agg #[.int .i64 i, .int .i64 j, .int .i64 l, .slice A n c, .slice B m d])
set_option maxRecDepth 100000 in
theorem enter_carryTm9 (vs : Array Value) (w : World) : (callFunc 22 vs).run Tryd.prog w = .ok (.enter 22 vs) w := by go_simp
theorem nameO_rng {f : Dc → Int → Option Int} {ds : List Dc} {ns : List Int} {num x : Int} (h : nameO f ds ns num = some x) : ∃ d ∈ ds, ∃ z ∈ ns, f d z = some x := by
  unfold nameO at h
  split at h
  · obtain ⟨d, hd, h⟩ := Option.bind_eq_some_iff.1 h
    obtain ⟨z, hz, h⟩ := Option.bind_eq_some_iff.1 h
    exact ⟨d, List.mem_of_getElem? hd, z, List.mem_of_getElem? hz, h⟩
  · cases h
theorem cyO_ok {dl : List Dc} {nd : Nat} (_ : dl.length = nd) (hsm : ∀ d ∈ dl, d.mems.length ≤ 1048576 ∧ d.ctors.length ≤ 1048576) (hsum : cntSum dl ≤ 1099511627776) : NmOk (cyO dl (cyB dl nd)) := fun k n a x h => by
  unfold cyO at h
  split at h
  · obtain ⟨d, hd, z, hz, h⟩ := nameO_rng h
    have h1 := cyB_good hsum z hz
    unfold conF at h
    split at h
    · injection h with h
      exact ⟨by omega, by unfold Rng; omega⟩
    · cases h
  · split at h
    · obtain ⟨d, hd, z, hz, h⟩ := nameO_rng h
      have h1 := cyB_good hsum z hz
      have h2 := hsm d hd
      unfold memF at h
      split at h
      · injection h with h
        exact ⟨by omega, by unfold Rng; omega⟩
      · cases h
    · split at h
      · obtain ⟨d, hd, z, hz, h⟩ := nameO_rng h
        have h1 := cyB_good hsum z hz
        have h2 := hsm d hd
        unfold ctoF at h
        split at h
        · injection h with h
          exact ⟨by omega, by unfold Rng; omega⟩
        · cases h
      · split at h
        · obtain ⟨d, hd, z, hz, h⟩ := nameO_rng h
          have h1 := cyB_good hsum z hz
          have h2 := hsm d hd
          unfold recF at h
          split at h
          · injection h with h
            exact ⟨by omega, by unfold Rng; omega⟩
          · cases h
        · cases h
set_option maxRecDepth 100000 in
set_option maxHeartbeats 32000000 in
theorem keeps_of (dl : List Dc) (Ad : Option Addr) (nd cd : Nat) (tt ta : Tm) (t0 t1 t2 : Int) (T1 : Option Addr) (a1 b1 : Nat) (T2 : Option Addr) (a2 b2 : Nat) (p0 p1 p2 : Int) (P1 : Option Addr) (c1 d1 : Nat) (P2 : Option Addr) (c2 d2 : Nat) (Al : Option Addr) (nl cl : Nat) (bys : List (List (Int × Int))) (n : Int) (w : World) (hK : KindsAll w)
    (hd : Dcs w w.heap.size Ad cd dl) (hnd : dl.length = nd) (hn9 : nd ≤ 1048576) (hok9 : ∀ d ∈ dl, d.ok9) (hcd : sumF Dc.cn dl ≤ 16777216) (hsum : cntSum dl ≤ 1099511627776)
    (ht : TmAt w w.heap.size tt (.agg #[.int .i64 t0, .int .i64 t1, .int .i64 t2, .slice T1 a1 b1, .slice T2 a2 b2])) (ha : TmAt w w.heap.size ta (.agg #[.int .i64 p0, .int .i64 p1, .int .i64 p2, .slice P1 c1 d1, .slice P2 c2 d2])) (ft : tt.fit) (fa : ta.fit) (ct : tt.count ≤ 1048576) (ca : ta.count ≤ 1048576)
    (hls : Levs w w.heap.size Al bys) (hnl : bys.length = nl) (h9 : Bys bys) (hl9 : lensSum bys ≤ 1048576) (htv : (tt.walk (levT bys) 0).fit) :
    Calls Tryd.prog 5 #[.slice Ad nd cd, .agg #[.int .i64 t0, .int .i64 t1, .int .i64 t2, .slice T1 a1 b1, .slice T2 a2 b2], .agg #[.int .i64 p0, .int .i64 p1, .int .i64 p2, .slice P1 c1 d1, .slice P2 c2 d2], .slice Al nl cl, .int .i64 n] w (HasPost w true) := by
  have hok : ∀ d ∈ dl, d.ok := fun d hd => Dc.all_ok (hok9 d hd)
  have HOK9 := Lib.hid hok9
  have HCD := Lib.hid hcd
  clear hok9 hcd
  have h0 : 0 < w.heap.size := cell_lt (hK 0 (by decide)).1
  obtain ⟨w1, hw1⟩ : ∃ x, (w.alloc (.cells #[.int .i64 t0, .int .i64 t1, .int .i64 t2, .slice T1 a1 b1, .slice T2 a2 b2] 27)).alloc (.cells #[.int .i64 p0, .int .i64 p1, .int .i64 p2, .slice P1 c1 d1, .slice P2 c2 d2] 27) = x := ⟨_, rfl⟩
  have hb1 : Below w.heap.size w w1 := by rw [← hw1]; exact ((Below.refl _ _).alloc (Nat.le_refl _) _).alloc (by simp) _
  have hs1 : w1.heap.size = w.heap.size + 2 := by rw [← hw1]; simp
  obtain ⟨z1, z2, _⟩ := two_allocs w (.cells #[.int .i64 t0, .int .i64 t1, .int .i64 t2, .slice T1 a1 b1, .slice T2 a2 b2] 27) (.cells #[.int .i64 p0, .int .i64 p1, .int .i64 p2, .slice P1 c1 d1, .slice P2 c2 d2] 27)
  rw [hw1] at z1 z2
  have hsm : ∀ d ∈ dl, d.mems.length ≤ 1048576 ∧ d.ctors.length ≤ 1048576 := fun d hd => ⟨(hok d hd).2.2.2.2.1, (hok d hd).2.2.2.2.2.2.1⟩
  have HAW := Lib.hid (awake21_any w1 (hK.binds.below hb1 h0))
  have HK := Lib.hid hK
  have HD := Lib.hid hd
  have HND := Lib.hid hnd
  have HOK := Lib.hid hok
  have HSUM := Lib.hid hsum
  have HT := Lib.hid ht
  have HA := Lib.hid ha
  have FT := Lib.hid ft
  have FA := Lib.hid fa
  have HLS := Lib.hid hls
  have HNL := Lib.hid hnl
  have H9 := Lib.hid h9
  have HSM := Lib.hid hsm
  have HB1 := Lib.hid hb1
  have HS1 := Lib.hid hs1
  have X1 := Lib.hid z1
  have X2 := Lib.hid z2
  have HCT := Lib.hid ct
  have HCA := Lib.hid ca
  have HL9 := Lib.hid hl9
  have HTV := Lib.hid htv
  clear hK hd hnd hok hsum ht ha ft fa hls hnl h9 hsm hb1 hs1 z1 z2 ct ca hl9 htv
  go_enter Tryd.func5, Tryd.ntmps5
  go_wp2_with (fail)
  refine HAW.out.mono ?_
  rintro e w2 ⟨rfl, hb2⟩
  have HB2 : Hid (Below w.heap.size w w2) := HB1.out.trans (hb2.mono HB1.out.size)
  have Y1 := Lib.hid ((hb2.block _ (heap_some_lt X1.out)).trans X1.out)
  have Y2 := Lib.hid ((hb2.block _ (heap_some_lt X2.out)).trans X2.out)
  have H02 : Hid (w.heap.size + 2 ≤ w2.heap.size) := by
    show _ ≤ _
    have h1 := hb2.size
    have h2 := HS1.out
    omega
  clear hb2 hw1 HAW X1 X2 HB1 HS1
  go_upto_region 3 with (fail)
  go_cut [48] from 19 to 48 (fun r wc => ∃ b : Bool, r = .bool b ∧ (b = false → 0 ≤ n ∧ n ≤ 1000 ∧ tt.size * ta.size ≤ 40000) ∧ Below w2.heap.size w2 wc)
  case first =>
    have st := Tm.size_le_count tt
    have sa := Tm.size_le_count ta
    obtain ⟨cD, hcD⟩ : ∃ x, sumF Dc.cn dl = x := ⟨_, rfl⟩
    obtain ⟨cT, hcT⟩ : ∃ x, tt.count = x := ⟨_, rfl⟩
    obtain ⟨cA, hcA⟩ : ∃ x, ta.count = x := ⟨_, rfl⟩
    obtain ⟨cL, hcL⟩ : ∃ x, lensSum bys = x := ⟨_, rfl⟩
    have HcD := Lib.hid hcD
    have HcT := Lib.hid hcT
    have HcA := Lib.hid hcA
    have HcL := Lib.hid hcL
    have kD : cD ≤ 16777216 := by rw [← hcD]; exact HCD.out
    have kT : cT ≤ 1048576 := by rw [← hcT]; exact HCT.out
    have kA : cA ≤ 1048576 := by rw [← hcA]; exact HCA.out
    have kL : cL ≤ 1048576 := by rw [← hcL]; exact HL9.out
    obtain ⟨zt, hzt⟩ : ∃ x, tt.size = x := ⟨_, rfl⟩
    obtain ⟨za, hza⟩ : ∃ x, ta.size = x := ⟨_, rfl⟩
    obtain ⟨zp, hzp⟩ : ∃ x, zt * za = x := ⟨_, rfl⟩
    have kp : zp ≤ 1048576 * 1048576 := by rw [← hzp]; exact Nat.mul_le_mul (by omega) (by omega)
    have hpi : (zt : Int) * (za : Int) = (zp : Int) := by rw [← hzp]; simp
    have HZT := Lib.hid hzt
    have HZA := Lib.hid hza
    have HZP := Lib.hid hzp
    have st1 : zt ≤ 1048576 := by omega
    have sa1 : za ≤ 1048576 := by omega
    clear hcD hcT hcA hcL hzt hza hzp st sa
    have HX : Hid (∀ w', Below w2.heap.size w2 w' → Below w.heap.size w w') := fun w' hx => HB2.out.trans (hx.mono HB2.out.size)
    have C20 : Hid (∀ w', Below w2.heap.size w2 w' → Calls Tryd.prog 18 #[.slice Ad nd cd, .int .i64 1500] w' (fun e w9 => ∃ r : Nat, e = .returned (.int .i64 (r : Int)) ∧ r ≤ cD ∧ (r ≤ 1500 → r = cD) ∧ Below w'.heap.size w' w9)) := fun w' hx => by
      have hb := HX.out w' hx
      exact (declsOf_cnt dl Ad cd nd w' HND.out hn9 HOK9.out (HD.out.below hb hb.size)).mono fun e w9 ⟨r, h1, h3, h4, h2⟩ => ⟨r, h1, by rw [← HcD.out]; exact h3, by rw [← HcD.out]; exact h4, h2⟩
    have C22 : Hid (∀ w', Below w2.heap.size w2 w' → Calls Tryd.prog 19 #[.agg #[.int .i64 t0, .int .i64 t1, .int .i64 t2, .slice T1 a1 b1, .slice T2 a2 b2], .int .i64 1500] w' (fun e w9 => ∃ r : Nat, e = .returned (.int .i64 (r : Int)) ∧ r ≤ cT ∧ (r ≤ 1500 → r = cT) ∧ Below w'.heap.size w' w9)) := fun w' hx => by
      have hb := HX.out w' hx
      exact (termOf_any tt HCT.out 1500 _ w' (by decide) (HT.out.below hb hb.size)).mono fun e w9 ⟨r, h1, h3, h4, h2⟩ => ⟨r, h1, by rw [← HcT.out]; exact h3, by rw [← HcT.out]; exact h4, h2⟩
    have C25 : Hid (∀ w', Below w2.heap.size w2 w' → Calls Tryd.prog 19 #[.agg #[.int .i64 p0, .int .i64 p1, .int .i64 p2, .slice P1 c1 d1, .slice P2 c2 d2], .int .i64 1500] w' (fun e w9 => ∃ r : Nat, e = .returned (.int .i64 (r : Int)) ∧ r ≤ cA ∧ (r ≤ 1500 → r = cA) ∧ Below w'.heap.size w' w9)) := fun w' hx => by
      have hb := HX.out w' hx
      exact (termOf_any ta HCA.out 1500 _ w' (by decide) (HA.out.below hb hb.size)).mono fun e w9 ⟨r, h1, h3, h4, h2⟩ => ⟨r, h1, by rw [← HcA.out]; exact h3, by rw [← HcA.out]; exact h4, h2⟩
    have C30 : Hid (∀ w', Below w2.heap.size w2 w' → Calls Tryd.prog 20 #[.slice Al nl cl, .int .i64 1500] w' (fun e w9 => ∃ r : Nat, e = .returned (.int .i64 (r : Int)) ∧ r ≤ cL ∧ (r ≤ 1500 → r = cL) ∧ Below w'.heap.size w' w9)) := fun w' hx => by
      have hb := HX.out w' hx
      exact (levelsOf_m Al bys cl 1500 nl w' HNL.out (by have := HL9.out; omega) (by decide) ((HLS.out.below hb).more hb.size)).mono fun e w9 ⟨r, h1, h3, h4, h2⟩ => ⟨r, h1, by rw [← HcL.out]; exact h3, by rw [← HcL.out]; exact h4, h2⟩
    have C43 : Hid (∀ w', Below w2.heap.size w2 w' → Calls Tryd.prog 12 #[.agg #[.int .i64 t0, .int .i64 t1, .int .i64 t2, .slice T1 a1 b1, .slice T2 a2 b2]] w' (fun e w9 => e = .returned (.int .i64 (zt : Int)) ∧ Below w'.heap.size w' w9)) := fun w' hx => by
      have hb := HX.out w' hx
      exact (size_any tt (by have := HZT.out; omega) _ w' (HT.out.below hb hb.size)).mono fun e w9 ⟨h1, h2⟩ => ⟨by rw [h1, HZT.out], h2⟩
    have C45 : Hid (∀ w', Below w2.heap.size w2 w' → Calls Tryd.prog 12 #[.agg #[.int .i64 p0, .int .i64 p1, .int .i64 p2, .slice P1 c1 d1, .slice P2 c2 d2]] w' (fun e w9 => e = .returned (.int .i64 (za : Int)) ∧ Below w'.heap.size w' w9)) := fun w' hx => by
      have hb := HX.out w' hx
      exact (size_any ta (by have := HZA.out; omega) _ w' (HA.out.below hb hb.size)).mono fun e w9 ⟨h1, h2⟩ => ⟨by rw [h1, HZA.out], h2⟩
    clear HX
    obtain ⟨gb, hgb⟩ : ∃ x, decide (1500 < cD + cT + cA) = x := ⟨_, rfl⟩
    obtain ⟨gl, hgl⟩ : ∃ x, decide (1500 < cL) = x := ⟨_, rfl⟩
    obtain ⟨gn, hgn⟩ : ∃ x, decide (n < 0) = x := ⟨_, rfl⟩
    obtain ⟨gm, hgm⟩ : ∃ x, decide (1000 < n) = x := ⟨_, rfl⟩
    obtain ⟨gp, hgp⟩ : ∃ x, decide ((40000 : Int) < (zp : Int)) = x := ⟨_, rfl⟩
    have HGB := Lib.hid hgb
    have HGL := Lib.hid hgl
    have HGN := Lib.hid hgn
    have HGM := Lib.hid hgm
    have HGP := Lib.hid hgp
    have HMU : Hid (IntKind.i64.wrap ((zt : Int) * (za : Int)) = (zp : Int)) := by
      show _ = _
      rw [hpi]
      exact IntWalk.i64_in _ (by omega)
    clear hgb hgl hgn hgm hgp
    have hS : Below w2.heap.size w2 w2.drew := (Below.refl _ _).drew
    refine wp_region_tab (fun w' => Below w2.heap.size w2 w') (fun w1 w2 : World => Below w1.heap.size w1 w2) [(fun (x : Value) (_ : World) => x = (.slice Ad nd cd : Value)), (fun (x : Value) (w : World) => ∃ r : Nat, x = .int .i64 (r : Int) ∧ Cp r (cD)), (fun (x : Value) (_ : World) => x = (.agg #[.int .i64 t0, .int .i64 t1, .int .i64 t2, .slice T1 a1 b1, .slice T2 a2 b2] : Value)), (fun (x : Value) (w : World) => ∃ r : Nat, x = .int .i64 (r : Int) ∧ Cp r (cT)), (fun (x : Value) (w : World) => ∃ r : Nat, x = .int .i64 (r : Int) ∧ Cp r (cD + cT)), (fun (x : Value) (_ : World) => x = (.agg #[.int .i64 p0, .int .i64 p1, .int .i64 p2, .slice P1 c1 d1, .slice P2 c2 d2] : Value)), (fun (x : Value) (w : World) => ∃ r : Nat, x = .int .i64 (r : Int) ∧ Cp r (cA)), (fun (x : Value) (w : World) => ∃ r : Nat, x = .int .i64 (r : Int) ∧ Cp r (cD + cT + cA)), (fun (x : Value) (_ : World) => x = (.bool gb : Value)), (fun (x : Value) (_ : World) => x = (.bool gb : Value)), (fun (x : Value) (_ : World) => x = gv (!gb) (.slice Al nl cl)), (fun (x : Value) (w : World) => (!gb) = true → ∃ r : Nat, x = .int .i64 (r : Int) ∧ Cp r (cL)), (fun (x : Value) (_ : World) => x = gv (!gb) (.bool gl)), (fun (x : Value) (_ : World) => x = (.bool (gb || gl) : Value)), (fun (x : Value) (_ : World) => x = (.bool (gb || gl) : Value)), (fun (x : Value) (_ : World) => x = gv (!(gb || gl)) (.int .i64 n)), (fun (x : Value) (_ : World) => x = gv (!(gb || gl)) (.bool gn)), (fun (x : Value) (_ : World) => x = (.bool ((gb || gl) || gn) : Value)), (fun (x : Value) (_ : World) => x = (.bool ((gb || gl) || gn) : Value)), (fun (x : Value) (_ : World) => x = gv (!((gb || gl) || gn)) (.int .i64 n)), (fun (x : Value) (_ : World) => x = gv (!((gb || gl) || gn)) (.bool gm)), (fun (x : Value) (_ : World) => x = (.bool (((gb || gl) || gn) || gm) : Value)), (fun (x : Value) (_ : World) => x = (.bool (((gb || gl) || gn) || gm) : Value)), (fun (x : Value) (_ : World) => x = gv (!(((gb || gl) || gn) || gm)) (.agg #[.int .i64 t0, .int .i64 t1, .int .i64 t2, .slice T1 a1 b1, .slice T2 a2 b2])), (fun (x : Value) (_ : World) => x = gv (!(((gb || gl) || gn) || gm)) (.int .i64 (zt : Int))), (fun (x : Value) (_ : World) => x = gv (!(((gb || gl) || gn) || gm)) (.agg #[.int .i64 p0, .int .i64 p1, .int .i64 p2, .slice P1 c1 d1, .slice P2 c2 d2])), (fun (x : Value) (_ : World) => x = gv (!(((gb || gl) || gn) || gm)) (.int .i64 (za : Int))), (fun (x : Value) (_ : World) => x = gv (!(((gb || gl) || gn) || gm)) (.int .i64 (zp : Int))), (fun (x : Value) (_ : World) => x = gv (!(((gb || gl) || gn) || gm)) (.bool gp)), (fun (x : Value) (_ : World) => x = (.bool ((((gb || gl) || gn) || gm) || gp) : Value))] [⟨some 19, .move (.tmp 0), none, []⟩, ⟨some 20, .call { callee := .value (.func 18), args := #[.tmp 19, .const (.int .i64 1500)], argTypes := #[22, 3] }, none, [(19, 0)]⟩, ⟨some 21, .load 27 (.tmp 6), none, []⟩, ⟨some 22, .call { callee := .value (.func 19), args := #[.tmp 21, .const (.int .i64 1500)], argTypes := #[27, 3] }, none, [(21, 2)]⟩, ⟨some 23, .binOp .add 3 (.tmp 20) (.tmp 22) 3, none, [(20, 1), (22, 3)]⟩, ⟨some 24, .load 27 (.tmp 7), none, []⟩, ⟨some 25, .call { callee := .value (.func 19), args := #[.tmp 24, .const (.int .i64 1500)], argTypes := #[27, 3] }, none, [(24, 5)]⟩, ⟨some 26, .binOp .add 3 (.tmp 23) (.tmp 25) 3, none, [(23, 4), (25, 6)]⟩, ⟨some 27, .binOp .gtr 3 (.tmp 26) (.const (.int .i64 1500)) 3, none, [(26, 7)]⟩, ⟨some 28, .move (.tmp 27), none, [(27, 8)]⟩, ⟨some 29, .move (.tmp 3), some (some 28, false), [(28, 9)]⟩, ⟨some 30, .call { callee := .value (.func 20), args := #[.tmp 29, .const (.int .i64 1500)], argTypes := #[24, 3] }, some (some 28, false), [(28, 9), (29, 10)]⟩, ⟨some 31, .binOp .gtr 3 (.tmp 30) (.const (.int .i64 1500)) 3, some (some 28, false), [(28, 9), (30, 11)]⟩, ⟨some 32, .pick (.tmp 28) (.const (Value.bool true)) (.tmp 31), none, [(28, 9), (31, 12)]⟩, ⟨some 33, .move (.tmp 32), none, [(32, 13)]⟩, ⟨some 34, .move (.tmp 4), some (some 33, false), [(33, 14)]⟩, ⟨some 35, .binOp .lss 3 (.tmp 34) (.const (.int .i64 0)) 3, some (some 33, false), [(33, 14), (34, 15)]⟩, ⟨some 36, .pick (.tmp 33) (.const (Value.bool true)) (.tmp 35), none, [(33, 14), (35, 16)]⟩, ⟨some 37, .move (.tmp 36), none, [(36, 17)]⟩, ⟨some 38, .move (.tmp 4), some (some 37, false), [(37, 18)]⟩, ⟨some 39, .binOp .gtr 3 (.tmp 38) (.const (.int .i64 1000)) 3, some (some 37, false), [(37, 18), (38, 19)]⟩, ⟨some 40, .pick (.tmp 37) (.const (Value.bool true)) (.tmp 39), none, [(37, 18), (39, 20)]⟩, ⟨some 41, .move (.tmp 40), none, [(40, 21)]⟩, ⟨some 42, .load 27 (.tmp 6), some (some 41, false), [(41, 22)]⟩, ⟨some 43, .call { callee := .value (.func 12), args := #[.tmp 42], argTypes := #[27] }, some (some 41, false), [(41, 22), (42, 23)]⟩, ⟨some 44, .load 27 (.tmp 7), some (some 41, false), [(41, 22)]⟩, ⟨some 45, .call { callee := .value (.func 12), args := #[.tmp 44], argTypes := #[27] }, some (some 41, false), [(41, 22), (44, 25)]⟩, ⟨some 46, .binOp .mul 3 (.tmp 43) (.tmp 45) 3, some (some 41, false), [(41, 22), (43, 24), (45, 26)]⟩, ⟨some 47, .binOp .gtr 3 (.tmp 46) (.const (.int .i64 40000)) 3, some (some 41, false), [(41, 22), (46, 27)]⟩, ⟨some 48, .pick (.tmp 41) (.const (Value.bool true)) (.tmp 47), none, [(41, 22), (47, 28)]⟩] [some 19, some 20, some 21, some 22, some 23, some 24, some 25, some 26, some 27, some 28, some 29, some 30, some 31, some 32, some 33, some 34, some 35, some 36, some 37, some 38, some 39, some 40, some 41, some 42, some 43, some 44, some 45, some 46, some 47, some 48] (by kernel_rfl) (by kernel_rfl) (by kernel_rfl) (by kernel_rfl) (by kernel_rfl) ?hS ?hmono ?hsteps ?hfin
    case hS => exact hS
    case hmono =>
      refine MonoL.cons (fun x w1 w2 _ _ _ hx => hx) ?_
      refine MonoL.cons (fun x w1 w2 _ _ hR hx => ?_) ?_
      · exact hx
      refine MonoL.cons (fun x w1 w2 _ _ _ hx => hx) ?_
      refine MonoL.cons (fun x w1 w2 _ _ hR hx => ?_) ?_
      · exact hx
      refine MonoL.cons (fun x w1 w2 _ _ hR hx => ?_) ?_
      · exact hx
      refine MonoL.cons (fun x w1 w2 _ _ _ hx => hx) ?_
      refine MonoL.cons (fun x w1 w2 _ _ hR hx => ?_) ?_
      · exact hx
      refine MonoL.cons (fun x w1 w2 _ _ hR hx => ?_) ?_
      · exact hx
      refine MonoL.cons (fun x w1 w2 _ _ _ hx => hx) ?_
      refine MonoL.cons (fun x w1 w2 _ _ _ hx => hx) ?_
      refine MonoL.cons (fun x w1 w2 _ _ _ hx => hx) ?_
      refine MonoL.cons (fun x w1 w2 _ _ hR hx => ?_) ?_
      · intro hc; replace hx := hx hc; exact hx
      refine MonoL.cons (fun x w1 w2 _ _ _ hx => hx) ?_
      refine MonoL.cons (fun x w1 w2 _ _ _ hx => hx) ?_
      refine MonoL.cons (fun x w1 w2 _ _ _ hx => hx) ?_
      refine MonoL.cons (fun x w1 w2 _ _ _ hx => hx) ?_
      refine MonoL.cons (fun x w1 w2 _ _ _ hx => hx) ?_
      refine MonoL.cons (fun x w1 w2 _ _ _ hx => hx) ?_
      refine MonoL.cons (fun x w1 w2 _ _ _ hx => hx) ?_
      refine MonoL.cons (fun x w1 w2 _ _ _ hx => hx) ?_
      refine MonoL.cons (fun x w1 w2 _ _ _ hx => hx) ?_
      refine MonoL.cons (fun x w1 w2 _ _ _ hx => hx) ?_
      refine MonoL.cons (fun x w1 w2 _ _ _ hx => hx) ?_
      refine MonoL.cons (fun x w1 w2 _ _ _ hx => hx) ?_
      refine MonoL.cons (fun x w1 w2 _ _ _ hx => hx) ?_
      refine MonoL.cons (fun x w1 w2 _ _ _ hx => hx) ?_
      refine MonoL.cons (fun x w1 w2 _ _ _ hx => hx) ?_
      refine MonoL.cons (fun x w1 w2 _ _ _ hx => hx) ?_
      refine MonoL.cons (fun x w1 w2 _ _ _ hx => hx) ?_
      refine MonoL.cons (fun x w1 w2 _ _ _ hx => hx) ?_
      exact MonoL.nil
    case hsteps =>
      refine StepsT.cons (fun (x : Value) (_ : World) => x = (.slice Ad nd cd : Value)) [] rfl rfl (fun oq hop _ wq hQS => ?_) ?_
      · exact StepFrom.move hop (v := (.slice Ad nd cd : Value)) (by kernel_rfl) (by kernel_rfl) hQS (Below.refl _ _) rfl
      refine StepsT.cons (fun (x : Value) (w : World) => ∃ r : Nat, x = .int .i64 (r : Int) ∧ Cp r (cD)) [(19, (fun (x : Value) (_ : World) => x = (.slice Ad nd cd : Value)))] rfl rfl (fun oq hop _ wq hQS => ?_) ?_
      · refine StepFrom.more_eq ((.slice Ad nd cd : Value)) ?_
        exact StepFrom.call hop (vs := [(.slice Ad nd cd : Value), (.int .i64 1500 : Value)]) (by kernel_rfl) (fun w => enter_declsOf9 _ w) (by kernel_rfl) ((C20.out wq hQS).mono fun e w9 h9 => by obtain ⟨s, q1, q2, q4, q3⟩ := h9; exact ⟨_, q1, hQS.trans (q3.mono hQS.size), q3, _, rfl, q2, q4⟩)
      refine StepsT.cons (fun (x : Value) (_ : World) => x = (.agg #[.int .i64 t0, .int .i64 t1, .int .i64 t2, .slice T1 a1 b1, .slice T2 a2 b2] : Value)) [] rfl rfl (fun oq hop _ wq hQS => ?_) ?_
      · exact StepFrom.load hop (p := (.pointer (some ⟨w.heap.size, 0, none⟩) : Value)) (by kernel_rfl) (load_box9 Y1.out hQS) (by kernel_rfl) hQS (Below.refl _ _) rfl
      refine StepsT.cons (fun (x : Value) (w : World) => ∃ r : Nat, x = .int .i64 (r : Int) ∧ Cp r (cT)) [(21, (fun (x : Value) (_ : World) => x = (.agg #[.int .i64 t0, .int .i64 t1, .int .i64 t2, .slice T1 a1 b1, .slice T2 a2 b2] : Value)))] rfl rfl (fun oq hop _ wq hQS => ?_) ?_
      · refine StepFrom.more_eq ((.agg #[.int .i64 t0, .int .i64 t1, .int .i64 t2, .slice T1 a1 b1, .slice T2 a2 b2] : Value)) ?_
        exact StepFrom.call hop (vs := [(.agg #[.int .i64 t0, .int .i64 t1, .int .i64 t2, .slice T1 a1 b1, .slice T2 a2 b2] : Value), (.int .i64 1500 : Value)]) (by kernel_rfl) (fun w => enter_termOf9 _ w) (by kernel_rfl) ((C22.out wq hQS).mono fun e w9 h9 => by obtain ⟨s, q1, q2, q4, q3⟩ := h9; exact ⟨_, q1, hQS.trans (q3.mono hQS.size), q3, _, rfl, q2, q4⟩)
      refine StepsT.cons (fun (x : Value) (w : World) => ∃ r : Nat, x = .int .i64 (r : Int) ∧ Cp r (cD + cT)) [(20, (fun (x : Value) (w : World) => ∃ r : Nat, x = .int .i64 (r : Int) ∧ Cp r (cD))), (22, (fun (x : Value) (w : World) => ∃ r : Nat, x = .int .i64 (r : Int) ∧ Cp r (cT)))] rfl rfl (fun oq hop _ wq hQS => ?_) ?_
      · refine StepFrom.more fun x20 h20 => ?_
        obtain ⟨r20, rfl, g20⟩ := h20
        refine StepFrom.more fun x22 h22 => ?_
        obtain ⟨r22, rfl, g22⟩ := h22
        exact StepFrom.bin hop (vx := (.int .i64 (r20 : Int) : Value)) (vy := (.int .i64 (r22 : Int) : Value)) (by kernel_rfl) (by kernel_rfl) (add_wrap9 _ _ _ _ _) (by kernel_rfl) hQS (Below.refl _ _) (by exact ⟨r20 + r22, by rw [cp_add (by have := g20.1; have := g22.1; omega)], by have := g20; have := g22; unfold Cp at *; omega⟩)
      refine StepsT.cons (fun (x : Value) (_ : World) => x = (.agg #[.int .i64 p0, .int .i64 p1, .int .i64 p2, .slice P1 c1 d1, .slice P2 c2 d2] : Value)) [] rfl rfl (fun oq hop _ wq hQS => ?_) ?_
      · exact StepFrom.load hop (p := (.pointer (some ⟨w.heap.size + 1, 0, none⟩) : Value)) (by kernel_rfl) (load_box9 Y2.out hQS) (by kernel_rfl) hQS (Below.refl _ _) rfl
      refine StepsT.cons (fun (x : Value) (w : World) => ∃ r : Nat, x = .int .i64 (r : Int) ∧ Cp r (cA)) [(24, (fun (x : Value) (_ : World) => x = (.agg #[.int .i64 p0, .int .i64 p1, .int .i64 p2, .slice P1 c1 d1, .slice P2 c2 d2] : Value)))] rfl rfl (fun oq hop _ wq hQS => ?_) ?_
      · refine StepFrom.more_eq ((.agg #[.int .i64 p0, .int .i64 p1, .int .i64 p2, .slice P1 c1 d1, .slice P2 c2 d2] : Value)) ?_
        exact StepFrom.call hop (vs := [(.agg #[.int .i64 p0, .int .i64 p1, .int .i64 p2, .slice P1 c1 d1, .slice P2 c2 d2] : Value), (.int .i64 1500 : Value)]) (by kernel_rfl) (fun w => enter_termOf9 _ w) (by kernel_rfl) ((C25.out wq hQS).mono fun e w9 h9 => by obtain ⟨s, q1, q2, q4, q3⟩ := h9; exact ⟨_, q1, hQS.trans (q3.mono hQS.size), q3, _, rfl, q2, q4⟩)
      refine StepsT.cons (fun (x : Value) (w : World) => ∃ r : Nat, x = .int .i64 (r : Int) ∧ Cp r (cD + cT + cA)) [(23, (fun (x : Value) (w : World) => ∃ r : Nat, x = .int .i64 (r : Int) ∧ Cp r (cD + cT))), (25, (fun (x : Value) (w : World) => ∃ r : Nat, x = .int .i64 (r : Int) ∧ Cp r (cA)))] rfl rfl (fun oq hop _ wq hQS => ?_) ?_
      · refine StepFrom.more fun x23 h23 => ?_
        obtain ⟨r23, rfl, g23⟩ := h23
        refine StepFrom.more fun x25 h25 => ?_
        obtain ⟨r25, rfl, g25⟩ := h25
        exact StepFrom.bin hop (vx := (.int .i64 (r23 : Int) : Value)) (vy := (.int .i64 (r25 : Int) : Value)) (by kernel_rfl) (by kernel_rfl) (add_wrap9 _ _ _ _ _) (by kernel_rfl) hQS (Below.refl _ _) (by exact ⟨r23 + r25, by rw [cp_add (by have := g23.1; have := g25.1; omega)], by have := g23; have := g25; unfold Cp at *; omega⟩)
      refine StepsT.cons (fun (x : Value) (_ : World) => x = (.bool gb : Value)) [(26, (fun (x : Value) (w : World) => ∃ r : Nat, x = .int .i64 (r : Int) ∧ Cp r (cD + cT + cA)))] rfl rfl (fun oq hop _ wq hQS => ?_) ?_
      · refine StepFrom.more fun x26 h26 => ?_
        obtain ⟨r26, rfl, g26⟩ := h26
        exact StepFrom.bin hop (vx := (.int .i64 (r26 : Int) : Value)) (vy := (.int .i64 1500 : Value)) (by kernel_rfl) (by kernel_rfl) (gtr_to _ _ _ (by rw [← HGB.out]; exact decide_eq_decide.2 (by have := g26; unfold Cp at this; omega))) (by kernel_rfl) hQS (Below.refl _ _) rfl
      refine StepsT.cons (fun (x : Value) (_ : World) => x = (.bool gb : Value)) [(27, (fun (x : Value) (_ : World) => x = (.bool gb : Value)))] rfl rfl (fun oq hop _ wq hQS => ?_) ?_
      · refine StepFrom.more_eq ((.bool gb : Value)) ?_
        exact StepFrom.move hop (v := (.bool gb : Value)) (by kernel_rfl) (by kernel_rfl) hQS (Below.refl _ _) rfl
      refine StepsT.cons (fun (x : Value) (_ : World) => x = gv (!gb) (.slice Al nl cl)) [(28, (fun (x : Value) (_ : World) => x = (.bool gb : Value)))] rfl rfl (fun oq hop _ wq hQS => ?_) ?_
      · rcases gb with _ | _
        · refine StepFrom.more_eq ((.bool false : Value)) ?_
          exact StepFrom.move hop (v := (.slice Al nl cl : Value)) (by kernel_rfl) (by kernel_rfl) hQS (Below.refl _ _) rfl
        · refine StepFrom.more_eq ((.bool true : Value)) ?_
          exact StepFrom.off (by kernel_rfl) hQS (Below.refl _ _) rfl
      refine StepsT.cons (fun (x : Value) (w : World) => (!gb) = true → ∃ r : Nat, x = .int .i64 (r : Int) ∧ Cp r (cL)) [(28, (fun (x : Value) (_ : World) => x = (.bool gb : Value))), (29, (fun (x : Value) (_ : World) => x = gv (!gb) (.slice Al nl cl)))] rfl rfl (fun oq hop _ wq hQS => ?_) ?_
      · rcases gb with _ | _
        · refine StepFrom.more_eq ((.bool false : Value)) ?_
          refine StepFrom.more_eq ((.slice Al nl cl : Value)) ?_
          exact StepFrom.call hop (vs := [(.slice Al nl cl : Value), (.int .i64 1500 : Value)]) (by kernel_rfl) (fun w => enter_levelsOf9 _ w) (by kernel_rfl) ((C30.out wq hQS).mono fun e w9 h9 => by obtain ⟨s, q1, q2, q4, q3⟩ := h9; exact ⟨_, q1, hQS.trans (q3.mono hQS.size), q3, fun _ => ⟨_, rfl, q2, q4⟩⟩)
        · refine StepFrom.more_eq ((.bool true : Value)) ?_
          refine StepFrom.more_eq (undef) ?_
          exact StepFrom.off (by kernel_rfl) hQS (Below.refl _ _) (fun h => by cases h)
      refine StepsT.cons (fun (x : Value) (_ : World) => x = gv (!gb) (.bool gl)) [(28, (fun (x : Value) (_ : World) => x = (.bool gb : Value))), (30, (fun (x : Value) (w : World) => (!gb) = true → ∃ r : Nat, x = .int .i64 (r : Int) ∧ Cp r (cL)))] rfl rfl (fun oq hop _ wq hQS => ?_) ?_
      · rcases gb with _ | _
        · refine StepFrom.more_eq ((.bool false : Value)) ?_
          refine StepFrom.more fun x30 h30 => ?_
          obtain ⟨r30, rfl, g30⟩ := h30 rfl
          exact StepFrom.bin hop (vx := (.int .i64 (r30 : Int) : Value)) (vy := (.int .i64 1500 : Value)) (by kernel_rfl) (by kernel_rfl) (gtr_to _ _ _ (by rw [← HGL.out]; exact decide_eq_decide.2 (by have := g30; unfold Cp at this; omega))) (by kernel_rfl) hQS (Below.refl _ _) rfl
        · refine StepFrom.more_eq ((.bool true : Value)) ?_
          refine StepFrom.more fun x30 h30 => ?_
          exact StepFrom.off (by kernel_rfl) hQS (Below.refl _ _) rfl
      refine StepsT.cons (fun (x : Value) (_ : World) => x = (.bool (gb || gl) : Value)) [(28, (fun (x : Value) (_ : World) => x = (.bool gb : Value))), (31, (fun (x : Value) (_ : World) => x = gv (!gb) (.bool gl)))] rfl rfl (fun oq hop _ wq hQS => ?_) ?_
      · refine StepFrom.more_eq ((.bool gb : Value)) ?_
        refine StepFrom.more_eq (gv (!gb) (.bool gl)) ?_
        exact StepFrom.pick hop (b := gb) (vx := (Value.bool true : Value)) (vy := gv (!gb) (.bool gl)) (by kernel_rfl) (by kernel_rfl) (by kernel_rfl) (by kernel_rfl) hQS (Below.refl _ _) (by cases gb <;> cases gl <;> rfl)
      refine StepsT.cons (fun (x : Value) (_ : World) => x = (.bool (gb || gl) : Value)) [(32, (fun (x : Value) (_ : World) => x = (.bool (gb || gl) : Value)))] rfl rfl (fun oq hop _ wq hQS => ?_) ?_
      · refine StepFrom.more_eq ((.bool (gb || gl) : Value)) ?_
        exact StepFrom.move hop (v := (.bool (gb || gl) : Value)) (by kernel_rfl) (by kernel_rfl) hQS (Below.refl _ _) rfl
      refine StepsT.cons (fun (x : Value) (_ : World) => x = gv (!(gb || gl)) (.int .i64 n)) [(33, (fun (x : Value) (_ : World) => x = (.bool (gb || gl) : Value)))] rfl rfl (fun oq hop _ wq hQS => ?_) ?_
      · rcases gb with _ | _
        · rcases gl with _ | _
          · refine StepFrom.more_eq ((.bool (false || false) : Value)) ?_
            exact StepFrom.move hop (v := (.int .i64 n : Value)) (by kernel_rfl) (by kernel_rfl) hQS (Below.refl _ _) rfl
          · refine StepFrom.more_eq ((.bool (false || true) : Value)) ?_
            exact StepFrom.off (by kernel_rfl) hQS (Below.refl _ _) rfl
        · rcases gl with _ | _
          · refine StepFrom.more_eq ((.bool (true || false) : Value)) ?_
            exact StepFrom.off (by kernel_rfl) hQS (Below.refl _ _) rfl
          · refine StepFrom.more_eq ((.bool (true || true) : Value)) ?_
            exact StepFrom.off (by kernel_rfl) hQS (Below.refl _ _) rfl
      refine StepsT.cons (fun (x : Value) (_ : World) => x = gv (!(gb || gl)) (.bool gn)) [(33, (fun (x : Value) (_ : World) => x = (.bool (gb || gl) : Value))), (34, (fun (x : Value) (_ : World) => x = gv (!(gb || gl)) (.int .i64 n)))] rfl rfl (fun oq hop _ wq hQS => ?_) ?_
      · rcases gb with _ | _
        · rcases gl with _ | _
          · refine StepFrom.more_eq ((.bool (false || false) : Value)) ?_
            refine StepFrom.more_eq ((.int .i64 n : Value)) ?_
            exact StepFrom.bin hop (vx := (.int .i64 n : Value)) (vy := (.int .i64 0 : Value)) (by kernel_rfl) (by kernel_rfl) (lss_to9 _ _ _ HGN.out) (by kernel_rfl) hQS (Below.refl _ _) rfl
          · refine StepFrom.more_eq ((.bool (false || true) : Value)) ?_
            refine StepFrom.more_eq (undef) ?_
            exact StepFrom.off (by kernel_rfl) hQS (Below.refl _ _) rfl
        · rcases gl with _ | _
          · refine StepFrom.more_eq ((.bool (true || false) : Value)) ?_
            refine StepFrom.more_eq (undef) ?_
            exact StepFrom.off (by kernel_rfl) hQS (Below.refl _ _) rfl
          · refine StepFrom.more_eq ((.bool (true || true) : Value)) ?_
            refine StepFrom.more_eq (undef) ?_
            exact StepFrom.off (by kernel_rfl) hQS (Below.refl _ _) rfl
      refine StepsT.cons (fun (x : Value) (_ : World) => x = (.bool ((gb || gl) || gn) : Value)) [(33, (fun (x : Value) (_ : World) => x = (.bool (gb || gl) : Value))), (35, (fun (x : Value) (_ : World) => x = gv (!(gb || gl)) (.bool gn)))] rfl rfl (fun oq hop _ wq hQS => ?_) ?_
      · refine StepFrom.more_eq ((.bool (gb || gl) : Value)) ?_
        refine StepFrom.more_eq (gv (!(gb || gl)) (.bool gn)) ?_
        exact StepFrom.pick hop (b := (gb || gl)) (vx := (Value.bool true : Value)) (vy := gv (!(gb || gl)) (.bool gn)) (by kernel_rfl) (by kernel_rfl) (by kernel_rfl) (by kernel_rfl) hQS (Below.refl _ _) (by cases gb <;> cases gl <;> cases gn <;> rfl)
      refine StepsT.cons (fun (x : Value) (_ : World) => x = (.bool ((gb || gl) || gn) : Value)) [(36, (fun (x : Value) (_ : World) => x = (.bool ((gb || gl) || gn) : Value)))] rfl rfl (fun oq hop _ wq hQS => ?_) ?_
      · refine StepFrom.more_eq ((.bool ((gb || gl) || gn) : Value)) ?_
        exact StepFrom.move hop (v := (.bool ((gb || gl) || gn) : Value)) (by kernel_rfl) (by kernel_rfl) hQS (Below.refl _ _) rfl
      refine StepsT.cons (fun (x : Value) (_ : World) => x = gv (!((gb || gl) || gn)) (.int .i64 n)) [(37, (fun (x : Value) (_ : World) => x = (.bool ((gb || gl) || gn) : Value)))] rfl rfl (fun oq hop _ wq hQS => ?_) ?_
      · rcases gb with _ | _
        · rcases gl with _ | _
          · rcases gn with _ | _
            · refine StepFrom.more_eq ((.bool ((false || false) || false) : Value)) ?_
              exact StepFrom.move hop (v := (.int .i64 n : Value)) (by kernel_rfl) (by kernel_rfl) hQS (Below.refl _ _) rfl
            · refine StepFrom.more_eq ((.bool ((false || false) || true) : Value)) ?_
              exact StepFrom.off (by kernel_rfl) hQS (Below.refl _ _) rfl
          · rcases gn with _ | _
            · refine StepFrom.more_eq ((.bool ((false || true) || false) : Value)) ?_
              exact StepFrom.off (by kernel_rfl) hQS (Below.refl _ _) rfl
            · refine StepFrom.more_eq ((.bool ((false || true) || true) : Value)) ?_
              exact StepFrom.off (by kernel_rfl) hQS (Below.refl _ _) rfl
        · rcases gl with _ | _
          · rcases gn with _ | _
            · refine StepFrom.more_eq ((.bool ((true || false) || false) : Value)) ?_
              exact StepFrom.off (by kernel_rfl) hQS (Below.refl _ _) rfl
            · refine StepFrom.more_eq ((.bool ((true || false) || true) : Value)) ?_
              exact StepFrom.off (by kernel_rfl) hQS (Below.refl _ _) rfl
          · rcases gn with _ | _
            · refine StepFrom.more_eq ((.bool ((true || true) || false) : Value)) ?_
              exact StepFrom.off (by kernel_rfl) hQS (Below.refl _ _) rfl
            · refine StepFrom.more_eq ((.bool ((true || true) || true) : Value)) ?_
              exact StepFrom.off (by kernel_rfl) hQS (Below.refl _ _) rfl
      refine StepsT.cons (fun (x : Value) (_ : World) => x = gv (!((gb || gl) || gn)) (.bool gm)) [(37, (fun (x : Value) (_ : World) => x = (.bool ((gb || gl) || gn) : Value))), (38, (fun (x : Value) (_ : World) => x = gv (!((gb || gl) || gn)) (.int .i64 n)))] rfl rfl (fun oq hop _ wq hQS => ?_) ?_
      · rcases gb with _ | _
        · rcases gl with _ | _
          · rcases gn with _ | _
            · refine StepFrom.more_eq ((.bool ((false || false) || false) : Value)) ?_
              refine StepFrom.more_eq ((.int .i64 n : Value)) ?_
              exact StepFrom.bin hop (vx := (.int .i64 n : Value)) (vy := (.int .i64 1000 : Value)) (by kernel_rfl) (by kernel_rfl) (gtr_to _ _ _ HGM.out) (by kernel_rfl) hQS (Below.refl _ _) rfl
            · refine StepFrom.more_eq ((.bool ((false || false) || true) : Value)) ?_
              refine StepFrom.more_eq (undef) ?_
              exact StepFrom.off (by kernel_rfl) hQS (Below.refl _ _) rfl
          · rcases gn with _ | _
            · refine StepFrom.more_eq ((.bool ((false || true) || false) : Value)) ?_
              refine StepFrom.more_eq (undef) ?_
              exact StepFrom.off (by kernel_rfl) hQS (Below.refl _ _) rfl
            · refine StepFrom.more_eq ((.bool ((false || true) || true) : Value)) ?_
              refine StepFrom.more_eq (undef) ?_
              exact StepFrom.off (by kernel_rfl) hQS (Below.refl _ _) rfl
        · rcases gl with _ | _
          · rcases gn with _ | _
            · refine StepFrom.more_eq ((.bool ((true || false) || false) : Value)) ?_
              refine StepFrom.more_eq (undef) ?_
              exact StepFrom.off (by kernel_rfl) hQS (Below.refl _ _) rfl
            · refine StepFrom.more_eq ((.bool ((true || false) || true) : Value)) ?_
              refine StepFrom.more_eq (undef) ?_
              exact StepFrom.off (by kernel_rfl) hQS (Below.refl _ _) rfl
          · rcases gn with _ | _
            · refine StepFrom.more_eq ((.bool ((true || true) || false) : Value)) ?_
              refine StepFrom.more_eq (undef) ?_
              exact StepFrom.off (by kernel_rfl) hQS (Below.refl _ _) rfl
            · refine StepFrom.more_eq ((.bool ((true || true) || true) : Value)) ?_
              refine StepFrom.more_eq (undef) ?_
              exact StepFrom.off (by kernel_rfl) hQS (Below.refl _ _) rfl
      refine StepsT.cons (fun (x : Value) (_ : World) => x = (.bool (((gb || gl) || gn) || gm) : Value)) [(37, (fun (x : Value) (_ : World) => x = (.bool ((gb || gl) || gn) : Value))), (39, (fun (x : Value) (_ : World) => x = gv (!((gb || gl) || gn)) (.bool gm)))] rfl rfl (fun oq hop _ wq hQS => ?_) ?_
      · refine StepFrom.more_eq ((.bool ((gb || gl) || gn) : Value)) ?_
        refine StepFrom.more_eq (gv (!((gb || gl) || gn)) (.bool gm)) ?_
        exact StepFrom.pick hop (b := ((gb || gl) || gn)) (vx := (Value.bool true : Value)) (vy := gv (!((gb || gl) || gn)) (.bool gm)) (by kernel_rfl) (by kernel_rfl) (by kernel_rfl) (by kernel_rfl) hQS (Below.refl _ _) (by cases gb <;> cases gl <;> cases gn <;> cases gm <;> rfl)
      refine StepsT.cons (fun (x : Value) (_ : World) => x = (.bool (((gb || gl) || gn) || gm) : Value)) [(40, (fun (x : Value) (_ : World) => x = (.bool (((gb || gl) || gn) || gm) : Value)))] rfl rfl (fun oq hop _ wq hQS => ?_) ?_
      · refine StepFrom.more_eq ((.bool (((gb || gl) || gn) || gm) : Value)) ?_
        exact StepFrom.move hop (v := (.bool (((gb || gl) || gn) || gm) : Value)) (by kernel_rfl) (by kernel_rfl) hQS (Below.refl _ _) rfl
      refine StepsT.cons (fun (x : Value) (_ : World) => x = gv (!(((gb || gl) || gn) || gm)) (.agg #[.int .i64 t0, .int .i64 t1, .int .i64 t2, .slice T1 a1 b1, .slice T2 a2 b2])) [(41, (fun (x : Value) (_ : World) => x = (.bool (((gb || gl) || gn) || gm) : Value)))] rfl rfl (fun oq hop _ wq hQS => ?_) ?_
      · rcases gb with _ | _
        · rcases gl with _ | _
          · rcases gn with _ | _
            · rcases gm with _ | _
              · refine StepFrom.more_eq ((.bool (((false || false) || false) || false) : Value)) ?_
                exact StepFrom.load hop (p := (.pointer (some ⟨w.heap.size, 0, none⟩) : Value)) (by kernel_rfl) (load_box9 Y1.out hQS) (by kernel_rfl) hQS (Below.refl _ _) rfl
              · refine StepFrom.more_eq ((.bool (((false || false) || false) || true) : Value)) ?_
                exact StepFrom.off (by kernel_rfl) hQS (Below.refl _ _) rfl
            · rcases gm with _ | _
              · refine StepFrom.more_eq ((.bool (((false || false) || true) || false) : Value)) ?_
                exact StepFrom.off (by kernel_rfl) hQS (Below.refl _ _) rfl
              · refine StepFrom.more_eq ((.bool (((false || false) || true) || true) : Value)) ?_
                exact StepFrom.off (by kernel_rfl) hQS (Below.refl _ _) rfl
          · rcases gn with _ | _
            · rcases gm with _ | _
              · refine StepFrom.more_eq ((.bool (((false || true) || false) || false) : Value)) ?_
                exact StepFrom.off (by kernel_rfl) hQS (Below.refl _ _) rfl
              · refine StepFrom.more_eq ((.bool (((false || true) || false) || true) : Value)) ?_
                exact StepFrom.off (by kernel_rfl) hQS (Below.refl _ _) rfl
            · rcases gm with _ | _
              · refine StepFrom.more_eq ((.bool (((false || true) || true) || false) : Value)) ?_
                exact StepFrom.off (by kernel_rfl) hQS (Below.refl _ _) rfl
              · refine StepFrom.more_eq ((.bool (((false || true) || true) || true) : Value)) ?_
                exact StepFrom.off (by kernel_rfl) hQS (Below.refl _ _) rfl
        · rcases gl with _ | _
          · rcases gn with _ | _
            · rcases gm with _ | _
              · refine StepFrom.more_eq ((.bool (((true || false) || false) || false) : Value)) ?_
                exact StepFrom.off (by kernel_rfl) hQS (Below.refl _ _) rfl
              · refine StepFrom.more_eq ((.bool (((true || false) || false) || true) : Value)) ?_
                exact StepFrom.off (by kernel_rfl) hQS (Below.refl _ _) rfl
            · rcases gm with _ | _
              · refine StepFrom.more_eq ((.bool (((true || false) || true) || false) : Value)) ?_
                exact StepFrom.off (by kernel_rfl) hQS (Below.refl _ _) rfl
              · refine StepFrom.more_eq ((.bool (((true || false) || true) || true) : Value)) ?_
                exact StepFrom.off (by kernel_rfl) hQS (Below.refl _ _) rfl
          · rcases gn with _ | _
            · rcases gm with _ | _
              · refine StepFrom.more_eq ((.bool (((true || true) || false) || false) : Value)) ?_
                exact StepFrom.off (by kernel_rfl) hQS (Below.refl _ _) rfl
              · refine StepFrom.more_eq ((.bool (((true || true) || false) || true) : Value)) ?_
                exact StepFrom.off (by kernel_rfl) hQS (Below.refl _ _) rfl
            · rcases gm with _ | _
              · refine StepFrom.more_eq ((.bool (((true || true) || true) || false) : Value)) ?_
                exact StepFrom.off (by kernel_rfl) hQS (Below.refl _ _) rfl
              · refine StepFrom.more_eq ((.bool (((true || true) || true) || true) : Value)) ?_
                exact StepFrom.off (by kernel_rfl) hQS (Below.refl _ _) rfl
      refine StepsT.cons (fun (x : Value) (_ : World) => x = gv (!(((gb || gl) || gn) || gm)) (.int .i64 (zt : Int))) [(41, (fun (x : Value) (_ : World) => x = (.bool (((gb || gl) || gn) || gm) : Value))), (42, (fun (x : Value) (_ : World) => x = gv (!(((gb || gl) || gn) || gm)) (.agg #[.int .i64 t0, .int .i64 t1, .int .i64 t2, .slice T1 a1 b1, .slice T2 a2 b2])))] rfl rfl (fun oq hop _ wq hQS => ?_) ?_
      · rcases gb with _ | _
        · rcases gl with _ | _
          · rcases gn with _ | _
            · rcases gm with _ | _
              · refine StepFrom.more_eq ((.bool (((false || false) || false) || false) : Value)) ?_
                refine StepFrom.more_eq ((.agg #[.int .i64 t0, .int .i64 t1, .int .i64 t2, .slice T1 a1 b1, .slice T2 a2 b2] : Value)) ?_
                exact StepFrom.call hop (vs := [(.agg #[.int .i64 t0, .int .i64 t1, .int .i64 t2, .slice T1 a1 b1, .slice T2 a2 b2] : Value)]) (by kernel_rfl) (fun w => enter_size9 _ w) (by kernel_rfl) ((C43.out wq hQS).mono fun e w9 h9 => by obtain ⟨q1, q2⟩ := h9; exact ⟨_, q1, hQS.trans (q2.mono hQS.size), q2, rfl⟩)
              · refine StepFrom.more_eq ((.bool (((false || false) || false) || true) : Value)) ?_
                refine StepFrom.more_eq (undef) ?_
                exact StepFrom.off (by kernel_rfl) hQS (Below.refl _ _) rfl
            · rcases gm with _ | _
              · refine StepFrom.more_eq ((.bool (((false || false) || true) || false) : Value)) ?_
                refine StepFrom.more_eq (undef) ?_
                exact StepFrom.off (by kernel_rfl) hQS (Below.refl _ _) rfl
              · refine StepFrom.more_eq ((.bool (((false || false) || true) || true) : Value)) ?_
                refine StepFrom.more_eq (undef) ?_
                exact StepFrom.off (by kernel_rfl) hQS (Below.refl _ _) rfl
          · rcases gn with _ | _
            · rcases gm with _ | _
              · refine StepFrom.more_eq ((.bool (((false || true) || false) || false) : Value)) ?_
                refine StepFrom.more_eq (undef) ?_
                exact StepFrom.off (by kernel_rfl) hQS (Below.refl _ _) rfl
              · refine StepFrom.more_eq ((.bool (((false || true) || false) || true) : Value)) ?_
                refine StepFrom.more_eq (undef) ?_
                exact StepFrom.off (by kernel_rfl) hQS (Below.refl _ _) rfl
            · rcases gm with _ | _
              · refine StepFrom.more_eq ((.bool (((false || true) || true) || false) : Value)) ?_
                refine StepFrom.more_eq (undef) ?_
                exact StepFrom.off (by kernel_rfl) hQS (Below.refl _ _) rfl
              · refine StepFrom.more_eq ((.bool (((false || true) || true) || true) : Value)) ?_
                refine StepFrom.more_eq (undef) ?_
                exact StepFrom.off (by kernel_rfl) hQS (Below.refl _ _) rfl
        · rcases gl with _ | _
          · rcases gn with _ | _
            · rcases gm with _ | _
              · refine StepFrom.more_eq ((.bool (((true || false) || false) || false) : Value)) ?_
                refine StepFrom.more_eq (undef) ?_
                exact StepFrom.off (by kernel_rfl) hQS (Below.refl _ _) rfl
              · refine StepFrom.more_eq ((.bool (((true || false) || false) || true) : Value)) ?_
                refine StepFrom.more_eq (undef) ?_
                exact StepFrom.off (by kernel_rfl) hQS (Below.refl _ _) rfl
            · rcases gm with _ | _
              · refine StepFrom.more_eq ((.bool (((true || false) || true) || false) : Value)) ?_
                refine StepFrom.more_eq (undef) ?_
                exact StepFrom.off (by kernel_rfl) hQS (Below.refl _ _) rfl
              · refine StepFrom.more_eq ((.bool (((true || false) || true) || true) : Value)) ?_
                refine StepFrom.more_eq (undef) ?_
                exact StepFrom.off (by kernel_rfl) hQS (Below.refl _ _) rfl
          · rcases gn with _ | _
            · rcases gm with _ | _
              · refine StepFrom.more_eq ((.bool (((true || true) || false) || false) : Value)) ?_
                refine StepFrom.more_eq (undef) ?_
                exact StepFrom.off (by kernel_rfl) hQS (Below.refl _ _) rfl
              · refine StepFrom.more_eq ((.bool (((true || true) || false) || true) : Value)) ?_
                refine StepFrom.more_eq (undef) ?_
                exact StepFrom.off (by kernel_rfl) hQS (Below.refl _ _) rfl
            · rcases gm with _ | _
              · refine StepFrom.more_eq ((.bool (((true || true) || true) || false) : Value)) ?_
                refine StepFrom.more_eq (undef) ?_
                exact StepFrom.off (by kernel_rfl) hQS (Below.refl _ _) rfl
              · refine StepFrom.more_eq ((.bool (((true || true) || true) || true) : Value)) ?_
                refine StepFrom.more_eq (undef) ?_
                exact StepFrom.off (by kernel_rfl) hQS (Below.refl _ _) rfl
      refine StepsT.cons (fun (x : Value) (_ : World) => x = gv (!(((gb || gl) || gn) || gm)) (.agg #[.int .i64 p0, .int .i64 p1, .int .i64 p2, .slice P1 c1 d1, .slice P2 c2 d2])) [(41, (fun (x : Value) (_ : World) => x = (.bool (((gb || gl) || gn) || gm) : Value)))] rfl rfl (fun oq hop _ wq hQS => ?_) ?_
      · rcases gb with _ | _
        · rcases gl with _ | _
          · rcases gn with _ | _
            · rcases gm with _ | _
              · refine StepFrom.more_eq ((.bool (((false || false) || false) || false) : Value)) ?_
                exact StepFrom.load hop (p := (.pointer (some ⟨w.heap.size + 1, 0, none⟩) : Value)) (by kernel_rfl) (load_box9 Y2.out hQS) (by kernel_rfl) hQS (Below.refl _ _) rfl
              · refine StepFrom.more_eq ((.bool (((false || false) || false) || true) : Value)) ?_
                exact StepFrom.off (by kernel_rfl) hQS (Below.refl _ _) rfl
            · rcases gm with _ | _
              · refine StepFrom.more_eq ((.bool (((false || false) || true) || false) : Value)) ?_
                exact StepFrom.off (by kernel_rfl) hQS (Below.refl _ _) rfl
              · refine StepFrom.more_eq ((.bool (((false || false) || true) || true) : Value)) ?_
                exact StepFrom.off (by kernel_rfl) hQS (Below.refl _ _) rfl
          · rcases gn with _ | _
            · rcases gm with _ | _
              · refine StepFrom.more_eq ((.bool (((false || true) || false) || false) : Value)) ?_
                exact StepFrom.off (by kernel_rfl) hQS (Below.refl _ _) rfl
              · refine StepFrom.more_eq ((.bool (((false || true) || false) || true) : Value)) ?_
                exact StepFrom.off (by kernel_rfl) hQS (Below.refl _ _) rfl
            · rcases gm with _ | _
              · refine StepFrom.more_eq ((.bool (((false || true) || true) || false) : Value)) ?_
                exact StepFrom.off (by kernel_rfl) hQS (Below.refl _ _) rfl
              · refine StepFrom.more_eq ((.bool (((false || true) || true) || true) : Value)) ?_
                exact StepFrom.off (by kernel_rfl) hQS (Below.refl _ _) rfl
        · rcases gl with _ | _
          · rcases gn with _ | _
            · rcases gm with _ | _
              · refine StepFrom.more_eq ((.bool (((true || false) || false) || false) : Value)) ?_
                exact StepFrom.off (by kernel_rfl) hQS (Below.refl _ _) rfl
              · refine StepFrom.more_eq ((.bool (((true || false) || false) || true) : Value)) ?_
                exact StepFrom.off (by kernel_rfl) hQS (Below.refl _ _) rfl
            · rcases gm with _ | _
              · refine StepFrom.more_eq ((.bool (((true || false) || true) || false) : Value)) ?_
                exact StepFrom.off (by kernel_rfl) hQS (Below.refl _ _) rfl
              · refine StepFrom.more_eq ((.bool (((true || false) || true) || true) : Value)) ?_
                exact StepFrom.off (by kernel_rfl) hQS (Below.refl _ _) rfl
          · rcases gn with _ | _
            · rcases gm with _ | _
              · refine StepFrom.more_eq ((.bool (((true || true) || false) || false) : Value)) ?_
                exact StepFrom.off (by kernel_rfl) hQS (Below.refl _ _) rfl
              · refine StepFrom.more_eq ((.bool (((true || true) || false) || true) : Value)) ?_
                exact StepFrom.off (by kernel_rfl) hQS (Below.refl _ _) rfl
            · rcases gm with _ | _
              · refine StepFrom.more_eq ((.bool (((true || true) || true) || false) : Value)) ?_
                exact StepFrom.off (by kernel_rfl) hQS (Below.refl _ _) rfl
              · refine StepFrom.more_eq ((.bool (((true || true) || true) || true) : Value)) ?_
                exact StepFrom.off (by kernel_rfl) hQS (Below.refl _ _) rfl
      refine StepsT.cons (fun (x : Value) (_ : World) => x = gv (!(((gb || gl) || gn) || gm)) (.int .i64 (za : Int))) [(41, (fun (x : Value) (_ : World) => x = (.bool (((gb || gl) || gn) || gm) : Value))), (44, (fun (x : Value) (_ : World) => x = gv (!(((gb || gl) || gn) || gm)) (.agg #[.int .i64 p0, .int .i64 p1, .int .i64 p2, .slice P1 c1 d1, .slice P2 c2 d2])))] rfl rfl (fun oq hop _ wq hQS => ?_) ?_
      · rcases gb with _ | _
        · rcases gl with _ | _
          · rcases gn with _ | _
            · rcases gm with _ | _
              · refine StepFrom.more_eq ((.bool (((false || false) || false) || false) : Value)) ?_
                refine StepFrom.more_eq ((.agg #[.int .i64 p0, .int .i64 p1, .int .i64 p2, .slice P1 c1 d1, .slice P2 c2 d2] : Value)) ?_
                exact StepFrom.call hop (vs := [(.agg #[.int .i64 p0, .int .i64 p1, .int .i64 p2, .slice P1 c1 d1, .slice P2 c2 d2] : Value)]) (by kernel_rfl) (fun w => enter_size9 _ w) (by kernel_rfl) ((C45.out wq hQS).mono fun e w9 h9 => by obtain ⟨q1, q2⟩ := h9; exact ⟨_, q1, hQS.trans (q2.mono hQS.size), q2, rfl⟩)
              · refine StepFrom.more_eq ((.bool (((false || false) || false) || true) : Value)) ?_
                refine StepFrom.more_eq (undef) ?_
                exact StepFrom.off (by kernel_rfl) hQS (Below.refl _ _) rfl
            · rcases gm with _ | _
              · refine StepFrom.more_eq ((.bool (((false || false) || true) || false) : Value)) ?_
                refine StepFrom.more_eq (undef) ?_
                exact StepFrom.off (by kernel_rfl) hQS (Below.refl _ _) rfl
              · refine StepFrom.more_eq ((.bool (((false || false) || true) || true) : Value)) ?_
                refine StepFrom.more_eq (undef) ?_
                exact StepFrom.off (by kernel_rfl) hQS (Below.refl _ _) rfl
          · rcases gn with _ | _
            · rcases gm with _ | _
              · refine StepFrom.more_eq ((.bool (((false || true) || false) || false) : Value)) ?_
                refine StepFrom.more_eq (undef) ?_
                exact StepFrom.off (by kernel_rfl) hQS (Below.refl _ _) rfl
              · refine StepFrom.more_eq ((.bool (((false || true) || false) || true) : Value)) ?_
                refine StepFrom.more_eq (undef) ?_
                exact StepFrom.off (by kernel_rfl) hQS (Below.refl _ _) rfl
            · rcases gm with _ | _
              · refine StepFrom.more_eq ((.bool (((false || true) || true) || false) : Value)) ?_
                refine StepFrom.more_eq (undef) ?_
                exact StepFrom.off (by kernel_rfl) hQS (Below.refl _ _) rfl
              · refine StepFrom.more_eq ((.bool (((false || true) || true) || true) : Value)) ?_
                refine StepFrom.more_eq (undef) ?_
                exact StepFrom.off (by kernel_rfl) hQS (Below.refl _ _) rfl
        · rcases gl with _ | _
          · rcases gn with _ | _
            · rcases gm with _ | _
              · refine StepFrom.more_eq ((.bool (((true || false) || false) || false) : Value)) ?_
                refine StepFrom.more_eq (undef) ?_
                exact StepFrom.off (by kernel_rfl) hQS (Below.refl _ _) rfl
              · refine StepFrom.more_eq ((.bool (((true || false) || false) || true) : Value)) ?_
                refine StepFrom.more_eq (undef) ?_
                exact StepFrom.off (by kernel_rfl) hQS (Below.refl _ _) rfl
            · rcases gm with _ | _
              · refine StepFrom.more_eq ((.bool (((true || false) || true) || false) : Value)) ?_
                refine StepFrom.more_eq (undef) ?_
                exact StepFrom.off (by kernel_rfl) hQS (Below.refl _ _) rfl
              · refine StepFrom.more_eq ((.bool (((true || false) || true) || true) : Value)) ?_
                refine StepFrom.more_eq (undef) ?_
                exact StepFrom.off (by kernel_rfl) hQS (Below.refl _ _) rfl
          · rcases gn with _ | _
            · rcases gm with _ | _
              · refine StepFrom.more_eq ((.bool (((true || true) || false) || false) : Value)) ?_
                refine StepFrom.more_eq (undef) ?_
                exact StepFrom.off (by kernel_rfl) hQS (Below.refl _ _) rfl
              · refine StepFrom.more_eq ((.bool (((true || true) || false) || true) : Value)) ?_
                refine StepFrom.more_eq (undef) ?_
                exact StepFrom.off (by kernel_rfl) hQS (Below.refl _ _) rfl
            · rcases gm with _ | _
              · refine StepFrom.more_eq ((.bool (((true || true) || true) || false) : Value)) ?_
                refine StepFrom.more_eq (undef) ?_
                exact StepFrom.off (by kernel_rfl) hQS (Below.refl _ _) rfl
              · refine StepFrom.more_eq ((.bool (((true || true) || true) || true) : Value)) ?_
                refine StepFrom.more_eq (undef) ?_
                exact StepFrom.off (by kernel_rfl) hQS (Below.refl _ _) rfl
      refine StepsT.cons (fun (x : Value) (_ : World) => x = gv (!(((gb || gl) || gn) || gm)) (.int .i64 (zp : Int))) [(41, (fun (x : Value) (_ : World) => x = (.bool (((gb || gl) || gn) || gm) : Value))), (43, (fun (x : Value) (_ : World) => x = gv (!(((gb || gl) || gn) || gm)) (.int .i64 (zt : Int)))), (45, (fun (x : Value) (_ : World) => x = gv (!(((gb || gl) || gn) || gm)) (.int .i64 (za : Int))))] rfl rfl (fun oq hop _ wq hQS => ?_) ?_
      · rcases gb with _ | _
        · rcases gl with _ | _
          · rcases gn with _ | _
            · rcases gm with _ | _
              · refine StepFrom.more_eq ((.bool (((false || false) || false) || false) : Value)) ?_
                refine StepFrom.more_eq ((.int .i64 (zt : Int) : Value)) ?_
                refine StepFrom.more_eq ((.int .i64 (za : Int) : Value)) ?_
                exact StepFrom.bin hop (vx := (.int .i64 (zt : Int) : Value)) (vy := (.int .i64 (za : Int) : Value)) (by kernel_rfl) (by kernel_rfl) (mul_to _ _ _ HMU.out) (by kernel_rfl) hQS (Below.refl _ _) rfl
              · refine StepFrom.more_eq ((.bool (((false || false) || false) || true) : Value)) ?_
                refine StepFrom.more_eq (undef) ?_
                refine StepFrom.more_eq (undef) ?_
                exact StepFrom.off (by kernel_rfl) hQS (Below.refl _ _) rfl
            · rcases gm with _ | _
              · refine StepFrom.more_eq ((.bool (((false || false) || true) || false) : Value)) ?_
                refine StepFrom.more_eq (undef) ?_
                refine StepFrom.more_eq (undef) ?_
                exact StepFrom.off (by kernel_rfl) hQS (Below.refl _ _) rfl
              · refine StepFrom.more_eq ((.bool (((false || false) || true) || true) : Value)) ?_
                refine StepFrom.more_eq (undef) ?_
                refine StepFrom.more_eq (undef) ?_
                exact StepFrom.off (by kernel_rfl) hQS (Below.refl _ _) rfl
          · rcases gn with _ | _
            · rcases gm with _ | _
              · refine StepFrom.more_eq ((.bool (((false || true) || false) || false) : Value)) ?_
                refine StepFrom.more_eq (undef) ?_
                refine StepFrom.more_eq (undef) ?_
                exact StepFrom.off (by kernel_rfl) hQS (Below.refl _ _) rfl
              · refine StepFrom.more_eq ((.bool (((false || true) || false) || true) : Value)) ?_
                refine StepFrom.more_eq (undef) ?_
                refine StepFrom.more_eq (undef) ?_
                exact StepFrom.off (by kernel_rfl) hQS (Below.refl _ _) rfl
            · rcases gm with _ | _
              · refine StepFrom.more_eq ((.bool (((false || true) || true) || false) : Value)) ?_
                refine StepFrom.more_eq (undef) ?_
                refine StepFrom.more_eq (undef) ?_
                exact StepFrom.off (by kernel_rfl) hQS (Below.refl _ _) rfl
              · refine StepFrom.more_eq ((.bool (((false || true) || true) || true) : Value)) ?_
                refine StepFrom.more_eq (undef) ?_
                refine StepFrom.more_eq (undef) ?_
                exact StepFrom.off (by kernel_rfl) hQS (Below.refl _ _) rfl
        · rcases gl with _ | _
          · rcases gn with _ | _
            · rcases gm with _ | _
              · refine StepFrom.more_eq ((.bool (((true || false) || false) || false) : Value)) ?_
                refine StepFrom.more_eq (undef) ?_
                refine StepFrom.more_eq (undef) ?_
                exact StepFrom.off (by kernel_rfl) hQS (Below.refl _ _) rfl
              · refine StepFrom.more_eq ((.bool (((true || false) || false) || true) : Value)) ?_
                refine StepFrom.more_eq (undef) ?_
                refine StepFrom.more_eq (undef) ?_
                exact StepFrom.off (by kernel_rfl) hQS (Below.refl _ _) rfl
            · rcases gm with _ | _
              · refine StepFrom.more_eq ((.bool (((true || false) || true) || false) : Value)) ?_
                refine StepFrom.more_eq (undef) ?_
                refine StepFrom.more_eq (undef) ?_
                exact StepFrom.off (by kernel_rfl) hQS (Below.refl _ _) rfl
              · refine StepFrom.more_eq ((.bool (((true || false) || true) || true) : Value)) ?_
                refine StepFrom.more_eq (undef) ?_
                refine StepFrom.more_eq (undef) ?_
                exact StepFrom.off (by kernel_rfl) hQS (Below.refl _ _) rfl
          · rcases gn with _ | _
            · rcases gm with _ | _
              · refine StepFrom.more_eq ((.bool (((true || true) || false) || false) : Value)) ?_
                refine StepFrom.more_eq (undef) ?_
                refine StepFrom.more_eq (undef) ?_
                exact StepFrom.off (by kernel_rfl) hQS (Below.refl _ _) rfl
              · refine StepFrom.more_eq ((.bool (((true || true) || false) || true) : Value)) ?_
                refine StepFrom.more_eq (undef) ?_
                refine StepFrom.more_eq (undef) ?_
                exact StepFrom.off (by kernel_rfl) hQS (Below.refl _ _) rfl
            · rcases gm with _ | _
              · refine StepFrom.more_eq ((.bool (((true || true) || true) || false) : Value)) ?_
                refine StepFrom.more_eq (undef) ?_
                refine StepFrom.more_eq (undef) ?_
                exact StepFrom.off (by kernel_rfl) hQS (Below.refl _ _) rfl
              · refine StepFrom.more_eq ((.bool (((true || true) || true) || true) : Value)) ?_
                refine StepFrom.more_eq (undef) ?_
                refine StepFrom.more_eq (undef) ?_
                exact StepFrom.off (by kernel_rfl) hQS (Below.refl _ _) rfl
      refine StepsT.cons (fun (x : Value) (_ : World) => x = gv (!(((gb || gl) || gn) || gm)) (.bool gp)) [(41, (fun (x : Value) (_ : World) => x = (.bool (((gb || gl) || gn) || gm) : Value))), (46, (fun (x : Value) (_ : World) => x = gv (!(((gb || gl) || gn) || gm)) (.int .i64 (zp : Int))))] rfl rfl (fun oq hop _ wq hQS => ?_) ?_
      · rcases gb with _ | _
        · rcases gl with _ | _
          · rcases gn with _ | _
            · rcases gm with _ | _
              · refine StepFrom.more_eq ((.bool (((false || false) || false) || false) : Value)) ?_
                refine StepFrom.more_eq ((.int .i64 (zp : Int) : Value)) ?_
                exact StepFrom.bin hop (vx := (.int .i64 (zp : Int) : Value)) (vy := (.int .i64 40000 : Value)) (by kernel_rfl) (by kernel_rfl) (gtr_to _ _ _ HGP.out) (by kernel_rfl) hQS (Below.refl _ _) rfl
              · refine StepFrom.more_eq ((.bool (((false || false) || false) || true) : Value)) ?_
                refine StepFrom.more_eq (undef) ?_
                exact StepFrom.off (by kernel_rfl) hQS (Below.refl _ _) rfl
            · rcases gm with _ | _
              · refine StepFrom.more_eq ((.bool (((false || false) || true) || false) : Value)) ?_
                refine StepFrom.more_eq (undef) ?_
                exact StepFrom.off (by kernel_rfl) hQS (Below.refl _ _) rfl
              · refine StepFrom.more_eq ((.bool (((false || false) || true) || true) : Value)) ?_
                refine StepFrom.more_eq (undef) ?_
                exact StepFrom.off (by kernel_rfl) hQS (Below.refl _ _) rfl
          · rcases gn with _ | _
            · rcases gm with _ | _
              · refine StepFrom.more_eq ((.bool (((false || true) || false) || false) : Value)) ?_
                refine StepFrom.more_eq (undef) ?_
                exact StepFrom.off (by kernel_rfl) hQS (Below.refl _ _) rfl
              · refine StepFrom.more_eq ((.bool (((false || true) || false) || true) : Value)) ?_
                refine StepFrom.more_eq (undef) ?_
                exact StepFrom.off (by kernel_rfl) hQS (Below.refl _ _) rfl
            · rcases gm with _ | _
              · refine StepFrom.more_eq ((.bool (((false || true) || true) || false) : Value)) ?_
                refine StepFrom.more_eq (undef) ?_
                exact StepFrom.off (by kernel_rfl) hQS (Below.refl _ _) rfl
              · refine StepFrom.more_eq ((.bool (((false || true) || true) || true) : Value)) ?_
                refine StepFrom.more_eq (undef) ?_
                exact StepFrom.off (by kernel_rfl) hQS (Below.refl _ _) rfl
        · rcases gl with _ | _
          · rcases gn with _ | _
            · rcases gm with _ | _
              · refine StepFrom.more_eq ((.bool (((true || false) || false) || false) : Value)) ?_
                refine StepFrom.more_eq (undef) ?_
                exact StepFrom.off (by kernel_rfl) hQS (Below.refl _ _) rfl
              · refine StepFrom.more_eq ((.bool (((true || false) || false) || true) : Value)) ?_
                refine StepFrom.more_eq (undef) ?_
                exact StepFrom.off (by kernel_rfl) hQS (Below.refl _ _) rfl
            · rcases gm with _ | _
              · refine StepFrom.more_eq ((.bool (((true || false) || true) || false) : Value)) ?_
                refine StepFrom.more_eq (undef) ?_
                exact StepFrom.off (by kernel_rfl) hQS (Below.refl _ _) rfl
              · refine StepFrom.more_eq ((.bool (((true || false) || true) || true) : Value)) ?_
                refine StepFrom.more_eq (undef) ?_
                exact StepFrom.off (by kernel_rfl) hQS (Below.refl _ _) rfl
          · rcases gn with _ | _
            · rcases gm with _ | _
              · refine StepFrom.more_eq ((.bool (((true || true) || false) || false) : Value)) ?_
                refine StepFrom.more_eq (undef) ?_
                exact StepFrom.off (by kernel_rfl) hQS (Below.refl _ _) rfl
              · refine StepFrom.more_eq ((.bool (((true || true) || false) || true) : Value)) ?_
                refine StepFrom.more_eq (undef) ?_
                exact StepFrom.off (by kernel_rfl) hQS (Below.refl _ _) rfl
            · rcases gm with _ | _
              · refine StepFrom.more_eq ((.bool (((true || true) || true) || false) : Value)) ?_
                refine StepFrom.more_eq (undef) ?_
                exact StepFrom.off (by kernel_rfl) hQS (Below.refl _ _) rfl
              · refine StepFrom.more_eq ((.bool (((true || true) || true) || true) : Value)) ?_
                refine StepFrom.more_eq (undef) ?_
                exact StepFrom.off (by kernel_rfl) hQS (Below.refl _ _) rfl
      refine StepsT.cons (fun (x : Value) (_ : World) => x = (.bool ((((gb || gl) || gn) || gm) || gp) : Value)) [(41, (fun (x : Value) (_ : World) => x = (.bool (((gb || gl) || gn) || gm) : Value))), (47, (fun (x : Value) (_ : World) => x = gv (!(((gb || gl) || gn) || gm)) (.bool gp)))] rfl rfl (fun oq hop _ wq hQS => ?_) ?_
      · refine StepFrom.more_eq ((.bool (((gb || gl) || gn) || gm) : Value)) ?_
        refine StepFrom.more_eq (gv (!(((gb || gl) || gn) || gm)) (.bool gp)) ?_
        exact StepFrom.pick hop (b := (((gb || gl) || gn) || gm)) (vx := (Value.bool true : Value)) (vy := gv (!(((gb || gl) || gn) || gm)) (.bool gp)) (by kernel_rfl) (by kernel_rfl) (by kernel_rfl) (by kernel_rfl) hQS (Below.refl _ _) (by cases gb <;> cases gl <;> cases gn <;> cases gm <;> cases gp <;> rfl)
      exact StepsT.nil
    case hfin =>
      intro wf hFS
      refine FinalFrom.more fun x19 h19 => ?_
      refine FinalFrom.more fun x20 h20 => ?_
      refine FinalFrom.more fun x21 h21 => ?_
      refine FinalFrom.more fun x22 h22 => ?_
      refine FinalFrom.more fun x23 h23 => ?_
      refine FinalFrom.more fun x24 h24 => ?_
      refine FinalFrom.more fun x25 h25 => ?_
      refine FinalFrom.more fun x26 h26 => ?_
      refine FinalFrom.more fun x27 h27 => ?_
      refine FinalFrom.more fun x28 h28 => ?_
      refine FinalFrom.more fun x29 h29 => ?_
      refine FinalFrom.more fun x30 h30 => ?_
      refine FinalFrom.more fun x31 h31 => ?_
      refine FinalFrom.more fun x32 h32 => ?_
      refine FinalFrom.more fun x33 h33 => ?_
      refine FinalFrom.more fun x34 h34 => ?_
      refine FinalFrom.more fun x35 h35 => ?_
      refine FinalFrom.more fun x36 h36 => ?_
      refine FinalFrom.more fun x37 h37 => ?_
      refine FinalFrom.more fun x38 h38 => ?_
      refine FinalFrom.more fun x39 h39 => ?_
      refine FinalFrom.more fun x40 h40 => ?_
      refine FinalFrom.more fun x41 h41 => ?_
      refine FinalFrom.more fun x42 h42 => ?_
      refine FinalFrom.more fun x43 h43 => ?_
      refine FinalFrom.more fun x44 h44 => ?_
      refine FinalFrom.more fun x45 h45 => ?_
      refine FinalFrom.more fun x46 h46 => ?_
      refine FinalFrom.more fun x47 h47 => ?_
      refine FinalFrom.more fun x48 h48 => ?_
      refine FinalFrom.done ?_
      simp only [Act.put, List.setIfInBounds_toArray, List.set_cons_zero, List.set_cons_succ]
      try go_wp2_with (fail)
      go_meet
      case rel =>
        refine ⟨_, h48, fun hf => ?_, hFS⟩
        have e1 := HGB.out
        have e2 := HGN.out
        have e3 := HGM.out
        have e4 := HGP.out
        revert hf
        cases gb <;> cases gl <;> cases gn <;> cases gm <;> cases gp <;> intro hf <;> first | cases hf | skip
        have f2 := of_decide_eq_false e2
        have f3 := of_decide_eq_false e3
        have f4 := of_decide_eq_false e4
        exact ⟨by omega, by omega, by rw [HZT.out, HZA.out, HZP.out]; omega⟩
  case rest =>
    obtain ⟨b, rfl, hsm, hbc⟩ := hcut
    have HBC : Hid (Below w.heap.size w wc) := HB2.out.trans (hbc.mono HB2.out.size)
    have Z1 := Lib.hid ((hbc.block _ (heap_some_lt Y1.out)).trans Y1.out)
    have Z2 := Lib.hid ((hbc.block _ (heap_some_lt Y2.out)).trans Y2.out)
    clear hbc Y1 Y2 HB2 H02
    cases b with
    | true =>
      clear hsm
      go_wp2_with (fail)
      go_ret
      exact ⟨rfl, HBC.out⟩
    | false =>
    obtain ⟨hn0, hn1, hsz⟩ := hsm rfl
    clear hsm
    go_wp2_with (fail)
    refine (carryAt_any dl Ad nd cd wc (HD.out.below HBC.out HBC.out.size) HND.out hn9 HSM.out HSUM.out).mono ?_
    rintro e w4 ⟨va, rfl, hown, hb4⟩
    obtain ⟨Aa, ca, rfl, hca, hI⟩ := ints_of_own9 hown (cyB_length dl nd)
    have HB4 : Hid (Below w.heap.size w w4) := HBC.out.trans (hb4.mono HBC.out.size)
    have V1 := Lib.hid ((hb4.block _ (heap_some_lt Z1.out)).trans Z1.out)
    have V2 := Lib.hid ((hb4.block _ (heap_some_lt Z2.out)).trans Z2.out)
    clear Z1 Z2
    have Z1 := V1
    have Z2 := V2
    clear V1 V2
    obtain ⟨F, hF⟩ : ∃ f, cyO dl (cyB dl nd) = f := ⟨_, rfl⟩
    have HF : Hid (NmOk F) := by rw [← hF]; exact cyO_ok HND.out HSM.out HSUM.out
    have HCY : Hid (∀ (t : Tm) (k num pos : Int) (A1 : Option Addr) (p1 c1 : Nat) (A2 : Option Addr) (p2 c2 : Nat) (w' : World), t.fit → t.size ≤ 1073741824 → Below w4.heap.size w4 w' → TmAt w' w'.heap.size t (.agg #[.int .i64 k, .int .i64 num, .int .i64 pos, .slice A1 p1 c1, .slice A2 p2 c2]) → Calls Tryd.prog 22 #[.slice Ad nd cd, .slice Aa nd ca, .agg #[.int .i64 k, .int .i64 num, .int .i64 pos, .slice A1 p1 c1, .slice A2 p2 c2]] w' (TermPost w' (t.cy F))) := fun t k num pos A1 p1 c1 A2 p2 c2 w' hf hz hx hv => by
      have hbx := HB4.out.trans (hx.mono HB4.out.size)
      have hz4 := hx.size
      have hzz := HB4.out.size
      rw [← hF]
      exact carryT_own ca w' ⟨HD.out.below hbx hbx.size, HND.out, (hI.below hx).more hx.size, cyB_length _ _, cyB_good HSUM.out, HSM.out⟩ (by omega) (HK.out.binds.below hbx h0) t hf hz k num pos A1 p1 c1 A2 p2 c2 hv
    have HSZ : Hid (tt.size ≤ 1048576 ∧ ta.size ≤ 1048576 ∧ tt.size * ta.size ≤ 40000) := by
      have h1 := Tm.size_le_count tt
      have h2 := Tm.size_le_count ta
      have h3 := HCT.out
      have h4 := HCA.out
      exact ⟨by omega, by omega, hsz⟩
    obtain ⟨cyt, hcyt⟩ : ∃ t, tt.cy F = t := ⟨_, rfl⟩
    obtain ⟨cya, hcya⟩ : ∃ t, ta.cy F = t := ⟨_, rfl⟩
    have HCYT := Lib.hid hcyt
    have HCYA := Lib.hid hcya
    clear hown hb4 hI hsz hF hcyt hcya
    go_upto_region 6 with (fail)
    go_cut [12, 13] from 51 to 58 (fun sx sy wx => ∃ gx gy, sx = .pointer (some ⟨gx, 0, none⟩) ∧ sy = .pointer (some ⟨gy, 0, none⟩) ∧ BoxT wx gx cyt ∧ BoxT wx gy cya ∧ Below w4.heap.size w4 wx)
    case first =>
      have C54 : Hid (∀ w', Below w4.heap.size w4 w' → Calls Tryd.prog 22 #[.slice Ad nd cd, .slice Aa nd ca, .agg #[.int .i64 t0, .int .i64 t1, .int .i64 t2, .slice T1 a1 b1, .slice T2 a2 b2]] w' (TermPost w' cyt)) := fun w' hx => by
        have hbx := HB4.out.trans (hx.mono HB4.out.size)
        rw [← HCYT.out]
        exact HCY.out tt _ _ _ _ _ _ _ _ _ w' FT.out (by have := HSZ.out.1; omega) hx (HT.out.below hbx hbx.size)
      have C58 : Hid (∀ w', Below w4.heap.size w4 w' → Calls Tryd.prog 22 #[.slice Ad nd cd, .slice Aa nd ca, .agg #[.int .i64 p0, .int .i64 p1, .int .i64 p2, .slice P1 c1 d1, .slice P2 c2 d2]] w' (TermPost w' cya)) := fun w' hx => by
        have hbx := HB4.out.trans (hx.mono HB4.out.size)
        rw [← HCYA.out]
        exact HCY.out ta _ _ _ _ _ _ _ _ _ w' FA.out (by have := HSZ.out.2.1; omega) hx (HA.out.below hbx hbx.size)
      have hS : Below w4.heap.size w4 w4.drew := (Below.refl _ _).drew
      refine wp_region_tailPW 10 (fun w' => Below w4.heap.size w4 w') (fun w1 w2 : World => Below w1.heap.size w1 w2) [(fun (x : Value) (_ : World) => x = (.slice Ad nd cd : Value)), (fun (x : Value) (_ : World) => x = (.slice Aa nd ca : Value)), (fun (x : Value) (_ : World) => x = (.agg #[.int .i64 t0, .int .i64 t1, .int .i64 t2, .slice T1 a1 b1, .slice T2 a2 b2] : Value)), (fun (x : Value) (w : World) => TmAt w w.heap.size cyt x), (fun (x : Value) (_ : World) => x = (.slice Ad nd cd : Value)), (fun (x : Value) (_ : World) => x = (.slice Aa nd ca : Value)), (fun (x : Value) (_ : World) => x = (.agg #[.int .i64 p0, .int .i64 p1, .int .i64 p2, .slice P1 c1 d1, .slice P2 c2 d2] : Value)), (fun (x : Value) (w : World) => TmAt w w.heap.size cya x), (fun (x : Value) (w : World) => BoxV w4.heap.size x w), (fun (x : Value) (w : World) => BoxV w4.heap.size x w)] [(3, NewV cyt), (7, NewV cya), (8, NewB), (9, NewB)] [⟨3, 8, AwayT cyt⟩, ⟨3, 9, AwayT cyt⟩, ⟨7, 8, AwayT cya⟩, ⟨7, 9, AwayT cya⟩, ⟨8, 9, fun _ x y => x ≠ y⟩] [⟨some 51, .move (.tmp 0), none, []⟩, ⟨some 52, .move (.tmp 11), none, []⟩, ⟨some 53, .load 27 (.tmp 6), none, []⟩, ⟨some 54, .call { callee := .value (.func 22), args := #[.tmp 51, .tmp 52, .tmp 53], argTypes := #[22, 54, 27] }, none, [(51, 0), (52, 1), (53, 2)]⟩, ⟨some 55, .move (.tmp 0), none, []⟩, ⟨some 56, .move (.tmp 11), none, []⟩, ⟨some 57, .load 27 (.tmp 7), none, []⟩, ⟨some 58, .call { callee := .value (.func 22), args := #[.tmp 55, .tmp 56, .tmp 57], argTypes := #[22, 54, 27] }, none, [(55, 4), (56, 5), (57, 6)]⟩, ⟨some 12, .alloc 27, none, []⟩, ⟨some 13, .alloc 27, none, []⟩] [some 51, some 52, some 53, some 54, some 55, some 56, some 57, some 58, some 12, some 13] (by kernel_rfl) (by kernel_rfl) (by kernel_rfl) (by kernel_rfl) (by kernel_rfl) (by kernel_rfl) ?hb ?hS ?hmono ?hpr ?hsteps ?hfin
      case hb => intro q hq; simp only [List.mem_cons, List.not_mem_nil, or_false] at hq; rcases hq with rfl | rfl | rfl | rfl | rfl <;> exact ⟨by simp, by simp⟩
      case hS => exact hS
      case hmono =>
        refine MonoL.cons (fun x w1 w2 _ _ _ hx => hx) ?_
        refine MonoL.cons (fun x w1 w2 _ _ _ hx => hx) ?_
        refine MonoL.cons (fun x w1 w2 _ _ _ hx => hx) ?_
        refine MonoL.cons (fun x w1 w2 _ _ hR hx => ?_) ?_
        · exact hx.below hR hR.size
        refine MonoL.cons (fun x w1 w2 _ _ _ hx => hx) ?_
        refine MonoL.cons (fun x w1 w2 _ _ _ hx => hx) ?_
        refine MonoL.cons (fun x w1 w2 _ _ _ hx => hx) ?_
        refine MonoL.cons (fun x w1 w2 _ _ hR hx => ?_) ?_
        · exact hx.below hR hR.size
        refine MonoL.cons (fun x w1 w2 _ _ hR hx => ?_) ?_
        · exact hx.mono hR
        refine MonoL.cons (fun x w1 w2 _ _ hR hx => ?_) ?_
        · exact hx.mono hR
        exact MonoL.nil
      case hpr =>
        intro q hq
        simp only [List.mem_cons, List.not_mem_nil, or_false] at hq
        rcases hq with rfl | rfl | rfl | rfl | rfl
        · exact away_ok (B := w4.heap.size) (by decide) rfl rfl rfl rfl _ (List.mem_singleton.2 rfl)
        · exact away_ok (B := w4.heap.size) (by decide) rfl rfl rfl rfl _ (List.mem_singleton.2 rfl)
        · exact away_ok (B := w4.heap.size) (by decide) rfl rfl rfl rfl _ (List.mem_singleton.2 rfl)
        · exact away_ok (B := w4.heap.size) (by decide) rfl rfl rfl rfl _ (List.mem_singleton.2 rfl)
        · exact ne_ok (B := w4.heap.size) (by decide) rfl rfl rfl rfl _ (List.mem_singleton.2 rfl)
      case hsteps =>
        refine StepsPW.cons (fun (x : Value) (_ : World) => x = (.slice Ad nd cd : Value)) [] rfl rfl rfl (fun oq hop _ wq hQS => ?_) ?_
        · exact StepFrom.move hop (v := (.slice Ad nd cd : Value)) (by kernel_rfl) (by kernel_rfl) hQS (Below.refl _ _) rfl
        refine StepsPW.cons (fun (x : Value) (_ : World) => x = (.slice Aa nd ca : Value)) [] rfl rfl rfl (fun oq hop _ wq hQS => ?_) ?_
        · exact StepFrom.move hop (v := (.slice Aa nd ca : Value)) (by kernel_rfl) (by kernel_rfl) hQS (Below.refl _ _) rfl
        refine StepsPW.cons (fun (x : Value) (_ : World) => x = (.agg #[.int .i64 t0, .int .i64 t1, .int .i64 t2, .slice T1 a1 b1, .slice T2 a2 b2] : Value)) [] rfl rfl rfl (fun oq hop _ wq hQS => ?_) ?_
        · exact StepFrom.load hop (p := (.pointer (some ⟨w.heap.size, 0, none⟩) : Value)) (by kernel_rfl) (load_box9 Z1.out hQS) (by kernel_rfl) hQS (Below.refl _ _) rfl
        refine StepsPW.new (fun (x : Value) (w : World) => TmAt w w.heap.size cyt x) (NewV cyt) [(51, (fun (x : Value) (_ : World) => x = (.slice Ad nd cd : Value))), (52, (fun (x : Value) (_ : World) => x = (.slice Aa nd ca : Value))), (53, (fun (x : Value) (_ : World) => x = (.agg #[.int .i64 t0, .int .i64 t1, .int .i64 t2, .slice T1 a1 b1, .slice T2 a2 b2] : Value)))] rfl rfl rfl (fun oq hop _ wq hQS => ?_) ?_
        · refine StepFrom.more_eq ((.slice Ad nd cd : Value)) ?_
          refine StepFrom.more_eq ((.slice Aa nd ca : Value)) ?_
          refine StepFrom.more_eq ((.agg #[.int .i64 t0, .int .i64 t1, .int .i64 t2, .slice T1 a1 b1, .slice T2 a2 b2] : Value)) ?_
          refine StepFrom.call hop (vs := [(.slice Ad nd cd : Value), (.slice Aa nd ca : Value), (.agg #[.int .i64 t0, .int .i64 t1, .int .i64 t2, .slice T1 a1 b1, .slice T2 a2 b2] : Value)]) (by kernel_rfl) (fun w => enter_carryTm9 _ w) (by kernel_rfl) ((C54.out wq hQS).mono fun e w9 h9 => ?_)
          obtain ⟨v, j1, j2, j3⟩ := h9
          exact ⟨_, j1, hQS.trans (j3.mono hQS.size), j3, j2.tmAt, j2⟩
        refine StepsPW.cons (fun (x : Value) (_ : World) => x = (.slice Ad nd cd : Value)) [] rfl rfl rfl (fun oq hop _ wq hQS => ?_) ?_
        · exact StepFrom.move hop (v := (.slice Ad nd cd : Value)) (by kernel_rfl) (by kernel_rfl) hQS (Below.refl _ _) rfl
        refine StepsPW.cons (fun (x : Value) (_ : World) => x = (.slice Aa nd ca : Value)) [] rfl rfl rfl (fun oq hop _ wq hQS => ?_) ?_
        · exact StepFrom.move hop (v := (.slice Aa nd ca : Value)) (by kernel_rfl) (by kernel_rfl) hQS (Below.refl _ _) rfl
        refine StepsPW.cons (fun (x : Value) (_ : World) => x = (.agg #[.int .i64 p0, .int .i64 p1, .int .i64 p2, .slice P1 c1 d1, .slice P2 c2 d2] : Value)) [] rfl rfl rfl (fun oq hop _ wq hQS => ?_) ?_
        · exact StepFrom.load hop (p := (.pointer (some ⟨w.heap.size + 1, 0, none⟩) : Value)) (by kernel_rfl) (load_box9 Z2.out hQS) (by kernel_rfl) hQS (Below.refl _ _) rfl
        refine StepsPW.new (fun (x : Value) (w : World) => TmAt w w.heap.size cya x) (NewV cya) [(55, (fun (x : Value) (_ : World) => x = (.slice Ad nd cd : Value))), (56, (fun (x : Value) (_ : World) => x = (.slice Aa nd ca : Value))), (57, (fun (x : Value) (_ : World) => x = (.agg #[.int .i64 p0, .int .i64 p1, .int .i64 p2, .slice P1 c1 d1, .slice P2 c2 d2] : Value)))] rfl rfl rfl (fun oq hop _ wq hQS => ?_) ?_
        · refine StepFrom.more_eq ((.slice Ad nd cd : Value)) ?_
          refine StepFrom.more_eq ((.slice Aa nd ca : Value)) ?_
          refine StepFrom.more_eq ((.agg #[.int .i64 p0, .int .i64 p1, .int .i64 p2, .slice P1 c1 d1, .slice P2 c2 d2] : Value)) ?_
          refine StepFrom.call hop (vs := [(.slice Ad nd cd : Value), (.slice Aa nd ca : Value), (.agg #[.int .i64 p0, .int .i64 p1, .int .i64 p2, .slice P1 c1 d1, .slice P2 c2 d2] : Value)]) (by kernel_rfl) (fun w => enter_carryTm9 _ w) (by kernel_rfl) ((C58.out wq hQS).mono fun e w9 h9 => ?_)
          obtain ⟨v, j1, j2, j3⟩ := h9
          exact ⟨_, j1, hQS.trans (j3.mono hQS.size), j3, j2.tmAt, j2⟩
        refine StepsPW.new (fun (x : Value) (w : World) => BoxV w4.heap.size x w) NewB [] rfl rfl rfl (fun oq hop _ wq hQS => ?_) ?_
        · exact StepFrom.alloc hop alloc_term (by kernel_rfl) (hQS.alloc hQS.size _) ((Below.refl _ _).alloc (Nat.le_refl _) _) ⟨⟨_, rfl, hQS.size, heap_alloc_new wq _⟩, _, rfl, Nat.le_refl _⟩
        refine StepsPW.new (fun (x : Value) (w : World) => BoxV w4.heap.size x w) NewB [] rfl rfl rfl (fun oq hop _ wq hQS => ?_) ?_
        · exact StepFrom.alloc hop alloc_term (by kernel_rfl) (hQS.alloc hQS.size _) ((Below.refl _ _).alloc (Nat.le_refl _) _) ⟨⟨_, rfl, hQS.size, heap_alloc_new wq _⟩, _, rfl, Nat.le_refl _⟩
        exact StepsPW.nil
      case hfin =>
        intro wf hFS
        refine FinalFrom.more fun x51 h51 => ?_
        refine FinalFrom.more fun x52 h52 => ?_
        refine FinalFrom.more fun x53 h53 => ?_
        refine FinalFrom.more fun x54 h54 => ?_
        refine FinalFrom.more fun x55 h55 => ?_
        refine FinalFrom.more fun x56 h56 => ?_
        refine FinalFrom.more fun x57 h57 => ?_
        refine FinalFrom.more fun x58 h58 => ?_
        refine FinalFrom.more fun x12 h12 => ?_
        refine FinalFrom.more fun x13 h13 => ?_
        refine FinalFrom.done ?_
        intro hpr
        have q1 : AwayT cyt wf x54 x12 := hpr ⟨3, 8, AwayT cyt⟩ (by simp) 54 12 x54 x12 (by kernel_rfl) (by kernel_rfl) (by kernel_rfl) (by kernel_rfl)
        have q2 : AwayT cyt wf x54 x13 := hpr ⟨3, 9, AwayT cyt⟩ (by simp) 54 13 x54 x13 (by kernel_rfl) (by kernel_rfl) (by kernel_rfl) (by kernel_rfl)
        have q3 : AwayT cya wf x58 x12 := hpr ⟨7, 8, AwayT cya⟩ (by simp) 58 12 x58 x12 (by kernel_rfl) (by kernel_rfl) (by kernel_rfl) (by kernel_rfl)
        have q4 : AwayT cya wf x58 x13 := hpr ⟨7, 9, AwayT cya⟩ (by simp) 58 13 x58 x13 (by kernel_rfl) (by kernel_rfl) (by kernel_rfl) (by kernel_rfl)
        have q5 : x12 ≠ x13 := hpr ⟨8, 9, fun _ x y => x ≠ y⟩ (by simp) 12 13 x12 x13 (by kernel_rfl) (by kernel_rfl) (by kernel_rfl) (by kernel_rfl)
        obtain ⟨gx, rfl, hgx0, hgx⟩ := h12
        obtain ⟨gy, rfl, hgy0, hgy⟩ := h13
        have hne : gx ≠ gy := fun e => q5 (by rw [e])
        obtain ⟨g1, eg1, a1'⟩ := q1
        obtain rfl : gx = g1 := by injection eg1 with e; injection e with e; injection e
        obtain ⟨g2, eg2, a2'⟩ := q2
        obtain rfl : gy = g2 := by injection eg2 with e; injection e with e; injection e
        obtain ⟨g3, eg3, a3'⟩ := q3
        obtain rfl : gx = g3 := by injection eg3 with e; injection e with e; injection e
        obtain ⟨g4, eg4, a4'⟩ := q4
        obtain rfl : gy = g4 := by injection eg4 with e; injection e with e; injection e
        obtain ⟨i1, i2, i3, I1, I2, m1, e1, m2, e2, rfl⟩ := tm_shape9 a1'
        obtain ⟨j1, j2, j3, J1, J2, n1, f1, n2, f2, rfl⟩ := tm_shape9 a3'
        have hgy2 : (wf.setRow gx #[.int .i64 i1, .int .i64 i2, .int .i64 i3, .slice I1 m1 e1, .slice I2 m2 e2]).heap[gy]? = some (.cells zeroTm 27 (0, 0)) := (setRow_other wf gx gy _ (Ne.symm hne)).trans hgy
        obtain ⟨wz, hwz⟩ : ∃ y, (wf.setRow gx #[.int .i64 i1, .int .i64 i2, .int .i64 i3, .slice I1 m1 e1, .slice I2 m2 e2]).setRow gy #[.int .i64 j1, .int .i64 j2, .int .i64 j3, .slice J1 n1 f1, .slice J2 n2 f2] = y := ⟨_, rfl⟩
        have hws : wz.heap.size = wf.heap.size := by rw [← hwz]; simp [World.setRow]
        have H : ∀ (p : Addr) (a b : Value), (wf.setRow gx #[]).cell? p = some a → (wf.setRow gy #[]).cell? p = some b → a = b ∧ wz.cell? p = some a := by
          intro p a b ha hb
          rw [gone_cell wf gx hgx] at ha
          rw [gone_cell wf gy hgy] at hb
          split at ha
          · cases ha
          · split at hb
            · cases hb
            · rename_i h1 h2
              refine ⟨by rw [ha] at hb; injection hb, (World.cell?_of_block ?_).trans ha⟩
              rw [← hwz]
              exact (setRow_other _ gy p.block _ h2).trans (setRow_other wf gx p.block _ h1)
        have hX : Hid (BoxT wz gx cyt) := ⟨i1, i2, i3, I1, m1, e1, I2, m2, e2, by rw [← hwz]; exact (setRow_other _ gy gx _ hne).trans (setRow_heap wf gx _ _ _ _ hgx), by rw [hws]; exact tm_meet H cyt _ a1' a2'⟩
        have hY : Hid (BoxT wz gy cya) := ⟨j1, j2, j3, J1, n1, f1, J2, n2, f2, by rw [← hwz]; exact setRow_heap _ gy _ _ _ _ hgy2, by rw [hws]; exact tm_meet H cya _ a3' a4'⟩
        have hZ : Hid (Below w4.heap.size w4 wz) := by
          rw [← hwz]
          exact below_setRow (below_setRow hFS hgx0 _) hgy0 _
        simp only [Act.put, List.setIfInBounds_toArray, List.set_cons_zero, List.set_cons_succ, List.drop_succ_cons, List.drop_zero]
        clear hpr q5 eg1 eg2 eg3 eg4 a1' a2' a3' a4' H hws h54 h58
        refine wpList_store_row rfl 27 (.tmp 12) (.tmp 54) rfl gx #[.int .i64 i1, .int .i64 i2, .int .i64 i3, .slice I1 m1 e1, .slice I2 m2 e2] rfl rfl 27 zeroTm hgx infoT5 rfl (by simp [Value.oneCell']) ?_
        refine wpList_store_row rfl 27 (.tmp 13) (.tmp 58) rfl gy #[.int .i64 j1, .int .i64 j2, .int .i64 j3, .slice J1 n1 f1, .slice J2 n2 f2] rfl rfl 27 zeroTm hgy2 infoT5 rfl (by simp [Value.oneCell']) ?_
        rw [hwz]
        clear hS hFS hgx0 hgx hgy0 hgy hne hgy2 hwz
        go_wp2_with (fail)
        go_meet
        case rel => exact ⟨gx, gy, rfl, rfl, hX.out, hY.out, hZ.out⟩
    case rest =>
    obtain ⟨gx, gy, rfl, rfl, bX, bY, hb5⟩ := hcut
    rename World => w5
    have HB5 : Hid (Below w.heap.size w w5) := HB4.out.trans (hb5.mono HB4.out.size)
    have W1 := Lib.hid ((hb5.block _ (heap_some_lt Z1.out)).trans Z1.out)
    have W2 := Lib.hid ((hb5.block _ (heap_some_lt Z2.out)).trans Z2.out)
    have HB45 := Lib.hid hb5
    obtain ⟨i1, i2, i3, I1, m1, e1, I2, m2, e2, bx, tx⟩ := bX
    obtain ⟨j1, j2, j3, J1, n1, f1, J2, n2, f2, by', ty⟩ := bY
    have BX := Lib.hid bx
    have BY := Lib.hid by'
    have TX := Lib.hid tx
    have TY := Lib.hid ty
    have FX : Hid cyt.fit := by rw [← HCYT.out]; exact fit_cy HF.out tt FT.out
    have FY : Hid cya.fit := by rw [← HCYA.out]; exact fit_cy HF.out ta FA.out
    have SX : Hid (cyt.size = tt.size) := by rw [← HCYT.out]; exact size_cy F tt
    have SY : Hid (cya.size = ta.size) := by rw [← HCYA.out]; exact size_cy F ta
    clear hb5 bx by' tx ty Z1 Z2
    go_upto_region 7 with (fail)
    go_cut [88] from 59 to 88 (fun r wx => r = .bool false ∧ Below w5.heap.size w5 wx)
    case first =>
      obtain ⟨zt, hzt⟩ : ∃ x, tt.size = x := ⟨_, rfl⟩
      obtain ⟨fr, hfr⟩ : ∃ x, (!tt.look (outF 0 n) 0) = x := ⟨_, rfl⟩
      obtain ⟨sf, hsf⟩ : ∃ x, decide ((11 : Int) ∈ tt.kinds) = x := ⟨_, rfl⟩
      obtain ⟨us, hus⟩ : ∃ x, tt.uses n 0 = x := ⟨_, rfl⟩
      have hzl : tt.size ≤ 1073741824 := by have := HSZ.out.1; omega
      have hzx : cyt.size ≤ 1073741824 := by rw [SX.out]; exact hzl
      have C60 : Hid (∀ w', Below w5.heap.size w5 w' → Calls Tryd.prog 12 #[.agg #[.int .i64 i1, .int .i64 i2, .int .i64 i3, .slice I1 m1 e1, .slice I2 m2 e2]] w' (fun e w9 => e = .returned (.int .i64 (zt : Int)) ∧ Below w'.heap.size w' w9)) := fun w' hx => by
        have hbx := HB5.out.trans (hx.mono HB5.out.size)
        rw [← hzt, ← SX.out]
        exact size_any cyt hzx _ w' (TX.out.below hx hx.size)
      have C62 : Hid (∀ w', Below w5.heap.size w5 w' → Calls Tryd.prog 12 #[.agg #[.int .i64 t0, .int .i64 t1, .int .i64 t2, .slice T1 a1 b1, .slice T2 a2 b2]] w' (fun e w9 => e = .returned (.int .i64 (zt : Int)) ∧ Below w'.heap.size w' w9)) := fun w' hx => by
        have hbx := HB5.out.trans (hx.mono HB5.out.size)
        rw [← hzt]
        exact size_any tt hzl _ w' (HT.out.below hbx hbx.size)
      have C67 : Hid (∀ w', Below w5.heap.size w5 w' → Calls Tryd.prog 23 #[.agg #[.int .i64 i1, .int .i64 i2, .int .i64 i3, .slice I1 m1 e1, .slice I2 m2 e2], .int .i64 0, .int .i64 n] w' (HasPost w' fr)) := fun w' hx => by
        have hbx := HB5.out.trans (hx.mono HB5.out.size)
        rw [← hfr, ← look_cy HF.out (outF 0 n) tt 0, HCYT.out]
        exact free_any cyt FX.out _ w' 0 n hzx (HK.out.binds.below hbx h0) (TX.out.below hx hx.size)
      have C70 : Hid (∀ w', Below w5.heap.size w5 w' → Calls Tryd.prog 23 #[.agg #[.int .i64 t0, .int .i64 t1, .int .i64 t2, .slice T1 a1 b1, .slice T2 a2 b2], .int .i64 0, .int .i64 n] w' (HasPost w' fr)) := fun w' hx => by
        have hbx := HB5.out.trans (hx.mono HB5.out.size)
        rw [← hfr]
        exact free_any tt FT.out _ w' 0 n hzl (HK.out.binds.below hbx h0) (HT.out.below hbx hbx.size)
      have C75 : Hid (∀ w', Below w5.heap.size w5 w' → Calls Tryd.prog 24 #[.agg #[.int .i64 i1, .int .i64 i2, .int .i64 i3, .slice I1 m1 e1, .slice I2 m2 e2]] w' (HasPost w' sf)) := fun w' hx => by
        have hbx := HB5.out.trans (hx.mono HB5.out.size)
        have h := self_any cyt FX.out _ w' (TX.out.below hx hx.size)
        have e : decide ((11 : Int) ∈ cyt.kinds) = sf := by rw [← hsf]; exact decide_eq_decide.2 (by rw [← HCYT.out]; exact kinds_cy HF.out tt)
        rw [e] at h
        exact h
      have C77 : Hid (∀ w', Below w5.heap.size w5 w' → Calls Tryd.prog 24 #[.agg #[.int .i64 t0, .int .i64 t1, .int .i64 t2, .slice T1 a1 b1, .slice T2 a2 b2]] w' (HasPost w' sf)) := fun w' hx => by
        have hbx := HB5.out.trans (hx.mono HB5.out.size)
        rw [← hsf]
        exact self_any tt FT.out _ w' (HT.out.below hbx hbx.size)
      have C83 : Hid (∀ w', Below w5.heap.size w5 w' → Calls Tryd.prog 25 #[.agg #[.int .i64 i1, .int .i64 i2, .int .i64 i3, .slice I1 m1 e1, .slice I2 m2 e2], .int .i64 n] w' (fun e w9 => e = .returned (.int .i64 (us : Int)) ∧ Below w'.heap.size w' w9)) := fun w' hx => by
        have hbx := HB5.out.trans (hx.mono HB5.out.size)
        rw [← hus, ← uses_cy HF.out n tt 0, HCYT.out]
        exact uses_any cyt FX.out _ w' n hzx (HK.out.binds.below hbx h0) (TX.out.below hx hx.size)
      have C86 : Hid (∀ w', Below w5.heap.size w5 w' → Calls Tryd.prog 25 #[.agg #[.int .i64 t0, .int .i64 t1, .int .i64 t2, .slice T1 a1 b1, .slice T2 a2 b2], .int .i64 n] w' (fun e w9 => e = .returned (.int .i64 (us : Int)) ∧ Below w'.heap.size w' w9)) := fun w' hx => by
        have hbx := HB5.out.trans (hx.mono HB5.out.size)
        rw [← hus]
        exact uses_any tt FT.out _ w' n hzl (HK.out.binds.below hbx h0) (HT.out.below hbx hbx.size)
      clear hzt hfr hsf hus
      have hS : Below w5.heap.size w5 w5.drew := (Below.refl _ _).drew
      refine wp_region_tab (fun w' => Below w5.heap.size w5 w') (fun w1 w2 : World => Below w1.heap.size w1 w2) [(fun (x : Value) (_ : World) => x = (.agg #[.int .i64 i1, .int .i64 i2, .int .i64 i3, .slice I1 m1 e1, .slice I2 m2 e2] : Value)), (fun (x : Value) (_ : World) => x = (.int .i64 (zt : Int) : Value)), (fun (x : Value) (_ : World) => x = (.agg #[.int .i64 t0, .int .i64 t1, .int .i64 t2, .slice T1 a1 b1, .slice T2 a2 b2] : Value)), (fun (x : Value) (_ : World) => x = (.int .i64 (zt : Int) : Value)), (fun (x : Value) (_ : World) => x = (.bool false : Value)), (fun (x : Value) (_ : World) => x = (.bool false : Value)), (fun (x : Value) (_ : World) => x = (.agg #[.int .i64 i1, .int .i64 i2, .int .i64 i3, .slice I1 m1 e1, .slice I2 m2 e2] : Value)), (fun (x : Value) (_ : World) => x = (.int .i64 n : Value)), (fun (x : Value) (_ : World) => x = (.bool fr : Value)), (fun (x : Value) (_ : World) => x = (.agg #[.int .i64 t0, .int .i64 t1, .int .i64 t2, .slice T1 a1 b1, .slice T2 a2 b2] : Value)), (fun (x : Value) (_ : World) => x = (.int .i64 n : Value)), (fun (x : Value) (_ : World) => x = (.bool fr : Value)), (fun (x : Value) (_ : World) => x = (.bool false : Value)), (fun (x : Value) (_ : World) => x = (.bool false : Value)), (fun (x : Value) (_ : World) => x = (.bool false : Value)), (fun (x : Value) (_ : World) => x = (.agg #[.int .i64 i1, .int .i64 i2, .int .i64 i3, .slice I1 m1 e1, .slice I2 m2 e2] : Value)), (fun (x : Value) (_ : World) => x = (.bool sf : Value)), (fun (x : Value) (_ : World) => x = (.agg #[.int .i64 t0, .int .i64 t1, .int .i64 t2, .slice T1 a1 b1, .slice T2 a2 b2] : Value)), (fun (x : Value) (_ : World) => x = (.bool sf : Value)), (fun (x : Value) (_ : World) => x = (.bool false : Value)), (fun (x : Value) (_ : World) => x = (.bool false : Value)), (fun (x : Value) (_ : World) => x = (.bool false : Value)), (fun (x : Value) (_ : World) => x = (.agg #[.int .i64 i1, .int .i64 i2, .int .i64 i3, .slice I1 m1 e1, .slice I2 m2 e2] : Value)), (fun (x : Value) (_ : World) => x = (.int .i64 n : Value)), (fun (x : Value) (_ : World) => x = (.int .i64 (us : Int) : Value)), (fun (x : Value) (_ : World) => x = (.agg #[.int .i64 t0, .int .i64 t1, .int .i64 t2, .slice T1 a1 b1, .slice T2 a2 b2] : Value)), (fun (x : Value) (_ : World) => x = (.int .i64 n : Value)), (fun (x : Value) (_ : World) => x = (.int .i64 (us : Int) : Value)), (fun (x : Value) (_ : World) => x = (.bool false : Value)), (fun (x : Value) (_ : World) => x = (.bool false : Value))] [⟨some 59, .load 27 (.tmp 12), none, []⟩, ⟨some 60, .call { callee := .value (.func 12), args := #[.tmp 59], argTypes := #[27] }, none, [(59, 0)]⟩, ⟨some 61, .load 27 (.tmp 6), none, []⟩, ⟨some 62, .call { callee := .value (.func 12), args := #[.tmp 61], argTypes := #[27] }, none, [(61, 2)]⟩, ⟨some 63, .binOp .neq 3 (.tmp 60) (.tmp 62) 3, none, [(60, 1), (62, 3)]⟩, ⟨some 64, .move (.tmp 63), none, [(63, 4)]⟩, ⟨some 65, .load 27 (.tmp 12), some (some 64, false), [(64, 5)]⟩, ⟨some 66, .move (.tmp 4), some (some 64, false), [(64, 5)]⟩, ⟨some 67, .call { callee := .value (.func 23), args := #[.tmp 65, .const (.int .i64 0), .tmp 66], argTypes := #[27, 3, 3] }, some (some 64, false), [(64, 5), (65, 6), (66, 7)]⟩, ⟨some 68, .load 27 (.tmp 6), some (some 64, false), [(64, 5)]⟩, ⟨some 69, .move (.tmp 4), some (some 64, false), [(64, 5)]⟩, ⟨some 70, .call { callee := .value (.func 23), args := #[.tmp 68, .const (.int .i64 0), .tmp 69], argTypes := #[27, 3, 3] }, some (some 64, false), [(64, 5), (68, 9), (69, 10)]⟩, ⟨some 71, .binOp .neq 4 (.tmp 67) (.tmp 70) 4, some (some 64, false), [(64, 5), (67, 8), (70, 11)]⟩, ⟨some 72, .pick (.tmp 64) (.const (Value.bool true)) (.tmp 71), none, [(64, 5), (71, 12)]⟩, ⟨some 73, .move (.tmp 72), none, [(72, 13)]⟩, ⟨some 74, .load 27 (.tmp 12), some (some 73, false), [(73, 14)]⟩, ⟨some 75, .call { callee := .value (.func 24), args := #[.tmp 74], argTypes := #[27] }, some (some 73, false), [(73, 14), (74, 15)]⟩, ⟨some 76, .load 27 (.tmp 6), some (some 73, false), [(73, 14)]⟩, ⟨some 77, .call { callee := .value (.func 24), args := #[.tmp 76], argTypes := #[27] }, some (some 73, false), [(73, 14), (76, 17)]⟩, ⟨some 78, .binOp .neq 4 (.tmp 75) (.tmp 77) 4, some (some 73, false), [(73, 14), (75, 16), (77, 18)]⟩, ⟨some 79, .pick (.tmp 73) (.const (Value.bool true)) (.tmp 78), none, [(73, 14), (78, 19)]⟩, ⟨some 80, .move (.tmp 79), none, [(79, 20)]⟩, ⟨some 81, .load 27 (.tmp 12), some (some 80, false), [(80, 21)]⟩, ⟨some 82, .move (.tmp 4), some (some 80, false), [(80, 21)]⟩, ⟨some 83, .call { callee := .value (.func 25), args := #[.tmp 81, .tmp 82], argTypes := #[27, 3] }, some (some 80, false), [(80, 21), (81, 22), (82, 23)]⟩, ⟨some 84, .load 27 (.tmp 6), some (some 80, false), [(80, 21)]⟩, ⟨some 85, .move (.tmp 4), some (some 80, false), [(80, 21)]⟩, ⟨some 86, .call { callee := .value (.func 25), args := #[.tmp 84, .tmp 85], argTypes := #[27, 3] }, some (some 80, false), [(80, 21), (84, 25), (85, 26)]⟩, ⟨some 87, .binOp .neq 3 (.tmp 83) (.tmp 86) 3, some (some 80, false), [(80, 21), (83, 24), (86, 27)]⟩, ⟨some 88, .pick (.tmp 80) (.const (Value.bool true)) (.tmp 87), none, [(80, 21), (87, 28)]⟩] [some 59, some 60, some 61, some 62, some 63, some 64, some 65, some 66, some 67, some 68, some 69, some 70, some 71, some 72, some 73, some 74, some 75, some 76, some 77, some 78, some 79, some 80, some 81, some 82, some 83, some 84, some 85, some 86, some 87, some 88] (by kernel_rfl) (by kernel_rfl) (by kernel_rfl) (by kernel_rfl) (by kernel_rfl) ?hS ?hmono ?hsteps ?hfin
      case hS => exact hS
      case hmono =>
        refine MonoL.cons (fun x w1 w2 _ _ _ hx => hx) ?_
        refine MonoL.cons (fun x w1 w2 _ _ _ hx => hx) ?_
        refine MonoL.cons (fun x w1 w2 _ _ _ hx => hx) ?_
        refine MonoL.cons (fun x w1 w2 _ _ _ hx => hx) ?_
        refine MonoL.cons (fun x w1 w2 _ _ _ hx => hx) ?_
        refine MonoL.cons (fun x w1 w2 _ _ _ hx => hx) ?_
        refine MonoL.cons (fun x w1 w2 _ _ _ hx => hx) ?_
        refine MonoL.cons (fun x w1 w2 _ _ _ hx => hx) ?_
        refine MonoL.cons (fun x w1 w2 _ _ _ hx => hx) ?_
        refine MonoL.cons (fun x w1 w2 _ _ _ hx => hx) ?_
        refine MonoL.cons (fun x w1 w2 _ _ _ hx => hx) ?_
        refine MonoL.cons (fun x w1 w2 _ _ _ hx => hx) ?_
        refine MonoL.cons (fun x w1 w2 _ _ _ hx => hx) ?_
        refine MonoL.cons (fun x w1 w2 _ _ _ hx => hx) ?_
        refine MonoL.cons (fun x w1 w2 _ _ _ hx => hx) ?_
        refine MonoL.cons (fun x w1 w2 _ _ _ hx => hx) ?_
        refine MonoL.cons (fun x w1 w2 _ _ _ hx => hx) ?_
        refine MonoL.cons (fun x w1 w2 _ _ _ hx => hx) ?_
        refine MonoL.cons (fun x w1 w2 _ _ _ hx => hx) ?_
        refine MonoL.cons (fun x w1 w2 _ _ _ hx => hx) ?_
        refine MonoL.cons (fun x w1 w2 _ _ _ hx => hx) ?_
        refine MonoL.cons (fun x w1 w2 _ _ _ hx => hx) ?_
        refine MonoL.cons (fun x w1 w2 _ _ _ hx => hx) ?_
        refine MonoL.cons (fun x w1 w2 _ _ _ hx => hx) ?_
        refine MonoL.cons (fun x w1 w2 _ _ _ hx => hx) ?_
        refine MonoL.cons (fun x w1 w2 _ _ _ hx => hx) ?_
        refine MonoL.cons (fun x w1 w2 _ _ _ hx => hx) ?_
        refine MonoL.cons (fun x w1 w2 _ _ _ hx => hx) ?_
        refine MonoL.cons (fun x w1 w2 _ _ _ hx => hx) ?_
        refine MonoL.cons (fun x w1 w2 _ _ _ hx => hx) ?_
        exact MonoL.nil
      case hsteps =>
        refine StepsT.cons (fun (x : Value) (_ : World) => x = (.agg #[.int .i64 i1, .int .i64 i2, .int .i64 i3, .slice I1 m1 e1, .slice I2 m2 e2] : Value)) [] rfl rfl (fun oq hop _ wq hQS => ?_) ?_
        · exact StepFrom.load hop (p := (.pointer (some ⟨gx, 0, none⟩) : Value)) (by kernel_rfl) (load_box9 BX.out hQS) (by kernel_rfl) hQS (Below.refl _ _) rfl
        refine StepsT.cons (fun (x : Value) (_ : World) => x = (.int .i64 (zt : Int) : Value)) [(59, (fun (x : Value) (_ : World) => x = (.agg #[.int .i64 i1, .int .i64 i2, .int .i64 i3, .slice I1 m1 e1, .slice I2 m2 e2] : Value)))] rfl rfl (fun oq hop _ wq hQS => ?_) ?_
        · refine StepFrom.more_eq ((.agg #[.int .i64 i1, .int .i64 i2, .int .i64 i3, .slice I1 m1 e1, .slice I2 m2 e2] : Value)) ?_
          exact StepFrom.call hop (vs := [(.agg #[.int .i64 i1, .int .i64 i2, .int .i64 i3, .slice I1 m1 e1, .slice I2 m2 e2] : Value)]) (by kernel_rfl) (fun w => enter_size9 _ w) (by kernel_rfl) ((C60.out wq hQS).mono fun e w9 h9 => by obtain ⟨q1, q2⟩ := h9; exact ⟨_, q1, hQS.trans (q2.mono hQS.size), q2, rfl⟩)
        refine StepsT.cons (fun (x : Value) (_ : World) => x = (.agg #[.int .i64 t0, .int .i64 t1, .int .i64 t2, .slice T1 a1 b1, .slice T2 a2 b2] : Value)) [] rfl rfl (fun oq hop _ wq hQS => ?_) ?_
        · exact StepFrom.load hop (p := (.pointer (some ⟨w.heap.size, 0, none⟩) : Value)) (by kernel_rfl) (load_box9 W1.out hQS) (by kernel_rfl) hQS (Below.refl _ _) rfl
        refine StepsT.cons (fun (x : Value) (_ : World) => x = (.int .i64 (zt : Int) : Value)) [(61, (fun (x : Value) (_ : World) => x = (.agg #[.int .i64 t0, .int .i64 t1, .int .i64 t2, .slice T1 a1 b1, .slice T2 a2 b2] : Value)))] rfl rfl (fun oq hop _ wq hQS => ?_) ?_
        · refine StepFrom.more_eq ((.agg #[.int .i64 t0, .int .i64 t1, .int .i64 t2, .slice T1 a1 b1, .slice T2 a2 b2] : Value)) ?_
          exact StepFrom.call hop (vs := [(.agg #[.int .i64 t0, .int .i64 t1, .int .i64 t2, .slice T1 a1 b1, .slice T2 a2 b2] : Value)]) (by kernel_rfl) (fun w => enter_size9 _ w) (by kernel_rfl) ((C62.out wq hQS).mono fun e w9 h9 => by obtain ⟨q1, q2⟩ := h9; exact ⟨_, q1, hQS.trans (q2.mono hQS.size), q2, rfl⟩)
        refine StepsT.cons (fun (x : Value) (_ : World) => x = (.bool false : Value)) [(60, (fun (x : Value) (_ : World) => x = (.int .i64 (zt : Int) : Value))), (62, (fun (x : Value) (_ : World) => x = (.int .i64 (zt : Int) : Value)))] rfl rfl (fun oq hop _ wq hQS => ?_) ?_
        · refine StepFrom.more_eq ((.int .i64 (zt : Int) : Value)) ?_
          refine StepFrom.more_eq ((.int .i64 (zt : Int) : Value)) ?_
          exact StepFrom.bin hop (vx := (.int .i64 (zt : Int) : Value)) (vy := (.int .i64 (zt : Int) : Value)) (by kernel_rfl) (by kernel_rfl) (neq_same9 _ _ _ _) (by kernel_rfl) hQS (Below.refl _ _) rfl
        refine StepsT.cons (fun (x : Value) (_ : World) => x = (.bool false : Value)) [(63, (fun (x : Value) (_ : World) => x = (.bool false : Value)))] rfl rfl (fun oq hop _ wq hQS => ?_) ?_
        · refine StepFrom.more_eq ((.bool false : Value)) ?_
          exact StepFrom.move hop (v := (.bool false : Value)) (by kernel_rfl) (by kernel_rfl) hQS (Below.refl _ _) rfl
        refine StepsT.cons (fun (x : Value) (_ : World) => x = (.agg #[.int .i64 i1, .int .i64 i2, .int .i64 i3, .slice I1 m1 e1, .slice I2 m2 e2] : Value)) [(64, (fun (x : Value) (_ : World) => x = (.bool false : Value)))] rfl rfl (fun oq hop _ wq hQS => ?_) ?_
        · refine StepFrom.more_eq ((.bool false : Value)) ?_
          exact StepFrom.load hop (p := (.pointer (some ⟨gx, 0, none⟩) : Value)) (by kernel_rfl) (load_box9 BX.out hQS) (by kernel_rfl) hQS (Below.refl _ _) rfl
        refine StepsT.cons (fun (x : Value) (_ : World) => x = (.int .i64 n : Value)) [(64, (fun (x : Value) (_ : World) => x = (.bool false : Value)))] rfl rfl (fun oq hop _ wq hQS => ?_) ?_
        · refine StepFrom.more_eq ((.bool false : Value)) ?_
          exact StepFrom.move hop (v := (.int .i64 n : Value)) (by kernel_rfl) (by kernel_rfl) hQS (Below.refl _ _) rfl
        refine StepsT.cons (fun (x : Value) (_ : World) => x = (.bool fr : Value)) [(64, (fun (x : Value) (_ : World) => x = (.bool false : Value))), (65, (fun (x : Value) (_ : World) => x = (.agg #[.int .i64 i1, .int .i64 i2, .int .i64 i3, .slice I1 m1 e1, .slice I2 m2 e2] : Value))), (66, (fun (x : Value) (_ : World) => x = (.int .i64 n : Value)))] rfl rfl (fun oq hop _ wq hQS => ?_) ?_
        · refine StepFrom.more_eq ((.bool false : Value)) ?_
          refine StepFrom.more_eq ((.agg #[.int .i64 i1, .int .i64 i2, .int .i64 i3, .slice I1 m1 e1, .slice I2 m2 e2] : Value)) ?_
          refine StepFrom.more_eq ((.int .i64 n : Value)) ?_
          exact StepFrom.call hop (vs := [(.agg #[.int .i64 i1, .int .i64 i2, .int .i64 i3, .slice I1 m1 e1, .slice I2 m2 e2] : Value), (.int .i64 0 : Value), (.int .i64 n : Value)]) (by kernel_rfl) (fun w => enter_free9 _ w) (by kernel_rfl) ((C67.out wq hQS).mono fun e w9 h9 => by obtain ⟨q1, q2⟩ := h9; exact ⟨_, q1, hQS.trans (q2.mono hQS.size), q2, rfl⟩)
        refine StepsT.cons (fun (x : Value) (_ : World) => x = (.agg #[.int .i64 t0, .int .i64 t1, .int .i64 t2, .slice T1 a1 b1, .slice T2 a2 b2] : Value)) [(64, (fun (x : Value) (_ : World) => x = (.bool false : Value)))] rfl rfl (fun oq hop _ wq hQS => ?_) ?_
        · refine StepFrom.more_eq ((.bool false : Value)) ?_
          exact StepFrom.load hop (p := (.pointer (some ⟨w.heap.size, 0, none⟩) : Value)) (by kernel_rfl) (load_box9 W1.out hQS) (by kernel_rfl) hQS (Below.refl _ _) rfl
        refine StepsT.cons (fun (x : Value) (_ : World) => x = (.int .i64 n : Value)) [(64, (fun (x : Value) (_ : World) => x = (.bool false : Value)))] rfl rfl (fun oq hop _ wq hQS => ?_) ?_
        · refine StepFrom.more_eq ((.bool false : Value)) ?_
          exact StepFrom.move hop (v := (.int .i64 n : Value)) (by kernel_rfl) (by kernel_rfl) hQS (Below.refl _ _) rfl
        refine StepsT.cons (fun (x : Value) (_ : World) => x = (.bool fr : Value)) [(64, (fun (x : Value) (_ : World) => x = (.bool false : Value))), (68, (fun (x : Value) (_ : World) => x = (.agg #[.int .i64 t0, .int .i64 t1, .int .i64 t2, .slice T1 a1 b1, .slice T2 a2 b2] : Value))), (69, (fun (x : Value) (_ : World) => x = (.int .i64 n : Value)))] rfl rfl (fun oq hop _ wq hQS => ?_) ?_
        · refine StepFrom.more_eq ((.bool false : Value)) ?_
          refine StepFrom.more_eq ((.agg #[.int .i64 t0, .int .i64 t1, .int .i64 t2, .slice T1 a1 b1, .slice T2 a2 b2] : Value)) ?_
          refine StepFrom.more_eq ((.int .i64 n : Value)) ?_
          exact StepFrom.call hop (vs := [(.agg #[.int .i64 t0, .int .i64 t1, .int .i64 t2, .slice T1 a1 b1, .slice T2 a2 b2] : Value), (.int .i64 0 : Value), (.int .i64 n : Value)]) (by kernel_rfl) (fun w => enter_free9 _ w) (by kernel_rfl) ((C70.out wq hQS).mono fun e w9 h9 => by obtain ⟨q1, q2⟩ := h9; exact ⟨_, q1, hQS.trans (q2.mono hQS.size), q2, rfl⟩)
        refine StepsT.cons (fun (x : Value) (_ : World) => x = (.bool false : Value)) [(64, (fun (x : Value) (_ : World) => x = (.bool false : Value))), (67, (fun (x : Value) (_ : World) => x = (.bool fr : Value))), (70, (fun (x : Value) (_ : World) => x = (.bool fr : Value)))] rfl rfl (fun oq hop _ wq hQS => ?_) ?_
        · refine StepFrom.more_eq ((.bool false : Value)) ?_
          refine StepFrom.more_eq ((.bool fr : Value)) ?_
          refine StepFrom.more_eq ((.bool fr : Value)) ?_
          exact StepFrom.bin hop (vx := (.bool fr : Value)) (vy := (.bool fr : Value)) (by kernel_rfl) (by kernel_rfl) (neq_sameB9 _ _ _ _) (by kernel_rfl) hQS (Below.refl _ _) rfl
        refine StepsT.cons (fun (x : Value) (_ : World) => x = (.bool false : Value)) [(64, (fun (x : Value) (_ : World) => x = (.bool false : Value))), (71, (fun (x : Value) (_ : World) => x = (.bool false : Value)))] rfl rfl (fun oq hop _ wq hQS => ?_) ?_
        · refine StepFrom.more_eq ((.bool false : Value)) ?_
          refine StepFrom.more_eq ((.bool false : Value)) ?_
          exact StepFrom.pick hop (b := false) (vx := (Value.bool true : Value)) (vy := (.bool false : Value)) (by kernel_rfl) (by kernel_rfl) (by kernel_rfl) (by kernel_rfl) hQS (Below.refl _ _) rfl
        refine StepsT.cons (fun (x : Value) (_ : World) => x = (.bool false : Value)) [(72, (fun (x : Value) (_ : World) => x = (.bool false : Value)))] rfl rfl (fun oq hop _ wq hQS => ?_) ?_
        · refine StepFrom.more_eq ((.bool false : Value)) ?_
          exact StepFrom.move hop (v := (.bool false : Value)) (by kernel_rfl) (by kernel_rfl) hQS (Below.refl _ _) rfl
        refine StepsT.cons (fun (x : Value) (_ : World) => x = (.agg #[.int .i64 i1, .int .i64 i2, .int .i64 i3, .slice I1 m1 e1, .slice I2 m2 e2] : Value)) [(73, (fun (x : Value) (_ : World) => x = (.bool false : Value)))] rfl rfl (fun oq hop _ wq hQS => ?_) ?_
        · refine StepFrom.more_eq ((.bool false : Value)) ?_
          exact StepFrom.load hop (p := (.pointer (some ⟨gx, 0, none⟩) : Value)) (by kernel_rfl) (load_box9 BX.out hQS) (by kernel_rfl) hQS (Below.refl _ _) rfl
        refine StepsT.cons (fun (x : Value) (_ : World) => x = (.bool sf : Value)) [(73, (fun (x : Value) (_ : World) => x = (.bool false : Value))), (74, (fun (x : Value) (_ : World) => x = (.agg #[.int .i64 i1, .int .i64 i2, .int .i64 i3, .slice I1 m1 e1, .slice I2 m2 e2] : Value)))] rfl rfl (fun oq hop _ wq hQS => ?_) ?_
        · refine StepFrom.more_eq ((.bool false : Value)) ?_
          refine StepFrom.more_eq ((.agg #[.int .i64 i1, .int .i64 i2, .int .i64 i3, .slice I1 m1 e1, .slice I2 m2 e2] : Value)) ?_
          exact StepFrom.call hop (vs := [(.agg #[.int .i64 i1, .int .i64 i2, .int .i64 i3, .slice I1 m1 e1, .slice I2 m2 e2] : Value)]) (by kernel_rfl) (fun w => enter_self9 _ w) (by kernel_rfl) ((C75.out wq hQS).mono fun e w9 h9 => by obtain ⟨q1, q2⟩ := h9; exact ⟨_, q1, hQS.trans (q2.mono hQS.size), q2, rfl⟩)
        refine StepsT.cons (fun (x : Value) (_ : World) => x = (.agg #[.int .i64 t0, .int .i64 t1, .int .i64 t2, .slice T1 a1 b1, .slice T2 a2 b2] : Value)) [(73, (fun (x : Value) (_ : World) => x = (.bool false : Value)))] rfl rfl (fun oq hop _ wq hQS => ?_) ?_
        · refine StepFrom.more_eq ((.bool false : Value)) ?_
          exact StepFrom.load hop (p := (.pointer (some ⟨w.heap.size, 0, none⟩) : Value)) (by kernel_rfl) (load_box9 W1.out hQS) (by kernel_rfl) hQS (Below.refl _ _) rfl
        refine StepsT.cons (fun (x : Value) (_ : World) => x = (.bool sf : Value)) [(73, (fun (x : Value) (_ : World) => x = (.bool false : Value))), (76, (fun (x : Value) (_ : World) => x = (.agg #[.int .i64 t0, .int .i64 t1, .int .i64 t2, .slice T1 a1 b1, .slice T2 a2 b2] : Value)))] rfl rfl (fun oq hop _ wq hQS => ?_) ?_
        · refine StepFrom.more_eq ((.bool false : Value)) ?_
          refine StepFrom.more_eq ((.agg #[.int .i64 t0, .int .i64 t1, .int .i64 t2, .slice T1 a1 b1, .slice T2 a2 b2] : Value)) ?_
          exact StepFrom.call hop (vs := [(.agg #[.int .i64 t0, .int .i64 t1, .int .i64 t2, .slice T1 a1 b1, .slice T2 a2 b2] : Value)]) (by kernel_rfl) (fun w => enter_self9 _ w) (by kernel_rfl) ((C77.out wq hQS).mono fun e w9 h9 => by obtain ⟨q1, q2⟩ := h9; exact ⟨_, q1, hQS.trans (q2.mono hQS.size), q2, rfl⟩)
        refine StepsT.cons (fun (x : Value) (_ : World) => x = (.bool false : Value)) [(73, (fun (x : Value) (_ : World) => x = (.bool false : Value))), (75, (fun (x : Value) (_ : World) => x = (.bool sf : Value))), (77, (fun (x : Value) (_ : World) => x = (.bool sf : Value)))] rfl rfl (fun oq hop _ wq hQS => ?_) ?_
        · refine StepFrom.more_eq ((.bool false : Value)) ?_
          refine StepFrom.more_eq ((.bool sf : Value)) ?_
          refine StepFrom.more_eq ((.bool sf : Value)) ?_
          exact StepFrom.bin hop (vx := (.bool sf : Value)) (vy := (.bool sf : Value)) (by kernel_rfl) (by kernel_rfl) (neq_sameB9 _ _ _ _) (by kernel_rfl) hQS (Below.refl _ _) rfl
        refine StepsT.cons (fun (x : Value) (_ : World) => x = (.bool false : Value)) [(73, (fun (x : Value) (_ : World) => x = (.bool false : Value))), (78, (fun (x : Value) (_ : World) => x = (.bool false : Value)))] rfl rfl (fun oq hop _ wq hQS => ?_) ?_
        · refine StepFrom.more_eq ((.bool false : Value)) ?_
          refine StepFrom.more_eq ((.bool false : Value)) ?_
          exact StepFrom.pick hop (b := false) (vx := (Value.bool true : Value)) (vy := (.bool false : Value)) (by kernel_rfl) (by kernel_rfl) (by kernel_rfl) (by kernel_rfl) hQS (Below.refl _ _) rfl
        refine StepsT.cons (fun (x : Value) (_ : World) => x = (.bool false : Value)) [(79, (fun (x : Value) (_ : World) => x = (.bool false : Value)))] rfl rfl (fun oq hop _ wq hQS => ?_) ?_
        · refine StepFrom.more_eq ((.bool false : Value)) ?_
          exact StepFrom.move hop (v := (.bool false : Value)) (by kernel_rfl) (by kernel_rfl) hQS (Below.refl _ _) rfl
        refine StepsT.cons (fun (x : Value) (_ : World) => x = (.agg #[.int .i64 i1, .int .i64 i2, .int .i64 i3, .slice I1 m1 e1, .slice I2 m2 e2] : Value)) [(80, (fun (x : Value) (_ : World) => x = (.bool false : Value)))] rfl rfl (fun oq hop _ wq hQS => ?_) ?_
        · refine StepFrom.more_eq ((.bool false : Value)) ?_
          exact StepFrom.load hop (p := (.pointer (some ⟨gx, 0, none⟩) : Value)) (by kernel_rfl) (load_box9 BX.out hQS) (by kernel_rfl) hQS (Below.refl _ _) rfl
        refine StepsT.cons (fun (x : Value) (_ : World) => x = (.int .i64 n : Value)) [(80, (fun (x : Value) (_ : World) => x = (.bool false : Value)))] rfl rfl (fun oq hop _ wq hQS => ?_) ?_
        · refine StepFrom.more_eq ((.bool false : Value)) ?_
          exact StepFrom.move hop (v := (.int .i64 n : Value)) (by kernel_rfl) (by kernel_rfl) hQS (Below.refl _ _) rfl
        refine StepsT.cons (fun (x : Value) (_ : World) => x = (.int .i64 (us : Int) : Value)) [(80, (fun (x : Value) (_ : World) => x = (.bool false : Value))), (81, (fun (x : Value) (_ : World) => x = (.agg #[.int .i64 i1, .int .i64 i2, .int .i64 i3, .slice I1 m1 e1, .slice I2 m2 e2] : Value))), (82, (fun (x : Value) (_ : World) => x = (.int .i64 n : Value)))] rfl rfl (fun oq hop _ wq hQS => ?_) ?_
        · refine StepFrom.more_eq ((.bool false : Value)) ?_
          refine StepFrom.more_eq ((.agg #[.int .i64 i1, .int .i64 i2, .int .i64 i3, .slice I1 m1 e1, .slice I2 m2 e2] : Value)) ?_
          refine StepFrom.more_eq ((.int .i64 n : Value)) ?_
          exact StepFrom.call hop (vs := [(.agg #[.int .i64 i1, .int .i64 i2, .int .i64 i3, .slice I1 m1 e1, .slice I2 m2 e2] : Value), (.int .i64 n : Value)]) (by kernel_rfl) (fun w => enter_uses9 _ w) (by kernel_rfl) ((C83.out wq hQS).mono fun e w9 h9 => by obtain ⟨q1, q2⟩ := h9; exact ⟨_, q1, hQS.trans (q2.mono hQS.size), q2, rfl⟩)
        refine StepsT.cons (fun (x : Value) (_ : World) => x = (.agg #[.int .i64 t0, .int .i64 t1, .int .i64 t2, .slice T1 a1 b1, .slice T2 a2 b2] : Value)) [(80, (fun (x : Value) (_ : World) => x = (.bool false : Value)))] rfl rfl (fun oq hop _ wq hQS => ?_) ?_
        · refine StepFrom.more_eq ((.bool false : Value)) ?_
          exact StepFrom.load hop (p := (.pointer (some ⟨w.heap.size, 0, none⟩) : Value)) (by kernel_rfl) (load_box9 W1.out hQS) (by kernel_rfl) hQS (Below.refl _ _) rfl
        refine StepsT.cons (fun (x : Value) (_ : World) => x = (.int .i64 n : Value)) [(80, (fun (x : Value) (_ : World) => x = (.bool false : Value)))] rfl rfl (fun oq hop _ wq hQS => ?_) ?_
        · refine StepFrom.more_eq ((.bool false : Value)) ?_
          exact StepFrom.move hop (v := (.int .i64 n : Value)) (by kernel_rfl) (by kernel_rfl) hQS (Below.refl _ _) rfl
        refine StepsT.cons (fun (x : Value) (_ : World) => x = (.int .i64 (us : Int) : Value)) [(80, (fun (x : Value) (_ : World) => x = (.bool false : Value))), (84, (fun (x : Value) (_ : World) => x = (.agg #[.int .i64 t0, .int .i64 t1, .int .i64 t2, .slice T1 a1 b1, .slice T2 a2 b2] : Value))), (85, (fun (x : Value) (_ : World) => x = (.int .i64 n : Value)))] rfl rfl (fun oq hop _ wq hQS => ?_) ?_
        · refine StepFrom.more_eq ((.bool false : Value)) ?_
          refine StepFrom.more_eq ((.agg #[.int .i64 t0, .int .i64 t1, .int .i64 t2, .slice T1 a1 b1, .slice T2 a2 b2] : Value)) ?_
          refine StepFrom.more_eq ((.int .i64 n : Value)) ?_
          exact StepFrom.call hop (vs := [(.agg #[.int .i64 t0, .int .i64 t1, .int .i64 t2, .slice T1 a1 b1, .slice T2 a2 b2] : Value), (.int .i64 n : Value)]) (by kernel_rfl) (fun w => enter_uses9 _ w) (by kernel_rfl) ((C86.out wq hQS).mono fun e w9 h9 => by obtain ⟨q1, q2⟩ := h9; exact ⟨_, q1, hQS.trans (q2.mono hQS.size), q2, rfl⟩)
        refine StepsT.cons (fun (x : Value) (_ : World) => x = (.bool false : Value)) [(80, (fun (x : Value) (_ : World) => x = (.bool false : Value))), (83, (fun (x : Value) (_ : World) => x = (.int .i64 (us : Int) : Value))), (86, (fun (x : Value) (_ : World) => x = (.int .i64 (us : Int) : Value)))] rfl rfl (fun oq hop _ wq hQS => ?_) ?_
        · refine StepFrom.more_eq ((.bool false : Value)) ?_
          refine StepFrom.more_eq ((.int .i64 (us : Int) : Value)) ?_
          refine StepFrom.more_eq ((.int .i64 (us : Int) : Value)) ?_
          exact StepFrom.bin hop (vx := (.int .i64 (us : Int) : Value)) (vy := (.int .i64 (us : Int) : Value)) (by kernel_rfl) (by kernel_rfl) (neq_same9 _ _ _ _) (by kernel_rfl) hQS (Below.refl _ _) rfl
        refine StepsT.cons (fun (x : Value) (_ : World) => x = (.bool false : Value)) [(80, (fun (x : Value) (_ : World) => x = (.bool false : Value))), (87, (fun (x : Value) (_ : World) => x = (.bool false : Value)))] rfl rfl (fun oq hop _ wq hQS => ?_) ?_
        · refine StepFrom.more_eq ((.bool false : Value)) ?_
          refine StepFrom.more_eq ((.bool false : Value)) ?_
          exact StepFrom.pick hop (b := false) (vx := (Value.bool true : Value)) (vy := (.bool false : Value)) (by kernel_rfl) (by kernel_rfl) (by kernel_rfl) (by kernel_rfl) hQS (Below.refl _ _) rfl
        exact StepsT.nil
      case hfin =>
        intro wf hFS
        refine FinalFrom.more fun x59 h59 => ?_
        refine FinalFrom.more fun x60 h60 => ?_
        refine FinalFrom.more fun x61 h61 => ?_
        refine FinalFrom.more fun x62 h62 => ?_
        refine FinalFrom.more fun x63 h63 => ?_
        refine FinalFrom.more fun x64 h64 => ?_
        refine FinalFrom.more fun x65 h65 => ?_
        refine FinalFrom.more fun x66 h66 => ?_
        refine FinalFrom.more fun x67 h67 => ?_
        refine FinalFrom.more fun x68 h68 => ?_
        refine FinalFrom.more fun x69 h69 => ?_
        refine FinalFrom.more fun x70 h70 => ?_
        refine FinalFrom.more fun x71 h71 => ?_
        refine FinalFrom.more fun x72 h72 => ?_
        refine FinalFrom.more fun x73 h73 => ?_
        refine FinalFrom.more fun x74 h74 => ?_
        refine FinalFrom.more fun x75 h75 => ?_
        refine FinalFrom.more fun x76 h76 => ?_
        refine FinalFrom.more fun x77 h77 => ?_
        refine FinalFrom.more fun x78 h78 => ?_
        refine FinalFrom.more fun x79 h79 => ?_
        refine FinalFrom.more fun x80 h80 => ?_
        refine FinalFrom.more fun x81 h81 => ?_
        refine FinalFrom.more fun x82 h82 => ?_
        refine FinalFrom.more fun x83 h83 => ?_
        refine FinalFrom.more fun x84 h84 => ?_
        refine FinalFrom.more fun x85 h85 => ?_
        refine FinalFrom.more fun x86 h86 => ?_
        refine FinalFrom.more fun x87 h87 => ?_
        refine FinalFrom.more fun x88 h88 => ?_
        refine FinalFrom.done ?_
        simp only [Act.put, List.setIfInBounds_toArray, List.set_cons_zero, List.set_cons_succ]
        go_wp2_with (fail)
        go_meet
        case rel => exact ⟨h88, hFS⟩
    case rest =>
    obtain ⟨rfl, hb6⟩ := hcut
    rename World => w6
    have HB6 : Hid (Below w.heap.size w w6) := HB5.out.trans (hb6.mono HB5.out.size)
    have HB46 : Hid (Below w4.heap.size w4 w6) := HB45.out.trans (hb6.mono HB45.out.size)
    have V1 := Lib.hid ((hb6.block _ (heap_some_lt W1.out)).trans W1.out)
    have V2 := Lib.hid ((hb6.block _ (heap_some_lt W2.out)).trans W2.out)
    have BX6 := Lib.hid ((hb6.block _ (heap_some_lt BX.out)).trans BX.out)
    have BY6 := Lib.hid ((hb6.block _ (heap_some_lt BY.out)).trans BY.out)
    have TX6 := Lib.hid (TX.out.below hb6 hb6.size)
    have TY6 := Lib.hid (TY.out.below hb6 hb6.size)
    clear hb6 W1 W2 BX BY TX TY
    obtain ⟨tl, htl⟩ : ∃ t, tt.walk (liftT n 0) 0 = t := ⟨_, rfl⟩
    obtain ⟨tp, htp⟩ : ∃ t, tt.walk (putT [ta]) 0 = t := ⟨_, rfl⟩
    obtain ⟨tv, htv⟩ : ∃ t, tt.walk (levT bys) 0 = t := ⟨_, rfl⟩
    obtain ⟨zl, hzl⟩ : ∃ t, tl.cy F = t := ⟨_, rfl⟩
    obtain ⟨zp, hzp⟩ : ∃ t, tp.cy F = t := ⟨_, rfl⟩
    obtain ⟨zs, hzs⟩ : ∃ t, tv.cy F = t := ⟨_, rfl⟩
    have FTL : Hid tl.fit := by rw [← htl]; exact fit_liftT n 0 tt 0 FT.out
    have FTP : Hid tp.fit := by rw [← htp]; exact fit_putT (by' := [ta]) (fun b hb => by obtain rfl : b = ta := (by simpa using hb); exact FA.out) (by simp) tt 0 FT.out
    have FTV : Hid tv.fit := by rw [← htv]; exact HTV.out
    have STL : Hid (tl.size ≤ 1048576) := by show _ ≤ _; rw [← htl, size_liftT]; exact HSZ.out.1
    have STV : Hid (tv.size ≤ 1048576) := by show _ ≤ _; rw [← htv, size_levT]; exact HSZ.out.1
    have STP : Hid (tp.size ≤ 40000) := by
      show _ ≤ _
      rw [← htp]
      exact Nat.le_trans (size_putT (M := ta.size) (Tm.size_pos ta) (fun b hb => by obtain rfl : b = ta := (by simpa using hb); exact Nat.le_refl _) tt 0) HSZ.out.2.2
    have HTL := Lib.hid htl
    have HTP := Lib.hid htp
    have HTV2 := Lib.hid htv
    have HZL := Lib.hid hzl
    have HZP := Lib.hid hzp
    have HZS := Lib.hid hzs
    clear htl htp htv hzl hzp hzs
    go_upto_region 9 with (fail)
    go_cut [14, 15, 16] from 89 to 107 (fun sa sb sc wx => ∃ ga gb gc, sa = .pointer (some ⟨ga, 0, none⟩) ∧ sb = .pointer (some ⟨gb, 0, none⟩) ∧ sc = .pointer (some ⟨gc, 0, none⟩) ∧ BoxT wx ga zl ∧ BoxT wx gb zp ∧ BoxT wx gc zs ∧ Below w6.heap.size w6 wx)
    case first =>
      have HA6 : Hid (∀ w', Below w6.heap.size w6 w' → TmAt w' w'.heap.size ta (.agg #[.int .i64 p0, .int .i64 p1, .int .i64 p2, .slice P1 c1 d1, .slice P2 c2 d2])) := fun w' hx => by
        have hbx := HB6.out.trans (hx.mono HB6.out.size)
        exact HA.out.below hbx hbx.size
      have CYV : Hid (∀ (t : Tm) (v : Value) (w' : World), t.fit → t.size ≤ 1073741824 → Below w6.heap.size w6 w' → TmAt w' w'.heap.size t v → Calls Tryd.prog 22 #[.slice Ad nd cd, .slice Aa nd ca, v] w' (TermPost w' (t.cy F))) := fun t v w' hf hz hx hv => by
        obtain ⟨_, _, _, _, _, _, _, _, _, rfl⟩ := tm_shape9 hv
        exact HCY.out t _ _ _ _ _ _ _ _ _ w' hf hz (HB46.out.trans (hx.mono HB46.out.size)) hv
      have C94 : Hid (∀ w' v, Below w6.heap.size w6 w' → TmAt w' w'.heap.size tl v → Calls Tryd.prog 22 #[.slice Ad nd cd, .slice Aa nd ca, v] w' (TermPost w' zl)) := fun w' v hx hv => by
        rw [← HZL.out]
        exact CYV.out tl v w' FTL.out (by have := STL.out; omega) hx hv
      have C101 : Hid (∀ w' v, Below w6.heap.size w6 w' → TmAt w' w'.heap.size tp v → Calls Tryd.prog 22 #[.slice Ad nd cd, .slice Aa nd ca, v] w' (TermPost w' zp)) := fun w' v hx hv => by
        rw [← HZP.out]
        exact CYV.out tp v w' FTP.out (by have := STP.out; omega) hx hv
      have C107 : Hid (∀ w' v, Below w6.heap.size w6 w' → TmAt w' w'.heap.size tv v → Calls Tryd.prog 22 #[.slice Ad nd cd, .slice Aa nd ca, v] w' (TermPost w' zs)) := fun w' v hx hv => by
        rw [← HZS.out]
        exact CYV.out tv v w' FTV.out (by have := STV.out; omega) hx hv
      have C93 : Hid (∀ w', Below w6.heap.size w6 w' → Calls Tryd.prog 10 #[.agg #[.int .i64 t0, .int .i64 t1, .int .i64 t2, .slice T1 a1 b1, .slice T2 a2 b2], .int .i64 n, .int .i64 0] w' (TermPost w' tl)) := fun w' hx => by
        have hbx := HB6.out.trans (hx.mono HB6.out.size)
        rw [← HTL.out]
        exact lift_any tt FT.out _ w' n 0 (by have := HSZ.out.1; omega) (HK.out.binds.below hbx h0) (HT.out.below hbx hbx.size)
      have C100 : Hid (∀ w' v, Below w6.heap.size w6 w' → TmsV [ta] v w' → Calls Tryd.prog 13 #[.agg #[.int .i64 t0, .int .i64 t1, .int .i64 t2, .slice T1 a1 b1, .slice T2 a2 b2], v] w' (TermPost w' tp)) := fun w' v hx hv => by
        have hbx := HB6.out.trans (hx.mono HB6.out.size)
        rw [← HTP.out]
        exact put_own tt [ta] _ v w' FT.out (by have := HSZ.out.1; omega) (HK.out.below hbx h0) (HT.out.below hbx hbx.size) (by simp) hv (fun b hb => by obtain rfl : b = ta := (by simpa using hb); exact ⟨FA.out, by have := HSZ.out.2.1; omega⟩)
      have C106 : Hid (∀ w', Below w6.heap.size w6 w' → Calls Tryd.prog 26 #[.agg #[.int .i64 t0, .int .i64 t1, .int .i64 t2, .slice T1 a1 b1, .slice T2 a2 b2], .slice Al nl cl] w' (TermPost w' tv)) := fun w' hx => by
        have hbx := HB6.out.trans (hx.mono HB6.out.size)
        rw [← HTV2.out]
        exact levels_any tt bys FT.out _ Al nl cl w' (by have := HSZ.out.1; omega) (HK.out.binds.below hbx h0) (HT.out.below hbx hbx.size) HNL.out H9.out ((HLS.out.below hbx).more hbx.size)
      have hS : Below w6.heap.size w6 w6.drew := (Below.refl _ _).drew
      refine wp_region_tailPW 22 (fun w' => Below w6.heap.size w6 w') (fun w1 w2 : World => Below w1.heap.size w1 w2) [(fun (x : Value) (_ : World) => x = (.slice Ad nd cd : Value)), (fun (x : Value) (_ : World) => x = (.slice Aa nd ca : Value)), (fun (x : Value) (_ : World) => x = (.agg #[.int .i64 t0, .int .i64 t1, .int .i64 t2, .slice T1 a1 b1, .slice T2 a2 b2] : Value)), (fun (x : Value) (_ : World) => x = (.int .i64 n : Value)), (fun (x : Value) (w : World) => TmAt w w.heap.size tl x), (fun (x : Value) (w : World) => TmAt w w.heap.size zl x), (fun (x : Value) (_ : World) => x = (.slice Ad nd cd : Value)), (fun (x : Value) (_ : World) => x = (.slice Aa nd ca : Value)), (fun (x : Value) (_ : World) => x = (.agg #[.int .i64 t0, .int .i64 t1, .int .i64 t2, .slice T1 a1 b1, .slice T2 a2 b2] : Value)), (fun (x : Value) (_ : World) => x = (.agg #[.int .i64 p0, .int .i64 p1, .int .i64 p2, .slice P1 c1 d1, .slice P2 c2 d2] : Value)), (fun (x : Value) (w : World) => TmsV [ta] x w), (fun (x : Value) (w : World) => TmAt w w.heap.size tp x), (fun (x : Value) (w : World) => TmAt w w.heap.size zp x), (fun (x : Value) (_ : World) => x = (.slice Ad nd cd : Value)), (fun (x : Value) (_ : World) => x = (.slice Aa nd ca : Value)), (fun (x : Value) (_ : World) => x = (.agg #[.int .i64 t0, .int .i64 t1, .int .i64 t2, .slice T1 a1 b1, .slice T2 a2 b2] : Value)), (fun (x : Value) (_ : World) => x = (.slice Al nl cl : Value)), (fun (x : Value) (w : World) => TmAt w w.heap.size tv x), (fun (x : Value) (w : World) => TmAt w w.heap.size zs x), (fun (x : Value) (w : World) => BoxV w6.heap.size x w), (fun (x : Value) (w : World) => BoxV w6.heap.size x w), (fun (x : Value) (w : World) => BoxV w6.heap.size x w)] [(5, NewV zl), (12, NewV zp), (18, NewV zs), (19, NewB), (20, NewB), (21, NewB)] [⟨5, 19, AwayT zl⟩, ⟨5, 20, AwayT zl⟩, ⟨5, 21, AwayT zl⟩, ⟨12, 19, AwayT zp⟩, ⟨12, 20, AwayT zp⟩, ⟨12, 21, AwayT zp⟩, ⟨18, 19, AwayT zs⟩, ⟨18, 20, AwayT zs⟩, ⟨18, 21, AwayT zs⟩, ⟨19, 20, fun _ x y => x ≠ y⟩, ⟨19, 21, fun _ x y => x ≠ y⟩, ⟨20, 21, fun _ x y => x ≠ y⟩] [⟨some 89, .move (.tmp 0), none, []⟩, ⟨some 90, .move (.tmp 11), none, []⟩, ⟨some 91, .load 27 (.tmp 6), none, []⟩, ⟨some 92, .move (.tmp 4), none, []⟩, ⟨some 93, .call { callee := .value (.func 10), args := #[.tmp 91, .tmp 92, .const (.int .i64 0)], argTypes := #[27, 3, 3] }, none, [(91, 2), (92, 3)]⟩, ⟨some 94, .call { callee := .value (.func 22), args := #[.tmp 89, .tmp 90, .tmp 93], argTypes := #[22, 54, 27] }, none, [(89, 0), (90, 1), (93, 4)]⟩, ⟨some 95, .move (.tmp 0), none, []⟩, ⟨some 96, .move (.tmp 11), none, []⟩, ⟨some 97, .load 27 (.tmp 6), none, []⟩, ⟨some 98, .load 27 (.tmp 7), none, []⟩, ⟨some 99, .buildSlice 25 1 #[(0, .tmp 98)], none, [(98, 9)]⟩, ⟨some 100, .call { callee := .value (.func 13), args := #[.tmp 97, .tmp 99], argTypes := #[27, 25] }, none, [(97, 8), (99, 10)]⟩, ⟨some 101, .call { callee := .value (.func 22), args := #[.tmp 95, .tmp 96, .tmp 100], argTypes := #[22, 54, 27] }, none, [(95, 6), (96, 7), (100, 11)]⟩, ⟨some 102, .move (.tmp 0), none, []⟩, ⟨some 103, .move (.tmp 11), none, []⟩, ⟨some 104, .load 27 (.tmp 6), none, []⟩, ⟨some 105, .move (.tmp 3), none, []⟩, ⟨some 106, .call { callee := .value (.func 26), args := #[.tmp 104, .tmp 105], argTypes := #[27, 24] }, none, [(104, 15), (105, 16)]⟩, ⟨some 107, .call { callee := .value (.func 22), args := #[.tmp 102, .tmp 103, .tmp 106], argTypes := #[22, 54, 27] }, none, [(102, 13), (103, 14), (106, 17)]⟩, ⟨some 14, .alloc 27, none, []⟩, ⟨some 15, .alloc 27, none, []⟩, ⟨some 16, .alloc 27, none, []⟩] [some 89, some 90, some 91, some 92, some 93, some 94, some 95, some 96, some 97, some 98, some 99, some 100, some 101, some 102, some 103, some 104, some 105, some 106, some 107, some 14, some 15, some 16] (by kernel_rfl) (by kernel_rfl) (by kernel_rfl) (by kernel_rfl) (by kernel_rfl) (by kernel_rfl) ?hb ?hS ?hmono ?hpr ?hsteps ?hfin
      case hb => intro q hq; simp only [List.mem_cons, List.not_mem_nil, or_false] at hq; rcases hq with rfl | rfl | rfl | rfl | rfl | rfl | rfl | rfl | rfl | rfl | rfl | rfl <;> exact ⟨by simp, by simp⟩
      case hS => exact hS
      case hmono =>
        refine MonoL.cons (fun x w1 w2 _ _ _ hx => hx) ?_
        refine MonoL.cons (fun x w1 w2 _ _ _ hx => hx) ?_
        refine MonoL.cons (fun x w1 w2 _ _ _ hx => hx) ?_
        refine MonoL.cons (fun x w1 w2 _ _ _ hx => hx) ?_
        refine MonoL.cons (fun x w1 w2 _ _ hR hx => ?_) ?_
        · exact hx.below hR hR.size
        refine MonoL.cons (fun x w1 w2 _ _ hR hx => ?_) ?_
        · exact hx.below hR hR.size
        refine MonoL.cons (fun x w1 w2 _ _ _ hx => hx) ?_
        refine MonoL.cons (fun x w1 w2 _ _ _ hx => hx) ?_
        refine MonoL.cons (fun x w1 w2 _ _ _ hx => hx) ?_
        refine MonoL.cons (fun x w1 w2 _ _ _ hx => hx) ?_
        refine MonoL.cons (fun x w1 w2 _ _ hR hx => ?_) ?_
        · exact hx.mono hR
        refine MonoL.cons (fun x w1 w2 _ _ hR hx => ?_) ?_
        · exact hx.below hR hR.size
        refine MonoL.cons (fun x w1 w2 _ _ hR hx => ?_) ?_
        · exact hx.below hR hR.size
        refine MonoL.cons (fun x w1 w2 _ _ _ hx => hx) ?_
        refine MonoL.cons (fun x w1 w2 _ _ _ hx => hx) ?_
        refine MonoL.cons (fun x w1 w2 _ _ _ hx => hx) ?_
        refine MonoL.cons (fun x w1 w2 _ _ _ hx => hx) ?_
        refine MonoL.cons (fun x w1 w2 _ _ hR hx => ?_) ?_
        · exact hx.below hR hR.size
        refine MonoL.cons (fun x w1 w2 _ _ hR hx => ?_) ?_
        · exact hx.below hR hR.size
        refine MonoL.cons (fun x w1 w2 _ _ hR hx => ?_) ?_
        · exact hx.mono hR
        refine MonoL.cons (fun x w1 w2 _ _ hR hx => ?_) ?_
        · exact hx.mono hR
        refine MonoL.cons (fun x w1 w2 _ _ hR hx => ?_) ?_
        · exact hx.mono hR
        exact MonoL.nil
      case hpr =>
        intro q hq
        simp only [List.mem_cons, List.not_mem_nil, or_false] at hq
        rcases hq with rfl | rfl | rfl | rfl | rfl | rfl | rfl | rfl | rfl | rfl | rfl | rfl
        · exact away_ok (B := w6.heap.size) (by decide) rfl rfl rfl rfl _ (List.mem_singleton.2 rfl)
        · exact away_ok (B := w6.heap.size) (by decide) rfl rfl rfl rfl _ (List.mem_singleton.2 rfl)
        · exact away_ok (B := w6.heap.size) (by decide) rfl rfl rfl rfl _ (List.mem_singleton.2 rfl)
        · exact away_ok (B := w6.heap.size) (by decide) rfl rfl rfl rfl _ (List.mem_singleton.2 rfl)
        · exact away_ok (B := w6.heap.size) (by decide) rfl rfl rfl rfl _ (List.mem_singleton.2 rfl)
        · exact away_ok (B := w6.heap.size) (by decide) rfl rfl rfl rfl _ (List.mem_singleton.2 rfl)
        · exact away_ok (B := w6.heap.size) (by decide) rfl rfl rfl rfl _ (List.mem_singleton.2 rfl)
        · exact away_ok (B := w6.heap.size) (by decide) rfl rfl rfl rfl _ (List.mem_singleton.2 rfl)
        · exact away_ok (B := w6.heap.size) (by decide) rfl rfl rfl rfl _ (List.mem_singleton.2 rfl)
        · exact ne_ok (B := w6.heap.size) (by decide) rfl rfl rfl rfl _ (List.mem_singleton.2 rfl)
        · exact ne_ok (B := w6.heap.size) (by decide) rfl rfl rfl rfl _ (List.mem_singleton.2 rfl)
        · exact ne_ok (B := w6.heap.size) (by decide) rfl rfl rfl rfl _ (List.mem_singleton.2 rfl)
      case hsteps =>
        refine StepsPW.cons (fun (x : Value) (_ : World) => x = (.slice Ad nd cd : Value)) [] rfl rfl rfl (fun oq hop _ wq hQS => ?_) ?_
        · exact StepFrom.move hop (v := (.slice Ad nd cd : Value)) (by kernel_rfl) (by kernel_rfl) hQS (Below.refl _ _) rfl
        refine StepsPW.cons (fun (x : Value) (_ : World) => x = (.slice Aa nd ca : Value)) [] rfl rfl rfl (fun oq hop _ wq hQS => ?_) ?_
        · exact StepFrom.move hop (v := (.slice Aa nd ca : Value)) (by kernel_rfl) (by kernel_rfl) hQS (Below.refl _ _) rfl
        refine StepsPW.cons (fun (x : Value) (_ : World) => x = (.agg #[.int .i64 t0, .int .i64 t1, .int .i64 t2, .slice T1 a1 b1, .slice T2 a2 b2] : Value)) [] rfl rfl rfl (fun oq hop _ wq hQS => ?_) ?_
        · exact StepFrom.load hop (p := (.pointer (some ⟨w.heap.size, 0, none⟩) : Value)) (by kernel_rfl) (load_box9 V1.out hQS) (by kernel_rfl) hQS (Below.refl _ _) rfl
        refine StepsPW.cons (fun (x : Value) (_ : World) => x = (.int .i64 n : Value)) [] rfl rfl rfl (fun oq hop _ wq hQS => ?_) ?_
        · exact StepFrom.move hop (v := (.int .i64 n : Value)) (by kernel_rfl) (by kernel_rfl) hQS (Below.refl _ _) rfl
        refine StepsPW.cons (fun (x : Value) (w : World) => TmAt w w.heap.size tl x) [(91, (fun (x : Value) (_ : World) => x = (.agg #[.int .i64 t0, .int .i64 t1, .int .i64 t2, .slice T1 a1 b1, .slice T2 a2 b2] : Value))), (92, (fun (x : Value) (_ : World) => x = (.int .i64 n : Value)))] rfl rfl rfl (fun oq hop _ wq hQS => ?_) ?_
        · refine StepFrom.more_eq ((.agg #[.int .i64 t0, .int .i64 t1, .int .i64 t2, .slice T1 a1 b1, .slice T2 a2 b2] : Value)) ?_
          refine StepFrom.more_eq ((.int .i64 n : Value)) ?_
          exact StepFrom.call hop (vs := [(.agg #[.int .i64 t0, .int .i64 t1, .int .i64 t2, .slice T1 a1 b1, .slice T2 a2 b2] : Value), (.int .i64 n : Value), (.int .i64 0 : Value)]) (by kernel_rfl) (fun w => enter_lift9 _ w) (by kernel_rfl) ((C93.out wq hQS).mono fun e w9 h9 => by obtain ⟨v, q1, q2, q3⟩ := h9; exact ⟨_, q1, hQS.trans (q3.mono hQS.size), q3, q2.tmAt⟩)
        refine StepsPW.new (fun (x : Value) (w : World) => TmAt w w.heap.size zl x) (NewV zl) [(89, (fun (x : Value) (_ : World) => x = (.slice Ad nd cd : Value))), (90, (fun (x : Value) (_ : World) => x = (.slice Aa nd ca : Value))), (93, (fun (x : Value) (w : World) => TmAt w w.heap.size tl x))] rfl rfl rfl (fun oq hop _ wq hQS => ?_) ?_
        · refine StepFrom.more_eq ((.slice Ad nd cd : Value)) ?_
          refine StepFrom.more_eq ((.slice Aa nd ca : Value)) ?_
          refine StepFrom.more fun x93 h93 => ?_
          obtain h93 := h93
          refine StepFrom.call hop (vs := [(.slice Ad nd cd : Value), (.slice Aa nd ca : Value), x93]) (by kernel_rfl) (fun w => enter_carryTm9 _ w) (by kernel_rfl) ((C94.out wq x93 hQS h93).mono fun e w9 h9 => ?_)
          obtain ⟨v, j1, j2, j3⟩ := h9
          exact ⟨_, j1, hQS.trans (j3.mono hQS.size), j3, j2.tmAt, j2⟩
        refine StepsPW.cons (fun (x : Value) (_ : World) => x = (.slice Ad nd cd : Value)) [] rfl rfl rfl (fun oq hop _ wq hQS => ?_) ?_
        · exact StepFrom.move hop (v := (.slice Ad nd cd : Value)) (by kernel_rfl) (by kernel_rfl) hQS (Below.refl _ _) rfl
        refine StepsPW.cons (fun (x : Value) (_ : World) => x = (.slice Aa nd ca : Value)) [] rfl rfl rfl (fun oq hop _ wq hQS => ?_) ?_
        · exact StepFrom.move hop (v := (.slice Aa nd ca : Value)) (by kernel_rfl) (by kernel_rfl) hQS (Below.refl _ _) rfl
        refine StepsPW.cons (fun (x : Value) (_ : World) => x = (.agg #[.int .i64 t0, .int .i64 t1, .int .i64 t2, .slice T1 a1 b1, .slice T2 a2 b2] : Value)) [] rfl rfl rfl (fun oq hop _ wq hQS => ?_) ?_
        · exact StepFrom.load hop (p := (.pointer (some ⟨w.heap.size, 0, none⟩) : Value)) (by kernel_rfl) (load_box9 V1.out hQS) (by kernel_rfl) hQS (Below.refl _ _) rfl
        refine StepsPW.cons (fun (x : Value) (_ : World) => x = (.agg #[.int .i64 p0, .int .i64 p1, .int .i64 p2, .slice P1 c1 d1, .slice P2 c2 d2] : Value)) [] rfl rfl rfl (fun oq hop _ wq hQS => ?_) ?_
        · exact StepFrom.load hop (p := (.pointer (some ⟨w.heap.size + 1, 0, none⟩) : Value)) (by kernel_rfl) (load_box9 V2.out hQS) (by kernel_rfl) hQS (Below.refl _ _) rfl
        refine StepsPW.cons (fun (x : Value) (w : World) => TmsV [ta] x w) [(98, (fun (x : Value) (_ : World) => x = (.agg #[.int .i64 p0, .int .i64 p1, .int .i64 p2, .slice P1 c1 d1, .slice P2 c2 d2] : Value)))] rfl rfl rfl (fun oq hop _ wq hQS => ?_) ?_
        · refine StepFrom.more_eq ((.agg #[.int .i64 p0, .int .i64 p1, .int .i64 p2, .slice P1 c1 d1, .slice P2 c2 d2] : Value)) ?_
          exact StepFrom.slice hop (vs := [(0, (.agg #[.int .i64 p0, .int .i64 p1, .int .i64 p2, .slice P1 c1 d1, .slice P2 c2 d2] : Value))]) (by kernel_rfl) (slice_tm (HA6.out wq hQS)) (by kernel_rfl) (hQS.alloc hQS.size _) ((Below.refl _ _).alloc (Nat.le_refl _) _) (tmsV_one (HA6.out wq hQS))
        refine StepsPW.cons (fun (x : Value) (w : World) => TmAt w w.heap.size tp x) [(97, (fun (x : Value) (_ : World) => x = (.agg #[.int .i64 t0, .int .i64 t1, .int .i64 t2, .slice T1 a1 b1, .slice T2 a2 b2] : Value))), (99, (fun (x : Value) (w : World) => TmsV [ta] x w))] rfl rfl rfl (fun oq hop _ wq hQS => ?_) ?_
        · refine StepFrom.more_eq ((.agg #[.int .i64 t0, .int .i64 t1, .int .i64 t2, .slice T1 a1 b1, .slice T2 a2 b2] : Value)) ?_
          refine StepFrom.more fun x99 h99 => ?_
          obtain h99 := h99
          exact StepFrom.call hop (vs := [(.agg #[.int .i64 t0, .int .i64 t1, .int .i64 t2, .slice T1 a1 b1, .slice T2 a2 b2] : Value), (x99 : Value)]) (by kernel_rfl) (fun w => enter_putTm _ w) (by kernel_rfl) ((C100.out wq x99 hQS h99).mono fun e w9 h9 => by obtain ⟨v, q1, q2, q3⟩ := h9; exact ⟨_, q1, hQS.trans (q3.mono hQS.size), q3, q2.tmAt⟩)
        refine StepsPW.new (fun (x : Value) (w : World) => TmAt w w.heap.size zp x) (NewV zp) [(95, (fun (x : Value) (_ : World) => x = (.slice Ad nd cd : Value))), (96, (fun (x : Value) (_ : World) => x = (.slice Aa nd ca : Value))), (100, (fun (x : Value) (w : World) => TmAt w w.heap.size tp x))] rfl rfl rfl (fun oq hop _ wq hQS => ?_) ?_
        · refine StepFrom.more_eq ((.slice Ad nd cd : Value)) ?_
          refine StepFrom.more_eq ((.slice Aa nd ca : Value)) ?_
          refine StepFrom.more fun x100 h100 => ?_
          obtain h100 := h100
          refine StepFrom.call hop (vs := [(.slice Ad nd cd : Value), (.slice Aa nd ca : Value), x100]) (by kernel_rfl) (fun w => enter_carryTm9 _ w) (by kernel_rfl) ((C101.out wq x100 hQS h100).mono fun e w9 h9 => ?_)
          obtain ⟨v, j1, j2, j3⟩ := h9
          exact ⟨_, j1, hQS.trans (j3.mono hQS.size), j3, j2.tmAt, j2⟩
        refine StepsPW.cons (fun (x : Value) (_ : World) => x = (.slice Ad nd cd : Value)) [] rfl rfl rfl (fun oq hop _ wq hQS => ?_) ?_
        · exact StepFrom.move hop (v := (.slice Ad nd cd : Value)) (by kernel_rfl) (by kernel_rfl) hQS (Below.refl _ _) rfl
        refine StepsPW.cons (fun (x : Value) (_ : World) => x = (.slice Aa nd ca : Value)) [] rfl rfl rfl (fun oq hop _ wq hQS => ?_) ?_
        · exact StepFrom.move hop (v := (.slice Aa nd ca : Value)) (by kernel_rfl) (by kernel_rfl) hQS (Below.refl _ _) rfl
        refine StepsPW.cons (fun (x : Value) (_ : World) => x = (.agg #[.int .i64 t0, .int .i64 t1, .int .i64 t2, .slice T1 a1 b1, .slice T2 a2 b2] : Value)) [] rfl rfl rfl (fun oq hop _ wq hQS => ?_) ?_
        · exact StepFrom.load hop (p := (.pointer (some ⟨w.heap.size, 0, none⟩) : Value)) (by kernel_rfl) (load_box9 V1.out hQS) (by kernel_rfl) hQS (Below.refl _ _) rfl
        refine StepsPW.cons (fun (x : Value) (_ : World) => x = (.slice Al nl cl : Value)) [] rfl rfl rfl (fun oq hop _ wq hQS => ?_) ?_
        · exact StepFrom.move hop (v := (.slice Al nl cl : Value)) (by kernel_rfl) (by kernel_rfl) hQS (Below.refl _ _) rfl
        refine StepsPW.cons (fun (x : Value) (w : World) => TmAt w w.heap.size tv x) [(104, (fun (x : Value) (_ : World) => x = (.agg #[.int .i64 t0, .int .i64 t1, .int .i64 t2, .slice T1 a1 b1, .slice T2 a2 b2] : Value))), (105, (fun (x : Value) (_ : World) => x = (.slice Al nl cl : Value)))] rfl rfl rfl (fun oq hop _ wq hQS => ?_) ?_
        · refine StepFrom.more_eq ((.agg #[.int .i64 t0, .int .i64 t1, .int .i64 t2, .slice T1 a1 b1, .slice T2 a2 b2] : Value)) ?_
          refine StepFrom.more_eq ((.slice Al nl cl : Value)) ?_
          exact StepFrom.call hop (vs := [(.agg #[.int .i64 t0, .int .i64 t1, .int .i64 t2, .slice T1 a1 b1, .slice T2 a2 b2] : Value), (.slice Al nl cl : Value)]) (by kernel_rfl) (fun w => enter_levels9 _ w) (by kernel_rfl) ((C106.out wq hQS).mono fun e w9 h9 => by obtain ⟨v, q1, q2, q3⟩ := h9; exact ⟨_, q1, hQS.trans (q3.mono hQS.size), q3, q2.tmAt⟩)
        refine StepsPW.new (fun (x : Value) (w : World) => TmAt w w.heap.size zs x) (NewV zs) [(102, (fun (x : Value) (_ : World) => x = (.slice Ad nd cd : Value))), (103, (fun (x : Value) (_ : World) => x = (.slice Aa nd ca : Value))), (106, (fun (x : Value) (w : World) => TmAt w w.heap.size tv x))] rfl rfl rfl (fun oq hop _ wq hQS => ?_) ?_
        · refine StepFrom.more_eq ((.slice Ad nd cd : Value)) ?_
          refine StepFrom.more_eq ((.slice Aa nd ca : Value)) ?_
          refine StepFrom.more fun x106 h106 => ?_
          obtain h106 := h106
          refine StepFrom.call hop (vs := [(.slice Ad nd cd : Value), (.slice Aa nd ca : Value), x106]) (by kernel_rfl) (fun w => enter_carryTm9 _ w) (by kernel_rfl) ((C107.out wq x106 hQS h106).mono fun e w9 h9 => ?_)
          obtain ⟨v, j1, j2, j3⟩ := h9
          exact ⟨_, j1, hQS.trans (j3.mono hQS.size), j3, j2.tmAt, j2⟩
        refine StepsPW.new (fun (x : Value) (w : World) => BoxV w6.heap.size x w) NewB [] rfl rfl rfl (fun oq hop _ wq hQS => ?_) ?_
        · exact StepFrom.alloc hop alloc_term (by kernel_rfl) (hQS.alloc hQS.size _) ((Below.refl _ _).alloc (Nat.le_refl _) _) ⟨⟨_, rfl, hQS.size, heap_alloc_new wq _⟩, _, rfl, Nat.le_refl _⟩
        refine StepsPW.new (fun (x : Value) (w : World) => BoxV w6.heap.size x w) NewB [] rfl rfl rfl (fun oq hop _ wq hQS => ?_) ?_
        · exact StepFrom.alloc hop alloc_term (by kernel_rfl) (hQS.alloc hQS.size _) ((Below.refl _ _).alloc (Nat.le_refl _) _) ⟨⟨_, rfl, hQS.size, heap_alloc_new wq _⟩, _, rfl, Nat.le_refl _⟩
        refine StepsPW.new (fun (x : Value) (w : World) => BoxV w6.heap.size x w) NewB [] rfl rfl rfl (fun oq hop _ wq hQS => ?_) ?_
        · exact StepFrom.alloc hop alloc_term (by kernel_rfl) (hQS.alloc hQS.size _) ((Below.refl _ _).alloc (Nat.le_refl _) _) ⟨⟨_, rfl, hQS.size, heap_alloc_new wq _⟩, _, rfl, Nat.le_refl _⟩
        exact StepsPW.nil
      case hfin =>
        intro wf hFS
        refine FinalFrom.more fun x89 h89 => ?_
        refine FinalFrom.more fun x90 h90 => ?_
        refine FinalFrom.more fun x91 h91 => ?_
        refine FinalFrom.more fun x92 h92 => ?_
        refine FinalFrom.more fun x93 h93 => ?_
        refine FinalFrom.more fun x94 h94 => ?_
        refine FinalFrom.more fun x95 h95 => ?_
        refine FinalFrom.more fun x96 h96 => ?_
        refine FinalFrom.more fun x97 h97 => ?_
        refine FinalFrom.more fun x98 h98 => ?_
        refine FinalFrom.more fun x99 h99 => ?_
        refine FinalFrom.more fun x100 h100 => ?_
        refine FinalFrom.more fun x101 h101 => ?_
        refine FinalFrom.more fun x102 h102 => ?_
        refine FinalFrom.more fun x103 h103 => ?_
        refine FinalFrom.more fun x104 h104 => ?_
        refine FinalFrom.more fun x105 h105 => ?_
        refine FinalFrom.more fun x106 h106 => ?_
        refine FinalFrom.more fun x107 h107 => ?_
        refine FinalFrom.more fun x14 h14 => ?_
        refine FinalFrom.more fun x15 h15 => ?_
        refine FinalFrom.more fun x16 h16 => ?_
        refine FinalFrom.done ?_
        intro hpr
        have q00 : AwayT zl wf x94 x14 := hpr ⟨5, 19, AwayT zl⟩ (by simp) 94 14 x94 x14 (by kernel_rfl) (by kernel_rfl) (by kernel_rfl) (by kernel_rfl)
        have q01 : AwayT zl wf x94 x15 := hpr ⟨5, 20, AwayT zl⟩ (by simp) 94 15 x94 x15 (by kernel_rfl) (by kernel_rfl) (by kernel_rfl) (by kernel_rfl)
        have q02 : AwayT zl wf x94 x16 := hpr ⟨5, 21, AwayT zl⟩ (by simp) 94 16 x94 x16 (by kernel_rfl) (by kernel_rfl) (by kernel_rfl) (by kernel_rfl)
        have q10 : AwayT zp wf x101 x14 := hpr ⟨12, 19, AwayT zp⟩ (by simp) 101 14 x101 x14 (by kernel_rfl) (by kernel_rfl) (by kernel_rfl) (by kernel_rfl)
        have q11 : AwayT zp wf x101 x15 := hpr ⟨12, 20, AwayT zp⟩ (by simp) 101 15 x101 x15 (by kernel_rfl) (by kernel_rfl) (by kernel_rfl) (by kernel_rfl)
        have q12 : AwayT zp wf x101 x16 := hpr ⟨12, 21, AwayT zp⟩ (by simp) 101 16 x101 x16 (by kernel_rfl) (by kernel_rfl) (by kernel_rfl) (by kernel_rfl)
        have q20 : AwayT zs wf x107 x14 := hpr ⟨18, 19, AwayT zs⟩ (by simp) 107 14 x107 x14 (by kernel_rfl) (by kernel_rfl) (by kernel_rfl) (by kernel_rfl)
        have q21 : AwayT zs wf x107 x15 := hpr ⟨18, 20, AwayT zs⟩ (by simp) 107 15 x107 x15 (by kernel_rfl) (by kernel_rfl) (by kernel_rfl) (by kernel_rfl)
        have q22 : AwayT zs wf x107 x16 := hpr ⟨18, 21, AwayT zs⟩ (by simp) 107 16 x107 x16 (by kernel_rfl) (by kernel_rfl) (by kernel_rfl) (by kernel_rfl)
        have r0 : x14 ≠ x15 := hpr ⟨19, 20, fun _ x y => x ≠ y⟩ (by simp) 14 15 x14 x15 (by kernel_rfl) (by kernel_rfl) (by kernel_rfl) (by kernel_rfl)
        have r1 : x14 ≠ x16 := hpr ⟨19, 21, fun _ x y => x ≠ y⟩ (by simp) 14 16 x14 x16 (by kernel_rfl) (by kernel_rfl) (by kernel_rfl) (by kernel_rfl)
        have r2 : x15 ≠ x16 := hpr ⟨20, 21, fun _ x y => x ≠ y⟩ (by simp) 15 16 x15 x16 (by kernel_rfl) (by kernel_rfl) (by kernel_rfl) (by kernel_rfl)
        clear hpr
        obtain ⟨ga, rfl, hga0, hga⟩ := h14
        obtain ⟨gb, rfl, hgb0, hgb⟩ := h15
        obtain ⟨gc, rfl, hgc0, hgc⟩ := h16
        have nab : ga ≠ gb := fun e => r0 (by rw [e])
        have nac : ga ≠ gc := fun e => r1 (by rw [e])
        have nbc : gb ≠ gc := fun e => r2 (by rw [e])
        clear r0 r1 r2
        obtain ⟨g', eg, k00⟩ := q00
        obtain rfl : ga = g' := by injection eg with e; injection e with e; injection e
        clear eg
        obtain ⟨g', eg, k01⟩ := q01
        obtain rfl : gb = g' := by injection eg with e; injection e with e; injection e
        clear eg
        obtain ⟨g', eg, k02⟩ := q02
        obtain rfl : gc = g' := by injection eg with e; injection e with e; injection e
        clear eg
        obtain ⟨g', eg, k10⟩ := q10
        obtain rfl : ga = g' := by injection eg with e; injection e with e; injection e
        clear eg
        obtain ⟨g', eg, k11⟩ := q11
        obtain rfl : gb = g' := by injection eg with e; injection e with e; injection e
        clear eg
        obtain ⟨g', eg, k12⟩ := q12
        obtain rfl : gc = g' := by injection eg with e; injection e with e; injection e
        clear eg
        obtain ⟨g', eg, k20⟩ := q20
        obtain rfl : ga = g' := by injection eg with e; injection e with e; injection e
        clear eg
        obtain ⟨g', eg, k21⟩ := q21
        obtain rfl : gb = g' := by injection eg with e; injection e with e; injection e
        clear eg
        obtain ⟨g', eg, k22⟩ := q22
        obtain rfl : gc = g' := by injection eg with e; injection e with e; injection e
        clear eg
        obtain ⟨ia1, ia2, ia3, Ia1, Ia2, ma1, ea1, ma2, ea2, rfl⟩ := tm_shape9 k00
        obtain ⟨ib1, ib2, ib3, Ib1, Ib2, mb1, eb1, mb2, eb2, rfl⟩ := tm_shape9 k10
        obtain ⟨ic1, ic2, ic3, Ic1, Ic2, mc1, ec1, mc2, ec2, rfl⟩ := tm_shape9 k20
        have hb2 : (wf.setRow ga #[.int .i64 ia1, .int .i64 ia2, .int .i64 ia3, .slice Ia1 ma1 ea1, .slice Ia2 ma2 ea2]).heap[gb]? = some (.cells zeroTm 27 (0, 0)) := (setRow_other wf ga gb _ (Ne.symm nab)).trans hgb
        have hc2 : ((wf.setRow ga #[.int .i64 ia1, .int .i64 ia2, .int .i64 ia3, .slice Ia1 ma1 ea1, .slice Ia2 ma2 ea2]).setRow gb #[.int .i64 ib1, .int .i64 ib2, .int .i64 ib3, .slice Ib1 mb1 eb1, .slice Ib2 mb2 eb2]).heap[gc]? = some (.cells zeroTm 27 (0, 0)) := ((setRow_other _ gb gc _ (Ne.symm nbc)).trans (setRow_other wf ga gc _ (Ne.symm nac))).trans hgc
        obtain ⟨wz, hwz⟩ : ∃ y, ((wf.setRow ga #[.int .i64 ia1, .int .i64 ia2, .int .i64 ia3, .slice Ia1 ma1 ea1, .slice Ia2 ma2 ea2]).setRow gb #[.int .i64 ib1, .int .i64 ib2, .int .i64 ib3, .slice Ib1 mb1 eb1, .slice Ib2 mb2 eb2]).setRow gc #[.int .i64 ic1, .int .i64 ic2, .int .i64 ic3, .slice Ic1 mc1 ec1, .slice Ic2 mc2 ec2] = y := ⟨_, rfl⟩
        have hws : wz.heap.size = wf.heap.size := by rw [← hwz]; simp [World.setRow]
        have hz : ∀ b, b ≠ ga → b ≠ gb → b ≠ gc → wz.heap[b]? = wf.heap[b]? := fun b h1 h2 h3 => by
          rw [← hwz]
          exact (setRow_other _ gc b _ h3).trans ((setRow_other _ gb b _ h2).trans (setRow_other wf ga b _ h1))
        have hX : Hid (BoxT wz ga zl) := ⟨ia1, ia2, ia3, Ia1, ma1, ea1, Ia2, ma2, ea2, by rw [← hwz]; exact (setRow_other _ gc ga _ nac).trans ((setRow_other _ gb ga _ nab).trans (setRow_heap wf ga _ _ _ _ hga)), by rw [hws]; exact away3 hga hgb hgc nab hz zl _ k00 k01 k02⟩
        have hY : Hid (BoxT wz gb zp) := ⟨ib1, ib2, ib3, Ib1, mb1, eb1, Ib2, mb2, eb2, by rw [← hwz]; exact (setRow_other _ gc gb _ nbc).trans (setRow_heap _ gb _ _ _ _ hb2), by rw [hws]; exact away3 hga hgb hgc nab hz zp _ k10 k11 k12⟩
        have hW : Hid (BoxT wz gc zs) := ⟨ic1, ic2, ic3, Ic1, mc1, ec1, Ic2, mc2, ec2, by rw [← hwz]; exact setRow_heap _ gc _ _ _ _ hc2, by rw [hws]; exact away3 hga hgb hgc nab hz zs _ k20 k21 k22⟩
        have hZ : Hid (Below w6.heap.size w6 wz) := by
          rw [← hwz]
          exact below_setRow (below_setRow (below_setRow hFS hga0 _) hgb0 _) hgc0 _
        simp only [Act.put, List.setIfInBounds_toArray, List.set_cons_zero, List.set_cons_succ, List.drop_succ_cons, List.drop_zero]
        clear k00 k01 k02 k10 k11 k12 k20 k21 k22 hws hz h93 h99 h100 h106 h94 h101 h107
        refine wpList_store_row rfl 27 (.tmp 14) (.tmp 94) rfl ga #[.int .i64 ia1, .int .i64 ia2, .int .i64 ia3, .slice Ia1 ma1 ea1, .slice Ia2 ma2 ea2] rfl rfl 27 zeroTm hga infoT5 rfl (by simp [Value.oneCell']) ?_
        refine wpList_store_row rfl 27 (.tmp 15) (.tmp 101) rfl gb #[.int .i64 ib1, .int .i64 ib2, .int .i64 ib3, .slice Ib1 mb1 eb1, .slice Ib2 mb2 eb2] rfl rfl 27 zeroTm hb2 infoT5 rfl (by simp [Value.oneCell']) ?_
        refine wpList_store_row rfl 27 (.tmp 16) (.tmp 107) rfl gc #[.int .i64 ic1, .int .i64 ic2, .int .i64 ic3, .slice Ic1 mc1 ec1, .slice Ic2 mc2 ec2] rfl rfl 27 zeroTm hc2 infoT5 rfl (by simp [Value.oneCell']) ?_
        rw [hwz]
        clear hS hFS hga0 hga hgb0 hgb hgc0 hgc nab nac nbc hb2 hc2 hwz
        go_wp2_with (fail)
        go_meet
        case rel => exact ⟨ga, gb, gc, rfl, rfl, rfl, hX.out, hY.out, hW.out, hZ.out⟩
    case rest =>
    obtain ⟨ga, gb, gc, rfl, rfl, rfl, bA, bB, bC, hb7⟩ := hcut
    rename World => w7
    have HB7 : Hid (Below w.heap.size w w7) := HB6.out.trans (hb7.mono HB6.out.size)
    obtain ⟨ia1, ia2, ia3, Ia1, ma1, ea1, Ia2, ma2, ea2, xa, ta'⟩ := bA
    obtain ⟨ib1, ib2, ib3, Ib1, mb1, eb1, Ib2, mb2, eb2, xb, tb'⟩ := bB
    obtain ⟨ic1, ic2, ic3, Ic1, mc1, ec1, Ic2, mc2, ec2, xc, tc'⟩ := bC
    have BA := Lib.hid xa
    have BB := Lib.hid xb
    have BC := Lib.hid xc
    have TA := Lib.hid ta'
    have TB := Lib.hid tb'
    have TC := Lib.hid tc'
    have BX7 := Lib.hid ((hb7.block _ (heap_some_lt BX6.out)).trans BX6.out)
    have BY7 := Lib.hid ((hb7.block _ (heap_some_lt BY6.out)).trans BY6.out)
    have TX7 := Lib.hid (TX6.out.below hb7 hb7.size)
    have TY7 := Lib.hid (TY6.out.below hb7 hb7.size)
    clear hb7 xa xb xc ta' tb' tc' BX6 BY6 TX6 TY6 V1 V2
    have FZa : Hid zl.fit := by rw [← HZL.out]; exact fit_cy HF.out tl FTL.out
    have FZb : Hid zp.fit := by rw [← HZP.out]; exact fit_cy HF.out tp FTP.out
    have FZc : Hid zs.fit := by rw [← HZS.out]; exact fit_cy HF.out tv FTV.out
    have hzx : cyt.size ≤ 1073741824 := by rw [SX.out]; have := HSZ.out.1; omega
    have hzy : cya.size ≤ 1073741824 := by rw [SY.out]; have := HSZ.out.2.1; omega
    have EL : Hid (cyt.walk (liftT n 0) 0 = zl) := by
      show _ = _
      rw [← HCYT.out, ← lift_cy HF.out, HTL.out, HZL.out]
    have EP : Hid (cyt.walk (putT [cya]) 0 = zp) := by
      show _ = _
      have h := put_cy HF.out [ta] tt 0
      rw [HTP.out, HZP.out, HCYT.out] at h
      rw [h, ← HCYA.out]
      rfl
    have ES : Hid (cyt.walk (levT bys) 0 = zs) := by
      show _ = _
      rw [← HCYT.out, ← lev_cy HF.out, HTV2.out, HZS.out]
    have C111 : Hid (∀ w', Below w7.heap.size w7 w' → Calls Tryd.prog 10 #[.agg #[.int .i64 i1, .int .i64 i2, .int .i64 i3, .slice I1 m1 e1, .slice I2 m2 e2], .int .i64 n, .int .i64 0] w' (TermPost w' zl)) := fun w' hx => by
      have hbx := HB7.out.trans (hx.mono HB7.out.size)
      rw [← EL.out]
      exact lift_any cyt FX.out _ w' n 0 hzx (HK.out.binds.below hbx h0) (TX7.out.below hx hx.size)
    have C118 : Hid (∀ w' v, Below w7.heap.size w7 w' → TmsV [cya] v w' → Calls Tryd.prog 13 #[.agg #[.int .i64 i1, .int .i64 i2, .int .i64 i3, .slice I1 m1 e1, .slice I2 m2 e2], v] w' (TermPost w' zp)) := fun w' v hx hv => by
      have hbx := HB7.out.trans (hx.mono HB7.out.size)
      rw [← EP.out]
      exact put_own cyt [cya] _ v w' FX.out hzx (HK.out.below hbx h0) (TX7.out.below hx hx.size) (by simp) hv (fun b hb => by obtain rfl : b = cya := (by simpa using hb); exact ⟨FY.out, hzy⟩)
    have C125 : Hid (∀ w', Below w7.heap.size w7 w' → Calls Tryd.prog 26 #[.agg #[.int .i64 i1, .int .i64 i2, .int .i64 i3, .slice I1 m1 e1, .slice I2 m2 e2], .slice Al nl cl] w' (TermPost w' zs)) := fun w' hx => by
      have hbx := HB7.out.trans (hx.mono HB7.out.size)
      rw [← ES.out]
      exact levels_any cyt bys FX.out _ Al nl cl w' hzx (HK.out.binds.below hbx h0) (TX7.out.below hx hx.size) HNL.out H9.out ((HLS.out.below hbx).more hbx.size)
    have C112 : Hid (∀ w' v, Below w7.heap.size w7 w' → TmAt w' w'.heap.size zl v → Calls Tryd.prog 27 #[.agg #[.int .i64 ia1, .int .i64 ia2, .int .i64 ia3, .slice Ia1 ma1 ea1, .slice Ia2 ma2 ea2], v] w' (HasPost w' true)) := fun w' v hx hv => sameTerm_any zl FZa.out zl _ v w' true FZa.out (TA.out.below hx hx.size) hv (by simp)
    have C119 : Hid (∀ w' v, Below w7.heap.size w7 w' → TmAt w' w'.heap.size zp v → Calls Tryd.prog 27 #[.agg #[.int .i64 ib1, .int .i64 ib2, .int .i64 ib3, .slice Ib1 mb1 eb1, .slice Ib2 mb2 eb2], v] w' (HasPost w' true)) := fun w' v hx hv => sameTerm_any zp FZb.out zp _ v w' true FZb.out (TB.out.below hx hx.size) hv (by simp)
    have C126 : Hid (∀ w' v, Below w7.heap.size w7 w' → TmAt w' w'.heap.size zs v → Calls Tryd.prog 27 #[.agg #[.int .i64 ic1, .int .i64 ic2, .int .i64 ic3, .slice Ic1 mc1 ec1, .slice Ic2 mc2 ec2], v] w' (HasPost w' true)) := fun w' v hx hv => sameTerm_any zs FZc.out zs _ v w' true FZc.out (TC.out.below hx hx.size) hv (by simp)
    go_upto_region 10 with (fail)
    have hS : Below w7.heap.size w7 w7.drew := (Below.refl _ _).drew
    refine wp_region_tab (fun w' => Below w7.heap.size w7 w') (fun w1 w2 : World => Below w1.heap.size w1 w2) [(fun (x : Value) (_ : World) => x = (.agg #[.int .i64 ia1, .int .i64 ia2, .int .i64 ia3, .slice Ia1 ma1 ea1, .slice Ia2 ma2 ea2] : Value)), (fun (x : Value) (_ : World) => x = (.agg #[.int .i64 i1, .int .i64 i2, .int .i64 i3, .slice I1 m1 e1, .slice I2 m2 e2] : Value)), (fun (x : Value) (_ : World) => x = (.int .i64 n : Value)), (fun (x : Value) (w : World) => TmAt w w.heap.size zl x), (fun (x : Value) (_ : World) => x = (.bool true : Value)), (fun (x : Value) (_ : World) => x = (.bool true : Value)), (fun (x : Value) (_ : World) => x = (.agg #[.int .i64 ib1, .int .i64 ib2, .int .i64 ib3, .slice Ib1 mb1 eb1, .slice Ib2 mb2 eb2] : Value)), (fun (x : Value) (_ : World) => x = (.agg #[.int .i64 i1, .int .i64 i2, .int .i64 i3, .slice I1 m1 e1, .slice I2 m2 e2] : Value)), (fun (x : Value) (_ : World) => x = (.agg #[.int .i64 j1, .int .i64 j2, .int .i64 j3, .slice J1 n1 f1, .slice J2 n2 f2] : Value)), (fun (x : Value) (w : World) => TmsV [cya] x w), (fun (x : Value) (w : World) => TmAt w w.heap.size zp x), (fun (x : Value) (_ : World) => x = (.bool true : Value)), (fun (x : Value) (_ : World) => x = (.bool true : Value)), (fun (x : Value) (_ : World) => x = (.bool true : Value)), (fun (x : Value) (_ : World) => x = (.agg #[.int .i64 ic1, .int .i64 ic2, .int .i64 ic3, .slice Ic1 mc1 ec1, .slice Ic2 mc2 ec2] : Value)), (fun (x : Value) (_ : World) => x = (.agg #[.int .i64 i1, .int .i64 i2, .int .i64 i3, .slice I1 m1 e1, .slice I2 m2 e2] : Value)), (fun (x : Value) (_ : World) => x = (.slice Al nl cl : Value)), (fun (x : Value) (w : World) => TmAt w w.heap.size zs x), (fun (x : Value) (_ : World) => x = (.bool true : Value)), (fun (x : Value) (_ : World) => x = (.bool true : Value)), (fun (x : Value) (_ : World) => x = (.bool true : Value))] [⟨some 108, .load 27 (.tmp 14), none, []⟩, ⟨some 109, .load 27 (.tmp 12), none, []⟩, ⟨some 110, .move (.tmp 4), none, []⟩, ⟨some 111, .call { callee := .value (.func 10), args := #[.tmp 109, .tmp 110, .const (.int .i64 0)], argTypes := #[27, 3, 3] }, none, [(109, 1), (110, 2)]⟩, ⟨some 112, .call { callee := .value (.func 27), args := #[.tmp 108, .tmp 111], argTypes := #[27, 27] }, none, [(108, 0), (111, 3)]⟩, ⟨some 113, .move (.tmp 112), none, [(112, 4)]⟩, ⟨some 114, .load 27 (.tmp 15), some (some 113, true), [(113, 5)]⟩, ⟨some 115, .load 27 (.tmp 12), some (some 113, true), [(113, 5)]⟩, ⟨some 116, .load 27 (.tmp 13), some (some 113, true), [(113, 5)]⟩, ⟨some 117, .buildSlice 25 1 #[(0, .tmp 116)], some (some 113, true), [(113, 5), (116, 8)]⟩, ⟨some 118, .call { callee := .value (.func 13), args := #[.tmp 115, .tmp 117], argTypes := #[27, 25] }, some (some 113, true), [(113, 5), (115, 7), (117, 9)]⟩, ⟨some 119, .call { callee := .value (.func 27), args := #[.tmp 114, .tmp 118], argTypes := #[27, 27] }, some (some 113, true), [(113, 5), (114, 6), (118, 10)]⟩, ⟨some 120, .pick (.tmp 113) (.tmp 119) (.const (Value.bool false)), none, [(113, 5), (119, 11)]⟩, ⟨some 121, .move (.tmp 120), none, [(120, 12)]⟩, ⟨some 122, .load 27 (.tmp 16), some (some 121, true), [(121, 13)]⟩, ⟨some 123, .load 27 (.tmp 12), some (some 121, true), [(121, 13)]⟩, ⟨some 124, .move (.tmp 3), some (some 121, true), [(121, 13)]⟩, ⟨some 125, .call { callee := .value (.func 26), args := #[.tmp 123, .tmp 124], argTypes := #[27, 24] }, some (some 121, true), [(121, 13), (123, 15), (124, 16)]⟩, ⟨some 126, .call { callee := .value (.func 27), args := #[.tmp 122, .tmp 125], argTypes := #[27, 27] }, some (some 121, true), [(121, 13), (122, 14), (125, 17)]⟩, ⟨some 127, .pick (.tmp 121) (.tmp 126) (.const (Value.bool false)), none, [(121, 13), (126, 18)]⟩, ⟨some 10, .assign (.tmp 127), none, [(127, 19)]⟩] [some 108, some 109, some 110, some 111, some 112, some 113, some 114, some 115, some 116, some 117, some 118, some 119, some 120, some 121, some 122, some 123, some 124, some 125, some 126, some 127, some 10] (by kernel_rfl) (by kernel_rfl) (by kernel_rfl) (by kernel_rfl) (by kernel_rfl) ?hS ?hmono ?hsteps ?hfin
    case hS => exact hS
    case hmono =>
      refine MonoL.cons (fun x w1 w2 _ _ _ hx => hx) ?_
      refine MonoL.cons (fun x w1 w2 _ _ _ hx => hx) ?_
      refine MonoL.cons (fun x w1 w2 _ _ _ hx => hx) ?_
      refine MonoL.cons (fun x w1 w2 _ _ hR hx => ?_) ?_
      · exact hx.below hR hR.size
      refine MonoL.cons (fun x w1 w2 _ _ _ hx => hx) ?_
      refine MonoL.cons (fun x w1 w2 _ _ _ hx => hx) ?_
      refine MonoL.cons (fun x w1 w2 _ _ _ hx => hx) ?_
      refine MonoL.cons (fun x w1 w2 _ _ _ hx => hx) ?_
      refine MonoL.cons (fun x w1 w2 _ _ _ hx => hx) ?_
      refine MonoL.cons (fun x w1 w2 _ _ hR hx => ?_) ?_
      · exact hx.mono hR
      refine MonoL.cons (fun x w1 w2 _ _ hR hx => ?_) ?_
      · exact hx.below hR hR.size
      refine MonoL.cons (fun x w1 w2 _ _ _ hx => hx) ?_
      refine MonoL.cons (fun x w1 w2 _ _ _ hx => hx) ?_
      refine MonoL.cons (fun x w1 w2 _ _ _ hx => hx) ?_
      refine MonoL.cons (fun x w1 w2 _ _ _ hx => hx) ?_
      refine MonoL.cons (fun x w1 w2 _ _ _ hx => hx) ?_
      refine MonoL.cons (fun x w1 w2 _ _ _ hx => hx) ?_
      refine MonoL.cons (fun x w1 w2 _ _ hR hx => ?_) ?_
      · exact hx.below hR hR.size
      refine MonoL.cons (fun x w1 w2 _ _ _ hx => hx) ?_
      refine MonoL.cons (fun x w1 w2 _ _ _ hx => hx) ?_
      refine MonoL.cons (fun x w1 w2 _ _ _ hx => hx) ?_
      exact MonoL.nil
    case hsteps =>
      refine StepsT.cons (fun (x : Value) (_ : World) => x = (.agg #[.int .i64 ia1, .int .i64 ia2, .int .i64 ia3, .slice Ia1 ma1 ea1, .slice Ia2 ma2 ea2] : Value)) [] rfl rfl (fun oq hop _ wq hQS => ?_) ?_
      · exact StepFrom.load hop (p := (.pointer (some ⟨ga, 0, none⟩) : Value)) (by kernel_rfl) (load_box9 BA.out hQS) (by kernel_rfl) hQS (Below.refl _ _) rfl
      refine StepsT.cons (fun (x : Value) (_ : World) => x = (.agg #[.int .i64 i1, .int .i64 i2, .int .i64 i3, .slice I1 m1 e1, .slice I2 m2 e2] : Value)) [] rfl rfl (fun oq hop _ wq hQS => ?_) ?_
      · exact StepFrom.load hop (p := (.pointer (some ⟨gx, 0, none⟩) : Value)) (by kernel_rfl) (load_box9 BX7.out hQS) (by kernel_rfl) hQS (Below.refl _ _) rfl
      refine StepsT.cons (fun (x : Value) (_ : World) => x = (.int .i64 n : Value)) [] rfl rfl (fun oq hop _ wq hQS => ?_) ?_
      · exact StepFrom.move hop (v := (.int .i64 n : Value)) (by kernel_rfl) (by kernel_rfl) hQS (Below.refl _ _) rfl
      refine StepsT.cons (fun (x : Value) (w : World) => TmAt w w.heap.size zl x) [(109, (fun (x : Value) (_ : World) => x = (.agg #[.int .i64 i1, .int .i64 i2, .int .i64 i3, .slice I1 m1 e1, .slice I2 m2 e2] : Value))), (110, (fun (x : Value) (_ : World) => x = (.int .i64 n : Value)))] rfl rfl (fun oq hop _ wq hQS => ?_) ?_
      · refine StepFrom.more_eq ((.agg #[.int .i64 i1, .int .i64 i2, .int .i64 i3, .slice I1 m1 e1, .slice I2 m2 e2] : Value)) ?_
        refine StepFrom.more_eq ((.int .i64 n : Value)) ?_
        exact StepFrom.call hop (vs := [(.agg #[.int .i64 i1, .int .i64 i2, .int .i64 i3, .slice I1 m1 e1, .slice I2 m2 e2] : Value), (.int .i64 n : Value), (.int .i64 0 : Value)]) (by kernel_rfl) (fun w => enter_lift9 _ w) (by kernel_rfl) ((C111.out wq hQS).mono fun e w9 h9 => by obtain ⟨v, q1, q2, q3⟩ := h9; exact ⟨_, q1, hQS.trans (q3.mono hQS.size), q3, q2.tmAt⟩)
      refine StepsT.cons (fun (x : Value) (_ : World) => x = (.bool true : Value)) [(108, (fun (x : Value) (_ : World) => x = (.agg #[.int .i64 ia1, .int .i64 ia2, .int .i64 ia3, .slice Ia1 ma1 ea1, .slice Ia2 ma2 ea2] : Value))), (111, (fun (x : Value) (w : World) => TmAt w w.heap.size zl x))] rfl rfl (fun oq hop _ wq hQS => ?_) ?_
      · refine StepFrom.more_eq ((.agg #[.int .i64 ia1, .int .i64 ia2, .int .i64 ia3, .slice Ia1 ma1 ea1, .slice Ia2 ma2 ea2] : Value)) ?_
        refine StepFrom.more fun x111 h111 => ?_
        obtain h111 := h111
        exact StepFrom.call hop (vs := [(.agg #[.int .i64 ia1, .int .i64 ia2, .int .i64 ia3, .slice Ia1 ma1 ea1, .slice Ia2 ma2 ea2] : Value), (x111 : Value)]) (by kernel_rfl) (fun w => enter_same9 _ w) (by kernel_rfl) ((C112.out wq x111 hQS h111).mono fun e w9 h9 => by obtain ⟨q1, q2⟩ := h9; exact ⟨_, q1, hQS.trans (q2.mono hQS.size), q2, rfl⟩)
      refine StepsT.cons (fun (x : Value) (_ : World) => x = (.bool true : Value)) [(112, (fun (x : Value) (_ : World) => x = (.bool true : Value)))] rfl rfl (fun oq hop _ wq hQS => ?_) ?_
      · refine StepFrom.more_eq ((.bool true : Value)) ?_
        exact StepFrom.move hop (v := (.bool true : Value)) (by kernel_rfl) (by kernel_rfl) hQS (Below.refl _ _) rfl
      refine StepsT.cons (fun (x : Value) (_ : World) => x = (.agg #[.int .i64 ib1, .int .i64 ib2, .int .i64 ib3, .slice Ib1 mb1 eb1, .slice Ib2 mb2 eb2] : Value)) [(113, (fun (x : Value) (_ : World) => x = (.bool true : Value)))] rfl rfl (fun oq hop _ wq hQS => ?_) ?_
      · refine StepFrom.more_eq ((.bool true : Value)) ?_
        exact StepFrom.load hop (p := (.pointer (some ⟨gb, 0, none⟩) : Value)) (by kernel_rfl) (load_box9 BB.out hQS) (by kernel_rfl) hQS (Below.refl _ _) rfl
      refine StepsT.cons (fun (x : Value) (_ : World) => x = (.agg #[.int .i64 i1, .int .i64 i2, .int .i64 i3, .slice I1 m1 e1, .slice I2 m2 e2] : Value)) [(113, (fun (x : Value) (_ : World) => x = (.bool true : Value)))] rfl rfl (fun oq hop _ wq hQS => ?_) ?_
      · refine StepFrom.more_eq ((.bool true : Value)) ?_
        exact StepFrom.load hop (p := (.pointer (some ⟨gx, 0, none⟩) : Value)) (by kernel_rfl) (load_box9 BX7.out hQS) (by kernel_rfl) hQS (Below.refl _ _) rfl
      refine StepsT.cons (fun (x : Value) (_ : World) => x = (.agg #[.int .i64 j1, .int .i64 j2, .int .i64 j3, .slice J1 n1 f1, .slice J2 n2 f2] : Value)) [(113, (fun (x : Value) (_ : World) => x = (.bool true : Value)))] rfl rfl (fun oq hop _ wq hQS => ?_) ?_
      · refine StepFrom.more_eq ((.bool true : Value)) ?_
        exact StepFrom.load hop (p := (.pointer (some ⟨gy, 0, none⟩) : Value)) (by kernel_rfl) (load_box9 BY7.out hQS) (by kernel_rfl) hQS (Below.refl _ _) rfl
      refine StepsT.cons (fun (x : Value) (w : World) => TmsV [cya] x w) [(113, (fun (x : Value) (_ : World) => x = (.bool true : Value))), (116, (fun (x : Value) (_ : World) => x = (.agg #[.int .i64 j1, .int .i64 j2, .int .i64 j3, .slice J1 n1 f1, .slice J2 n2 f2] : Value)))] rfl rfl (fun oq hop _ wq hQS => ?_) ?_
      · refine StepFrom.more_eq ((.bool true : Value)) ?_
        refine StepFrom.more_eq ((.agg #[.int .i64 j1, .int .i64 j2, .int .i64 j3, .slice J1 n1 f1, .slice J2 n2 f2] : Value)) ?_
        exact StepFrom.slice hop (vs := [(0, (.agg #[.int .i64 j1, .int .i64 j2, .int .i64 j3, .slice J1 n1 f1, .slice J2 n2 f2] : Value))]) (by kernel_rfl) (slice_tm (TY7.out.below hQS hQS.size)) (by kernel_rfl) (hQS.alloc hQS.size _) ((Below.refl _ _).alloc (Nat.le_refl _) _) (tmsV_one (TY7.out.below hQS hQS.size))
      refine StepsT.cons (fun (x : Value) (w : World) => TmAt w w.heap.size zp x) [(113, (fun (x : Value) (_ : World) => x = (.bool true : Value))), (115, (fun (x : Value) (_ : World) => x = (.agg #[.int .i64 i1, .int .i64 i2, .int .i64 i3, .slice I1 m1 e1, .slice I2 m2 e2] : Value))), (117, (fun (x : Value) (w : World) => TmsV [cya] x w))] rfl rfl (fun oq hop _ wq hQS => ?_) ?_
      · refine StepFrom.more_eq ((.bool true : Value)) ?_
        refine StepFrom.more_eq ((.agg #[.int .i64 i1, .int .i64 i2, .int .i64 i3, .slice I1 m1 e1, .slice I2 m2 e2] : Value)) ?_
        refine StepFrom.more fun x117 h117 => ?_
        obtain h117 := h117
        exact StepFrom.call hop (vs := [(.agg #[.int .i64 i1, .int .i64 i2, .int .i64 i3, .slice I1 m1 e1, .slice I2 m2 e2] : Value), (x117 : Value)]) (by kernel_rfl) (fun w => enter_putTm _ w) (by kernel_rfl) ((C118.out wq x117 hQS h117).mono fun e w9 h9 => by obtain ⟨v, q1, q2, q3⟩ := h9; exact ⟨_, q1, hQS.trans (q3.mono hQS.size), q3, q2.tmAt⟩)
      refine StepsT.cons (fun (x : Value) (_ : World) => x = (.bool true : Value)) [(113, (fun (x : Value) (_ : World) => x = (.bool true : Value))), (114, (fun (x : Value) (_ : World) => x = (.agg #[.int .i64 ib1, .int .i64 ib2, .int .i64 ib3, .slice Ib1 mb1 eb1, .slice Ib2 mb2 eb2] : Value))), (118, (fun (x : Value) (w : World) => TmAt w w.heap.size zp x))] rfl rfl (fun oq hop _ wq hQS => ?_) ?_
      · refine StepFrom.more_eq ((.bool true : Value)) ?_
        refine StepFrom.more_eq ((.agg #[.int .i64 ib1, .int .i64 ib2, .int .i64 ib3, .slice Ib1 mb1 eb1, .slice Ib2 mb2 eb2] : Value)) ?_
        refine StepFrom.more fun x118 h118 => ?_
        obtain h118 := h118
        exact StepFrom.call hop (vs := [(.agg #[.int .i64 ib1, .int .i64 ib2, .int .i64 ib3, .slice Ib1 mb1 eb1, .slice Ib2 mb2 eb2] : Value), (x118 : Value)]) (by kernel_rfl) (fun w => enter_same9 _ w) (by kernel_rfl) ((C119.out wq x118 hQS h118).mono fun e w9 h9 => by obtain ⟨q1, q2⟩ := h9; exact ⟨_, q1, hQS.trans (q2.mono hQS.size), q2, rfl⟩)
      refine StepsT.cons (fun (x : Value) (_ : World) => x = (.bool true : Value)) [(113, (fun (x : Value) (_ : World) => x = (.bool true : Value))), (119, (fun (x : Value) (_ : World) => x = (.bool true : Value)))] rfl rfl (fun oq hop _ wq hQS => ?_) ?_
      · refine StepFrom.more_eq ((.bool true : Value)) ?_
        refine StepFrom.more_eq ((.bool true : Value)) ?_
        exact StepFrom.pick hop (b := true) (vx := (.bool true : Value)) (vy := (Value.bool false : Value)) (by kernel_rfl) (by kernel_rfl) (by kernel_rfl) (by kernel_rfl) hQS (Below.refl _ _) rfl
      refine StepsT.cons (fun (x : Value) (_ : World) => x = (.bool true : Value)) [(120, (fun (x : Value) (_ : World) => x = (.bool true : Value)))] rfl rfl (fun oq hop _ wq hQS => ?_) ?_
      · refine StepFrom.more_eq ((.bool true : Value)) ?_
        exact StepFrom.move hop (v := (.bool true : Value)) (by kernel_rfl) (by kernel_rfl) hQS (Below.refl _ _) rfl
      refine StepsT.cons (fun (x : Value) (_ : World) => x = (.agg #[.int .i64 ic1, .int .i64 ic2, .int .i64 ic3, .slice Ic1 mc1 ec1, .slice Ic2 mc2 ec2] : Value)) [(121, (fun (x : Value) (_ : World) => x = (.bool true : Value)))] rfl rfl (fun oq hop _ wq hQS => ?_) ?_
      · refine StepFrom.more_eq ((.bool true : Value)) ?_
        exact StepFrom.load hop (p := (.pointer (some ⟨gc, 0, none⟩) : Value)) (by kernel_rfl) (load_box9 BC.out hQS) (by kernel_rfl) hQS (Below.refl _ _) rfl
      refine StepsT.cons (fun (x : Value) (_ : World) => x = (.agg #[.int .i64 i1, .int .i64 i2, .int .i64 i3, .slice I1 m1 e1, .slice I2 m2 e2] : Value)) [(121, (fun (x : Value) (_ : World) => x = (.bool true : Value)))] rfl rfl (fun oq hop _ wq hQS => ?_) ?_
      · refine StepFrom.more_eq ((.bool true : Value)) ?_
        exact StepFrom.load hop (p := (.pointer (some ⟨gx, 0, none⟩) : Value)) (by kernel_rfl) (load_box9 BX7.out hQS) (by kernel_rfl) hQS (Below.refl _ _) rfl
      refine StepsT.cons (fun (x : Value) (_ : World) => x = (.slice Al nl cl : Value)) [(121, (fun (x : Value) (_ : World) => x = (.bool true : Value)))] rfl rfl (fun oq hop _ wq hQS => ?_) ?_
      · refine StepFrom.more_eq ((.bool true : Value)) ?_
        exact StepFrom.move hop (v := (.slice Al nl cl : Value)) (by kernel_rfl) (by kernel_rfl) hQS (Below.refl _ _) rfl
      refine StepsT.cons (fun (x : Value) (w : World) => TmAt w w.heap.size zs x) [(121, (fun (x : Value) (_ : World) => x = (.bool true : Value))), (123, (fun (x : Value) (_ : World) => x = (.agg #[.int .i64 i1, .int .i64 i2, .int .i64 i3, .slice I1 m1 e1, .slice I2 m2 e2] : Value))), (124, (fun (x : Value) (_ : World) => x = (.slice Al nl cl : Value)))] rfl rfl (fun oq hop _ wq hQS => ?_) ?_
      · refine StepFrom.more_eq ((.bool true : Value)) ?_
        refine StepFrom.more_eq ((.agg #[.int .i64 i1, .int .i64 i2, .int .i64 i3, .slice I1 m1 e1, .slice I2 m2 e2] : Value)) ?_
        refine StepFrom.more_eq ((.slice Al nl cl : Value)) ?_
        exact StepFrom.call hop (vs := [(.agg #[.int .i64 i1, .int .i64 i2, .int .i64 i3, .slice I1 m1 e1, .slice I2 m2 e2] : Value), (.slice Al nl cl : Value)]) (by kernel_rfl) (fun w => enter_levels9 _ w) (by kernel_rfl) ((C125.out wq hQS).mono fun e w9 h9 => by obtain ⟨v, q1, q2, q3⟩ := h9; exact ⟨_, q1, hQS.trans (q3.mono hQS.size), q3, q2.tmAt⟩)
      refine StepsT.cons (fun (x : Value) (_ : World) => x = (.bool true : Value)) [(121, (fun (x : Value) (_ : World) => x = (.bool true : Value))), (122, (fun (x : Value) (_ : World) => x = (.agg #[.int .i64 ic1, .int .i64 ic2, .int .i64 ic3, .slice Ic1 mc1 ec1, .slice Ic2 mc2 ec2] : Value))), (125, (fun (x : Value) (w : World) => TmAt w w.heap.size zs x))] rfl rfl (fun oq hop _ wq hQS => ?_) ?_
      · refine StepFrom.more_eq ((.bool true : Value)) ?_
        refine StepFrom.more_eq ((.agg #[.int .i64 ic1, .int .i64 ic2, .int .i64 ic3, .slice Ic1 mc1 ec1, .slice Ic2 mc2 ec2] : Value)) ?_
        refine StepFrom.more fun x125 h125 => ?_
        obtain h125 := h125
        exact StepFrom.call hop (vs := [(.agg #[.int .i64 ic1, .int .i64 ic2, .int .i64 ic3, .slice Ic1 mc1 ec1, .slice Ic2 mc2 ec2] : Value), (x125 : Value)]) (by kernel_rfl) (fun w => enter_same9 _ w) (by kernel_rfl) ((C126.out wq x125 hQS h125).mono fun e w9 h9 => by obtain ⟨q1, q2⟩ := h9; exact ⟨_, q1, hQS.trans (q2.mono hQS.size), q2, rfl⟩)
      refine StepsT.cons (fun (x : Value) (_ : World) => x = (.bool true : Value)) [(121, (fun (x : Value) (_ : World) => x = (.bool true : Value))), (126, (fun (x : Value) (_ : World) => x = (.bool true : Value)))] rfl rfl (fun oq hop _ wq hQS => ?_) ?_
      · refine StepFrom.more_eq ((.bool true : Value)) ?_
        refine StepFrom.more_eq ((.bool true : Value)) ?_
        exact StepFrom.pick hop (b := true) (vx := (.bool true : Value)) (vy := (Value.bool false : Value)) (by kernel_rfl) (by kernel_rfl) (by kernel_rfl) (by kernel_rfl) hQS (Below.refl _ _) rfl
      refine StepsT.cons (fun (x : Value) (_ : World) => x = (.bool true : Value)) [(127, (fun (x : Value) (_ : World) => x = (.bool true : Value)))] rfl rfl (fun oq hop _ wq hQS => ?_) ?_
      · refine StepFrom.more_eq ((.bool true : Value)) ?_
        exact StepFrom.assign hop (v := (.bool true : Value)) (by kernel_rfl) (by kernel_rfl) hQS (Below.refl _ _) rfl
      exact StepsT.nil
    case hfin =>
      intro wf hFS
      refine FinalFrom.more fun x108 h108 => ?_
      refine FinalFrom.more fun x109 h109 => ?_
      refine FinalFrom.more fun x110 h110 => ?_
      refine FinalFrom.more fun x111 h111 => ?_
      refine FinalFrom.more fun x112 h112 => ?_
      refine FinalFrom.more fun x113 h113 => ?_
      refine FinalFrom.more fun x114 h114 => ?_
      refine FinalFrom.more fun x115 h115 => ?_
      refine FinalFrom.more fun x116 h116 => ?_
      refine FinalFrom.more fun x117 h117 => ?_
      refine FinalFrom.more fun x118 h118 => ?_
      refine FinalFrom.more fun x119 h119 => ?_
      refine FinalFrom.more fun x120 h120 => ?_
      refine FinalFrom.more fun x121 h121 => ?_
      refine FinalFrom.more fun x122 h122 => ?_
      refine FinalFrom.more fun x123 h123 => ?_
      refine FinalFrom.more fun x124 h124 => ?_
      refine FinalFrom.more fun x125 h125 => ?_
      refine FinalFrom.more fun x126 h126 => ?_
      refine FinalFrom.more fun x127 h127 => ?_
      refine FinalFrom.more fun x10 h10 => ?_
      refine FinalFrom.done ?_
      have HFIN : Hid (Below w.heap.size w wf) := HB7.out.trans (hFS.mono HB7.out.size)
      obtain rfl : x10 = (.bool true : Value) := h10
      simp only [Act.put, List.setIfInBounds_toArray, List.set_cons_zero, List.set_cons_succ]
      clear hS hFS
      go_wp2
      go_ret
      exact ⟨rfl, HFIN.out⟩
end Go.Proofs.YtfgnnbpbbnnnhaaDoor
