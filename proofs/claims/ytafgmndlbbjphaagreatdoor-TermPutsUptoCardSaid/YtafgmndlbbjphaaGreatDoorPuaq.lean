/- Laws. -/
import Derived.Test.YtafgmndlbbjphaaGreatDoorPuis
import Derived.Test.YtafgmndlbbjphaaGreatDoorPuam
import Derived.Test.YtafgmndlbbjphaaGreatDoorPuao
import Derived.Test.YtafgmndlbbjphaaGreatDoorPuap
set_option maxRecDepth 100000
namespace Go.Proofs.YtafgmndlbbjphaaGreatDoor
open Go.RowKit Go.Maps
theorem infoSP : (Tryz.prog.info? 45).map (fun i => (i.zero, i.size, i.bytes)) = some (some (.slice none 0 0), 1, 24) := by kernel_rfl
def mc (k n : Nat) : List Value := cells (marks (k : Int) n)
def FlatPost (w : World) (L : List Sl) (e : Ending) (w' : World) : Prop := e = .returned (.bool true) ∧ Sea w w' L
def lnf (L : List Sl) (j : Nat) : Nat := (L.getD j (none, 0, 0)).2.1
theorem lnf_eq {L : List Sl} {j : Nat} {p : Sl} (h : L[j]? = some p) : lnf L j = p.2.1 := by rw [lnf, List.getD_eq_getElem?_getD, h]; rfl
def xf (L : List Sl) (l : Nat) : List Value := mc l (lnf L l)
def mf (L : List Sl) (l : Nat) : Nat := lnf L l + 64
def yf (L : List Sl) (l : Nat) : List Value := mc l (lnf L l + 64)
def zf (L : List Sl) (K : Nat) (l : Nat) : List Value := mc l (lnf L l) ++ mc (l + K) 64
theorem xf_eq {L : List Sl} {j n c : Nat} {A : Option Addr} (h : L[j]? = some (A, n, c)) : xf L j = mc j n := by rw [xf, lnf_eq h]
theorem mf_eq {L : List Sl} {j n c : Nat} {A : Option Addr} (h : L[j]? = some (A, n, c)) : mf L j = n + 64 := by rw [mf, lnf_eq h]
theorem yf_eq {L : List Sl} {j n c : Nat} {A : Option Addr} (h : L[j]? = some (A, n, c)) : yf L j = mc j (n + 64) := by rw [yf, lnf_eq h]
theorem zf_eq {L : List Sl} {K j n c : Nat} {A : Option Addr} (h : L[j]? = some (A, n, c)) : zf L K j = mc j n ++ mc (j + K) 64 := by rw [zf, lnf_eq h]
theorem marks_next (k : Int) (j : Nat) : marks k (j + 1) = marks k j ++ [((0 : Int), 1000003 * (k + 7) + (j : Int))] := by
 unfold marks
 rw [List.range_succ, List.map_append]
 rfl
theorem mc_next (k j : Nat) : mc k (j + 1) = mc k j ++ [.int .i64 0, .int .i64 (1000003 * ((k : Int) + 7) + (j : Int))] := by
 unfold mc
 rw [marks_next, cells_append]
 rfl
theorem mc_length (k j : Nat) : (mc k j).length = j * 2 := by rw [mc, cells_length, marks_length]
theorem take_set2 {Y ms : List Value} {a b : Value} {j : Nat} (h : Y.take (j * 2) = ms) (hl : j * 2 + 1 < Y.length) : ((Y.set (j * 2) a).set (j * 2 + 1) b).take ((j + 1) * 2) = ms ++ [a, b] := by
 subst h
 refine List.ext_getElem? fun i => ?_
 have hY : (Y.take (j * 2)).length = j * 2 := by rw [List.length_take]; omega
 rw [List.getElem?_take]
 by_cases h1 : i < (j + 1) * 2
 ·rw [if_pos h1]
  by_cases h2 : i = j * 2 + 1
  ·subst h2
   rw [List.getElem?_set_self (by rw [List.length_set]; exact hl), List.getElem?_append_right (by omega), hY, show j * 2 + 1 - j * 2 = 1 by omega]
   rfl
  ·rw [List.getElem?_set_ne (Ne.symm h2)]
   by_cases h3 : i = j * 2
   ·subst h3
    rw [List.getElem?_set_self (by omega), List.getElem?_append_right (by omega), hY, Nat.sub_self]
    rfl
   ·rw [List.getElem?_set_ne (Ne.symm h3), List.getElem?_append_left (by omega), List.getElem?_take, if_pos (by omega)]
 ·rw [if_neg h1, List.getElem?_eq_none (by rw [List.length_append, hY]; simp; omega)]
theorem own_read {w : World} {B g n cap : Nat} {e : TypeId} {k m i : Nat} {zs : List Value} (h : w.ownsRow B e 2 (.slice (some ⟨g, 0, none⟩) n cap) n (mc k m ++ zs)) (hi : i < m) :
  w.cell? ⟨g, 0 + i * 2, none⟩ = some (.int .i64 0) ∧ w.cell? ⟨g, 0 + i * 2 + 1, none⟩ = some (.int .i64 (1000003 * ((k : Int) + 7) + (i : Int))) := by
 have hl := h.1
 rw [List.length_append, mc_length] at hl
 have hc := cells_at (marks (k : Int) m) i (by rw [marks_length]; exact hi)
 rw [marks_get hi] at hc
 rw [Nat.zero_add, h.cellAt _ (by omega), h.cellAt _ (by omega), List.getElem?_append_left (by rw [mc_length]; omega), List.getElem?_append_left (by rw [mc_length]; omega)]
 exact hc
theorem own_read0 {w : World} {B g n cap : Nat} {e : TypeId} {k m i : Nat} (h : w.ownsRow B e 2 (.slice (some ⟨g, 0, none⟩) n cap) n (mc k m)) (hi : i < m) :
  w.cell? ⟨g, 0 + i * 2, none⟩ = some (.int .i64 0) ∧ w.cell? ⟨g, 0 + i * 2 + 1, none⟩ = some (.int .i64 (1000003 * ((k : Int) + 7) + (i : Int))) :=
 own_read (zs := []) (by rw [List.append_nil]; exact h) hi
theorem own_free {w : World} {B g n cap : Nat} {e : TypeId} {s : Nat} {xs : List Value} (h : w.ownsRow B e s (.slice (some ⟨g, 0, none⟩) n cap) n xs) {i : Nat} (hi : i < n * s) : ∃ u, w.cell? ⟨g, i, none⟩ = some u := by
 have hl := h.1
 rw [h.cellAt i hi]
 exact ⟨xs[i]'(by omega), List.getElem?_eq_getElem _⟩
theorem grown_below {w w' : World} (h : w.grownBy w' none) : Below w.heap.size w w' := ⟨h.os, h.tape, h.output, h.size, fun k hk => h.block k hk (by simp)⟩
theorem row_addr {b n c k : Nat} {w : World} (h0 : (0 : Int) ≤ (k : Int)) (h1 : (k : Int) < (n : Int)) : (Instr.indexAt 76 (.slice (some ⟨b, 0, none⟩) n c) (.int .i64 (k : Int))).run Tryz.prog w = .ok (.pointer (some ⟨b, k, none⟩)) w := by go_simp
set_option maxHeartbeats 8000000 in
theorem flatParts_any (w : World) (B G cG : Nat) (L : List Sl) (K : Nat) (X0 : Nat → List Value) (hK : L.length = K) (hKm : K ≤ 400000) (hG : G < w.heap.size) (hGn : ∀ p ∈ L, Bk p ≠ some G)
  (hls : ∀ (k : Nat) (p : Sl), L[k]? = some p → w.cell? ⟨G, k, none⟩ = some (.slice p.1 p.2.1 p.2.2)) (hF : Fleet w B 95 2 L X0) (hB : B ≤ w.heap.size) (hn : ∀ p ∈ L, p.2.1 ≤ 1000000) :
  Calls Tryz.prog 68 #[.slice (some ⟨G, 0, none⟩) K cG] w (FlatPost w L) := by
 obtain ⟨i0, hi, hz0, hz1, hz2⟩ := info_parts infoP
 obtain ⟨i1, hi', hz0', hz1', hz2'⟩ := info_parts infoSP
 have HK := Lib.hid hK
 have HGN := Lib.hid hGn
 have HLS := Lib.hid hls
 have HF := Lib.hid hF
 have HN := Lib.hid hn
 have HLOW : Hid (∀ p ∈ L, ∀ b, Bk p = some b → b < w.heap.size) := fun p hp b hb => (hF.lt hp hb).2
 clear hK hGn hls hF hn
 go_enter Tryz.func68, Tryz.ntmps68
 go_wp2
 go_loopw [3] (fun i wr => ∃ (k : Nat) (X : Nat → List Value), k ≤ K ∧ i = .int .i64 (k : Int) ∧ Sea w wr L ∧ Fleet wr B 95 2 L X ∧ ∀ (j : Nat) (p : Sl), j < k → L[j]? = some p → X j = mc j p.2.1) (fun i _ => K - (intOf i).toNat)
 case atStart => exact ⟨0, X0, by omega, rfl, Sea.refl _ _, HF.out, fun _ _ hj => absurd hj (by omega)⟩
 case round =>
  obtain ⟨k, X, hk, rfl, hsea, hfl, hX⟩ := hrel
  by_cases hlt : k < K
  ·obtain ⟨⟨A, n, c⟩, hp⟩ : ∃ p, L[k]? = some p := ⟨L[k]'(by rw [HK.out]; exact hlt), List.getElem?_eq_getElem _⟩
   obtain ⟨wa, rfl⟩ : ∃ x, x = wr := ⟨_, rfl⟩
   have cg : wa.cell? ⟨G, k, none⟩ = some (.slice A n c) := (hsea.cell hG HGN.out).trans (HLS.out k _ hp)
   have hn9 : n ≤ 1000000 := HN.out _ (List.mem_of_getElem? hp)
   have HSEA := Lib.hid hsea
   have HFL := Lib.hid hfl
   have HX := Lib.hid hX
   have HP := Lib.hid hp
   have q0 : (0 : Int) ≤ (k : Int) := by omega
   have q1 : (k : Int) < (K : Int) := by omega
   clear hsea hfl hX hp
   go_wp2
   go_loopw [4] (fun i wq => ∃ (j : Nat) (Y : Nat → List Value), j ≤ n ∧ i = .int .i64 (j : Int) ∧ Sea w wq L ∧ Fleet wq B 95 2 L Y ∧ (∀ (l : Nat) (p : Sl), l < k → L[l]? = some p → Y l = mc l p.2.1) ∧ (Y k).take (j * 2) = mc k j) (fun i _ => n - (intOf i).toNat)
   case atStart => exact ⟨0, X, by omega, rfl, HSEA.out, HFL.out, HX.out, by simp [mc, marks, cells]⟩
   clear HSEA HFL HX cg
   case round =>
    obtain ⟨j, Y, hj, rfl, hsea, hfl, hY, hYk⟩ := hrel
    have cg : wr.cell? ⟨G, k, none⟩ = some (.slice A n c) := (hsea.cell hG HGN.out).trans (HLS.out k _ HP.out)
    have hwz := hsea.size
    have HSEA := Lib.hid hsea
    have HFL := Lib.hid hfl
    have HY := Lib.hid hY
    have HYK := Lib.hid hYk
    clear hsea hfl hY hYk
    by_cases hjn : j < n
    ·have hrow := HFL.out.own k _ HP.out
     obtain ⟨g, cap, e, hBg, hgz⟩ := hrow.form (by show 0 < n; omega)
     injection e with e1 e2 e3
     subst e1 e3
     have hgw : g < w.heap.size := HLOW.out _ (List.mem_of_getElem? HP.out) g rfl
     obtain ⟨m, hm8⟩ : ∃ m, 1000003 * ((k : Int) + 7) + (j : Int) = m := ⟨_, rfl⟩
     have HM : Hid (∀ wq, Calls Tryz.prog 79 #[.int .i64 (k : Int), .int .i64 (j : Int)] wq (PartPost wq 0 m)) := fun wq => by
      have := markPart_any (k : Int) (j : Int) wq (by omega) (by omega)
      rwa [hm8] at this
     have HM8 := Lib.hid hm8
     have ij0 : (0 : Int) ≤ (j : Int) := by omega
     have ij1 : (j : Int) < (n : Int) := by omega
     have hGr : G < wr.heap.size := by omega
     have HROW := Lib.hid hrow
     clear hm8 hrow
     have hS : Below wr.heap.size wr wr.drew := (Below.refl _ _).drew
     go_upto_region 7 with (fail)
     refine wp_region_tail 9 (fun w' => Below wr.heap.size wr w') BR [(Is (.slice (some ⟨G, 0, none⟩) K cG)), (Is (.int .i64 (k : Int))), (Is (.pointer (some ⟨G, k, none⟩))), (Is (.slice (some ⟨g, 0, none⟩) n c)), (Is (.int .i64 (j : Int))), (Is (.int .i64 (k : Int))), (Is (.int .i64 (j : Int))), (Is (.agg #[.int .i64 0, .int .i64 m])), (Is (.pointer (some ⟨g, 0 + j * 2, none⟩)))] [⟨some 31, .move (.tmp 0), none, []⟩, ⟨some 32, .move (.tmp 3), none, []⟩, ⟨some 33, .indexAddr 76 (.tmp 31) (.tmp 32), none, [(31, 0), (32, 1)]⟩, ⟨some 34, .load 45 (.tmp 33), none, [(33, 2)]⟩, ⟨some 35, .move (.tmp 4), none, []⟩, ⟨some 36, .move (.tmp 3), none, []⟩, ⟨some 37, .move (.tmp 4), none, []⟩, ⟨some 38, .call { callee := .value (.func 79), args := #[.tmp 36, .tmp 37], argTypes := #[3, 3] }, none, [(36, 5), (37, 6)]⟩, ⟨some 39, .indexAddr 45 (.tmp 34) (.tmp 35), none, [(34, 3), (35, 4)]⟩] [some 31, some 32, some 33, some 34, some 35, some 36, some 37, some 38, some 39] [] [] (by kernel_rfl) (by kernel_rfl) (by kernel_rfl) (by kernel_rfl) (by kernel_rfl) (by kernel_rfl) (by kernel_rfl) (by kernel_rfl) ?hrun ?hold ?hS ?hmono ?hsteps ?hfin
     case hrun => exact fun p hp => by cases hp
     case hold => exact fun p hp => by cases hp
     case hS => exact hS
     case hmono =>
      iterate 9 refine .cons (fun x w1 w2 _ _ _ hx => hx) ?_
      exact .nil
     case hsteps =>
      refine .cons (Is (.slice (some ⟨G, 0, none⟩) K cG)) [] rfl rfl (fun oq hop _ wq hQS => ?_) ?_
      ·exact .move hop (v := (.slice (some ⟨G, 0, none⟩) K cG)) (by kernel_rfl) (by kernel_rfl) hQS (.refl _ _) rfl
      refine .cons (Is (.int .i64 (k : Int))) [] rfl rfl (fun oq hop _ wq hQS => ?_) ?_
      ·exact .move hop (v := (.int .i64 (k : Int))) (by kernel_rfl) (by kernel_rfl) hQS (.refl _ _) rfl
      refine .cons (Is (.pointer (some ⟨G, k, none⟩))) _ rfl rfl (fun oq hop _ wq hQS => ?_) ?_
      ·refine .more_eq (.slice (some ⟨G, 0, none⟩) K cG) (.more_eq (.int .i64 (k : Int)) ?_)
       exact .indexAddr hop (p := (.slice (some ⟨G, 0, none⟩) K cG)) (q := (.int .i64 (k : Int))) (by kernel_rfl) (by kernel_rfl) (row_addr q0 q1) (by kernel_rfl) hQS (.refl _ _) rfl
      refine .cons (Is (.slice (some ⟨g, 0, none⟩) n c)) _ rfl rfl (fun oq hop _ wq hQS => ?_) ?_
      ·refine .more_eq (.pointer (some ⟨G, k, none⟩)) ?_
       exact .load hop (p := (.pointer (some ⟨G, k, none⟩))) (by kernel_rfl) (load_lv_at ((hQS.cell (p := ⟨G, k, none⟩) hGr).trans cg)) (by kernel_rfl) hQS (.refl _ _) rfl
      refine .cons (Is (.int .i64 (j : Int))) [] rfl rfl (fun oq hop _ wq hQS => ?_) ?_
      ·exact .move hop (v := (.int .i64 (j : Int))) (by kernel_rfl) (by kernel_rfl) hQS (.refl _ _) rfl
      refine .cons (Is (.int .i64 (k : Int))) [] rfl rfl (fun oq hop _ wq hQS => ?_) ?_
      ·exact .move hop (v := (.int .i64 (k : Int))) (by kernel_rfl) (by kernel_rfl) hQS (.refl _ _) rfl
      refine .cons (Is (.int .i64 (j : Int))) [] rfl rfl (fun oq hop _ wq hQS => ?_) ?_
      ·exact .move hop (v := (.int .i64 (j : Int))) (by kernel_rfl) (by kernel_rfl) hQS (.refl _ _) rfl
      refine .cons (Is (.agg #[.int .i64 0, .int .i64 m])) _ rfl rfl (fun oq hop _ wq hQS => ?_) ?_
      ·refine .more_eq (.int .i64 (k : Int)) (.more_eq (.int .i64 (j : Int)) ?_)
       exact .call hop (vs := [(.int .i64 (k : Int)), (.int .i64 (j : Int))]) (by kernel_rfl) (fun w => enter_markPart _ w) (by kernel_rfl) ((HM.out wq).mono fun e w9 h9 => ⟨_, h9.1, hQS.trans (h9.2.mono hQS.size), h9.2, rfl⟩)
      refine .cons (Is (.pointer (some ⟨g, 0 + j * 2, none⟩))) _ rfl rfl (fun oq hop _ wq hQS => ?_) ?_
      ·refine .more_eq (.slice (some ⟨g, 0, none⟩) n c) (.more_eq (.int .i64 (j : Int)) ?_)
       exact .indexAddr hop (p := (.slice (some ⟨g, 0, none⟩) n c)) (q := (.int .i64 (j : Int))) (by kernel_rfl) (by kernel_rfl) (part_addr ij0 ij1) (by kernel_rfl) hQS (.refl _ _) rfl
      exact .nil
     case hfin =>
      intro wf hFS
      iterate 7 refine .more fun _ _ => ?_
      refine .more fun x38 h38 => ?_
      refine .more fun x39 h39 => ?_
      refine .done ?_
      obtain rfl : x38 = (.agg #[.int .i64 0, .int .i64 m]) := h38
      obtain rfl : x39 = (.pointer (some ⟨g, 0 + j * 2, none⟩)) := h39
      intro _
      simp only [Act.put, List.setIfInBounds_toArray, List.set_cons_zero, List.set_cons_succ, List.drop_succ_cons, List.drop_zero]
      have hrow := own_below HROW.out hFS
      obtain ⟨u1, d1⟩ := own_free hrow (i := j * 2) (by show j * 2 < n * 2; omega)
      obtain ⟨u2, d2⟩ := own_free hrow (i := j * 2 + 1) (by show j * 2 + 1 < n * 2; omega)
      have z1 := hrow.frozenAt (j * 2)
      have z2 := hrow.frozenAt (j * 2 + 1)
      obtain ⟨st1, sg1⟩ := hrow.stored (j * 2) (.int .i64 0)
      obtain ⟨st2, sg2⟩ := st1.stored (j * 2 + 1) (.int .i64 m)
      have sg := sg1.trans sg2
      have HF2 : Hid (Fleet ((wf.setCell ⟨g, j * 2, none⟩ (.int .i64 0)).setCell ⟨g, j * 2 + 1, none⟩ (.int .i64 m)) B 95 2 L (fun l => if l = k then ((Y k).set (j * 2) (.int .i64 0)).set (j * 2 + 1) (.int .i64 m) else Y l)) :=
       (HFL.out.below hFS).turn HP.out sg (by rw [if_pos rfl]; exact st2) (fun l hl => by rw [if_neg hl])
      have HS2 : Hid (Sea w ((wf.setCell ⟨g, j * 2, none⟩ (.int .i64 0)).setCell ⟨g, j * 2 + 1, none⟩ (.int .i64 m)) L) := (HSEA.out.below hFS).row (List.mem_of_getElem? HP.out) sg
      have HY2 : Hid (∀ (l : Nat) (p : Sl), l < k → L[l]? = some p → (fun l => if l = k then ((Y k).set (j * 2) (.int .i64 0)).set (j * 2 + 1) (.int .i64 m) else Y l) l = mc l p.2.1) := fun l p hl hp => by
       show (if l = k then _ else Y l) = _
       rw [if_neg (by omega)]
       exact HY.out l p hl hp
      have HK2 : Hid (((fun l => if l = k then ((Y k).set (j * 2) (.int .i64 0)).set (j * 2 + 1) (.int .i64 m) else Y l) k).take ((j + 1) * 2) = mc k (j + 1)) := by
       show (if k = k then _ else Y k).take ((j + 1) * 2) = _
       rw [if_pos rfl, mc_next, HM8.out]
       exact take_set2 HYK.out (by have := hrow.1; simp only at this; omega)
      clear hS hFS st1 st2 sg1 sg2 sg hrow cg HROW
      go_wp2
      go_roundw
      case rel => exact ⟨j + 1, _, by omega, by go_num, HS2.out, HF2.out, HY2.out, HK2.out⟩
      case measure => simp [intOf]; omega
    ·obtain rfl : j = n := by omega
     have HX2 : Hid (∀ (l : Nat) (p : Sl), l < k + 1 → L[l]? = some p → Y l = mc l p.2.1) := fun l p hl hp => by
      by_cases e : l = k
      ·subst e
       rw [HP.out] at hp
       injection hp with hp
       subst hp
       have h1 := HYK.out
       have h2 := (HFL.out.own l _ HP.out).1
       simp only at h2
       rwa [List.take_of_length_le (by omega)] at h1
      ·exact HY.out l p (by omega) hp
     clear HY HYK
     go_wp2
     go_roundw
     case rel => exact ⟨k + 1, Y, by omega, by go_num, HSEA.out, HFL.out, HX2.out⟩
     case measure => simp [intOf]; omega
  ·have hX2 : Fleet wr B 95 2 L (xf L) := ⟨fun l p hp => by
     have hlK : l < k := by
       have := (List.getElem?_eq_some_iff.1 hp).1
       rw [HK.out] at this
       omega
     show wr.ownsRow _ _ _ _ _ (mc l (lnf L l))
     rw [lnf_eq hp, ← hX l p hlK hp]
     exact hfl.own l p hp, hfl.apart⟩
   have HSEA := Lib.hid hsea
   have HFL := Lib.hid hX2
   have hwz := hsea.size
   clear hsea hfl hX hX2
   go_wp2_with (at_make; refine wpList_make_full _ rfl _ _ 76 rfl w.heap.size 45 i1 (.slice none 0 0) 1 Tryz.underlying76 hi' hz0' hz1' .i64 .i64 _ _ K rfl rfl rfl rfl ?b1 ?b2 ?b3 ?_)
   case b1 => rw [hz2']; omega
   case b2 => unfold maxLen; omega
   case b3 => exact hwz
   intro w1 ho1 hg1
   have hb1 := grown_below hg1
   obtain ⟨gb, hgb⟩ : ∃ x, wr.heap.size = x := ⟨_, rfl⟩
   rw [hgb] at ho1 hwz
   obtain ⟨Gs0, ho2⟩ : ∃ Gs, w1.ownsRow w.heap.size 45 1 (.slice (some ⟨gb, 0, none⟩) K K) K Gs := ⟨_, ho1⟩
   have HT : Hid (Two w w1 L K B 95 2 45 gb (xf L) 0 (mf L) (yf L) Gs0) := ⟨hB, HK.out, HLOW.out, hwz, HSEA.out.below hb1, HFL.out.below hb1, ho2, fun _ _ hj => absurd hj (by omega)⟩
   rw [hgb]
   clear hgb hb1 hg1 ho1 ho2 HSEA HFL
   go_wp2
   go_loopw [6] (fun i wr => ∃ (k : Nat) (Gs : List Value), k ≤ K ∧ i = .int .i64 (k : Int) ∧ Two w wr L K B 95 2 45 gb (xf L) k (mf L) (yf L) Gs) (fun i _ => K - (intOf i).toNat)
   case atStart => exact ⟨0, Gs0, by omega, rfl, HT.out⟩
   clear HT
   case round =>
    obtain ⟨k, Gs, hk, rfl, htwo⟩ := hrel
    obtain ⟨wa, rfl⟩ : ∃ x, x = wr := ⟨_, rfl⟩
    by_cases hlt : k < K
    ·obtain ⟨⟨A, n, c⟩, hp⟩ : ∃ p, L[k]? = some p := ⟨L[k]'(by rw [HK.out]; exact hlt), List.getElem?_eq_getElem _⟩
     have cg : wa.cell? ⟨G, k, none⟩ = some (.slice A n c) := (htwo.sea.cell hG HGN.out).trans (HLS.out k _ hp)
     have hn9 : n ≤ 1000000 := HN.out _ (List.mem_of_getElem? hp)
     have hown : wa.ownsRow B 95 2 (.slice A n c) n (mc k n) := by rw [← xf_eq hp]; exact htwo.fleet.own k _ hp
     have HST := Lib.hid (Gr.start hown)
     have hwz := htwo.sea.size
     have CG := Lib.hid cg
     have HTWO := Lib.hid htwo
     have HP := Lib.hid hp
     have q0 : (0 : Int) ≤ (k : Int) := by omega
     have q1 : (k : Int) < (K : Int) := by omega
     clear htwo hown hp
     go_wp2
     go_loopw [7, 8] (fun v i wq => ∃ j : Nat, j ≤ 64 ∧ i = .int .i64 (j : Int) ∧ Gr wa wq B 95 2 A n c (mc k n) v (n + j) (mc k (n + j))) (fun _ i _ => 64 - (intOf i).toNat)
     case atStart => exact ⟨0, by omega, rfl, HST.out⟩
     clear HST cg
     case round =>
      obtain ⟨j, hj, rfl, hgr⟩ := hrel
      obtain ⟨Av, nv, cv, rfl⟩ := own_slice hgr.own
      have hwg := hgr.grown.size
      by_cases hjn : j < 64
      ·have cg : wr.cell? ⟨G, k, none⟩ = some (.slice A n c) := (World.cell?_of_block (w := wa) (a := ⟨G, k, none⟩) (hgr.grown.block G (by omega) (fun e => HGN.out _ (List.mem_of_getElem? HP.out) e.symm))).trans CG.out
       obtain ⟨m, hm8⟩ : ∃ m, 1000003 * ((k : Int) + 7) + ((n : Int) + (j : Int)) = m := ⟨_, rfl⟩
       have HM : Hid (Calls Tryz.prog 79 #[.int .i64 (k : Int), .int .i64 ((n : Int) + (j : Int))] wr (PartPost wr 0 m)) := by
        have := markPart_any (k : Int) ((n : Int) + (j : Int)) wr (by omega) (by omega)
        rwa [hm8] at this
       have HM8 := Lib.hid hm8
       have q2 : IntKind.i64.wrap ((n : Int) + (j : Int)) = (n : Int) + (j : Int) := IntWalk.i64_in _ (by omega)
       have HGR := Lib.hid hgr
       clear hm8 hgr
       go_wp2_with (fail)
       refine HM.out.mono ?_
       rintro e w4 ⟨rfl, hb4⟩
       have hs4 := hb4.size
       have hb5 : Below w4.heap.size w4 (w4.alloc (.cells #[.int .i64 0, .int .i64 m] 95)) := (Below.refl _ _).alloc (Nat.le_refl _) _
       have HGR5 := Lib.hid ((HGR.out.keep hb4).keep hb5)
       have HNW := Lib.hid (heap_alloc_new w4 (.cells #[.int .i64 0, .int .i64 m] 95))
       clear hb4 hb5 HGR HM
       go_wp2_with (at_builtin; refine wpList_append_gr rfl _ _ 45 rfl HGR5.out i0 (.agg #[.int .i64 0, .int .i64 0]) 16 Tryz.underlying45 hi hz0 hz1 hz2 rfl (by decide) rfl ⟨w4.heap.size, 0, none⟩ 1 1 [.int .i64 0, .int .i64 m] rfl rfl (World.news_of_block (cs := #[.int .i64 0, .int .i64 m]) (t := 95) (fr := (0, 0)) HNW.out) (by simp [Value.oneCell']) (by omega) ?c1 ?c2 ?c3 ?_)
       case c1 => unfold maxLen; omega
       case c2 => omega
       case c3 => omega
       intro v w6 hg6 _
       have HG6 : Hid (Gr wa w6 B 95 2 A n c (mc k n) v (n + (j + 1)) (mc k (n + (j + 1)))) := by
        have e : mc k (n + (j + 1)) = mc k (n + j) ++ [.int .i64 0, .int .i64 m] := by
         rw [← HM8.out]
         have := mc_next k (n + j)
         rwa [Int.natCast_add] at this
        rw [e]
        exact hg6
       clear hg6
       go_wp2
       go_roundw
       case rel => exact ⟨j + 1, by omega, by go_num, HG6.out⟩
       case measure => simp [intOf]; omega
      ·have e64 : j = 64 := by omega
       rw [e64] at hgr
       clear e64
       obtain ⟨hgs, htw⟩ := HTWO.out.step HP.out (by rw [xf_eq HP.out]; exact hgr) (by rw [mf_eq HP.out]) (by rw [yf_eq HP.out])
       obtain ⟨u1, d1⟩ := own_free hgs (i := k) (by omega)
       have z1 := hgs.frozenAt k
       have HTW := Lib.hid htw
       clear hgr hgs htw HTWO
       go_wp2
       go_roundw
       case rel => exact ⟨k + 1, _, by omega, by go_num, HTW.out⟩
       case measure => simp [intOf]; omega
    ·have ek : k = K := by omega
     rw [ek] at htwo
     clear ek
     obtain ⟨w3, rfl⟩ : ∃ x, x = wa := ⟨_, rfl⟩
     have hw3 := htwo.sea.size
     have hgb3 : gb < w3.heap.size := (htwo.gs.lt gb rfl).2
     have HT3 := Lib.hid htwo
     clear htwo
     go_wp2
     go_loopw [9] (fun i wq => ∃ l : Nat, l ≤ K ∧ i = .int .i64 (l : Int) ∧ Below w3.heap.size w3 wq) (fun i _ => K - (intOf i).toNat)
     case atStart => exact ⟨0, by omega, rfl, Below.refl _ _⟩
     case round =>
      obtain ⟨l, hl, rfl, hb⟩ := hrel
      obtain ⟨wa, rfl⟩ : ∃ x, x = wr := ⟨_, rfl⟩
      by_cases hlt2 : l < K
      ·obtain ⟨⟨A, n, c⟩, hp⟩ : ∃ p, L[l]? = some p := ⟨L[l]'(by rw [HK.out]; exact hlt2), List.getElem?_eq_getElem _⟩
       obtain ⟨v, hv, hown, ⟨A', c', rfl⟩, _⟩ := HT3.out.got l _ hlt2 hp
       rw [mf_eq hp] at hown hv
       rw [yf_eq hp] at hown
       obtain ⟨g', cap', e, _, hg'⟩ := hown.form (by omega)
       injection e with e1 e2 e3
       subst e1 e3
       have hn9 : n ≤ 1000000 := HN.out _ (List.mem_of_getElem? hp)
       have hrow : w3.ownsRow B 95 2 (.slice A n c) n (mc l n) := by rw [← xf_eq hp]; exact HT3.out.fleet.own l _ hp
       have d0 : w3.cell? ⟨gb, l, none⟩ = some (.slice (some ⟨g', 0, none⟩) (n + 64) c') := by rw [HT3.out.gs.cellAt l (by omega)]; exact hv
       have d1 : w3.cell? ⟨G, l, none⟩ = some (.slice A n c) := (HT3.out.sea.cell hG HGN.out).trans (HLS.out l _ hp)
       have e0 := (hb.cell (p := ⟨gb, l, none⟩) hgb3).trans d0
       have e1 := (hb.cell (p := ⟨G, l, none⟩) (by show G < _; omega)).trans d1
       have HB := Lib.hid hb
       have D0 := Lib.hid d0
       have D1 := Lib.hid d1
       have HOWN := Lib.hid hown
       have HROW := Lib.hid hrow
       have q0 : (0 : Int) ≤ (l : Int) := by omega
       have q1 : (l : Int) < (K : Int) := by omega
       clear hb hown hrow hv hp d0 d1
       go_wp2
       go_loopw [10] (fun i wq => ∃ j : Nat, j ≤ n + 64 ∧ i = .int .i64 (j : Int) ∧ Below w3.heap.size w3 wq) (fun i _ => n + 64 - (intOf i).toNat)
       case atStart => exact ⟨0, by omega, rfl, HB.out⟩
       clear HB e0 e1
       case round =>
        obtain ⟨j, hj, rfl, hb⟩ := hrel
        have hbz := hb.size
        have e0 := (hb.cell (p := ⟨gb, l, none⟩) hgb3).trans D0.out
        have e1 := (hb.cell (p := ⟨G, l, none⟩) (by show G < _; omega)).trans D1.out
        have HB := Lib.hid hb
        by_cases hjn : j < n + 64
        ·obtain ⟨m, hm8⟩ : ∃ m, 1000003 * ((l : Int) + 7) + (j : Int) = m := ⟨_, rfl⟩
         obtain ⟨f0, f1⟩ := own_read0 HOWN.out hjn
         rw [hm8] at f1
         have hgw : g' < w3.heap.size := hg'
         replace f0 := (hb.cell (p := ⟨g', 0 + j * 2, none⟩) hgw).trans f0
         replace f1 := (hb.cell (p := ⟨g', 0 + j * 2 + 1, none⟩) hgw).trans f1
         have HM : Hid (∀ wq, Calls Tryz.prog 79 #[.int .i64 (l : Int), .int .i64 (j : Int)] wq (PartPost wq 0 m)) := fun wq => by
          have := markPart_any (l : Int) (j : Int) wq (by omega) (by omega)
          rwa [hm8] at this
         have hGr : G < wr.heap.size := by omega
         have hbr : gb < wr.heap.size := by omega
         have hgr : g' < wr.heap.size := by omega
         have ij0 : (0 : Int) ≤ (j : Int) := by omega
         have ij1 : (j : Int) < ((n + 64 : Nat) : Int) := by omega
         have ij5 : (j : Int) < (n : Int) + 64 := by omega
         clear hb
         have hS : Below wr.heap.size wr wr.drew := (Below.refl _ _).drew
         by_cases hin : j < n
         ·have hrow := HROW.out
          obtain ⟨g, cap, e, _, hg⟩ := hrow.form (by omega)
          injection e with e2 e3 e4
          subst e2 e4
          obtain ⟨c0, c1⟩ := own_read0 hrow hin
          rw [hm8] at c1
          replace c0 := (HB.out.cell (p := ⟨g, 0 + j * 2, none⟩) hg).trans c0
          replace c1 := (HB.out.cell (p := ⟨g, 0 + j * 2 + 1, none⟩) hg).trans c1
          have hg4 : g < wr.heap.size := by omega
          have ij2 : (j : Int) < (n : Int) := by omega
          clear hrow hm8
          go_upto_region 24 with (fail)
          refine wp_region_tab (fun w' => Below wr.heap.size wr w') BR [(Is (.slice (some ⟨gb, 0, none⟩) K K)), (Is (.int .i64 (l : Int))), (Is (.pointer (some ⟨gb, l, none⟩))), (Is (.slice (some ⟨g', 0, none⟩) (n + 64) c')), (Is (.int .i64 (j : Int))), (Is (.pointer (some ⟨g', 0 + j * 2, none⟩))), (Is (.agg #[.int .i64 0, .int .i64 m])), (Is (.int .i64 (l : Int))), (Is (.int .i64 (j : Int))), (Is (.agg #[.int .i64 0, .int .i64 m])), (Is (.bool true)), (Is (.bool false)), (Is (.bool false)), (Is (.int .i64 (j : Int))), (Is (.slice (some ⟨G, 0, none⟩) K cG)), (Is (.int .i64 (l : Int))), (Is (.pointer (some ⟨G, l, none⟩))), (Is (.slice (some ⟨g, 0, none⟩) n c)), (Is (.int .i64 (n : Int))), (Is (.bool true)), (Is (.bool true)), (Is (.slice (some ⟨G, 0, none⟩) K cG)), (Is (.int .i64 (l : Int))), (Is (.pointer (some ⟨G, l, none⟩))), (Is (.slice (some ⟨g, 0, none⟩) n c)), (Is (.int .i64 (j : Int))), (Is (.pointer (some ⟨g, 0 + j * 2, none⟩))), (Is (.agg #[.int .i64 0, .int .i64 m])), (Is (.int .i64 (l : Int))), (Is (.int .i64 (j : Int))), (Is (.agg #[.int .i64 0, .int .i64 m])), (Is (.bool true)), (Is (.bool false)), (Is (.bool false)), (Is (.bool false))] [⟨some 88, .move (.tmp 5), none, []⟩, ⟨some 89, .move (.tmp 9), none, []⟩, ⟨some 90, .indexAddr 76 (.tmp 88) (.tmp 89), none, [(88, 0), (89, 1)]⟩, ⟨some 91, .load 45 (.tmp 90), none, [(90, 2)]⟩, ⟨some 92, .move (.tmp 10), none, []⟩, ⟨some 93, .indexAddr 45 (.tmp 91) (.tmp 92), none, [(91, 3), (92, 4)]⟩, ⟨some 94, .load 95 (.tmp 93), none, [(93, 5)]⟩, ⟨some 95, .move (.tmp 9), none, []⟩, ⟨some 96, .move (.tmp 10), none, []⟩, ⟨some 97, .call { callee := .value (.func 79), args := #[.tmp 95, .tmp 96], argTypes := #[3, 3] }, none, [(95, 7), (96, 8)]⟩, ⟨some 98, .binOp .eql 95 (.tmp 94) (.tmp 97) 95, none, [(94, 6), (97, 9)]⟩, ⟨some 99, .unOp .not 4 (.tmp 98), none, [(98, 10)]⟩, ⟨some 100, .move (.tmp 99), none, [(99, 11)]⟩, ⟨some 101, .move (.tmp 10), some (some 100, false), [(100, 12)]⟩, ⟨some 102, .move (.tmp 0), some (some 100, false), [(100, 12)]⟩, ⟨some 103, .move (.tmp 9), some (some 100, false), [(100, 12)]⟩, ⟨some 104, .indexAddr 76 (.tmp 102) (.tmp 103), some (some 100, false), [(100, 12), (102, 14), (103, 15)]⟩, ⟨some 105, .load 45 (.tmp 104), some (some 100, false), [(100, 12), (104, 16)]⟩, ⟨some 106, .call { callee := .builtin .len, args := #[.tmp 105], argTypes := #[45] }, some (some 100, false), [(100, 12), (105, 17)]⟩, ⟨some 107, .binOp .lss 3 (.tmp 101) (.tmp 106) 3, some (some 100, false), [(100, 12), (101, 13), (106, 18)]⟩, ⟨some 108, .move (.tmp 107), some (some 100, false), [(100, 12), (107, 19)]⟩, ⟨some 109, .move (.tmp 0), some (some 108, true), [(108, 20)]⟩, ⟨some 110, .move (.tmp 9), some (some 108, true), [(108, 20)]⟩, ⟨some 111, .indexAddr 76 (.tmp 109) (.tmp 110), some (some 108, true), [(108, 20), (109, 21), (110, 22)]⟩, ⟨some 112, .load 45 (.tmp 111), some (some 108, true), [(108, 20), (111, 23)]⟩, ⟨some 113, .move (.tmp 10), some (some 108, true), [(108, 20)]⟩, ⟨some 114, .indexAddr 45 (.tmp 112) (.tmp 113), some (some 108, true), [(108, 20), (112, 24), (113, 25)]⟩, ⟨some 115, .load 95 (.tmp 114), some (some 108, true), [(108, 20), (114, 26)]⟩, ⟨some 116, .move (.tmp 9), some (some 108, true), [(108, 20)]⟩, ⟨some 117, .move (.tmp 10), some (some 108, true), [(108, 20)]⟩, ⟨some 118, .call { callee := .value (.func 79), args := #[.tmp 116, .tmp 117], argTypes := #[3, 3] }, some (some 108, true), [(108, 20), (116, 28), (117, 29)]⟩, ⟨some 119, .binOp .eql 95 (.tmp 115) (.tmp 118) 95, some (some 108, true), [(108, 20), (115, 27), (118, 30)]⟩, ⟨some 120, .unOp .not 4 (.tmp 119), some (some 108, true), [(108, 20), (119, 31)]⟩, ⟨some 121, .pick (.tmp 108) (.tmp 120) (.const (Value.bool false)), some (some 100, false), [(100, 12), (108, 20), (120, 32)]⟩, ⟨some 122, .pick (.tmp 100) (.const (Value.bool true)) (.tmp 121), none, [(100, 12), (121, 33)]⟩] [some 88, some 89, some 90, some 91, some 92, some 93, some 94, some 95, some 96, some 97, some 98, some 99, some 100, some 101, some 102, some 103, some 104, some 105, some 106, some 107, some 108, some 109, some 110, some 111, some 112, some 113, some 114, some 115, some 116, some 117, some 118, some 119, some 120, some 121, some 122] (by kernel_rfl) (by kernel_rfl) (by kernel_rfl) (by kernel_rfl) (by kernel_rfl) ?hS ?hmono ?hsteps ?hfin
          case hS => exact hS
          case hmono =>
           iterate 35 refine .cons (fun x w1 w2 _ _ _ hx => hx) ?_
           exact .nil
          case hsteps =>
           refine .cons (Is (.slice (some ⟨gb, 0, none⟩) K K)) [] rfl rfl (fun oq hop _ wq hQS => ?_) ?_
           ·exact .move hop (v := (.slice (some ⟨gb, 0, none⟩) K K)) (by kernel_rfl) (by kernel_rfl) hQS (.refl _ _) rfl
           refine .cons (Is (.int .i64 (l : Int))) [] rfl rfl (fun oq hop _ wq hQS => ?_) ?_
           ·exact .move hop (v := (.int .i64 (l : Int))) (by kernel_rfl) (by kernel_rfl) hQS (.refl _ _) rfl
           refine .cons (Is (.pointer (some ⟨gb, l, none⟩))) _ rfl rfl (fun oq hop _ wq hQS => ?_) ?_
           ·refine .more_eq (.slice (some ⟨gb, 0, none⟩) K K) (.more_eq (.int .i64 (l : Int)) ?_)
            exact .indexAddr hop (p := (.slice (some ⟨gb, 0, none⟩) K K)) (q := (.int .i64 (l : Int))) (by kernel_rfl) (by kernel_rfl) (row_addr q0 q1) (by kernel_rfl) hQS (.refl _ _) rfl
           refine .cons (Is (.slice (some ⟨g', 0, none⟩) (n + 64) c')) _ rfl rfl (fun oq hop _ wq hQS => ?_) ?_
           ·refine .more_eq (.pointer (some ⟨gb, l, none⟩)) ?_
            exact .load hop (p := (.pointer (some ⟨gb, l, none⟩))) (by kernel_rfl) (load_lv_at ((hQS.cell (p := ⟨gb, l, none⟩) hbr).trans e0)) (by kernel_rfl) hQS (.refl _ _) rfl
           refine .cons (Is (.int .i64 (j : Int))) [] rfl rfl (fun oq hop _ wq hQS => ?_) ?_
           ·exact .move hop (v := (.int .i64 (j : Int))) (by kernel_rfl) (by kernel_rfl) hQS (.refl _ _) rfl
           refine .cons (Is (.pointer (some ⟨g', 0 + j * 2, none⟩))) _ rfl rfl (fun oq hop _ wq hQS => ?_) ?_
           ·refine .more_eq (.slice (some ⟨g', 0, none⟩) (n + 64) c') (.more_eq (.int .i64 (j : Int)) ?_)
            exact .indexAddr hop (p := (.slice (some ⟨g', 0, none⟩) (n + 64) c')) (q := (.int .i64 (j : Int))) (by kernel_rfl) (by kernel_rfl) (part_addr ij0 ij1) (by kernel_rfl) hQS (.refl _ _) rfl
           refine .cons (Is (.agg #[.int .i64 0, .int .i64 m])) _ rfl rfl (fun oq hop _ wq hQS => ?_) ?_
           ·refine .more_eq (.pointer (some ⟨g', 0 + j * 2, none⟩)) ?_
            exact .load hop (p := (.pointer (some ⟨g', 0 + j * 2, none⟩))) (by kernel_rfl) (load_part ((hQS.cell (p := ⟨g', 0 + j * 2, none⟩) hgr).trans f0) ((hQS.cell (p := ⟨g', 0 + j * 2 + 1, none⟩) hgr).trans f1)) (by kernel_rfl) hQS (.refl _ _) rfl
           refine .cons (Is (.int .i64 (l : Int))) [] rfl rfl (fun oq hop _ wq hQS => ?_) ?_
           ·exact .move hop (v := (.int .i64 (l : Int))) (by kernel_rfl) (by kernel_rfl) hQS (.refl _ _) rfl
           refine .cons (Is (.int .i64 (j : Int))) [] rfl rfl (fun oq hop _ wq hQS => ?_) ?_
           ·exact .move hop (v := (.int .i64 (j : Int))) (by kernel_rfl) (by kernel_rfl) hQS (.refl _ _) rfl
           refine .cons (Is (.agg #[.int .i64 0, .int .i64 m])) _ rfl rfl (fun oq hop _ wq hQS => ?_) ?_
           ·refine .more_eq (.int .i64 (l : Int)) (.more_eq (.int .i64 (j : Int)) ?_)
            exact .call hop (vs := [(.int .i64 (l : Int)), (.int .i64 (j : Int))]) (by kernel_rfl) (fun w => enter_markPart _ w) (by kernel_rfl) ((HM.out wq).mono fun e w9 h9 => ⟨_, h9.1, hQS.trans (h9.2.mono hQS.size), h9.2, rfl⟩)
           refine .cons (Is (.bool true)) _ rfl rfl (fun oq hop _ wq hQS => ?_) ?_
           ·refine .more_eq (.agg #[.int .i64 0, .int .i64 m]) (.more_eq (.agg #[.int .i64 0, .int .i64 m]) ?_)
            exact .bin hop (vx := (.agg #[.int .i64 0, .int .i64 m])) (vy := (.agg #[.int .i64 0, .int .i64 m])) (by kernel_rfl) (by kernel_rfl) (eql_part _ _ _ _ _) (by kernel_rfl) hQS (.refl _ _) rfl
           refine .cons (Is (.bool false)) _ rfl rfl (fun oq hop _ wq hQS => ?_) ?_
           ·refine .more_eq (.bool true) ?_
            exact .not hop (b := true) (by kernel_rfl) (by kernel_rfl) hQS (.refl _ _) rfl
           refine .cons (Is (.bool false)) _ rfl rfl (fun oq hop _ wq hQS => ?_) ?_
           ·refine .more_eq (.bool false) ?_
            exact .move hop (v := (.bool false)) (by kernel_rfl) (by kernel_rfl) hQS (.refl _ _) rfl
           refine .cons (Is (.int .i64 (j : Int))) _ rfl rfl (fun oq hop _ wq hQS => ?_) ?_
           ·refine .more_eq (.bool false) ?_
            exact .move hop (v := (.int .i64 (j : Int))) (by kernel_rfl) (by kernel_rfl) hQS (.refl _ _) rfl
           refine .cons (Is (.slice (some ⟨G, 0, none⟩) K cG)) _ rfl rfl (fun oq hop _ wq hQS => ?_) ?_
           ·refine .more_eq (.bool false) ?_
            exact .move hop (v := (.slice (some ⟨G, 0, none⟩) K cG)) (by kernel_rfl) (by kernel_rfl) hQS (.refl _ _) rfl
           refine .cons (Is (.int .i64 (l : Int))) _ rfl rfl (fun oq hop _ wq hQS => ?_) ?_
           ·refine .more_eq (.bool false) ?_
            exact .move hop (v := (.int .i64 (l : Int))) (by kernel_rfl) (by kernel_rfl) hQS (.refl _ _) rfl
           refine .cons (Is (.pointer (some ⟨G, l, none⟩))) _ rfl rfl (fun oq hop _ wq hQS => ?_) ?_
           ·refine .more_eq (.bool false) (.more_eq (.slice (some ⟨G, 0, none⟩) K cG) (.more_eq (.int .i64 (l : Int)) ?_))
            exact .indexAddr hop (p := (.slice (some ⟨G, 0, none⟩) K cG)) (q := (.int .i64 (l : Int))) (by kernel_rfl) (by kernel_rfl) (row_addr q0 q1) (by kernel_rfl) hQS (.refl _ _) rfl
           refine .cons (Is (.slice (some ⟨g, 0, none⟩) n c)) _ rfl rfl (fun oq hop _ wq hQS => ?_) ?_
           ·refine .more_eq (.bool false) (.more_eq (.pointer (some ⟨G, l, none⟩)) ?_)
            exact .load hop (p := (.pointer (some ⟨G, l, none⟩))) (by kernel_rfl) (load_lv_at ((hQS.cell (p := ⟨G, l, none⟩) hGr).trans e1)) (by kernel_rfl) hQS (.refl _ _) rfl
           refine .cons (Is (.int .i64 (n : Int))) _ rfl rfl (fun oq hop _ wq hQS => ?_) ?_
           ·refine .more_eq (.bool false) (.more_eq (.slice (some ⟨g, 0, none⟩) n c) ?_)
            exact .lenP hop (show _ = (.slice (some ⟨g, 0, none⟩) n c : Value) by kernel_rfl) (by kernel_rfl) hQS (.refl _ _) rfl
           refine .cons (Is (.bool true)) _ rfl rfl (fun oq hop _ wq hQS => ?_) ?_
           ·refine .more_eq (.bool false) (.more_eq (.int .i64 (j : Int)) (.more_eq (.int .i64 (n : Int)) ?_))
            exact .bin hop (vx := (.int .i64 (j : Int))) (vy := (.int .i64 (n : Int))) (by kernel_rfl) (by kernel_rfl) (lss_yes _ _ _ _ _ ij2) (by kernel_rfl) hQS (.refl _ _) rfl
           refine .cons (Is (.bool true)) _ rfl rfl (fun oq hop _ wq hQS => ?_) ?_
           ·refine .more_eq (.bool false) (.more_eq (.bool true) ?_)
            exact .move hop (v := (.bool true)) (by kernel_rfl) (by kernel_rfl) hQS (.refl _ _) rfl
           refine .cons (Is (.slice (some ⟨G, 0, none⟩) K cG)) _ rfl rfl (fun oq hop _ wq hQS => ?_) ?_
           ·refine .more_eq (.bool true) ?_
            exact .move hop (v := (.slice (some ⟨G, 0, none⟩) K cG)) (by kernel_rfl) (by kernel_rfl) hQS (.refl _ _) rfl
           refine .cons (Is (.int .i64 (l : Int))) _ rfl rfl (fun oq hop _ wq hQS => ?_) ?_
           ·refine .more_eq (.bool true) ?_
            exact .move hop (v := (.int .i64 (l : Int))) (by kernel_rfl) (by kernel_rfl) hQS (.refl _ _) rfl
           refine .cons (Is (.pointer (some ⟨G, l, none⟩))) _ rfl rfl (fun oq hop _ wq hQS => ?_) ?_
           ·refine .more_eq (.bool true) (.more_eq (.slice (some ⟨G, 0, none⟩) K cG) (.more_eq (.int .i64 (l : Int)) ?_))
            exact .indexAddr hop (p := (.slice (some ⟨G, 0, none⟩) K cG)) (q := (.int .i64 (l : Int))) (by kernel_rfl) (by kernel_rfl) (row_addr q0 q1) (by kernel_rfl) hQS (.refl _ _) rfl
           refine .cons (Is (.slice (some ⟨g, 0, none⟩) n c)) _ rfl rfl (fun oq hop _ wq hQS => ?_) ?_
           ·refine .more_eq (.bool true) (.more_eq (.pointer (some ⟨G, l, none⟩)) ?_)
            exact .load hop (p := (.pointer (some ⟨G, l, none⟩))) (by kernel_rfl) (load_lv_at ((hQS.cell (p := ⟨G, l, none⟩) hGr).trans e1)) (by kernel_rfl) hQS (.refl _ _) rfl
           refine .cons (Is (.int .i64 (j : Int))) _ rfl rfl (fun oq hop _ wq hQS => ?_) ?_
           ·refine .more_eq (.bool true) ?_
            exact .move hop (v := (.int .i64 (j : Int))) (by kernel_rfl) (by kernel_rfl) hQS (.refl _ _) rfl
           refine .cons (Is (.pointer (some ⟨g, 0 + j * 2, none⟩))) _ rfl rfl (fun oq hop _ wq hQS => ?_) ?_
           ·refine .more_eq (.bool true) (.more_eq (.slice (some ⟨g, 0, none⟩) n c) (.more_eq (.int .i64 (j : Int)) ?_))
            exact .indexAddr hop (p := (.slice (some ⟨g, 0, none⟩) n c)) (q := (.int .i64 (j : Int))) (by kernel_rfl) (by kernel_rfl) (part_addr ij0 ij2) (by kernel_rfl) hQS (.refl _ _) rfl
           refine .cons (Is (.agg #[.int .i64 0, .int .i64 m])) _ rfl rfl (fun oq hop _ wq hQS => ?_) ?_
           ·refine .more_eq (.bool true) (.more_eq (.pointer (some ⟨g, 0 + j * 2, none⟩)) ?_)
            exact .load hop (p := (.pointer (some ⟨g, 0 + j * 2, none⟩))) (by kernel_rfl) (load_part ((hQS.cell (p := ⟨g, 0 + j * 2, none⟩) hg4).trans c0) ((hQS.cell (p := ⟨g, 0 + j * 2 + 1, none⟩) hg4).trans c1)) (by kernel_rfl) hQS (.refl _ _) rfl
           refine .cons (Is (.int .i64 (l : Int))) _ rfl rfl (fun oq hop _ wq hQS => ?_) ?_
           ·refine .more_eq (.bool true) ?_
            exact .move hop (v := (.int .i64 (l : Int))) (by kernel_rfl) (by kernel_rfl) hQS (.refl _ _) rfl
           refine .cons (Is (.int .i64 (j : Int))) _ rfl rfl (fun oq hop _ wq hQS => ?_) ?_
           ·refine .more_eq (.bool true) ?_
            exact .move hop (v := (.int .i64 (j : Int))) (by kernel_rfl) (by kernel_rfl) hQS (.refl _ _) rfl
           refine .cons (Is (.agg #[.int .i64 0, .int .i64 m])) _ rfl rfl (fun oq hop _ wq hQS => ?_) ?_
           ·refine .more_eq (.bool true) (.more_eq (.int .i64 (l : Int)) (.more_eq (.int .i64 (j : Int)) ?_))
            exact .call hop (vs := [(.int .i64 (l : Int)), (.int .i64 (j : Int))]) (by kernel_rfl) (fun w => enter_markPart _ w) (by kernel_rfl) ((HM.out wq).mono fun e w9 h9 => ⟨_, h9.1, hQS.trans (h9.2.mono hQS.size), h9.2, rfl⟩)
           refine .cons (Is (.bool true)) _ rfl rfl (fun oq hop _ wq hQS => ?_) ?_
           ·refine .more_eq (.bool true) (.more_eq (.agg #[.int .i64 0, .int .i64 m]) (.more_eq (.agg #[.int .i64 0, .int .i64 m]) ?_))
            exact .bin hop (vx := (.agg #[.int .i64 0, .int .i64 m])) (vy := (.agg #[.int .i64 0, .int .i64 m])) (by kernel_rfl) (by kernel_rfl) (eql_part _ _ _ _ _) (by kernel_rfl) hQS (.refl _ _) rfl
           refine .cons (Is (.bool false)) _ rfl rfl (fun oq hop _ wq hQS => ?_) ?_
           ·refine .more_eq (.bool true) (.more_eq (.bool true) ?_)
            exact .not hop (b := true) (by kernel_rfl) (by kernel_rfl) hQS (.refl _ _) rfl
           refine .cons (Is (.bool false)) _ rfl rfl (fun oq hop _ wq hQS => ?_) ?_
           ·refine .more_eq (.bool false) (.more_eq (.bool true) (.more_eq (.bool false) ?_))
            exact .pick hop (b := true) (vx := (.bool false)) (vy := (.bool false)) (by kernel_rfl) (by kernel_rfl) (by kernel_rfl) (by kernel_rfl) hQS (.refl _ _) rfl
           refine .cons (Is (.bool false)) _ rfl rfl (fun oq hop _ wq hQS => ?_) ?_
           ·refine .more_eq (.bool false) (.more_eq (.bool false) ?_)
            exact .pick hop (b := false) (vx := (.bool true)) (vy := (.bool false)) (by kernel_rfl) (by kernel_rfl) (by kernel_rfl) (by kernel_rfl) hQS (.refl _ _) rfl
           exact .nil
          case hfin =>
           intro wf hFS
           iterate 34 refine .more fun _ _ => ?_
           refine .more fun x122 h122 => ?_
           refine .done ?_
           obtain rfl : x122 = (.bool false) := h122
           have hsf := hFS.size
           have HB2 : Hid (Below w3.heap.size w3 wf) := HB.out.trans (hFS.mono hbz)
           clear hS hFS f0 f1 e0 e1
           simp only [Act.put, List.setIfInBounds_toArray, List.set_cons_zero, List.set_cons_succ]
           go_wp2
           go_roundw
           case rel => exact ⟨j + 1, by omega, by go_num, HB2.out⟩
           case measure => simp [intOf]; omega
         ·have ij2 : (n : Int) ≤ (j : Int) := by omega
          clear hm8
          go_upto_region 24 with (fail)
          refine wp_region_tab (fun w' => Below wr.heap.size wr w') BR [(Is (.slice (some ⟨gb, 0, none⟩) K K)), (Is (.int .i64 (l : Int))), (Is (.pointer (some ⟨gb, l, none⟩))), (Is (.slice (some ⟨g', 0, none⟩) (n + 64) c')), (Is (.int .i64 (j : Int))), (Is (.pointer (some ⟨g', 0 + j * 2, none⟩))), (Is (.agg #[.int .i64 0, .int .i64 m])), (Is (.int .i64 (l : Int))), (Is (.int .i64 (j : Int))), (Is (.agg #[.int .i64 0, .int .i64 m])), (Is (.bool true)), (Is (.bool false)), (Is (.bool false)), (Is (.int .i64 (j : Int))), (Is (.slice (some ⟨G, 0, none⟩) K cG)), (Is (.int .i64 (l : Int))), (Is (.pointer (some ⟨G, l, none⟩))), (Is (.slice A n c)), (Is (.int .i64 (n : Int))), (Is (.bool false)), (Is (.bool false)), (Is undef), (Is undef), (Is undef), (Is undef), (Is undef), (Is undef), (Is undef), (Is undef), (Is undef), (Is undef), (Is undef), (Is undef), (Is (.bool false)), (Is (.bool false))] [⟨some 88, .move (.tmp 5), none, []⟩, ⟨some 89, .move (.tmp 9), none, []⟩, ⟨some 90, .indexAddr 76 (.tmp 88) (.tmp 89), none, [(88, 0), (89, 1)]⟩, ⟨some 91, .load 45 (.tmp 90), none, [(90, 2)]⟩, ⟨some 92, .move (.tmp 10), none, []⟩, ⟨some 93, .indexAddr 45 (.tmp 91) (.tmp 92), none, [(91, 3), (92, 4)]⟩, ⟨some 94, .load 95 (.tmp 93), none, [(93, 5)]⟩, ⟨some 95, .move (.tmp 9), none, []⟩, ⟨some 96, .move (.tmp 10), none, []⟩, ⟨some 97, .call { callee := .value (.func 79), args := #[.tmp 95, .tmp 96], argTypes := #[3, 3] }, none, [(95, 7), (96, 8)]⟩, ⟨some 98, .binOp .eql 95 (.tmp 94) (.tmp 97) 95, none, [(94, 6), (97, 9)]⟩, ⟨some 99, .unOp .not 4 (.tmp 98), none, [(98, 10)]⟩, ⟨some 100, .move (.tmp 99), none, [(99, 11)]⟩, ⟨some 101, .move (.tmp 10), some (some 100, false), [(100, 12)]⟩, ⟨some 102, .move (.tmp 0), some (some 100, false), [(100, 12)]⟩, ⟨some 103, .move (.tmp 9), some (some 100, false), [(100, 12)]⟩, ⟨some 104, .indexAddr 76 (.tmp 102) (.tmp 103), some (some 100, false), [(100, 12), (102, 14), (103, 15)]⟩, ⟨some 105, .load 45 (.tmp 104), some (some 100, false), [(100, 12), (104, 16)]⟩, ⟨some 106, .call { callee := .builtin .len, args := #[.tmp 105], argTypes := #[45] }, some (some 100, false), [(100, 12), (105, 17)]⟩, ⟨some 107, .binOp .lss 3 (.tmp 101) (.tmp 106) 3, some (some 100, false), [(100, 12), (101, 13), (106, 18)]⟩, ⟨some 108, .move (.tmp 107), some (some 100, false), [(100, 12), (107, 19)]⟩, ⟨some 109, .move (.tmp 0), some (some 108, true), [(108, 20)]⟩, ⟨some 110, .move (.tmp 9), some (some 108, true), [(108, 20)]⟩, ⟨some 111, .indexAddr 76 (.tmp 109) (.tmp 110), some (some 108, true), [(108, 20), (109, 21), (110, 22)]⟩, ⟨some 112, .load 45 (.tmp 111), some (some 108, true), [(108, 20), (111, 23)]⟩, ⟨some 113, .move (.tmp 10), some (some 108, true), [(108, 20)]⟩, ⟨some 114, .indexAddr 45 (.tmp 112) (.tmp 113), some (some 108, true), [(108, 20), (112, 24), (113, 25)]⟩, ⟨some 115, .load 95 (.tmp 114), some (some 108, true), [(108, 20), (114, 26)]⟩, ⟨some 116, .move (.tmp 9), some (some 108, true), [(108, 20)]⟩, ⟨some 117, .move (.tmp 10), some (some 108, true), [(108, 20)]⟩, ⟨some 118, .call { callee := .value (.func 79), args := #[.tmp 116, .tmp 117], argTypes := #[3, 3] }, some (some 108, true), [(108, 20), (116, 28), (117, 29)]⟩, ⟨some 119, .binOp .eql 95 (.tmp 115) (.tmp 118) 95, some (some 108, true), [(108, 20), (115, 27), (118, 30)]⟩, ⟨some 120, .unOp .not 4 (.tmp 119), some (some 108, true), [(108, 20), (119, 31)]⟩, ⟨some 121, .pick (.tmp 108) (.tmp 120) (.const (Value.bool false)), some (some 100, false), [(100, 12), (108, 20), (120, 32)]⟩, ⟨some 122, .pick (.tmp 100) (.const (Value.bool true)) (.tmp 121), none, [(100, 12), (121, 33)]⟩] [some 88, some 89, some 90, some 91, some 92, some 93, some 94, some 95, some 96, some 97, some 98, some 99, some 100, some 101, some 102, some 103, some 104, some 105, some 106, some 107, some 108, some 109, some 110, some 111, some 112, some 113, some 114, some 115, some 116, some 117, some 118, some 119, some 120, some 121, some 122] (by kernel_rfl) (by kernel_rfl) (by kernel_rfl) (by kernel_rfl) (by kernel_rfl) ?hS ?hmono ?hsteps ?hfin
          case hS => exact hS
          case hmono =>
           iterate 35 refine .cons (fun x w1 w2 _ _ _ hx => hx) ?_
           exact .nil
          case hsteps =>
           refine .cons (Is (.slice (some ⟨gb, 0, none⟩) K K)) [] rfl rfl (fun oq hop _ wq hQS => ?_) ?_
           ·exact .move hop (v := (.slice (some ⟨gb, 0, none⟩) K K)) (by kernel_rfl) (by kernel_rfl) hQS (.refl _ _) rfl
           refine .cons (Is (.int .i64 (l : Int))) [] rfl rfl (fun oq hop _ wq hQS => ?_) ?_
           ·exact .move hop (v := (.int .i64 (l : Int))) (by kernel_rfl) (by kernel_rfl) hQS (.refl _ _) rfl
           refine .cons (Is (.pointer (some ⟨gb, l, none⟩))) _ rfl rfl (fun oq hop _ wq hQS => ?_) ?_
           ·refine .more_eq (.slice (some ⟨gb, 0, none⟩) K K) (.more_eq (.int .i64 (l : Int)) ?_)
            exact .indexAddr hop (p := (.slice (some ⟨gb, 0, none⟩) K K)) (q := (.int .i64 (l : Int))) (by kernel_rfl) (by kernel_rfl) (row_addr q0 q1) (by kernel_rfl) hQS (.refl _ _) rfl
           refine .cons (Is (.slice (some ⟨g', 0, none⟩) (n + 64) c')) _ rfl rfl (fun oq hop _ wq hQS => ?_) ?_
           ·refine .more_eq (.pointer (some ⟨gb, l, none⟩)) ?_
            exact .load hop (p := (.pointer (some ⟨gb, l, none⟩))) (by kernel_rfl) (load_lv_at ((hQS.cell (p := ⟨gb, l, none⟩) hbr).trans e0)) (by kernel_rfl) hQS (.refl _ _) rfl
           refine .cons (Is (.int .i64 (j : Int))) [] rfl rfl (fun oq hop _ wq hQS => ?_) ?_
           ·exact .move hop (v := (.int .i64 (j : Int))) (by kernel_rfl) (by kernel_rfl) hQS (.refl _ _) rfl
           refine .cons (Is (.pointer (some ⟨g', 0 + j * 2, none⟩))) _ rfl rfl (fun oq hop _ wq hQS => ?_) ?_
           ·refine .more_eq (.slice (some ⟨g', 0, none⟩) (n + 64) c') (.more_eq (.int .i64 (j : Int)) ?_)
            exact .indexAddr hop (p := (.slice (some ⟨g', 0, none⟩) (n + 64) c')) (q := (.int .i64 (j : Int))) (by kernel_rfl) (by kernel_rfl) (part_addr ij0 ij1) (by kernel_rfl) hQS (.refl _ _) rfl
           refine .cons (Is (.agg #[.int .i64 0, .int .i64 m])) _ rfl rfl (fun oq hop _ wq hQS => ?_) ?_
           ·refine .more_eq (.pointer (some ⟨g', 0 + j * 2, none⟩)) ?_
            exact .load hop (p := (.pointer (some ⟨g', 0 + j * 2, none⟩))) (by kernel_rfl) (load_part ((hQS.cell (p := ⟨g', 0 + j * 2, none⟩) hgr).trans f0) ((hQS.cell (p := ⟨g', 0 + j * 2 + 1, none⟩) hgr).trans f1)) (by kernel_rfl) hQS (.refl _ _) rfl
           refine .cons (Is (.int .i64 (l : Int))) [] rfl rfl (fun oq hop _ wq hQS => ?_) ?_
           ·exact .move hop (v := (.int .i64 (l : Int))) (by kernel_rfl) (by kernel_rfl) hQS (.refl _ _) rfl
           refine .cons (Is (.int .i64 (j : Int))) [] rfl rfl (fun oq hop _ wq hQS => ?_) ?_
           ·exact .move hop (v := (.int .i64 (j : Int))) (by kernel_rfl) (by kernel_rfl) hQS (.refl _ _) rfl
           refine .cons (Is (.agg #[.int .i64 0, .int .i64 m])) _ rfl rfl (fun oq hop _ wq hQS => ?_) ?_
           ·refine .more_eq (.int .i64 (l : Int)) (.more_eq (.int .i64 (j : Int)) ?_)
            exact .call hop (vs := [(.int .i64 (l : Int)), (.int .i64 (j : Int))]) (by kernel_rfl) (fun w => enter_markPart _ w) (by kernel_rfl) ((HM.out wq).mono fun e w9 h9 => ⟨_, h9.1, hQS.trans (h9.2.mono hQS.size), h9.2, rfl⟩)
           refine .cons (Is (.bool true)) _ rfl rfl (fun oq hop _ wq hQS => ?_) ?_
           ·refine .more_eq (.agg #[.int .i64 0, .int .i64 m]) (.more_eq (.agg #[.int .i64 0, .int .i64 m]) ?_)
            exact .bin hop (vx := (.agg #[.int .i64 0, .int .i64 m])) (vy := (.agg #[.int .i64 0, .int .i64 m])) (by kernel_rfl) (by kernel_rfl) (eql_part _ _ _ _ _) (by kernel_rfl) hQS (.refl _ _) rfl
           refine .cons (Is (.bool false)) _ rfl rfl (fun oq hop _ wq hQS => ?_) ?_
           ·refine .more_eq (.bool true) ?_
            exact .not hop (b := true) (by kernel_rfl) (by kernel_rfl) hQS (.refl _ _) rfl
           refine .cons (Is (.bool false)) _ rfl rfl (fun oq hop _ wq hQS => ?_) ?_
           ·refine .more_eq (.bool false) ?_
            exact .move hop (v := (.bool false)) (by kernel_rfl) (by kernel_rfl) hQS (.refl _ _) rfl
           refine .cons (Is (.int .i64 (j : Int))) _ rfl rfl (fun oq hop _ wq hQS => ?_) ?_
           ·refine .more_eq (.bool false) ?_
            exact .move hop (v := (.int .i64 (j : Int))) (by kernel_rfl) (by kernel_rfl) hQS (.refl _ _) rfl
           refine .cons (Is (.slice (some ⟨G, 0, none⟩) K cG)) _ rfl rfl (fun oq hop _ wq hQS => ?_) ?_
           ·refine .more_eq (.bool false) ?_
            exact .move hop (v := (.slice (some ⟨G, 0, none⟩) K cG)) (by kernel_rfl) (by kernel_rfl) hQS (.refl _ _) rfl
           refine .cons (Is (.int .i64 (l : Int))) _ rfl rfl (fun oq hop _ wq hQS => ?_) ?_
           ·refine .more_eq (.bool false) ?_
            exact .move hop (v := (.int .i64 (l : Int))) (by kernel_rfl) (by kernel_rfl) hQS (.refl _ _) rfl
           refine .cons (Is (.pointer (some ⟨G, l, none⟩))) _ rfl rfl (fun oq hop _ wq hQS => ?_) ?_
           ·refine .more_eq (.bool false) (.more_eq (.slice (some ⟨G, 0, none⟩) K cG) (.more_eq (.int .i64 (l : Int)) ?_))
            exact .indexAddr hop (p := (.slice (some ⟨G, 0, none⟩) K cG)) (q := (.int .i64 (l : Int))) (by kernel_rfl) (by kernel_rfl) (row_addr q0 q1) (by kernel_rfl) hQS (.refl _ _) rfl
           refine .cons (Is (.slice A n c)) _ rfl rfl (fun oq hop _ wq hQS => ?_) ?_
           ·refine .more_eq (.bool false) (.more_eq (.pointer (some ⟨G, l, none⟩)) ?_)
            exact .load hop (p := (.pointer (some ⟨G, l, none⟩))) (by kernel_rfl) (load_lv_at ((hQS.cell (p := ⟨G, l, none⟩) hGr).trans e1)) (by kernel_rfl) hQS (.refl _ _) rfl
           refine .cons (Is (.int .i64 (n : Int))) _ rfl rfl (fun oq hop _ wq hQS => ?_) ?_
           ·refine .more_eq (.bool false) (.more_eq (.slice A n c) ?_)
            exact .lenP hop (show _ = (.slice A n c : Value) by kernel_rfl) (by kernel_rfl) hQS (.refl _ _) rfl
           refine .cons (Is (.bool false)) _ rfl rfl (fun oq hop _ wq hQS => ?_) ?_
           ·refine .more_eq (.bool false) (.more_eq (.int .i64 (j : Int)) (.more_eq (.int .i64 (n : Int)) ?_))
            exact .bin hop (vx := (.int .i64 (j : Int))) (vy := (.int .i64 (n : Int))) (by kernel_rfl) (by kernel_rfl) (lss_no _ _ _ _ _ ij2) (by kernel_rfl) hQS (.refl _ _) rfl
           refine .cons (Is (.bool false)) _ rfl rfl (fun oq hop _ wq hQS => ?_) ?_
           ·refine .more_eq (.bool false) (.more_eq (.bool false) ?_)
            exact .move hop (v := (.bool false)) (by kernel_rfl) (by kernel_rfl) hQS (.refl _ _) rfl
           refine .cons (Is undef) _ rfl rfl (fun oq hop _ wq hQS => ?_) ?_
           ·refine .more_eq (.bool false) ?_
            exact .off (by kernel_rfl) hQS (.refl _ _) rfl
           refine .cons (Is undef) _ rfl rfl (fun oq hop _ wq hQS => ?_) ?_
           ·refine .more_eq (.bool false) ?_
            exact .off (by kernel_rfl) hQS (.refl _ _) rfl
           refine .cons (Is undef) _ rfl rfl (fun oq hop _ wq hQS => ?_) ?_
           ·refine .more_eq (.bool false) (.more_eq (undef) (.more_eq (undef) ?_))
            exact .off (by kernel_rfl) hQS (.refl _ _) rfl
           refine .cons (Is undef) _ rfl rfl (fun oq hop _ wq hQS => ?_) ?_
           ·refine .more_eq (.bool false) (.more_eq (undef) ?_)
            exact .off (by kernel_rfl) hQS (.refl _ _) rfl
           refine .cons (Is undef) _ rfl rfl (fun oq hop _ wq hQS => ?_) ?_
           ·refine .more_eq (.bool false) ?_
            exact .off (by kernel_rfl) hQS (.refl _ _) rfl
           refine .cons (Is undef) _ rfl rfl (fun oq hop _ wq hQS => ?_) ?_
           ·refine .more_eq (.bool false) (.more_eq (undef) (.more_eq (undef) ?_))
            exact .off (by kernel_rfl) hQS (.refl _ _) rfl
           refine .cons (Is undef) _ rfl rfl (fun oq hop _ wq hQS => ?_) ?_
           ·refine .more_eq (.bool false) (.more_eq (undef) ?_)
            exact .off (by kernel_rfl) hQS (.refl _ _) rfl
           refine .cons (Is undef) _ rfl rfl (fun oq hop _ wq hQS => ?_) ?_
           ·refine .more_eq (.bool false) ?_
            exact .off (by kernel_rfl) hQS (.refl _ _) rfl
           refine .cons (Is undef) _ rfl rfl (fun oq hop _ wq hQS => ?_) ?_
           ·refine .more_eq (.bool false) ?_
            exact .off (by kernel_rfl) hQS (.refl _ _) rfl
           refine .cons (Is undef) _ rfl rfl (fun oq hop _ wq hQS => ?_) ?_
           ·refine .more_eq (.bool false) (.more_eq (undef) (.more_eq (undef) ?_))
            exact .off (by kernel_rfl) hQS (.refl _ _) rfl
           refine .cons (Is undef) _ rfl rfl (fun oq hop _ wq hQS => ?_) ?_
           ·refine .more_eq (.bool false) (.more_eq (undef) (.more_eq (undef) ?_))
            exact .off (by kernel_rfl) hQS (.refl _ _) rfl
           refine .cons (Is undef) _ rfl rfl (fun oq hop _ wq hQS => ?_) ?_
           ·refine .more_eq (.bool false) (.more_eq (undef) ?_)
            exact .off (by kernel_rfl) hQS (.refl _ _) rfl
           refine .cons (Is (.bool false)) _ rfl rfl (fun oq hop _ wq hQS => ?_) ?_
           ·refine .more_eq (.bool false) (.more_eq (.bool false) (.more_eq (undef) ?_))
            exact .pick hop (b := false) (vx := undef) (vy := (.bool false)) (by kernel_rfl) (by kernel_rfl) (by kernel_rfl) (by kernel_rfl) hQS (.refl _ _) rfl
           refine .cons (Is (.bool false)) _ rfl rfl (fun oq hop _ wq hQS => ?_) ?_
           ·refine .more_eq (.bool false) (.more_eq (.bool false) ?_)
            exact .pick hop (b := false) (vx := (.bool true)) (vy := (.bool false)) (by kernel_rfl) (by kernel_rfl) (by kernel_rfl) (by kernel_rfl) hQS (.refl _ _) rfl
           exact .nil
          case hfin =>
           intro wf hFS
           iterate 34 refine .more fun _ _ => ?_
           refine .more fun x122 h122 => ?_
           refine .done ?_
           obtain rfl : x122 = (.bool false) := h122
           have hsf := hFS.size
           have HB2 : Hid (Below w3.heap.size w3 wf) := HB.out.trans (hFS.mono hbz)
           clear hS hFS f0 f1 e0 e1
           simp only [Act.put, List.setIfInBounds_toArray, List.set_cons_zero, List.set_cons_succ]
           go_wp2
           go_roundw
           case rel => exact ⟨j + 1, by omega, by go_num, HB2.out⟩
           case measure => simp [intOf]; omega
        ·go_wp2
         go_roundw
         case rel => exact ⟨l + 1, by omega, by go_num, HB.out⟩
         case measure => simp [intOf]; omega
      ·have HT4 : Hid (Two w wa L K B 95 2 45 gb (xf L) 0 (mf L) (zf L K) Gs) := (HT3.out.below hb).again
       clear HT3 hb hw3 hgb3
       go_wp2
       go_loopw [11] (fun i wr => ∃ (k : Nat) (Gs : List Value), k ≤ K ∧ i = .int .i64 (k : Int) ∧ Two w wr L K B 95 2 45 gb (xf L) k (mf L) (zf L K) Gs) (fun i _ => K - (intOf i).toNat)
       case atStart => exact ⟨0, Gs, by omega, rfl, HT4.out⟩
       clear HT4
       case round =>
        obtain ⟨k, Gs, hk, rfl, htwo⟩ := hrel
        obtain ⟨wa, rfl⟩ : ∃ x, x = wr := ⟨_, rfl⟩
        by_cases hlt : k < K
        ·obtain ⟨⟨A, n, c⟩, hp⟩ : ∃ p, L[k]? = some p := ⟨L[k]'(by rw [HK.out]; exact hlt), List.getElem?_eq_getElem _⟩
         have hn9 : n ≤ 1000000 := HN.out _ (List.mem_of_getElem? hp)
         have hwz := htwo.sea.size
         have HTWO := Lib.hid htwo
         have HP := Lib.hid hp
         have q0 : (0 : Int) ≤ (k : Int) := by omega
         have q1 : (k : Int) < (K : Int) := by omega
         have q2 : IntKind.i64.wrap ((k : Int) + (K : Int)) = (k : Int) + (K : Int) := IntWalk.i64_in _ (by omega)
         clear htwo hp
         go_wp2_with (at_make; refine wpList_make_full _ rfl _ _ 45 rfl wa.heap.size 95 i0 (.agg #[.int .i64 0, .int .i64 0]) 2 Tryz.underlying45 hi hz0 hz1 .i64 .i64 _ _ 64 rfl rfl rfl rfl ?b1 ?b2 ?b3 ?_)
         case b1 => rw [hz2]; omega
         case b2 => unfold maxLen; omega
         case b3 => exact Nat.le_refl _
         intro w1 ho1 hg1
         obtain ⟨mb, hmb⟩ : ∃ x, wa.heap.size = x := ⟨_, rfl⟩
         have HB1 : Hid (Below mb wa w1) := by rw [← hmb]; exact grown_below hg1
         rw [hmb] at ho1 ⊢
         obtain ⟨Z0, ho2⟩ : ∃ Z, w1.ownsRow mb 95 2 (.slice (some ⟨mb, 0, none⟩) 64 64) 64 Z := ⟨_, ho1⟩
         have HZ0 := Lib.hid ho2
         have HMB := Lib.hid hmb
         clear ho1 ho2 hg1 hmb
         go_wp2
         go_loopw [13] (fun i wq => ∃ (j : Nat) (Z : List Value), j ≤ 64 ∧ i = .int .i64 (j : Int) ∧ Below mb wa wq ∧ wq.ownsRow mb 95 2 (.slice (some ⟨mb, 0, none⟩) 64 64) 64 Z ∧ Z.take (j * 2) = mc (k + K) j) (fun i _ => 64 - (intOf i).toNat)
         case atStart => exact ⟨0, Z0, by omega, rfl, HB1.out, HZ0.out, by simp [mc, marks, cells]⟩
         clear HB1 HZ0
         case round =>
          obtain ⟨j, Z, hj, rfl, hb, hrow, hZ⟩ := hrel
          have hbz := hb.size
          by_cases hjn : j < 64
          ·obtain ⟨m, hm8⟩ : ∃ m, 1000003 * (((k : Int) + (K : Int)) + 7) + (j : Int) = m := ⟨_, rfl⟩
           have HM : Hid (Calls Tryz.prog 79 #[.int .i64 ((k : Int) + (K : Int)), .int .i64 (j : Int)] wr (PartPost wr 0 m)) := by
            have := markPart_any ((k : Int) + (K : Int)) (j : Int) wr (by omega) (by omega)
            rwa [hm8] at this
           have HM8 := Lib.hid hm8
           have HB := Lib.hid hb
           have HROW := Lib.hid hrow
           have HZ := Lib.hid hZ
           clear hm8 hb hrow hZ
           go_wp2_with (fail)
           refine HM.out.mono ?_
           rintro e w4 ⟨rfl, hb4⟩
           have hrow := own_below HROW.out hb4
           obtain ⟨u1, d1⟩ := own_free hrow (i := j * 2) (by omega)
           obtain ⟨u2, d2⟩ := own_free hrow (i := j * 2 + 1) (by omega)
           have z1 := hrow.frozenAt (j * 2)
           have z2 := hrow.frozenAt (j * 2 + 1)
           obtain ⟨st1, sg1⟩ := hrow.stored (j * 2) (.int .i64 0)
           obtain ⟨st2, sg2⟩ := st1.stored (j * 2 + 1) (.int .i64 m)
           have HRW2 := Lib.hid st2
           have HBB : Hid (Below mb wa ((w4.setCell ⟨mb, j * 2, none⟩ (.int .i64 0)).setCell ⟨mb, j * 2 + 1, none⟩ (.int .i64 m))) := ((HB.out.trans (hb4.mono (by have := HMB.out; omega))).setCell (Nat.le_refl _) _).setCell (Nat.le_refl _) _
           have HZ2 : Hid (((Z.set (j * 2) (.int .i64 0)).set (j * 2 + 1) (.int .i64 m)).take ((j + 1) * 2) = mc (k + K) (j + 1)) := by
            have e := mc_next (k + K) j
            rw [Int.natCast_add, HM8.out] at e
            rw [e]
            exact take_set2 HZ.out (by have := hrow.1; omega)
           clear hrow st1 st2 sg1 sg2 hb4 HROW HB HZ
           go_wp2
           go_roundw
           case rel => exact ⟨j + 1, _, by omega, by go_num, HBB.out, HRW2.out, HZ2.out⟩
           case measure => simp [intOf]; omega
          ·have e64 : j = 64 := by omega
           rw [e64] at hZ
           clear e64
           have hZ2 : Z = mc (k + K) 64 := by
            have := hrow.1
            rwa [List.take_of_length_le (by omega)] at hZ
           rw [hZ2] at hrow
           have htw := HTWO.out.below (by rw [HMB.out]; exact hb)
           have cg : wr.cell? ⟨G, k, none⟩ = some (.slice A n c) := (htw.sea.cell hG HGN.out).trans (HLS.out k _ HP.out)
           have hown : wr.ownsRow B 95 2 (.slice A n c) n (mc k n) := by rw [← xf_eq HP.out]; exact htw.fleet.own k _ HP.out
           have HST := Lib.hid (Gr.start hown)
           have HSRC : Hid (∀ (j : Nat) (u : Value), (mc (k + K) 64)[j]? = some u → wr.cell? ((⟨mb, 0, none⟩ : Addr).add j) = some u) := hrow.cells rfl
           have HTW := Lib.hid htw
           have hwr := htw.sea.size
           clear hZ hZ2 hrow htw hown hb HTWO
           go_wp2_with (at_builtin; refine wpList_append_gr rfl _ _ 45 rfl HST.out i0 (.agg #[.int .i64 0, .int .i64 0]) 16 Tryz.underlying45 hi hz0 hz1 hz2 rfl (by decide) rfl ⟨mb, 0, none⟩ 64 64 (mc (k + K) 64) rfl (by rw [mc_length]) HSRC.out (cells_one _) (by omega) ?c1 ?c2 ?c3 ?_)
           case c1 => unfold maxLen; omega
           case c2 => omega
           case c3 => omega
           intro v w6 hg6 _
           obtain ⟨Av, nv, cv, rfl⟩ := own_slice hg6.own
           obtain ⟨hgs, htw2⟩ := HTW.out.step HP.out (by rw [xf_eq HP.out]; exact hg6) (by rw [mf_eq HP.out]) (by rw [zf_eq HP.out])
           obtain ⟨u1, d1⟩ := own_free hgs (i := k) (by omega)
           have z1 := hgs.frozenAt k
           have HTW2 := Lib.hid htw2
           clear hg6 hgs htw2 HTW HST
           go_wp2
           go_roundw
           case rel => exact ⟨k + 1, _, by omega, by go_num, HTW2.out⟩
           case measure => simp [intOf]; omega
        ·have ek : k = K := by omega
         rw [ek] at htwo
         clear ek
         obtain ⟨w3, rfl⟩ : ∃ x, x = wa := ⟨_, rfl⟩
         have hw3 := htwo.sea.size
         have hgb3 : gb < w3.heap.size := (htwo.gs.lt gb rfl).2
         have HT3 := Lib.hid htwo
         clear htwo
         go_wp2
         go_loopw [14] (fun i wq => ∃ l : Nat, l ≤ K ∧ i = .int .i64 (l : Int) ∧ Below w3.heap.size w3 wq) (fun i _ => K - (intOf i).toNat)
         case atStart => exact ⟨0, by omega, rfl, Below.refl _ _⟩
         case round =>
          obtain ⟨l, hl, rfl, hb⟩ := hrel
          obtain ⟨wa, rfl⟩ : ∃ x, x = wr := ⟨_, rfl⟩
          by_cases hlt2 : l < K
          ·obtain ⟨⟨A, n, c⟩, hp⟩ : ∃ p, L[l]? = some p := ⟨L[l]'(by rw [HK.out]; exact hlt2), List.getElem?_eq_getElem _⟩
           obtain ⟨v, hv, hown, ⟨A', c', rfl⟩, _⟩ := HT3.out.got l _ hlt2 hp
           rw [mf_eq hp] at hown hv
           rw [zf_eq hp] at hown
           obtain ⟨g', cap', e, _, hg'⟩ := hown.form (by omega)
           injection e with e1 e2 e3
           subst e1 e3
           have hn9 : n ≤ 1000000 := HN.out _ (List.mem_of_getElem? hp)
           have hrow : w3.ownsRow B 95 2 (.slice A n c) n (mc l n) := by rw [← xf_eq hp]; exact HT3.out.fleet.own l _ hp
           have d0 : w3.cell? ⟨gb, l, none⟩ = some (.slice (some ⟨g', 0, none⟩) (n + 64) c') := by rw [HT3.out.gs.cellAt l (by omega)]; exact hv
           have d1 : w3.cell? ⟨G, l, none⟩ = some (.slice A n c) := (HT3.out.sea.cell hG HGN.out).trans (HLS.out l _ hp)
           have e1 := (hb.cell (p := ⟨G, l, none⟩) (by show G < _; omega)).trans d1
           have HB := Lib.hid hb
           have D0 := Lib.hid d0
           have D1 := Lib.hid d1
           have HOWN := Lib.hid hown
           have HROW := Lib.hid hrow
           have q0 : (0 : Int) ≤ (l : Int) := by omega
           have q1 : (l : Int) < (K : Int) := by omega
           clear hb hown hrow hv hp d0 d1
           go_wp2
           go_loopw [15] (fun i wq => ∃ j : Nat, j ≤ n ∧ i = .int .i64 (j : Int) ∧ Below w3.heap.size w3 wq) (fun i _ => n - (intOf i).toNat)
           case atStart => exact ⟨0, by omega, rfl, HB.out⟩
           clear HB e1
           case round =>
            obtain ⟨j, hj, rfl, hb⟩ := hrel
            have hbz := hb.size
            have e1 := (hb.cell (p := ⟨G, l, none⟩) (by show G < _; omega)).trans D1.out
            have HB := Lib.hid hb
            by_cases hin : j < n
            ·obtain ⟨m, hm8⟩ : ∃ m, 1000003 * ((l : Int) + 7) + (j : Int) = m := ⟨_, rfl⟩
             have e0 := (hb.cell (p := ⟨gb, l, none⟩) hgb3).trans D0.out
             obtain ⟨f0, f1⟩ := own_read HOWN.out hin
             rw [hm8] at f1
             have hgw : g' < w3.heap.size := hg'
             replace f0 := (hb.cell (p := ⟨g', 0 + j * 2, none⟩) hgw).trans f0
             replace f1 := (hb.cell (p := ⟨g', 0 + j * 2 + 1, none⟩) hgw).trans f1
             have HM : Hid (∀ wq, Calls Tryz.prog 79 #[.int .i64 (l : Int), .int .i64 (j : Int)] wq (PartPost wq 0 m)) := fun wq => by
              have := markPart_any (l : Int) (j : Int) wq (by omega) (by omega)
              rwa [hm8] at this
             have hGr : G < wr.heap.size := by omega
             have hbr : gb < wr.heap.size := by omega
             have hgr : g' < wr.heap.size := by omega
             have ij0 : (0 : Int) ≤ (j : Int) := by omega
             have ij1 : (j : Int) < ((n + 64 : Nat) : Int) := by omega
             clear hb
             have hS : Below wr.heap.size wr wr.drew := (Below.refl _ _).drew
             have hrow := HROW.out
             obtain ⟨g, cap, e, _, hg⟩ := hrow.form (by omega)
             injection e with e2 e3 e4
             subst e2 e4
             obtain ⟨c0, c1⟩ := own_read0 hrow hin
             rw [hm8] at c1
             replace c0 := (HB.out.cell (p := ⟨g, 0 + j * 2, none⟩) hg).trans c0
             replace c1 := (HB.out.cell (p := ⟨g, 0 + j * 2 + 1, none⟩) hg).trans c1
             have hg4 : g < wr.heap.size := by omega
             have ij2 : (j : Int) < (n : Int) := by omega
             clear hrow hm8
             go_upto_region 41 with (fail)
             refine wp_region_tab (fun w' => Below wr.heap.size wr w') BR [(Is (.slice (some ⟨G, 0, none⟩) K cG)), (Is (.int .i64 (l : Int))), (Is (.pointer (some ⟨G, l, none⟩))), (Is (.slice (some ⟨g, 0, none⟩) n c)), (Is (.int .i64 (j : Int))), (Is (.pointer (some ⟨g, 0 + j * 2, none⟩))), (Is (.agg #[.int .i64 0, .int .i64 m])), (Is (.int .i64 (l : Int))), (Is (.int .i64 (j : Int))), (Is (.agg #[.int .i64 0, .int .i64 m])), (Is (.bool true)), (Is (.bool false)), (Is (.bool false)), (Is (.slice (some ⟨gb, 0, none⟩) K K)), (Is (.int .i64 (l : Int))), (Is (.pointer (some ⟨gb, l, none⟩))), (Is (.slice (some ⟨g', 0, none⟩) (n + 64) c')), (Is (.int .i64 (j : Int))), (Is (.pointer (some ⟨g', 0 + j * 2, none⟩))), (Is (.agg #[.int .i64 0, .int .i64 m])), (Is (.int .i64 (l : Int))), (Is (.int .i64 (j : Int))), (Is (.agg #[.int .i64 0, .int .i64 m])), (Is (.bool true)), (Is (.bool false)), (Is (.bool false))] [⟨some 167, .move (.tmp 0), none, []⟩, ⟨some 168, .move (.tmp 14), none, []⟩, ⟨some 169, .indexAddr 76 (.tmp 167) (.tmp 168), none, [(167, 0), (168, 1)]⟩, ⟨some 170, .load 45 (.tmp 169), none, [(169, 2)]⟩, ⟨some 171, .move (.tmp 15), none, []⟩, ⟨some 172, .indexAddr 45 (.tmp 170) (.tmp 171), none, [(170, 3), (171, 4)]⟩, ⟨some 173, .load 95 (.tmp 172), none, [(172, 5)]⟩, ⟨some 174, .move (.tmp 14), none, []⟩, ⟨some 175, .move (.tmp 15), none, []⟩, ⟨some 176, .call { callee := .value (.func 79), args := #[.tmp 174, .tmp 175], argTypes := #[3, 3] }, none, [(174, 7), (175, 8)]⟩, ⟨some 177, .binOp .eql 95 (.tmp 173) (.tmp 176) 95, none, [(173, 6), (176, 9)]⟩, ⟨some 178, .unOp .not 4 (.tmp 177), none, [(177, 10)]⟩, ⟨some 179, .move (.tmp 178), none, [(178, 11)]⟩, ⟨some 180, .move (.tmp 5), some (some 179, false), [(179, 12)]⟩, ⟨some 181, .move (.tmp 14), some (some 179, false), [(179, 12)]⟩, ⟨some 182, .indexAddr 76 (.tmp 180) (.tmp 181), some (some 179, false), [(179, 12), (180, 13), (181, 14)]⟩, ⟨some 183, .load 45 (.tmp 182), some (some 179, false), [(179, 12), (182, 15)]⟩, ⟨some 184, .move (.tmp 15), some (some 179, false), [(179, 12)]⟩, ⟨some 185, .indexAddr 45 (.tmp 183) (.tmp 184), some (some 179, false), [(179, 12), (183, 16), (184, 17)]⟩, ⟨some 186, .load 95 (.tmp 185), some (some 179, false), [(179, 12), (185, 18)]⟩, ⟨some 187, .move (.tmp 14), some (some 179, false), [(179, 12)]⟩, ⟨some 188, .move (.tmp 15), some (some 179, false), [(179, 12)]⟩, ⟨some 189, .call { callee := .value (.func 79), args := #[.tmp 187, .tmp 188], argTypes := #[3, 3] }, some (some 179, false), [(179, 12), (187, 20), (188, 21)]⟩, ⟨some 190, .binOp .eql 95 (.tmp 186) (.tmp 189) 95, some (some 179, false), [(179, 12), (186, 19), (189, 22)]⟩, ⟨some 191, .unOp .not 4 (.tmp 190), some (some 179, false), [(179, 12), (190, 23)]⟩, ⟨some 192, .pick (.tmp 179) (.const (Value.bool true)) (.tmp 191), none, [(179, 12), (191, 24)]⟩] [some 167, some 168, some 169, some 170, some 171, some 172, some 173, some 174, some 175, some 176, some 177, some 178, some 179, some 180, some 181, some 182, some 183, some 184, some 185, some 186, some 187, some 188, some 189, some 190, some 191, some 192] (by kernel_rfl) (by kernel_rfl) (by kernel_rfl) (by kernel_rfl) (by kernel_rfl) ?hS ?hmono ?hsteps ?hfin
             case hS => exact hS
             case hmono =>
              iterate 26 refine .cons (fun x w1 w2 _ _ _ hx => hx) ?_
              exact .nil
             case hsteps =>
              refine .cons (Is (.slice (some ⟨G, 0, none⟩) K cG)) [] rfl rfl (fun oq hop _ wq hQS => ?_) ?_
              ·exact .move hop (v := (.slice (some ⟨G, 0, none⟩) K cG)) (by kernel_rfl) (by kernel_rfl) hQS (.refl _ _) rfl
              refine .cons (Is (.int .i64 (l : Int))) [] rfl rfl (fun oq hop _ wq hQS => ?_) ?_
              ·exact .move hop (v := (.int .i64 (l : Int))) (by kernel_rfl) (by kernel_rfl) hQS (.refl _ _) rfl
              refine .cons (Is (.pointer (some ⟨G, l, none⟩))) _ rfl rfl (fun oq hop _ wq hQS => ?_) ?_
              ·refine .more_eq (.slice (some ⟨G, 0, none⟩) K cG) (.more_eq (.int .i64 (l : Int)) ?_)
               exact .indexAddr hop (p := (.slice (some ⟨G, 0, none⟩) K cG)) (q := (.int .i64 (l : Int))) (by kernel_rfl) (by kernel_rfl) (row_addr q0 q1) (by kernel_rfl) hQS (.refl _ _) rfl
              refine .cons (Is (.slice (some ⟨g, 0, none⟩) n c)) _ rfl rfl (fun oq hop _ wq hQS => ?_) ?_
              ·refine .more_eq (.pointer (some ⟨G, l, none⟩)) ?_
               exact .load hop (p := (.pointer (some ⟨G, l, none⟩))) (by kernel_rfl) (load_lv_at ((hQS.cell (p := ⟨G, l, none⟩) hGr).trans e1)) (by kernel_rfl) hQS (.refl _ _) rfl
              refine .cons (Is (.int .i64 (j : Int))) [] rfl rfl (fun oq hop _ wq hQS => ?_) ?_
              ·exact .move hop (v := (.int .i64 (j : Int))) (by kernel_rfl) (by kernel_rfl) hQS (.refl _ _) rfl
              refine .cons (Is (.pointer (some ⟨g, 0 + j * 2, none⟩))) _ rfl rfl (fun oq hop _ wq hQS => ?_) ?_
              ·refine .more_eq (.slice (some ⟨g, 0, none⟩) n c) (.more_eq (.int .i64 (j : Int)) ?_)
               exact .indexAddr hop (p := (.slice (some ⟨g, 0, none⟩) n c)) (q := (.int .i64 (j : Int))) (by kernel_rfl) (by kernel_rfl) (part_addr ij0 ij2) (by kernel_rfl) hQS (.refl _ _) rfl
              refine .cons (Is (.agg #[.int .i64 0, .int .i64 m])) _ rfl rfl (fun oq hop _ wq hQS => ?_) ?_
              ·refine .more_eq (.pointer (some ⟨g, 0 + j * 2, none⟩)) ?_
               exact .load hop (p := (.pointer (some ⟨g, 0 + j * 2, none⟩))) (by kernel_rfl) (load_part ((hQS.cell (p := ⟨g, 0 + j * 2, none⟩) hg4).trans c0) ((hQS.cell (p := ⟨g, 0 + j * 2 + 1, none⟩) hg4).trans c1)) (by kernel_rfl) hQS (.refl _ _) rfl
              refine .cons (Is (.int .i64 (l : Int))) [] rfl rfl (fun oq hop _ wq hQS => ?_) ?_
              ·exact .move hop (v := (.int .i64 (l : Int))) (by kernel_rfl) (by kernel_rfl) hQS (.refl _ _) rfl
              refine .cons (Is (.int .i64 (j : Int))) [] rfl rfl (fun oq hop _ wq hQS => ?_) ?_
              ·exact .move hop (v := (.int .i64 (j : Int))) (by kernel_rfl) (by kernel_rfl) hQS (.refl _ _) rfl
              refine .cons (Is (.agg #[.int .i64 0, .int .i64 m])) _ rfl rfl (fun oq hop _ wq hQS => ?_) ?_
              ·refine .more_eq (.int .i64 (l : Int)) (.more_eq (.int .i64 (j : Int)) ?_)
               exact .call hop (vs := [(.int .i64 (l : Int)), (.int .i64 (j : Int))]) (by kernel_rfl) (fun w => enter_markPart _ w) (by kernel_rfl) ((HM.out wq).mono fun e w9 h9 => ⟨_, h9.1, hQS.trans (h9.2.mono hQS.size), h9.2, rfl⟩)
              refine .cons (Is (.bool true)) _ rfl rfl (fun oq hop _ wq hQS => ?_) ?_
              ·refine .more_eq (.agg #[.int .i64 0, .int .i64 m]) (.more_eq (.agg #[.int .i64 0, .int .i64 m]) ?_)
               exact .bin hop (vx := (.agg #[.int .i64 0, .int .i64 m])) (vy := (.agg #[.int .i64 0, .int .i64 m])) (by kernel_rfl) (by kernel_rfl) (eql_part _ _ _ _ _) (by kernel_rfl) hQS (.refl _ _) rfl
              refine .cons (Is (.bool false)) _ rfl rfl (fun oq hop _ wq hQS => ?_) ?_
              ·refine .more_eq (.bool true) ?_
               exact .not hop (b := true) (by kernel_rfl) (by kernel_rfl) hQS (.refl _ _) rfl
              refine .cons (Is (.bool false)) _ rfl rfl (fun oq hop _ wq hQS => ?_) ?_
              ·refine .more_eq (.bool false) ?_
               exact .move hop (v := (.bool false)) (by kernel_rfl) (by kernel_rfl) hQS (.refl _ _) rfl
              refine .cons (Is (.slice (some ⟨gb, 0, none⟩) K K)) _ rfl rfl (fun oq hop _ wq hQS => ?_) ?_
              ·refine .more_eq (.bool false) ?_
               exact .move hop (v := (.slice (some ⟨gb, 0, none⟩) K K)) (by kernel_rfl) (by kernel_rfl) hQS (.refl _ _) rfl
              refine .cons (Is (.int .i64 (l : Int))) _ rfl rfl (fun oq hop _ wq hQS => ?_) ?_
              ·refine .more_eq (.bool false) ?_
               exact .move hop (v := (.int .i64 (l : Int))) (by kernel_rfl) (by kernel_rfl) hQS (.refl _ _) rfl
              refine .cons (Is (.pointer (some ⟨gb, l, none⟩))) _ rfl rfl (fun oq hop _ wq hQS => ?_) ?_
              ·refine .more_eq (.bool false) (.more_eq (.slice (some ⟨gb, 0, none⟩) K K) (.more_eq (.int .i64 (l : Int)) ?_))
               exact .indexAddr hop (p := (.slice (some ⟨gb, 0, none⟩) K K)) (q := (.int .i64 (l : Int))) (by kernel_rfl) (by kernel_rfl) (row_addr q0 q1) (by kernel_rfl) hQS (.refl _ _) rfl
              refine .cons (Is (.slice (some ⟨g', 0, none⟩) (n + 64) c')) _ rfl rfl (fun oq hop _ wq hQS => ?_) ?_
              ·refine .more_eq (.bool false) (.more_eq (.pointer (some ⟨gb, l, none⟩)) ?_)
               exact .load hop (p := (.pointer (some ⟨gb, l, none⟩))) (by kernel_rfl) (load_lv_at ((hQS.cell (p := ⟨gb, l, none⟩) hbr).trans e0)) (by kernel_rfl) hQS (.refl _ _) rfl
              refine .cons (Is (.int .i64 (j : Int))) _ rfl rfl (fun oq hop _ wq hQS => ?_) ?_
              ·refine .more_eq (.bool false) ?_
               exact .move hop (v := (.int .i64 (j : Int))) (by kernel_rfl) (by kernel_rfl) hQS (.refl _ _) rfl
              refine .cons (Is (.pointer (some ⟨g', 0 + j * 2, none⟩))) _ rfl rfl (fun oq hop _ wq hQS => ?_) ?_
              ·refine .more_eq (.bool false) (.more_eq (.slice (some ⟨g', 0, none⟩) (n + 64) c') (.more_eq (.int .i64 (j : Int)) ?_))
               exact .indexAddr hop (p := (.slice (some ⟨g', 0, none⟩) (n + 64) c')) (q := (.int .i64 (j : Int))) (by kernel_rfl) (by kernel_rfl) (part_addr ij0 ij1) (by kernel_rfl) hQS (.refl _ _) rfl
              refine .cons (Is (.agg #[.int .i64 0, .int .i64 m])) _ rfl rfl (fun oq hop _ wq hQS => ?_) ?_
              ·refine .more_eq (.bool false) (.more_eq (.pointer (some ⟨g', 0 + j * 2, none⟩)) ?_)
               exact .load hop (p := (.pointer (some ⟨g', 0 + j * 2, none⟩))) (by kernel_rfl) (load_part ((hQS.cell (p := ⟨g', 0 + j * 2, none⟩) hgr).trans f0) ((hQS.cell (p := ⟨g', 0 + j * 2 + 1, none⟩) hgr).trans f1)) (by kernel_rfl) hQS (.refl _ _) rfl
              refine .cons (Is (.int .i64 (l : Int))) _ rfl rfl (fun oq hop _ wq hQS => ?_) ?_
              ·refine .more_eq (.bool false) ?_
               exact .move hop (v := (.int .i64 (l : Int))) (by kernel_rfl) (by kernel_rfl) hQS (.refl _ _) rfl
              refine .cons (Is (.int .i64 (j : Int))) _ rfl rfl (fun oq hop _ wq hQS => ?_) ?_
              ·refine .more_eq (.bool false) ?_
               exact .move hop (v := (.int .i64 (j : Int))) (by kernel_rfl) (by kernel_rfl) hQS (.refl _ _) rfl
              refine .cons (Is (.agg #[.int .i64 0, .int .i64 m])) _ rfl rfl (fun oq hop _ wq hQS => ?_) ?_
              ·refine .more_eq (.bool false) (.more_eq (.int .i64 (l : Int)) (.more_eq (.int .i64 (j : Int)) ?_))
               exact .call hop (vs := [(.int .i64 (l : Int)), (.int .i64 (j : Int))]) (by kernel_rfl) (fun w => enter_markPart _ w) (by kernel_rfl) ((HM.out wq).mono fun e w9 h9 => ⟨_, h9.1, hQS.trans (h9.2.mono hQS.size), h9.2, rfl⟩)
              refine .cons (Is (.bool true)) _ rfl rfl (fun oq hop _ wq hQS => ?_) ?_
              ·refine .more_eq (.bool false) (.more_eq (.agg #[.int .i64 0, .int .i64 m]) (.more_eq (.agg #[.int .i64 0, .int .i64 m]) ?_))
               exact .bin hop (vx := (.agg #[.int .i64 0, .int .i64 m])) (vy := (.agg #[.int .i64 0, .int .i64 m])) (by kernel_rfl) (by kernel_rfl) (eql_part _ _ _ _ _) (by kernel_rfl) hQS (.refl _ _) rfl
              refine .cons (Is (.bool false)) _ rfl rfl (fun oq hop _ wq hQS => ?_) ?_
              ·refine .more_eq (.bool false) (.more_eq (.bool true) ?_)
               exact .not hop (b := true) (by kernel_rfl) (by kernel_rfl) hQS (.refl _ _) rfl
              refine .cons (Is (.bool false)) _ rfl rfl (fun oq hop _ wq hQS => ?_) ?_
              ·refine .more_eq (.bool false) (.more_eq (.bool false) ?_)
               exact .pick hop (b := false) (vx := (.bool true)) (vy := (.bool false)) (by kernel_rfl) (by kernel_rfl) (by kernel_rfl) (by kernel_rfl) hQS (.refl _ _) rfl
              exact .nil
             case hfin =>
              intro wf hFS
              iterate 25 refine .more fun _ _ => ?_
              refine .more fun x192 h192 => ?_
              refine .done ?_
              obtain rfl : x192 = (.bool false) := h192
              have hsf := hFS.size
              have HB2 : Hid (Below w3.heap.size w3 wf) := HB.out.trans (hFS.mono hbz)
              clear hS hFS f0 f1 e0 e1 c0 c1
              simp only [Act.put, List.setIfInBounds_toArray, List.set_cons_zero, List.set_cons_succ]
              go_wp2
              go_roundw
              case rel => exact ⟨j + 1, by omega, by go_num, HB2.out⟩
              case measure => simp [intOf]; omega
            ·go_wp2
             go_roundw
             case rel => exact ⟨l + 1, by omega, by go_num, HB.out⟩
             case measure => simp [intOf]; omega
          ·have HF9 : Hid (Sea w wa L) := HT3.out.sea.below hb
           clear HT3 hb hw3 hgb3
           go_wp2
           go_ret
           exact ⟨rfl, HF9.out⟩
end Go.Proofs.YtafgmndlbbjphaaGreatDoor
