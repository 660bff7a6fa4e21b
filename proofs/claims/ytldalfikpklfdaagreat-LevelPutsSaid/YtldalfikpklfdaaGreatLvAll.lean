/- The contracts of level's functions for ANY parts: by nfA, the normal form, or no parts where there is none. -/
import Derived.Test.YtldalfikpklfdaaGreatLvVals
namespace Go.Proofs.YtldalfikpklfdaaGreat
open Go.RowKit Go.Maps

set_option maxRecDepth 100000 in
set_option maxHeartbeats 1000000 in
theorem num_all (n : Int) (w : World) :
    Calls Tryz.prog 24 #[.int .i64 n] w (LvlPost w (nfA [(0, n)])) := by
  obtain ⟨x1, x2, x3⟩ := two_allocs w (.cells #[.slice none 0 0] 24) (.cells #[.int .i64 0, .int .i64 n] 47)
  have hb0 : Below w.heap.size w ((w.alloc (.cells #[.slice none 0 0] 24)).alloc (.cells #[.int .i64 0, .int .i64 n] 47)) := ((Below.refl _ _).alloc (Nat.le_refl _) _).alloc (by simp) _
  have hl : Lev ((w.alloc (.cells #[.slice none 0 0] 24)).alloc (.cells #[.int .i64 0, .int .i64 n] 47)) ((w.alloc (.cells #[.slice none 0 0] 24)).alloc (.cells #[.int .i64 0, .int .i64 n] 47)).heap.size (some ⟨w.heap.size + 1, 0, none⟩) [(0, n)] := fun _ =>
    ⟨_, _, rfl, by simp, fun i hi => by
      obtain rfl : i = 0 := by simpa using hi
      exact ⟨cell_of_row _ _ 0 _ _ (0, 0) x2, cell_of_row _ _ 1 _ _ (0, 0) x2⟩⟩
  have HG := Lib.hid (gather_any (some ⟨w.heap.size + 1, 0, none⟩) [(0, n)] 1 _ (by unfold Few; simp) hl (fun e => by cases e))
  have X1 := Lib.hid x1
  have HB := Lib.hid hb0
  clear x1 x2 x3 hb0 hl
  go_enter Tryz.func24, Tryz.ntmps24
  go_wp2_with (fail)
  refine HG.out.mono ?_
  rintro e w1 ⟨v, rfl, hrow, hb1⟩
  obtain ⟨A2, n2, m2, rfl⟩ := own_slice hrow
  have hr := (hb1.block w.heap.size (by simp; omega)).trans X1.out
  have f5 := cell_of_one hr
  have f6 := free_of_one hr
  have HF : Hid (LvlPost w (nfA [(0, n)]) (.returned (.agg #[.slice A2 n2 m2])) (w1.setCell ⟨w.heap.size, 0, none⟩ (.slice A2 n2 m2))) :=
    ⟨_, rfl, own_base (ownsRow_setCell_below hrow (by show w.heap.size < ((w.alloc _).alloc _).heap.size; simp; omega) _) (by simp; omega), (HB.out.trans (hb1.mono (by simp; omega))).setCell (Nat.le_refl _) _⟩
  clear hr hrow hb1
  go_wp2
  exact bodyPost_ret (v := .agg #[.slice A2 n2 m2]) (by simp [results, Tryz.results24, go_sem, f5]) rfl HF.out

set_option maxRecDepth 100000 in
set_option maxHeartbeats 1000000 in
theorem var_all (n : Int) (w : World) :
    Calls Tryz.prog 23 #[.int .i64 n] w (LvlPost w (nfA [(n, 0)])) := by
  obtain ⟨x1, x2, x3⟩ := two_allocs w (.cells #[.slice none 0 0] 24) (.cells #[.int .i64 n, .int .i64 0] 47)
  have hb0 : Below w.heap.size w ((w.alloc (.cells #[.slice none 0 0] 24)).alloc (.cells #[.int .i64 n, .int .i64 0] 47)) := ((Below.refl _ _).alloc (Nat.le_refl _) _).alloc (by simp) _
  have hl : Lev ((w.alloc (.cells #[.slice none 0 0] 24)).alloc (.cells #[.int .i64 n, .int .i64 0] 47)) ((w.alloc (.cells #[.slice none 0 0] 24)).alloc (.cells #[.int .i64 n, .int .i64 0] 47)).heap.size (some ⟨w.heap.size + 1, 0, none⟩) [(n, 0)] := fun _ =>
    ⟨_, _, rfl, by simp, fun i hi => by
      obtain rfl : i = 0 := by simpa using hi
      exact ⟨cell_of_row _ _ 0 _ _ (0, 0) x2, cell_of_row _ _ 1 _ _ (0, 0) x2⟩⟩
  have HG := Lib.hid (gather_any (some ⟨w.heap.size + 1, 0, none⟩) [(n, 0)] 1 _ (by unfold Few; simp) hl (fun e => by cases e))
  have X1 := Lib.hid x1
  have HB := Lib.hid hb0
  clear x1 x2 x3 hb0 hl
  go_enter Tryz.func23, Tryz.ntmps23
  go_wp2_with (fail)
  refine HG.out.mono ?_
  rintro e w1 ⟨v, rfl, hrow, hb1⟩
  obtain ⟨A2, n2, m2, rfl⟩ := own_slice hrow
  have hr := (hb1.block w.heap.size (by simp; omega)).trans X1.out
  have f5 := cell_of_one hr
  have f6 := free_of_one hr
  have HF : Hid (LvlPost w (nfA [(n, 0)]) (.returned (.agg #[.slice A2 n2 m2])) (w1.setCell ⟨w.heap.size, 0, none⟩ (.slice A2 n2 m2))) :=
    ⟨_, rfl, own_base (ownsRow_setCell_below hrow (by show w.heap.size < ((w.alloc _).alloc _).heap.size; simp; omega) _) (by simp; omega), (HB.out.trans (hb1.mono (by simp; omega))).setCell (Nat.le_refl _) _⟩
  clear hr hrow hb1
  go_wp2
  exact bodyPost_ret (v := .agg #[.slice A2 n2 m2]) (by simp [results, Tryz.results23, go_sem, f5]) rfl HF.out

set_option maxRecDepth 100000 in
set_option maxHeartbeats 2000000 in
theorem max_all (A : Option Addr) (ls : List (List (Int × Int))) (c : Nat) (w : World) (hm : ls.length ≤ maxLen) (hf : Few (flat ls).length) (h : Levs w w.heap.size A ls) :
    Calls Tryz.prog 15 #[.slice A ls.length c] w (LvlPost w (nfA (flat ls))) := by
  obtain ⟨i0, hi, hz0, hz1, hz2⟩ := info_parts infoP
  unfold maxLen at hm
  have HL := Lib.hid h
  have HF := Lib.hid hf
  have HB0 := Lib.hid ((Below.refl w.heap.size w).alloc (Nat.le_refl _) (.cells #[.slice none 0 0] 24))
  have X1 := Lib.hid (heap_alloc_new w (.cells #[.slice none 0 0] 24))
  clear h hf
  go_enter Tryz.func15, Tryz.ntmps15
  go_wp2
  go_loopw [3, 8] (fun lv i wr => ∃ (k : Nat), k ≤ ls.length ∧ i = .int .i64 k ∧ Below (w.heap.size + 1) (w.alloc (.cells #[.slice none 0 0] 24)) wr ∧ wr.ownsRow (w.heap.size + 1) 47 2 lv (flat (ls.take k)).length (cells (flat (ls.take k)))) (fun _ i _ => ls.length - (intOf i).toNat)
  case atStart => exact ⟨0, Nat.zero_le _, rfl, Below.refl _ _, ⟨rfl, Or.inl ⟨rfl, rfl⟩⟩⟩
  case round =>
    obtain ⟨k, hk, rfl, hb, hrow⟩ := hrel
    have hbz := hb.size
    simp at hbz
    have hB : Below w.heap.size w wr := HB0.out.trans (hb.mono (by omega))
    by_cases hlt : k < ls.length
    · obtain ⟨b, o, rfl, hbB, hcell⟩ := HL.out (by omega)
      obtain ⟨Ai, ci, q0, q1, q2, q3⟩ := hcell k hlt
      have c0 := (hB.cell hbB).trans q0
      have hlk : Hid (Few ((flat (ls.take k)).length + (ls.getD k []).length)) := by
        have := flat_le ls (k + 1)
        rw [flat_take hlt, List.length_append] at this
        have h2 := HF.out
        unfold Few at h2
        unfold Hid Few
        omega
      have HT := Lib.hid (flat_take hlt)
      obtain ⟨l, hl⟩ : ∃ l, l = ls.getD k [] := ⟨_, rfl⟩
      obtain ⟨acc, hacc⟩ : ∃ acc, acc = flat (ls.take k) := ⟨_, rfl⟩
      rw [← hl] at c0 q1 q3 hlk HT
      rw [← hacc] at hrow hlk HT
      have HB := Lib.hid hb
      have HR := Lib.hid hrow
      have hll : Lev (wr.alloc (.cells #[.slice Ai l.length ci] 24)) (wr.alloc (.cells #[.slice Ai l.length ci] 24)).heap.size Ai l := (q1.below (hB.alloc (by omega) _)).more (by simp; omega)
      have HLL := Lib.hid hll
      have Q2 := Lib.hid q2
      have ij0 : (0 : Int) ≤ (k : Int) := by omega
      have ij1 : (k : Int) < (ls.length : Int) := by omega
      have hbw : b < wr.heap.size := by omega
      have hwz : w.heap.size + 1 ≤ wr.heap.size := hbz
      have HN : Hid (∀ v w1, w1.ownsRow (w.heap.size + 1) 47 2 v (acc.length + l.length) (cells acc ++ cells l) → (wr.alloc (.cells #[.slice Ai l.length ci] 24)).grownBy w1 u3.ownBlock → Below (w.heap.size + 1) (w.alloc (.cells #[.slice none 0 0] 24)) w1 ∧ w1.ownsRow (w.heap.size + 1) 47 2 v (flat (ls.take (k + 1))).length (cells (flat (ls.take (k + 1))))) := fun v w1 ho hg => by
        refine ⟨(HB.out.alloc (by omega) _).grown hg (by simp; omega) (fun j e => (HR.out.lt j e).1), ?_⟩
        rw [HT.out, cells_append, List.length_append]
        exact ho
      clear hb hrow hB q0 q1 q2 hll hl hacc hcell
      rcases Ai with _ | a
      · obtain rfl := Q2.out rfl
        obtain rfl : l = [] := by
          rcases l with _ | ⟨p, l⟩
          · rfl
          · obtain ⟨b, o, e, _⟩ := HLL.out (by simp)
            cases e
        have HX : Hid (Below (w.heap.size + 1) (w.alloc (.cells #[.slice none 0 0] 24)) (wr.alloc (.cells #[.slice none 0 0] 24)) ∧ (wr.alloc (.cells #[.slice none 0 0] 24)).ownsRow (w.heap.size + 1) 47 2 u3 (flat (ls.take (k + 1))).length (cells (flat (ls.take (k + 1))))) := by
          refine ⟨HB.out.alloc (by omega) _, ?_⟩
          rw [HT.out, List.append_nil]
          exact HR.out.alloc _
        go_wp2_with (at_builtin; refine wpList_append_own_none rfl _ _ 22 rfl (w.heap.size + 1) 47 i0 2 Tryz.underlying22 hi u3 acc.length (cells acc) rfl (HR.out.alloc _) rfl ?_)
        go_wp2
        go_roundw
        case rel => exact ⟨k + 1, by omega, by go_num, HX.out.1, HX.out.2⟩
        case measure => simp [intOf]; omega
      · have hsrc : ∀ j u, (cells l)[j]? = some u → (wr.alloc (.cells #[.slice (some a) l.length ci] 24)).cell? (a.add j) = some u := by
          intro j u hu
          have hpos : 0 < l.length := by
            have := List.getElem?_eq_some_iff.1 hu
            obtain ⟨h1, _⟩ := this
            rw [cells_length] at h1
            omega
          obtain ⟨b', o', e, _, hc'⟩ := HLL.out hpos
          injection e with e
          subst e
          exact Lev.src hc' j u hu
        have HS := Lib.hid hsrc
        clear hsrc
        go_wp2_with (at_builtin; refine wpList_append_own _ rfl _ _ 22 rfl (w.heap.size + 1) 47 i0 (.agg #[.int .i64 0, .int .i64 0]) 2 16 Tryz.underlying22 hi hz0 hz1 hz2 rfl (by decide) u3 acc.length (cells acc) rfl (HR.out.alloc _) a l.length ci (cells l) rfl (cells_length l) HS.out (cells_one l) ?c1 ?c2 ?c3 ?_)
        case c1 => have := hlk.out; unfold Few at this; unfold maxLen; omega
        case c2 => have := hlk.out; unfold Few at this; omega
        case c3 => simp; omega
        intro v w1 ho hg _
        have HX := Lib.hid (HN.out v w1 ho hg)
        clear ho hg
        go_wp2
        go_roundw
        case rel => exact ⟨k + 1, by omega, by go_num, HX.out.1, HX.out.2⟩
        case measure => simp [intOf]; omega
    · obtain rfl : k = ls.length := by omega
      rw [List.take_length] at hrow
      obtain ⟨A1, n1, m1, rfl⟩ := own_slice hrow
      have hrow2 : wr.ownsRow (w.heap.size + 1) 47 2 (.slice A1 n1 m1) (flat ls).length (cells (flat ls)) := hrow
      obtain ⟨rfl, hl1, hc1⟩ := own_lev hrow2
      have HG := Lib.hid (gather_any A1 (flat ls) m1 wr HF.out hl1 hc1)
      have X2 : Hid (wr.heap[w.heap.size]? = some (.cells #[.slice none 0 0] 24 (0, 0))) := (hb.block _ (by omega)).trans X1.out
      have HBB := Lib.hid hB
      clear hrow hrow2 hl1 hc1 hb hB
      go_wp2_with (fail)
      refine HG.out.mono ?_
      rintro e w1 ⟨v, rfl, hrow, hb1⟩
      obtain ⟨A2, n2, m2, rfl⟩ := own_slice hrow
      have hr := (hb1.block w.heap.size (by omega)).trans X2.out
      have f5 := cell_of_one hr
      have f6 := free_of_one hr
      have HFIN : Hid (LvlPost w (nfA (flat ls)) (.returned (.agg #[.slice A2 n2 m2])) (w1.setCell ⟨w.heap.size, 0, none⟩ (.slice A2 n2 m2))) :=
        ⟨_, rfl, own_base (ownsRow_setCell_below hrow (by show w.heap.size < wr.heap.size; omega) _) (by omega), (HBB.out.trans (hb1.mono (by omega))).setCell (Nat.le_refl _) _⟩
      clear hr hrow hb1
      go_wp2
      exact bodyPost_ret (v := .agg #[.slice A2 n2 m2]) (by simp [results, Tryz.results15, go_sem, f5]) rfl HFIN.out

/-- Is each part of the one covered by one of the other's? -/
def LeqL (qa qb : List (Int × Int)) : Prop := ∀ p ∈ qa, ∃ q ∈ qb, Cov p q
set_option maxRecDepth 100000 in
set_option maxHeartbeats 2000000 in
theorem leq_all (A A' : Option Addr) (pa pb : List (Int × Int)) (c c' : Nat) (w : World) (hma : Few pa.length) (hmb : Few pb.length) (ha : Lev w w.heap.size A pa) (hb : Lev w w.heap.size A' pb) (hca : A = none → c = 0) (hcb : A' = none → c' = 0) (r : Bool) (hr : r = true ↔ LeqL (nfA pa) (nfA pb)) :
    Calls Tryz.prog 26 #[.agg #[.slice A pa.length c], .agg #[.slice A' pb.length c']] w (HasPost w r) := by
  have hmf : ∀ (fn : Go.Fn) (first cap : Array Value) (w : World), (Instr.makeFunc fn first cap).run Tryz.prog w = .ok (.func fn first cap) w := fun _ _ _ _ => rfl
  have hfd := field_parts
  obtain ⟨x1, x2, x3⟩ := two_allocs w (.cells #[.slice A pa.length c] 24) (.cells #[.slice A' pb.length c'] 24)
  have hb0 : Below w.heap.size w ((w.alloc (.cells #[.slice A pa.length c] 24)).alloc (.cells #[.slice A' pb.length c'] 24)) := ((Below.refl _ _).alloc (Nat.le_refl _) _).alloc (by simp) _
  have HG1 := Lib.hid (gather_any A' pb c' ((w.alloc (.cells #[.slice A pa.length c] 24)).alloc (.cells #[.slice A' pb.length c'] 24)) hmb ((hb.below hb0).more (by simp; omega)) hcb)
  have HG2 := Lib.hid (fun W (hW : Below w.heap.size w W) => gather_any A pa c W hma ((ha.below hW).more hW.size) hca)
  have X1 := Lib.hid x1
  have HB0 := Lib.hid hb0
  have hn1 := nfA_len pb
  have hn2 := nfA_len pa
  obtain ⟨q1, hq1⟩ : ∃ q1, nfA pb = q1 := ⟨_, rfl⟩
  obtain ⟨q2, hq2⟩ : ∃ q2, nfA pa = q2 := ⟨_, rfl⟩
  rw [hq1] at hn1 HG1 hr
  rw [hq2] at hn2 HG2 hr
  have HN1 := Lib.hid hn1
  have HN2 := Lib.hid hn2
  have HR := Lib.hid hr
  have HMA := Lib.hid hma
  have HMB := Lib.hid hmb
  clear x1 x2 x3 hb0 ha hb hca hcb hr hma hmb hn1 hn2 hq1 hq2
  go_enter Tryz.func26, Tryz.ntmps26
  go_wp2_with (fail)
  refine HG1.out.mono ?_
  rintro e w1 ⟨v1, rfl, hrow1, hb1⟩
  obtain ⟨A1, n1, m1, rfl⟩ := own_slice hrow1
  obtain ⟨rfl, hl1, hc1⟩ := own_lev hrow1
  have e1 : w1.heap[w.heap.size]? = some (.cells #[.slice A pa.length c] 24 (0, 0)) := (hb1.block _ (by simp; omega)).trans X1.out
  have e2 : Below w.heap.size w w1 := HB0.out.trans (hb1.mono (by simp; omega))
  have hz1 : w.heap.size + 2 ≤ w1.heap.size := by have := hb1.size; simp at this; omega
  have HGG := Lib.hid (HG2.out w1 e2)
  have E2 := Lib.hid e2
  have HL1 := Lib.hid hl1
  have f1 := cell_of_one e1
  clear e1 e2 hl1 hc1 hrow1 hb1
  go_wp2_with (fail)
  refine HGG.out.mono ?_
  rintro e w2 ⟨v2, rfl, hrow2, hb2⟩
  obtain ⟨A2, n2, m2, rfl⟩ := own_slice hrow2
  obtain ⟨rfl, hl2, hc2⟩ := own_lev hrow2
  have hz2 := hb2.size
  have E3 : Hid (Below w.heap.size w w2) := E2.out.trans (hb2.mono (by omega))
  have HL2 := Lib.hid hl2
  have HL1' : Hid (Lev w2 w1.heap.size A1 q1) := HL1.out.below hb2
  have hln1 : q1.length ≤ maxLen := by have := HN1.out; have := HMB.out; unfold Few at this; unfold maxLen; omega
  have hln2 : q2.length ≤ 9223372036854775807 := by have := HN2.out; have := HMA.out; unfold Few at this; omega
  have HLN1 := Lib.hid hln1
  clear hl2 hc2 hrow2 hb2 f1 hln1
  go_wp2
  go_loopw [18] (fun i wr => ∃ k : Nat, k ≤ q2.length ∧ i = .int .i64 k ∧ Below w2.heap.size w2 wr ∧ ∀ p ∈ q2.take k, ∃ q ∈ q1, Cov p q) (fun i _ => q2.length - (intOf i).toNat)
  case atStart => exact ⟨0, Nat.zero_le _, rfl, Below.refl _ _, fun q hq => by simp at hq⟩
  case round =>
    obtain ⟨k, hk, rfl, hb, hs⟩ := hrel
    have hbz := hb.size
    by_cases hlt : k < q2.length
    · obtain ⟨b, o, rfl, hbB, hcell⟩ := HL2.out (by omega)
      have c0 := (hb.cell hbB).trans (hcell k hlt).1
      have c1 := (hb.cell hbB).trans (hcell k hlt).2
      obtain ⟨x, hx⟩ : ∃ x, x = (q2.getD k (0, 0)).1 := ⟨_, rfl⟩
      obtain ⟨y, hy⟩ : ∃ y, y = (q2.getD k (0, 0)).2 := ⟨_, rfl⟩
      rw [← hx] at c0
      rw [← hy] at c1
      have hq : q2[k] = (x, y) := by rw [hx, hy, List.getD_eq_getElem?_getD, List.getElem?_eq_getElem hlt]; rfl
      have hbw : b < wr.heap.size := by omega
      have HS := Lib.hid hs
      have HQK := Lib.hid hq
      have HBB := Lib.hid hb
      have hnew := two_new wr (.int .i64 x) (.int .i64 y) 47
      have n0 : (wr.alloc (.cells #[.int .i64 x, .int .i64 y] 47)).cell? ⟨wr.heap.size, 0, none⟩ = some (.int .i64 x) := hnew 0 _ rfl
      have n1' : (wr.alloc (.cells #[.int .i64 x, .int .i64 y] 47)).cell? ⟨wr.heap.size, 1, none⟩ = some (.int .i64 y) := hnew 1 _ rfl
      have hlv : Lev (wr.alloc (.cells #[.int .i64 x, .int .i64 y] 47)) (wr.alloc (.cells #[.int .i64 x, .int .i64 y] 47)).heap.size A1 q1 := (HL1'.out.below ((hb.mono hz2).alloc (by omega) _)).more (by simp; omega)
      by_cases t : ∃ q ∈ q1, Cov (x, y) q
      · have HC := Lib.hid (contains_any wr.heap.size x y A1 q1 m1 _ HLN1.out hlv n0 n1' true (by simpa using t))
        have HT := Lib.hid t
        clear hs hq hx hy hcell hnew n0 n1' hlv t hb
        go_wp2_with (fail)
        refine HC.out.mono ?_
        rintro e w3 ⟨rfl, hb3⟩
        have HF : Hid (Below w2.heap.size w2 w3 ∧ ∀ p ∈ q2.take (k + 1), ∃ q ∈ q1, Cov p q) := ⟨(HBB.out.alloc hbz _).trans (hb3.mono (by simp; omega)), fun p hp => by
          rw [List.take_succ_eq_append_getElem hlt, List.mem_append] at hp
          rcases hp with hp | hp
          · exact HS.out p hp
          · simp at hp; rw [hp, HQK.out]; exact HT.out⟩
        clear hb3
        go_wp2
        go_roundw
        case rel => exact ⟨k + 1, by omega, by go_num, HF.out.1, HF.out.2⟩
        case measure => simp [intOf]; omega
      · have HC := Lib.hid (contains_any wr.heap.size x y A1 q1 m1 _ HLN1.out hlv n0 n1' false (by simpa using t))
        have HT := Lib.hid t
        clear hs hq hx hy hcell hnew n0 n1' hlv t hb
        go_wp2_with (fail)
        refine HC.out.mono ?_
        rintro e w3 ⟨rfl, hb3⟩
        have HF : Hid (HasPost w r (.returned (.bool false)) w3) := ⟨by
          have : r = false := by
            rcases r with _ | _
            · rfl
            · exact absurd (HR.out.1 rfl (x, y) (by rw [← HQK.out]; exact List.getElem_mem hlt)) HT.out
          rw [this], E3.out.trans (((HBB.out.alloc hbz _).trans (hb3.mono (by simp; omega))).mono E3.out.size)⟩
        clear hb3
        go_wp2
        go_ret
        exact HF.out
    · obtain rfl : k = q2.length := by omega
      have HF : Hid (HasPost w r (.returned (.bool true)) wr) := ⟨by
        have : r = true := HR.out.2 (fun p hp => hs p (by simpa using hp))
        rw [this], E3.out.trans (hb.mono E3.out.size)⟩
      clear hs hb
      go_wp2
      go_ret
      exact HF.out

end Go.Proofs.YtldalfikpklfdaaGreat
