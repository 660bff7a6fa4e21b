/- Laws. -/
import Derived.Test.YtfgnnbpbbnnnhaaDoorKqah
import Derived.RegionTactic
import Derived.ChangeAlike
namespace Go.Proofs.YtfgnnbpbbnnnhaaDoor
open Go.RowKit Go.Maps
def upD (d : Int) (p : Int × Int) : Int × Int := (p.1, p.2 + d)
def bumpD (d : Int) (k : Nat) (qs : List (Int × Int)) : List (Int × Int) := (qs.take k).map (upD d) ++ qs.drop k
theorem bumpD_length (d : Int) (k : Nat) (qs : List (Int × Int)) : (bumpD d k qs).length = qs.length := by
  unfold bumpD
  simp
  omega
theorem bumpD_get {d : Int} {k : Nat} {qs : List (Int × Int)} (hk : k < qs.length) : (bumpD d k qs).getD k (0, 0) = qs.getD k (0, 0) := by
  unfold bumpD
  rw [List.getD_eq_getElem?_getD, List.getElem?_append_right (by simp; omega)]
  simp [List.getD_eq_getElem?_getD, Nat.min_eq_left (Nat.le_of_lt hk)]
theorem bumpD_set {d : Int} {k : Nat} {qs : List (Int × Int)} (hk : k < qs.length) : (cells (bumpD d k qs)).set (k * 2 + 1) (.int .i64 ((qs.getD k (0, 0)).2 + d)) = cells (bumpD d (k + 1) qs) := by
  have hd : qs.drop k = qs[k] :: qs.drop (k + 1) := List.drop_eq_getElem_cons hk
  have hg : qs.getD k (0, 0) = qs[k] := by rw [List.getD_eq_getElem?_getD, List.getElem?_eq_getElem hk]; rfl
  unfold bumpD
  rw [hd, hg, List.take_succ_eq_append_getElem hk, List.map_append, cells_append, cells_append, cells_append]
  have hl : (cells ((qs.take k).map (upD d))).length = k * 2 := by rw [cells_length]; simp; omega
  rw [List.set_append_right _ _ (by omega), hl]
  rw [show k * 2 + 1 - k * 2 = 1 from by omega, List.append_assoc]
  rfl
theorem bumpD_all (d : Int) (qs : List (Int × Int)) : bumpD d qs.length qs = qs.map (upD d) := by simp [bumpD]
theorem nfA_ok (ps : List (Int × Int)) : ∀ p ∈ nfA ps, okPart p := fun p hp => by
  unfold nfA at hp
  split at hp
  · rename_i h
    exact h p (nf_mem (fun q hq => (h q hq).1) hp)
  · simp at hp
theorem nfA_len (ps : List (Int × Int)) : (nfA ps).length ≤ ps.length := by
  unfold nfA
  split
  · rename_i h
    exact nf_len (fun q hq => (h q hq).1)
  · simp
/-- What stands for a variable. -/
def forVar (bys : List (List (Int × Int))) (v : Int) : List (Int × Int) := if 0 < v ∧ v ≤ (bys.length : Int) then nfA (bys.getD (v - 1).toNat []) else []
/-- The parts that a part becomes. -/
def raiseS (bys : List (List (Int × Int))) (p : Int × Int) : List (Int × Int) := if forVar bys p.1 = [] then [(0, p.2)] else (forVar bys p.1).map (upD p.2)
theorem own_two (w : World) (x y : Int) : (w.alloc (.cells #[.int .i64 x, .int .i64 y] 91)).ownsRow w.heap.size 91 2 (.slice (some ⟨w.heap.size, 0, none⟩) 1 1) 1 (cells [(x, y)]) :=
  World.ownsRow_lit (base := w.heap.size) (e := 91) (size := 2) w #[.int .i64 x, .int .i64 y] 1 (Nat.le_refl _) (by unfold maxLen; omega) rfl
set_option maxRecDepth 100000 in
set_option maxHeartbeats 2000000 in
theorem raised_any (A : Option Addr) (bys : List (List (Int × Int))) (c : Nat) (x y : Int) (w : World) (hm : bys.length ≤ maxLen) (h9 : ∀ b ∈ bys, b.length ≤ 1048576) (h : Levs w w.heap.size A bys) (hp : okPart (x, y)) :
    Calls Tryd.prog 86 #[.agg #[.int .i64 x, .int .i64 y], .slice A bys.length c] w (RowPost w (raiseS bys (x, y))) := by
  have hfd := field_parts
  unfold maxLen at hm
  obtain ⟨k0, k1, k2, k3⟩ := hp
  simp only at k0 k1 k2 k3
  have HB0 := Lib.hid ((Below.refl w.heap.size w).alloc (Nat.le_refl _) (.cells #[.int .i64 x, .int .i64 y] 91))
  have X0 := Lib.hid (heap_alloc_new w (.cells #[.int .i64 x, .int .i64 y] 91))
  by_cases t1 : 0 < x
  · by_cases t2 : x ≤ (bys.length : Int)
    · obtain ⟨i, rfl⟩ : ∃ i : Nat, x = (i : Int) + 1 := ⟨(x - 1).toNat, by omega⟩
      have hi : i < bys.length := by omega
      obtain ⟨b, o, rfl, hbB, hcell⟩ := h (by omega)
      obtain ⟨Ai, ci, q0, q1, q2, _⟩ := hcell i hi
      have c0 := (HB0.out.cell hbB).trans q0
      have hin : bys.getD i [] ∈ bys := by rw [List.getD_eq_getElem?_getD, List.getElem?_eq_getElem hi]; exact List.getElem_mem hi
      have hfv : forVar bys ((i : Int) + 1) = nfA (bys.getD i []) := by
        unfold forVar
        rw [if_pos ⟨t1, t2⟩, show ((i : Int) + 1 - 1).toNat = i from by omega]
      have hl9 := h9 _ hin
      have HLN : Hid ((nfA (bys.getD i [])).length ≤ 1048576) := Nat.le_trans (nfA_len _) hl9
      have HG := Lib.hid (gather_any Ai (bys.getD i []) ci (w.alloc (.cells #[.int .i64 ((i : Int) + 1), .int .i64 y] 91)) (by unfold Few; omega) ((q1.below HB0.out).more HB0.out.size) q2)
      have HOK : Hid (∀ p ∈ nfA (bys.getD i []), okPart p) := nfA_ok _
      obtain ⟨us, hus⟩ : ∃ us, us = nfA (bys.getD i []) := ⟨_, rfl⟩
      obtain ⟨l0, hl0⟩ : ∃ l0, l0 = (bys.getD i []).length := ⟨_, rfl⟩
      have HS : Hid (raiseS bys ((i : Int) + 1, y) = if us = [] then [(0, y)] else us.map (upD y)) := by rw [hus, ← hfv]; rfl
      rw [← hus, ← hl0] at HG
      rw [← hl0] at c0
      rw [← hus] at HLN HOK
      have ij0 : (0 : Int) ≤ (i : Int) := by omega
      have ij1 : (i : Int) < (bys.length : Int) := by omega
      have e1 : (i : Int) + 1 - 1 = (i : Int) := by omega
      have hbw : b < w.heap.size := hbB
      clear hl9 hin hfv q0 q1 q2 hcell h h9 hus hl0
      go_enter Tryd.func86, Tryd.ntmps86
      go_wp2_with (fail)
      refine HG.out.mono ?_
      rintro e w1 ⟨v1, rfl, hrow1, hb1⟩
      have hz1 : w.heap.size + 1 ≤ w1.heap.size := by have := hb1.size; simp at this; omega
      have hrow : w1.ownsRow (w.heap.size + 1) 91 2 v1 us.length (cells us) := own_base hrow1 (by simp)
      have X1 : Hid (w1.heap[w.heap.size]? = some (.cells #[.int .i64 ((i : Int) + 1), .int .i64 y] 91 (0, 0))) := (hb1.block _ (by simp)).trans X0.out
      have HB1 : Hid (Below w.heap.size w w1) := HB0.out.trans (hb1.mono (by simp))
      clear hrow1 hb1 c0
      rcases Nat.eq_zero_or_pos us.length with hq0 | hq0
      · obtain rfl := List.eq_nil_of_length_eq_zero hq0
        obtain ⟨A1, n1, m1, rfl⟩ := own_slice hrow
        obtain ⟨rfl, _, _⟩ := own_lev hrow
        have f1 := cell_of_row _ _ 1 _ _ (0, 0) X1.out
        have HF : Hid (RowPost w (raiseS bys ((i : Int) + 1, y)) (.returned (.slice (some ⟨w1.heap.size, 0, none⟩) 1 1)) (w1.alloc (.cells #[.int .i64 0, .int .i64 y] 91))) := by
          rw [HS.out, if_pos rfl]
          exact ⟨_, rfl, own_base (own_two w1 0 y) (by omega), HB1.out.alloc (by omega) _⟩
        clear hrow hq0
        have hww : w.heap.size < w1.heap.size := by omega
        go_wp2
        go_ret
        exact HF.out
      · obtain ⟨g, cap, hv⟩ : ∃ g cap, v1 = .slice (some ⟨g, 0, none⟩) us.length cap := by
          rcases hrow.2 with ⟨_, h0⟩ | ⟨g, cap, cur, h1, _⟩
          · omega
          · exact ⟨g, cap, h1⟩
        subst hv
        have HROW : Hid (w1.ownsRow (w.heap.size + 1) 91 2 (.slice (some ⟨g, 0, none⟩) us.length cap) us.length (cells (bumpD y 0 us))) := by unfold Hid; simpa [bumpD] using hrow
        have hgl : g < w1.heap.size ∧ w.heap.size + 1 ≤ g := by
          have := hrow.lt g rfl
          omega
        obtain ⟨hg1, hg2⟩ := hgl
        have hln := HLN.out
        have HS2 : Hid (raiseS bys ((i : Int) + 1, y) = us.map (upD y)) := by rw [HS.out, if_neg (fun e => by rw [e] at hq0; simp at hq0)]; exact rfl
        have ne0 : ((us.length : Int) == 0) = false := by simp; intro e; rw [e] at hq0; simp at hq0
        clear hrow
        go_wp2
        go_loopw [35] (fun i wr => ∃ k : Nat, k ≤ us.length ∧ i = .int .i64 k ∧ Below (w.heap.size + 1) w1 wr ∧ wr.ownsRow (w.heap.size + 1) 91 2 (.slice (some ⟨g, 0, none⟩) us.length cap) us.length (cells (bumpD y k us))) (fun i _ => us.length - (intOf i).toNat)
        case atStart => exact ⟨0, Nat.zero_le _, rfl, Below.refl _ _, HROW.out⟩
        case round =>
          obtain ⟨k, hk, rfl, hb, hrow⟩ := hrel
          have hbz := hb.size
          by_cases hlt : k < us.length
          · obtain ⟨_, d1⟩ := cells_at (bumpD y k us) k (by rw [bumpD_length]; exact hlt)
            rw [bumpD_get hlt] at d1
            have c1 := (hrow.cellAt (k * 2 + 1) (by omega)).trans d1
            have fr := hrow.frozenAt (k * 2 + 1)
            have hok := (HOK.out (us.getD k (0, 0)) (by rw [List.getD_eq_getElem?_getD, List.getElem?_eq_getElem hlt]; exact List.getElem_mem hlt))
            have hr2 := (hrow.drew).stored (k * 2 + 1) (.int .i64 ((us.getD k (0, 0)).2 + y))
            have ho1 := hr2.1
            rw [bumpD_set hlt] at ho1
            obtain ⟨z, hz⟩ : ∃ z, z = (us.getD k (0, 0)).2 := ⟨_, rfl⟩
            rw [← hz] at c1 ho1
            have hz0 : 0 ≤ z ∧ z ≤ 1048576 := by rw [hz]; exact ⟨hok.2.1, hok.2.2.2⟩
            obtain ⟨z0, z1⟩ := hz0
            have p1 := (hb.block w.heap.size (by omega)).trans X1.out
            have f1 := cell_of_row _ _ 1 _ _ (0, 0) p1
            have HN : Hid (Below (w.heap.size + 1) w1 (wr.drew.setCell ⟨g, k * 2 + 1, none⟩ (.int .i64 (z + y))) ∧ (wr.drew.setCell ⟨g, k * 2 + 1, none⟩ (.int .i64 (z + y))).ownsRow (w.heap.size + 1) 91 2 (.slice (some ⟨g, 0, none⟩) us.length cap) us.length (cells (bumpD y (k + 1) us))) :=
              ⟨(show Below (w.heap.size + 1) w1 wr.drew from ⟨hb.os, hb.tape, hb.output, hb.size, hb.block⟩).setCell hg2 _, ho1⟩
            have ws : IntKind.i64.wrap (z + y) = z + y := IntWalk.i64_in _ (by omega)
            have ij0 : (0 : Int) ≤ (k : Int) := by omega
            have ij1 : (k : Int) < (us.length : Int) := by omega
            have hgw : g < wr.heap.size := by omega
            have hww : w.heap.size < wr.heap.size := by omega
            clear hrow ho1 hr2 hok hz hb d1 p1
            go_wp2
            go_region
            go_wp2
            go_roundw
            case rel => exact ⟨k + 1, by omega, by go_num, HN.out.1, HN.out.2⟩
            case measure => simp [intOf]; omega
          · obtain rfl : k = us.length := by omega
            rw [bumpD_all] at hrow
            have HF : Hid (RowPost w (raiseS bys ((i : Int) + 1, y)) (.returned (.slice (some ⟨g, 0, none⟩) us.length cap)) wr) := by
              rw [HS2.out]
              refine ⟨_, rfl, ?_, HB1.out.trans (hb.mono (by omega))⟩
              rw [List.length_map]
              exact own_base hrow (by omega)
            clear hrow hb
            go_wp2
            go_ret
            exact HF.out
    · have hfv : raiseS bys (x, y) = [(0, y)] := if_pos (show forVar bys x = [] from if_neg (fun hh => t2 hh.2))
      have f1 := cell_of_row _ _ 1 _ _ (0, 0) X0.out
      have HF : Hid (RowPost w (raiseS bys (x, y)) (.returned (.slice (some ⟨w.heap.size + 1, 0, none⟩) 1 1)) ((w.alloc (.cells #[.int .i64 x, .int .i64 y] 91)).alloc (.cells #[.int .i64 0, .int .i64 y] 91))) := by
        rw [hfv]
        have hz : (w.alloc (.cells #[.int .i64 x, .int .i64 y] 91)).heap.size = w.heap.size + 1 := by simp
        have := own_two (w.alloc (.cells #[.int .i64 x, .int .i64 y] 91)) 0 y
        rw [hz] at this
        exact ⟨_, rfl, own_base this (by omega), HB0.out.alloc (by simp) _⟩
      clear hfv h h9
      go_enter Tryd.func86, Tryd.ntmps86
      go_wp2
      go_ret
      exact HF.out
  · have hfv : raiseS bys (x, y) = [(0, y)] := if_pos (show forVar bys x = [] from if_neg (fun hh => t1 hh.1))
    have HF : Hid (RowPost w (raiseS bys (x, y)) (.returned (.slice (some ⟨w.heap.size + 1, 0, none⟩) 1 1)) ((w.alloc (.cells #[.int .i64 x, .int .i64 y] 91)).alloc (.cells #[.int .i64 0, .int .i64 y] 91))) := by
      rw [hfv]
      have hz : (w.alloc (.cells #[.int .i64 x, .int .i64 y] 91)).heap.size = w.heap.size + 1 := by simp
      have := own_two (w.alloc (.cells #[.int .i64 x, .int .i64 y] 91)) 0 y
      rw [hz] at this
      exact ⟨_, rfl, own_base this (by omega), HB0.out.alloc (by simp) _⟩
    clear hfv h h9
    go_enter Tryd.func86, Tryd.ntmps86
    go_wp2
    go_ret
    exact HF.out
/-- The parts that all parts become. -/
def putS (qs : List (Int × Int)) (bys : List (List (Int × Int))) : List (Int × Int) := (qs.map (raiseS bys)).flatten
theorem putS_take {qs : List (Int × Int)} {bys : List (List (Int × Int))} {k : Nat} (hk : k < qs.length) : putS (qs.take (k + 1)) bys = putS (qs.take k) bys ++ raiseS bys (qs.getD k (0, 0)) := by
  unfold putS
  rw [List.take_succ_eq_append_getElem hk, List.map_append, List.flatten_append, List.getD_eq_getElem?_getD, List.getElem?_eq_getElem hk]
  simp
theorem raiseS_len {bys : List (List (Int × Int))} {N : Nat} (h9 : ∀ b ∈ bys, b.length ≤ N) (p : Int × Int) (hN : 1 ≤ N := by omega) : (raiseS bys p).length ≤ N := by
  unfold raiseS
  split
  · simpa using hN
  · rw [List.length_map]
    unfold forVar
    split
    · rename_i h
      refine Nat.le_trans (nfA_len _) (h9 _ ?_)
      rw [List.getD_eq_getElem?_getD, List.getElem?_eq_getElem (by omega)]
      exact List.getElem_mem _
    · simp
theorem raiseS_pos (bys : List (List (Int × Int))) (p : Int × Int) : 0 < (raiseS bys p).length := by
  unfold raiseS
  split
  · simp
  · rename_i h
    rw [List.length_map]
    exact List.length_pos_iff.2 h
theorem own_kept {w w' : World} {B : Nat} {e : TypeId} {s : Nat} {v : Value} {n : Nat} {xs : List Value} (h : w.ownsRow B e s v n xs) (hb : Below w.heap.size w w') : w'.ownsRow B e s v n xs :=
  h.kept (row := none) ⟨hb.os, hb.tape, hb.output, hb.size, fun i hi _ => hb.block i hi⟩ (Classical.em _)
theorem putS_len {bys : List (List (Int × Int))} {N : Nat} (h9 : ∀ b ∈ bys, b.length ≤ N) (qs : List (Int × Int)) (hN : 1 ≤ N := by omega) : (putS qs bys).length ≤ qs.length * N := by
  induction qs with
  | nil => simp [putS]
  | cons q qs ih =>
    have h2 := raiseS_len h9 q hN
    have e : putS (q :: qs) bys = raiseS bys q ++ putS qs bys := by simp [putS]
    rw [e, List.length_append, List.length_cons, Nat.add_mul, Nat.one_mul]
    omega
set_option maxRecDepth 100000 in
set_option maxHeartbeats 2000000 in
theorem put_any (A A' : Option Addr) (ps : List (Int × Int)) (bys : List (List (Int × Int))) (c c' : Nat) (w : World) (hp9 : ps.length ≤ 1048576) (h : Lev w w.heap.size A ps) (hc : A = none → c = 0) (hm : bys.length ≤ maxLen) (h9 : ∀ b ∈ bys, b.length ≤ 1048576) (hb : Levs w w.heap.size A' bys) :
    Calls Tryd.prog 59 #[.agg #[.slice A ps.length c], .slice A' bys.length c'] w (LvlPost w (nfA (putS (nfA ps) bys))) := by
  have hfd := field_parts
  obtain ⟨i0, hi, hz0, hz1, hz2⟩ := info_parts infoP
  obtain ⟨x1, x2, x3⟩ := two_allocs w (.cells #[.slice A ps.length c] 39) (.cells #[.slice none 0 0] 39)
  have hb0 : Below w.heap.size w ((w.alloc (.cells #[.slice A ps.length c] 39)).alloc (.cells #[.slice none 0 0] 39)) := ((Below.refl _ _).alloc (Nat.le_refl _) _).alloc (by simp) _
  have HG := Lib.hid (gather_any A ps c ((w.alloc (.cells #[.slice A ps.length c] 39)).alloc (.cells #[.slice none 0 0] 39)) (by unfold Few; omega) ((h.below hb0).more (by simp; omega)) hc)
  have X2 := Lib.hid x2
  have HB0 := Lib.hid hb0
  have HLB := Lib.hid hb
  have H9 := Lib.hid h9
  have HM := Lib.hid hm
  have HLN : Hid ((nfA ps).length ≤ 1048576) := Nat.le_trans (nfA_len ps) hp9
  have HOK : Hid (∀ p ∈ nfA ps, okPart p) := nfA_ok ps
  obtain ⟨qs, hqs⟩ : ∃ qs, qs = nfA ps := ⟨_, rfl⟩
  rw [← hqs] at HG HLN HOK ⊢
  clear x1 x2 x3 hb0 h hc hb h9 hm hqs hp9
  go_enter Tryd.func59, Tryd.ntmps59
  go_wp2_with (fail)
  refine HG.out.mono ?_
  rintro e w1 ⟨v1, rfl, hrow1, hb1⟩
  have hz1' : w.heap.size + 2 ≤ w1.heap.size := by have := hb1.size; simp at this; omega
  have X3 : Hid (w1.heap[w.heap.size + 1]? = some (.cells #[.slice none 0 0] 39 (0, 0))) := (hb1.block _ (by simp)).trans X2.out
  have HB1 : Hid (Below w.heap.size w w1) := HB0.out.trans (hb1.mono (by simp; omega))
  obtain ⟨A1, n1, m1, rfl⟩ := own_slice hrow1
  obtain ⟨rfl, hl1, hc1⟩ := own_lev hrow1
  have HL1 := Lib.hid hl1
  have hln := HLN.out
  clear hrow1 hb1 hl1 hc1
  go_wp2
  go_loopw [5, 13] (fun lv i wr => ∃ (k : Nat), k ≤ qs.length ∧ i = .int .i64 k ∧ Below w1.heap.size w1 wr ∧ wr.ownsRow w1.heap.size 91 2 lv (putS (qs.take k) bys).length (cells (putS (qs.take k) bys))) (fun _ i _ => qs.length - (intOf i).toNat)
  case atStart => exact ⟨0, Nat.zero_le _, rfl, Below.refl _ _, ⟨rfl, Or.inl ⟨rfl, rfl⟩⟩⟩
  case round =>
    obtain ⟨k, hk, rfl, hb, hrow⟩ := hrel
    have hbz := hb.size
    by_cases hlt : k < qs.length
    · obtain ⟨b, o, rfl, hbB, hcell⟩ := HL1.out (by omega)
      have c0 := (hb.cell hbB).trans (hcell k hlt).1
      have c1 := (hb.cell hbB).trans (hcell k hlt).2
      have hin : qs.getD k (0, 0) ∈ qs := by rw [List.getD_eq_getElem?_getD, List.getElem?_eq_getElem hlt]; exact List.getElem_mem hlt
      have hok := HOK.out _ hin
      have hlk : Hid (Few ((putS (qs.take k) bys).length + (raiseS bys (qs.getD k (0, 0))).length)) := by
        have h1 := putS_len H9.out (qs.take (k + 1))
        rw [putS_take hlt, List.length_append] at h1
        have h2 : (qs.take (k + 1)).length ≤ 1048576 := by rw [List.length_take]; omega
        unfold Hid Few
        omega
      have HT := Lib.hid (putS_take (bys := bys) hlt)
      obtain ⟨x, hx⟩ : ∃ x, x = (qs.getD k (0, 0)).1 := ⟨_, rfl⟩
      obtain ⟨y, hy⟩ : ∃ y, y = (qs.getD k (0, 0)).2 := ⟨_, rfl⟩
      have hxy : qs.getD k (0, 0) = (x, y) := by rw [hx, hy]
      rw [← hx] at c0
      rw [← hy] at c1
      rw [hxy] at hok hlk HT
      obtain ⟨acc, hacc⟩ : ∃ acc, acc = putS (qs.take k) bys := ⟨_, rfl⟩
      rw [← hacc] at hrow hlk HT
      have HR := Lib.hid hrow
      have HB := Lib.hid hb
      have hbl : Below w.heap.size w (wr.alloc (.cells #[.int .i64 x, .int .i64 y] 91)) := (HB1.out.trans (hb.mono (by omega))).alloc (by omega) _
      have HC := Lib.hid (raised_any A' bys c' x y (wr.alloc (.cells #[.int .i64 x, .int .i64 y] 91)) HM.out H9.out ((HLB.out.below hbl).more hbl.size) hok)
      have ij0 : (0 : Int) ≤ (k : Int) := by omega
      have ij1 : (k : Int) < (qs.length : Int) := by omega
      have hbw : b < wr.heap.size := by omega
      obtain ⟨rs, hrs⟩ : ∃ rs, rs = raiseS bys (x, y) := ⟨_, rfl⟩
      have HRS : Hid (0 < rs.length) := by rw [hrs]; exact raiseS_pos bys (x, y)
      rw [← hrs] at hlk HT HC
      clear hb hrow hcell hin hok hx hy hxy hacc hbl hrs
      go_wp2_with (fail)
      refine HC.out.mono ?_
      rintro e w2 ⟨v2, rfl, hrow2, hb2⟩
      have hs2 := hb2.size
      simp at hs2
      obtain ⟨A2, n2, m2, rfl⟩ := own_slice hrow2
      obtain ⟨rfl, hl2, hc2⟩ := own_lev hrow2
      have hown : w2.ownsRow w1.heap.size 91 2 u5 acc.length (cells acc) := own_kept (HR.out.alloc _) hb2
      have HOWN := Lib.hid hown
      obtain ⟨b', o', e', hb', hc'⟩ := hl2 HRS.out
      subst e'
      have HS : Hid (∀ j u, (cells rs)[j]? = some u → w2.cell? ((⟨b', o', none⟩ : Addr).add j) = some u) := Lev.src hc'
      have HN : Hid (∀ v w3, w3.ownsRow w1.heap.size 91 2 v (acc.length + rs.length) (cells acc ++ cells rs) → w2.grownBy w3 u5.ownBlock → Below w1.heap.size w1 w3 ∧ w3.ownsRow w1.heap.size 91 2 v (putS (qs.take (k + 1)) bys).length (cells (putS (qs.take (k + 1)) bys))) := fun v w3 ho hg => by
        refine ⟨((HB.out.alloc hbz _).trans (hb2.mono (by simp; omega))).grown hg (by omega) (fun j e => (HR.out.lt j e).1), ?_⟩
        rw [HT.out, cells_append, List.length_append]
        exact ho
      have hzz : w1.heap.size ≤ w2.heap.size := by omega
      clear hrow2 hb2 hl2 hc2 hown hc' c0 c1 hb'
      go_wp2_with (at_builtin; refine wpList_append_own _ rfl _ _ 37 rfl w1.heap.size 91 i0 (.agg #[.int .i64 0, .int .i64 0]) 2 16 Tryd.underlying37 hi hz0 hz1 hz2 rfl (by decide) u5 acc.length (cells acc) rfl HOWN.out ⟨b', o', none⟩ rs.length m2 (cells rs) rfl (cells_length rs) HS.out (cells_one rs) ?c1 ?c2 ?c3 ?_)
      case c1 => have := hlk.out; unfold Few at this; unfold maxLen; omega
      case c2 => have := hlk.out; unfold Few at this; omega
      case c3 => exact hzz
      intro v w3 ho hg _
      have HX := Lib.hid (HN.out v w3 ho hg)
      clear ho hg
      go_wp2
      go_roundw
      case rel => exact ⟨k + 1, by omega, by go_num, HX.out.1, HX.out.2⟩
      case measure => simp [intOf]; omega
    · obtain rfl : k = qs.length := by omega
      rw [List.take_length] at hrow
      obtain ⟨all, hall⟩ : ∃ all, all = putS qs bys := ⟨_, rfl⟩
      have hll : all.length ≤ 1099511627776 := by
        have h1 := putS_len H9.out qs
        rw [hall]
        omega
      rw [← hall] at hrow ⊢
      obtain ⟨A3, n3, m3, rfl⟩ := own_slice hrow
      obtain ⟨rfl, hl3, hc3⟩ := own_lev hrow
      have HG3 := Lib.hid (gather_any A3 all m3 wr (by unfold Few; omega) hl3 hc3)
      have X4 : Hid (wr.heap[w.heap.size + 1]? = some (.cells #[.slice none 0 0] 39 (0, 0))) := (hb.block _ (by omega)).trans X3.out
      have HBB : Hid (Below w.heap.size w wr) := HB1.out.trans (hb.mono (by omega))
      have HALL := Lib.hid hall
      clear hrow hl3 hc3 hb hall
      go_wp2_with (fail)
      refine HG3.out.mono ?_
      rintro e w2 ⟨v, rfl, hrow2, hb2⟩
      obtain ⟨A2, n2, m2, rfl⟩ := own_slice hrow2
      have hr := (hb2.block (w.heap.size + 1) (by omega)).trans X4.out
      have f5 := cell_of_one hr
      have f6 := free_of_one hr
      have HFIN : Hid (LvlPost w (nfA (putS qs bys)) (.returned (.agg #[.slice A2 n2 m2])) (w2.setCell ⟨w.heap.size + 1, 0, none⟩ (.slice A2 n2 m2))) := by
        rw [← HALL.out]
        exact ⟨_, rfl, own_base (ownsRow_setCell_below hrow2 (by show w.heap.size + 1 < wr.heap.size; omega) _) (by omega), (HBB.out.trans (hb2.mono (by omega))).setCell (by show w.heap.size ≤ w.heap.size + 1; omega) _⟩
      clear hr hrow2 hb2
      go_wp2
      exact bodyPost_ret (v := .agg #[.slice A2 n2 m2]) (by simp [results, Tryd.results59, go_sem, f5]) rfl HFIN.out
end Go.Proofs.YtfgnnbpbbnnnhaaDoor
