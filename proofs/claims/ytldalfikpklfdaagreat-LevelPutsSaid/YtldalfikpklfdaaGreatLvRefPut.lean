/- What the reference's put answers: a part laid into a row, as insP says. -/
import Derived.Test.YtldalfikpklfdaaGreatLvRefNone
import Derived.Test.YtldalfikpklfdaaGreatLvOf
namespace Go.Proofs.YtldalfikpklfdaaGreat
open Go.RowKit Go.Maps

theorem insP_skip : ∀ (k : Nat) (l : List (Int × Int)) (p : Int × Int), k ≤ l.length → (∀ j, j < k → (l.getD j (0, 0)).1 < p.1) → insP l p = l.take k ++ insP (l.drop k) p
  | 0, l, p, _, _ => by simp
  | k + 1, [], p, h, _ => by simp at h
  | k + 1, q :: l, p, h, hs => by
    have h0 := hs 0 (by omega)
    simp only [List.getD_cons_zero] at h0
    have ih := insP_skip k l p (by simp at h; omega) (fun j hj => by simpa using hs (j + 1) (by omega))
    simp only [insP, if_pos h0, List.take_succ_cons, List.drop_succ_cons, List.cons_append, ih]

def PutSo (l : List (Int × Int)) (x : Int) (k : Nat) : Prop := ∀ j, j < k → (l.getD j (0, 0)).1 < x
theorem PutSo.step {l : List (Int × Int)} {x : Int} {k : Nat} (h : PutSo l x k) (hk : (l.getD k (0, 0)).1 < x) : PutSo l x (k + 1) := fun j hj => by
  rcases Nat.lt_succ_iff_lt_or_eq.1 hj with hj | rfl
  · exact h j hj
  · exact hk

theorem tail_src {w w1 : World} {b o k : Nat} {l : List (Int × Int)} (h : ∀ i, i < l.length → w.cell? ⟨b, o + i * 2, none⟩ = some (.int .i64 (l.getD i (0, 0)).1) ∧ w.cell? ⟨b, o + i * 2 + 1, none⟩ = some (.int .i64 (l.getD i (0, 0)).2)) (hb : b < w.heap.size) (hB : Below w.heap.size w w1) :
    ∀ j q, (cells (l.drop k))[j]? = some q → w1.cell? ((⟨b, o + k * 2, none⟩ : Addr).add j) = some q := by
  refine Lev.src (ps := l.drop k) (fun i hi => ?_)
  rw [List.length_drop] at hi
  obtain ⟨h1, h2⟩ := h (k + i) (by omega)
  have e : (l.drop k).getD i (0, 0) = l.getD (k + i) (0, 0) := by rw [List.getD_eq_getElem?_getD, List.getElem?_drop, ← List.getD_eq_getElem?_getD]
  rw [e, show o + k * 2 + i * 2 = o + (k + i) * 2 from by omega]
  exact ⟨(hB.cell hb).trans h1, (hB.cell hb).trans h2⟩

set_option maxRecDepth 100000 in
set_option maxHeartbeats 4000000 in
theorem rput_any (A : Option Addr) (l : List (Int × Int)) (c : Nat) (x y : Int) (w : World) (hm : Few (l.length + 1)) (h : Lev w w.heap.size A l) (hc : A = none → c = 0) (hlc : l.length ≤ c) (hcm : c ≤ maxLen) :
    Calls Tryz.prog 56 #[.slice A l.length c, .agg #[.int .i64 x, .int .i64 y]] w (RowPost w (insP l (x, y))) := by
  obtain ⟨i0, hi, hz0, hz1, hz2⟩ := info_parts infoP
  have HB0 := Lib.hid ((Below.refl w.heap.size w).alloc (Nat.le_refl _) (.cells #[.int .i64 x, .int .i64 y] 47))
  have X0 := Lib.hid (heap_alloc_new w (.cells #[.int .i64 x, .int .i64 y] 47))
  have hlen : l.length ≤ 1000000 := by unfold Few at hm; omega
  have HL := Lib.hid h
  have HC := Lib.hid hc
  clear h hm hc
  go_enter Tryz.func56, Tryz.ntmps56
  go_wp2
  go_loopw [5, 6] (fun lv i wr => ∃ k : Nat, k ≤ l.length ∧ i = .int .i64 k ∧ Below (w.heap.size + 1) (w.alloc (.cells #[.int .i64 x, .int .i64 y] 47)) wr ∧ wr.ownsRow (w.heap.size + 1) 47 2 lv (l.take k).length (cells (l.take k)) ∧ PutSo l x k) (fun _ i _ => l.length - (intOf i).toNat)
  case atStart => exact ⟨0, Nat.zero_le _, rfl, Below.refl _ _, ⟨rfl, Or.inl ⟨rfl, rfl⟩⟩, fun j hj => absurd hj (by omega)⟩
  case round =>
    obtain ⟨k, hk, rfl, hb, hrow, hs⟩ := hrel
    have hbz := hb.size
    simp at hbz
    have hB : Below w.heap.size w wr := HB0.out.trans (hb.mono (by omega))
    have p0 := (hb.block w.heap.size (by omega)).trans X0.out
    have g0 := cell_of_row _ _ 0 _ _ (0, 0) p0
    have g1 := cell_of_row _ _ 1 _ _ (0, 0) p0
    have hww : w.heap.size < wr.heap.size := by omega
    by_cases hlt : k < l.length
    · obtain ⟨b, o, rfl, hbB, hcell⟩ := HL.out (by omega)
      have c0 := (hB.cell hbB).trans (hcell k hlt).1
      have c1 := (hB.cell hbB).trans (hcell k hlt).2
      obtain ⟨u, hu⟩ : ∃ u, u = (l.getD k (0, 0)).1 := ⟨_, rfl⟩
      obtain ⟨v, hv⟩ : ∃ v, v = (l.getD k (0, 0)).2 := ⟨_, rfl⟩
      rw [← hu] at c0
      rw [← hv] at c1
      have hq : l[k]? = some (u, v) := by rw [hu, hv, List.getD_eq_getElem?_getD, List.getElem?_eq_getElem hlt]; rfl
      have hbw : b < wr.heap.size := by omega
      have ij0 : (0 : Int) ≤ (k : Int) := by omega
      have ij1 : (k : Int) < (l.length : Int) := by omega
      by_cases t : u < x
      · have HS : Hid (PutSo l x (k + 1)) := hs.step (by rw [← hu]; exact t)
        have HT := Lib.hid (take_snoc_ hq)
        have HLT : Hid ((l.take k).length = k) := by unfold Hid; rw [List.length_take]; omega
        obtain ⟨acc, hacc⟩ : ∃ acc, acc = l.take k := ⟨_, rfl⟩
        rw [← hacc] at hrow HT HLT
        have HR := Lib.hid hrow
        have HB := Lib.hid hb
        have HN : Hid (∀ m v1 w1, w1.ownsRow (w.heap.size + 1) 47 2 v1 (acc.length + 1) (cells acc ++ [.int .i64 u, .int .i64 v]) → ((wr.drewN m).alloc (.cells #[.int .i64 u, .int .i64 v] 47)).grownBy w1 u5.ownBlock → Below (w.heap.size + 1) (w.alloc (.cells #[.int .i64 x, .int .i64 y] 47)) w1 ∧ w1.ownsRow (w.heap.size + 1) 47 2 v1 (l.take (k + 1)).length (cells (l.take (k + 1)))) := fun m v1 w1 ho hg => by
          refine ⟨((below_drewN HB.out m).alloc (by show w.heap.size + 1 ≤ wr.heap.size; omega) _).grown hg (by show w.heap.size + 1 ≤ (wr.alloc (.cells #[.int .i64 u, .int .i64 v] 47)).heap.size; simp; omega) (fun j e => (HR.out.lt j e).1), ?_⟩
          rw [HT.out, cells_append, List.length_append]
          exact ho
        have HRR : Hid (∀ m, ((wr.drewN m).alloc (.cells #[.int .i64 u, .int .i64 v] 47)).ownsRow (w.heap.size + 1) 47 2 u5 acc.length (cells acc)) := fun m => (show (wr.drewN m).ownsRow (w.heap.size + 1) 47 2 u5 acc.length (cells acc) from hrow).alloc _
        have hacl : acc.length ≤ 1000000 := by have := HLT.out; omega
        clear hrow hb hs hq hu hv hacc hcell hB p0
        go_wp2
        go_quiet (fail)
        go_wp2_with (at_builtin; refine wpList_append_own _ rfl _ _ 22 rfl (w.heap.size + 1) 47 i0 (.agg #[.int .i64 0, .int .i64 0]) 2 16 Tryz.underlying22 hi hz0 hz1 hz2 rfl (by decide) u5 acc.length (cells acc) rfl (HRR.out _) ⟨wr.heap.size, 0, none⟩ 1 1 [.int .i64 u, .int .i64 v] rfl rfl (two_new (wr.drewN _) _ _ _) (by intro q hq; simp at hq; rcases hq with rfl | rfl <;> rfl) ?c1 ?c2 ?c3 ?_)
        case c1 => unfold maxLen; omega
        case c2 => omega
        case c3 => show w.heap.size + 1 ≤ (wr.alloc (.cells #[.int .i64 u, .int .i64 v] 47)).heap.size; simp; omega
        intro v1 w1 ho hg _
        have HX := Lib.hid (HN.out _ v1 w1 ho hg)
        clear ho hg
        go_wp2
        go_roundw
        case rel => exact ⟨k + 1, by omega, by go_num, HX.out.1, HX.out.2, HS.out⟩
        case measure => simp [intOf]; omega
      · by_cases t2 : u = x
        · have t3 : ¬ u < x := t
          have td : decide (u < x) = false := by simpa using t
          have te : (u == x) = true := by simpa using t2
          have HLT : Hid ((l.take k).length = k) := by unfold Hid; rw [List.length_take]; omega
          obtain ⟨acc, hacc⟩ : ∃ acc, acc = l.take k := ⟨_, rfl⟩
          have hins : insP l (x, y) = acc ++ [(x, max y v)] ++ l.drop (k + 1) := by
            rw [hacc, insP_skip k l (x, y) hk hs, List.append_assoc]
            have hd : l.drop k = (u, v) :: l.drop (k + 1) := by rw [List.drop_eq_getElem_cons hlt]; congr 1; simpa [List.getElem?_eq_getElem hlt] using hq
            have hmx : (if v < y then y else v) = max y v := by split <;> omega
            rw [hd]
            simp only [insP]
            rw [if_neg t3, if_pos t2, hmx]
            rfl
          rw [← hacc] at hrow HLT
          have HR := Lib.hid hrow
          have HB := Lib.hid hb
          have HINS := Lib.hid hins
          have hacl : acc.length ≤ 1000000 := by have := HLT.out; omega
          have HCELL := Lib.hid hcell
          have AG : Hid (u5.ownBlock ≠ some w.heap.size) := fun e => by have := (hrow.lt _ e).1; omega
          clear hrow hb hs hq hu hv hacc hcell hB p0 hins t t2
          go_wp2
          go_quiet (fail)
          go_wp2
          go_quiet (fail)
          have HRR : Hid (∀ m, ((wr.drewN m).alloc (.cells #[.int .i64 x, .int .i64 (max y v)] 47)).ownsRow (w.heap.size + 1) 47 2 u5 acc.length (cells acc)) := fun m => (show (wr.drewN m).ownsRow (w.heap.size + 1) 47 2 u5 acc.length (cells acc) from HR.out).alloc _
          go_wp2
          go_region_law
            ((refine step_append_lies _ (by rfl) _ _ _ (by rfl) (w.heap.size + 1) 47 i0 _ 2 16 Tryz.underlying22 hi hz0 hz1 hz2 rfl (by omega) u5 acc.length (cells acc) (by rfl) (HRR.out _)
                ⟨wr.heap.size, 0, none⟩ 1 1 [.int .i64 x, .int .i64 (max y v)] (by rfl) (by rfl) (World.news_of_block (cs := #[.int .i64 x, .int .i64 (max y v)]) (t := 47) (fr := (0, 0)) (heap_alloc_new (wr.drewN _) _)) (by simp [Value.oneCell'])
                (by omega) (by unfold maxLen; omega) (by omega) (by show w.heap.size + 1 ≤ (wr.alloc (.cells #[.int .i64 x, .int .i64 (max y v)] 47)).heap.size; simp; omega) (wr.heap.size + 1) (by show (wr.alloc (.cells #[.int .i64 x, .int .i64 (max y v)] 47)).heap.size = _; simp) ?_; intro gg cap w1 ho hg hat hlt1))
          all_goals (
            have HBX : Hid (Below (w.heap.size + 1) (w.alloc (.cells #[.int .i64 x, .int .i64 y] 47)) w1 ∧ w1.ownsRow (w.heap.size + 1) 47 2 (.slice (some ⟨gg, 0, none⟩) (acc.length + 1) cap) (acc.length + 1) (cells (acc ++ [(x, max y v)]))) := by
              refine ⟨((below_drewN HB.out _).alloc (by show w.heap.size + 1 ≤ wr.heap.size; omega) _).grown hg (by show w.heap.size + 1 ≤ (wr.alloc (.cells #[.int .i64 x, .int .i64 (max y v)] 47)).heap.size; simp; omega) (fun j e => (HR.out.lt j e).1), ?_⟩
              rw [cells_append]
              exact ho
            have HOBS : Hid (w.heap.size + 1 ≤ w1.heap.size) := by
              have h8 := HBX.out.1.size
              have h7 : (w.alloc (.cells #[.int .i64 x, .int .i64 y] 47)).heap.size = w.heap.size + 1 := by simp
              unfold Hid
              omega
            have kl : k + 1 ≤ l.length := by omega
            have kc : ((k : Int) + 1) ≤ (c : Int) := by omega
            have kn : ((k : Int) + 1) ≤ (l.length : Int) := by omega
            have HSRC : Hid (∀ j q, (cells (l.drop (k + 1)))[j]? = some q → w1.cell? ((⟨b, o + (k + 1) * 2, none⟩ : Addr).add j) = some q) := tail_src HCELL.out hbB (HB0.out.trans (HBX.out.1.mono (by omega)))
            obtain ⟨fr, hfr⟩ : ∃ fr, fr = acc ++ [(x, max y v)] := ⟨_, rfl⟩
            have HFL : Hid (fr.length = acc.length + 1) := by rw [hfr, List.length_append]; rfl
            rw [← hfr] at HBX HINS
            clear HRR ho hg hat hlt1 hfr
            by_cases hck : k + 1 < c
            · have hdl : (l.drop (k + 1)).length = l.length - (k + 1) := List.length_drop
              go_wp2_with (at_builtin; refine wpList_append_own _ rfl _ _ 22 rfl (w.heap.size + 1) 47 i0 (.agg #[.int .i64 0, .int .i64 0]) 2 16 Tryz.underlying22 hi hz0 hz1 hz2 rfl (by decide) (.slice (some ⟨gg, 0, none⟩) (acc.length + 1) cap) (acc.length + 1) (cells fr) rfl (HBX.out.2) ⟨b, o + (k + 1) * 2, none⟩ (l.length - (k + 1)) (c - (k + 1)) (cells (l.drop (k + 1))) rfl (by rw [cells_length, hdl]) HSRC.out (cells_one _) ?c1 ?c2 ?c3 ?_)
              case c1 => unfold maxLen; omega
              case c2 => omega
              case c3 => exact HOBS.out
              intro v2 w2 ho hg _
              have HFIN : Hid (RowPost w (insP l (x, y)) (.returned v2) w2) := by
                rw [HINS.out]
                refine ⟨_, rfl, ?_, HB0.out.trans ((HBX.out.1.grown hg HOBS.out (fun j e => (HBX.out.2.lt j e).1)).mono (by omega))⟩
                rw [cells_append, List.length_append, HFL.out]
                rw [hdl]
                exact own_base ho (by omega)
              clear ho hg
              go_wp2
              go_ret
              exact HFIN.out
            · obtain rfl : c = l.length := by omega
              have z0 : l.length - (k + 1) = 0 := by omega
              have z1 : l.drop (k + 1) = [] := List.drop_eq_nil_of_le (by omega)
              rw [z1, List.append_nil] at HINS
              clear HSRC
              go_wp2_with (at_builtin; refine wpList_append_own _ rfl _ _ 22 rfl (w.heap.size + 1) 47 i0 (.agg #[.int .i64 0, .int .i64 0]) 2 16 Tryz.underlying22 hi hz0 hz1 hz2 rfl (by decide) (.slice (some ⟨gg, 0, none⟩) (acc.length + 1) cap) (acc.length + 1) (cells fr) rfl (HBX.out.2) ⟨b, o, none⟩ 0 0 [] rfl rfl (by intro j q hq; simp at hq) (by intro q hq; simp at hq) ?c1 ?c2 ?c3 ?_)
              case c1 => unfold maxLen; omega
              case c2 => omega
              case c3 => exact HOBS.out
              intro v2 w2 ho hg _
              have HFIN : Hid (RowPost w (insP l (x, y)) (.returned v2) w2) := by
                rw [HINS.out]
                refine ⟨_, rfl, ?_, HB0.out.trans ((HBX.out.1.grown hg HOBS.out (fun j e => (HBX.out.2.lt j e).1)).mono (by omega))⟩
                rw [HFL.out]
                exact own_base ho (by omega)
              clear ho hg
              go_wp2
              go_ret
              exact HFIN.out)
        · have t3 : ¬ u < x := t
          have td : decide (u < x) = false := by simpa using t
          have te : (u == x) = false := by simpa using t2
          have HLT : Hid ((l.take k).length = k) := by unfold Hid; rw [List.length_take]; omega
          obtain ⟨acc, hacc⟩ : ∃ acc, acc = l.take k := ⟨_, rfl⟩
          have hins : insP l (x, y) = acc ++ [(x, y)] ++ l.drop k := by
            rw [hacc, insP_skip k l (x, y) hk hs, List.append_assoc]
            have hd : l.drop k = (u, v) :: l.drop (k + 1) := by rw [List.drop_eq_getElem_cons hlt]; congr 1; simpa [List.getElem?_eq_getElem hlt] using hq
            rw [hd]
            simp only [insP]
            rw [if_neg t3, if_neg t2]
            rfl
          rw [← hacc] at hrow HLT
          have HR := Lib.hid hrow
          have HB := Lib.hid hb
          have HINS := Lib.hid hins
          have HRR : Hid (∀ m, ((wr.drewN m).alloc (.cells #[.int .i64 x, .int .i64 y] 47)).ownsRow (w.heap.size + 1) 47 2 u5 acc.length (cells acc)) := fun m => (show (wr.drewN m).ownsRow (w.heap.size + 1) 47 2 u5 acc.length (cells acc) from hrow).alloc _
          have hacl : acc.length ≤ 1000000 := by have := HLT.out; omega
          have HCELL := Lib.hid hcell
          clear hrow hb hs hq hu hv hacc hcell hB p0 hins t t2
          go_wp2
          go_quiet (fail)
          go_wp2
          go_quiet (fail)
          go_wp2_with (at_builtin; refine wpList_append_own _ rfl _ _ 22 rfl (w.heap.size + 1) 47 i0 (.agg #[.int .i64 0, .int .i64 0]) 2 16 Tryz.underlying22 hi hz0 hz1 hz2 rfl (by decide) u5 acc.length (cells acc) rfl (HRR.out _) ⟨wr.heap.size, 0, none⟩ 1 1 [.int .i64 x, .int .i64 y] rfl rfl (two_new (wr.drewN _) _ _ _) (by intro q hq; simp at hq; rcases hq with rfl | rfl <;> rfl) ?c1 ?c2 ?c3 ?_)
          case c1 => unfold maxLen; omega
          case c2 => omega
          case c3 => show w.heap.size + 1 ≤ (wr.alloc (.cells #[.int .i64 x, .int .i64 y] 47)).heap.size; simp; omega
          intro v1 w1 ho hg _
          have HBX : Hid (Below (w.heap.size + 1) (w.alloc (.cells #[.int .i64 x, .int .i64 y] 47)) w1 ∧ w1.ownsRow (w.heap.size + 1) 47 2 v1 (acc ++ [(x, y)]).length (cells (acc ++ [(x, y)]))) := by
            refine ⟨((below_drewN HB.out _).alloc (by show w.heap.size + 1 ≤ wr.heap.size; omega) _).grown hg (by show w.heap.size + 1 ≤ (wr.alloc (.cells #[.int .i64 x, .int .i64 y] 47)).heap.size; simp; omega) (fun j e => (HR.out.lt j e).1), ?_⟩
            rw [cells_append, List.length_append]
            exact ho
          have kc : (k : Int) ≤ (c : Int) := by omega
          have kn : (k : Int) ≤ (l.length : Int) := by omega
          have HSRC : Hid (∀ j q, (cells (l.drop k))[j]? = some q → w1.cell? ((⟨b, o + k * 2, none⟩ : Addr).add j) = some q) := tail_src HCELL.out hbB (HB0.out.trans (HBX.out.1.mono (by omega)))
          have HOBS : Hid ((w.heap.size + 1) ≤ w1.heap.size) := by
            have h8 := HBX.out.1.size
            have h7 : (w.alloc (.cells #[.int .i64 x, .int .i64 y] 47)).heap.size = w.heap.size + 1 := by simp
            unfold Hid
            omega
          obtain ⟨fr, hfr⟩ : ∃ fr, fr = acc ++ [(x, y)] := ⟨_, rfl⟩
          have HFL : Hid (fr.length ≤ 1000001) := by rw [hfr, List.length_append]; show acc.length + 1 ≤ 1000001; omega
          rw [← hfr] at HBX HINS
          clear HRR ho hg hfr
          go_wp2_with (at_builtin; refine wpList_append_own _ rfl _ _ 22 rfl (w.heap.size + 1) 47 i0 (.agg #[.int .i64 0, .int .i64 0]) 2 16 Tryz.underlying22 hi hz0 hz1 hz2 rfl (by decide) v1 fr.length (cells fr) rfl (HBX.out.2) ⟨b, o + k * 2, none⟩ (l.length - k) (c - k) (cells (l.drop k)) rfl (by rw [cells_length, List.length_drop]) HSRC.out (cells_one _) ?c1 ?c2 ?c3 ?_)
          case c1 => have := HFL.out; unfold maxLen; omega
          case c2 => have := HFL.out; omega
          case c3 => exact HOBS.out
          intro v2 w2 ho hg _
          have HFIN : Hid (RowPost w (insP l (x, y)) (.returned v2) w2) := by
            rw [HINS.out]
            refine ⟨_, rfl, ?_, HB0.out.trans ((HBX.out.1.grown hg HOBS.out (fun j e => (HBX.out.2.lt j e).1)).mono (by omega))⟩
            rw [cells_append, List.length_append, List.length_drop]
            exact own_base ho (by omega)
          clear ho hg
          go_wp2
          go_ret
          exact HFIN.out
    · obtain rfl : k = l.length := by omega
      rw [List.take_length] at hrow
      have hins : insP l (x, y) = l ++ [(x, y)] := by
        rw [insP_skip l.length l (x, y) (Nat.le_refl _) hs, List.take_length, List.drop_length]
        rfl
      have HR := Lib.hid hrow
      have HB := Lib.hid hb
      have HINS := Lib.hid hins
      have HRR : Hid (∀ m, ((wr.drewN m).alloc (.cells #[.int .i64 x, .int .i64 y] 47)).ownsRow (w.heap.size + 1) 47 2 u5 l.length (cells l)) := fun m => (show (wr.drewN m).ownsRow (w.heap.size + 1) 47 2 u5 l.length (cells l) from hrow).alloc _
      clear hrow hb hs hB p0 hins hlt hk
      rcases A with _ | a
      · obtain rfl := HC.out rfl
        have hl0 : l = [] := List.eq_nil_of_length_eq_zero (by omega)
        subst hl0
        go_wp2
        go_quiet (fail)
        go_wp2
        go_quiet (fail)
        go_wp2_with (at_builtin; refine wpList_append_own _ rfl _ _ 22 rfl (w.heap.size + 1) 47 i0 (.agg #[.int .i64 0, .int .i64 0]) 2 16 Tryz.underlying22 hi hz0 hz1 hz2 rfl (by decide) u5 0 (cells []) rfl (HRR.out _) ⟨wr.heap.size, 0, none⟩ 1 1 [.int .i64 x, .int .i64 y] rfl rfl (two_new (wr.drewN _) _ _ _) (by intro q hq; simp at hq; rcases hq with rfl | rfl <;> rfl) ?c1 ?c2 ?c3 ?_)
        case c1 => unfold maxLen; omega
        case c2 => omega
        case c3 => show w.heap.size + 1 ≤ (wr.alloc (.cells #[.int .i64 x, .int .i64 y] 47)).heap.size; simp; omega
        intro v1 w1 ho hg _
        have HBX : Hid (Below (w.heap.size + 1) (w.alloc (.cells #[.int .i64 x, .int .i64 y] 47)) w1 ∧ w1.ownsRow (w.heap.size + 1) 47 2 v1 (([] : List (Int × Int)) ++ [(x, y)]).length (cells (([] : List (Int × Int)) ++ [(x, y)]))) := by
          refine ⟨((below_drewN HB.out _).alloc (by show w.heap.size + 1 ≤ wr.heap.size; omega) _).grown hg (by show w.heap.size + 1 ≤ (wr.alloc (.cells #[.int .i64 x, .int .i64 y] 47)).heap.size; simp; omega) (fun j e => (HR.out.lt j e).1), ?_⟩
          rw [cells_append, List.length_append]
          exact ho
        clear HRR ho hg
        have hz1' : (w.alloc (.cells #[.int .i64 x, .int .i64 y] 47)).heap.size = w.heap.size + 1 := by simp
        have HOBS : Hid (w.heap.size + 1 ≤ w1.heap.size) := by
          have h8 := HBX.out.1.size
          unfold Hid
          omega
        obtain ⟨fr, hfr⟩ : ∃ fr, fr = ([] : List (Int × Int)) ++ [(x, y)] := ⟨_, rfl⟩
        have HFL : Hid (fr.length ≤ 1000001) := by rw [hfr, List.length_append]; show 0 + 1 ≤ 1000001; omega
        rw [← hfr] at HBX HINS
        clear hfr hz1'
        have HFIN : Hid (RowPost w (insP [] (x, y)) (.returned v1) w1) := by
          rw [HINS.out]
          exact ⟨_, rfl, own_base HBX.out.2 (by omega), HB0.out.trans (HBX.out.1.mono (by omega))⟩
        go_wp2_with (at_builtin; refine wpList_append_own_none rfl _ _ 22 rfl (w.heap.size + 1) 47 i0 2 Tryz.underlying22 hi v1 fr.length (cells fr) rfl HBX.out.2 rfl ?_)
        go_wp2
        go_ret
        exact HFIN.out
      · by_cases hcn : c = l.length
        · subst hcn
          go_wp2
          go_quiet (fail)
          go_wp2
          go_quiet (fail)
          go_wp2_with (at_builtin; refine wpList_append_own _ rfl _ _ 22 rfl (w.heap.size + 1) 47 i0 (.agg #[.int .i64 0, .int .i64 0]) 2 16 Tryz.underlying22 hi hz0 hz1 hz2 rfl (by decide) u5 l.length (cells l) rfl (HRR.out _) ⟨wr.heap.size, 0, none⟩ 1 1 [.int .i64 x, .int .i64 y] rfl rfl (two_new (wr.drewN _) _ _ _) (by intro q hq; simp at hq; rcases hq with rfl | rfl <;> rfl) ?c1 ?c2 ?c3 ?_)
          case c1 => unfold maxLen; omega
          case c2 => omega
          case c3 => show w.heap.size + 1 ≤ (wr.alloc (.cells #[.int .i64 x, .int .i64 y] 47)).heap.size; simp; omega
          intro v1 w1 ho hg _
          have HBX : Hid (Below (w.heap.size + 1) (w.alloc (.cells #[.int .i64 x, .int .i64 y] 47)) w1 ∧ w1.ownsRow (w.heap.size + 1) 47 2 v1 (l ++ [(x, y)]).length (cells (l ++ [(x, y)]))) := by
            refine ⟨((below_drewN HB.out _).alloc (by show w.heap.size + 1 ≤ wr.heap.size; omega) _).grown hg (by show w.heap.size + 1 ≤ (wr.alloc (.cells #[.int .i64 x, .int .i64 y] 47)).heap.size; simp; omega) (fun j e => (HR.out.lt j e).1), ?_⟩
            rw [cells_append, List.length_append]
            exact ho
          clear HRR ho hg
          have hz1' : (w.alloc (.cells #[.int .i64 x, .int .i64 y] 47)).heap.size = w.heap.size + 1 := by simp
          have HOBS : Hid (w.heap.size + 1 ≤ w1.heap.size) := by
            have h8 := HBX.out.1.size
            unfold Hid
            omega
          obtain ⟨fr, hfr⟩ : ∃ fr, fr = l ++ [(x, y)] := ⟨_, rfl⟩
          have HFL : Hid (fr.length ≤ 1000001) := by rw [hfr, List.length_append]; show l.length + 1 ≤ 1000001; omega
          rw [← hfr] at HBX HINS
          clear hfr hz1'
          go_wp2_with (at_builtin; refine wpList_append_own _ rfl _ _ 22 rfl (w.heap.size + 1) 47 i0 (.agg #[.int .i64 0, .int .i64 0]) 2 16 Tryz.underlying22 hi hz0 hz1 hz2 rfl (by decide) v1 fr.length (cells fr) rfl (HBX.out.2) a 0 0 [] rfl rfl (by intro j q hq; simp at hq) (by intro q hq; simp at hq) ?c1 ?c2 ?c3 ?_)
          case c1 => have := HFL.out; unfold maxLen; omega
          case c2 => have := HFL.out; omega
          case c3 => exact HOBS.out
          intro v2 w2 ho hg _
          have HFIN : Hid (RowPost w (insP l (x, y)) (.returned v2) w2) := by
            rw [HINS.out]
            refine ⟨_, rfl, ?_, HB0.out.trans ((HBX.out.1.grown hg HOBS.out (fun j e => (HBX.out.2.lt j e).1)).mono (by omega))⟩
            exact own_base ho (by omega)
          clear ho hg
          go_wp2
          go_ret
          exact HFIN.out
        · have hcl : l.length < c := by omega
          go_wp2
          go_quiet (fail)
          go_wp2
          go_quiet (fail)
          go_wp2_with (at_builtin; refine wpList_append_own _ rfl _ _ 22 rfl (w.heap.size + 1) 47 i0 (.agg #[.int .i64 0, .int .i64 0]) 2 16 Tryz.underlying22 hi hz0 hz1 hz2 rfl (by decide) u5 l.length (cells l) rfl (HRR.out _) ⟨wr.heap.size, 0, none⟩ 1 1 [.int .i64 x, .int .i64 y] rfl rfl (two_new (wr.drewN _) _ _ _) (by intro q hq; simp at hq; rcases hq with rfl | rfl <;> rfl) ?c1 ?c2 ?c3 ?_)
          case c1 => unfold maxLen; omega
          case c2 => omega
          case c3 => show w.heap.size + 1 ≤ (wr.alloc (.cells #[.int .i64 x, .int .i64 y] 47)).heap.size; simp; omega
          intro v1 w1 ho hg _
          have HBX : Hid (Below (w.heap.size + 1) (w.alloc (.cells #[.int .i64 x, .int .i64 y] 47)) w1 ∧ w1.ownsRow (w.heap.size + 1) 47 2 v1 (l ++ [(x, y)]).length (cells (l ++ [(x, y)]))) := by
            refine ⟨((below_drewN HB.out _).alloc (by show w.heap.size + 1 ≤ wr.heap.size; omega) _).grown hg (by show w.heap.size + 1 ≤ (wr.alloc (.cells #[.int .i64 x, .int .i64 y] 47)).heap.size; simp; omega) (fun j e => (HR.out.lt j e).1), ?_⟩
            rw [cells_append, List.length_append]
            exact ho
          clear HRR ho hg
          have hz1' : (w.alloc (.cells #[.int .i64 x, .int .i64 y] 47)).heap.size = w.heap.size + 1 := by simp
          have HOBS : Hid (w.heap.size + 1 ≤ w1.heap.size) := by
            have h8 := HBX.out.1.size
            unfold Hid
            omega
          obtain ⟨fr, hfr⟩ : ∃ fr, fr = l ++ [(x, y)] := ⟨_, rfl⟩
          have HFL : Hid (fr.length ≤ 1000001) := by rw [hfr, List.length_append]; show l.length + 1 ≤ 1000001; omega
          rw [← hfr] at HBX HINS
          clear hfr hz1'
          go_wp2_with (at_builtin; refine wpList_append_own _ rfl _ _ 22 rfl (w.heap.size + 1) 47 i0 (.agg #[.int .i64 0, .int .i64 0]) 2 16 Tryz.underlying22 hi hz0 hz1 hz2 rfl (by decide) v1 fr.length (cells fr) rfl (HBX.out.2) (a.add (l.length * 2)) 0 (c - l.length) [] rfl rfl (by intro j q hq; simp at hq) (by intro q hq; simp at hq) ?c1 ?c2 ?c3 ?_)
          case c1 => have := HFL.out; unfold maxLen; omega
          case c2 => have := HFL.out; omega
          case c3 => exact HOBS.out
          intro v2 w2 ho hg _
          have HFIN : Hid (RowPost w (insP l (x, y)) (.returned v2) w2) := by
            rw [HINS.out]
            refine ⟨_, rfl, ?_, HB0.out.trans ((HBX.out.1.grown hg HOBS.out (fun j e => (HBX.out.2.lt j e).1)).mono (by omega))⟩
            exact own_base ho (by omega)
          clear ho hg
          go_wp2
          go_ret
          exact HFIN.out

end Go.Proofs.YtldalfikpklfdaaGreat
