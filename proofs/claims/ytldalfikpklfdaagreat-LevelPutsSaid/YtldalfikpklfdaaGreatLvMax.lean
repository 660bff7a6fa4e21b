/- What level.Max answers of levels whose parts may all stand in a normal form: the normal form of all of them; of at most a million parts. -/
import Derived.Test.YtldalfikpklfdaaGreatLvCount
import Derived.Laws.AppendOwnNone
namespace Go.Proofs.YtldalfikpklfdaaGreat
open Go.RowKit Go.Maps

def flat (ls : List (List (Int × Int))) : List (Int × Int) := ls.flatten
theorem flat_take {ls : List (List (Int × Int))} {k : Nat} (hk : k < ls.length) : flat (ls.take (k + 1)) = flat (ls.take k) ++ ls.getD k [] := by
  unfold flat
  rw [List.take_succ_eq_append_getElem hk, List.flatten_append, List.getD_eq_getElem?_getD, List.getElem?_eq_getElem hk]
  simp
theorem flat_le (ls : List (List (Int × Int))) (k : Nat) : (flat (ls.take k)).length ≤ (flat ls).length := by
  unfold flat
  have := congrArg (fun l => l.flatten.length) (List.take_append_drop k ls)
  simp only [List.flatten_append, List.length_append] at this
  omega

set_option maxRecDepth 100000 in
set_option maxHeartbeats 2000000 in
theorem max_any (A : Option Addr) (ls : List (List (Int × Int))) (c : Nat) (w : World) (hm : ls.length ≤ maxLen) (hf : Few (flat ls).length) (h : Levs w w.heap.size A ls) (hok : ∀ p ∈ flat ls, okPart p) :
    Calls Tryz.prog 15 #[.slice A ls.length c] w (LvlPost w (nf (flat ls))) := by
  obtain ⟨i0, hi, hz0, hz1, hz2⟩ := info_parts infoP
  unfold maxLen at hm
  have HL := Lib.hid h
  have HF := Lib.hid hf
  have HO := Lib.hid hok
  have HB0 := Lib.hid ((Below.refl w.heap.size w).alloc (Nat.le_refl _) (.cells #[.slice none 0 0] 24))
  have X1 := Lib.hid (heap_alloc_new w (.cells #[.slice none 0 0] 24))
  clear h hf hok
  go_enter Tryz.func15, Tryz.ntmps15
  go_wp2
  go_loopw [3, 8] (fun lv i wr => ∃ (k : Nat), k ≤ ls.length ∧ i = .int .i64 k ∧ Below (w.heap.size + 1) (w.alloc (.cells #[.slice none 0 0] 24)) wr ∧ wr.ownsRow (w.heap.size + 1) 47 2 lv (flat (ls.take k)).length (cells (flat (ls.take k)))) (fun _ i _ => ls.length - (intOf i).toNat)
  case atStart => exact ⟨0, Nat.zero_le _, rfl, Below.refl _ _, ⟨rfl, Or.inl ⟨rfl, rfl⟩⟩⟩
  case round =>
    obtain ⟨k, hk, rfl, hb, hrow⟩ := hrel
    have hbz := hb.size
    simp at hbz
    have hB : Below w.heap.size w wr := HB0.out.trans (hb.mono (by omega))
    by_cases hlt : k < ls.length
    · obtain ⟨b, o, rfl, hbB, hcell⟩ := HL.out (by omega)
      obtain ⟨Ai, ci, q0, q1, q2, q3⟩ := hcell k hlt
      have c0 := (hB.cell hbB).trans q0
      have hlk : Hid (Few ((flat (ls.take k)).length + (ls.getD k []).length)) := by
        have := flat_le ls (k + 1)
        rw [flat_take hlt, List.length_append] at this
        have h2 := HF.out
        unfold Few at h2
        unfold Hid Few
        omega
      have HT := Lib.hid (flat_take hlt)
      obtain ⟨l, hl⟩ : ∃ l, l = ls.getD k [] := ⟨_, rfl⟩
      obtain ⟨acc, hacc⟩ : ∃ acc, acc = flat (ls.take k) := ⟨_, rfl⟩
      rw [← hl] at c0 q1 q3 hlk HT
      rw [← hacc] at hrow hlk HT
      have HB := Lib.hid hb
      have HR := Lib.hid hrow
      have hll : Lev (wr.alloc (.cells #[.slice Ai l.length ci] 24)) (wr.alloc (.cells #[.slice Ai l.length ci] 24)).heap.size Ai l := (q1.below (hB.alloc (by omega) _)).more (by simp; omega)
      have HLL := Lib.hid hll
      have Q2 := Lib.hid q2
      have ij0 : (0 : Int) ≤ (k : Int) := by omega
      have ij1 : (k : Int) < (ls.length : Int) := by omega
      have hbw : b < wr.heap.size := by omega
      have hwz : w.heap.size + 1 ≤ wr.heap.size := hbz
      have HN : Hid (∀ v w1, w1.ownsRow (w.heap.size + 1) 47 2 v (acc.length + l.length) (cells acc ++ cells l) → (wr.alloc (.cells #[.slice Ai l.length ci] 24)).grownBy w1 u3.ownBlock → Below (w.heap.size + 1) (w.alloc (.cells #[.slice none 0 0] 24)) w1 ∧ w1.ownsRow (w.heap.size + 1) 47 2 v (flat (ls.take (k + 1))).length (cells (flat (ls.take (k + 1))))) := fun v w1 ho hg => by
        refine ⟨(HB.out.alloc (by omega) _).grown hg (by simp; omega) (fun j e => (HR.out.lt j e).1), ?_⟩
        rw [HT.out, cells_append, List.length_append]
        exact ho
      clear hb hrow hB q0 q1 q2 hll hl hacc hcell
      rcases Ai with _ | a
      · obtain rfl := Q2.out rfl
        obtain rfl : l = [] := by
          rcases l with _ | ⟨p, l⟩
          · rfl
          · obtain ⟨b, o, e, _⟩ := HLL.out (by simp)
            cases e
        have HX : Hid (Below (w.heap.size + 1) (w.alloc (.cells #[.slice none 0 0] 24)) (wr.alloc (.cells #[.slice none 0 0] 24)) ∧ (wr.alloc (.cells #[.slice none 0 0] 24)).ownsRow (w.heap.size + 1) 47 2 u3 (flat (ls.take (k + 1))).length (cells (flat (ls.take (k + 1))))) := by
          refine ⟨HB.out.alloc (by omega) _, ?_⟩
          rw [HT.out, List.append_nil]
          exact HR.out.alloc _
        go_wp2_with (at_builtin; refine wpList_append_own_none rfl _ _ 22 rfl (w.heap.size + 1) 47 i0 2 Tryz.underlying22 hi u3 acc.length (cells acc) rfl (HR.out.alloc _) rfl ?_)
        go_wp2
        go_roundw
        case rel => exact ⟨k + 1, by omega, by go_num, HX.out.1, HX.out.2⟩
        case measure => simp [intOf]; omega
      · have hsrc : ∀ j u, (cells l)[j]? = some u → (wr.alloc (.cells #[.slice (some a) l.length ci] 24)).cell? (a.add j) = some u := by
          intro j u hu
          have hpos : 0 < l.length := by
            have := List.getElem?_eq_some_iff.1 hu
            obtain ⟨h1, _⟩ := this
            rw [cells_length] at h1
            omega
          obtain ⟨b', o', e, _, hc'⟩ := HLL.out hpos
          injection e with e
          subst e
          exact Lev.src hc' j u hu
        have HS := Lib.hid hsrc
        clear hsrc
        go_wp2_with (at_builtin; refine wpList_append_own _ rfl _ _ 22 rfl (w.heap.size + 1) 47 i0 (.agg #[.int .i64 0, .int .i64 0]) 2 16 Tryz.underlying22 hi hz0 hz1 hz2 rfl (by decide) u3 acc.length (cells acc) rfl (HR.out.alloc _) a l.length ci (cells l) rfl (cells_length l) HS.out (cells_one l) ?c1 ?c2 ?c3 ?_)
        case c1 => have := hlk.out; unfold Few at this; unfold maxLen; omega
        case c2 => have := hlk.out; unfold Few at this; omega
        case c3 => simp; omega
        intro v w1 ho hg _
        have HX := Lib.hid (HN.out v w1 ho hg)
        clear ho hg
        go_wp2
        go_roundw
        case rel => exact ⟨k + 1, by omega, by go_num, HX.out.1, HX.out.2⟩
        case measure => simp [intOf]; omega
    · obtain rfl : k = ls.length := by omega
      rw [List.take_length] at hrow
      obtain ⟨A1, n1, m1, rfl⟩ := own_slice hrow
      have hrow2 : wr.ownsRow (w.heap.size + 1) 47 2 (.slice A1 n1 m1) (flat ls).length (cells (flat ls)) := hrow
      obtain ⟨rfl, hl1, hc1⟩ := own_lev hrow2
      have HG := Lib.hid (gather_nf A1 (flat ls) m1 wr HF.out hl1 hc1 HO.out)
      have X2 : Hid (wr.heap[w.heap.size]? = some (.cells #[.slice none 0 0] 24 (0, 0))) := (hb.block _ (by omega)).trans X1.out
      have HBB := Lib.hid hB
      clear hrow hrow2 hl1 hc1 hb hB
      go_wp2_with (fail)
      refine HG.out.mono ?_
      rintro e w1 ⟨v, rfl, hrow, hb1⟩
      obtain ⟨A2, n2, m2, rfl⟩ := own_slice hrow
      have hr := (hb1.block w.heap.size (by omega)).trans X2.out
      have f5 := cell_of_one hr
      have f6 := free_of_one hr
      have HFIN : Hid (LvlPost w (nf (flat ls)) (.returned (.agg #[.slice A2 n2 m2])) (w1.setCell ⟨w.heap.size, 0, none⟩ (.slice A2 n2 m2))) :=
        ⟨_, rfl, own_base (ownsRow_setCell_below hrow (by show w.heap.size < wr.heap.size; omega) _) (by omega), (HBB.out.trans (hb1.mono (by omega))).setCell (Nat.le_refl _) _⟩
      clear hr hrow hb1
      go_wp2
      exact bodyPost_ret (v := .agg #[.slice A2 n2 m2]) (by simp [results, Tryz.results15, go_sem, f5]) rfl HFIN.out

end Go.Proofs.YtldalfikpklfdaaGreat
