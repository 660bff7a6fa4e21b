/- What the sameness of parts, of levels answers: whether they are node by node; no condition but that there are not too many. -/
import Derived.Test.YtafgmndlbbjphaaDoorLvMk
namespace Go.Proofs.YtafgmndlbbjphaaDoor
open Go.RowKit Go.Maps

set_option maxRecDepth 100000 in
set_option maxHeartbeats 2000000 in
theorem sameParts_any (A A' : Option Addr) (ps qs : List (Int × Int)) (c c' : Nat) (w : World) (hm : ps.length ≤ maxLen) (hm' : qs.length ≤ maxLen) (h : Lev w w.heap.size A ps) (h' : Lev w w.heap.size A' qs) (r : Bool) (hr : r = true ↔ ps = qs) :
    Calls Tryd.prog 60 #[.slice A ps.length c, .slice A' qs.length c'] w (HasPost w r) := by
  unfold maxLen at hm hm'
  have HR := Lib.hid hr
  clear hr
  by_cases hl : ps.length = qs.length
  · have lf : ((ps.length : Int) != (qs.length : Int)) = false := by simp [hl]
    have HLL := Lib.hid hl
    have HL := Lib.hid h
    have HL' := Lib.hid h'
    clear hl h h'
    go_enter Tryd.func60, Tryd.ntmps60
    go_wp2
    go_loopw [5] (fun i wr => ∃ k : Nat, k ≤ ps.length ∧ i = .int .i64 k ∧ Below w.heap.size w wr ∧ ∀ j, j < k → ps[j]? = qs[j]?) (fun i _ => ps.length - (intOf i).toNat)
    case atStart => exact ⟨0, Nat.zero_le _, rfl, Below.refl _ _, fun j hj => absurd hj (by omega)⟩
    case round =>
      obtain ⟨k, hk, rfl, hb, hs⟩ := hrel
      by_cases hlt : k < ps.length
      · have hlt' : k < qs.length := by have := HLL.out; omega
        obtain ⟨b, o, rfl, hbB, hcell⟩ := HL.out (by omega)
        obtain ⟨b', o', rfl, hbB', hcell'⟩ := HL'.out (by omega)
        have c0 := (hb.cell hbB).trans (hcell k hlt).1
        have c1 := (hb.cell hbB).trans (hcell k hlt).2
        have d0 := (hb.cell hbB').trans (hcell' k hlt').1
        have d1 := (hb.cell hbB').trans (hcell' k hlt').2
        obtain ⟨x, hx⟩ : ∃ x, x = (ps.getD k (0, 0)).1 := ⟨_, rfl⟩
        obtain ⟨y, hy⟩ : ∃ y, y = (ps.getD k (0, 0)).2 := ⟨_, rfl⟩
        obtain ⟨x', hx'⟩ : ∃ x, x = (qs.getD k (0, 0)).1 := ⟨_, rfl⟩
        obtain ⟨y', hy'⟩ : ∃ y, y = (qs.getD k (0, 0)).2 := ⟨_, rfl⟩
        rw [← hx] at c0
        rw [← hy] at c1
        rw [← hx'] at d0
        rw [← hy'] at d1
        have hp : ps[k]? = some (x, y) := by rw [hx, hy, List.getD_eq_getElem?_getD, List.getElem?_eq_getElem hlt]; rfl
        have hq : qs[k]? = some (x', y') := by rw [hx', hy', List.getD_eq_getElem?_getD, List.getElem?_eq_getElem hlt']; rfl
        have HP := Lib.hid hp
        have HQ := Lib.hid hq
        have HS := Lib.hid hs
        have HB := Lib.hid hb
        have ij0 : (0 : Int) ≤ (k : Int) := by omega
        have ij1 : (k : Int) < (ps.length : Int) := by omega
        have ij2 : (k : Int) < (qs.length : Int) := by omega
        clear hs hp hq hx hy hx' hy' hcell hcell' hb
        by_cases t : x = x' ∧ y = y'
        · obtain ⟨rfl, rfl⟩ := t
          go_wp2
          go_quiet (fail)
          go_wp2
          have HF : Hid (∀ j, j < k + 1 → ps[j]? = qs[j]?) := fun j hj => by
            rcases Nat.lt_succ_iff_lt_or_eq.1 hj with hj | rfl
            · exact HS.out j hj
            · rw [HP.out, HQ.out]
          go_roundw
          case rel => exact ⟨k + 1, by omega, by go_num, below_drewN HB.out _, HF.out⟩
          case measure => simp [intOf]; omega
        · have HF : Hid (∀ n, HasPost w r (.returned (.bool false)) (wr.drewN n)) := fun n => ⟨by
            have : r = false := by
              rcases r with _ | _
              · rfl
              · have e := HR.out.1 rfl
                have h1 := HP.out
                rw [e, HQ.out] at h1
                injection h1 with h1
                injection h1 with h1 h2
                exact absurd ⟨h1.symm, h2.symm⟩ t
            rw [this], below_drewN HB.out n⟩
          by_cases tx : x = x'
          · subst tx
            have yf : (y == y') = false := by simpa using t
            clear t
            go_wp2
            go_quiet (fail)
            go_wp2
            go_ret
            exact HF.out _
          · have xf : (x == x') = false := by simpa using tx
            clear t tx
            go_wp2
            go_quiet (fail)
            go_wp2
            go_ret
            exact HF.out _
      · obtain rfl : k = ps.length := by omega
        have HF : Hid (HasPost w r (.returned (.bool true)) wr) := ⟨by
          have : r = true := HR.out.2 (List.ext_getElem? fun j => by
            by_cases hj : j < ps.length
            · exact hs j hj
            · rw [List.getElem?_eq_none (by omega), List.getElem?_eq_none (by have := HLL.out; omega)])
          rw [this], hb⟩
        clear hs hb
        go_wp2
        go_ret
        exact HF.out
  · have lf : ((ps.length : Int) != (qs.length : Int)) = true := by simp; omega
    have HF : Hid (HasPost w r (.returned (.bool false)) w) := ⟨by
      have : r = false := by
        rcases r with _ | _
        · rfl
        · exact absurd (congrArg List.length (HR.out.1 rfl)) hl
      rw [this], Below.refl _ _⟩
    clear hl h h'
    go_enter Tryd.func60, Tryd.ntmps60
    go_wp2
    go_ret
    exact HF.out

set_option maxRecDepth 100000 in
set_option maxHeartbeats 2000000 in
theorem equal_any (A A' : Option Addr) (ps qs : List (Int × Int)) (c c' : Nat) (w : World) (hm : ps.length ≤ maxLen) (hm' : qs.length ≤ maxLen) (h : Lev w w.heap.size A ps) (h' : Lev w w.heap.size A' qs) (r : Bool) (hr : r = true ↔ ps = qs) :
    Calls Tryd.prog 39 #[.slice A ps.length c, .slice A' qs.length c'] w (HasPost w r) := by
  unfold maxLen at hm hm'
  have HR := Lib.hid hr
  clear hr
  by_cases hl : ps.length = qs.length
  · have lf : ((ps.length : Int) != (qs.length : Int)) = false := by simp [hl]
    have HLL := Lib.hid hl
    have HL := Lib.hid h
    have HL' := Lib.hid h'
    clear hl h h'
    go_enter Tryd.func39, Tryd.ntmps39
    go_wp2
    go_loopw [13] (fun i wr => ∃ k : Nat, k ≤ ps.length ∧ i = .int .i64 k ∧ Below w.heap.size w wr ∧ ∀ j, j < k → ps[j]? = qs[j]?) (fun i _ => ps.length - (intOf i).toNat)
    case atStart => exact ⟨0, Nat.zero_le _, rfl, Below.refl _ _, fun j hj => absurd hj (by omega)⟩
    case round =>
      obtain ⟨k, hk, rfl, hb, hs⟩ := hrel
      by_cases hlt : k < ps.length
      · have hlt' : k < qs.length := by have := HLL.out; omega
        obtain ⟨b, o, rfl, hbB, hcell⟩ := HL.out (by omega)
        obtain ⟨b', o', rfl, hbB', hcell'⟩ := HL'.out (by omega)
        have c0 := (hb.cell hbB).trans (hcell k hlt).1
        have c1 := (hb.cell hbB).trans (hcell k hlt).2
        have d0 := (hb.cell hbB').trans (hcell' k hlt').1
        have d1 := (hb.cell hbB').trans (hcell' k hlt').2
        obtain ⟨x, hx⟩ : ∃ x, x = (ps.getD k (0, 0)).1 := ⟨_, rfl⟩
        obtain ⟨y, hy⟩ : ∃ y, y = (ps.getD k (0, 0)).2 := ⟨_, rfl⟩
        obtain ⟨x', hx'⟩ : ∃ x, x = (qs.getD k (0, 0)).1 := ⟨_, rfl⟩
        obtain ⟨y', hy'⟩ : ∃ y, y = (qs.getD k (0, 0)).2 := ⟨_, rfl⟩
        rw [← hx] at c0
        rw [← hy] at c1
        rw [← hx'] at d0
        rw [← hy'] at d1
        have hp : ps[k]? = some (x, y) := by rw [hx, hy, List.getD_eq_getElem?_getD, List.getElem?_eq_getElem hlt]; rfl
        have hq : qs[k]? = some (x', y') := by rw [hx', hy', List.getD_eq_getElem?_getD, List.getElem?_eq_getElem hlt']; rfl
        have HP := Lib.hid hp
        have HQ := Lib.hid hq
        have HS := Lib.hid hs
        have HB := Lib.hid hb
        have ij0 : (0 : Int) ≤ (k : Int) := by omega
        have ij1 : (k : Int) < (ps.length : Int) := by omega
        have ij2 : (k : Int) < (qs.length : Int) := by omega
        clear hs hp hq hx hy hx' hy' hcell hcell' hb
        by_cases t : x = x' ∧ y = y'
        · obtain ⟨rfl, rfl⟩ := t
          go_wp2
          go_quiet (fail)
          go_wp2
          have HF : Hid (∀ j, j < k + 1 → ps[j]? = qs[j]?) := fun j hj => by
            rcases Nat.lt_succ_iff_lt_or_eq.1 hj with hj | rfl
            · exact HS.out j hj
            · rw [HP.out, HQ.out]
          go_roundw
          case rel => exact ⟨k + 1, by omega, by go_num, below_drewN HB.out _, HF.out⟩
          case measure => simp [intOf]; omega
        · have HF : Hid (∀ n, HasPost w r (.returned (.bool false)) (wr.drewN n)) := fun n => ⟨by
            have : r = false := by
              rcases r with _ | _
              · rfl
              · have e := HR.out.1 rfl
                have h1 := HP.out
                rw [e, HQ.out] at h1
                injection h1 with h1
                injection h1 with h1 h2
                exact absurd ⟨h1.symm, h2.symm⟩ t
            rw [this], below_drewN HB.out n⟩
          by_cases tx : x = x'
          · subst tx
            have yf : (y == y') = false := by simpa using t
            clear t
            go_wp2
            go_quiet (fail)
            go_wp2
            go_ret
            exact HF.out _
          · have xf : (x == x') = false := by simpa using tx
            clear t tx
            go_wp2
            go_quiet (fail)
            go_wp2
            go_ret
            exact HF.out _
      · obtain rfl : k = ps.length := by omega
        have HF : Hid (HasPost w r (.returned (.bool true)) wr) := ⟨by
          have : r = true := HR.out.2 (List.ext_getElem? fun j => by
            by_cases hj : j < ps.length
            · exact hs j hj
            · rw [List.getElem?_eq_none (by omega), List.getElem?_eq_none (by have := HLL.out; omega)])
          rw [this], hb⟩
        clear hs hb
        go_wp2
        go_ret
        exact HF.out
  · have lf : ((ps.length : Int) != (qs.length : Int)) = true := by simp; omega
    have HF : Hid (HasPost w r (.returned (.bool false)) w) := ⟨by
      have : r = false := by
        rcases r with _ | _
        · rfl
        · exact absurd (congrArg List.length (HR.out.1 rfl)) hl
      rw [this], Below.refl _ _⟩
    clear hl h h'
    go_enter Tryd.func39, Tryd.ntmps39
    go_wp2
    go_ret
    exact HF.out

set_option maxRecDepth 100000 in
set_option maxHeartbeats 1000000 in
theorem sameLevel_any (A A' : Option Addr) (ps qs : List (Int × Int)) (c c' : Nat) (w : World) (hm : ps.length ≤ maxLen) (hm' : qs.length ≤ maxLen) (h : Lev w w.heap.size A ps) (h' : Lev w w.heap.size A' qs) (r : Bool) (hr : r = true ↔ ps = qs) :
    Calls Tryd.prog 45 #[.agg #[.slice A ps.length c], .agg #[.slice A' qs.length c']] w (HasPost w r) := by
  have hb0 : Below w.heap.size w ((w.alloc (.cells #[.slice A ps.length c] 56)).alloc (.cells #[.slice A' qs.length c'] 56)) := ((Below.refl _ _).alloc (Nat.le_refl _) _).alloc (by simp) _
  have HC := Lib.hid (sameParts_any A A' ps qs c c' _ hm hm' ((h.below hb0).more hb0.size) ((h'.below hb0).more hb0.size) r hr)
  have HB := Lib.hid hb0
  clear hm hm' h h' hr hb0
  go_enter Tryd.func45, Tryd.ntmps45
  go_wp2_with (fail)
  refine HC.out.mono ?_
  rintro e w1 ⟨rfl, hb1⟩
  have HF : Hid (HasPost w r (.returned (.bool r)) w1) := ⟨rfl, HB.out.trans (hb1.mono HB.out.size)⟩
  clear hb1
  go_wp2
  go_ret
  exact HF.out


/-- level.Same: the parts are the same, or each is never above the other. -/
def SameS (pa pb : List (Int × Int)) : Prop := pa = pb ∨ (LeqS pa pb ∧ LeqS pb pa)
set_option maxRecDepth 100000 in
set_option maxHeartbeats 2000000 in
theorem lsame_any (A A' : Option Addr) (pa pb : List (Int × Int)) (c c' : Nat) (w : World) (hma : Few pa.length) (hmb : Few pb.length) (ha : Lev w w.heap.size A pa) (hb : Lev w w.heap.size A' pb) (hca : A = none → c = 0) (hcb : A' = none → c' = 0)
    (hoa : ∀ p ∈ pa, okPart p) (hob : ∀ p ∈ pb, okPart p) (r : Bool) (hr : r = true ↔ SameS pa pb) :
    Calls Tryd.prog 28 #[.agg #[.slice A pa.length c], .agg #[.slice A' pb.length c']] w (HasPost w r) := by
  obtain ⟨x1, x2, x3⟩ := two_allocs w (.cells #[.slice A pa.length c] 56) (.cells #[.slice A' pb.length c'] 56)
  have hb0 : Below w.heap.size w ((w.alloc (.cells #[.slice A pa.length c] 56)).alloc (.cells #[.slice A' pb.length c'] 56)) := ((Below.refl _ _).alloc (Nat.le_refl _) _).alloc (by simp) _
  have hla : pa.length ≤ maxLen := by unfold Few at hma; unfold maxLen; omega
  have hlb : pb.length ≤ maxLen := by unfold Few at hmb; unfold maxLen; omega
  have H12 := Lib.hid (fun W (hW : Below w.heap.size w W) (r : Bool) (hr : r = true ↔ LeqS pa pb) => leq_any A A' pa pb c c' W hma hmb ((ha.below hW).more hW.size) ((hb.below hW).more hW.size) hca hcb hoa hob r hr)
  have H21 := Lib.hid (fun W (hW : Below w.heap.size w W) (r : Bool) (hr : r = true ↔ LeqS pb pa) => leq_any A' A pb pa c' c W hmb hma ((hb.below hW).more hW.size) ((ha.below hW).more hW.size) hcb hca hob hoa r hr)
  have HR := Lib.hid hr
  have HB := Lib.hid hb0
  have X1 := Lib.hid x1
  have X2 := Lib.hid x2
  by_cases t : pa = pb
  · have HE := Lib.hid (equal_any A A' pa pb c c' _ hla hlb ((ha.below hb0).more hb0.size) ((hb.below hb0).more hb0.size) true (by simpa using t))
    have hrt : r = true := hr.2 (Or.inl t)
    subst hrt
    clear hma hmb ha hb hca hcb hoa hob hr hla hlb hb0 x1 x2 x3 t
    go_enter Tryd.func28, Tryd.ntmps28
    go_wp2_with (fail)
    refine HE.out.mono ?_
    rintro e w1 ⟨rfl, hb1⟩
    have HF : Hid (HasPost w true (.returned (.bool true)) w1) := ⟨rfl, HB.out.trans (hb1.mono HB.out.size)⟩
    clear hb1
    go_wp2
    go_ret
    exact HF.out
  · have HE := Lib.hid (equal_any A A' pa pb c c' _ hla hlb ((ha.below hb0).more hb0.size) ((hb.below hb0).more hb0.size) false (by simpa using t))
    have HT := Lib.hid t
    clear hma hmb ha hb hca hcb hoa hob hr hla hlb hb0 x1 x2 x3 t
    by_cases t1 : LeqS pa pb
    · by_cases t2 : LeqS pb pa
      · have HRT : Hid (r = true) := HR.out.2 (Or.inr ⟨t1, t2⟩)
        have T1 := Lib.hid t1
        have T2 := Lib.hid t2
        clear t1 t2
        go_enter Tryd.func28, Tryd.ntmps28
        go_wp2_with (fail)
        refine HE.out.mono ?_
        rintro e w1 ⟨rfl, hb1⟩
        have e1 : Below w.heap.size w w1 := HB.out.trans (hb1.mono HB.out.size)
        have e2 := (hb1.block w.heap.size (by simp; omega)).trans X1.out
        have e3 := (hb1.block (w.heap.size + 1) (by simp)).trans X2.out
        have f1 := cell_of_one e2
        have f2 := cell_of_one e3
        have hz1 : w.heap.size + 2 ≤ w1.heap.size := by have := hb1.size; simp at this; omega
        have HL1 := Lib.hid (H12.out w1 e1 true (by simpa using T1.out))
        have E1 := Lib.hid e1
        have E2 := Lib.hid e2
        have E3 := Lib.hid e3
        clear hb1 e1 e2 e3
        go_wp2_with (fail)
        refine HL1.out.mono ?_
        rintro e w2 ⟨rfl, hb2⟩
        have e1 : Below w.heap.size w w2 := E1.out.trans (hb2.mono (by omega))
        have g1 := cell_of_one ((hb2.block w.heap.size (by omega)).trans E2.out)
        have g2 := cell_of_one ((hb2.block (w.heap.size + 1) (by omega)).trans E3.out)
        have HL2 := Lib.hid (H21.out w2 e1 true (by simpa using T2.out))
        have E4 := Lib.hid e1
        clear hb2 e1 f1 f2
        go_wp2_with (fail)
        refine HL2.out.mono ?_
        rintro e w3 ⟨rfl, hb3⟩
        have HF : Hid (HasPost w r (.returned (.bool true)) w3) := ⟨by rw [HRT.out], E4.out.trans (hb3.mono E4.out.size)⟩
        clear hb3
        go_wp2
        go_ret
        exact HF.out
      · have HRT : Hid (r = false) := by
          rcases r with _ | _
          · rfl
          · rcases HR.out.1 rfl with e | e
            · exact absurd e HT.out
            · exact absurd e.2 t2
        have T1 := Lib.hid t1
        have T2 := Lib.hid t2
        clear t1 t2
        go_enter Tryd.func28, Tryd.ntmps28
        go_wp2_with (fail)
        refine HE.out.mono ?_
        rintro e w1 ⟨rfl, hb1⟩
        have e1 : Below w.heap.size w w1 := HB.out.trans (hb1.mono HB.out.size)
        have e2 := (hb1.block w.heap.size (by simp; omega)).trans X1.out
        have e3 := (hb1.block (w.heap.size + 1) (by simp)).trans X2.out
        have f1 := cell_of_one e2
        have f2 := cell_of_one e3
        have hz1 : w.heap.size + 2 ≤ w1.heap.size := by have := hb1.size; simp at this; omega
        have HL1 := Lib.hid (H12.out w1 e1 true (by simpa using T1.out))
        have E1 := Lib.hid e1
        have E2 := Lib.hid e2
        have E3 := Lib.hid e3
        clear hb1 e1 e2 e3
        go_wp2_with (fail)
        refine HL1.out.mono ?_
        rintro e w2 ⟨rfl, hb2⟩
        have e1 : Below w.heap.size w w2 := E1.out.trans (hb2.mono (by omega))
        have g1 := cell_of_one ((hb2.block w.heap.size (by omega)).trans E2.out)
        have g2 := cell_of_one ((hb2.block (w.heap.size + 1) (by omega)).trans E3.out)
        have HL2 := Lib.hid (H21.out w2 e1 false (by simpa using T2.out))
        have E4 := Lib.hid e1
        clear hb2 e1 f1 f2
        go_wp2_with (fail)
        refine HL2.out.mono ?_
        rintro e w3 ⟨rfl, hb3⟩
        have HF : Hid (HasPost w r (.returned (.bool false)) w3) := ⟨by rw [HRT.out], E4.out.trans (hb3.mono E4.out.size)⟩
        clear hb3
        go_wp2
        go_ret
        exact HF.out
    · have HRT : Hid (r = false) := by
        rcases r with _ | _
        · rfl
        · rcases HR.out.1 rfl with e | e
          · exact absurd e HT.out
          · exact absurd e.1 t1
      have T1 := Lib.hid t1
      clear t1
      go_enter Tryd.func28, Tryd.ntmps28
      go_wp2_with (fail)
      refine HE.out.mono ?_
      rintro e w1 ⟨rfl, hb1⟩
      have e1 : Below w.heap.size w w1 := HB.out.trans (hb1.mono HB.out.size)
      have e2 := (hb1.block w.heap.size (by simp; omega)).trans X1.out
      have e3 := (hb1.block (w.heap.size + 1) (by simp)).trans X2.out
      have f1 := cell_of_one e2
      have f2 := cell_of_one e3
      have HL1 := Lib.hid (H12.out w1 e1 false (by simpa using T1.out))
      have E1 := Lib.hid e1
      clear hb1 e1 e2 e3
      go_wp2_with (fail)
      refine HL1.out.mono ?_
      rintro e w2 ⟨rfl, hb2⟩
      have HF : Hid (HasPost w r (.returned (.bool false)) w2) := ⟨by rw [HRT.out], E1.out.trans (hb2.mono E1.out.size)⟩
      clear hb2
      go_wp2
      go_ret
      exact HF.out

end Go.Proofs.YtafgmndlbbjphaaDoor
