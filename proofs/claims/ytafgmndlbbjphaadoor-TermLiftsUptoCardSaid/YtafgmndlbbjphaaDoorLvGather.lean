/- What level's 'gather' answers of parts that may stand in a normal form: their normal form, in a row of its own; of at most a million of them. -/
import Derived.Test.YtafgmndlbbjphaaDoorLvNormal
import Derived.Test.YtafgmndlbbjphaaDoorLvLevel
import Derived.Defers
import Derived.Recover
namespace Go.Proofs.YtafgmndlbbjphaaDoor
open Go.RowKit Go.Maps

theorem snoc_ind {α : Type} {P : List α → Prop} (h0 : P []) (h1 : ∀ l x, P l → P (l ++ [x])) : ∀ l, P l := by
  intro l
  rw [← List.reverse_reverse l]
  generalize l.reverse = r
  induction r with
  | nil => exact h0
  | cons x r ih => rw [List.reverse_cons]; exact h1 _ _ ih

/-- The map of parts: of each variable the greatest Plus. -/
def mapOf (ps : List (Int × Int)) : Int → Option Int := ps.foldl (fun m p => upd m p.1 p.2) (fun _ => none)
theorem mapOf_snoc (ps : List (Int × Int)) (p : Int × Int) : mapOf (ps ++ [p]) = upd (mapOf ps) p.1 p.2 := by simp [mapOf, List.foldl_append]
theorem mapOf_mem (ps : List (Int × Int)) : ∀ k v, mapOf ps k = some v → (k, v) ∈ ps := by
  refine snoc_ind (P := fun ps => ∀ k v, mapOf ps k = some v → (k, v) ∈ ps) ?_ ?_ ps
  · intro k v h; simp [mapOf] at h
  · intro ps p ih k v h
    rw [mapOf_snoc] at h
    unfold upd at h
    by_cases e : k = p.1
    · subst e
      simp only [if_true] at h
      rcases hm : mapOf ps p.1 with _ | u
      · rw [hm] at h
        injection h with h
        subst h
        simp
      · rw [hm] at h
        simp only [Option.some.injEq] at h
        by_cases hlt : u < p.2
        · rw [if_pos hlt] at h; subst h; simp
        · rw [if_neg hlt] at h; subst h; simp [ih _ _ hm]
    · simp only [e, if_false] at h
      simp [ih _ _ h]
theorem mapOf_some (ps : List (Int × Int)) : ∀ k v, (k, v) ∈ ps → ∃ u, mapOf ps k = some u ∧ v ≤ u := by
  refine snoc_ind (P := fun ps => ∀ k v, (k, v) ∈ ps → ∃ u, mapOf ps k = some u ∧ v ≤ u) ?_ ?_ ps
  · intro k v h; simp at h
  · intro ps p ih k v h
    rw [mapOf_snoc]
    unfold upd
    rw [List.mem_append] at h
    by_cases e : k = p.1
    · subst e
      simp only [if_true]
      rcases h with h | h
      · obtain ⟨u, hu, hv⟩ := ih _ _ h
        rw [hu]
        by_cases hlt : u < p.2
        · exact ⟨_, rfl, by simp [hlt]; omega⟩
        · exact ⟨_, rfl, by simp [hlt]; omega⟩
      · simp at h
        have hv : v = p.2 := by rw [← h]
        subst hv
        rcases hm : mapOf ps p.1 with _ | u
        · exact ⟨_, rfl, by simp⟩
        · by_cases hlt : u < p.2
          · exact ⟨_, rfl, by simp [hlt]⟩
          · exact ⟨_, rfl, by simp [hlt]; omega⟩
    · simp only [e, if_false]
      rcases h with h | h
      · exact ih _ _ h
      · simp at h; exact absurd (by rw [← h]) e

theorem normal_level {ps : List (Int × Int)} (h : Normal ps) : IsLevel (mapOf ps) ps := by
  have hstep : ∀ i j, i < j → j < ps.length → (ps.getD i (0, 0)).1 < (ps.getD j (0, 0)).1 := by
    intro i j hij hj
    induction j with
    | zero => omega
    | succ j ih =>
      have h1 := ((h.1 (j + 1) hj).2 (by omega)).1
      rw [Nat.add_sub_cancel] at h1
      rcases Nat.lt_succ_iff_lt_or_eq.1 hij with hlt | rfl
      · have := ih hlt (by omega); omega
      · exact h1
  have hget : ∀ i (hi : i < ps.length), ps.getD i (0, 0) = ps[i] := fun i hi => by rw [List.getD_eq_getElem?_getD, List.getElem?_eq_getElem hi]; rfl
  have hpw : ps.Pairwise (fun p q => p.1 < q.1) := by
    rw [List.pairwise_iff_getElem]
    intro i j hi hj hij
    have := hstep i j hij hj
    rwa [hget i hi, hget j hj] at this
  have huniq : ∀ k u v, (k, u) ∈ ps → (k, v) ∈ ps → u = v := by
    intro k u v hu hv
    obtain ⟨i, hi, hiu⟩ := List.getElem_of_mem hu
    obtain ⟨j, hj, hjv⟩ := List.getElem_of_mem hv
    rcases Nat.lt_trichotomy i j with hlt | rfl | hlt
    · have := hstep i j hlt hj; rw [hget i hi, hget j hj, hiu, hjv] at this; simp at this
    · rw [hiu] at hjv; simpa using hjv
    · have := hstep j i hlt hi; rw [hget i hi, hget j hj, hiu, hjv] at this; simp at this
  have hmap : ∀ k v, mapOf ps k = some v ↔ (k, v) ∈ ps := fun k v => by
    refine ⟨mapOf_mem ps k v, fun hkv => ?_⟩
    obtain ⟨u, hu, _⟩ := mapOf_some ps k v hkv
    rw [hu, huniq k u v (mapOf_mem ps k u hu) hkv]
  refine ⟨hpw, fun p => ?_⟩
  unfold Kept
  rw [hmap]
  refine ⟨fun hp => ⟨hp, fun h0 => ?_⟩, fun hp => hp.1⟩
  obtain ⟨i, hi, hip⟩ := List.getElem_of_mem hp
  have hi0 : i = 0 := by
    rcases Nat.eq_zero_or_pos i with e | e
    · exact e
    · have h1 := hstep 0 i e hi
      have h2 := (h.1 0 (by omega)).1.1
      rw [hget i hi, hip] at h1
      omega
  subst hi0
  have g0 : (ps.getD 0 (0, 0)).1 = 0 := by rw [hget 0 hi, hip]; exact h0
  have g1 : (ps.getD 0 (0, 0)).2 = p.2 := by rw [hget 0 hi, hip]
  refine ⟨?_, fun j u hj hju => ?_⟩
  · rcases h.2 with e | e | e
    · omega
    · exact absurd g0 e
    · rw [g1] at e; exact e
  · have hm := (hmap j u).1 hju
    obtain ⟨q, hq, hqp⟩ := List.getElem_of_mem hm
    have hq0 : 0 < q := by
      rcases Nat.eq_zero_or_pos q with e | e
      · subst e
        rw [hget 0 hi, hqp] at g0
        exact absurd g0 hj
      · exact e
    have := ((h.1 q hq).2 hq0).2 g0
    rw [hget q hq, hqp, g1] at this
    exact this

def GatherPost (w : World) (ps : List (Int × Int)) (e : Ending) (w' : World) : Prop :=
  ∃ v qs, e = .returned (.agg #[v]) ∧ IsLevel (mapOf ps) qs ∧ w'.ownsRow w.heap.size 71 2 v qs.length (cells qs) ∧ Below w.heap.size w w'

set_option maxRecDepth 100000 in
theorem catch_idle (p : Addr) (w : World) :
    CallsD Tryd.prog 52 #[.pointer (some p)] .returning w fun e u' w' => e = .returned (.tuple #[]) ∧ u' = .returning ∧ w' = w := by
  refine callsD_of_wpS Tryd.func52 rfl fun c₀ cs hu => ?_
  apply wpS_seq
  apply wpS_region
  simp [wpOpsS, go_sem, recoverD, hu, Tryd.ntmps52, Exit.thenS]
  refine wpS_cond (t := false) (by simp [Act.eval, Array.replicate]) ?_
  simp only [Bool.false_eq_true, if_false]
  refine wpS_of_wp (wp_skip ?_)
  cases c₀
  simp_all [bodyPostS, results, Tryd.results52]

theorem grown_alloc {a w : World} {row : Option Nat} (h : a.grownBy w row) (o : Obj) : a.grownBy (w.alloc o) row :=
  ⟨h.os, h.tape, h.output, Nat.le_trans h.size (by simp), fun i hi hne => (Below.heap_alloc w o i (Nat.lt_of_lt_of_le hi h.size)).trans (h.block i hi hne)⟩

set_option maxRecDepth 100000 in
set_option maxHeartbeats 2000000 in
theorem gather_normal (A : Option Addr) (ps : List (Int × Int)) (c : Nat) (w : World) (hm : Few ps.length) (h : Lev w w.heap.size A ps) (hc : A = none → c = 0) (hN : Normal ps) :
    Calls Tryd.prog 41 #[.slice A ps.length c] w (GatherPost w ps) := by
  have hb0 : Below w.heap.size w (w.alloc (.cells #[.slice none 0 0] 56)) := (Below.refl _ _).alloc (Nat.le_refl _) _
  have hL1 : Lev (w.alloc (.cells #[.slice none 0 0] 56)) (w.heap.size + 1) A ps := (h.below hb0).more (by omega)
  have hml : ps.length ≤ maxLen := by unfold Few at hm; unfold maxLen; omega
  have HC := Lib.hid (normal_any A ps c _ (w.heap.size + 1) (by simp) hml hL1 true (by simpa using hN))
  have HM := Lib.hid hm
  have HA := Lib.hid hc
  have HL := Lib.hid hL1
  have HN := Lib.hid hN
  have a1 := heap_alloc_new w (.cells #[.slice none 0 0] 56)
  have A1 := Lib.hid a1
  have HB := Lib.hid hb0
  clear hm hc hL1 hml h hb0 hN a1
  go_enter_defers Tryd.func41, Tryd.ntmps41
  go_wp2_with (fail)
  refine HC.out.mono ?_
  rintro e w1 ⟨rfl, hb1⟩
  have e1 : w1.heap[w.heap.size]? = some (.cells #[.slice none 0 0] 56 (0, 0)) := (hb1.block _ (by omega)).trans A1.out
  have e2 : Below w.heap.size w w1 := HB.out.trans (hb1.mono (by omega))
  have hz : w.heap.size + 1 ≤ w1.heap.size := by have := hb1.size; simp at this; omega
  have HC2 := Lib.hid (clone_any A ps c w1 (w.heap.size + 1) hz HM.out (HL.out.below hb1) HA.out)
  have E1 := Lib.hid e1
  have E2 := Lib.hid e2
  clear hb1 e1 e2
  go_wp2_with (fail)
  refine HC2.out.mono ?_
  rintro e w2 ⟨v, rfl, hrow, hb2⟩
  obtain ⟨A1', n1, m1, rfl⟩ := own_slice hrow
  have hr := (hb2.block w.heap.size (by omega)).trans E1.out
  have f5 := cell_of_one hr
  have f6 := free_of_one hr
  have HF : Hid (GatherPost w ps (.returned (.agg #[.slice A1' n1 m1])) (w2.setCell ⟨w.heap.size, 0, none⟩ (.slice A1' n1 m1))) :=
    ⟨_, ps, rfl, normal_level HN.out, own_base (ownsRow_setCell_below hrow (by show w.heap.size < w1.heap.size; omega) _) (by omega), (E2.out.trans (hb2.mono (by omega))).setCell (Nat.le_refl _) _⟩
  clear hr hrow hb2
  go_wp2
  have hx := HF.out
  simp [bodyPostD, Leaves, results, Tryd.results41, go_sem, f5]
  exact hx

theorem mapOf_take {ps : List (Int × Int)} {k : Nat} (hk : k < ps.length) : mapOf (ps.take (k + 1)) = upd (mapOf (ps.take k)) (ps.getD k (0, 0)).1 (ps.getD k (0, 0)).2 := by
  rw [List.take_succ_eq_append_getElem hk, mapOf_snoc, List.getD_eq_getElem?_getD, List.getElem?_eq_getElem hk]
  rfl

set_option maxRecDepth 100000 in
set_option maxHeartbeats 2000000 in
theorem gather_slow (A : Option Addr) (ps : List (Int × Int)) (c : Nat) (w : World) (hm : Few ps.length) (h : Lev w w.heap.size A ps) (hok : ∀ p ∈ ps, okPart p) (hN : ¬ Normal ps) :
    Calls Tryd.prog 41 #[.slice A ps.length c] w (GatherPost w ps) := by
  have hmf : ∀ (fn : Fn) (first cap : Array Value) (w : World), (Instr.makeFunc fn first cap).run Tryd.prog w = .ok (.func fn first cap) w := fun _ _ _ _ => rfl
  have hmm := @run_makeMap Tryd.prog
  have hb0 : Below w.heap.size w (w.alloc (.cells #[.slice none 0 0] 56)) := (Below.refl _ _).alloc (Nat.le_refl _) _
  have hL1 : Lev (w.alloc (.cells #[.slice none 0 0] 56)) (w.heap.size + 1) A ps := (h.below hb0).more (by omega)
  have hml : ps.length ≤ maxLen := by unfold Few at hm; unfold maxLen; omega
  have HC := Lib.hid (normal_any A ps c _ (w.heap.size + 1) (by simp) hml hL1 false (by simpa using hN))
  have HM := Lib.hid hm
  have HL := Lib.hid hL1
  have HOK := Lib.hid hok
  have a1 := heap_alloc_new w (.cells #[.slice none 0 0] 56)
  have A1 := Lib.hid a1
  have HB := Lib.hid hb0
  have hlen : ps.length ≤ 9223372036854775807 := by unfold Few at hm; omega
  clear hm hL1 hml h hb0 hN a1 hok
  go_enter_defers Tryd.func41, Tryd.ntmps41
  go_wp2_with (fail)
  refine HC.out.mono ?_
  rintro e w1 ⟨rfl, hb1⟩
  have hz : w.heap.size + 1 ≤ w1.heap.size := by have := hb1.size; simp at this; omega
  obtain ⟨x1, x2, x3⟩ := two_allocs w1 (.map #[] 0) (.cells #[.map (some w1.heap.size)] 84)
  have e1 : ((w1.alloc (.map #[] 0)).alloc (.cells #[.map (some w1.heap.size)] 84)).heap[w.heap.size]? = some (.cells #[.slice none 0 0] 56 (0, 0)) := (x3 _ (by omega)).trans ((hb1.block _ (by omega)).trans A1.out)
  have e2 : Below w.heap.size w ((w1.alloc (.map #[] 0)).alloc (.cells #[.map (some w1.heap.size)] 84)) := ((HB.out.trans (hb1.mono (by omega))).alloc (by omega) _).alloc (by simp; omega) _
  have e3 : Lev ((w1.alloc (.map #[] 0)).alloc (.cells #[.map (some w1.heap.size)] 84)) (w.heap.size + 1) A ps := (HL.out.below hb1).below (((Below.refl _ _).alloc hz _).alloc (by simp; omega) _)
  have e4 : Mp ((w1.alloc (.map #[] 0)).alloc (.cells #[.map (some w1.heap.size)] 84)) w1.heap.size 0 (mapOf (ps.take 0)) :=
    mp_at (w := w1.alloc (.map #[] 0)) ⟨_, World.ownsMap_made _ _ _ _, ⟨isMap_empty, fun k => ⟨by simp [mapOf, has_eq], fun z v hv => by simp [mapOf] at hv⟩⟩⟩ (Below.heap_alloc _ _ _ (by simp))
  have X2 := Lib.hid x2
  have E1 := Lib.hid e1
  have E2 := Lib.hid e2
  have E3 := Lib.hid e3
  have E4 := Lib.hid e4
  clear x1 x2 x3 e1 e2 e3 e4 hb1
  go_wp2
  go_loopw [17] (fun i wr => ∃ k : Nat, k ≤ ps.length ∧ i = .int .i64 k ∧ Mp wr w1.heap.size k (mapOf (ps.take k)) ∧ ((w1.alloc (.map #[] 0)).alloc (.cells #[.map (some w1.heap.size)] 84)).grownBy wr (some w1.heap.size)) (fun i _ => ps.length - (intOf i).toNat)
  case atStart => exact ⟨0, Nat.zero_le _, rfl, E4.out, World.grownBy.refl _ _⟩
  case round =>
    obtain ⟨k, hk, rfl, hmp, hg⟩ := hrel
    have hgz := hg.size
    simp at hgz
    by_cases hlt : k < ps.length
    · obtain ⟨b, o, rfl, hbB, hcell⟩ := E3.out (by omega)
      have c0 := (World.cell?_of_block (a := ⟨b, o + k * 2, none⟩) (hg.block b (by simp; omega) (by simp; omega))).trans (hcell k hlt).1
      have c1 := (World.cell?_of_block (a := ⟨b, o + k * 2 + 1, none⟩) (hg.block b (by simp; omega) (by simp; omega))).trans (hcell k hlt).2
      have f1 := cell_of_one ((hg.block (w1.heap.size + 1) (by simp) (by simp)).trans X2.out)
      have hbw : b < wr.heap.size := by omega
      have hw1 : w1.heap.size + 1 < wr.heap.size := by omega
      have hin : ps.getD k (0, 0) ∈ ps := by rw [List.getD_eq_getElem?_getD, List.getElem?_eq_getElem hlt]; exact List.getElem_mem hlt
      have hq := HOK.out _ hin
      have hup := mapOf_take hlt
      obtain ⟨x, hx⟩ : ∃ x, x = (ps.getD k (0, 0)).1 := ⟨_, rfl⟩
      obtain ⟨y, hy⟩ : ∃ y, y = (ps.getD k (0, 0)).2 := ⟨_, rfl⟩
      unfold okPart at hq
      rw [← hx, ← hy] at hq
      rw [← hx] at c0
      rw [← hy] at c1
      rw [← hx, ← hy] at hup
      have HUP := Lib.hid hup
      have HQ := Lib.hid hq
      have HMP := Lib.hid hmp
      have HG := Lib.hid hg
      have hk20 : k < 2199023255552 := by have := HM.out; unfold Few at this; omega
      have HADD := Lib.hid (fun W (h : Mp W w1.heap.size k (mapOf (ps.take k))) => add_any w1.heap.size k (mapOf (ps.take k)) x y W h hk20 ⟨hq.1, hq.2.2.1⟩ ⟨hq.2.1, hq.2.2.2⟩)
      clear hup hq hin hx hy hmp hg hcell hk20
      go_wp2_with (fail)
      refine (HADD.out _ (mp_at HMP.out (Below.heap_alloc _ _ _ (by omega)))).mono ?_
      rintro e w2 ⟨rfl, hmp2, hg2⟩
      have HF : Hid (Mp w2 w1.heap.size (k + 1) (mapOf (ps.take (k + 1))) ∧ ((w1.alloc (.map #[] 0)).alloc (.cells #[.map (some w1.heap.size)] 84)).grownBy w2 (some w1.heap.size)) :=
        ⟨by rw [HUP.out]; exact hmp2, grown_then (grown_alloc HG.out _) hg2⟩
      clear hmp2 hg2
      go_wp2
      go_roundw
      case rel => exact ⟨k + 1, by omega, by go_num, HF.out.1, HF.out.2⟩
      case measure => simp [intOf]; omega
    · obtain rfl : k = ps.length := by omega
      rw [List.take_of_length_le (Nat.le_refl _)] at hmp
      have hv : ∀ k v, mapOf ps k = some v → 0 ≤ v ∧ 0 ≤ k ∧ k ≤ 1048576 := fun k v hkv => by
        have hq := HOK.out _ (mapOf_mem ps k v hkv)
        unfold okPart at hq
        simp only at hq
        omega
      have HLV := Lib.hid (level_any w1.heap.size ps.length (mapOf ps) wr hmp (by have := HM.out; unfold Few at this; omega) hv)
      have f1 := cell_of_one ((hg.block (w1.heap.size + 1) (by simp) (by simp)).trans X2.out)
      have HG := Lib.hid hg
      clear hmp hv hlt hk hg
      go_wp2_with (fail)
      refine HLV.out.mono ?_
      rintro e w2 ⟨v, qs, rfl, hq, hrow, hg2⟩
      obtain ⟨A2, n2, m2, rfl⟩ := own_slice hrow
      have hr := (hg2.block w.heap.size (by omega) (by simp; omega)).trans ((HG.out.block w.heap.size (by simp; omega) (by simp; omega)).trans E1.out)
      have f5 := cell_of_one hr
      have f6 := free_of_one hr
      have hb2 : Below w.heap.size w w2 := (E2.out.grown HG.out (by simp; omega) (fun r e => by cases e; omega)).grown hg2 (by omega) (fun r e => by cases e; omega)
      have HF : Hid (GatherPost w ps (.returned (.agg #[.slice A2 n2 m2])) (w2.setCell ⟨w.heap.size, 0, none⟩ (.slice A2 n2 m2))) :=
        ⟨_, qs, rfl, hq, own_base (ownsRow_setCell_below hrow (by show w.heap.size < wr.heap.size; omega) _) (by omega), hb2.setCell (Nat.le_refl _) _⟩
      clear hr hrow hb2 hq hg2
      go_wp2
      refine leaves_cons (f := 52) (args := #[.pointer (some ⟨w.heap.size, 0, none⟩)]) (by simp) (by simp [go_sem]) ?_
      refine (catch_idle ⟨w.heap.size, 0, none⟩ _).mono ?_
      rintro e u' w'' ⟨rfl, rfl, rfl⟩
      have hx := HF.out
      simp [Leaves, settle, results, Tryd.results41, go_sem, f5]
      exact hx

/-- WHATEVER THE PARTS, so they may stand in a normal form. -/
theorem gather_ok (A : Option Addr) (ps : List (Int × Int)) (c : Nat) (w : World) (hm : Few ps.length) (h : Lev w w.heap.size A ps) (hc : A = none → c = 0) (hok : ∀ p ∈ ps, okPart p) :
    Calls Tryd.prog 41 #[.slice A ps.length c] w (GatherPost w ps) := by
  rcases Classical.em (Normal ps) with hN | hN
  · exact gather_normal A ps c w hm h hc hN
  · exact gather_slow A ps c w hm h hok hN

end Go.Proofs.YtafgmndlbbjphaaDoor
