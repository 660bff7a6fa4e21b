/- Laws. -/
import Derived.Test.YtfgnnbpbbnnnhaaDoorKqaa
import Derived.Test.YtfgnnbpbbnnnhaaDoorKqag
import Derived.Defers
import Derived.Recover
namespace Go.Proofs.YtfgnnbpbbnnnhaaDoor
open Go.RowKit Go.Maps
theorem snoc_ind {α : Type} {P : List α → Prop} (h0 : P []) (h1 : ∀ l x, P l → P (l ++ [x])) : ∀ l, P l := by
  intro l
  rw [← List.reverse_reverse l]
  generalize l.reverse = r
  induction r with
  | nil => exact h0
  | cons x r ih => rw [List.reverse_cons]; exact h1 _ _ ih
/-- The map of parts: of each variable the greatest Plus. -/
def mapOf (ps : List (Int × Int)) : Int → Option Int := ps.foldl (fun m p => upd m p.1 p.2) (fun _ => none)
theorem mapOf_snoc (ps : List (Int × Int)) (p : Int × Int) : mapOf (ps ++ [p]) = upd (mapOf ps) p.1 p.2 := by simp [mapOf, List.foldl_append]
theorem mapOf_mem (ps : List (Int × Int)) : ∀ k v, mapOf ps k = some v → (k, v) ∈ ps := by
  refine snoc_ind (P := fun ps => ∀ k v, mapOf ps k = some v → (k, v) ∈ ps) ?_ ?_ ps
  · intro k v h; simp [mapOf] at h
  · intro ps p ih k v h
    rw [mapOf_snoc] at h
    unfold upd at h
    by_cases e : k = p.1
    · subst e
      simp only [if_true] at h
      rcases hm : mapOf ps p.1 with _ | u
      · rw [hm] at h
        injection h with h
        subst h
        simp
      · rw [hm] at h
        simp only [Option.some.injEq] at h
        by_cases hlt : u < p.2
        · rw [if_pos hlt] at h; subst h; simp
        · rw [if_neg hlt] at h; subst h; simp [ih _ _ hm]
    · simp only [e, if_false] at h
      simp [ih _ _ h]
theorem mapOf_some (ps : List (Int × Int)) : ∀ k v, (k, v) ∈ ps → ∃ u, mapOf ps k = some u ∧ v ≤ u := by
  refine snoc_ind (P := fun ps => ∀ k v, (k, v) ∈ ps → ∃ u, mapOf ps k = some u ∧ v ≤ u) ?_ ?_ ps
  · intro k v h; simp at h
  · intro ps p ih k v h
    rw [mapOf_snoc]
    unfold upd
    rw [List.mem_append] at h
    by_cases e : k = p.1
    · subst e
      simp only [if_true]
      rcases h with h | h
      · obtain ⟨u, hu, hv⟩ := ih _ _ h
        rw [hu]
        by_cases hlt : u < p.2
        · exact ⟨_, rfl, by simp [hlt]; omega⟩
        · exact ⟨_, rfl, by simp [hlt]; omega⟩
      · simp at h
        have hv : v = p.2 := by rw [← h]
        subst hv
        rcases hm : mapOf ps p.1 with _ | u
        · exact ⟨_, rfl, by simp⟩
        · by_cases hlt : u < p.2
          · exact ⟨_, rfl, by simp [hlt]⟩
          · exact ⟨_, rfl, by simp [hlt]; omega⟩
    · simp only [e, if_false]
      rcases h with h | h
      · exact ih _ _ h
      · simp at h; exact absurd (by rw [← h]) e
theorem normal_level {ps : List (Int × Int)} (h : Normal ps) : IsLevel (mapOf ps) ps := by
  have hstep : ∀ i j, i < j → j < ps.length → (ps.getD i (0, 0)).1 < (ps.getD j (0, 0)).1 := by
    intro i j hij hj
    induction j with
    | zero => omega
    | succ j ih =>
      have h1 := ((h.1 (j + 1) hj).2 (by omega)).1
      rw [Nat.add_sub_cancel] at h1
      rcases Nat.lt_succ_iff_lt_or_eq.1 hij with hlt | rfl
      · have := ih hlt (by omega); omega
      · exact h1
  have hget : ∀ i (hi : i < ps.length), ps.getD i (0, 0) = ps[i] := fun i hi => by rw [List.getD_eq_getElem?_getD, List.getElem?_eq_getElem hi]; rfl
  have hpw : ps.Pairwise (fun p q => p.1 < q.1) := by
    rw [List.pairwise_iff_getElem]
    intro i j hi hj hij
    have := hstep i j hij hj
    rwa [hget i hi, hget j hj] at this
  have huniq : ∀ k u v, (k, u) ∈ ps → (k, v) ∈ ps → u = v := by
    intro k u v hu hv
    obtain ⟨i, hi, hiu⟩ := List.getElem_of_mem hu
    obtain ⟨j, hj, hjv⟩ := List.getElem_of_mem hv
    rcases Nat.lt_trichotomy i j with hlt | rfl | hlt
    · have := hstep i j hlt hj; rw [hget i hi, hget j hj, hiu, hjv] at this; simp at this
    · rw [hiu] at hjv; simpa using hjv
    · have := hstep j i hlt hi; rw [hget i hi, hget j hj, hiu, hjv] at this; simp at this
  have hmap : ∀ k v, mapOf ps k = some v ↔ (k, v) ∈ ps := fun k v => by
    refine ⟨mapOf_mem ps k v, fun hkv => ?_⟩
    obtain ⟨u, hu, _⟩ := mapOf_some ps k v hkv
    rw [hu, huniq k u v (mapOf_mem ps k u hu) hkv]
  refine ⟨hpw, fun p => ?_⟩
  unfold Kept
  rw [hmap]
  refine ⟨fun hp => ⟨hp, fun h0 => ?_⟩, fun hp => hp.1⟩
  obtain ⟨i, hi, hip⟩ := List.getElem_of_mem hp
  have hi0 : i = 0 := by
    rcases Nat.eq_zero_or_pos i with e | e
    · exact e
    · have h1 := hstep 0 i e hi
      have h2 := (h.1 0 (by omega)).1.1
      rw [hget i hi, hip] at h1
      omega
  subst hi0
  have g0 : (ps.getD 0 (0, 0)).1 = 0 := by rw [hget 0 hi, hip]; exact h0
  have g1 : (ps.getD 0 (0, 0)).2 = p.2 := by rw [hget 0 hi, hip]
  refine ⟨?_, fun j u hj hju => ?_⟩
  · rcases h.2 with e | e | e
    · omega
    · exact absurd g0 e
    · rw [g1] at e; exact e
  · have hm := (hmap j u).1 hju
    obtain ⟨q, hq, hqp⟩ := List.getElem_of_mem hm
    have hq0 : 0 < q := by
      rcases Nat.eq_zero_or_pos q with e | e
      · subst e
        rw [hget 0 hi, hqp] at g0
        exact absurd g0 hj
      · exact e
    have := ((h.1 q hq).2 hq0).2 g0
    rw [hget q hq, hqp, g1] at this
    exact this
def GatherPost (w : World) (ps : List (Int × Int)) (e : Ending) (w' : World) : Prop :=
  ∃ v qs, e = .returned (.agg #[v]) ∧ IsLevel (mapOf ps) qs ∧ w'.ownsRow w.heap.size 91 2 v qs.length (cells qs) ∧ Below w.heap.size w w'
set_option maxRecDepth 100000 in
theorem catch_idle (p : Addr) (w : World) :
    CallsD Tryd.prog 109 #[.pointer (some p)] .returning w fun e u' w' => e = .returned (.tuple #[]) ∧ u' = .returning ∧ w' = w := by
  refine callsD_of_wpS Tryd.func109 rfl fun c₀ cs hu => ?_
  apply wpS_seq
  apply wpS_region
  simp [wpOpsS, go_sem, recoverD, hu, Tryd.ntmps109, Exit.thenS]
  refine wpS_cond (t := false) (by simp [Act.eval, Array.replicate]) ?_
  simp only [Bool.false_eq_true, if_false]
  refine wpS_of_wp (wp_skip ?_)
  cases c₀
  simp_all [bodyPostS, results, Tryd.results109]
theorem grown_alloc {a w : World} {row : Option Nat} (h : a.grownBy w row) (o : Obj) : a.grownBy (w.alloc o) row :=
  ⟨h.os, h.tape, h.output, Nat.le_trans h.size (by simp), fun i hi hne => (Below.heap_alloc w o i (Nat.lt_of_lt_of_le hi h.size)).trans (h.block i hi hne)⟩
set_option maxRecDepth 100000 in
set_option maxHeartbeats 2000000 in
theorem gather_normal (A : Option Addr) (ps : List (Int × Int)) (c : Nat) (w : World) (hm : Few ps.length) (h : Lev w w.heap.size A ps) (hc : A = none → c = 0) (hN : Normal ps) :
    Calls Tryd.prog 85 #[.slice A ps.length c] w (GatherPost w ps) := by
  have hb0 : Below w.heap.size w (w.alloc (.cells #[.slice none 0 0] 39)) := (Below.refl _ _).alloc (Nat.le_refl _) _
  have hL1 : Lev (w.alloc (.cells #[.slice none 0 0] 39)) (w.heap.size + 1) A ps := (h.below hb0).more (by omega)
  have hml : ps.length ≤ maxLen := by unfold Few at hm; unfold maxLen; omega
  have HC := Lib.hid (normal_any A ps c _ (w.heap.size + 1) (by simp) hml hL1 true (by simpa using hN))
  have HM := Lib.hid hm
  have HA := Lib.hid hc
  have HL := Lib.hid hL1
  have HN := Lib.hid hN
  have a1 := heap_alloc_new w (.cells #[.slice none 0 0] 39)
  have A1 := Lib.hid a1
  have HB := Lib.hid hb0
  clear hm hc hL1 hml h hb0 hN a1
  go_enter_defers Tryd.func85, Tryd.ntmps85
  go_wp2_with (fail)
  refine HC.out.mono ?_
  rintro e w1 ⟨rfl, hb1⟩
  have e1 : w1.heap[w.heap.size]? = some (.cells #[.slice none 0 0] 39 (0, 0)) := (hb1.block _ (by omega)).trans A1.out
  have e2 : Below w.heap.size w w1 := HB.out.trans (hb1.mono (by omega))
  have hz : w.heap.size + 1 ≤ w1.heap.size := by have := hb1.size; simp at this; omega
  have HC2 := Lib.hid (clone_any A ps c w1 (w.heap.size + 1) hz HM.out (HL.out.below hb1) HA.out)
  have E1 := Lib.hid e1
  have E2 := Lib.hid e2
  clear hb1 e1 e2
  go_wp2_with (fail)
  refine HC2.out.mono ?_
  rintro e w2 ⟨v, rfl, hrow, hb2⟩
  obtain ⟨A1', n1, m1, rfl⟩ := own_slice hrow
  have hr := (hb2.block w.heap.size (by omega)).trans E1.out
  have f5 := cell_of_one hr
  have f6 := free_of_one hr
  have HF : Hid (GatherPost w ps (.returned (.agg #[.slice A1' n1 m1])) (w2.setCell ⟨w.heap.size, 0, none⟩ (.slice A1' n1 m1))) :=
    ⟨_, ps, rfl, normal_level HN.out, own_base (ownsRow_setCell_below hrow (by show w.heap.size < w1.heap.size; omega) _) (by omega), (E2.out.trans (hb2.mono (by omega))).setCell (Nat.le_refl _) _⟩
  clear hr hrow hb2
  go_wp2
  have hx := HF.out
  simp [bodyPostD, Leaves, results, Tryd.results85, go_sem, f5]
  exact hx
theorem mapOf_take {ps : List (Int × Int)} {k : Nat} (hk : k < ps.length) : mapOf (ps.take (k + 1)) = upd (mapOf (ps.take k)) (ps.getD k (0, 0)).1 (ps.getD k (0, 0)).2 := by
  rw [List.take_succ_eq_append_getElem hk, mapOf_snoc, List.getD_eq_getElem?_getD, List.getElem?_eq_getElem hk]
  rfl
set_option maxRecDepth 100000 in
set_option maxHeartbeats 2000000 in
theorem gather_slow (A : Option Addr) (ps : List (Int × Int)) (c : Nat) (w : World) (hm : Few ps.length) (h : Lev w w.heap.size A ps) (hok : ∀ p ∈ ps, okPart p) (hN : ¬ Normal ps) :
    Calls Tryd.prog 85 #[.slice A ps.length c] w (GatherPost w ps) := by
  have hmf : ∀ (fn : Fn) (first cap : Array Value) (w : World), (Instr.makeFunc fn first cap).run Tryd.prog w = .ok (.func fn first cap) w := fun _ _ _ _ => rfl
  have hmm := @run_makeMap Tryd.prog
  have hb0 : Below w.heap.size w (w.alloc (.cells #[.slice none 0 0] 39)) := (Below.refl _ _).alloc (Nat.le_refl _) _
  have hL1 : Lev (w.alloc (.cells #[.slice none 0 0] 39)) (w.heap.size + 1) A ps := (h.below hb0).more (by omega)
  have hml : ps.length ≤ maxLen := by unfold Few at hm; unfold maxLen; omega
  have HC := Lib.hid (normal_any A ps c _ (w.heap.size + 1) (by simp) hml hL1 false (by simpa using hN))
  have HM := Lib.hid hm
  have HL := Lib.hid hL1
  have HOK := Lib.hid hok
  have a1 := heap_alloc_new w (.cells #[.slice none 0 0] 39)
  have A1 := Lib.hid a1
  have HB := Lib.hid hb0
  have hlen : ps.length ≤ 9223372036854775807 := by unfold Few at hm; omega
  clear hm hL1 hml h hb0 hN a1 hok
  go_enter_defers Tryd.func85, Tryd.ntmps85
  go_wp2_with (fail)
  refine HC.out.mono ?_
  rintro e w1 ⟨rfl, hb1⟩
  have hz : w.heap.size + 1 ≤ w1.heap.size := by have := hb1.size; simp at this; omega
  obtain ⟨x1, x2, x3⟩ := two_allocs w1 (.map #[] 0) (.cells #[.map (some w1.heap.size)] 155)
  have e1 : ((w1.alloc (.map #[] 0)).alloc (.cells #[.map (some w1.heap.size)] 155)).heap[w.heap.size]? = some (.cells #[.slice none 0 0] 39 (0, 0)) := (x3 _ (by omega)).trans ((hb1.block _ (by omega)).trans A1.out)
  have e2 : Below w.heap.size w ((w1.alloc (.map #[] 0)).alloc (.cells #[.map (some w1.heap.size)] 155)) := ((HB.out.trans (hb1.mono (by omega))).alloc (by omega) _).alloc (by simp; omega) _
  have e3 : Lev ((w1.alloc (.map #[] 0)).alloc (.cells #[.map (some w1.heap.size)] 155)) (w.heap.size + 1) A ps := (HL.out.below hb1).below (((Below.refl _ _).alloc hz _).alloc (by simp; omega) _)
  have e4 : Mp ((w1.alloc (.map #[] 0)).alloc (.cells #[.map (some w1.heap.size)] 155)) w1.heap.size 0 (mapOf (ps.take 0)) :=
    mp_at (w := w1.alloc (.map #[] 0)) ⟨_, World.ownsMap_made _ _ _ _, ⟨isMap_empty, fun k => ⟨by simp [mapOf, has_eq], fun z v hv => by simp [mapOf] at hv⟩⟩⟩ (Below.heap_alloc _ _ _ (by simp))
  have X2 := Lib.hid x2
  have E1 := Lib.hid e1
  have E2 := Lib.hid e2
  have E3 := Lib.hid e3
  have E4 := Lib.hid e4
  clear x1 x2 x3 e1 e2 e3 e4 hb1
  go_wp2
  go_loopw [17] (fun i wr => ∃ k : Nat, k ≤ ps.length ∧ i = .int .i64 k ∧ Mp wr w1.heap.size k (mapOf (ps.take k)) ∧ ((w1.alloc (.map #[] 0)).alloc (.cells #[.map (some w1.heap.size)] 155)).grownBy wr (some w1.heap.size)) (fun i _ => ps.length - (intOf i).toNat)
  case atStart => exact ⟨0, Nat.zero_le _, rfl, E4.out, World.grownBy.refl _ _⟩
  case round =>
    obtain ⟨k, hk, rfl, hmp, hg⟩ := hrel
    have hgz := hg.size
    simp at hgz
    by_cases hlt : k < ps.length
    · obtain ⟨b, o, rfl, hbB, hcell⟩ := E3.out (by omega)
      have c0 := (World.cell?_of_block (a := ⟨b, o + k * 2, none⟩) (hg.block b (by simp; omega) (by simp; omega))).trans (hcell k hlt).1
      have c1 := (World.cell?_of_block (a := ⟨b, o + k * 2 + 1, none⟩) (hg.block b (by simp; omega) (by simp; omega))).trans (hcell k hlt).2
      have f1 := cell_of_one ((hg.block (w1.heap.size + 1) (by simp) (by simp)).trans X2.out)
      have hbw : b < wr.heap.size := by omega
      have hw1 : w1.heap.size + 1 < wr.heap.size := by omega
      have hin : ps.getD k (0, 0) ∈ ps := by rw [List.getD_eq_getElem?_getD, List.getElem?_eq_getElem hlt]; exact List.getElem_mem hlt
      have hq := HOK.out _ hin
      have hup := mapOf_take hlt
      obtain ⟨x, hx⟩ : ∃ x, x = (ps.getD k (0, 0)).1 := ⟨_, rfl⟩
      obtain ⟨y, hy⟩ : ∃ y, y = (ps.getD k (0, 0)).2 := ⟨_, rfl⟩
      unfold okPart at hq
      rw [← hx, ← hy] at hq
      rw [← hx] at c0
      rw [← hy] at c1
      rw [← hx, ← hy] at hup
      have HUP := Lib.hid hup
      have HQ := Lib.hid hq
      have HMP := Lib.hid hmp
      have HG := Lib.hid hg
      have hk20 : k < 2199023255552 := by have := HM.out; unfold Few at this; omega
      have HADD := Lib.hid (fun W (h : Mp W w1.heap.size k (mapOf (ps.take k))) => add_any w1.heap.size k (mapOf (ps.take k)) x y W h hk20 ⟨hq.1, hq.2.2.1⟩ ⟨hq.2.1, hq.2.2.2⟩)
      clear hup hq hin hx hy hmp hg hcell hk20
      go_wp2_with (fail)
      refine (HADD.out _ (mp_at HMP.out (Below.heap_alloc _ _ _ (by omega)))).mono ?_
      rintro e w2 ⟨rfl, hmp2, hg2⟩
      have HF : Hid (Mp w2 w1.heap.size (k + 1) (mapOf (ps.take (k + 1))) ∧ ((w1.alloc (.map #[] 0)).alloc (.cells #[.map (some w1.heap.size)] 155)).grownBy w2 (some w1.heap.size)) :=
        ⟨by rw [HUP.out]; exact hmp2, grown_then (grown_alloc HG.out _) hg2⟩
      clear hmp2 hg2
      go_wp2
      go_roundw
      case rel => exact ⟨k + 1, by omega, by go_num, HF.out.1, HF.out.2⟩
      case measure => simp [intOf]; omega
    · obtain rfl : k = ps.length := by omega
      rw [List.take_of_length_le (Nat.le_refl _)] at hmp
      have hv : ∀ k v, mapOf ps k = some v → 0 ≤ v ∧ 0 ≤ k ∧ k ≤ 1048576 := fun k v hkv => by
        have hq := HOK.out _ (mapOf_mem ps k v hkv)
        unfold okPart at hq
        simp only at hq
        omega
      have HLV := Lib.hid (level_any w1.heap.size ps.length (mapOf ps) wr hmp (by have := HM.out; unfold Few at this; omega) hv)
      have f1 := cell_of_one ((hg.block (w1.heap.size + 1) (by simp) (by simp)).trans X2.out)
      have HG := Lib.hid hg
      clear hmp hv hlt hk hg
      go_wp2_with (fail)
      refine HLV.out.mono ?_
      rintro e w2 ⟨v, qs, rfl, hq, hrow, hg2⟩
      obtain ⟨A2, n2, m2, rfl⟩ := own_slice hrow
      have hr := (hg2.block w.heap.size (by omega) (by simp; omega)).trans ((HG.out.block w.heap.size (by simp; omega) (by simp; omega)).trans E1.out)
      have f5 := cell_of_one hr
      have f6 := free_of_one hr
      have hb2 : Below w.heap.size w w2 := (E2.out.grown HG.out (by simp; omega) (fun r e => by cases e; omega)).grown hg2 (by omega) (fun r e => by cases e; omega)
      have HF : Hid (GatherPost w ps (.returned (.agg #[.slice A2 n2 m2])) (w2.setCell ⟨w.heap.size, 0, none⟩ (.slice A2 n2 m2))) :=
        ⟨_, qs, rfl, hq, own_base (ownsRow_setCell_below hrow (by show w.heap.size < wr.heap.size; omega) _) (by omega), hb2.setCell (Nat.le_refl _) _⟩
      clear hr hrow hb2 hq hg2
      go_wp2
      refine leaves_cons (f := 109) (args := #[.pointer (some ⟨w.heap.size, 0, none⟩)]) (by simp) (by simp [go_sem]) ?_
      refine (catch_idle ⟨w.heap.size, 0, none⟩ _).mono ?_
      rintro e u' w'' ⟨rfl, rfl, rfl⟩
      have hx := HF.out
      simp [Leaves, settle, results, Tryd.results85, go_sem, f5]
      exact hx
/-- WHATEVER THE PARTS, so they may stand in a normal form. -/
theorem gather_ok (A : Option Addr) (ps : List (Int × Int)) (c : Nat) (w : World) (hm : Few ps.length) (h : Lev w w.heap.size A ps) (hc : A = none → c = 0) (hok : ∀ p ∈ ps, okPart p) :
    Calls Tryd.prog 85 #[.slice A ps.length c] w (GatherPost w ps) := by
  rcases Classical.em (Normal ps) with hN | hN
  · exact gather_normal A ps c w hm h hc hN
  · exact gather_slow A ps c w hm h hok hN
end Go.Proofs.YtfgnnbpbbnnnhaaDoor
namespace Go.Proofs.YtfgnnbpbbnnnhaaDoor
open Go.RowKit Go.Maps
theorem cell_lt {w : World} {g o : Nat} {v : Value} (h : w.cell? ⟨g, o, none⟩ = some v) : g < w.heap.size := by
  rcases Nat.lt_or_ge g w.heap.size with hlt | hge
  · exact hlt
  · simp [World.cell?, Array.getElem?_eq_none hge] at h
def HasPost (w : World) (r : Bool) (e : Ending) (w' : World) : Prop := e = .returned (.bool r) ∧ Below w.heap.size w w'
theorem field_parts : ∀ (A : Option Addr) (n c : Nat) (w : World), (Instr.field 39 (.agg #[.slice A n c]) 0).run Tryd.prog w = .ok (.slice A n c) w := fun _ _ _ _ => by kernel_rfl
theorem level_len {ps qs : List (Int × Int)} (h : IsLevel (mapOf ps) qs) : qs.length ≤ ps.length := by
  have hnd : (qs.map (·.1)).Nodup := List.pairwise_map.2 (h.1.imp (fun {a c} hh => by omega))
  have hsub : ∀ x ∈ qs.map (·.1), x ∈ ps.map (·.1) := by
    intro x hx
    obtain ⟨p, hp, rfl⟩ := List.mem_map.1 hx
    exact List.mem_map.2 ⟨_, mapOf_mem ps p.1 p.2 ((h.2 p).1 hp).1, rfl⟩
  have : ∀ (l l' : List Int), l.Nodup → (∀ x ∈ l, x ∈ l') → l.length ≤ l'.length := by
    intro l
    induction l with
    | nil => intro l' _ _; simp
    | cons a l ih =>
      intro l' hn hs
      have ha := hs a (by simp)
      rw [List.nodup_cons] at hn
      have h1 := ih (l'.erase a) hn.2 (fun x hx => by
        refine (List.mem_erase_of_ne ?_).2 (hs x (by simp [hx]))
        rintro rfl
        exact hn.1 hx)
      rw [List.length_erase_of_mem ha] at h1
      have := List.length_pos_of_mem ha
      simp
      omega
  have := this _ _ hnd hsub
  simpa using this
theorem own_lev {w : World} {B : Nat} {A : Option Addr} {n c : Nat} {qs : List (Int × Int)} (h : w.ownsRow B 91 2 (.slice A n c) qs.length (cells qs)) : n = qs.length ∧ Lev w w.heap.size A qs ∧ (A = none → c = 0) := by
  rcases h.2 with ⟨e, h0⟩ | ⟨g, cap, cur, e, _, hh, _⟩
  · injection e with e1 e2 e3
    subst e1 e2 e3
    exact ⟨h0.symm, fun hp => by omega, fun _ => rfl⟩
  · injection e with e1 e2 e3
    subst e1 e2 e3
    refine ⟨rfl, fun _ => ⟨g, 0, rfl, lt_of_block hh, fun i hi => ?_⟩, fun e => by cases e⟩
    obtain ⟨c0, c1⟩ := cells_at qs i hi
    refine ⟨?_, ?_⟩
    · rw [Nat.zero_add, h.cellAt _ (by omega)]; exact c0
    · rw [Nat.zero_add, h.cellAt _ (by omega)]; exact c1
end Go.Proofs.YtfgnnbpbbnnnhaaDoor
namespace Go.Proofs.YtfgnnbpbbnnnhaaDoor
open Go.RowKit Go.Maps
/-- A row of ints in memory. -/
def Ints (w : World) (B : Nat) (A : Option Addr) (ns : List Int) : Prop :=
  0 < ns.length → ∃ b o, A = some ⟨b, o, none⟩ ∧ b < B ∧ ∀ j, j < ns.length → w.cell? ⟨b, o + j, none⟩ = some (.int .i64 (ns.getD j 0))
theorem Ints.below {w w' : World} {B : Nat} {A : Option Addr} {ns : List Int} (h : Ints w B A ns) (hb : Below B w w') : Ints w' B A ns := fun hn => by
  obtain ⟨b, o, e, hbB, hc⟩ := h hn
  exact ⟨b, o, e, hbB, fun j hj => (hb.cell hbB).trans (hc j hj)⟩
theorem Ints.more {w : World} {B B' : Nat} {A : Option Addr} {ns : List Int} (h : Ints w B A ns) (hB : B ≤ B') : Ints w B' A ns := fun hn => by
  obtain ⟨b, o, e, hb, hc⟩ := h hn
  exact ⟨b, o, e, by omega, hc⟩
end Go.Proofs.YtfgnnbpbbnnnhaaDoor
namespace Go.Proofs.YtfgnnbpbbnnnhaaDoor
open Go.RowKit Go.Maps
def insP : List (Int × Int) → Int × Int → List (Int × Int)
  | [], p => [p]
  | q :: l, p => if q.1 < p.1 then q :: insP l p else if q.1 = p.1 then (p.1, if q.2 < p.2 then p.2 else q.2) :: l else p :: q :: l
def stripL : List (Int × Int) → List (Int × Int)
  | [] => []
  | p :: l => if p.1 = 0 ∧ ¬ (0 < p.2 ∧ ∀ q ∈ l, q.2 < p.2) then l else p :: l
def baseL (ps : List (Int × Int)) : List (Int × Int) := ps.foldl insP []
def nf (ps : List (Int × Int)) : List (Int × Int) := stripL (baseL ps)
def Up (l : List (Int × Int)) : Prop := l.Pairwise (fun p q => p.1 < q.1)
def Says (l : List (Int × Int)) (m : Int → Option Int) : Prop := ∀ k v, (k, v) ∈ l ↔ m k = some v
theorem insP_mem_fst : ∀ (l : List (Int × Int)) (p q : Int × Int), q ∈ insP l p → q.1 = p.1 ∨ q ∈ l
  | [], p, q, h => by simp [insP] at h; exact Or.inl (by rw [h])
  | x :: l, p, q, h => by
    unfold insP at h
    split at h
    · rw [List.mem_cons] at h
      rcases h with rfl | h
      · exact Or.inr (by simp)
      · rcases insP_mem_fst l p q h with e | e
        · exact Or.inl e
        · exact Or.inr (by simp [e])
    · split at h
      · rw [List.mem_cons] at h
        rcases h with rfl | h
        · exact Or.inl rfl
        · exact Or.inr (by simp [h])
      · rw [List.mem_cons] at h
        rcases h with rfl | h
        · exact Or.inl rfl
        · exact Or.inr h
theorem insP_up : ∀ (l : List (Int × Int)) (p : Int × Int), Up l → Up (insP l p)
  | [], p, _ => by simp [insP, Up]
  | x :: l, p, h => by
    have hx := List.pairwise_cons.1 h
    unfold insP
    split
    · rename_i hlt
      refine List.pairwise_cons.2 ⟨fun q hq => ?_, insP_up l p hx.2⟩
      rcases insP_mem_fst l p q hq with e | e
      · omega
      · exact hx.1 q e
    · split
      · rename_i he
        exact List.pairwise_cons.2 ⟨fun q hq => by have := hx.1 q hq; simp only; omega, hx.2⟩
      · rename_i h1 h2
        refine List.pairwise_cons.2 ⟨fun q hq => ?_, h⟩
        rw [List.mem_cons] at hq
        rcases hq with rfl | hq
        · omega
        · have := hx.1 q hq; omega
theorem insP_says : ∀ (l : List (Int × Int)) (p : Int × Int) (m : Int → Option Int), Up l → Says l m → Says (insP l p) (upd m p.1 p.2)
  | [], p, m, _, hs => by
    intro k v
    have hm : ∀ k, m k = none := fun k => by
      rcases h : m k with _ | u
      · rfl
      · have := (hs k u).2 h; simp at this
    simp only [insP, List.mem_singleton, upd]
    by_cases e : k = p.1
    · subst e; simp [hm, Prod.ext_iff]; exact eq_comm
    · simp only [e, if_false, hm]
      constructor
      · intro h; exact absurd (by rw [← h]) e
      · intro h; cases h
  | x :: l, p, m, hu, hs => by
    have hx := List.pairwise_cons.1 hu
    intro k v
    have hmx : m x.1 = some x.2 := (hs x.1 x.2).1 (by simp)
    unfold insP
    split
    · rename_i hlt
      -- the head stays; the rest by induction, of the map without the head
      have hs' : Says l (fun j => if j = x.1 then none else m j) := fun j u => by
        by_cases e : j = x.1
        · subst e
          simp only [if_true]
          constructor
          · intro h; have := hx.1 _ h; simp at this
          · intro h; cases h
        · simp only [e, if_false]
          rw [← hs j u, List.mem_cons]
          constructor
          · intro h; exact Or.inr h
          · rintro (h | h)
            · exact absurd (by rw [← h]) e
            · exact h
      have ih := insP_says l p _ hx.2 hs' k v
      rw [List.mem_cons, ih]
      unfold upd
      by_cases e : k = p.1
      · subst e
        have hne : ¬ p.1 = x.1 := by omega
        simp only [if_true, hne, if_false]
        constructor
        · rintro (h | h)
          · exact absurd (by rw [← h]) hne
          · exact h
        · intro h; exact Or.inr h
      · simp only [e, if_false]
        by_cases e2 : k = x.1
        · subst e2
          simp only [if_true, hmx]
          constructor
          · rintro (h | h)
            · rw [← h]
            · cases h
          · intro h; injection h with h; exact Or.inl (by rw [← h])
        · simp only [e2, if_false]
          constructor
          · rintro (h | h)
            · exact absurd (by rw [← h]) e2
            · exact h
          · intro h; exact Or.inr h
    · split
      · rename_i he
        unfold upd
        rw [List.mem_cons]
        by_cases e : k = p.1
        · subst e
          simp only [if_true, ← he, hmx]
          constructor
          · rintro (h | h)
            · simp [Prod.ext_iff] at h; rw [h]
            · have := hx.1 _ h; simp [he] at this
          · intro h; injection h with h; exact Or.inl (by rw [← h, he])
        · simp only [e, if_false]
          rw [← hs k v, List.mem_cons]
          constructor
          · rintro (h | h)
            · exact absurd (congrArg Prod.fst h) e
            · exact Or.inr h
          · rintro (h | h)
            · exact absurd ((congrArg Prod.fst h).trans he) e
            · exact Or.inr h
      · rename_i h1 h2
        unfold upd
        rw [List.mem_cons]
        by_cases e : k = p.1
        · subst e
          have hmn : m p.1 = none := by
            rcases h : m p.1 with _ | u
            · rfl
            · have := (hs p.1 u).2 h
              rw [List.mem_cons] at this
              rcases this with h | h
              · exact absurd (by rw [← h]) h2
              · have := hx.1 _ h; simp at this; omega
          simp only [if_true, hmn]
          constructor
          · rintro (h | h)
            · rw [← h]
            · have := (hs p.1 v).1 h; rw [hmn] at this; cases this
          · intro h; injection h with h; exact Or.inl (by rw [← h])
        · simp only [e, if_false]
          rw [← hs k v]
          constructor
          · rintro (h | h)
            · exact absurd (by rw [← h]) e
            · exact h
          · intro h; exact Or.inr h
theorem baseL_snoc (ps : List (Int × Int)) (p : Int × Int) : baseL (ps ++ [p]) = insP (baseL ps) p := by simp [baseL, List.foldl_append]
theorem baseL_spec (ps : List (Int × Int)) : Up (baseL ps) ∧ Says (baseL ps) (mapOf ps) := by
  refine snoc_ind (P := fun ps => Up (baseL ps) ∧ Says (baseL ps) (mapOf ps)) ?_ ?_ ps
  · exact ⟨List.Pairwise.nil, fun k v => by simp [baseL, mapOf]⟩
  · intro ps p ih
    rw [baseL_snoc, mapOf_snoc]
    exact ⟨insP_up _ _ ih.1, insP_says _ _ _ ih.1 ih.2⟩
/-- THE NORMAL FORM IS WHAT THE MAP KEEPS. -/
theorem nf_level {ps : List (Int × Int)} (h0 : ∀ p ∈ ps, 0 ≤ p.1) : IsLevel (mapOf ps) (nf ps) := by
  obtain ⟨hu, hs⟩ := baseL_spec ps
  have hnn : ∀ p ∈ baseL ps, 0 ≤ p.1 := fun p hp => h0 _ (mapOf_mem ps p.1 p.2 ((hs p.1 p.2).1 hp))
  unfold nf
  rcases hb : baseL ps with _ | ⟨x, l⟩
  · rw [hb] at hs
    refine ⟨List.Pairwise.nil, fun p => ?_⟩
    simp only [stripL, List.not_mem_nil, false_iff]
    intro hk
    have := (hs p.1 p.2).2 hk.1
    simp at this
  · rw [hb] at hu hs hnn
    have hx := List.pairwise_cons.1 hu
    have hl0 : ∀ q ∈ l, q.1 ≠ 0 := fun q hq => by have := hx.1 q hq; have := hnn x (by simp); omega
    rw [show stripL (x :: l) = if x.1 = 0 ∧ ¬ (0 < x.2 ∧ ∀ q ∈ l, q.2 < x.2) then l else x :: l from rfl]
    split
    · rename_i hc
      refine ⟨hx.2, fun p => ?_⟩
      unfold Kept
      rw [← hs p.1 p.2]
      constructor
      · intro hp; exact ⟨by simp [hp], fun e => absurd e (hl0 p hp)⟩
      · rintro ⟨hp, hk⟩
        rw [List.mem_cons] at hp
        rcases hp with hp | hp
        · exfalso
          have hp' : p = x := hp
          subst hp'
          have := hk hc.1
          exact hc.2 ⟨this.1, fun q hq => this.2 q.1 q.2 (hl0 q hq) ((hs q.1 q.2).1 (by simp [hq]))⟩
        · exact hp
    · rename_i hc
      refine ⟨hu, fun p => ?_⟩
      unfold Kept
      rw [← hs p.1 p.2]
      refine ⟨fun hp => ⟨hp, fun e => ?_⟩, fun hp => hp.1⟩
      have hp' : p = x := by
        rw [List.mem_cons] at hp
        rcases hp with hp | hp
        · exact hp
        · exact absurd e (hl0 p hp)
      subst hp'
      have hc' : 0 < p.2 ∧ ∀ q ∈ l, q.2 < p.2 := Classical.byContradiction fun hn => hc ⟨e, hn⟩
      refine ⟨hc'.1, fun j u hj hju => ?_⟩
      have := (hs j u).2 hju
      rw [List.mem_cons] at this
      rcases this with h | h
      · exact absurd (by rw [← e, ← h]) hj
      · exact hc'.2 _ h
theorem up_ext : ∀ {l l' : List (Int × Int)}, Up l → Up l' → (∀ p, p ∈ l ↔ p ∈ l') → l = l'
  | [], [], _, _, _ => rfl
  | [], y :: l', _, _, h => by have := (h y).2 (by simp); simp at this
  | x :: l, [], _, _, h => by have := (h x).1 (by simp); simp at this
  | x :: l, y :: l', hu, hv, h => by
    have hx := List.pairwise_cons.1 hu
    have hy := List.pairwise_cons.1 hv
    have hxy : x = y := by
      have h1 := (h x).1 (by simp)
      have h2 := (h y).2 (by simp)
      rw [List.mem_cons] at h1 h2
      rcases h1 with h1 | h1
      · exact h1
      · rcases h2 with h2 | h2
        · exact h2.symm
        · have := hx.1 _ h2; have := hy.1 _ h1; omega
    subst hxy
    rw [up_ext hx.2 hy.2 (fun p => ?_)]
    have hp := h p
    rw [List.mem_cons, List.mem_cons] at hp
    constructor
    · intro hq
      rcases hp.1 (Or.inr hq) with e | e
      · subst e; have := hx.1 _ hq; omega
      · exact e
    · intro hq
      rcases hp.2 (Or.inr hq) with e | e
      · subst e; have := hy.1 _ hq; omega
      · exact e
theorem level_nf {ps qs : List (Int × Int)} (h0 : ∀ p ∈ ps, 0 ≤ p.1) (h : IsLevel (mapOf ps) qs) : qs = nf ps :=
  up_ext h.1 (nf_level h0).1 fun p => by rw [h.2, (nf_level h0).2]
end Go.Proofs.YtfgnnbpbbnnnhaaDoor
namespace Go.Proofs.YtfgnnbpbbnnnhaaDoor
open Go.RowKit Go.Maps
def LvlPost (w : World) (qs : List (Int × Int)) (e : Ending) (w' : World) : Prop :=
  ∃ v, e = .returned (.agg #[v]) ∧ w'.ownsRow w.heap.size 91 2 v qs.length (cells qs) ∧ Below w.heap.size w w'
theorem gather_nf (A : Option Addr) (ps : List (Int × Int)) (c : Nat) (w : World) (hm : Few ps.length) (h : Lev w w.heap.size A ps) (hc : A = none → c = 0) (hok : ∀ p ∈ ps, okPart p) :
    Calls Tryd.prog 85 #[.slice A ps.length c] w (LvlPost w (nf ps)) :=
  (gather_ok A ps c w hm h hc hok).mono fun _ _ ⟨v, _, he, hq, hrow, hb⟩ => by
    obtain rfl := level_nf (fun p hp => (hok p hp).1) hq
    exact ⟨v, he, hrow, hb⟩
end Go.Proofs.YtfgnnbpbbnnnhaaDoor
namespace Go.Proofs.YtfgnnbpbbnnnhaaDoor
open Go.RowKit Go.Maps
/-- A row of levels in memory: each by its slice. -/
def Levs (w : World) (B : Nat) (A : Option Addr) (ls : List (List (Int × Int))) : Prop :=
  0 < ls.length → ∃ b o, A = some ⟨b, o, none⟩ ∧ b < B ∧ ∀ i, i < ls.length → ∃ Ai ci, w.cell? ⟨b, o + i, none⟩ = some (.slice Ai (ls.getD i []).length ci) ∧ Lev w B Ai (ls.getD i []) ∧ (Ai = none → ci = 0) ∧ (ls.getD i []).length ≤ 4611686018427387904
theorem Levs.below {w w' : World} {B : Nat} {A : Option Addr} {ls : List (List (Int × Int))} (h : Levs w B A ls) (hb : Below B w w') : Levs w' B A ls := fun hn => by
  obtain ⟨b, o, e, hbB, hc⟩ := h hn
  refine ⟨b, o, e, hbB, fun i hi => ?_⟩
  obtain ⟨Ai, ci, h1, h2, h3⟩ := hc i hi
  exact ⟨Ai, ci, (hb.cell hbB).trans h1, h2.below hb, h3⟩
theorem Levs.more {w : World} {B B' : Nat} {A : Option Addr} {ls : List (List (Int × Int))} (h : Levs w B A ls) (hB : B ≤ B') : Levs w B' A ls := fun hn => by
  obtain ⟨b, o, e, hbB, hc⟩ := h hn
  refine ⟨b, o, e, by omega, fun i hi => ?_⟩
  obtain ⟨Ai, ci, h1, h2, h3⟩ := hc i hi
  exact ⟨Ai, ci, h1, h2.more hB, h3⟩
end Go.Proofs.YtfgnnbpbbnnnhaaDoor
namespace Go.Proofs.YtfgnnbpbbnnnhaaDoor
open Go.RowKit
/-- A term, as a tree: its kind, number, place, levels (each by its parts), kids. -/
inductive Tm where
  | mk (kind num pos : Int) (lv : List (List (Int × Int))) (kids : List Tm)
theorem Tm.ind {P : Tm → Prop} (h : ∀ k n a lv kids, (∀ t ∈ kids, P t) → P (.mk k n a lv kids)) : ∀ t, P t
  | .mk k n a lv kids => h k n a lv kids fun t _ => Tm.ind h t
/-- a number that a machine's word holds -/
def Rng (n : Int) : Prop := -9223372036854775808 ≤ n ∧ n ≤ 9223372036854775807
/-- levels, not too many, none of too many parts -/
def SlimL (ls : List (List (Int × Int))) : Prop := ls.length ≤ 1048576 ∧ ∀ l ∈ ls, l.length ≤ 1000000
mutual
/-- a term of words, no list of which is too long -/
def Tm.fit : Tm → Prop
  | .mk _ n _ lv kids => Rng n ∧ SlimL lv ∧ kids.length ≤ 1048576 ∧ Tm.fitL kids
def Tm.fitL : List Tm → Prop
  | [] => True
  | t :: ts => t.fit ∧ Tm.fitL ts
end
theorem Tm.fit_mk (k n a : Int) (lv : List (List (Int × Int))) (kids : List Tm) : (Tm.mk k n a lv kids).fit ↔ Rng n ∧ SlimL lv ∧ kids.length ≤ 1048576 ∧ Tm.fitL kids := by rw [Tm.fit]
theorem Tm.fitL_iff : ∀ ts : List Tm, Tm.fitL ts ↔ ∀ t ∈ ts, t.fit
  | [] => by simp [Tm.fitL]
  | t :: ts => by
    have := Tm.fitL_iff ts
    simp [Tm.fitL, this]
/-- a struct of five cells -/
def Five (w : World) (b o : Nat) (v : Value) : Prop := ∃ c0 c1 c2 c3 c4, v = .agg #[c0, c1, c2, c3, c4] ∧ w.cell? ⟨b, o, none⟩ = some c0 ∧ w.cell? ⟨b, o + 1, none⟩ = some c1 ∧ w.cell? ⟨b, o + 2, none⟩ = some c2 ∧ w.cell? ⟨b, o + 3, none⟩ = some c3 ∧ w.cell? ⟨b, o + 4, none⟩ = some c4
theorem Five.keep {w w' : World} {b o : Nat} {v : Value} (h : Five w b o v) (hk : ∀ j, w'.cell? ⟨b, j, none⟩ = w.cell? ⟨b, j, none⟩) : Five w' b o v := by
  obtain ⟨c0, c1, c2, c3, c4, e, h0, h1, h2, h3, h4⟩ := h
  exact ⟨c0, c1, c2, c3, c4, e, (hk _).trans h0, (hk _).trans h1, (hk _).trans h2, (hk _).trans h3, (hk _).trans h4⟩
mutual
/-- v is this term -/
def TmAt (w : World) (B : Nat) : Tm → Value → Prop
  | .mk k n a lv kids, v => ∃ Al cl Ak ck, v = .agg #[.int .i64 k, .int .i64 n, .int .i64 a, .slice Al lv.length cl, .slice Ak kids.length ck] ∧ (Al = none → cl = 0) ∧ Levs w B Al lv ∧ (Ak = none → ck = 0) ∧ (0 < kids.length → ∃ b o, Ak = some ⟨b, o, none⟩ ∧ b < B ∧ TmsAt w B b o kids)
/-- behind this address there lie these terms -/
def TmsAt (w : World) (B b : Nat) : Nat → List Tm → Prop
  | _, [] => True
  | o, t :: ts => (∃ v, Five w b o v ∧ TmAt w B t v) ∧ TmsAt w B b (o + 5) ts
end
/-- a row of terms -/
def Tms (w : World) (B : Nat) (A : Option Addr) (c : Nat) (ts : List Tm) : Prop := (A = none → c = 0) ∧ (0 < ts.length → ∃ b o, A = some ⟨b, o, none⟩ ∧ b < B ∧ TmsAt w B b o ts)
theorem TmAt.open {w : World} {B : Nat} {k n a : Int} {lv : List (List (Int × Int))} {kids : List Tm} {v : Value} (h : TmAt w B (.mk k n a lv kids) v) :
    ∃ Al cl Ak ck, v = .agg #[.int .i64 k, .int .i64 n, .int .i64 a, .slice Al lv.length cl, .slice Ak kids.length ck] ∧ (Al = none → cl = 0) ∧ Levs w B Al lv ∧ Tms w B Ak ck kids := by
  unfold TmAt at h
  obtain ⟨Al, cl, Ak, ck, h1, h2, h3, h4, h5⟩ := h
  exact ⟨Al, cl, Ak, ck, h1, h2, h3, h4, h5⟩
theorem TmAt.make {w : World} {B : Nat} {k n a : Int} {lv : List (List (Int × Int))} {kids : List Tm} {Al Ak : Option Addr} {cl ck : Nat} (h2 : Al = none → cl = 0) (h3 : Levs w B Al lv) (h4 : Tms w B Ak ck kids) :
    TmAt w B (.mk k n a lv kids) (.agg #[.int .i64 k, .int .i64 n, .int .i64 a, .slice Al lv.length cl, .slice Ak kids.length ck]) := by
  unfold TmAt
  exact ⟨Al, cl, Ak, ck, rfl, h2, h3, h4.1, h4.2⟩
theorem TmsAt.get {w : World} {B b : Nat} : ∀ {o : Nat} {ts : List Tm}, TmsAt w B b o ts → ∀ (i : Nat) (t : Tm), ts[i]? = some t → ∃ v, Five w b (o + i * 5) v ∧ TmAt w B t v
  | _, [], _, i, t, hi => by simp at hi
  | o, s :: ts, h, 0, t, hi => by
    unfold TmsAt at h
    injection hi with hi
    subst hi
    simpa using h.1
  | o, s :: ts, h, i + 1, t, hi => by
    unfold TmsAt at h
    obtain ⟨v, h1, h2⟩ := TmsAt.get h.2 i t (by simpa using hi)
    exact ⟨v, by rw [show o + (i + 1) * 5 = o + 5 + i * 5 by omega]; exact h1, h2⟩
theorem TmsAt.of {w : World} {B b : Nat} : ∀ {o : Nat} {ts : List Tm}, (∀ (i : Nat) (t : Tm), ts[i]? = some t → ∃ v, Five w b (o + i * 5) v ∧ TmAt w B t v) → TmsAt w B b o ts
  | _, [], _ => by unfold TmsAt; trivial
  | o, s :: ts, h => by
    unfold TmsAt
    refine ⟨by simpa using h 0 s rfl, TmsAt.of fun i t hi => ?_⟩
    obtain ⟨v, h1, h2⟩ := h (i + 1) t (by simpa using hi)
    exact ⟨v, by rw [show o + 5 + i * 5 = o + (i + 1) * 5 by omega]; exact h1, h2⟩
theorem Levs.keep {w w' : World} {B B' : Nat} {A : Option Addr} {ls : List (List (Int × Int))} (h : Levs w B A ls) (hB : B ≤ B') (hk : ∀ p : Addr, p.block < B → w'.cell? p = w.cell? p) : Levs w' B' A ls := fun hn => by
  obtain ⟨b, o, e, hb, hc⟩ := h hn
  refine ⟨b, o, e, by omega, fun i hi => ?_⟩
  obtain ⟨Ai, ci, h1, h2, h3⟩ := hc i hi
  exact ⟨Ai, ci, (hk _ hb).trans h1, (h2.keep hk).more hB, h3⟩
theorem TmAt.keep {w w' : World} {B B' : Nat} (hB : B ≤ B') (hk : ∀ p : Addr, p.block < B → w'.cell? p = w.cell? p) : ∀ (t : Tm) (v : Value), TmAt w B t v → TmAt w' B' t v := by
  intro t
  induction t using Tm.ind with
  | h k n a lv kids ih =>
    intro v h
    obtain ⟨Al, cl, Ak, ck, rfl, h2, h3, h4, h5⟩ := h.open
    refine TmAt.make h2 (h3.keep hB hk) ⟨h4, fun hn => ?_⟩
    obtain ⟨b, o, e, hb, hts⟩ := h5 hn
    refine ⟨b, o, e, by omega, TmsAt.of fun i t hi => ?_⟩
    obtain ⟨v, q1, q2⟩ := hts.get i t hi
    exact ⟨v, q1.keep fun j => hk ⟨b, j, none⟩ hb, ih t (List.mem_of_getElem? hi) v q2⟩
theorem Tms.keep {w w' : World} {B B' : Nat} {A : Option Addr} {c : Nat} {ts : List Tm} (h : Tms w B A c ts) (hB : B ≤ B') (hk : ∀ p : Addr, p.block < B → w'.cell? p = w.cell? p) : Tms w' B' A c ts := ⟨h.1, fun hn => by
  obtain ⟨b, o, e, hb, hts⟩ := h.2 hn
  refine ⟨b, o, e, by omega, TmsAt.of fun i t hi => ?_⟩
  obtain ⟨v, q1, q2⟩ := hts.get i t hi
  exact ⟨v, q1.keep fun j => hk ⟨b, j, none⟩ hb, TmAt.keep hB hk t v q2⟩⟩
theorem TmAt.below {w w' : World} {B B' : Nat} {t : Tm} {v : Value} (h : TmAt w B t v) (hb : Below B w w') (hB : B ≤ B') : TmAt w' B' t v := TmAt.keep hB (fun _ hp => hb.cell hp) t v h
theorem Tms.below {w w' : World} {B B' : Nat} {A : Option Addr} {c : Nat} {ts : List Tm} (h : Tms w B A c ts) (hb : Below B w w') (hB : B ≤ B') : Tms w' B' A c ts := h.keep hB fun _ hp => hb.cell hp
/-- one of a row's terms -/
theorem Tms.get {w : World} {B : Nat} {A : Option Addr} {c : Nat} {ts : List Tm} (h : Tms w B A c ts) {i : Nat} {t : Tm} (hi : ts[i]? = some t) : ∃ b o v, A = some ⟨b, o, none⟩ ∧ b < B ∧ Five w b (o + i * 5) v ∧ TmAt w B t v := by
  have hl := (List.getElem?_eq_some_iff.1 hi).1
  obtain ⟨b, o, e, hb, hts⟩ := h.2 (by omega)
  obtain ⟨v, h1, h2⟩ := hts.get i t hi
  exact ⟨b, o, v, e, hb, h1, h2⟩
end Go.Proofs.YtfgnnbpbbnnnhaaDoor
namespace Go.Proofs.YtfgnnbpbbnnnhaaDoor
open Go.RowKit Go.Maps
/-- a row of levels, counted: each 1, and its parts -/
def lensSum : List (List (Int × Int)) → Nat
  | [] => 0
  | l :: ls => 1 + l.length + lensSum ls
theorem lensSum_take : ∀ (ls : List (List (Int × Int))) (k : Nat), k < ls.length → lensSum (ls.take (k + 1)) = lensSum (ls.take k) + (1 + (ls.getD k []).length)
  | [], k, h => by simp at h
  | l :: ls, 0, _ => by simp [lensSum]
  | l :: ls, k + 1, h => by
    have := lensSum_take ls k (by simpa using h)
    rw [List.take_succ_cons, List.take_succ_cons]
    simp only [lensSum, this, List.getD_cons_succ]
    omega
theorem lensSum_le : ∀ (ls : List (List (Int × Int))) (k : Nat), lensSum (ls.take k) ≤ lensSum ls
  | [], k => by simp [lensSum]
  | l :: ls, 0 => by simp [lensSum]
  | l :: ls, k + 1 => by
    have := lensSum_le ls k
    rw [List.take_succ_cons]
    simp only [lensSum]
    omega
theorem lensSum_length : ∀ ls : List (List (Int × Int)), ls.length ≤ lensSum ls
  | [] => by simp
  | l :: ls => by
    have := lensSum_length ls
    simp only [lensSum, List.length_cons]
    omega
mutual
/-- a term, counted: its nodes, the levels in them and their parts -/
def Tm.count : Tm → Nat
  | .mk _ _ _ lv kids => 1 + lensSum lv + Tm.countL kids
def Tm.countL : List Tm → Nat
  | [] => 0
  | t :: ts => t.count + Tm.countL ts
end
theorem Tm.count_mk (k n a : Int) (lv : List (List (Int × Int))) (kids : List Tm) : (Tm.mk k n a lv kids).count = 1 + lensSum lv + Tm.countL kids := by rw [Tm.count]
theorem Tm.countL_take : ∀ (ts : List Tm) (i : Nat) (t : Tm), ts[i]? = some t → Tm.countL (ts.take (i + 1)) = Tm.countL (ts.take i) + t.count
  | [], i, t, h => by simp at h
  | s :: ts, 0, t, h => by
    injection h with h
    subst h
    simp [Tm.countL]
  | s :: ts, i + 1, t, h => by
    have := Tm.countL_take ts i t (by simpa using h)
    rw [List.take_succ_cons, List.take_succ_cons]
    simp only [Tm.countL, this]
    omega
theorem Tm.countL_le : ∀ (ts : List Tm) (k : Nat), Tm.countL (ts.take k) ≤ Tm.countL ts
  | [], k => by simp
  | t :: ts, 0 => by simp [Tm.countL]
  | t :: ts, k + 1 => by
    have := Tm.countL_le ts k
    rw [List.take_succ_cons]
    simp only [Tm.countL]
    omega
theorem Tm.count_pos (t : Tm) : 0 < t.count := by
  cases t
  rw [Tm.count_mk]
  omega
theorem Tm.countL_length : ∀ ts : List Tm, ts.length ≤ Tm.countL ts
  | [] => by simp
  | t :: ts => by
    have := Tm.countL_length ts
    have := t.count_pos
    simp only [Tm.countL, List.length_cons]
    omega
theorem Tm.countL_mem {ts : List Tm} {t : Tm} (h : t ∈ ts) : t.count ≤ Tm.countL ts := by
  obtain ⟨i, hi⟩ := List.getElem?_of_mem h
  have h1 := Tm.countL_take ts i t hi
  have h2 := Tm.countL_le ts (i + 1)
  omega
/-- a count up to M: no more than there is, and just that where it is no more than M -/
def CountPost (w : World) (cnt M : Nat) (e : Ending) (w' : World) : Prop := ∃ r : Nat, e = .returned (.int .i64 (r : Int)) ∧ r ≤ cnt ∧ (r ≤ M → r = cnt) ∧ Below w.heap.size w w'
set_option maxRecDepth 100000 in
set_option maxHeartbeats 1000000 in
theorem levelOf_m (A : Option Addr) (n c M : Nat) (w : World) (hn : n ≤ 1048576) (hM : M ≤ 1048576) :
    Calls Tryd.prog 49 #[.agg #[.slice A n c], .int .i64 (M : Int)] w (CountPost w (1 + n) M) := by
  have hw : IntKind.i64.wrap (1 + (n : Int)) = 1 + (n : Int) := IntWalk.i64_in _ (by omega)
  have hw2 : IntKind.i64.wrap ((M : Int) + 1) = (M : Int) + 1 := IntWalk.i64_in _ (by omega)
  have HB := Lib.hid ((Below.refl w.heap.size w).alloc (Nat.le_refl _) (.cells #[.slice A n c] 39))
  have HF : Hid (∀ w', Below w.heap.size w w' → CountPost w (1 + n) M (.returned (.int .i64 (min (1 + (n : Int)) ((M : Int) + 1)))) w') := fun w' hb => by
    by_cases t : n ≤ M
    · exact ⟨1 + n, by congr 2; omega, by omega, fun _ => rfl, hb⟩
    · exact ⟨M + 1, by congr 2; omega, by omega, fun h => by omega, hb⟩
  go_enter Tryd.func49, Tryd.ntmps49
  go_wp2
  go_ret
  exact HF.out _ HB.out
set_option maxRecDepth 100000 in
set_option maxHeartbeats 1000000 in
theorem levelsOf_m (A : Option Addr) (ls : List (List (Int × Int))) (c M n : Nat) (w : World) (hn : ls.length = n) (hs : lensSum ls ≤ 1048576) (hM : M ≤ 1048576) (h : Levs w w.heap.size A ls) :
    Calls Tryd.prog 20 #[.slice A n c, .int .i64 (M : Int)] w (CountPost w (lensSum ls) M) := by
  have hn9 := lensSum_length ls
  have hn8 : n ≤ 1048576 := by omega
  have HL := Lib.hid h
  have HN := Lib.hid hn
  have HS := Lib.hid hs
  clear h hn hs hn9
  go_enter Tryd.func20, Tryd.ntmps20
  go_wp2
  go_loopw [5, 6] (fun u i wr => ∃ (k r : Nat), k ≤ n ∧ i = .int .i64 (k : Int) ∧ u = .int .i64 (r : Int) ∧ Below w.heap.size w wr ∧ r ≤ lensSum (ls.take k) ∧ (r ≤ M → r = lensSum (ls.take k))) (fun _ i _ => n - (intOf i).toNat)
  case atStart => exact ⟨0, 0, Nat.zero_le _, rfl, rfl, Below.refl _ _, by simp, fun _ => by simp [lensSum]⟩
  case round =>
    obtain ⟨k, r, hk, rfl, rfl, hb, h1, h2⟩ := hrel
    have hbz := hb.size
    have hle := lensSum_le ls k
    have hs9 := HS.out
    have hr9 : r ≤ 1048576 := by omega
    by_cases hlt : k < n
    · by_cases hu : r ≤ M
      · obtain ⟨b, o, e, hbB, hcell⟩ := HL.out (by rw [HN.out]; omega)
        subst e
        obtain ⟨Ai, ci, q0, _, _, q3⟩ := hcell k (by rw [HN.out]; exact hlt)
        have c0 := (hb.cell (p := ⟨b, o + k, none⟩) hbB).trans q0
        have ht := lensSum_take ls k (by rw [HN.out]; exact hlt)
        have hle1 := lensSum_le ls (k + 1)
        obtain ⟨m, hm⟩ : ∃ m, (ls.getD k []).length = m := ⟨_, rfl⟩
        rw [hm] at c0 ht
        have hm9 : m ≤ 1048576 := by omega
        have HC := Lib.hid (levelOf_m Ai m ci M wr (by omega) hM)
        have HT := Lib.hid ht
        have H2 := Lib.hid h2
        have HB := Lib.hid hb
        have ij0 : (0 : Int) ≤ (k : Int) := by omega
        have ij1 : (k : Int) < (n : Int) := by omega
        have ij2 : (r : Int) ≤ (M : Int) := by omega
        clear hb hcell q0 q3 hm h2 ht
        go_wp2_with (fail)
        refine HC.out.mono ?_
        rintro e w1 ⟨s, rfl, hs1, hs2, hb1⟩
        have ws : IntKind.i64.wrap ((r : Int) + (s : Int)) = ((r + s : Nat) : Int) := by rw [IntWalk.i64_in _ (by omega)]; omega
        have HF : Hid (r + s ≤ lensSum (ls.take (k + 1)) ∧ (r + s ≤ M → r + s = lensSum (ls.take (k + 1)))) := by
          rw [HT.out]
          refine ⟨by omega, fun h => ?_⟩
          have := hs2 (by omega)
          have := H2.out hu
          omega
        have HB1 : Hid (Below w.heap.size w w1) := HB.out.trans (hb1.mono hbz)
        clear hb1 hs2
        go_wp2
        go_roundw
        case rel => exact ⟨k + 1, r + s, by omega, by go_num, rfl, HB1.out, HF.out⟩
        case measure => simp [intOf]; omega
      · have ij2 : ¬ (r : Int) ≤ (M : Int) := by omega
        have HF : Hid (CountPost w (lensSum ls) M (.returned (.int .i64 (r : Int))) wr) := ⟨r, rfl, by omega, fun h => absurd h hu, hb⟩
        clear hb h2
        go_wp2
        go_ret
        exact HF.out
    · have hq : ls.take k = ls := List.take_of_length_le (by rw [HN.out]; omega)
      rw [hq] at h1 h2
      have HF : Hid (CountPost w (lensSum ls) M (.returned (.int .i64 (r : Int))) wr) := ⟨r, rfl, h1, h2, hb⟩
      clear hb h2 hq
      go_wp2
      go_ret
      exact HF.out
end Go.Proofs.YtfgnnbpbbnnnhaaDoor
namespace Go.Proofs.YtfgnnbpbbnnnhaaDoor
open Go.RowKit Go.Maps
def PanPost (w : World) (e : Ending) (w' : World) : Prop := (∃ u pv, e = .panicked [{ v := .iface u pv, recovered := false }]) ∧ Below w.heap.size w w'
set_option maxRecDepth 100000 in
set_option maxHeartbeats 1000000 in
theorem add_panics (b : Nat) (x y : Int) (w : World) (hn : ¬ okPart (x, y)) :
    Calls Tryd.prog 110 #[.agg #[.map (some b)], .agg #[.int .i64 x, .int .i64 y]] w (PanPost w) := by
  have HB := Lib.hid (((Below.refl w.heap.size w).alloc (Nat.le_refl _) (.cells #[.map (some b)] 153)).alloc (by simp) (.cells #[.int .i64 x, .int .i64 y] 91))
  by_cases t1 : x < 0
  · clear hn
    go_enter Tryd.func110, Tryd.ntmps110
    go_wp2
    exact ⟨rfl, ⟨_, _, rfl⟩, HB.out⟩
  · by_cases t2 : y < 0
    · clear hn
      go_enter Tryd.func110, Tryd.ntmps110
      go_wp2
      exact ⟨rfl, ⟨_, _, rfl⟩, HB.out⟩
    · by_cases t3 : 1048576 < x
      · clear hn
        go_enter Tryd.func110, Tryd.ntmps110
        go_wp2
        exact ⟨rfl, ⟨_, _, rfl⟩, HB.out⟩
      · have t4 : 1048576 < y := by unfold okPart at hn; omega
        clear hn
        go_enter Tryd.func110, Tryd.ntmps110
        go_wp2
        exact ⟨rfl, ⟨_, _, rfl⟩, HB.out⟩
set_option maxRecDepth 100000 in
theorem catch_panicking (p : Addr) (x : Value) (u : TypeId) (pv : Value) (older : List PanicEntry) (w : World) (hc : w.cell? p = some x) (hz : w.frozen? p = false) :
    CallsD Tryd.prog 109 #[.pointer (some p)] (.panicking ({ v := .iface u pv, recovered := false } :: older)) w fun e u' w' =>
      e = .returned (.tuple #[]) ∧ u' = .panicking ({ v := .iface u pv, recovered := true } :: older) ∧ w' = w.setCell p (.slice none 0 0) := by
  refine callsD_of_wpS Tryd.func109 rfl fun c₀ cs hu => ?_
  apply wpS_seq
  apply wpS_region
  simp [wpOpsS, go_sem, recoverD, hu, Tryd.ntmps109, Exit.thenS]
  refine wpS_cond (t := true) (by simp [Act.eval, Array.replicate]) ?_
  simp only [if_true]
  apply wpS_region
  simp [wpOpsS, go_sem, hc, hz, bodyPostS, results, Tryd.results109]
set_option maxRecDepth 100000 in
set_option maxHeartbeats 2000000 in
theorem gather_bad (A : Option Addr) (ps : List (Int × Int)) (c : Nat) (w : World) (hm : Few ps.length) (h : Lev w w.heap.size A ps) (hok : ¬ ∀ p ∈ ps, okPart p) (hN : ¬ Normal ps) :
    Calls Tryd.prog 85 #[.slice A ps.length c] w (LvlPost w []) := by
  have hmf : ∀ (fn : Fn) (first cap : Array Value) (w : World), (Instr.makeFunc fn first cap).run Tryd.prog w = .ok (.func fn first cap) w := fun _ _ _ _ => rfl
  have hmm := @run_makeMap Tryd.prog
  have hb0 : Below w.heap.size w (w.alloc (.cells #[.slice none 0 0] 39)) := (Below.refl _ _).alloc (Nat.le_refl _) _
  have hL1 : Lev (w.alloc (.cells #[.slice none 0 0] 39)) (w.heap.size + 1) A ps := (h.below hb0).more (by omega)
  have hml : ps.length ≤ maxLen := by unfold Few at hm; unfold maxLen; omega
  have HC := Lib.hid (normal_any A ps c _ (w.heap.size + 1) (by simp) hml hL1 false (by simpa using hN))
  have HM := Lib.hid hm
  have HL := Lib.hid hL1
  have HOK := Lib.hid hok
  have a1 := heap_alloc_new w (.cells #[.slice none 0 0] 39)
  have A1 := Lib.hid a1
  have HB := Lib.hid hb0
  have hlen : ps.length ≤ 9223372036854775807 := by unfold Few at hm; omega
  clear hm hL1 hml h hb0 hN a1 hok
  go_enter_defers Tryd.func85, Tryd.ntmps85
  go_wp2_with (fail)
  refine HC.out.mono ?_
  rintro e w1 ⟨rfl, hb1⟩
  have hz : w.heap.size + 1 ≤ w1.heap.size := by have := hb1.size; simp at this; omega
  obtain ⟨x1, x2, x3⟩ := two_allocs w1 (.map #[] 0) (.cells #[.map (some w1.heap.size)] 155)
  have e1 : ((w1.alloc (.map #[] 0)).alloc (.cells #[.map (some w1.heap.size)] 155)).heap[w.heap.size]? = some (.cells #[.slice none 0 0] 39 (0, 0)) := (x3 _ (by omega)).trans ((hb1.block _ (by omega)).trans A1.out)
  have e2 : Below w.heap.size w ((w1.alloc (.map #[] 0)).alloc (.cells #[.map (some w1.heap.size)] 155)) := ((HB.out.trans (hb1.mono (by omega))).alloc (by omega) _).alloc (by simp; omega) _
  have e3 : Lev ((w1.alloc (.map #[] 0)).alloc (.cells #[.map (some w1.heap.size)] 155)) (w.heap.size + 1) A ps := (HL.out.below hb1).below (((Below.refl _ _).alloc hz _).alloc (by simp; omega) _)
  have e4 : Mp ((w1.alloc (.map #[] 0)).alloc (.cells #[.map (some w1.heap.size)] 155)) w1.heap.size 0 (mapOf (ps.take 0)) :=
    mp_at (w := w1.alloc (.map #[] 0)) ⟨_, World.ownsMap_made _ _ _ _, ⟨isMap_empty, fun k => ⟨by simp [mapOf, has_eq], fun z v hv => by simp [mapOf] at hv⟩⟩⟩ (Below.heap_alloc _ _ _ (by simp))
  have X2 := Lib.hid x2
  have E1 := Lib.hid e1
  have E2 := Lib.hid e2
  have E3 := Lib.hid e3
  have E4 := Lib.hid e4
  clear x1 x2 x3 e1 e2 e3 e4 hb1
  go_wp2
  go_loopw [17] (fun i wr => ∃ k : Nat, k ≤ ps.length ∧ i = .int .i64 k ∧ (∀ j, j < k → okPart (ps.getD j (0, 0))) ∧ Mp wr w1.heap.size k (mapOf (ps.take k)) ∧ ((w1.alloc (.map #[] 0)).alloc (.cells #[.map (some w1.heap.size)] 155)).grownBy wr (some w1.heap.size)) (fun i _ => ps.length - (intOf i).toNat)
  case atStart => exact ⟨0, Nat.zero_le _, rfl, fun j hj => absurd hj (by omega), E4.out, World.grownBy.refl _ _⟩
  case round =>
    obtain ⟨k, hk, rfl, hall, hmp, hg⟩ := hrel
    have hgz := hg.size
    simp at hgz
    by_cases hlt : k < ps.length
    · obtain ⟨b, o, rfl, hbB, hcell⟩ := E3.out (by omega)
      have c0 := (World.cell?_of_block (a := ⟨b, o + k * 2, none⟩) (hg.block b (by simp; omega) (by simp; omega))).trans (hcell k hlt).1
      have c1 := (World.cell?_of_block (a := ⟨b, o + k * 2 + 1, none⟩) (hg.block b (by simp; omega) (by simp; omega))).trans (hcell k hlt).2
      have f1 := cell_of_one ((hg.block (w1.heap.size + 1) (by simp) (by simp)).trans X2.out)
      have hbw : b < wr.heap.size := by omega
      have hw1 : w1.heap.size + 1 < wr.heap.size := by omega
      obtain ⟨x, hx⟩ : ∃ x, x = (ps.getD k (0, 0)).1 := ⟨_, rfl⟩
      obtain ⟨y, hy⟩ : ∃ y, y = (ps.getD k (0, 0)).2 := ⟨_, rfl⟩
      have hup := mapOf_take hlt
      have hall2 : okPart (x, y) → ∀ j, j < k + 1 → okPart (ps.getD j (0, 0)) := fun h j hj => by
        rcases Nat.lt_succ_iff_lt_or_eq.1 hj with hj | rfl
        · exact hall j hj
        · rw [hx, hy] at h; exact h
      rw [← hx] at c0
      rw [← hy] at c1
      rw [← hx, ← hy] at hup
      have HUP := Lib.hid hup
      have HMP := Lib.hid hmp
      have HG := Lib.hid hg
      have hk20 : k < 2199023255552 := by have := HM.out; unfold Few at this; omega
      by_cases hq : okPart (x, y)
      · have HQ := Lib.hid hq
        have HALL := Lib.hid (hall2 hq)
        have HADD := Lib.hid (fun W (h : Mp W w1.heap.size k (mapOf (ps.take k))) => add_any w1.heap.size k (mapOf (ps.take k)) x y W h hk20 ⟨hq.1, hq.2.2.1⟩ ⟨hq.2.1, hq.2.2.2⟩)
        clear hup hq hx hy hmp hg hcell hk20 hall hall2
        go_wp2_with (fail)
        refine (HADD.out _ (mp_at HMP.out (Below.heap_alloc _ _ _ (by omega)))).mono ?_
        rintro e w2 ⟨rfl, hmp2, hg2⟩
        have HF : Hid (Mp w2 w1.heap.size (k + 1) (mapOf (ps.take (k + 1))) ∧ ((w1.alloc (.map #[] 0)).alloc (.cells #[.map (some w1.heap.size)] 155)).grownBy w2 (some w1.heap.size)) :=
          ⟨by rw [HUP.out]; exact hmp2, grown_then (grown_alloc HG.out _) hg2⟩
        clear hmp2 hg2
        go_wp2
        go_roundw
        case rel => exact ⟨k + 1, by omega, by go_num, HALL.out, HF.out.1, HF.out.2⟩
        case measure => simp [intOf]; omega
      · have HADD := Lib.hid (fun W => add_panics w1.heap.size x y W hq)
        have E8 : Hid (wr.heap[w.heap.size]? = some (.cells #[.slice none 0 0] 39 (0, 0))) := (hg.block w.heap.size (by simp; omega) (by simp; omega)).trans E1.out
        have E9 : Hid (Below w.heap.size w wr) := E2.out.grown hg (by simp; omega) (fun r e => by cases e; omega)
        clear hup hq hx hy hmp hg hcell hk20 hall hall2
        go_wp2_with (fail)
        refine (HADD.out _).mono ?_
        rintro e w2 ⟨⟨u, pv, rfl⟩, hb2⟩
        have hr := (hb2.block w.heap.size (by simp; omega)).trans ((Below.heap_alloc _ _ _ (by omega)).trans E8.out)
        have f5 := cell_of_one hr
        have f6 := free_of_one hr
        have HF : Hid (LvlPost w [] (.returned (.agg #[.slice none 0 0])) (w2.setCell ⟨w.heap.size, 0, none⟩ (.slice none 0 0))) :=
          ⟨_, rfl, ⟨rfl, Or.inl ⟨rfl, rfl⟩⟩, ((E9.out.alloc (by omega) _).trans (hb2.mono (by simp; omega))).setCell (Nat.le_refl _) _⟩
        clear hr hb2
        go_wp2
        refine leaves_cons (f := 109) (args := #[.pointer (some ⟨w.heap.size, 0, none⟩)]) (by simp) (by simp [go_sem]) ?_
        refine (catch_panicking ⟨w.heap.size, 0, none⟩ (.slice none 0 0) u pv [] _ f5 f6).mono ?_
        rintro e u' w'' ⟨rfl, rfl, rfl⟩
        have hx := HF.out
        simp [Leaves, settle, results, Tryd.results85, go_sem, f5]
        exact hx
    · exfalso
      obtain rfl : k = ps.length := by omega
      refine HOK.out (fun p hp => ?_)
      obtain ⟨j, hj, rfl⟩ := List.getElem_of_mem hp
      have := hall j hj
      rwa [List.getD_eq_getElem?_getD, List.getElem?_eq_getElem hj] at this
theorem normal_ok {ps : List (Int × Int)} (h : Normal ps) : ∀ p ∈ ps, okPart p := fun p hp => by
  obtain ⟨j, hj, rfl⟩ := List.getElem_of_mem hp
  have := (h.1 j hj).1
  rwa [List.getD_eq_getElem?_getD, List.getElem?_eq_getElem hj] at this
instance okPartDec (p : Int × Int) : Decidable (okPart p) := by unfold okPart; exact inferInstance
/-- The normal form of any parts; of such as have none it has no parts. -/
def nfA (ps : List (Int × Int)) : List (Int × Int) := if ∀ p ∈ ps, okPart p then nf ps else []
theorem gather_any (A : Option Addr) (ps : List (Int × Int)) (c : Nat) (w : World) (hm : Few ps.length) (h : Lev w w.heap.size A ps) (hc : A = none → c = 0) :
    Calls Tryd.prog 85 #[.slice A ps.length c] w (LvlPost w (nfA ps)) := by
  unfold nfA
  by_cases hok : ∀ p ∈ ps, okPart p
  · rw [if_pos hok]
    exact gather_nf A ps c w hm h hc hok
  · rw [if_neg hok]
    exact gather_bad A ps c w hm h hok (fun hN => hok (normal_ok hN))
end Go.Proofs.YtfgnnbpbbnnnhaaDoor
namespace Go.Proofs.YtfgnnbpbbnnnhaaDoor
open Go.RowKit Go.Maps
theorem nf_mem {ps : List (Int × Int)} (h0 : ∀ p ∈ ps, 0 ≤ p.1) {p : Int × Int} (h : p ∈ nf ps) : p ∈ ps := mapOf_mem ps p.1 p.2 (((nf_level h0).2 p).1 h).1
theorem nf_len {ps : List (Int × Int)} (h0 : ∀ p ∈ ps, 0 ≤ p.1) : (nf ps).length ≤ ps.length := level_len (nf_level h0)
end Go.Proofs.YtfgnnbpbbnnnhaaDoor
namespace Go.Proofs.YtfgnnbpbbnnnhaaDoor
open Go.RowKit Go.Maps
set_option maxRecDepth 100000 in
set_option maxHeartbeats 2000000 in
theorem sameParts_any (A A' : Option Addr) (ps qs : List (Int × Int)) (c c' : Nat) (w : World) (hm : ps.length ≤ maxLen) (hm' : qs.length ≤ maxLen) (h : Lev w w.heap.size A ps) (h' : Lev w w.heap.size A' qs) (r : Bool) (hr : r = true ↔ ps = qs) :
    Calls Tryd.prog 112 #[.slice A ps.length c, .slice A' qs.length c'] w (HasPost w r) := by
  unfold maxLen at hm hm'
  have HR := Lib.hid hr
  clear hr
  by_cases hl : ps.length = qs.length
  · have lf : ((ps.length : Int) != (qs.length : Int)) = false := by simp [hl]
    have HLL := Lib.hid hl
    have HL := Lib.hid h
    have HL' := Lib.hid h'
    clear hl h h'
    go_enter Tryd.func112, Tryd.ntmps112
    go_wp2
    go_loopw [5] (fun i wr => ∃ k : Nat, k ≤ ps.length ∧ i = .int .i64 k ∧ Below w.heap.size w wr ∧ ∀ j, j < k → ps[j]? = qs[j]?) (fun i _ => ps.length - (intOf i).toNat)
    case atStart => exact ⟨0, Nat.zero_le _, rfl, Below.refl _ _, fun j hj => absurd hj (by omega)⟩
    case round =>
      obtain ⟨k, hk, rfl, hb, hs⟩ := hrel
      by_cases hlt : k < ps.length
      · have hlt' : k < qs.length := by have := HLL.out; omega
        obtain ⟨b, o, rfl, hbB, hcell⟩ := HL.out (by omega)
        obtain ⟨b', o', rfl, hbB', hcell'⟩ := HL'.out (by omega)
        have c0 := (hb.cell hbB).trans (hcell k hlt).1
        have c1 := (hb.cell hbB).trans (hcell k hlt).2
        have d0 := (hb.cell hbB').trans (hcell' k hlt').1
        have d1 := (hb.cell hbB').trans (hcell' k hlt').2
        obtain ⟨x, hx⟩ : ∃ x, x = (ps.getD k (0, 0)).1 := ⟨_, rfl⟩
        obtain ⟨y, hy⟩ : ∃ y, y = (ps.getD k (0, 0)).2 := ⟨_, rfl⟩
        obtain ⟨x', hx'⟩ : ∃ x, x = (qs.getD k (0, 0)).1 := ⟨_, rfl⟩
        obtain ⟨y', hy'⟩ : ∃ y, y = (qs.getD k (0, 0)).2 := ⟨_, rfl⟩
        rw [← hx] at c0
        rw [← hy] at c1
        rw [← hx'] at d0
        rw [← hy'] at d1
        have hp : ps[k]? = some (x, y) := by rw [hx, hy, List.getD_eq_getElem?_getD, List.getElem?_eq_getElem hlt]; rfl
        have hq : qs[k]? = some (x', y') := by rw [hx', hy', List.getD_eq_getElem?_getD, List.getElem?_eq_getElem hlt']; rfl
        have HP := Lib.hid hp
        have HQ := Lib.hid hq
        have HS := Lib.hid hs
        have HB := Lib.hid hb
        have ij0 : (0 : Int) ≤ (k : Int) := by omega
        have ij1 : (k : Int) < (ps.length : Int) := by omega
        have ij2 : (k : Int) < (qs.length : Int) := by omega
        clear hs hp hq hx hy hx' hy' hcell hcell' hb
        by_cases t : x = x' ∧ y = y'
        · obtain ⟨rfl, rfl⟩ := t
          go_wp2
          go_quiet (fail)
          go_wp2
          have HF : Hid (∀ j, j < k + 1 → ps[j]? = qs[j]?) := fun j hj => by
            rcases Nat.lt_succ_iff_lt_or_eq.1 hj with hj | rfl
            · exact HS.out j hj
            · rw [HP.out, HQ.out]
          go_roundw
          case rel => exact ⟨k + 1, by omega, by go_num, below_drewN HB.out _, HF.out⟩
          case measure => simp [intOf]; omega
        · have HF : Hid (∀ n, HasPost w r (.returned (.bool false)) (wr.drewN n)) := fun n => ⟨by
            have : r = false := by
              rcases r with _ | _
              · rfl
              · have e := HR.out.1 rfl
                have h1 := HP.out
                rw [e, HQ.out] at h1
                injection h1 with h1
                injection h1 with h1 h2
                exact absurd ⟨h1.symm, h2.symm⟩ t
            rw [this], below_drewN HB.out n⟩
          by_cases tx : x = x'
          · subst tx
            have yf : (y == y') = false := by simpa using t
            clear t
            go_wp2
            go_quiet (fail)
            go_wp2
            go_ret
            exact HF.out _
          · have xf : (x == x') = false := by simpa using tx
            clear t tx
            go_wp2
            go_quiet (fail)
            go_wp2
            go_ret
            exact HF.out _
      · obtain rfl : k = ps.length := by omega
        have HF : Hid (HasPost w r (.returned (.bool true)) wr) := ⟨by
          have : r = true := HR.out.2 (List.ext_getElem? fun j => by
            by_cases hj : j < ps.length
            · exact hs j hj
            · rw [List.getElem?_eq_none (by omega), List.getElem?_eq_none (by have := HLL.out; omega)])
          rw [this], hb⟩
        clear hs hb
        go_wp2
        go_ret
        exact HF.out
  · have lf : ((ps.length : Int) != (qs.length : Int)) = true := by simp; omega
    have HF : Hid (HasPost w r (.returned (.bool false)) w) := ⟨by
      have : r = false := by
        rcases r with _ | _
        · rfl
        · exact absurd (congrArg List.length (HR.out.1 rfl)) hl
      rw [this], Below.refl _ _⟩
    clear hl h h'
    go_enter Tryd.func112, Tryd.ntmps112
    go_wp2
    go_ret
    exact HF.out
set_option maxRecDepth 100000 in
set_option maxHeartbeats 1000000 in
theorem sameLevel_any (A A' : Option Addr) (ps qs : List (Int × Int)) (c c' : Nat) (w : World) (hm : ps.length ≤ maxLen) (hm' : qs.length ≤ maxLen) (h : Lev w w.heap.size A ps) (h' : Lev w w.heap.size A' qs) (r : Bool) (hr : r = true ↔ ps = qs) :
    Calls Tryd.prog 87 #[.agg #[.slice A ps.length c], .agg #[.slice A' qs.length c']] w (HasPost w r) := by
  have hb0 : Below w.heap.size w ((w.alloc (.cells #[.slice A ps.length c] 39)).alloc (.cells #[.slice A' qs.length c'] 39)) := ((Below.refl _ _).alloc (Nat.le_refl _) _).alloc (by simp) _
  have HC := Lib.hid (sameParts_any A A' ps qs c c' _ hm hm' ((h.below hb0).more hb0.size) ((h'.below hb0).more hb0.size) r hr)
  have HB := Lib.hid hb0
  clear hm hm' h h' hr hb0
  go_enter Tryd.func87, Tryd.ntmps87
  go_wp2_with (fail)
  refine HC.out.mono ?_
  rintro e w1 ⟨rfl, hb1⟩
  have HF : Hid (HasPost w r (.returned (.bool r)) w1) := ⟨rfl, HB.out.trans (hb1.mono HB.out.size)⟩
  clear hb1
  go_wp2
  go_ret
  exact HF.out
end Go.Proofs.YtfgnnbpbbnnnhaaDoor
