/- What gather answers of parts of which one can't stand in a normal form: the level of no parts; so what it answers of any parts. -/
import Derived.Test.YtafgmndlbbjphaaDoorLvMk
import Derived.Recover
namespace Go.Proofs.YtafgmndlbbjphaaDoor
open Go.RowKit Go.Maps

def PanPost (w : World) (e : Ending) (w' : World) : Prop := (∃ u pv, e = .panicked [{ v := .iface u pv, recovered := false }]) ∧ Below w.heap.size w w'
set_option maxRecDepth 100000 in
set_option maxHeartbeats 1000000 in
theorem add_panics (b : Nat) (x y : Int) (w : World) (hn : ¬ okPart (x, y)) :
    Calls Tryd.prog 53 #[.agg #[.map (some b)], .agg #[.int .i64 x, .int .i64 y]] w (PanPost w) := by
  have HB := Lib.hid (((Below.refl w.heap.size w).alloc (Nat.le_refl _) (.cells #[.map (some b)] 82)).alloc (by simp) (.cells #[.int .i64 x, .int .i64 y] 71))
  by_cases t1 : x < 0
  · clear hn
    go_enter Tryd.func53, Tryd.ntmps53
    go_wp2
    exact ⟨rfl, ⟨_, _, rfl⟩, HB.out⟩
  · by_cases t2 : y < 0
    · clear hn
      go_enter Tryd.func53, Tryd.ntmps53
      go_wp2
      exact ⟨rfl, ⟨_, _, rfl⟩, HB.out⟩
    · by_cases t3 : 1048576 < x
      · clear hn
        go_enter Tryd.func53, Tryd.ntmps53
        go_wp2
        exact ⟨rfl, ⟨_, _, rfl⟩, HB.out⟩
      · have t4 : 1048576 < y := by unfold okPart at hn; omega
        clear hn
        go_enter Tryd.func53, Tryd.ntmps53
        go_wp2
        exact ⟨rfl, ⟨_, _, rfl⟩, HB.out⟩

set_option maxRecDepth 100000 in
theorem catch_panicking (p : Addr) (x : Value) (u : TypeId) (pv : Value) (older : List PanicEntry) (w : World) (hc : w.cell? p = some x) (hz : w.frozen? p = false) :
    CallsD Tryd.prog 52 #[.pointer (some p)] (.panicking ({ v := .iface u pv, recovered := false } :: older)) w fun e u' w' =>
      e = .returned (.tuple #[]) ∧ u' = .panicking ({ v := .iface u pv, recovered := true } :: older) ∧ w' = w.setCell p (.slice none 0 0) := by
  refine callsD_of_wpS Tryd.func52 rfl fun c₀ cs hu => ?_
  apply wpS_seq
  apply wpS_region
  simp [wpOpsS, go_sem, recoverD, hu, Tryd.ntmps52, Exit.thenS]
  refine wpS_cond (t := true) (by simp [Act.eval, Array.replicate]) ?_
  simp only [if_true]
  apply wpS_region
  simp [wpOpsS, go_sem, hc, hz, bodyPostS, results, Tryd.results52]

set_option maxRecDepth 100000 in
set_option maxHeartbeats 2000000 in
theorem gather_bad (A : Option Addr) (ps : List (Int × Int)) (c : Nat) (w : World) (hm : Few ps.length) (h : Lev w w.heap.size A ps) (hok : ¬ ∀ p ∈ ps, okPart p) (hN : ¬ Normal ps) :
    Calls Tryd.prog 41 #[.slice A ps.length c] w (LvlPost w []) := by
  have hmf : ∀ (fn : Fn) (first cap : Array Value) (w : World), (Instr.makeFunc fn first cap).run Tryd.prog w = .ok (.func fn first cap) w := fun _ _ _ _ => rfl
  have hmm := @run_makeMap Tryd.prog
  have hb0 : Below w.heap.size w (w.alloc (.cells #[.slice none 0 0] 56)) := (Below.refl _ _).alloc (Nat.le_refl _) _
  have hL1 : Lev (w.alloc (.cells #[.slice none 0 0] 56)) (w.heap.size + 1) A ps := (h.below hb0).more (by omega)
  have hml : ps.length ≤ maxLen := by unfold Few at hm; unfold maxLen; omega
  have HC := Lib.hid (normal_any A ps c _ (w.heap.size + 1) (by simp) hml hL1 false (by simpa using hN))
  have HM := Lib.hid hm
  have HL := Lib.hid hL1
  have HOK := Lib.hid hok
  have a1 := heap_alloc_new w (.cells #[.slice none 0 0] 56)
  have A1 := Lib.hid a1
  have HB := Lib.hid hb0
  have hlen : ps.length ≤ 9223372036854775807 := by unfold Few at hm; omega
  clear hm hL1 hml h hb0 hN a1 hok
  go_enter_defers Tryd.func41, Tryd.ntmps41
  go_wp2_with (fail)
  refine HC.out.mono ?_
  rintro e w1 ⟨rfl, hb1⟩
  have hz : w.heap.size + 1 ≤ w1.heap.size := by have := hb1.size; simp at this; omega
  obtain ⟨x1, x2, x3⟩ := two_allocs w1 (.map #[] 0) (.cells #[.map (some w1.heap.size)] 84)
  have e1 : ((w1.alloc (.map #[] 0)).alloc (.cells #[.map (some w1.heap.size)] 84)).heap[w.heap.size]? = some (.cells #[.slice none 0 0] 56 (0, 0)) := (x3 _ (by omega)).trans ((hb1.block _ (by omega)).trans A1.out)
  have e2 : Below w.heap.size w ((w1.alloc (.map #[] 0)).alloc (.cells #[.map (some w1.heap.size)] 84)) := ((HB.out.trans (hb1.mono (by omega))).alloc (by omega) _).alloc (by simp; omega) _
  have e3 : Lev ((w1.alloc (.map #[] 0)).alloc (.cells #[.map (some w1.heap.size)] 84)) (w.heap.size + 1) A ps := (HL.out.below hb1).below (((Below.refl _ _).alloc hz _).alloc (by simp; omega) _)
  have e4 : Mp ((w1.alloc (.map #[] 0)).alloc (.cells #[.map (some w1.heap.size)] 84)) w1.heap.size 0 (mapOf (ps.take 0)) :=
    mp_at (w := w1.alloc (.map #[] 0)) ⟨_, World.ownsMap_made _ _ _ _, ⟨isMap_empty, fun k => ⟨by simp [mapOf, has_eq], fun z v hv => by simp [mapOf] at hv⟩⟩⟩ (Below.heap_alloc _ _ _ (by simp))
  have X2 := Lib.hid x2
  have E1 := Lib.hid e1
  have E2 := Lib.hid e2
  have E3 := Lib.hid e3
  have E4 := Lib.hid e4
  clear x1 x2 x3 e1 e2 e3 e4 hb1
  go_wp2
  go_loopw [17] (fun i wr => ∃ k : Nat, k ≤ ps.length ∧ i = .int .i64 k ∧ (∀ j, j < k → okPart (ps.getD j (0, 0))) ∧ Mp wr w1.heap.size k (mapOf (ps.take k)) ∧ ((w1.alloc (.map #[] 0)).alloc (.cells #[.map (some w1.heap.size)] 84)).grownBy wr (some w1.heap.size)) (fun i _ => ps.length - (intOf i).toNat)
  case atStart => exact ⟨0, Nat.zero_le _, rfl, fun j hj => absurd hj (by omega), E4.out, World.grownBy.refl _ _⟩
  case round =>
    obtain ⟨k, hk, rfl, hall, hmp, hg⟩ := hrel
    have hgz := hg.size
    simp at hgz
    by_cases hlt : k < ps.length
    · obtain ⟨b, o, rfl, hbB, hcell⟩ := E3.out (by omega)
      have c0 := (World.cell?_of_block (a := ⟨b, o + k * 2, none⟩) (hg.block b (by simp; omega) (by simp; omega))).trans (hcell k hlt).1
      have c1 := (World.cell?_of_block (a := ⟨b, o + k * 2 + 1, none⟩) (hg.block b (by simp; omega) (by simp; omega))).trans (hcell k hlt).2
      have f1 := cell_of_one ((hg.block (w1.heap.size + 1) (by simp) (by simp)).trans X2.out)
      have hbw : b < wr.heap.size := by omega
      have hw1 : w1.heap.size + 1 < wr.heap.size := by omega
      obtain ⟨x, hx⟩ : ∃ x, x = (ps.getD k (0, 0)).1 := ⟨_, rfl⟩
      obtain ⟨y, hy⟩ : ∃ y, y = (ps.getD k (0, 0)).2 := ⟨_, rfl⟩
      have hup := mapOf_take hlt
      have hall2 : okPart (x, y) → ∀ j, j < k + 1 → okPart (ps.getD j (0, 0)) := fun h j hj => by
        rcases Nat.lt_succ_iff_lt_or_eq.1 hj with hj | rfl
        · exact hall j hj
        · rw [hx, hy] at h; exact h
      rw [← hx] at c0
      rw [← hy] at c1
      rw [← hx, ← hy] at hup
      have HUP := Lib.hid hup
      have HMP := Lib.hid hmp
      have HG := Lib.hid hg
      have hk20 : k < 2199023255552 := by have := HM.out; unfold Few at this; omega
      by_cases hq : okPart (x, y)
      · have HQ := Lib.hid hq
        have HALL := Lib.hid (hall2 hq)
        have HADD := Lib.hid (fun W (h : Mp W w1.heap.size k (mapOf (ps.take k))) => add_any w1.heap.size k (mapOf (ps.take k)) x y W h hk20 ⟨hq.1, hq.2.2.1⟩ ⟨hq.2.1, hq.2.2.2⟩)
        clear hup hq hx hy hmp hg hcell hk20 hall hall2
        go_wp2_with (fail)
        refine (HADD.out _ (mp_at HMP.out (Below.heap_alloc _ _ _ (by omega)))).mono ?_
        rintro e w2 ⟨rfl, hmp2, hg2⟩
        have HF : Hid (Mp w2 w1.heap.size (k + 1) (mapOf (ps.take (k + 1))) ∧ ((w1.alloc (.map #[] 0)).alloc (.cells #[.map (some w1.heap.size)] 84)).grownBy w2 (some w1.heap.size)) :=
          ⟨by rw [HUP.out]; exact hmp2, grown_then (grown_alloc HG.out _) hg2⟩
        clear hmp2 hg2
        go_wp2
        go_roundw
        case rel => exact ⟨k + 1, by omega, by go_num, HALL.out, HF.out.1, HF.out.2⟩
        case measure => simp [intOf]; omega
      · have HADD := Lib.hid (fun W => add_panics w1.heap.size x y W hq)
        have E8 : Hid (wr.heap[w.heap.size]? = some (.cells #[.slice none 0 0] 56 (0, 0))) := (hg.block w.heap.size (by simp; omega) (by simp; omega)).trans E1.out
        have E9 : Hid (Below w.heap.size w wr) := E2.out.grown hg (by simp; omega) (fun r e => by cases e; omega)
        clear hup hq hx hy hmp hg hcell hk20 hall hall2
        go_wp2_with (fail)
        refine (HADD.out _).mono ?_
        rintro e w2 ⟨⟨u, pv, rfl⟩, hb2⟩
        have hr := (hb2.block w.heap.size (by simp; omega)).trans ((Below.heap_alloc _ _ _ (by omega)).trans E8.out)
        have f5 := cell_of_one hr
        have f6 := free_of_one hr
        have HF : Hid (LvlPost w [] (.returned (.agg #[.slice none 0 0])) (w2.setCell ⟨w.heap.size, 0, none⟩ (.slice none 0 0))) :=
          ⟨_, rfl, ⟨rfl, Or.inl ⟨rfl, rfl⟩⟩, ((E9.out.alloc (by omega) _).trans (hb2.mono (by simp; omega))).setCell (Nat.le_refl _) _⟩
        clear hr hb2
        go_wp2
        refine leaves_cons (f := 52) (args := #[.pointer (some ⟨w.heap.size, 0, none⟩)]) (by simp) (by simp [go_sem]) ?_
        refine (catch_panicking ⟨w.heap.size, 0, none⟩ (.slice none 0 0) u pv [] _ f5 f6).mono ?_
        rintro e u' w'' ⟨rfl, rfl, rfl⟩
        have hx := HF.out
        simp [Leaves, settle, results, Tryd.results41, go_sem, f5]
        exact hx
    · exfalso
      obtain rfl : k = ps.length := by omega
      refine HOK.out (fun p hp => ?_)
      obtain ⟨j, hj, rfl⟩ := List.getElem_of_mem hp
      have := hall j hj
      rwa [List.getD_eq_getElem?_getD, List.getElem?_eq_getElem hj] at this

theorem normal_ok {ps : List (Int × Int)} (h : Normal ps) : ∀ p ∈ ps, okPart p := fun p hp => by
  obtain ⟨j, hj, rfl⟩ := List.getElem_of_mem hp
  have := (h.1 j hj).1
  rwa [List.getD_eq_getElem?_getD, List.getElem?_eq_getElem hj] at this

instance okPartDec (p : Int × Int) : Decidable (okPart p) := by unfold okPart; exact inferInstance
/-- The normal form of any parts; of such as have none it has no parts. -/
def nfA (ps : List (Int × Int)) : List (Int × Int) := if ∀ p ∈ ps, okPart p then nf ps else []
theorem gather_any (A : Option Addr) (ps : List (Int × Int)) (c : Nat) (w : World) (hm : Few ps.length) (h : Lev w w.heap.size A ps) (hc : A = none → c = 0) :
    Calls Tryd.prog 41 #[.slice A ps.length c] w (LvlPost w (nfA ps)) := by
  unfold nfA
  by_cases hok : ∀ p ∈ ps, okPart p
  · rw [if_pos hok]
    exact gather_nf A ps c w hm h hc hok
  · rw [if_neg hok]
    exact gather_bad A ps c w hm h hok (fun hN => hok (normal_ok hN))

end Go.Proofs.YtafgmndlbbjphaaDoor
