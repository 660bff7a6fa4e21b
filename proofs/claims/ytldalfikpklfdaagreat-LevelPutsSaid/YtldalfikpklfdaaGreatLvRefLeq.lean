/- What the reference's Num, Var, Leq and Same answer. -/
import Derived.Test.YtldalfikpklfdaaGreatLvRefNorm
namespace Go.Proofs.YtldalfikpklfdaaGreat
open Go.RowKit Go.Maps

/-- a store into a box that holds a row leaves a level's parts -/
theorem lev_box {w : World} {B g n c : Nat} {A S : Option Addr} {t : TypeId} {fr : Nat × Nat} {u : Value} {ps : List (Int × Int)} (h : Lev w B A ps) (hg : w.heap[g]? = some (.cells #[.slice S n c] t fr)) : Lev (w.setCell ⟨g, 0, none⟩ u) B A ps := by
  rcases A with _ | ⟨b, o, sp⟩
  · intro hn
    obtain ⟨_, _, e, _⟩ := h hn
    cases e
  · intro hn
    obtain ⟨b', o', e, hb, hc⟩ := h hn
    injection e with e
    injection e with e1 e2 e3
    subst e1 e2 e3
    have hne : b ≠ g := fun e => by
      subst e
      have h0 := (hc 0 hn).1
      simp only [World.cell?, hg] at h0
      rcases o with _ | o
      · simp at h0
      · simp at h0
    refine ⟨b, o, rfl, hb, fun i hi => ?_⟩
    obtain ⟨q0, q1⟩ := hc i hi
    exact ⟨(World.cell?_setCell_other _ _ _ _ (fun e => hne (by injection e with e; exact e.symm))).trans q0, (World.cell?_setCell_other _ _ _ _ (fun e => hne (by injection e with e; exact e.symm))).trans q1⟩
theorem LAt.box {w : World} {g n' c' n c : Nat} {A S : Option Addr} {t : TypeId} {fr : Nat × Nat} {u : Value} {ps : List (Int × Int)} (h : LAt w A n c ps) (hg : w.heap[g]? = some (.cells #[.slice S n' c'] t fr)) : LAt (w.setCell ⟨g, 0, none⟩ u) A n c ps :=
  ⟨h.1, (lev_box h.2.1 hg).more (set_size _ _ _), h.2.2⟩
theorem lev_lit (w : World) (x y : Int) (z : Value) : Lev ((w.alloc (.cells #[z] 24)).alloc (.cells #[.int .i64 x, .int .i64 y] 47)) ((w.alloc (.cells #[z] 24)).alloc (.cells #[.int .i64 x, .int .i64 y] 47)).heap.size (some ⟨w.heap.size + 1, 0, none⟩) [(x, y)] := fun _ => by
  obtain ⟨x1, x2, x3⟩ := two_allocs w (.cells #[z] 24) (.cells #[.int .i64 x, .int .i64 y] 47)
  exact ⟨_, _, rfl, by simp, fun i hi => by
    obtain rfl : i = 0 := by simpa using hi
    exact ⟨cell_of_row _ _ 0 _ _ (0, 0) x2, cell_of_row _ _ 1 _ _ (0, 0) x2⟩⟩

set_option maxRecDepth 100000 in
set_option maxHeartbeats 1000000 in
theorem rnum_any (n : Int) (w : World) :
    Calls Tryz.prog 36 #[.int .i64 n] w (LOut w (nfA [(0, n)])) := by
  obtain ⟨x1, x2, x3⟩ := two_allocs w (.cells #[.slice none 0 0] 24) (.cells #[.int .i64 0, .int .i64 n] 47)
  have hb0 : Below w.heap.size w ((w.alloc (.cells #[.slice none 0 0] 24)).alloc (.cells #[.int .i64 0, .int .i64 n] 47)) := ((Below.refl _ _).alloc (Nat.le_refl _) _).alloc (by simp) _
  have HG := Lib.hid (rnorm_any (some ⟨w.heap.size + 1, 0, none⟩) [(0, n)] 1 _ (by simp) (lev_lit w 0 n (.slice none 0 0)) (fun e => by cases e))
  have X1 := Lib.hid x1
  have HB := Lib.hid hb0
  clear x1 x2 x3 hb0
  go_enter Tryz.func36, Tryz.ntmps36
  go_wp2_with (fail)
  refine HG.out.mono ?_
  rintro e w1 ⟨A2, m2, rfl, hl, hb1⟩
  obtain ⟨n2, hn2⟩ : ∃ n2, (nfA [(0, n)]).length = n2 := ⟨_, rfl⟩
  have hr := (hb1.block w.heap.size (by simp; omega)).trans X1.out
  have f5 := cell_of_one hr
  have f6 := free_of_one hr
  have hs : (w1.setCell ⟨w.heap.size, 0, none⟩ (.slice A2 n2 m2)).cell? ⟨w.heap.size, 0, none⟩ = some (.slice A2 n2 m2) := World.cell?_setCell_same _ _ _ f5
  have HF : Hid (LOut w (nfA [(0, n)]) (.returned (.agg #[.slice A2 n2 m2])) (w1.setCell ⟨w.heap.size, 0, none⟩ (.slice A2 n2 m2))) :=
    ⟨A2, m2, by rw [hn2], hl.box hr, (HB.out.trans (hb1.mono (by simp; omega))).setCell (Nat.le_refl _) _⟩
  rw [hn2]
  clear hr hl hb1 hn2
  go_wp2
  exact bodyPost_ret (v := .agg #[.slice A2 n2 m2]) (by simp [results, Tryz.results36, go_sem, hs]) rfl HF.out

set_option maxRecDepth 100000 in
set_option maxHeartbeats 1000000 in
theorem rvar_any (n : Int) (w : World) :
    Calls Tryz.prog 37 #[.int .i64 n] w (LOut w (nfA [(n, 0)])) := by
  obtain ⟨x1, x2, x3⟩ := two_allocs w (.cells #[.slice none 0 0] 24) (.cells #[.int .i64 n, .int .i64 0] 47)
  have hb0 : Below w.heap.size w ((w.alloc (.cells #[.slice none 0 0] 24)).alloc (.cells #[.int .i64 n, .int .i64 0] 47)) := ((Below.refl _ _).alloc (Nat.le_refl _) _).alloc (by simp) _
  have HG := Lib.hid (rnorm_any (some ⟨w.heap.size + 1, 0, none⟩) [(n, 0)] 1 _ (by simp) (lev_lit w n 0 (.slice none 0 0)) (fun e => by cases e))
  have X1 := Lib.hid x1
  have HB := Lib.hid hb0
  clear x1 x2 x3 hb0
  go_enter Tryz.func37, Tryz.ntmps37
  go_wp2_with (fail)
  refine HG.out.mono ?_
  rintro e w1 ⟨A2, m2, rfl, hl, hb1⟩
  obtain ⟨n2, hn2⟩ : ∃ n2, (nfA [(n, 0)]).length = n2 := ⟨_, rfl⟩
  have hr := (hb1.block w.heap.size (by simp; omega)).trans X1.out
  have f5 := cell_of_one hr
  have f6 := free_of_one hr
  have hs : (w1.setCell ⟨w.heap.size, 0, none⟩ (.slice A2 n2 m2)).cell? ⟨w.heap.size, 0, none⟩ = some (.slice A2 n2 m2) := World.cell?_setCell_same _ _ _ f5
  have HF : Hid (LOut w (nfA [(n, 0)]) (.returned (.agg #[.slice A2 n2 m2])) (w1.setCell ⟨w.heap.size, 0, none⟩ (.slice A2 n2 m2))) :=
    ⟨A2, m2, by rw [hn2], hl.box hr, (HB.out.trans (hb1.mono (by simp; omega))).setCell (Nat.le_refl _) _⟩
  rw [hn2]
  clear hr hl hb1 hn2
  go_wp2
  exact bodyPost_ret (v := .agg #[.slice A2 n2 m2]) (by simp [results, Tryz.results37, go_sem, hs]) rfl HF.out

set_option maxRecDepth 100000 in
set_option maxHeartbeats 4000000 in
theorem rleq_any (A A' : Option Addr) (pa pb : List (Int × Int)) (c c' : Nat) (w : World) (hma : pa.length ≤ 900000) (hmb : pb.length ≤ 900000) (ha : Lev w w.heap.size A pa) (hb : Lev w w.heap.size A' pb) (hca : A = none → c = 0) (hcb : A' = none → c' = 0) (r : Bool) (hr : r = true ↔ LeqL (nfA pa) (nfA pb)) :
    Calls Tryz.prog 34 #[.agg #[.slice A pa.length c], .agg #[.slice A' pb.length c']] w (HasPost w r) := by
  have hfd := field_parts
  obtain ⟨x1, x2, x3⟩ := two_allocs w (.cells #[.slice A pa.length c] 24) (.cells #[.slice A' pb.length c'] 24)
  have hb0 : Below w.heap.size w ((w.alloc (.cells #[.slice A pa.length c] 24)).alloc (.cells #[.slice A' pb.length c'] 24)) := ((Below.refl _ _).alloc (Nat.le_refl _) _).alloc (by simp) _
  have HG1 := Lib.hid (rnorm_any A pa c ((w.alloc (.cells #[.slice A pa.length c] 24)).alloc (.cells #[.slice A' pb.length c'] 24)) hma ((ha.below hb0).more (by simp; omega)) hca)
  have HG2 := Lib.hid (fun W (hW : Below w.heap.size w W) => rnorm_any A' pb c' W hmb ((hb.below hW).more hW.size) hcb)
  have X1 := Lib.hid x1
  have X2 := Lib.hid x2
  have HB0 := Lib.hid hb0
  have hn1 := nfA_len pa
  have hn2 := nfA_len pb
  obtain ⟨qa, hqa⟩ : ∃ q, nfA pa = q := ⟨_, rfl⟩
  obtain ⟨qb, hqb⟩ : ∃ q, nfA pb = q := ⟨_, rfl⟩
  rw [hqa] at hn1 HG1 hr
  rw [hqb] at hn2 HG2 hr
  have HR := Lib.hid hr
  have hla : qa.length ≤ 900000 := by omega
  have hlb : qb.length ≤ 900000 := by omega
  clear x1 x2 x3 hb0 ha hb hca hcb hr hma hmb hn1 hn2 hqa hqb
  go_enter Tryz.func34, Tryz.ntmps34
  go_wp2_with (fail)
  refine HG1.out.mono ?_
  rintro e w1 ⟨A1, m1, rfl, hl1, hb1⟩
  obtain ⟨n1, hn1⟩ : ∃ n, qa.length = n := ⟨_, rfl⟩
  have e1 := (hb1.block w.heap.size (by simp; omega)).trans X1.out
  have e2 := (hb1.block (w.heap.size + 1) (by simp)).trans X2.out
  have f5 := cell_of_one e1
  have f6 := free_of_one e1
  have hz1 : w.heap.size + 2 ≤ w1.heap.size := by have := hb1.size; simp at this; omega
  obtain ⟨w2, hw2⟩ : ∃ w2, w1.setCell ⟨w.heap.size, 0, none⟩ (.slice A1 n1 m1) = w2 := ⟨_, rfl⟩
  have LA := Lib.hid (hl1.box (u := .slice A1 n1 m1) e1)
  have BA : Hid (Below w.heap.size w w2) := by rw [← hw2]; exact (HB0.out.trans (hb1.mono (by simp; omega))).setCell (Nat.le_refl _) _
  have Y1 : Hid (w2.heap[w.heap.size]? = some (.cells #[.slice A1 n1 m1] 24 (0, 0))) := by rw [← hw2]; exact (heap_setCell_same w1 w.heap.size 0 _ _ (.slice A1 n1 m1) e1).trans (by simp)
  have Y2 : Hid (w2.heap[w.heap.size + 1]? = some (.cells #[.slice A' pb.length c'] 24 (0, 0))) := by rw [← hw2]; exact (Below.heap_setCell w1 _ _ _ (by show w.heap.size + 1 ≠ w.heap.size; omega)).trans e2
  have hz2 : w.heap.size + 2 ≤ w2.heap.size := by rw [← hw2]; exact Nat.le_trans hz1 (set_size _ _ _)
  have g5 := cell_of_one Y2.out
  rw [hn1, hw2] at LA
  rw [hn1]
  clear hl1 hb1 e1 e2
  go_wp2_with (fail)
  clear hw2 f5 f6 g5
  refine (HG2.out w2 BA.out).mono ?_
  rintro e w3 ⟨A2, m2, rfl, hl2, hb2⟩
  obtain ⟨n2, hn2⟩ : ∃ n, qb.length = n := ⟨_, rfl⟩
  have hz3 := hb2.size
  have e1 := (hb2.block w.heap.size (by omega)).trans Y1.out
  have e2 := (hb2.block (w.heap.size + 1) (by omega)).trans Y2.out
  have f5 := cell_of_one e2
  have f6 := free_of_one e2
  obtain ⟨w4, hw4⟩ : ∃ w4, w3.setCell ⟨w.heap.size + 1, 0, none⟩ (.slice A2 n2 m2) = w4 := ⟨_, rfl⟩
  have LA4 := Lib.hid ((LA.out.step hb2).box (u := .slice A2 n2 m2) e2)
  have LB4 := Lib.hid (hl2.box (u := .slice A2 n2 m2) e2)
  have BB : Hid (Below w.heap.size w w4) := by rw [← hw4]; exact (BA.out.trans (hb2.mono (by omega))).setCell (by show w.heap.size ≤ w.heap.size + 1; omega) _
  have d1 : w4.cell? ⟨w.heap.size, 0, none⟩ = some (.slice A1 n1 m1) := by rw [← hw4]; exact cell_of_one ((Below.heap_setCell w3 _ _ _ (by show w.heap.size ≠ w.heap.size + 1; omega)).trans e1)
  have d2 : w4.cell? ⟨w.heap.size + 1, 0, none⟩ = some (.slice A2 n2 m2) := by rw [← hw4]; exact World.cell?_setCell_same _ _ _ f5
  have hz4 : w.heap.size + 2 ≤ w4.heap.size := by rw [← hw4]; exact Nat.le_trans (by omega) (set_size _ _ _)
  rw [hw4] at LA4
  rw [hn2, hw4] at LB4
  rw [hn2]
  clear hl2 hb2 e1 e2 LA Y1 Y2
  go_wp2
  clear hw4 f5 f6
  go_loopw [5] (fun i wr => ∃ k : Nat, k ≤ n1 ∧ i = .int .i64 k ∧ Below w4.heap.size w4 wr ∧ ∀ p ∈ qa.take k, ∃ q ∈ qb, Cov p q) (fun i _ => n1 - (intOf i).toNat)
  case atStart => exact ⟨0, Nat.zero_le _, rfl, Below.refl _ _, fun p hp => by simp at hp⟩
  case round =>
    obtain ⟨k, hk, rfl, hb, hs⟩ := hrel
    have hbz := hb.size
    have c1 := (hb.cell (by show w.heap.size < w4.heap.size; omega)).trans d1
    have c2 := (hb.cell (by show w.heap.size + 1 < w4.heap.size; omega)).trans d2
    by_cases hlt : k < n1
    · obtain ⟨b, o, rfl, hbB, hcell⟩ := LA4.out.2.1 (by omega)
      have p0 := (hb.cell hbB).trans (hcell k (by omega)).1
      have p1 := (hb.cell hbB).trans (hcell k (by omega)).2
      obtain ⟨x, hx⟩ : ∃ x, x = (qa.getD k (0, 0)).1 := ⟨_, rfl⟩
      obtain ⟨y, hy⟩ : ∃ y, y = (qa.getD k (0, 0)).2 := ⟨_, rfl⟩
      rw [← hx] at p0
      rw [← hy] at p1
      have hq : qa[k]'(by omega) = (x, y) := by rw [hx, hy, List.getD_eq_getElem?_getD, List.getElem?_eq_getElem (by omega)]; rfl
      have HQ := Lib.hid hq
      have HS := Lib.hid hs
      have HB := Lib.hid hb
      have HC := Lib.hid hcell
      have ij0 : (0 : Int) ≤ (k : Int) := by omega
      have ij1 : (k : Int) < (n1 : Int) := by omega
      have hbw : b < wr.heap.size := by omega
      have P0 : Hid (w4.cell? ⟨b, o + k * 2, none⟩ = some (.int .i64 x)) := by have := (hcell k (by omega)).1; rwa [← hx] at this
      have P1 : Hid (w4.cell? ⟨b, o + k * 2 + 1, none⟩ = some (.int .i64 y)) := by have := (hcell k (by omega)).2; rwa [← hy] at this
      clear hb hs hcell hx hy hq
      go_wp2
      go_loopw [6, 7] (fun fv i wq => ∃ (m : Nat) (fb : Bool), m ≤ n2 ∧ i = .int .i64 m ∧ fv = .bool fb ∧ (fb = true ↔ ∃ q ∈ qb.take m, Cov (x, y) q) ∧ Below w4.heap.size w4 wq) (fun _ i _ => n2 - (intOf i).toNat)
      case atStart => exact ⟨0, false, Nat.zero_le _, rfl, rfl, by simp, HB.out⟩
      case round =>
        obtain ⟨m, fb, hm, rfl, rfl, hfb, hb⟩ := hrel
        have hbz2 := hb.size
        have e1 := (hb.cell (by show w.heap.size < w4.heap.size; omega)).trans d1
        have e2 := (hb.cell (by show w.heap.size + 1 < w4.heap.size; omega)).trans d2
        have q0 := (hb.cell hbB).trans P0.out
        have q1 := (hb.cell hbB).trans P1.out
        clear c1 c2 p0 p1
        by_cases hlt2 : m < n2
        · obtain ⟨b2, o2, rfl, hbB2, hcell2⟩ := LB4.out.2.1 (by omega)
          have r0 := (hb.cell hbB2).trans (hcell2 m (by omega)).1
          have r1 := (hb.cell hbB2).trans (hcell2 m (by omega)).2
          obtain ⟨u, hu⟩ : ∃ u, u = (qb.getD m (0, 0)).1 := ⟨_, rfl⟩
          obtain ⟨v, hv⟩ : ∃ v, v = (qb.getD m (0, 0)).2 := ⟨_, rfl⟩
          rw [← hu] at r0
          rw [← hv] at r1
          have hq2 : qb[m]'(by omega) = (u, v) := by rw [hu, hv, List.getD_eq_getElem?_getD, List.getElem?_eq_getElem (by omega)]; rfl
          have HX : Hid (∀ fb' : Bool, (fb' = true ↔ fb = true ∨ Cov (x, y) (u, v)) → (fb' = true ↔ ∃ q ∈ qb.take (m + 1), Cov (x, y) q)) := fun fb' h => by
            rw [h, hfb, List.take_succ_eq_append_getElem (by omega), hq2]
            constructor
            · rintro (⟨q, hq, hc⟩ | hc)
              · exact ⟨q, List.mem_append_left _ hq, hc⟩
              · exact ⟨(u, v), by simp, hc⟩
            · rintro ⟨q, hq, hc⟩
              rcases List.mem_append.1 hq with hq | hq
              · exact Or.inl ⟨q, hq, hc⟩
              · simp at hq
                rw [hq] at hc
                exact Or.inr hc
          have HBB := Lib.hid hb
          have jj0 : (0 : Int) ≤ (m : Int) := by omega
          have jj1 : (m : Int) < (n2 : Int) := by omega
          have hbw2 : b < wr.heap.size := by omega
          have hbw3 : b2 < wr.heap.size := by omega
          clear hb hfb hcell2 hu hv hq2
          rcases fb with _ | _
          · by_cases t1 : x = 0
            · subst t1
              have HF := Lib.hid (HX.out (decide (y ≤ v)) (by simp [Cov]))
              clear HX
              go_wp2_with (fail)
              go_quiet (fail)
              go_wp2
              go_roundw
              case rel => exact ⟨m + 1, decide (y ≤ v), by omega, by go_num, rfl, HF.out, below_drewN HBB.out _⟩
              case measure => simp [intOf]; omega
            · have t2 : (x == 0) = false := by simpa using t1
              by_cases t3 : x = u
              · have HF := Lib.hid (HX.out (decide (y ≤ v)) (by simp [Cov, t3]))
                have t4 : (x == u) = true := by simpa using t3
                clear HX
                subst t3
                go_wp2_with (fail)
                go_quiet (fail)
                go_wp2
                go_roundw
                case rel => exact ⟨m + 1, decide (y ≤ v), by omega, by go_num, rfl, HF.out, below_drewN HBB.out _⟩
                case measure => simp [intOf]; omega
              · have HF := Lib.hid (HX.out false (by simp [Cov, t1, Ne.symm t3]))
                have t4 : (x == u) = false := by simpa using t3
                clear HX
                go_wp2_with (fail)
                go_quiet (fail)
                go_wp2
                go_roundw
                case rel => exact ⟨m + 1, false, by omega, by go_num, rfl, HF.out, below_drewN HBB.out _⟩
                case measure => simp [intOf]; omega
          · have HF := Lib.hid (HX.out true (by simp))
            clear HX
            go_wp2_with (fail)
            go_quiet (fail)
            go_wp2
            go_roundw
            case rel => exact ⟨m + 1, true, by omega, by go_num, rfl, ⟨fun _ => HF.out.1 trivial, fun _ => rfl⟩, below_drewN HBB.out _⟩
            case measure => simp [intOf]; omega
        · obtain rfl : m = n2 := by omega
          have hfull : qb.take m = qb := List.take_of_length_le (by omega)
          rw [hfull] at hfb
          rcases fb with _ | _
          · have HF : Hid (HasPost w r (.returned (.bool false)) wr) := by
              have hrf : r = false := by
                rcases r with _ | _
                · rfl
                · have h1 := HR.out.1 rfl (x, y) (by rw [← HQ.out]; exact List.getElem_mem _)
                  have := hfb.2 h1
                  cases this
              rw [hrf]
              exact ⟨rfl, BB.out.trans (hb.mono (by omega))⟩
            clear hfb hb hfull
            go_wp2
            go_ret
            exact HF.out
          · have HN : Hid (∀ p ∈ qa.take (k + 1), ∃ q ∈ qb, Cov p q) := fun p hp => by
              rw [List.take_succ_eq_append_getElem (by omega), HQ.out] at hp
              rcases List.mem_append.1 hp with hp | hp
              · exact HS.out p hp
              · simp at hp
                rw [hp]
                exact hfb.1 rfl
            have HBB := Lib.hid hb
            clear hfb hb hfull
            go_wp2
            go_roundw
            case rel => exact ⟨k + 1, by omega, by go_num, HBB.out, HN.out⟩
            case measure => simp [intOf]; omega
    · obtain rfl : k = n1 := by omega
      have HF : Hid (HasPost w r (.returned (.bool true)) wr) := by
        have hrt : r = true := HR.out.2 fun p hp => hs p (by rw [List.take_of_length_le (by omega)]; exact hp)
        rw [hrt]
        exact ⟨rfl, BB.out.trans (hb.mono (by omega))⟩
      clear hs hb
      go_wp2
      go_ret
      exact HF.out

set_option maxRecDepth 100000 in
set_option maxHeartbeats 2000000 in
theorem rsame_any (A A' : Option Addr) (pa pb : List (Int × Int)) (c c' : Nat) (w : World) (hma : pa.length ≤ 900000) (hmb : pb.length ≤ 900000) (ha : Lev w w.heap.size A pa) (hb : Lev w w.heap.size A' pb) (hca : A = none → c = 0) (hcb : A' = none → c' = 0) (r : Bool) (hr : r = true ↔ LeqL (nfA pa) (nfA pb) ∧ LeqL (nfA pb) (nfA pa)) :
    Calls Tryz.prog 35 #[.agg #[.slice A pa.length c], .agg #[.slice A' pb.length c']] w (HasPost w r) := by
  obtain ⟨x1, x2, x3⟩ := two_allocs w (.cells #[.slice A pa.length c] 24) (.cells #[.slice A' pb.length c'] 24)
  have hb0 : Below w.heap.size w ((w.alloc (.cells #[.slice A pa.length c] 24)).alloc (.cells #[.slice A' pb.length c'] 24)) := ((Below.refl _ _).alloc (Nat.le_refl _) _).alloc (by simp) _
  obtain ⟨r1, hr1⟩ : ∃ r : Bool, r = true ↔ LeqL (nfA pa) (nfA pb) := by
    by_cases h : LeqL (nfA pa) (nfA pb)
    · exact ⟨true, by simpa using h⟩
    · exact ⟨false, by simpa using h⟩
  obtain ⟨r2, hr2⟩ : ∃ r : Bool, r = true ↔ LeqL (nfA pb) (nfA pa) := by
    by_cases h : LeqL (nfA pb) (nfA pa)
    · exact ⟨true, by simpa using h⟩
    · exact ⟨false, by simpa using h⟩
  have HG1 := Lib.hid (rleq_any A A' pa pb c c' ((w.alloc (.cells #[.slice A pa.length c] 24)).alloc (.cells #[.slice A' pb.length c'] 24)) hma hmb ((ha.below hb0).more hb0.size) ((hb.below hb0).more hb0.size) hca hcb r1 hr1)
  have HG2 := Lib.hid (fun W (hW : Below w.heap.size w W) => rleq_any A' A pb pa c' c W hmb hma ((hb.below hW).more hW.size) ((ha.below hW).more hW.size) hcb hca r2 hr2)
  have X1 := Lib.hid x1
  have X2 := Lib.hid x2
  have HB0 := Lib.hid hb0
  have HRR : Hid (r = (r1 && r2)) := by
    have : r = true ↔ (r1 && r2) = true := by rw [hr, Bool.and_eq_true, hr1, hr2]
    unfold Hid
    cases r <;> cases h : (r1 && r2) <;> simp_all
  clear x1 x2 x3 hb0 ha hb hca hcb hr hr1 hr2 hma hmb
  go_enter Tryz.func35, Tryz.ntmps35
  go_wp2_with (fail)
  refine HG1.out.mono ?_
  rintro e w1 ⟨rfl, hb1⟩
  have f1 := cell_of_one ((hb1.block w.heap.size (by simp; omega)).trans X1.out)
  have f2 := cell_of_one ((hb1.block (w.heap.size + 1) (by simp)).trans X2.out)
  have B1 : Hid (Below w.heap.size w w1) := HB0.out.trans (hb1.mono (by simp; omega))
  clear hb1 X1 X2 HB0 HG1
  rcases r1 with _ | _
  · have HF : Hid (HasPost w r (.returned (.bool false)) w1) := by
      rw [HRR.out]
      exact ⟨rfl, B1.out⟩
    go_wp2
    go_ret
    exact HF.out
  · have HC := Lib.hid (HG2.out w1 B1.out)
    go_wp2_with (fail)
    refine HC.out.mono ?_
    rintro e w2 ⟨rfl, hb2⟩
    have HF : Hid (HasPost w r (.returned (.bool r2)) w2) := by
      rw [HRR.out]
      exact ⟨rfl, B1.out.trans (hb2.mono B1.out.size)⟩
    clear hb2
    go_wp2
    go_ret
    exact HF.out
end Go.Proofs.YtldalfikpklfdaaGreat
