/- The law's one: what is told of a row and a term is what the document tells. -/
import Derived.Test.YtaoglkkdhdfioaaGreatDoorEvWk
import Derived.Test.YtaoglkkdhdfioaaGreatDoorTeRef9
import Derived.Test.YtaoglkkdhdfioaaGreatDoorTeAwakeZ
import Derived.Test.YtaoglkkdhdfioaaGreatDoorTeMathZ
import Derived.Test.YtaoglkkdhdfioaaGreatDoorTeAbove
import Derived.KernelRfl
import Derived.Test.YtaoglkkdhdfioaaGreatDoorProg
namespace Go.Proofs.YtaoglkkdhdfioaaGreatDoor
open Go Go.Proofs
set_option maxRecDepth 100000
set_option maxHeartbeats 4000000
attribute [local go_sem] AH.seals AH.adds news List.nil_append List.cons_append AF.put AF.start Slots.set Slots.ins zipA AH.zero AH.new AH.put AH.sub ofV AV.cells List.length AF.keep AH.cut List.filter_cons List.filter_nil List.contains_cons List.contains_nil Nat.reduceBEq Bool.or_false Bool.or_true Bool.true_or Bool.false_or decide_true decide_false Bool.not_false Bool.and_true Bool.true_and Bool.and_self List.append_nil List.getElem_toArray List.getElem_cons_zero List.getElem_cons_succ Nat.reduceLT Nat.reduceAdd Nat.reduceSub Nat.reduceEqDiff andThen atEnd rounds Tryz.ntmps12 Tryz.ntmps15 AH.only List.length_append List.filter
theorem lams_tells (row : List Tm) (b : Tm) (hs : b.size + Tm.sizeL row ≤ 1048576) (hf : b.fit) (hl : Tm.fitL row) : Tells Tryz.prog (.func 12) [.vals 5 (row.map eTm), eTm b] [] (eTm (aboveT 5 b row)) := by
  have hT := above_tells row 5 b hs hf hl
  refine tells_raw (fun b hb => ?_) (pure_tm _) ?_
  · simp at hb; rcases hb with rfl | rfl
    · exact pure_tms 5 row
    · exact pure_tm _
  generalize aboveT 5 b row = res at hT ⊢
  rw [eTm_agg res] at hT ⊢
  rw [eTm_agg b] at hT ⊢
  obtain ⟨bk, bn, ba, bl, bks⟩ := b
  obtain ⟨k1, n1, a1, lv1, kids1⟩ := res
  generalize row.map eTm = K at hT ⊢
  refine gives_enter Tryz.func12 rfl rfl ?_
  repeat' first
    | refine wk ?_
    | refine wa ?_
    | refine tl hT ?_
    | refine ta hT ?_
    | (refine goesL_b (by rfl) (by rfl) fun b hb => ?_; cases b <;> refine sm ?_)
    | (refine goesA_b (by rfl) (by rfl) fun b hb => ?_; cases b <;> refine sm ?_)
  exact ⟨rfl, _, rfl, rfl⟩
theorem openT_bounds : ∀ (n : Nat) (t : Tm) (l : List Tm) (v : Tm), openT n t = some (l, v) → Tm.countL l + v.count ≤ t.count ∧ l.length = n
  | 0, t, l, v, h => by
    rw [openT] at h
    injection h with h
    injection h with h1 h2
    subst h1 h2
    simp [Tm.countL]
  | n + 1, t, l, v, h => by
    cases l with
    | nil =>
      cases e : t.two 4 with
      | false => rw [openT_no e] at h; cases h
      | true =>
        obtain ⟨k1, n1, a1, lv1, kids1⟩ := t
        obtain ⟨rfl, x', y, rfl⟩ := Tm.two_iff.1 e
        rw [openT_go] at h
        cases ho : openT n y with
        | none => rw [ho] at h; cases h
        | some q => rw [ho] at h; simp at h
    | cons x l =>
      obtain ⟨n1, a1, lv1, y, rfl, ho⟩ := openT_succ h
      have ih := openT_bounds n y l v ho
      rw [Tm.count_mk, Tm.countL, Tm.countL, Tm.countL, Tm.countL]
      simp only [List.length_cons]
      omega
/-- without levels, of words, not too great -/
structure Good (t : Tm) : Prop where
  bare : t.bare
  fit : t.fit
  few : t.count ≤ 1000
theorem Good.size {t : Tm} (h : Good t) : t.size ≤ 1000 := Nat.le_trans (size_count t) h.few
theorem one_tells (row : List Tm) (t : Tm) (n from' : Int) (ht : Good t) (hr : ∀ x ∈ row, Good x) (hl : row.length ≤ 100) (hn : n ≤ 1048576) : Tells Tryz.prog (.func 15) [.vals 5 (row.map eTm), eTm t, eInt n, eInt from'] [] (eBool true) := by
  have hts := ht.size
  have hr2 : ∀ x ∈ row, x.bare ∧ x.fit ∧ x.size ≤ 1048576 := fun x hx => ⟨(hr x hx).bare, (hr x hx).fit, by have := (hr x hx).size; omega⟩
  have hcl : ∀ l : List Tm, (∀ x ∈ l, x.count ≤ 1000) → Tm.countL l ≤ l.length * 1000 := fun l => by
    induction l with
    | nil => intro _; simp [Tm.countL]
    | cons x l ih =>
      intro h
      have h1 := h x (List.mem_cons_self ..)
      have h2 := ih fun y hy => h y (List.mem_cons_of_mem _ hy)
      simp only [Tm.countL, List.length_cons]
      omega
  have hcr := hcl row fun x hx => (hr x hx).few
  have hsr := sizeL_countL row
  have hfr : Tm.fitL row := (Tm.fitL_iff row).2 fun x hx => (hr x hx).fit
  have htc := ht.few
  -- what the program tells, what the document tells
  have a1 := open_tells t n hn (by omega) ht.fit
  have a2 : Tells Tryz.prog (.func 46) [eTm t, eInt n] [] (openV (if n < 0 then none else openT n.toNat t)) := by
    by_cases h0 : n < 0
    · rw [if_pos h0]; exact ropen_none t n (.inl h0) (by omega)
    · rw [if_neg h0]
      obtain ⟨N, rfl⟩ : ∃ N : Nat, n = N := ⟨n.toNat, by omega⟩
      rw [show ((N : Int)).toNat = N from rfl]
      rcases Nat.lt_or_ge (cntT t) N with h | h
      · rw [openT_over N t h]; exact ropen_none t N (.inr (by omega)) (by omega)
      · exact ropen_some t N h (by omega) ht.bare ht.fit
  obtain ⟨p, q, b, hV, hpc, hqc, hpl⟩ : ∃ (p : List Tm) (q : Tm) (b : Bool), openV (if n < 0 then none else openT n.toNat t) = .tup [.vals 5 (p.map eTm), eTm q, eBool b] ∧ (∀ x ∈ p, x.count ≤ 1000) ∧ q.count ≤ 1000 ∧ p.length ≤ 1048576 := by
    cases ho : (if n < 0 then none else openT n.toNat t) with
    | none => exact ⟨[], zeroTm, false, rfl, by simp, by decide, by simp⟩
    | some r =>
      obtain ⟨p, q⟩ := r
      have hb : openT n.toNat t = some (p, q) := by
        split at ho
        · cases ho
        · exact ho
      have := openT_bounds _ _ _ _ hb
      exact ⟨p, q, true, rfl, fun x hx => by have := Tm.countL_mem p x hx; omega, by omega, by omega⟩
  rw [hV] at a1 a2
  have a3 := spine_tells t (by omega) ht.fit
  have a4 := rspine_tells t (by omega) ht.bare ht.fit
  have a5 := pis_tells row t (by omega) ht.fit hfr
  have a6 := rPis_tells row t (by omega) ht.bare ht.fit hr2 (by omega)
  have a7 := lams_tells row t (by omega) ht.fit hfr
  have a8 := rLams_tells row t (by omega) ht.bare ht.fit hr2 (by omega)
  have a9 := apps_tells t row (by omega) ht.fit hfr
  have a10 := rapps_tells t row (by omega) ht.bare ht.fit hr2 (by omega)
  have a11 := count_tells t (by omega)
  have a12 := rcount_tells t (by omega)
  have a13 := lifts_tells n from' row (by omega) (fun x hx => by have := (hr2 x hx).2.2; omega) (fun x hx => (hr2 x hx).2.1)
  have a14 := rlifts_tells n from' row (by omega) hr2
  have s1 := same_tells (aboveT 4 t row) (aboveT 4 t row) (by rw [above_count]; omega)
  have s2 := same_tells (aboveT 5 t row) (aboveT 5 t row) (by rw [above_count]; omega)
  have s3 := same_tells (appsT t row) (appsT t row) (by rw [apps_count]; omega)
  have s4 := rows_tells p p (fun x hx => by have := hpc x hx; omega) (by unfold small; omega)
  have s5 := same_tells q q (by omega)
  obtain ⟨sp1, sp2, sp3⟩ := spine_parts t
  have s6 := same_tells (headT t) (headT t) (by omega)
  have s7 := rows_tells (argsT t) (argsT t) (fun x hx => by have := Tm.countL_mem (argsT t) x hx; omega) (by have := Tm.sizeL_len (argsT t); unfold small; omega)
  have s8 := rows_tells (liftsT n from' row) (liftsT n from' row) (fun x hx => by
    unfold liftsT at hx
    obtain ⟨i, hi, rfl⟩ := List.mem_mapIdx.1 hx
    have h1 := (lift_bounds n (IntKind.i64.wrap (from' + (i : Int))) row[i] 0).2.1
    have h2 := (hr row[i] (List.getElem_mem hi)).few
    omega) (by unfold liftsT; unfold small; simp; omega)
  rw [same_refl] at s1 s2 s3 s5 s6
  rw [rows_refl] at s4 s7 s8
  refine tells_raw (fun b hb => ?_) (.raw _) ?_
  · simp at hb; rcases hb with rfl | rfl | rfl | rfl
    · exact pure_tms 5 row
    · exact pure_tm t
    · exact .raw _
    · exact .raw _
  clear hV hpc hqc hpl sp1 sp2 sp3 hr hr2 hcr hsr hfr hcl
  have hcc : ((cntT t : Int) == (cntT t : Int)) = true := by simp
  generalize hP : p.map eTm = P0 at a1 a2 s4
  generalize (argsT t).map eTm = L at a3 a4 s7
  generalize (liftsT n from' row).map eTm = Q at a13 a14 s8
  generalize row.map eTm = K at a5 a6 a7 a8 a9 a10 a13 a14 ⊢
  generalize (cntT t : Int) = cc at a11 a12 hcc
  generalize headT t = hd at a3 a4 s6
  generalize aboveT 4 t row = r4 at a5 a6 s1
  generalize aboveT 5 t row = r5 at a7 a8 s2
  generalize appsT t row = r6 at a9 a10 s3
  rw [eTm_agg t] at a1 a2 a3 a4 a5 a6 a7 a8 a9 a10 a11 a12 ⊢
  rw [eTm_agg q] at a1 a2 s5
  rw [eTm_agg hd] at a3 a4 s6
  rw [eTm_agg r4] at a5 a6 s1
  rw [eTm_agg r5] at a7 a8 s2
  rw [eTm_agg r6] at a9 a10 s3
  obtain ⟨k1, n1, c1, lv1, kids1⟩ := t
  obtain ⟨k2, n2, c2, lv2, kids2⟩ := q
  obtain ⟨k3, n3, c3, lv3, kids3⟩ := hd
  obtain ⟨k4, n4, c4, lv4, kids4⟩ := r4
  obtain ⟨k5, n5, c5, lv5, kids5⟩ := r5
  obtain ⟨k6, n6, c6, lv6, kids6⟩ := r6
  cases b
  all_goals (refine gives_enter Tryz.func15 rfl rfl ?_)
  · repeat' first
      | refine wk ?_
      | refine wa ?_
      | (refine goesL_b (by rfl) (by rfl) fun b hb => ?_; cases b <;> refine sm ?_)
      | (refine goesA_b (by rfl) (by rfl) fun b hb => ?_; cases b <;> refine sm ?_)
    refine tl a1 ?_
    repeat' first
      | refine wk ?_
      | refine wa ?_
      | (refine goesL_b (by rfl) (by rfl) fun b hb => ?_; cases b <;> refine sm ?_)
      | (refine goesA_b (by rfl) (by rfl) fun b hb => ?_; cases b <;> refine sm ?_)
    refine tl a2 ?_
    repeat' first
      | refine wk ?_
      | refine wa ?_
      | (refine goesL_b (by rfl) (by rfl) fun b hb => ?_; cases b <;> refine sm ?_)
      | (refine goesA_b (by rfl) (by rfl) fun b hb => ?_; cases b <;> refine sm ?_)
    refine tl a3 ?_
    repeat' first
      | refine wk ?_
      | refine wa ?_
      | (refine goesL_b (by rfl) (by rfl) fun b hb => ?_; cases b <;> refine sm ?_)
      | (refine goesA_b (by rfl) (by rfl) fun b hb => ?_; cases b <;> refine sm ?_)
    refine tl a4 ?_
    repeat' first
      | refine wk ?_
      | refine wa ?_
      | (refine goesL_b (by rfl) (by rfl) fun b hb => ?_; cases b <;> refine sm ?_)
      | (refine goesA_b (by rfl) (by rfl) fun b hb => ?_; cases b <;> refine sm ?_)
    refine ta a5 ?_
    repeat' first
      | refine wa ?_
      | (refine goesA_b (by rfl) (by rfl) fun b hb => ?_; cases b <;> refine sm ?_)
    refine ta a6 ?_
    repeat' first
      | refine wa ?_
      | (refine goesA_b (by rfl) (by rfl) fun b hb => ?_; cases b <;> refine sm ?_)
    refine ta s1 ?_
    repeat' first
      | refine wa ?_
      | (refine goesA_b (by rfl) (by rfl) fun b hb => ?_; cases b <;> refine sm ?_)
    refine ta a7 ?_
    repeat' first
      | refine wa ?_
      | (refine goesA_b (by rfl) (by rfl) fun b hb => ?_; cases b <;> refine sm ?_)
    refine ta a8 ?_
    repeat' first
      | refine wa ?_
      | (refine goesA_b (by rfl) (by rfl) fun b hb => ?_; cases b <;> refine sm ?_)
    refine ta s2 ?_
    repeat' first
      | refine wa ?_
      | (refine goesA_b (by rfl) (by rfl) fun b hb => ?_; cases b <;> refine sm ?_)
    refine ta a9 ?_
    repeat' first
      | refine wa ?_
      | (refine goesA_b (by rfl) (by rfl) fun b hb => ?_; cases b <;> refine sm ?_)
    refine ta a10 ?_
    repeat' first
      | refine wa ?_
      | (refine goesA_b (by rfl) (by rfl) fun b hb => ?_; cases b <;> refine sm ?_)
    refine ta s3 ?_
    repeat' first
      | refine wa ?_
      | (refine goesA_b (by rfl) (by rfl) fun b hb => ?_; cases b <;> refine sm ?_)
    refine ta s4 ?_
    repeat' first
      | refine wa ?_
      | (refine goesA_b (by rfl) (by rfl) fun b hb => ?_; cases b <;> refine sm ?_)
    refine ta s5 ?_
    repeat' first
      | refine wa ?_
      | (refine goesA_b (by rfl) (by rfl) fun b hb => ?_; cases b <;> refine sm ?_)
    refine ta s6 ?_
    repeat' first
      | refine wa ?_
      | (refine goesA_b (by rfl) (by rfl) fun b hb => ?_; cases b <;> refine sm ?_)
    refine ta s7 ?_
    repeat' first
      | refine wa ?_
      | (refine goesA_b (by rfl) (by rfl) fun b hb => ?_; cases b <;> refine sm ?_)
    refine ta a11 ?_
    repeat' first
      | refine wa ?_
      | (refine goesA_b (by rfl) (by rfl) fun b hb => ?_; cases b <;> refine sm ?_)
    refine ta a12 ?_
    repeat' first
      | refine wa ?_
      | (refine goesA_b (by rfl) (by rfl) fun b hb => ?_; cases b <;> refine sm ?_)
    rw [hcc]
    repeat' first
      | refine wa ?_
      | (refine goesA_b (by rfl) (by rfl) fun b hb => ?_; cases b <;> refine sm ?_)
    refine ta a13 ?_
    repeat' first
      | refine wa ?_
      | (refine goesA_b (by rfl) (by rfl) fun b hb => ?_; cases b <;> refine sm ?_)
    refine ta a14 ?_
    repeat' first
      | refine wa ?_
      | (refine goesA_b (by rfl) (by rfl) fun b hb => ?_; cases b <;> refine sm ?_)
    refine ta s8 ?_
    repeat' first
      | refine wa ?_
      | (refine goesA_b (by rfl) (by rfl) fun b hb => ?_; cases b <;> refine sm ?_)
    repeat' first
      | refine wk ?_
      | refine wa ?_
      | (refine goesL_b (by rfl) (by rfl) fun b hb => ?_; cases b <;> refine sm ?_)
      | (refine goesA_b (by rfl) (by rfl) fun b hb => ?_; cases b <;> refine sm ?_)
    exact ⟨rfl, _, rfl, rfl⟩
  · repeat' first
      | refine wk ?_
      | refine wa ?_
      | (refine goesL_b (by rfl) (by rfl) fun b hb => ?_; cases b <;> refine sm ?_)
      | (refine goesA_b (by rfl) (by rfl) fun b hb => ?_; cases b <;> refine sm ?_)
    refine tl a1 ?_
    repeat' first
      | refine wk ?_
      | refine wa ?_
      | (refine goesL_b (by rfl) (by rfl) fun b hb => ?_; cases b <;> refine sm ?_)
      | (refine goesA_b (by rfl) (by rfl) fun b hb => ?_; cases b <;> refine sm ?_)
    refine tl a2 ?_
    repeat' first
      | refine wk ?_
      | refine wa ?_
      | (refine goesL_b (by rfl) (by rfl) fun b hb => ?_; cases b <;> refine sm ?_)
      | (refine goesA_b (by rfl) (by rfl) fun b hb => ?_; cases b <;> refine sm ?_)
    refine tl a3 ?_
    repeat' first
      | refine wk ?_
      | refine wa ?_
      | (refine goesL_b (by rfl) (by rfl) fun b hb => ?_; cases b <;> refine sm ?_)
      | (refine goesA_b (by rfl) (by rfl) fun b hb => ?_; cases b <;> refine sm ?_)
    refine tl a4 ?_
    repeat' first
      | refine wk ?_
      | refine wa ?_
      | (refine goesL_b (by rfl) (by rfl) fun b hb => ?_; cases b <;> refine sm ?_)
      | (refine goesA_b (by rfl) (by rfl) fun b hb => ?_; cases b <;> refine sm ?_)
    refine ta a5 ?_
    repeat' first
      | refine wa ?_
      | (refine goesA_b (by rfl) (by rfl) fun b hb => ?_; cases b <;> refine sm ?_)
    refine ta a6 ?_
    repeat' first
      | refine wa ?_
      | (refine goesA_b (by rfl) (by rfl) fun b hb => ?_; cases b <;> refine sm ?_)
    refine ta s1 ?_
    repeat' first
      | refine wa ?_
      | (refine goesA_b (by rfl) (by rfl) fun b hb => ?_; cases b <;> refine sm ?_)
    refine ta a7 ?_
    repeat' first
      | refine wa ?_
      | (refine goesA_b (by rfl) (by rfl) fun b hb => ?_; cases b <;> refine sm ?_)
    refine ta a8 ?_
    repeat' first
      | refine wa ?_
      | (refine goesA_b (by rfl) (by rfl) fun b hb => ?_; cases b <;> refine sm ?_)
    refine ta s2 ?_
    repeat' first
      | refine wa ?_
      | (refine goesA_b (by rfl) (by rfl) fun b hb => ?_; cases b <;> refine sm ?_)
    refine ta a9 ?_
    repeat' first
      | refine wa ?_
      | (refine goesA_b (by rfl) (by rfl) fun b hb => ?_; cases b <;> refine sm ?_)
    refine ta a10 ?_
    repeat' first
      | refine wa ?_
      | (refine goesA_b (by rfl) (by rfl) fun b hb => ?_; cases b <;> refine sm ?_)
    refine ta s3 ?_
    repeat' first
      | refine wa ?_
      | (refine goesA_b (by rfl) (by rfl) fun b hb => ?_; cases b <;> refine sm ?_)
    refine ta s4 ?_
    repeat' first
      | refine wa ?_
      | (refine goesA_b (by rfl) (by rfl) fun b hb => ?_; cases b <;> refine sm ?_)
    refine ta s5 ?_
    repeat' first
      | refine wa ?_
      | (refine goesA_b (by rfl) (by rfl) fun b hb => ?_; cases b <;> refine sm ?_)
    refine ta s6 ?_
    repeat' first
      | refine wa ?_
      | (refine goesA_b (by rfl) (by rfl) fun b hb => ?_; cases b <;> refine sm ?_)
    refine ta s7 ?_
    repeat' first
      | refine wa ?_
      | (refine goesA_b (by rfl) (by rfl) fun b hb => ?_; cases b <;> refine sm ?_)
    refine ta a11 ?_
    repeat' first
      | refine wa ?_
      | (refine goesA_b (by rfl) (by rfl) fun b hb => ?_; cases b <;> refine sm ?_)
    refine ta a12 ?_
    repeat' first
      | refine wa ?_
      | (refine goesA_b (by rfl) (by rfl) fun b hb => ?_; cases b <;> refine sm ?_)
    rw [hcc]
    repeat' first
      | refine wa ?_
      | (refine goesA_b (by rfl) (by rfl) fun b hb => ?_; cases b <;> refine sm ?_)
    refine ta a13 ?_
    repeat' first
      | refine wa ?_
      | (refine goesA_b (by rfl) (by rfl) fun b hb => ?_; cases b <;> refine sm ?_)
    refine ta a14 ?_
    repeat' first
      | refine wa ?_
      | (refine goesA_b (by rfl) (by rfl) fun b hb => ?_; cases b <;> refine sm ?_)
    refine ta s8 ?_
    repeat' first
      | refine wa ?_
      | (refine goesA_b (by rfl) (by rfl) fun b hb => ?_; cases b <;> refine sm ?_)
    repeat' first
      | refine wk ?_
      | refine wa ?_
      | (refine goesL_b (by rfl) (by rfl) fun b hb => ?_; cases b <;> refine sm ?_)
      | (refine goesA_b (by rfl) (by rfl) fun b hb => ?_; cases b <;> refine sm ?_)
    exact ⟨rfl, _, rfl, rfl⟩
end Go.Proofs.YtaoglkkdhdfioaaGreatDoor
