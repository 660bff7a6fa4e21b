/- For every input LevelTells returns true, and its arguments read as before: of any two levels and any number. -/
import Derived.Test.YtldalfikpklfdaaGreatLvApartN
import Derived.Test.YtldalfikpklfdaaGreatLvOpenL
import Derived.SizedLaws
namespace Go.Proofs.YtldalfikpklfdaaGreat
open Go.RowKit Go.Maps

set_option maxRecDepth 100000 in
set_option maxHeartbeats 8000000 in
theorem tells_any (Aa Ab : Option Addr) (pa pb : List (Int × Int)) (ca cb : Nat) (n : Int) (w : World) (hpa : pa.length ≤ 4611686018427387904) (hpb : pb.length ≤ 4611686018427387904)
    (ha : Lev w w.heap.size Aa pa) (hca : Aa = none → ca = 0) (hb : Lev w w.heap.size Ab pb) (hcb : Ab = none → cb = 0) :
    Calls Tryz.prog 3 #[.agg #[.slice Aa pa.length ca], .agg #[.slice Ab pb.length cb], .int .i64 n] w (HasPost w true) := by
  have hfd := field_parts
  obtain ⟨na, hna⟩ : ∃ k, pa.length = k := ⟨_, rfl⟩
  obtain ⟨nb, hnb⟩ : ∃ k, pb.length = k := ⟨_, rfl⟩
  rw [hna, hnb]
  obtain ⟨x1, x2, x3⟩ := two_allocs w (.cells #[.slice Aa na ca] 24) (.cells #[.slice Ab nb cb] 24)
  have hb0 : Below w.heap.size w ((w.alloc (.cells #[.slice Aa na ca] 24)).alloc (.cells #[.slice Ab nb cb] 24)) := ((Below.refl _ _).alloc (Nat.le_refl _) _).alloc (by simp) _
  have hz : w.heap.size + 2 ≤ ((w.alloc (.cells #[.slice Aa na ca] 24)).alloc (.cells #[.slice Ab nb cb] 24)).heap.size := by simp
  have f1 := cell_of_one x1
  have f2 := cell_of_one x2
  have HA := Lib.hid ha
  have HB := Lib.hid hb
  have CA := Lib.hid hca
  have CB := Lib.hid hcb
  have PA := Lib.hid hpa
  have PB := Lib.hid hpb
  have NA := Lib.hid hna
  have NB := Lib.hid hnb
  clear x1 x2 x3 ha hb hca hcb hpa hpb hna hnb
  go_enter Tryz.func3, Tryz.ntmps3
  go_upto_region 1 with (fail)
  obtain ⟨w1, hw1⟩ : ∃ w1, (w.alloc (.cells #[.slice Aa na ca] 24)).alloc (.cells #[.slice Ab nb cb] 24) = w1 := ⟨_, rfl⟩
  rw [hw1] at hb0 hz f1 f2 ⊢
  clear hw1
  have B1 := Lib.hid hb0
  have LA : Hid (Lev w1 w1.heap.size Aa pa) := (HA.out.below hb0).more hb0.size
  have LB : Hid (Lev w1 w1.heap.size Ab pb) := (HB.out.below hb0).more hb0.size
  have HG : Hid (Calls Tryz.prog 5 #[.slice (some ⟨w1.heap.size, 0, none⟩) 2 2] (w1.alloc (.cells #[.slice Aa na ca, .slice Ab nb cb] 24)) (GreatPost (w1.alloc (.cells #[.slice Aa na ca, .slice Ab nb cb] 24)) [pa, pb])) := by
    have h := great_any (some ⟨w1.heap.size, 0, none⟩) [pa, pb] 2 (w1.alloc (.cells #[.slice Aa pa.length ca, .slice Ab pb.length cb] 24)) (by unfold maxLen; simp) (levs_two LA.out CA.out LB.out CB.out PA.out PB.out _)
    rw [NA.out, NB.out] at h
    exact h
  clear hb0 HA HB
  go_wp2_with (fail)
  refine HG.out.mono ?_
  rintro e wz ⟨r, rfl, hr, hb2⟩
  have hb2' : Below w1.heap.size w1 wz := ((Below.refl w1.heap.size w1).alloc (Nat.le_refl _) _).trans (hb2.mono (by simp))
  have hz2 := hb2'.size
  have e1 := (hb2'.cell (by show w.heap.size < w1.heap.size; omega)).trans f1
  have e2 := (hb2'.cell (by show w.heap.size + 1 < w1.heap.size; omega)).trans f2
  have BZ : Hid (Below w.heap.size w wz) := B1.out.trans (hb2'.mono (by omega))
  have LAZ : Hid (Lev wz wz.heap.size Aa pa) := (LA.out.below hb2').more hz2
  have LBZ : Hid (Lev wz wz.heap.size Ab pb) := (LB.out.below hb2').more hz2
  clear hb2 hb2' f1 f2 B1 LA LB HG
  rcases r with _ | _
  rotate_left
  · clear hr
    go_wp2_with (fail)
    refine (awake_any _).mono ?_
    rintro e w3 ⟨rfl, hb3⟩
    have HF : Hid (HasPost w true (.returned (.bool true)) w3) := ⟨rfl, BZ.out.trans (hb3.mono (by omega))⟩
    clear hb3
    go_wp2
    go_ret
    exact HF.out
  · obtain ⟨_, hr2⟩ := hr rfl
    have hna60 : na ≤ 60 := by rw [← NA.out]; exact hr2 pa (by simp)
    have hnb60 : nb ≤ 60 := by rw [← NB.out]; exact hr2 pb (by simp)
    clear hr hr2
    have CLA : Hid (∀ w', BoxL wz [(w.heap.size, .slice Aa na ca), (w.heap.size + 1, .slice Ab nb cb)] w' → Calls Tryz.prog 7 #[.agg #[.slice Aa na ca]] w' fun e w'' => ∃ v, e = .returned v ∧ BoxL wz [(w.heap.size, .slice Aa na ca), (w.heap.size + 1, .slice Ab nb cb)] w'' ∧ Below w'.heap.size w' w'' ∧ LentV wz.heap.size na pa v w'') := fun w' hx => by
      refine (lentLevel_any Aa pa ca na w' NA.out (by omega) ((LAZ.out.below hx.1).more hx.1.size) CA.out).mono fun _ _ h => ?_
      obtain ⟨g, cap, h1, h2, h3⟩ := h
      exact ⟨_, h1, hx.step h3, h3, g, cap, rfl, own_base h2 hx.1.size⟩
    have CLB : Hid (∀ w', BoxL wz [(w.heap.size, .slice Aa na ca), (w.heap.size + 1, .slice Ab nb cb)] w' → Calls Tryz.prog 7 #[.agg #[.slice Ab nb cb]] w' fun e w'' => ∃ v, e = .returned v ∧ BoxL wz [(w.heap.size, .slice Aa na ca), (w.heap.size + 1, .slice Ab nb cb)] w'' ∧ Below w'.heap.size w' w'' ∧ LentV wz.heap.size nb pb v w'') := fun w' hx => by
      refine (lentLevel_any Ab pb cb nb w' NB.out (by omega) ((LBZ.out.below hx.1).more hx.1.size) CB.out).mono fun _ _ h => ?_
      obtain ⟨g, cap, h1, h2, h3⟩ := h
      exact ⟨_, h1, hx.step h3, h3, g, cap, rfl, own_base h2 hx.1.size⟩
    have hS : BoxL wz [(w.heap.size, .slice Aa na ca), (w.heap.size + 1, .slice Ab nb cb)] wz.drew := BoxL.drew (by simp only [List.mem_cons, List.not_mem_nil, or_false, forall_eq_or_imp, forall_eq]; exact ⟨e1, e2⟩)
    have e1o := Lib.hid e1
    have e2o := Lib.hid e2
    clear e1 e2
    go_upto_region 3 with (fail)
    refine wp_region_tail 6 (fun w' => BoxL wz [(w.heap.size, .slice Aa na ca), (w.heap.size + 1, .slice Ab nb cb)] w') (fun w1 w2 : World => Below w1.heap.size w1 w2) [(fun (x : Value) (_ : World) => x = (.agg #[.slice Aa na ca] : Value)), (fun (x : Value) (w : World) => LentV wz.heap.size na pa x w), (fun (x : Value) (_ : World) => x = (.agg #[.slice Ab nb cb] : Value)), (fun (x : Value) (w : World) => LentV wz.heap.size nb pb x w), (fun (x : Value) (w : World) => NewBox wz.heap.size (.slice none 0 0) 24 x w), (fun (x : Value) (w : World) => NewBox wz.heap.size (.slice none 0 0) 24 x w)] [⟨some 16, .load 24 (.tmp 3), none, []⟩, ⟨some 17, .call { callee := .value (.func 7), args := #[.tmp 16], argTypes := #[24] }, none, [(16, 0)]⟩, ⟨some 18, .load 24 (.tmp 4), none, []⟩, ⟨some 19, .call { callee := .value (.func 7), args := #[.tmp 18], argTypes := #[24] }, none, [(18, 2)]⟩, ⟨some 7, .alloc 24, none, []⟩, ⟨some 8, .alloc 24, none, []⟩] [some 16, some 17, some 18, some 19, some 7, some 8] [(4, 24, .cells #[.slice none 0 0] 24), (5, 24, .cells #[.slice none 0 0] 24)] [(7, 8)] (by kernel_rfl) (by kernel_rfl) (by kernel_rfl) (by kernel_rfl) (by kernel_rfl) (by kernel_rfl) (by kernel_rfl) (by kernel_rfl) ?hrun ?hold ?hS ?hmono ?hsteps ?hfin
    case hrun => exact fun p hp w => by simp only [List.mem_cons, List.not_mem_nil, or_false] at hp; rcases hp with rfl | rfl <;> exact alloc_level w
    case hold => exact fun p hp x w h => by simp only [List.mem_cons, List.not_mem_nil, or_false] at hp; rcases hp with rfl | rfl <;> exact NewBox.lt h
    case hS => exact hS
    case hmono =>
      refine MonoL.cons (fun x w1 w2 _ _ _ hx => hx) ?_
      refine MonoL.cons (fun x w1 w2 _ _ hR hx => ?_) ?_
      · exact hx.mono hR
      refine MonoL.cons (fun x w1 w2 _ _ _ hx => hx) ?_
      refine MonoL.cons (fun x w1 w2 _ _ hR hx => ?_) ?_
      · exact hx.mono hR
      refine MonoL.cons (fun x w1 w2 _ _ hR hx => ?_) ?_
      · exact hx.mono hR
      refine MonoL.cons (fun x w1 w2 _ _ hR hx => ?_) ?_
      · exact hx.mono hR
      exact MonoL.nil
    case hsteps =>
      refine StepsT.cons (fun (x : Value) (_ : World) => x = (.agg #[.slice Aa na ca] : Value)) [] rfl rfl (fun oq hop _ wq hQS => ?_) ?_
      · skip
        exact StepFrom.load hop (by kernel_rfl) (load_level (hQS.2 (w.heap.size, .slice Aa na ca) (by simp))) (by kernel_rfl) hQS (Below.refl _ _) rfl
      refine StepsT.cons (fun (x : Value) (w : World) => LentV wz.heap.size na pa x w) [(16, (fun (x : Value) (_ : World) => x = (.agg #[.slice Aa na ca] : Value)))] rfl rfl (fun oq hop _ wq hQS => ?_) ?_
      · refine StepFrom.more_eq ((.agg #[.slice Aa na ca] : Value)) ?_
        exact StepFrom.call hop (vs := [(.agg #[.slice Aa na ca] : Value)]) (by kernel_rfl) (fun w => enter_lent _ w) (by kernel_rfl) (CLA.out _ hQS)
      refine StepsT.cons (fun (x : Value) (_ : World) => x = (.agg #[.slice Ab nb cb] : Value)) [] rfl rfl (fun oq hop _ wq hQS => ?_) ?_
      · skip
        exact StepFrom.load hop (by kernel_rfl) (load_level (hQS.2 (w.heap.size + 1, .slice Ab nb cb) (by simp))) (by kernel_rfl) hQS (Below.refl _ _) rfl
      refine StepsT.cons (fun (x : Value) (w : World) => LentV wz.heap.size nb pb x w) [(18, (fun (x : Value) (_ : World) => x = (.agg #[.slice Ab nb cb] : Value)))] rfl rfl (fun oq hop _ wq hQS => ?_) ?_
      · refine StepFrom.more_eq ((.agg #[.slice Ab nb cb] : Value)) ?_
        exact StepFrom.call hop (vs := [(.agg #[.slice Ab nb cb] : Value)]) (by kernel_rfl) (fun w => enter_lent _ w) (by kernel_rfl) (CLB.out _ hQS)
      refine StepsT.cons (fun (x : Value) (w : World) => NewBox wz.heap.size (.slice none 0 0) 24 x w) [] rfl rfl (fun oq hop _ wq hQS => ?_) ?_
      · exact StepFrom.alloc hop alloc_level (by kernel_rfl) (hQS.step ((Below.refl _ _).alloc (Nat.le_refl _) _)) ((Below.refl _ _).alloc (Nat.le_refl _) _) (NewBox.made hQS.1.size)
      refine StepsT.cons (fun (x : Value) (w : World) => NewBox wz.heap.size (.slice none 0 0) 24 x w) [] rfl rfl (fun oq hop _ wq hQS => ?_) ?_
      · exact StepFrom.alloc hop alloc_level (by kernel_rfl) (hQS.step ((Below.refl _ _).alloc (Nat.le_refl _) _)) ((Below.refl _ _).alloc (Nat.le_refl _) _) (NewBox.made hQS.1.size)
      exact StepsT.nil
    case hfin =>
      intro wf hFS
      refine FinalFrom.more fun x16 h16 => ?_
      refine FinalFrom.more fun x17 h17 => ?_
      refine FinalFrom.more fun x18 h18 => ?_
      refine FinalFrom.more fun x19 h19 => ?_
      refine FinalFrom.more fun x7 h7 => ?_
      refine FinalFrom.more fun x8 h8 => ?_
      refine FinalFrom.done ?_
      obtain ⟨gx, rfl, hgx0, hgx⟩ := h7
      obtain ⟨gy, rfl, hgy0, hgy⟩ := h8
      obtain ⟨ga, ka, rfl, hra⟩ := h17
      obtain ⟨gb, kb, rfl, hrb⟩ := h19
      intro hap
      have hne : gx ≠ gy := fun e => by subst e; exact hap (7, 8) (by simp) (by kernel_rfl)
      simp only [Act.put, List.setIfInBounds_toArray, List.set_cons_zero, List.set_cons_succ, List.drop_succ_cons, List.drop_zero]
      clear hap hS CLA CLB h16 h18
      have c7 := cell_of_one hgx
      have z7 := free_of_one hgx
      have c8 := cell_of_one hgy
      have z8 := free_of_one hgy
      have hgy2 : (wf.setCell ⟨gx, 0, none⟩ (.slice (some ⟨ga, 0, none⟩) na ka)).heap[gy]? = some (.cells #[.slice none 0 0] 24 (0, 0)) := (Below.heap_setCell wf _ _ gy (by show gy ≠ gx; exact Ne.symm hne)).trans hgy
      have hsz : wf.heap.size ≤ ((wf.setCell ⟨gx, 0, none⟩ (.slice (some ⟨ga, 0, none⟩) na ka)).setCell ⟨gy, 0, none⟩ (.slice (some ⟨gb, 0, none⟩) nb kb)).heap.size := (((Below.refl 0 wf).setCell (Nat.zero_le _) _).setCell (Nat.zero_le _) _).size
      have r1 := row_set (u := .slice (some ⟨gb, 0, none⟩) nb kb) (row_set (u := .slice (some ⟨ga, 0, none⟩) na ka) hra hgx (by decide)) hgy2 (by decide)
      have r2 := row_set (u := .slice (some ⟨gb, 0, none⟩) nb kb) (row_set (u := .slice (some ⟨ga, 0, none⟩) na ka) hrb hgx (by decide)) hgy2 (by decide)
      have i1 : ((wf.setCell ⟨gx, 0, none⟩ (.slice (some ⟨ga, 0, none⟩) na ka)).setCell ⟨gy, 0, none⟩ (.slice (some ⟨gb, 0, none⟩) nb kb)).cell? ⟨gx, 0, none⟩ = some (.slice (some ⟨ga, 0, none⟩) na ka) := (World.cell?_setCell_other _ _ _ _ (fun e => hne (by injection e with e; exact e.symm))).trans (World.cell?_setCell_same _ _ _ c7)
      have i2 : ((wf.setCell ⟨gx, 0, none⟩ (.slice (some ⟨ga, 0, none⟩) na ka)).setCell ⟨gy, 0, none⟩ (.slice (some ⟨gb, 0, none⟩) nb kb)).cell? ⟨gy, 0, none⟩ = some (.slice (some ⟨gb, 0, none⟩) nb kb) := World.cell?_setCell_same _ _ _ (cell_of_one hgy2)
      have i3 : Below wz.heap.size wz ((wf.setCell ⟨gx, 0, none⟩ (.slice (some ⟨ga, 0, none⟩) na ka)).setCell ⟨gy, 0, none⟩ (.slice (some ⟨gb, 0, none⟩) nb kb)) := (hFS.1.setCell hgx0 _).setCell hgy0 _
      have i4 := (i3.cell (p := ⟨w.heap.size, 0, none⟩) (by show w.heap.size < _; omega)).trans (e1o.out)
      have i5 := (i3.cell (p := ⟨w.heap.size + 1, 0, none⟩) (by show w.heap.size + 1 < _; omega)).trans (e2o.out)
      clear hra hrb hgx hgy hFS hgx0 hgy0
      have R1 := Lib.hid r1
      have R2 := Lib.hid r2
      have I1 := Lib.hid i1
      have I2 := Lib.hid i2
      have I3 := Lib.hid i3
      have I4 := Lib.hid i4
      have I5 := Lib.hid i5
      have HSZ := Lib.hid hsz
      clear r1 r2 i1 i2 i3 i4 i5 hsz hgy2
      go_upto_region 4 with (fail)
      obtain ⟨wy, hwy⟩ : ∃ x, ((wf.setCell ⟨gx, 0, none⟩ (.slice (some ⟨ga, 0, none⟩) na ka)).setCell ⟨gy, 0, none⟩ (.slice (some ⟨gb, 0, none⟩) nb kb)) = x := ⟨_, rfl⟩
      rw [hwy] at R1 R2 I1 I2 I3 I4 I5 HSZ ⊢
      clear hwy c7 z7 c8 z8 hne
      have hyz := I3.out.size
      have hS : BoxL wy [(w.heap.size, .slice Aa na ca), (w.heap.size + 1, .slice Ab nb cb), (gx, .slice (some ⟨ga, 0, none⟩) na ka), (gy, .slice (some ⟨gb, 0, none⟩) nb kb)] wy.drew := BoxL.drew (by simp only [List.mem_cons, List.not_mem_nil, or_false, forall_eq_or_imp, forall_eq]; exact ⟨I4.out, I5.out, I1.out, I2.out⟩)
      obtain ⟨qa, hqa⟩ : ∃ q, nfA pa = q := ⟨_, rfl⟩
      obtain ⟨nc, hnc⟩ : ∃ k, qa.length = k := ⟨_, rfl⟩
      obtain ⟨qd, hqd⟩ : ∃ q, succA pa = q := ⟨_, rfl⟩
      obtain ⟨nd, hnd⟩ : ∃ k, qd.length = k := ⟨_, rfl⟩
      have hnc60 : nc ≤ 60 := by
        have := nfA_len pa
        rw [hqa, hnc, NA.out] at this
        omega
      have hnd61 : nd ≤ 61 := by
        have := succA_len pa
        rw [hqd, hnd, NA.out] at this
        omega
      have LX : Hid (Lev wy wy.heap.size (some ⟨ga, 0, none⟩) (pa ++ marks 1 12)) := by
        have h := R1.out
        rw [show na + 12 = (pa ++ marks 1 12).length by rw [List.length_append, marks_length, NA.out]] at h
        exact (own_lev h).2.1
      have LX0 : Hid (Lev wy wy.heap.size (some ⟨ga, 0, none⟩) pa) := fun hp => by
        obtain ⟨b, o, e, hb, hcell⟩ := LX.out (by rw [List.length_append]; omega)
        refine ⟨b, o, e, hb, fun i hi => ?_⟩
        have := hcell i (by rw [List.length_append]; omega)
        rwa [List.getD_eq_getElem?_getD, List.getElem?_append_left hi, ← List.getD_eq_getElem?_getD] at this
      have CN : Hid (∀ (W w' : World), Below wy.heap.size wy w' → W.heap.size ≤ w'.heap.size → Calls Tryz.prog 8 #[.agg #[.slice (some ⟨ga, 0, none⟩) na ka]] w' fun e w'' => ∃ v, e = .returned v ∧ NewLev W.heap.size nc qa v w'' ∧ NewAt w' v ∧ Below w'.heap.size w' w'') := fun W w' hx hW => by
        have h := norm_any (some ⟨ga, 0, none⟩) pa ka w' (by have := NA.out; unfold Few; omega) ((LX0.out.below hx).more hx.size) (fun e => by cases e)
        rw [NA.out, hqa] at h
        refine h.mono fun _ _ h => ?_
        have h2 := lvlPost_new h hW
        rwa [hnc] at h2
      have CS : Hid (∀ w', BoxL wy [(w.heap.size, .slice Aa na ca), (w.heap.size + 1, .slice Ab nb cb), (gx, .slice (some ⟨ga, 0, none⟩) na ka), (gy, .slice (some ⟨gb, 0, none⟩) nb kb)] w' → Calls Tryz.prog 9 #[.agg #[.slice (some ⟨ga, 0, none⟩) na ka]] w' fun e w'' => ∃ v, e = .returned v ∧ BoxL wy [(w.heap.size, .slice Aa na ca), (w.heap.size + 1, .slice Ab nb cb), (gx, .slice (some ⟨ga, 0, none⟩) na ka), (gy, .slice (some ⟨gb, 0, none⟩) nb kb)] w'' ∧ Below w'.heap.size w' w'' ∧ NewLev wy.heap.size nd qd v w'' ∧ NewAt w' v) := fun w' hx => by
        have h := succ_all (some ⟨ga, 0, none⟩) pa ka w' (by have := NA.out; unfold Few; omega) ((LX0.out.below hx.1).more hx.1.size) (fun e => by cases e)
        rw [NA.out, hqd] at h
        refine h.mono fun _ _ h => ?_
        obtain ⟨v, h1, h2, h3, h4⟩ := lvlPost_new h hx.1.size
        rw [hnd] at h2
        exact ⟨v, h1, hx.step h4, h4, h2, h3⟩
      have CN4 : Hid (∀ w', BoxL wy [(w.heap.size, .slice Aa na ca), (w.heap.size + 1, .slice Ab nb cb), (gx, .slice (some ⟨ga, 0, none⟩) na ka), (gy, .slice (some ⟨gb, 0, none⟩) nb kb)] w' → Calls Tryz.prog 8 #[.agg #[.slice (some ⟨ga, 0, none⟩) na ka]] w' fun e w'' => ∃ v, e = .returned v ∧ BoxL wy [(w.heap.size, .slice Aa na ca), (w.heap.size + 1, .slice Ab nb cb), (gx, .slice (some ⟨ga, 0, none⟩) na ka), (gy, .slice (some ⟨gb, 0, none⟩) nb kb)] w'' ∧ Below w'.heap.size w' w'' ∧ NewLev wy.heap.size nc qa v w'' ∧ NewAt w' v) := fun w' hx => by
        refine (CN.out wy w' hx.1 hx.1.size).mono fun _ _ h => ?_
        obtain ⟨v, h1, h2, h3, h4⟩ := h
        exact ⟨v, h1, hx.step h4, h4, h2, h3⟩
      refine wp_region_tailP 6 (fun w' => BoxL wy [(w.heap.size, .slice Aa na ca), (w.heap.size + 1, .slice Ab nb cb), (gx, .slice (some ⟨ga, 0, none⟩) na ka), (gy, .slice (some ⟨gb, 0, none⟩) nb kb)] w') (fun w1 w2 : World => Below w1.heap.size w1 w2) [(fun (x : Value) (_ : World) => x = (.agg #[.slice (some ⟨ga, 0, none⟩) na ka] : Value)), (fun (x : Value) (w : World) => NewLev wy.heap.size nc qa x w), (fun (x : Value) (_ : World) => x = (.agg #[.slice (some ⟨ga, 0, none⟩) na ka] : Value)), (fun (x : Value) (w : World) => NewLev wy.heap.size nd qd x w), (fun (x : Value) (w : World) => NewBox wy.heap.size (.slice none 0 0) 24 x w), (fun (x : Value) (w : World) => NewBox wy.heap.size (.slice none 0 0) 24 x w)] [(1, NewAt), (3, NewAt), (4, NewPt), (5, NewPt)] [⟨1, 3, FarLv⟩, ⟨4, 5, FarPt⟩] [⟨some 20, .load 24 (.tmp 7), none, []⟩, ⟨some 21, .call { callee := .value (.func 8), args := #[.tmp 20], argTypes := #[24] }, none, [(20, 0)]⟩, ⟨some 22, .load 24 (.tmp 7), none, []⟩, ⟨some 23, .call { callee := .value (.func 9), args := #[.tmp 22], argTypes := #[24] }, none, [(22, 2)]⟩, ⟨some 9, .alloc 24, none, []⟩, ⟨some 10, .alloc 24, none, []⟩] [some 20, some 21, some 22, some 23, some 9, some 10] (by kernel_rfl) (by kernel_rfl) (by kernel_rfl) (by kernel_rfl) (by kernel_rfl) (by kernel_rfl) ?hb ?hS ?hmono ?hpr ?hsteps ?hfin
      case hb => intro q hq; simp only [List.mem_cons, List.not_mem_nil, or_false] at hq; rcases hq with rfl | rfl <;> exact ⟨by decide, by decide⟩
      case hS => exact hS
      case hmono =>
        refine MonoL.cons (fun x w1 w2 _ _ _ hx => hx) ?_
        refine MonoL.cons (fun x w1 w2 _ _ hR hx => ?_) ?_
        · exact hx.mono hR
        refine MonoL.cons (fun x w1 w2 _ _ _ hx => hx) ?_
        refine MonoL.cons (fun x w1 w2 _ _ hR hx => ?_) ?_
        · exact hx.mono hR
        refine MonoL.cons (fun x w1 w2 _ _ hR hx => ?_) ?_
        · exact hx.mono hR
        refine MonoL.cons (fun x w1 w2 _ _ hR hx => ?_) ?_
        · exact hx.mono hR
        exact MonoL.nil
      case hpr =>
        intro q hq
        simp only [List.mem_cons, List.not_mem_nil, or_false] at hq
        rcases hq with rfl | rfl
        · exact ⟨by decide, fun x v w _ hx hn => (far_lv (B := wy.heap.size) (n := nc) (ps := qa) hx hn).1, fun x v w _ hx hn => (far_lv (B := wy.heap.size) (n := nd) (ps := qd) hx hn).2⟩
        · exact ⟨by decide, fun x v w _ hx hn => (far_pt (B := wy.heap.size) (z := .slice none 0 0) (t := 24) hx hn).1, fun x v w _ hx hn => (far_pt (B := wy.heap.size) (z := .slice none 0 0) (t := 24) hx hn).2⟩
      case hsteps =>
        refine StepsP.cons (fun (x : Value) (_ : World) => x = (.agg #[.slice (some ⟨ga, 0, none⟩) na ka] : Value)) [] rfl rfl rfl (fun oq hop _ wq hQS => ?_) ?_
        · exact StepFrom.load hop (by kernel_rfl) (load_level (hQS.2 (gx, .slice (some ⟨ga, 0, none⟩) na ka) (by simp))) (by kernel_rfl) hQS (Below.refl _ _) rfl
        refine StepsP.new (fun (x : Value) (w : World) => NewLev wy.heap.size nc qa x w) NewAt [(20, (fun (x : Value) (_ : World) => x = (.agg #[.slice (some ⟨ga, 0, none⟩) na ka] : Value)))] rfl rfl rfl (fun oq hop _ wq hQS => ?_) ?_
        · refine StepFrom.more_eq ((.agg #[.slice (some ⟨ga, 0, none⟩) na ka] : Value)) ?_
          exact StepFrom.call hop (vs := [(.agg #[.slice (some ⟨ga, 0, none⟩) na ka] : Value)]) (by kernel_rfl) (fun w => enter_norm _ w) (by kernel_rfl) (CN4.out _ hQS)
        refine StepsP.cons (fun (x : Value) (_ : World) => x = (.agg #[.slice (some ⟨ga, 0, none⟩) na ka] : Value)) [] rfl rfl rfl (fun oq hop _ wq hQS => ?_) ?_
        · exact StepFrom.load hop (by kernel_rfl) (load_level (hQS.2 (gx, .slice (some ⟨ga, 0, none⟩) na ka) (by simp))) (by kernel_rfl) hQS (Below.refl _ _) rfl
        refine StepsP.new (fun (x : Value) (w : World) => NewLev wy.heap.size nd qd x w) NewAt [(22, (fun (x : Value) (_ : World) => x = (.agg #[.slice (some ⟨ga, 0, none⟩) na ka] : Value)))] rfl rfl rfl (fun oq hop _ wq hQS => ?_) ?_
        · refine StepFrom.more_eq ((.agg #[.slice (some ⟨ga, 0, none⟩) na ka] : Value)) ?_
          exact StepFrom.call hop (vs := [(.agg #[.slice (some ⟨ga, 0, none⟩) na ka] : Value)]) (by kernel_rfl) (fun w => enter_succ _ w) (by kernel_rfl) (CS.out _ hQS)
        refine StepsP.new (fun (x : Value) (w : World) => NewBox wy.heap.size (.slice none 0 0) 24 x w) NewPt [] rfl rfl rfl (fun oq hop _ wq hQS => ?_) ?_
        · exact StepFrom.alloc hop alloc_level (by kernel_rfl) (hQS.step ((Below.refl _ _).alloc (Nat.le_refl _) _)) ((Below.refl _ _).alloc (Nat.le_refl _) _) ⟨NewBox.made hQS.1.size, rfl⟩
        refine StepsP.new (fun (x : Value) (w : World) => NewBox wy.heap.size (.slice none 0 0) 24 x w) NewPt [] rfl rfl rfl (fun oq hop _ wq hQS => ?_) ?_
        · exact StepFrom.alloc hop alloc_level (by kernel_rfl) (hQS.step ((Below.refl _ _).alloc (Nat.le_refl _) _)) ((Below.refl _ _).alloc (Nat.le_refl _) _) ⟨NewBox.made hQS.1.size, rfl⟩
        exact StepsP.nil
      case hfin =>
        intro wf hFS
        refine FinalFrom.more fun x20 h20 => ?_
        refine FinalFrom.more fun x21 h21 => ?_
        refine FinalFrom.more fun x22 h22 => ?_
        refine FinalFrom.more fun x23 h23 => ?_
        refine FinalFrom.more fun x9 h9 => ?_
        refine FinalFrom.more fun x10 h10 => ?_
        refine FinalFrom.done ?_
        obtain ⟨gc, rfl, hgc0, hgc⟩ := h9
        obtain ⟨gd, rfl, hgd0, hgd⟩ := h10
        obtain ⟨Ac, cc, rfl, hnc2, hrc⟩ := h21
        obtain ⟨Ad, cd, rfl, hnd2, hrd⟩ := h23
        intro hap
        have hpt : FarPt (.pointer (some ⟨gc, 0, none⟩)) (.pointer (some ⟨gd, 0, none⟩)) := hap ⟨4, 5, FarPt⟩ (by simp) 9 10 _ _ rfl rfl (by kernel_rfl) (by kernel_rfl)
        have hne : gc ≠ gd := fun e => hpt (by rw [e])
        have hfar : FarLv (.agg #[.slice Ac nc cc]) (.agg #[.slice Ad nd cd]) := hap ⟨1, 3, FarLv⟩ (by simp) 21 23 _ _ rfl rfl (by kernel_rfl) (by kernel_rfl)
        simp only [Act.put, List.setIfInBounds_toArray, List.set_cons_zero, List.set_cons_succ, List.drop_succ_cons, List.drop_zero]
        clear hap hS CN4 CS h20 h22 hpt
        have c9 := cell_of_one hgc
        have z9 := free_of_one hgc
        have c10 := cell_of_one hgd
        have z10 := free_of_one hgd
        have hgd2 : (wf.setCell ⟨gc, 0, none⟩ (.slice Ac nc cc)).heap[gd]? = some (.cells #[.slice none 0 0] 24 (0, 0)) := (Below.heap_setCell wf _ _ gd (by show gd ≠ gc; exact Ne.symm hne)).trans hgd
        have r1 := row_set (u := .slice Ad nd cd) (row_set (u := .slice Ac nc cc) hrc hgc (by decide)) hgd2 (by decide)
        have r2 := row_set (u := .slice Ad nd cd) (row_set (u := .slice Ac nc cc) hrd hgc (by decide)) hgd2 (by decide)
        have j1 : ((wf.setCell ⟨gc, 0, none⟩ (.slice Ac nc cc)).setCell ⟨gd, 0, none⟩ (.slice Ad nd cd)).cell? ⟨gc, 0, none⟩ = some (.slice Ac nc cc) := (World.cell?_setCell_other _ _ _ _ (fun e => hne (by injection e with e; exact e.symm))).trans (World.cell?_setCell_same _ _ _ c9)
        have j2 : ((wf.setCell ⟨gc, 0, none⟩ (.slice Ac nc cc)).setCell ⟨gd, 0, none⟩ (.slice Ad nd cd)).cell? ⟨gd, 0, none⟩ = some (.slice Ad nd cd) := World.cell?_setCell_same _ _ _ (cell_of_one hgd2)
        have j3 : Below wy.heap.size wy ((wf.setCell ⟨gc, 0, none⟩ (.slice Ac nc cc)).setCell ⟨gd, 0, none⟩ (.slice Ad nd cd)) := (hFS.1.setCell hgc0 _).setCell hgd0 _
        have J1 := Lib.hid j1
        have J2 := Lib.hid j2
        have J3 := Lib.hid j3
        have RC := Lib.hid r1
        have RD := Lib.hid r2
        have FAR : Hid (∀ b, Bk (Ac, nc, cc) = some b → Bk (Ad, nd, cd) ≠ some b) := fun b h1 h2 => hfar b (by simpa [lvB, Bk] using h1) (by simpa [lvB, Bk] using h2)
        clear hrc hrd hgc hgd hFS hgc0 hgd0 j1 j2 j3 r1 r2 hgd2 hfar hnc2 hnd2
        go_upto_region 5 with (fail)
        obtain ⟨wd, hwd⟩ : ∃ x, ((wf.setCell ⟨gc, 0, none⟩ (.slice Ac nc cc)).setCell ⟨gd, 0, none⟩ (.slice Ad nd cd)) = x := ⟨_, rfl⟩
        rw [hwd] at J1 J2 J3 RC RD ⊢
        clear hwd c9 z9 c10 z10 hne
        have hdz := J3.out.size
        have hgx9 := cell_lt I1.out
        have hgy9 := cell_lt I2.out
        have hS : BoxL wd [(w.heap.size, .slice Aa na ca), (w.heap.size + 1, .slice Ab nb cb), (gx, .slice (some ⟨ga, 0, none⟩) na ka), (gy, .slice (some ⟨gb, 0, none⟩) nb kb), (gc, .slice Ac nc cc), (gd, .slice Ad nd cd)] wd.drew := BoxL.drew (by
          simp only [List.mem_cons, List.not_mem_nil, or_false, forall_eq_or_imp, forall_eq]
          exact ⟨(J3.out.cell (p := ⟨w.heap.size, 0, none⟩) (by show w.heap.size < _; omega)).trans I4.out, (J3.out.cell (p := ⟨w.heap.size + 1, 0, none⟩) (by show w.heap.size + 1 < _; omega)).trans I5.out, (J3.out.cell (p := ⟨gx, 0, none⟩) hgx9).trans I1.out, (J3.out.cell (p := ⟨gy, 0, none⟩) hgy9).trans I2.out, J1.out, J2.out⟩)
        have LY : Hid (Lev wy wy.heap.size (some ⟨gb, 0, none⟩) (pb ++ marks 1 12)) := by
          have h := R2.out
          rw [show nb + 12 = (pb ++ marks 1 12).length by rw [List.length_append, marks_length, NB.out]] at h
          exact (own_lev h).2.1
        have LY0 : Hid (Lev wy wy.heap.size (some ⟨gb, 0, none⟩) pb) := fun hp => by
          obtain ⟨b, o, e, hb, hcell⟩ := LY.out (by rw [List.length_append]; omega)
          refine ⟨b, o, e, hb, fun i hi => ?_⟩
          have := hcell i (by rw [List.length_append]; omega)
          rwa [List.getD_eq_getElem?_getD, List.getElem?_append_left hi, ← List.getD_eq_getElem?_getD] at this
        have CK1 : Hid (∀ w', Below wy.heap.size wy w' → Calls Tryz.prog 11 #[.agg #[.slice (some ⟨ga, 0, none⟩) na ka], .agg #[.slice Aa na ca]] w' (HasPost w' true)) := fun w' hx =>
          keptLevel_any Aa pa ca na ga ka w' NA.out (by omega) (own_cap R1.out).1 ((((LAZ.out.below I3.out).more I3.out.size).below hx).more hx.size) ((LX.out.below hx).more hx.size)
        have CK2 : Hid (∀ w', Below wy.heap.size wy w' → Calls Tryz.prog 11 #[.agg #[.slice (some ⟨gb, 0, none⟩) nb kb], .agg #[.slice Ab nb cb]] w' (HasPost w' true)) := fun w' hx =>
          keptLevel_any Ab pb cb nb gb kb w' NB.out (by omega) (own_cap R2.out).1 ((((LBZ.out.below I3.out).more I3.out.size).below hx).more hx.size) ((LY.out.below hx).more hx.size)
        have CO : Hid (∀ w', Below wy.heap.size wy w' → Calls Tryz.prog 10 #[.agg #[.slice (some ⟨ga, 0, none⟩) na ka], .agg #[.slice (some ⟨gb, 0, none⟩) nb kb], .int .i64 n] w' (HasPost w' true)) := fun w' hx => by
          have h := one_any (some ⟨ga, 0, none⟩) (some ⟨gb, 0, none⟩) pa pb ka kb n w' (by rw [NA.out]; omega) (by rw [NB.out]; omega) ((LX0.out.below hx).more hx.size) (fun e => by cases e) ((LY0.out.below hx).more hx.size) (fun e => by cases e)
          rwa [NA.out, NB.out] at h
        have U5 : Hid (∀ w', BoxL wd [(w.heap.size, .slice Aa na ca), (w.heap.size + 1, .slice Ab nb cb), (gx, .slice (some ⟨ga, 0, none⟩) na ka), (gy, .slice (some ⟨gb, 0, none⟩) nb kb), (gc, .slice Ac nc cc), (gd, .slice Ad nd cd)] w' → Below wy.heap.size wy w') := fun w' hx => J3.out.trans (hx.1.mono hdz)
        have G5 : Hid (∀ (w' : World) (e : Ending) (w'' : World), BoxL wd [(w.heap.size, .slice Aa na ca), (w.heap.size + 1, .slice Ab nb cb), (gx, .slice (some ⟨ga, 0, none⟩) na ka), (gy, .slice (some ⟨gb, 0, none⟩) nb kb), (gc, .slice Ac nc cc), (gd, .slice Ad nd cd)] w' → HasPost w' true e w'' → ∃ v, e = .returned v ∧ BoxL wd [(w.heap.size, .slice Aa na ca), (w.heap.size + 1, .slice Ab nb cb), (gx, .slice (some ⟨ga, 0, none⟩) na ka), (gy, .slice (some ⟨gb, 0, none⟩) nb kb), (gc, .slice Ac nc cc), (gd, .slice Ad nd cd)] w'' ∧ Below w'.heap.size w' w'' ∧ v = .bool true) := fun w' e w'' hx h => ⟨_, h.1, hx.step h.2, h.2, rfl⟩
        have G6 : Hid (∀ (w' : World) (e : Ending) (w'' : World), Below wy.heap.size wd w' → HasPost w' true e w'' → ∃ v, e = .returned v ∧ Below wy.heap.size wd w'' ∧ True ∧ v = .bool true) := fun w' e w'' hx h => ⟨_, h.1, hx.trans (h.2.mono (by have := hx.size; omega)), trivial, rfl⟩
        have CN5 : Hid (∀ w', BoxL wd [(w.heap.size, .slice Aa na ca), (w.heap.size + 1, .slice Ab nb cb), (gx, .slice (some ⟨ga, 0, none⟩) na ka), (gy, .slice (some ⟨gb, 0, none⟩) nb kb), (gc, .slice Ac nc cc), (gd, .slice Ad nd cd)] w' → Calls Tryz.prog 8 #[.agg #[.slice (some ⟨ga, 0, none⟩) na ka]] w' fun e w'' => ∃ v, e = .returned v ∧ BoxL wd [(w.heap.size, .slice Aa na ca), (w.heap.size + 1, .slice Ab nb cb), (gx, .slice (some ⟨ga, 0, none⟩) na ka), (gy, .slice (some ⟨gb, 0, none⟩) nb kb), (gc, .slice Ac nc cc), (gd, .slice Ad nd cd)] w'' ∧ Below w'.heap.size w' w'' ∧ NewLev wd.heap.size nc qa v w'') := fun w' hx => by
          refine (CN.out wd w' (U5.out w' hx) hx.1.size).mono fun _ _ h => ?_
          obtain ⟨v, h1, h2, h3, h4⟩ := h
          exact ⟨v, h1, hx.step h4, h4, h2⟩
        have CAP : Hid (∀ (w' : World) (x : Value), BoxL wd [(w.heap.size, .slice Aa na ca), (w.heap.size + 1, .slice Ab nb cb), (gx, .slice (some ⟨ga, 0, none⟩) na ka), (gy, .slice (some ⟨gb, 0, none⟩) nb kb), (gc, .slice Ac nc cc), (gd, .slice Ad nd cd)] w' → Three wd.heap.size (.slice Ac nc cc) (.slice Ad nd cd) nc qa x w' → Calls Tryz.prog 12 #[x] w' fun e w'' => ∃ v, e = .returned v ∧ Below wy.heap.size wd w'' ∧ True ∧ v = .bool true) := fun w' x hx ht => by
          refine (apart3 (p := (Ac, nc, cc)) (q := (Ad, nd, cd)) ht hdz hx.1.size (own_below RC.out hx.1) (own_below RD.out hx.1) (fun b hb => (RC.out.lt b hb).2) (fun b hb => (RD.out.lt b hb).2) FAR.out ⟨by omega, by show nc ≤ 1000000; omega, by show nd ≤ 1000000; omega⟩).mono fun _ _ h => ?_
          exact ⟨_, h.1, (hx.1.mono hdz).trans h.2, trivial, rfl⟩
        clear J1 J2 LY LY0 LX LX0 CN R1 R2 I1 I2
        have X7 := Lib.hid (hS.2 (gx, .slice (some ⟨ga, 0, none⟩) na ka) (by simp) : wd.cell? ⟨gx, 0, none⟩ = some (.slice (some ⟨ga, 0, none⟩) na ka))
        have X3 := Lib.hid (hS.2 (w.heap.size, .slice Aa na ca) (by simp) : wd.cell? ⟨w.heap.size, 0, none⟩ = some (.slice Aa na ca))
        refine wp_region_twoP 23 (fun w' => BoxL wd [(w.heap.size, .slice Aa na ca), (w.heap.size + 1, .slice Ab nb cb), (gx, .slice (some ⟨ga, 0, none⟩) na ka), (gy, .slice (some ⟨gb, 0, none⟩) nb kb), (gc, .slice Ac nc cc), (gd, .slice Ad nd cd)] w') (fun w' => Below wy.heap.size wd w') (fun w1 w2 : World => Below w1.heap.size w1 w2) (fun _ _ : World => True) (fun _ _ : World => True) [(fun (x : Value) (_ : World) => x = (.agg #[.slice (some ⟨ga, 0, none⟩) na ka] : Value)), (fun (x : Value) (_ : World) => x = (.agg #[.slice (some ⟨gb, 0, none⟩) nb kb] : Value)), (fun (x : Value) (_ : World) => x = (.int .i64 n : Value)), (fun (x : Value) (_ : World) => x = (.bool true : Value)), (fun (x : Value) (_ : World) => x = (.bool true : Value)), (fun (x : Value) (_ : World) => x = (.agg #[.slice (some ⟨ga, 0, none⟩) na ka] : Value)), (fun (x : Value) (_ : World) => x = (.agg #[.slice Aa na ca] : Value)), (fun (x : Value) (_ : World) => x = (.bool true : Value)), (fun (x : Value) (_ : World) => x = (.bool true : Value)), (fun (x : Value) (_ : World) => x = (.bool true : Value)), (fun (x : Value) (_ : World) => x = (.agg #[.slice (some ⟨gb, 0, none⟩) nb kb] : Value)), (fun (x : Value) (_ : World) => x = (.agg #[.slice Ab nb cb] : Value)), (fun (x : Value) (_ : World) => x = (.bool true : Value)), (fun (x : Value) (_ : World) => x = (.bool true : Value)), (fun (x : Value) (_ : World) => x = (.bool true : Value)), (fun (x : Value) (_ : World) => x = (.agg #[.slice Ac nc cc] : Value)), (fun (x : Value) (w : World) => OneRow wd.heap.size (.slice Ac nc cc) x w), (fun (x : Value) (_ : World) => x = (.agg #[.slice Ad nd cd] : Value)), (fun (x : Value) (w : World) => OneRow wd.heap.size (.slice Ad nd cd) x w), (fun (x : Value) (_ : World) => x = (.agg #[.slice (some ⟨ga, 0, none⟩) na ka] : Value)), (fun (x : Value) (w : World) => NewLev wd.heap.size nc qa x w), (fun (x : Value) (w : World) => OneLev wd.heap.size nc qa x w), (fun (x : Value) (w : World) => Three wd.heap.size (.slice Ac nc cc) (.slice Ad nd cd) nc qa x w)] [(fun (x : Value) (_ : World) => x = (.agg #[.slice (some ⟨ga, 0, none⟩) na ka] : Value)), (fun (x : Value) (_ : World) => x = (.agg #[.slice (some ⟨gb, 0, none⟩) nb kb] : Value)), (fun (x : Value) (_ : World) => x = (.int .i64 n : Value)), (fun (x : Value) (_ : World) => x = (.bool true : Value)), (fun (x : Value) (_ : World) => x = (.bool true : Value)), (fun (x : Value) (_ : World) => x = (.agg #[.slice (some ⟨ga, 0, none⟩) na ka] : Value)), (fun (x : Value) (_ : World) => x = (.agg #[.slice Aa na ca] : Value)), (fun (x : Value) (_ : World) => x = (.bool true : Value)), (fun (x : Value) (_ : World) => x = (.bool true : Value)), (fun (x : Value) (_ : World) => x = (.bool true : Value)), (fun (x : Value) (_ : World) => x = (.agg #[.slice (some ⟨gb, 0, none⟩) nb kb] : Value)), (fun (x : Value) (_ : World) => x = (.agg #[.slice Ab nb cb] : Value)), (fun (x : Value) (_ : World) => x = (.bool true : Value)), (fun (x : Value) (_ : World) => x = (.bool true : Value)), (fun (x : Value) (_ : World) => x = (.bool true : Value)), (fun (x : Value) (_ : World) => x = (.agg #[.slice Ac nc cc] : Value)), (fun _ _ => True), (fun (x : Value) (_ : World) => x = (.agg #[.slice Ad nd cd] : Value)), (fun _ _ => True), (fun (x : Value) (_ : World) => x = (.agg #[.slice (some ⟨ga, 0, none⟩) na ka] : Value)), (fun _ _ => True), (fun _ _ => True), (fun _ _ => True), (fun (x : Value) (_ : World) => x = (.bool true : Value)), (fun (x : Value) (_ : World) => x = (.bool true : Value)), (fun (x : Value) (_ : World) => x = (.bool true : Value)), (fun (x : Value) (_ : World) => x = (.agg #[.slice (some ⟨ga, 0, none⟩) na ka] : Value)), (fun (x : Value) (_ : World) => x = (.agg #[.slice Aa na ca] : Value)), (fun (x : Value) (_ : World) => x = (.bool true : Value)), (fun (x : Value) (_ : World) => x = (.bool true : Value)), (fun (x : Value) (_ : World) => x = (.bool true : Value)), (fun (x : Value) (_ : World) => x = (.bool true : Value)), (fun (x : Value) (_ : World) => x = (.bool true : Value)), (fun (x : Value) (_ : World) => x = (.bool true : Value))] [(16, NewSl), (18, NewSl), (21, NewSl)] [⟨16, 18, FarSl⟩, ⟨16, 21, FarSl⟩, ⟨18, 21, FarSl⟩] [⟨some 24, .load 24 (.tmp 7), none, []⟩, ⟨some 25, .load 24 (.tmp 8), none, []⟩, ⟨some 26, .move (.tmp 2), none, []⟩, ⟨some 27, .call { callee := .value (.func 10), args := #[.tmp 24, .tmp 25, .tmp 26], argTypes := #[24, 24, 3] }, none, [(24, 0), (25, 1), (26, 2)]⟩, ⟨some 28, .move (.tmp 27), none, [(27, 3)]⟩, ⟨some 29, .load 24 (.tmp 7), some (some 28, true), [(28, 4)]⟩, ⟨some 30, .load 24 (.tmp 3), some (some 28, true), [(28, 4)]⟩, ⟨some 31, .call { callee := .value (.func 11), args := #[.tmp 29, .tmp 30], argTypes := #[24, 24] }, some (some 28, true), [(28, 4), (29, 5), (30, 6)]⟩, ⟨some 32, .pick (.tmp 28) (.tmp 31) (.const (Value.bool false)), none, [(28, 4), (31, 7)]⟩, ⟨some 33, .move (.tmp 32), none, [(32, 8)]⟩, ⟨some 34, .load 24 (.tmp 8), some (some 33, true), [(33, 9)]⟩, ⟨some 35, .load 24 (.tmp 4), some (some 33, true), [(33, 9)]⟩, ⟨some 36, .call { callee := .value (.func 11), args := #[.tmp 34, .tmp 35], argTypes := #[24, 24] }, some (some 33, true), [(33, 9), (34, 10), (35, 11)]⟩, ⟨some 37, .pick (.tmp 33) (.tmp 36) (.const (Value.bool false)), none, [(33, 9), (36, 12)]⟩, ⟨some 38, .move (.tmp 37), none, [(37, 13)]⟩, ⟨some 39, .load 24 (.tmp 9), some (some 38, true), [(38, 14)]⟩, ⟨some 40, .buildSlice 31 1 #[(0, .tmp 39)], some (some 38, true), [(38, 14), (39, 15)]⟩, ⟨some 41, .load 24 (.tmp 10), some (some 38, true), [(38, 14)]⟩, ⟨some 42, .buildSlice 31 1 #[(0, .tmp 41)], some (some 38, true), [(38, 14), (41, 17)]⟩, ⟨some 43, .load 24 (.tmp 7), some (some 38, true), [(38, 14)]⟩, ⟨some 44, .call { callee := .value (.func 8), args := #[.tmp 43], argTypes := #[24] }, some (some 38, true), [(38, 14), (43, 19)]⟩, ⟨some 45, .buildSlice 31 1 #[(0, .tmp 44)], some (some 38, true), [(38, 14), (44, 20)]⟩, ⟨some 46, .buildSlice 32 3 #[(0, .tmp 40), (1, .tmp 42), (2, .tmp 45)], some (some 38, true), [(38, 14), (40, 16), (42, 18), (45, 21)]⟩] [⟨some 47, .call { callee := .value (.func 12), args := #[.tmp 46], argTypes := #[32] }, some (some 38, true), [(38, 14), (46, 22)]⟩, ⟨some 48, .pick (.tmp 38) (.tmp 47) (.const (Value.bool false)), none, [(38, 14), (47, 23)]⟩, ⟨some 49, .move (.tmp 48), none, [(48, 24)]⟩, ⟨some 50, .load 24 (.tmp 7), some (some 49, true), [(49, 25)]⟩, ⟨some 51, .load 24 (.tmp 3), some (some 49, true), [(49, 25)]⟩, ⟨some 52, .call { callee := .value (.func 11), args := #[.tmp 50, .tmp 51], argTypes := #[24, 24] }, some (some 49, true), [(49, 25), (50, 26), (51, 27)]⟩, ⟨some 53, .pick (.tmp 49) (.tmp 52) (.const (Value.bool false)), none, [(49, 25), (52, 28)]⟩, ⟨some 54, .move (.tmp 53), none, [(53, 29)]⟩, ⟨some 55, .call { callee := .value (.func 6), args := #[], argTypes := #[] }, some (some 54, true), [(54, 30)]⟩, ⟨some 56, .pick (.tmp 54) (.tmp 55) (.const (Value.bool false)), none, [(54, 30), (55, 31)]⟩, ⟨some 6, .assign (.tmp 56), none, [(56, 32)]⟩] [some 24, some 25, some 26, some 27, some 28, some 29, some 30, some 31, some 32, some 33, some 34, some 35, some 36, some 37, some 38, some 39, some 40, some 41, some 42, some 43, some 44, some 45, some 46, some 47, some 48, some 49, some 50, some 51, some 52, some 53, some 54, some 55, some 56, some 6] (by kernel_rfl) (by kernel_rfl) (by kernel_rfl) (by kernel_rfl) (by kernel_rfl) (by kernel_rfl) (by kernel_rfl) (by kernel_rfl) (by kernel_rfl) (by decide) (by kernel_rfl) ?hS ?hmono ?hpr ?hconv ?hmono2 ?hsteps ?hsteps2 ?hfin
        case hS => exact hS
        case hmono =>
          refine MonoL.cons (fun x w1 w2 _ _ _ hx => hx) ?_
          refine MonoL.cons (fun x w1 w2 _ _ _ hx => hx) ?_
          refine MonoL.cons (fun x w1 w2 _ _ _ hx => hx) ?_
          refine MonoL.cons (fun x w1 w2 _ _ _ hx => hx) ?_
          refine MonoL.cons (fun x w1 w2 _ _ _ hx => hx) ?_
          refine MonoL.cons (fun x w1 w2 _ _ _ hx => hx) ?_
          refine MonoL.cons (fun x w1 w2 _ _ _ hx => hx) ?_
          refine MonoL.cons (fun x w1 w2 _ _ _ hx => hx) ?_
          refine MonoL.cons (fun x w1 w2 _ _ _ hx => hx) ?_
          refine MonoL.cons (fun x w1 w2 _ _ _ hx => hx) ?_
          refine MonoL.cons (fun x w1 w2 _ _ _ hx => hx) ?_
          refine MonoL.cons (fun x w1 w2 _ _ _ hx => hx) ?_
          refine MonoL.cons (fun x w1 w2 _ _ _ hx => hx) ?_
          refine MonoL.cons (fun x w1 w2 _ _ _ hx => hx) ?_
          refine MonoL.cons (fun x w1 w2 _ _ _ hx => hx) ?_
          refine MonoL.cons (fun x w1 w2 _ _ _ hx => hx) ?_
          refine MonoL.cons (fun x w1 w2 _ _ hR hx => ?_) ?_
          · exact hx.mono hR
          refine MonoL.cons (fun x w1 w2 _ _ _ hx => hx) ?_
          refine MonoL.cons (fun x w1 w2 _ _ hR hx => ?_) ?_
          · exact hx.mono hR
          refine MonoL.cons (fun x w1 w2 _ _ _ hx => hx) ?_
          refine MonoL.cons (fun x w1 w2 _ _ hR hx => ?_) ?_
          · exact hx.mono hR
          refine MonoL.cons (fun x w1 w2 _ _ hR hx => ?_) ?_
          · exact hx.mono hR
          refine MonoL.cons (fun x w1 w2 _ _ hR hx => ?_) ?_
          · exact hx.mono hR
          exact MonoL.nil
        case hpr =>
          intro q hq
          simp only [List.mem_cons, List.not_mem_nil, or_false] at hq
          rcases hq with rfl | rfl | rfl
          · exact ⟨by decide, fun x v w _ hx hn => (far_sl (OneRow.at (B := wd.heap.size) (u := .slice Ac nc cc) hx) hn).1, fun x v w _ hx hn => (far_sl (OneRow.at (B := wd.heap.size) (u := .slice Ad nd cd) hx) hn).2⟩
          · exact ⟨by decide, fun x v w _ hx hn => (far_sl (OneRow.at (B := wd.heap.size) (u := .slice Ac nc cc) hx) hn).1, fun x v w _ hx hn => (far_sl (OneLev.at (B := wd.heap.size) (n := nc) (ps := qa) hx) hn).2⟩
          · exact ⟨by decide, fun x v w _ hx hn => (far_sl (OneRow.at (B := wd.heap.size) (u := .slice Ad nd cd) hx) hn).1, fun x v w _ hx hn => (far_sl (OneLev.at (B := wd.heap.size) (n := nc) (ps := qa) hx) hn).2⟩
        case hconv =>
          refine ConvL.cons (fun x w1 w2 _ _ _ hx => hx) ?_
          refine ConvL.cons (fun x w1 w2 _ _ _ hx => hx) ?_
          refine ConvL.cons (fun x w1 w2 _ _ _ hx => hx) ?_
          refine ConvL.cons (fun x w1 w2 _ _ _ hx => hx) ?_
          refine ConvL.cons (fun x w1 w2 _ _ _ hx => hx) ?_
          refine ConvL.cons (fun x w1 w2 _ _ _ hx => hx) ?_
          refine ConvL.cons (fun x w1 w2 _ _ _ hx => hx) ?_
          refine ConvL.cons (fun x w1 w2 _ _ _ hx => hx) ?_
          refine ConvL.cons (fun x w1 w2 _ _ _ hx => hx) ?_
          refine ConvL.cons (fun x w1 w2 _ _ _ hx => hx) ?_
          refine ConvL.cons (fun x w1 w2 _ _ _ hx => hx) ?_
          refine ConvL.cons (fun x w1 w2 _ _ _ hx => hx) ?_
          refine ConvL.cons (fun x w1 w2 _ _ _ hx => hx) ?_
          refine ConvL.cons (fun x w1 w2 _ _ _ hx => hx) ?_
          refine ConvL.cons (fun x w1 w2 _ _ _ hx => hx) ?_
          refine ConvL.cons (fun x w1 w2 _ _ _ hx => hx) ?_
          refine ConvL.cons (fun x w1 w2 _ _ _ hx => trivial) ?_
          refine ConvL.cons (fun x w1 w2 _ _ _ hx => hx) ?_
          refine ConvL.cons (fun x w1 w2 _ _ _ hx => trivial) ?_
          refine ConvL.cons (fun x w1 w2 _ _ _ hx => hx) ?_
          refine ConvL.cons (fun x w1 w2 _ _ _ hx => trivial) ?_
          refine ConvL.cons (fun x w1 w2 _ _ _ hx => trivial) ?_
          refine ConvL.cons (fun x w1 w2 _ _ _ hx => trivial) ?_
          exact ConvL.nil
        case hmono2 =>
          refine MonoL.cons (fun x w1 w2 _ _ _ hx => hx) ?_
          refine MonoL.cons (fun x w1 w2 _ _ _ hx => hx) ?_
          refine MonoL.cons (fun x w1 w2 _ _ _ hx => hx) ?_
          refine MonoL.cons (fun x w1 w2 _ _ _ hx => hx) ?_
          refine MonoL.cons (fun x w1 w2 _ _ _ hx => hx) ?_
          refine MonoL.cons (fun x w1 w2 _ _ _ hx => hx) ?_
          refine MonoL.cons (fun x w1 w2 _ _ _ hx => hx) ?_
          refine MonoL.cons (fun x w1 w2 _ _ _ hx => hx) ?_
          refine MonoL.cons (fun x w1 w2 _ _ _ hx => hx) ?_
          refine MonoL.cons (fun x w1 w2 _ _ _ hx => hx) ?_
          refine MonoL.cons (fun x w1 w2 _ _ _ hx => hx) ?_
          refine MonoL.cons (fun x w1 w2 _ _ _ hx => hx) ?_
          refine MonoL.cons (fun x w1 w2 _ _ _ hx => hx) ?_
          refine MonoL.cons (fun x w1 w2 _ _ _ hx => hx) ?_
          refine MonoL.cons (fun x w1 w2 _ _ _ hx => hx) ?_
          refine MonoL.cons (fun x w1 w2 _ _ _ hx => hx) ?_
          refine MonoL.cons (fun x w1 w2 _ _ _ hx => hx) ?_
          refine MonoL.cons (fun x w1 w2 _ _ _ hx => hx) ?_
          refine MonoL.cons (fun x w1 w2 _ _ _ hx => hx) ?_
          refine MonoL.cons (fun x w1 w2 _ _ _ hx => hx) ?_
          refine MonoL.cons (fun x w1 w2 _ _ _ hx => hx) ?_
          refine MonoL.cons (fun x w1 w2 _ _ _ hx => hx) ?_
          refine MonoL.cons (fun x w1 w2 _ _ _ hx => hx) ?_
          refine MonoL.cons (fun x w1 w2 _ _ _ hx => hx) ?_
          refine MonoL.cons (fun x w1 w2 _ _ _ hx => hx) ?_
          refine MonoL.cons (fun x w1 w2 _ _ _ hx => hx) ?_
          refine MonoL.cons (fun x w1 w2 _ _ _ hx => hx) ?_
          refine MonoL.cons (fun x w1 w2 _ _ _ hx => hx) ?_
          refine MonoL.cons (fun x w1 w2 _ _ _ hx => hx) ?_
          refine MonoL.cons (fun x w1 w2 _ _ _ hx => hx) ?_
          refine MonoL.cons (fun x w1 w2 _ _ _ hx => hx) ?_
          refine MonoL.cons (fun x w1 w2 _ _ _ hx => hx) ?_
          refine MonoL.cons (fun x w1 w2 _ _ _ hx => hx) ?_
          refine MonoL.cons (fun x w1 w2 _ _ _ hx => hx) ?_
          exact MonoL.nil
        case hsteps =>
          refine StepsP.cons (fun (x : Value) (_ : World) => x = (.agg #[.slice (some ⟨ga, 0, none⟩) na ka] : Value)) [] rfl rfl rfl (fun oq hop _ wq hQS => ?_) ?_
          · exact StepFrom.load hop (by kernel_rfl) (load_level (hQS.2 (gx, .slice (some ⟨ga, 0, none⟩) na ka) (by simp))) (by kernel_rfl) hQS (Below.refl _ _) rfl
          refine StepsP.cons (fun (x : Value) (_ : World) => x = (.agg #[.slice (some ⟨gb, 0, none⟩) nb kb] : Value)) [] rfl rfl rfl (fun oq hop _ wq hQS => ?_) ?_
          · exact StepFrom.load hop (by kernel_rfl) (load_level (hQS.2 (gy, .slice (some ⟨gb, 0, none⟩) nb kb) (by simp))) (by kernel_rfl) hQS (Below.refl _ _) rfl
          refine StepsP.cons (fun (x : Value) (_ : World) => x = (.int .i64 n : Value)) [] rfl rfl rfl (fun oq hop _ wq hQS => ?_) ?_
          · exact StepFrom.move hop (v := (.int .i64 n : Value)) (by kernel_rfl) (by kernel_rfl) hQS (Below.refl _ _) rfl
          refine StepsP.cons (fun (x : Value) (_ : World) => x = (.bool true : Value)) [(24, (fun (x : Value) (_ : World) => x = (.agg #[.slice (some ⟨ga, 0, none⟩) na ka] : Value))), (25, (fun (x : Value) (_ : World) => x = (.agg #[.slice (some ⟨gb, 0, none⟩) nb kb] : Value))), (26, (fun (x : Value) (_ : World) => x = (.int .i64 n : Value)))] rfl rfl rfl (fun oq hop _ wq hQS => ?_) ?_
          · refine StepFrom.more_eq ((.agg #[.slice (some ⟨ga, 0, none⟩) na ka] : Value)) ?_
            refine StepFrom.more_eq ((.agg #[.slice (some ⟨gb, 0, none⟩) nb kb] : Value)) ?_
            refine StepFrom.more_eq ((.int .i64 n : Value)) ?_
            exact StepFrom.call hop (vs := [(.agg #[.slice (some ⟨ga, 0, none⟩) na ka] : Value), (.agg #[.slice (some ⟨gb, 0, none⟩) nb kb] : Value), (.int .i64 n : Value)]) (by kernel_rfl) (fun w => enter_oneL _ w) (by kernel_rfl) ((CO.out wq (U5.out wq hQS)).mono (G5.out wq · · hQS))
          refine StepsP.cons (fun (x : Value) (_ : World) => x = (.bool true : Value)) [(27, (fun (x : Value) (_ : World) => x = (.bool true : Value)))] rfl rfl rfl (fun oq hop _ wq hQS => ?_) ?_
          · refine StepFrom.more_eq ((.bool true : Value)) ?_
            exact StepFrom.move hop (v := (.bool true : Value)) (by kernel_rfl) (by kernel_rfl) hQS (Below.refl _ _) rfl
          refine StepsP.cons (fun (x : Value) (_ : World) => x = (.agg #[.slice (some ⟨ga, 0, none⟩) na ka] : Value)) [(28, (fun (x : Value) (_ : World) => x = (.bool true : Value)))] rfl rfl rfl (fun oq hop _ wq hQS => ?_) ?_
          · refine StepFrom.more_eq ((.bool true : Value)) ?_
            exact StepFrom.load hop (by kernel_rfl) (load_level (hQS.2 (gx, .slice (some ⟨ga, 0, none⟩) na ka) (by simp))) (by kernel_rfl) hQS (Below.refl _ _) rfl
          refine StepsP.cons (fun (x : Value) (_ : World) => x = (.agg #[.slice Aa na ca] : Value)) [(28, (fun (x : Value) (_ : World) => x = (.bool true : Value)))] rfl rfl rfl (fun oq hop _ wq hQS => ?_) ?_
          · refine StepFrom.more_eq ((.bool true : Value)) ?_
            exact StepFrom.load hop (by kernel_rfl) (load_level (hQS.2 (w.heap.size, .slice Aa na ca) (by simp))) (by kernel_rfl) hQS (Below.refl _ _) rfl
          refine StepsP.cons (fun (x : Value) (_ : World) => x = (.bool true : Value)) [(28, (fun (x : Value) (_ : World) => x = (.bool true : Value))), (29, (fun (x : Value) (_ : World) => x = (.agg #[.slice (some ⟨ga, 0, none⟩) na ka] : Value))), (30, (fun (x : Value) (_ : World) => x = (.agg #[.slice Aa na ca] : Value)))] rfl rfl rfl (fun oq hop _ wq hQS => ?_) ?_
          · refine StepFrom.more_eq ((.bool true : Value)) ?_
            refine StepFrom.more_eq ((.agg #[.slice (some ⟨ga, 0, none⟩) na ka] : Value)) ?_
            refine StepFrom.more_eq ((.agg #[.slice Aa na ca] : Value)) ?_
            exact StepFrom.call hop (vs := [(.agg #[.slice (some ⟨ga, 0, none⟩) na ka] : Value), (.agg #[.slice Aa na ca] : Value)]) (by kernel_rfl) (fun w => enter_kept _ w) (by kernel_rfl) ((CK1.out wq (U5.out wq hQS)).mono (G5.out wq · · hQS))
          refine StepsP.cons (fun (x : Value) (_ : World) => x = (.bool true : Value)) [(28, (fun (x : Value) (_ : World) => x = (.bool true : Value))), (31, (fun (x : Value) (_ : World) => x = (.bool true : Value)))] rfl rfl rfl (fun oq hop _ wq hQS => ?_) ?_
          · refine StepFrom.more_eq ((.bool true : Value)) ?_
            refine StepFrom.more_eq ((.bool true : Value)) ?_
            exact StepFrom.pick hop (b := true) (vx := (.bool true : Value)) (vy := (Value.bool false : Value)) (by kernel_rfl) (by kernel_rfl) (by kernel_rfl) (by kernel_rfl) hQS (Below.refl _ _) rfl
          refine StepsP.cons (fun (x : Value) (_ : World) => x = (.bool true : Value)) [(32, (fun (x : Value) (_ : World) => x = (.bool true : Value)))] rfl rfl rfl (fun oq hop _ wq hQS => ?_) ?_
          · refine StepFrom.more_eq ((.bool true : Value)) ?_
            exact StepFrom.move hop (v := (.bool true : Value)) (by kernel_rfl) (by kernel_rfl) hQS (Below.refl _ _) rfl
          refine StepsP.cons (fun (x : Value) (_ : World) => x = (.agg #[.slice (some ⟨gb, 0, none⟩) nb kb] : Value)) [(33, (fun (x : Value) (_ : World) => x = (.bool true : Value)))] rfl rfl rfl (fun oq hop _ wq hQS => ?_) ?_
          · refine StepFrom.more_eq ((.bool true : Value)) ?_
            exact StepFrom.load hop (by kernel_rfl) (load_level (hQS.2 (gy, .slice (some ⟨gb, 0, none⟩) nb kb) (by simp))) (by kernel_rfl) hQS (Below.refl _ _) rfl
          refine StepsP.cons (fun (x : Value) (_ : World) => x = (.agg #[.slice Ab nb cb] : Value)) [(33, (fun (x : Value) (_ : World) => x = (.bool true : Value)))] rfl rfl rfl (fun oq hop _ wq hQS => ?_) ?_
          · refine StepFrom.more_eq ((.bool true : Value)) ?_
            exact StepFrom.load hop (by kernel_rfl) (load_level (hQS.2 (w.heap.size + 1, .slice Ab nb cb) (by simp))) (by kernel_rfl) hQS (Below.refl _ _) rfl
          refine StepsP.cons (fun (x : Value) (_ : World) => x = (.bool true : Value)) [(33, (fun (x : Value) (_ : World) => x = (.bool true : Value))), (34, (fun (x : Value) (_ : World) => x = (.agg #[.slice (some ⟨gb, 0, none⟩) nb kb] : Value))), (35, (fun (x : Value) (_ : World) => x = (.agg #[.slice Ab nb cb] : Value)))] rfl rfl rfl (fun oq hop _ wq hQS => ?_) ?_
          · refine StepFrom.more_eq ((.bool true : Value)) ?_
            refine StepFrom.more_eq ((.agg #[.slice (some ⟨gb, 0, none⟩) nb kb] : Value)) ?_
            refine StepFrom.more_eq ((.agg #[.slice Ab nb cb] : Value)) ?_
            exact StepFrom.call hop (vs := [(.agg #[.slice (some ⟨gb, 0, none⟩) nb kb] : Value), (.agg #[.slice Ab nb cb] : Value)]) (by kernel_rfl) (fun w => enter_kept _ w) (by kernel_rfl) ((CK2.out wq (U5.out wq hQS)).mono (G5.out wq · · hQS))
          refine StepsP.cons (fun (x : Value) (_ : World) => x = (.bool true : Value)) [(33, (fun (x : Value) (_ : World) => x = (.bool true : Value))), (36, (fun (x : Value) (_ : World) => x = (.bool true : Value)))] rfl rfl rfl (fun oq hop _ wq hQS => ?_) ?_
          · refine StepFrom.more_eq ((.bool true : Value)) ?_
            refine StepFrom.more_eq ((.bool true : Value)) ?_
            exact StepFrom.pick hop (b := true) (vx := (.bool true : Value)) (vy := (Value.bool false : Value)) (by kernel_rfl) (by kernel_rfl) (by kernel_rfl) (by kernel_rfl) hQS (Below.refl _ _) rfl
          refine StepsP.cons (fun (x : Value) (_ : World) => x = (.bool true : Value)) [(37, (fun (x : Value) (_ : World) => x = (.bool true : Value)))] rfl rfl rfl (fun oq hop _ wq hQS => ?_) ?_
          · refine StepFrom.more_eq ((.bool true : Value)) ?_
            exact StepFrom.move hop (v := (.bool true : Value)) (by kernel_rfl) (by kernel_rfl) hQS (Below.refl _ _) rfl
          refine StepsP.cons (fun (x : Value) (_ : World) => x = (.agg #[.slice Ac nc cc] : Value)) [(38, (fun (x : Value) (_ : World) => x = (.bool true : Value)))] rfl rfl rfl (fun oq hop _ wq hQS => ?_) ?_
          · refine StepFrom.more_eq ((.bool true : Value)) ?_
            exact StepFrom.load hop (by kernel_rfl) (load_level (hQS.2 (gc, .slice Ac nc cc) (by simp))) (by kernel_rfl) hQS (Below.refl _ _) rfl
          refine StepsP.new (fun (x : Value) (w : World) => OneRow wd.heap.size (.slice Ac nc cc) x w) NewSl [(38, (fun (x : Value) (_ : World) => x = (.bool true : Value))), (39, (fun (x : Value) (_ : World) => x = (.agg #[.slice Ac nc cc] : Value)))] rfl rfl rfl (fun oq hop _ wq hQS => ?_) ?_
          · refine StepFrom.more_eq ((.bool true : Value)) ?_
            refine StepFrom.more_eq ((.agg #[.slice Ac nc cc] : Value)) ?_
            exact StepFrom.slice hop (vs := [(0, (.agg #[.slice Ac nc cc] : Value))]) (by kernel_rfl) (slice_level _ _ _) (by kernel_rfl) (hQS.step ((Below.refl _ _).alloc (Nat.le_refl _) _)) ((Below.refl _ _).alloc (Nat.le_refl _) _) ⟨⟨_, rfl, hQS.1.size, heap_alloc_new _ _⟩, newSl_made _ 1⟩
          refine StepsP.cons (fun (x : Value) (_ : World) => x = (.agg #[.slice Ad nd cd] : Value)) [(38, (fun (x : Value) (_ : World) => x = (.bool true : Value)))] rfl rfl rfl (fun oq hop _ wq hQS => ?_) ?_
          · refine StepFrom.more_eq ((.bool true : Value)) ?_
            exact StepFrom.load hop (by kernel_rfl) (load_level (hQS.2 (gd, .slice Ad nd cd) (by simp))) (by kernel_rfl) hQS (Below.refl _ _) rfl
          refine StepsP.new (fun (x : Value) (w : World) => OneRow wd.heap.size (.slice Ad nd cd) x w) NewSl [(38, (fun (x : Value) (_ : World) => x = (.bool true : Value))), (41, (fun (x : Value) (_ : World) => x = (.agg #[.slice Ad nd cd] : Value)))] rfl rfl rfl (fun oq hop _ wq hQS => ?_) ?_
          · refine StepFrom.more_eq ((.bool true : Value)) ?_
            refine StepFrom.more_eq ((.agg #[.slice Ad nd cd] : Value)) ?_
            exact StepFrom.slice hop (vs := [(0, (.agg #[.slice Ad nd cd] : Value))]) (by kernel_rfl) (slice_level _ _ _) (by kernel_rfl) (hQS.step ((Below.refl _ _).alloc (Nat.le_refl _) _)) ((Below.refl _ _).alloc (Nat.le_refl _) _) ⟨⟨_, rfl, hQS.1.size, heap_alloc_new _ _⟩, newSl_made _ 1⟩
          refine StepsP.cons (fun (x : Value) (_ : World) => x = (.agg #[.slice (some ⟨ga, 0, none⟩) na ka] : Value)) [(38, (fun (x : Value) (_ : World) => x = (.bool true : Value)))] rfl rfl rfl (fun oq hop _ wq hQS => ?_) ?_
          · refine StepFrom.more_eq ((.bool true : Value)) ?_
            exact StepFrom.load hop (by kernel_rfl) (load_level (hQS.2 (gx, .slice (some ⟨ga, 0, none⟩) na ka) (by simp))) (by kernel_rfl) hQS (Below.refl _ _) rfl
          refine StepsP.cons (fun (x : Value) (w : World) => NewLev wd.heap.size nc qa x w) [(38, (fun (x : Value) (_ : World) => x = (.bool true : Value))), (43, (fun (x : Value) (_ : World) => x = (.agg #[.slice (some ⟨ga, 0, none⟩) na ka] : Value)))] rfl rfl rfl (fun oq hop _ wq hQS => ?_) ?_
          · refine StepFrom.more_eq ((.bool true : Value)) ?_
            refine StepFrom.more_eq ((.agg #[.slice (some ⟨ga, 0, none⟩) na ka] : Value)) ?_
            exact StepFrom.call hop (vs := [(.agg #[.slice (some ⟨ga, 0, none⟩) na ka] : Value)]) (by kernel_rfl) (fun w => enter_norm _ w) (by kernel_rfl) (CN5.out wq hQS)
          refine StepsP.new (fun (x : Value) (w : World) => OneLev wd.heap.size nc qa x w) NewSl [(38, (fun (x : Value) (_ : World) => x = (.bool true : Value))), (44, (fun (x : Value) (w : World) => NewLev wd.heap.size nc qa x w))] rfl rfl rfl (fun oq hop _ wq hQS => ?_) ?_
          · refine StepFrom.more_eq ((.bool true : Value)) ?_
            refine StepFrom.more fun x44 h44 => ?_
            obtain ⟨A44, c44, rfl, hn44, hl44⟩ := h44
            exact StepFrom.slice hop (vs := [(0, (.agg #[.slice A44 nc c44] : Value))]) (by kernel_rfl) (slice_level _ _ _) (by kernel_rfl) (hQS.step ((Below.refl _ _).alloc (Nat.le_refl _) _)) ((Below.refl _ _).alloc (Nat.le_refl _) _) ⟨⟨_, _, _, rfl, hQS.1.size, heap_alloc_new _ _, own_below hl44 ((Below.refl _ _).alloc (Nat.le_refl _) _)⟩, newSl_made _ 1⟩
          refine StepsP.reads (fun (x : Value) (w : World) => Three wd.heap.size (.slice Ac nc cc) (.slice Ad nd cd) nc qa x w) [(38, (fun (x : Value) (_ : World) => x = (.bool true : Value))), (40, (fun (x : Value) (w : World) => OneRow wd.heap.size (.slice Ac nc cc) x w)), (42, (fun (x : Value) (w : World) => OneRow wd.heap.size (.slice Ad nd cd) x w)), (45, (fun (x : Value) (w : World) => OneLev wd.heap.size nc qa x w))] rfl rfl rfl (fun oq hop _ wq hQS => ?_) ?_
          · refine StepPre.more fun x38 h38 => ?_
            obtain rfl : x38 = (.bool true : Value) := h38
            refine StepPre.more fun x40 h40 => ?_
            obtain ⟨g40, rfl, hg400, hg40⟩ := h40
            refine StepPre.more fun x42 h42 => ?_
            obtain ⟨g42, rfl, hg420, hg42⟩ := h42
            refine StepPre.more fun x45 h45 => ?_
            obtain ⟨g45, A45, c45, rfl, hg450, hg45, hl45⟩ := h45
            intro hpre
            have n1 := far_sl_ne (a := g40) (b := g42) (hpre ⟨16, 18, FarSl⟩ (by simp) 40 42 _ _ (by simp) (by simp) (by kernel_rfl) (by kernel_rfl))
            have n2 := far_sl_ne (a := g40) (b := g45) (hpre ⟨16, 21, FarSl⟩ (by simp) 40 45 _ _ (by simp) (by simp) (by kernel_rfl) (by kernel_rfl))
            have n3 := far_sl_ne (a := g42) (b := g45) (hpre ⟨18, 21, FarSl⟩ (by simp) 42 45 _ _ (by simp) (by simp) (by kernel_rfl) (by kernel_rfl))
            have hal : Below wq.heap.size wq (wq.alloc (.cells #[.slice (some ⟨g40, 0, none⟩) 1 1, .slice (some ⟨g42, 0, none⟩) 1 1, .slice (some ⟨g45, 0, none⟩) 1 1] 31)) := ((Below.refl _ _).alloc (Nat.le_refl _) _)
            exact StepFrom.slice hop (vs := [(0, (.slice (some ⟨g40, 0, none⟩) 1 1 : Value)), (1, (.slice (some ⟨g42, 0, none⟩) 1 1 : Value)), (2, (.slice (some ⟨g45, 0, none⟩) 1 1 : Value))]) (by kernel_rfl) (slice_three _ _ _) (by kernel_rfl) (hQS.step hal) hal ⟨⟨_, g40, g42, g45, A45, c45, rfl, heap_alloc_new _ _, ⟨hg400, hg420, hg450⟩, (hal.block _ (heap_some_lt hg40)).trans hg40, (hal.block _ (heap_some_lt hg42)).trans hg42, (hal.block _ (heap_some_lt hg45)).trans hg45, own_below hl45 hal, n1, n2, n3⟩, trivial⟩
          exact StepsP.nil
        case hsteps2 =>
          refine StepsB.mid (fun (x : Value) (_ : World) => x = (.bool true : Value)) [(38, (fun (x : Value) (_ : World) => x = (.bool true : Value))), (46, (fun (x : Value) (w : World) => Three wd.heap.size (.slice Ac nc cc) (.slice Ad nd cd) nc qa x w))] rfl rfl rfl (fun oq hop _ wq hQS => ?_) ?_
          · refine StepFrom.more_eq ((.bool true : Value)) ?_
            refine StepFrom.more fun x46 h46 => ?_
            exact StepFrom.call hop (vs := [(x46 : Value)]) (by kernel_rfl) (fun w => enter_apart _ w) (by kernel_rfl) (CAP.out wq x46 hQS h46)
          refine StepsB.back (fun (x : Value) (_ : World) => x = (.bool true : Value)) [(38, (fun (x : Value) (_ : World) => x = (.bool true : Value))), (47, (fun (x : Value) (_ : World) => x = (.bool true : Value)))] rfl rfl (by decide) (fun oq hop _ wq hQS => ?_) ?_
          · refine StepFrom.more_eq ((.bool true : Value)) ?_
            refine StepFrom.more_eq ((.bool true : Value)) ?_
            exact StepFrom.pick hop (b := true) (vx := (.bool true : Value)) (vy := (Value.bool false : Value)) (by kernel_rfl) (by kernel_rfl) (by kernel_rfl) (by kernel_rfl) hQS trivial rfl
          refine StepsB.back (fun (x : Value) (_ : World) => x = (.bool true : Value)) [(48, (fun (x : Value) (_ : World) => x = (.bool true : Value)))] rfl rfl (by decide) (fun oq hop _ wq hQS => ?_) ?_
          · refine StepFrom.more_eq ((.bool true : Value)) ?_
            exact StepFrom.move hop (v := (.bool true : Value)) (by kernel_rfl) (by kernel_rfl) hQS trivial rfl
          refine StepsB.back (fun (x : Value) (_ : World) => x = (.agg #[.slice (some ⟨ga, 0, none⟩) na ka] : Value)) [(49, (fun (x : Value) (_ : World) => x = (.bool true : Value)))] rfl rfl (by decide) (fun oq hop _ wq hQS => ?_) ?_
          · refine StepFrom.more_eq ((.bool true : Value)) ?_
            exact StepFrom.load hop (by kernel_rfl) (load_level ((hQS.cell (p := ⟨gx, 0, none⟩) hgx9).trans X7.out)) (by kernel_rfl) hQS trivial rfl
          refine StepsB.back (fun (x : Value) (_ : World) => x = (.agg #[.slice Aa na ca] : Value)) [(49, (fun (x : Value) (_ : World) => x = (.bool true : Value)))] rfl rfl (by decide) (fun oq hop _ wq hQS => ?_) ?_
          · refine StepFrom.more_eq ((.bool true : Value)) ?_
            exact StepFrom.load hop (by kernel_rfl) (load_level ((hQS.cell (p := ⟨w.heap.size, 0, none⟩) (by show w.heap.size < _; omega)).trans X3.out)) (by kernel_rfl) hQS trivial rfl
          refine StepsB.back (fun (x : Value) (_ : World) => x = (.bool true : Value)) [(49, (fun (x : Value) (_ : World) => x = (.bool true : Value))), (50, (fun (x : Value) (_ : World) => x = (.agg #[.slice (some ⟨ga, 0, none⟩) na ka] : Value))), (51, (fun (x : Value) (_ : World) => x = (.agg #[.slice Aa na ca] : Value)))] rfl rfl (by decide) (fun oq hop _ wq hQS => ?_) ?_
          · refine StepFrom.more_eq ((.bool true : Value)) ?_
            refine StepFrom.more_eq ((.agg #[.slice (some ⟨ga, 0, none⟩) na ka] : Value)) ?_
            refine StepFrom.more_eq ((.agg #[.slice Aa na ca] : Value)) ?_
            exact StepFrom.call hop (vs := [(.agg #[.slice (some ⟨ga, 0, none⟩) na ka] : Value), (.agg #[.slice Aa na ca] : Value)]) (by kernel_rfl) (fun w => enter_kept _ w) (by kernel_rfl) ((CK1.out wq (J3.out.trans hQS)).mono (G6.out wq · · hQS))
          refine StepsB.back (fun (x : Value) (_ : World) => x = (.bool true : Value)) [(49, (fun (x : Value) (_ : World) => x = (.bool true : Value))), (52, (fun (x : Value) (_ : World) => x = (.bool true : Value)))] rfl rfl (by decide) (fun oq hop _ wq hQS => ?_) ?_
          · refine StepFrom.more_eq ((.bool true : Value)) ?_
            refine StepFrom.more_eq ((.bool true : Value)) ?_
            exact StepFrom.pick hop (b := true) (vx := (.bool true : Value)) (vy := (Value.bool false : Value)) (by kernel_rfl) (by kernel_rfl) (by kernel_rfl) (by kernel_rfl) hQS trivial rfl
          refine StepsB.back (fun (x : Value) (_ : World) => x = (.bool true : Value)) [(53, (fun (x : Value) (_ : World) => x = (.bool true : Value)))] rfl rfl (by decide) (fun oq hop _ wq hQS => ?_) ?_
          · refine StepFrom.more_eq ((.bool true : Value)) ?_
            exact StepFrom.move hop (v := (.bool true : Value)) (by kernel_rfl) (by kernel_rfl) hQS trivial rfl
          refine StepsB.back (fun (x : Value) (_ : World) => x = (.bool true : Value)) [(54, (fun (x : Value) (_ : World) => x = (.bool true : Value)))] rfl rfl (by decide) (fun oq hop _ wq hQS => ?_) ?_
          · refine StepFrom.more_eq ((.bool true : Value)) ?_
            exact StepFrom.call hop (vs := []) (by kernel_rfl) (fun w => enter_awake _ w) (by kernel_rfl) ((awake_any wq).mono (G6.out wq · · hQS))
          refine StepsB.back (fun (x : Value) (_ : World) => x = (.bool true : Value)) [(54, (fun (x : Value) (_ : World) => x = (.bool true : Value))), (55, (fun (x : Value) (_ : World) => x = (.bool true : Value)))] rfl rfl (by decide) (fun oq hop _ wq hQS => ?_) ?_
          · refine StepFrom.more_eq ((.bool true : Value)) ?_
            refine StepFrom.more_eq ((.bool true : Value)) ?_
            exact StepFrom.pick hop (b := true) (vx := (.bool true : Value)) (vy := (Value.bool false : Value)) (by kernel_rfl) (by kernel_rfl) (by kernel_rfl) (by kernel_rfl) hQS trivial rfl
          refine StepsB.back (fun (x : Value) (_ : World) => x = (.bool true : Value)) [(56, (fun (x : Value) (_ : World) => x = (.bool true : Value)))] rfl rfl (by decide) (fun oq hop _ wq hQS => ?_) ?_
          · refine StepFrom.more_eq ((.bool true : Value)) ?_
            exact StepFrom.assign hop (v := (.bool true : Value)) (by kernel_rfl) (by kernel_rfl) hQS trivial rfl
          exact StepsB.nil
        case hfin =>
          intro wf hFS
          refine FinalFrom.more fun x24 h24 => ?_
          refine FinalFrom.more fun x25 h25 => ?_
          refine FinalFrom.more fun x26 h26 => ?_
          refine FinalFrom.more fun x27 h27 => ?_
          refine FinalFrom.more fun x28 h28 => ?_
          refine FinalFrom.more fun x29 h29 => ?_
          refine FinalFrom.more fun x30 h30 => ?_
          refine FinalFrom.more fun x31 h31 => ?_
          refine FinalFrom.more fun x32 h32 => ?_
          refine FinalFrom.more fun x33 h33 => ?_
          refine FinalFrom.more fun x34 h34 => ?_
          refine FinalFrom.more fun x35 h35 => ?_
          refine FinalFrom.more fun x36 h36 => ?_
          refine FinalFrom.more fun x37 h37 => ?_
          refine FinalFrom.more fun x38 h38 => ?_
          refine FinalFrom.more fun x39 h39 => ?_
          refine FinalFrom.more fun x40 h40 => ?_
          refine FinalFrom.more fun x41 h41 => ?_
          refine FinalFrom.more fun x42 h42 => ?_
          refine FinalFrom.more fun x43 h43 => ?_
          refine FinalFrom.more fun x44 h44 => ?_
          refine FinalFrom.more fun x45 h45 => ?_
          refine FinalFrom.more fun x46 h46 => ?_
          refine FinalFrom.more fun x47 h47 => ?_
          refine FinalFrom.more fun x48 h48 => ?_
          refine FinalFrom.more fun x49 h49 => ?_
          refine FinalFrom.more fun x50 h50 => ?_
          refine FinalFrom.more fun x51 h51 => ?_
          refine FinalFrom.more fun x52 h52 => ?_
          refine FinalFrom.more fun x53 h53 => ?_
          refine FinalFrom.more fun x54 h54 => ?_
          refine FinalFrom.more fun x55 h55 => ?_
          refine FinalFrom.more fun x56 h56 => ?_
          refine FinalFrom.more fun x6 h6 => ?_
          refine FinalFrom.done ?_
          obtain rfl : x6 = (.bool true : Value) := h6
          have HFIN : Hid (Below w.heap.size w wf) := (BZ.out.trans (I3.out.mono (by omega))).trans ((J3.out.mono (by omega)).trans (Below.mono hFS (by omega)))
          clear hS hFS
          simp only [Act.put, List.setIfInBounds_toArray, List.set_cons_zero, List.set_cons_succ]
          go_wp2
          go_ret
          exact ⟨rfl, HFIN.out⟩
end Go.Proofs.YtldalfikpklfdaaGreat
namespace Go.Proofs.YtldalfikpklfdaaGreat.tells
open Go.ChangeShapes Go.WideShapes Go.ChangeAt Go.RowKit

theorem own : ownKnob Tryz.prog.godebug = none := by kernel_rfl
theorem laidOut : laidOutB Tryz.prog = true := by kernel_rfl

set_option maxRecDepth 100000 in
theorem lifted (os : Os) (started : os.Started) (H : Type) (enc : TypeId × Value → H) :
    ReturnsInHanded {} Tryz.checked os 3 .any (Rows.levelTellsSpec.pre6 enc Tryz.prog Tryz.f3 Rows.levelTellsRow.domain false) (Rows.levelTellsSpec.post enc Tryz.prog Tryz.f3 false true false false) := by
  refine returnsInHanded_of_change_sized (C := Tryz.checked) own started (by kernel_rfl) Tryz.func3
    (ChangeSpec.witness6 (enc := enc) (C := Tryz.checked) false ⟨#[], #[.agg #[.slice none 0 0], .agg #[.slice none 0 0], .int .i64 0], []⟩ 8 (by kernel_rfl) (by kernel_rfl) (by kernel_rfl) (by kernel_rfl)) ?_
  intro W base args ds gs before hval0 hW hcnd hsz0 _
  have hval : ∀ (j : Nat) t v, Tryz.f3.params[j]? = some t → args[j]? = some v → Value.okWide Tryz.prog W .any base t v := hval0
  have hsz : (DataW.weightsEach Tryz.prog (Tryz.f3.params.toList ++ Rows.levelTellsSpec.plain.varTypes Tryz.prog) (ds ++ gs)).all (· ≤ reachBytes) = true := hsz0
  have hW' := hW
  obtain ⟨p, q, hA0, hV, rfl, hfz, hnd⟩ := hW
  have hA : DataW.TrodAll enc Tryz.prog W 0 (fun _ => true) true Tryz.f3.params.toList args.toList ds p := hA0
  rw [Tryz.params3] at hA hval hsz
  obtain ⟨v0, vs0, d0, ds0, p0, q0, hargs, rfl, rfl, h0, r0⟩ := trodAll_cons hA
  obtain ⟨v1, vs1, d1, ds1, p1, q1, rfl, rfl, rfl, h1, r1⟩ := trodAll_cons r0
  obtain ⟨v2, vs2, d2, ds2, p2, q2, rfl, rfl, rfl, h2, r2⟩ := trodAll_cons r1
  obtain ⟨rfl, rfl, rfl⟩ := trodAll_nil r2
  obtain rfl : args = #[v0, v1, v2] := by cases args; simp_all
  obtain ⟨rfl, rfl⟩ := trodVars_none hV
  have lt0 : ∀ x ∈ p0, x.block < W.heap.size := by obtain ⟨m, hm⟩ := h0; exact DataW.trod_lt m _ _ _ hm
  have lt1 : ∀ x ∈ p1, x.block < W.heap.size := by obtain ⟨m, hm⟩ := h1; exact DataW.trod_lt m _ _ _ hm
  have lt2 : ∀ x ∈ p2, x.block < W.heap.size := by obtain ⟨m, hm⟩ := h2; exact DataW.trod_lt m _ _ _ hm
  have k0 := h0
  have k1 := h1
  have k2 := h2
  obtain ⟨Aa, pa, ca, rfl, hca, ha, _, _, wa⟩ := open_level (hval 0 24 v0 rfl rfl) h0
  obtain ⟨Ab, pb, cb, rfl, hcb, hb, _, _, wb⟩ := open_level (hval 1 24 v1 rfl rfl) h1
  obtain ⟨n, rfl⟩ := okWide_int Tryz.underlying3 (hval 2 3 v2 rfl rfl)
  have za : pa.length ≤ 4611686018427387904 := by
    rcases wa with wa | ⟨n, hn, hl⟩
    · omega
    · have := List.all_eq_true.1 hsz _ (DataW.weights_mem_each (j := 0) (t := 24) (d := d0) rfl rfl n hn)
      have h9 : n ≤ reachBytes := of_decide_eq_true this
      have h8 := reachBytes_lt
      omega
  have zb : pb.length ≤ 4611686018427387904 := by
    rcases wb with wb | ⟨n, hn, hl⟩
    · omega
    · have := List.all_eq_true.1 hsz _ (DataW.weights_mem_each (j := 1) (t := 24) (d := d1) rfl rfl n hn)
      have h9 : n ≤ reachBytes := of_decide_eq_true this
      have h8 := reachBytes_lt
      omega
  clear hA0 hval0
  refine (tells_any Aa Ab pa pb ca cb n W za zb ha hca hb hcb).mono fun e W' ⟨he, bel⟩ => ?_
  subst he
  exact ⟨_, rfl, _, _, _, [], _, [], hW', trodAll_mk1 (shut_bool Tryz.underlying4 _), (trodAll_cons_mk (Below.trod laidOut (by kernel_rfl) (of_decide_eq_true (by kernel_rfl)) k0 bel lt0) (trodAll_cons_mk (Below.trod laidOut (by kernel_rfl) (of_decide_eq_true (by kernel_rfl)) k1 bel lt1) (trodAll_cons_mk (Below.trod laidOut (by kernel_rfl) (of_decide_eq_true (by kernel_rfl)) k2 bel lt2) trodAll_mk0))), rfl, bel.frame _, fun h => by cases h⟩

theorem over : Rows.levelTellsRow.holds Tryz.pinned (OpenSpec.ofChange Rows.levelTellsSpec) :=
  OpenClaim.holds_of_wide 3 Tryz.f3 rfl rfl rfl rfl rfl rfl rfl ⟨rfl, rfl, rfl, rfl, rfl⟩ rfl rfl rfl rfl rfl (by kernel_rfl) Tryz.func3 (by kernel_rfl)
    (of_decide_eq_true (by kernel_rfl)) (by unfold Func.isWrapper; first | (rw [if_pos (by decide +kernel)]; kernel_rfl) | (rw [if_neg (by decide +kernel)]; exact ⟨rfl, rfl⟩))
    (fun os started H enc _ => lifted os started H enc)

theorem proved : Rows.LevelTellsSaid := over
#print axioms proved
end Go.Proofs.YtldalfikpklfdaaGreat.tells
