/- The document's spine: the same as the program's. -/
import Derived.Test.YtaoglkkdhdfioaaGreatDoorEvWk
import Derived.Test.YtaoglkkdhdfioaaGreatDoorTeRef7
import Derived.Test.YtaoglkkdhdfioaaGreatDoorTeSpine
import Derived.KernelRfl
import Derived.Test.YtaoglkkdhdfioaaGreatDoorProg
namespace Go.Proofs.YtaoglkkdhdfioaaGreatDoor
open Go Go.Proofs
set_option maxRecDepth 100000
set_option maxHeartbeats 4000000
attribute [local go_sem] AH.seals AH.adds news List.nil_append List.cons_append AF.put AF.start Slots.set Slots.ins zipA AH.zero AH.new AH.put AH.sub ofV AV.cells List.length AF.keep AH.cut List.filter_cons List.filter_nil List.contains_cons List.contains_nil Nat.reduceBEq Bool.or_false Bool.or_true Bool.true_or Bool.false_or decide_true decide_false Bool.not_false Bool.and_true Bool.true_and Bool.and_self List.append_nil List.getElem_toArray List.getElem_cons_zero List.getElem_cons_succ Nat.reduceLT Nat.reduceAdd Nat.reduceSub Nat.reduceEqDiff andThen atEnd rounds Tryz.ntmps47 AH.only List.length_append List.filter
theorem rspine_tells (t : Tm) (hs : t.size ≤ 1048576) (hbr : t.bare) (hf : t.fit) : Tells Tryz.prog (.func 47) [eTm t] [] (.tup [eTm (headT t), .vals 5 ((argsT t).map eTm)]) := by
  refine tells_of (fun b hb => ?_) (.tup fun a ha => ?_) ?_
  · simp at hb; subst hb; exact pure_tm t
  · simp at ha; rcases ha with rfl | rfl
    · exact pure_tm _
    · exact pure_tms 5 _
  obtain ⟨t0, ht0⟩ : ∃ t0, t0 = t := ⟨_, rfl⟩
  rw [← ht0, eTm_agg t0, ht0]
  rw [← ht0] at hs hbr hf
  obtain ⟨k, m, a, lv, kids⟩ := t
  have hp10 : Pure (.vals 1 []) := pure_lvs 1 []
  refine gives_enter Tryz.func47 rfl rfl ?_
  repeat' first
    | refine wk ?_
    | refine wa ?_
    | (refine goesL_b (by rfl) (by rfl) fun b hb => ?_; cases b <;> refine sm ?_)
    | (refine goesA_b (by rfl) (by rfl) fun b hb => ?_; cases b <;> refine sm ?_)
  rw [← ht0]
  refine goes_keep [1, 2, 4] ?_
  refine goes_loop (fun M f h => ∃ (u : Tm) (c : List Tm), M = u.size ∧ u.bare ∧ u.fit ∧ c.length + u.size ≤ 1048576 ∧ (∀ x ∈ c, x.bare ∧ x.fit ∧ x.size ≤ 1048576) ∧ spineT t0 = ((spineT u).1, (spineT u).2 ++ c.reverse) ∧
    ((c = [] ∧ f.keep [1, 2, 4] = ⟨⟨45, [(1, .ptr 0 0 0), (2, .ptr 1 0 0), (4, .raw (.slice none 0 0))]⟩, [], none⟩ ∧ h = ⟨2, [], [(1, .cells (tmBlk 1 [eInt 0, eInt 0, eInt 0, .raw (.slice none 0 0), .raw (.slice none 0 0)])), (0, .cells (tmBlk 1 (tmC u)))]⟩) ∨
     ∃ (i : Nat) (g : Tm), c.length = i + 1 ∧ f.keep [1, 2, 4] = ⟨⟨45, [(1, .ptr 0 0 0), (2, .ptr 1 0 0), (4, .row 3 i 0 (i + 1))]⟩, [], none⟩ ∧ h = ⟨4, [], [(3, .cells ⟨i, 26, 5, 0, tmsC c⟩), (2, .cells (tmBlk 5 (tmC g))), (1, .cells (tmBlk 1 [eInt 0, eInt 0, eInt 0, .raw (.slice none 0 0), .raw (.slice none 0 0)])), (0, .cells (tmBlk 1 (tmC u)))]⟩)) ?_ _ _ _ ⟨t0, [], rfl, hbr, hf, by simpa using hs, by simp, by simp [spineT], .inl ⟨rfl, rfl, by rw [ht0]; rfl⟩⟩
  rintro M f h ⟨u, c, rfl, hub, huf, hus, hcs, hsp, ⟨rfl, hkf, rfl⟩ | ⟨i, g, hc, hkf, rfl⟩⟩
  · refine goes_keep [1, 2, 4] ?_
    rw [hkf]
    have hpu := pure_tmC u
    cases e : u.two 6 with
    | false =>
      have hT := rcopy_tells u (by omega) hub huf
      rw [eTm_agg] at hT
      have h1 := congrArg Prod.fst hsp
      have h2 := congrArg Prod.snd hsp
      rw [spineT_no e] at h1 h2
      have h1 : headT t0 = u := h1
      have h2 : argsT t0 = [] := h2
      rw [h1, h2, eTm_agg u]
      obtain ⟨k1, n1, a1, lv1, kids1⟩ := u
      repeat' first
        | refine wk ?_
        | refine wa ?_
        | (refine goesL_b (by rfl) (by rfl) fun b hb => ?_; cases b <;> refine sm ?_)
        | (refine goesA_b (by rfl) (by rfl) fun b hb => ?_; cases b <;> refine sm ?_)
      · refine goes_keep [1, 2, 5, 6] ?_
        refine goes_loop (fun M f h => f.keep [1, 2, 5, 6] = ⟨⟨45, [(1, .ptr 0 0 0), (2, .ptr 1 0 0), (5, .raw (.slice none 0 0)), (6, eInt (-1))]⟩, [], none⟩ ∧ h = ⟨2, [], [(1, .cells (tmBlk 1 [eInt 0, eInt 0, eInt 0, .raw (.slice none 0 0), .raw (.slice none 0 0)])), (0, .cells (tmBlk 1 (tmC (.mk k1 n1 a1 lv1 kids1))))]⟩) ?_ 0 _ _ ⟨rfl, rfl⟩
        rintro M f h ⟨hkf, rfl⟩
        refine goes_keep [1, 2, 5, 6] ?_
        rw [hkf]
        repeat' first
          | refine wk ?_
          | refine wa ?_
          | refine tl hT ?_
          | refine ta hT ?_
          | (refine goesL_b (by rfl) (by rfl) fun b hb => ?_; cases b <;> refine sm ?_)
          | (refine goesA_b (by rfl) (by rfl) fun b hb => ?_; cases b <;> refine sm ?_)
        exact ⟨rfl, _, rfl, _, [], [], rfl, .tup (j := []) (l := []) (.pure (.agg hpu) (.none .nil)) .nil, fun p hp => nomatch hp⟩
      · refine goes_keep [1, 2, 5, 6] ?_
        refine goes_loop (fun M f h => f.keep [1, 2, 5, 6] = ⟨⟨45, [(1, .ptr 0 0 0), (2, .ptr 1 0 0), (5, .raw (.slice none 0 0)), (6, eInt (-1))]⟩, [], none⟩ ∧ h = ⟨2, [], [(1, .cells (tmBlk 1 [eInt 0, eInt 0, eInt 0, .raw (.slice none 0 0), .raw (.slice none 0 0)])), (0, .cells (tmBlk 1 (tmC (.mk k1 n1 a1 lv1 kids1))))]⟩) ?_ 0 _ _ ⟨rfl, rfl⟩
        rintro M f h ⟨hkf, rfl⟩
        refine goes_keep [1, 2, 5, 6] ?_
        rw [hkf]
        repeat' first
          | refine wk ?_
          | refine wa ?_
          | refine tl hT ?_
          | refine ta hT ?_
          | (refine goesL_b (by rfl) (by rfl) fun b hb => ?_; cases b <;> refine sm ?_)
          | (refine goesA_b (by rfl) (by rfl) fun b hb => ?_; cases b <;> refine sm ?_)
        exact ⟨rfl, _, rfl, _, [], [], rfl, .tup (j := []) (l := []) (.pure (.agg hpu) (.none .nil)) .nil, fun p hp => nomatch hp⟩
      · exact (two_clash ‹(k1 == 6) = true› hb e).elim
    | true =>
      obtain ⟨k1, n1, a1, lv1, kids1⟩ := u
      obtain ⟨rfl, x, y, rfl⟩ := Tm.two_iff.1 e
      have hub2 := ((Tm.bare_mk ..).1 hub).2
      have huf2 := ((Tm.fit_mk ..).1 huf).2.2.2
      rw [Tm.bareL, Tm.bareL] at hub2
      rw [Tm.fitL, Tm.fitL] at huf2
      rw [Tm.size_mk, Tm.sizeL, Tm.sizeL, Tm.sizeL] at hus
      rw [spineT_app] at hsp
      rw [tmC_two]
      obtain ⟨k2, n2, a2, lv2, kids2⟩ := x
      obtain ⟨k3, n3, a3, lv3, kids3⟩ := y
      repeat' first
        | refine wk ?_
        | refine wa ?_
        | (refine goesL_b (by rfl) (by rfl) fun b hb => ?_; cases b <;> refine sm ?_)
        | (refine goesA_b (by rfl) (by rfl) fun b hb => ?_; cases b <;> refine sm ?_)
      refine ⟨(Tm.mk k2 n2 a2 lv2 kids2).size, by rw [Tm.size_mk 6, Tm.sizeL, Tm.sizeL, Tm.sizeL]; omega, .mk k2 n2 a2 lv2 kids2, [.mk k3 n3 a3 lv3 kids3], rfl, hub2.1, huf2.1, by simp at hus ⊢; omega, by simp; exact ⟨hub2.2.1, huf2.2.1, by simp at hus; omega⟩, by rw [hsp]; simp, .inr ⟨0, .mk k3 n3 a3 lv3 kids3, rfl, rfl, ?_⟩⟩
      rw [tms_one]
      rfl
  · refine goes_keep [1, 2, 4] ?_
    rw [hkf]
    have hpu := pure_tmC u
    have hpg := pure_tmC g
    have hpc := pure_tmsC c
    refine goes_scope [1, 2, 4] ?_
    cases e : u.two 6 with
    | false =>
      have hT := rcopy_tells u (by omega) hub huf
      rw [eTm_agg] at hT
      have h1 := congrArg Prod.fst hsp
      have h2 := congrArg Prod.snd hsp
      rw [spineT_no e] at h1 h2
      have h1 : headT t0 = u := h1
      have h2 : argsT t0 = c.reverse := by
        have h2 : argsT t0 = [] ++ c.reverse := h2
        simpa using h2
      obtain ⟨W, hW⟩ : ∃ W, c.reverse = W := ⟨_, rfl⟩
      have hWl : W.length = i + 1 := by rw [← hW, List.length_reverse, hc]
      obtain ⟨K, hK⟩ : ∃ K, c.map eTm = K := ⟨_, rfl⟩
      have hKl : K.length = i + 1 := by rw [← hK]; simp [hc]
      have hKp : Pure (.vals 5 K) := hK ▸ pure_tms 5 c
      have kid : ∀ j : Nat, j ≤ i → ∃ w, W[j]? = some w ∧ K[i - j]? = some (.agg (tmC w)) ∧ Tells Tryz.prog (.func 78) [.agg (tmC w), eInt 0, eInt 0] [] (.agg (tmC w)) := fun j hj => by
        obtain ⟨w, hw⟩ : ∃ w, c[i - j]? = some w := ⟨_, List.getElem?_eq_getElem (by omega)⟩
        have hwr := hcs w (List.mem_of_getElem? hw)
        have hT := rcopy_tells w hwr.2.2 hwr.1 hwr.2.1
        rw [eTm_agg] at hT
        refine ⟨w, ?_, by rw [← hK, List.getElem?_map, hw, ← eTm_agg]; rfl, hT⟩
        rw [← hW, List.getElem?_reverse (by omega), show c.length - 1 - j = i - j by omega, hw]
      rw [h1, h2, hW, eTm_agg u]
      have hi6 : i ≤ 1048576 := by omega
      obtain ⟨k1, n1, a1, lv1, kids1⟩ := u
      apply share (N := ()) (fun _ => ⟨⟨45, [(1, .ptr 0 0 0), (2, .ptr 1 0 0), (4, .row 3 i 0 (i + 1))]⟩, [], none⟩) (fun _ => ⟨4, [], [(3, .cells ⟨i, 26, 5, 0, tmsC c⟩), (2, .cells (tmBlk 5 (tmC g))), (1, .cells (tmBlk 1 [eInt 0, eInt 0, eInt 0, .raw (.slice none 0 0), .raw (.slice none 0 0)])), (0, .cells (tmBlk 1 (tmC (.mk k1 n1 a1 lv1 kids1))))]⟩)
      · intro rest
        repeat' first
          | refine wk ?_
          | refine wa ?_
          | (refine goesL_b (by rfl) (by rfl) fun b hb => ?_; cases b <;> refine sm ?_)
          | (refine goesA_b (by rfl) (by rfl) fun b hb => ?_; cases b <;> refine sm ?_)
        · refine within_of (by repeat' first | exact True.intro | exact Of.raw _ | exact Of.emp | exact Of.ptr (has_nil (by rfl)) | exact Of.row (has_nil (by rfl)) | exact Of.yld (has_nil (by rfl)) | exact has_nil (by rfl) | assumption | exact Pure.of (by assumption) | exact Pure.of (pure_lvs _ _) | exact Pure.of (pure_tms _ _) | refine And.intro ?_ ?_ | exact ofC_pure (by assumption) | (refine Of.clo (fun _ ha => nomatch ha) (ofC_pure (by assumption))) | (refine Of.agg (OfC.all ?_)) | (refine Of.clo (fun _ ha => nomatch ha) (OfC.all ?_))) (by repeat' first | exact True.intro | refine And.intro ?_ ?_ | exact has_nil (by rfl)) (by first | exact True.intro | exact Of.raw _ | exact Of.ifc (Of.raw _)) (by repeat' first | exact True.intro | exact Of.raw _ | exact Of.emp | exact Of.ptr (has_nil (by rfl)) | exact Of.row (has_nil (by rfl)) | exact Of.yld (has_nil (by rfl)) | exact has_nil (by rfl) | assumption | exact Pure.of (by assumption) | exact Pure.of (pure_lvs _ _) | exact Pure.of (pure_tms _ _) | refine And.intro ?_ ?_ | exact ofC_pure (by assumption) | (refine Of.agg (OfC.all ?_)) | (refine Of.clo (fun _ ha => nomatch ha) (OfC.all ?_))) ?_
          refine sm ?_
          exact rest () rfl
        · refine within_of (by repeat' first | exact True.intro | exact Of.raw _ | exact Of.emp | exact Of.ptr (has_nil (by rfl)) | exact Of.row (has_nil (by rfl)) | exact Of.yld (has_nil (by rfl)) | exact has_nil (by rfl) | assumption | exact Pure.of (by assumption) | exact Pure.of (pure_lvs _ _) | exact Pure.of (pure_tms _ _) | refine And.intro ?_ ?_ | exact ofC_pure (by assumption) | (refine Of.clo (fun _ ha => nomatch ha) (ofC_pure (by assumption))) | (refine Of.agg (OfC.all ?_)) | (refine Of.clo (fun _ ha => nomatch ha) (OfC.all ?_))) (by repeat' first | exact True.intro | refine And.intro ?_ ?_ | exact has_nil (by rfl)) (by first | exact True.intro | exact Of.raw _ | exact Of.ifc (Of.raw _)) (by repeat' first | exact True.intro | exact Of.raw _ | exact Of.emp | exact Of.ptr (has_nil (by rfl)) | exact Of.row (has_nil (by rfl)) | exact Of.yld (has_nil (by rfl)) | exact has_nil (by rfl) | assumption | exact Pure.of (by assumption) | exact Pure.of (pure_lvs _ _) | exact Pure.of (pure_tms _ _) | refine And.intro ?_ ?_ | exact ofC_pure (by assumption) | (refine Of.agg (OfC.all ?_)) | (refine Of.clo (fun _ ha => nomatch ha) (OfC.all ?_))) ?_
          refine sm ?_
          exact rest () rfl
        · exact (two_clash ‹(k1 == 6) = true› hb e).elim
      · intro _ _
        have hsn := snap_tms (H := ⟨4, [], [(3, .cells ⟨i, 26, 5, 0, tmsC c⟩), (2, .cells (tmBlk 5 (tmC g))), (1, .cells (tmBlk 1 [eInt 0, eInt 0, eInt 0, .raw (.slice none 0 0), .raw (.slice none 0 0)])), (0, .cells (tmBlk 1 (tmC (.mk k1 n1 a1 lv1 kids1))))]⟩) (r := 3) rfl hc
        rw [hK] at hsn
        refine goes_snap [(3, (i + 1) * 5)] (sl := [(1, .ptr 0 0 0), (2, .ptr 1 0 0), (4, .vals 5 K)]) (bs := [(3, .cells ⟨i, 26, 5, max 0 ((i + 1) * 5), tmsC c⟩), (2, .cells (tmBlk 5 (tmC g))), (1, .cells (tmBlk 1 [eInt 0, eInt 0, eInt 0, .raw (.slice none 0 0), .raw (.slice none 0 0)])), (0, .cells (tmBlk 1 (tmC (.mk k1 n1 a1 lv1 kids1))))]) ?_ (.same (.same (.snap hsn.1 hsn.2 .nil))) ?_
        · rw [seals_one (c := ⟨i, 26, 5, 0, tmsC c⟩) rfl (by show (i + 1) * 5 ≤ (tmsC c).length; rw [tmsC_length, hc]; omega)]
          exact .same (.same (.same (.same .nil)))
        · repeat' first
            | refine wk ?_
            | refine wa ?_
            | (refine goesL_b (by rfl) (by rfl) fun b hb => ?_; cases b <;> refine sm ?_)
            | (refine goesA_b (by rfl) (by rfl) fun b hb => ?_; cases b <;> refine sm ?_)
          have e0 : IntKind.i64.wrap ((K.length : Int) - 1) = (i : Int) := by
            rw [hKl, show ((i + 1 : Nat) : Int) - 1 = (i : Int) by omega]
            exact wrap_nat (by omega)
          rw [e0]
          refine goes_keep [1, 2, 4, 5, 6] ?_
          refine goes_loop (fun M f h => ∃ j : Nat, j ≤ i + 1 ∧ M = i + 1 - j ∧ ((j = 0 ∧ f.keep [1, 2, 4, 5, 6] = ⟨⟨45, [(1, .ptr 0 0 0), (2, .ptr 1 0 0), (4, .vals 5 K), (5, .raw (.slice none 0 0)), (6, eInt (i : Int))]⟩, [], none⟩ ∧ h = ⟨4, [], [(3, .cells ⟨i, 26, 5, max 0 ((i + 1) * 5), tmsC c⟩), (2, .cells (tmBlk 5 (tmC g))), (1, .cells (tmBlk 1 [eInt 0, eInt 0, eInt 0, .raw (.slice none 0 0), .raw (.slice none 0 0)])), (0, .cells (tmBlk 1 (tmC (.mk k1 n1 a1 lv1 kids1))))]⟩) ∨
            ∃ (p : Nat) (g2 : Tm), j = p + 1 ∧ f.keep [1, 2, 4, 5, 6] = ⟨⟨45, [(1, .ptr 0 0 0), (2, .ptr 1 0 0), (4, .vals 5 K), (5, .row 5 p 0 (p + 1)), (6, eInt ((i : Int) - ((p + 1 : Nat) : Int)))]⟩, [], none⟩ ∧ h = ⟨6, [], [(5, .cells ⟨p, 26, 5, 0, tmsC (W.take (p + 1))⟩), (4, .cells (tmBlk 5 (tmC g2))), (3, .cells ⟨i, 26, 5, max 0 ((i + 1) * 5), tmsC c⟩), (2, .cells (tmBlk 5 (tmC g))), (1, .cells (tmBlk 1 [eInt 0, eInt 0, eInt 0, .raw (.slice none 0 0), .raw (.slice none 0 0)])), (0, .cells (tmBlk 1 (tmC (.mk k1 n1 a1 lv1 kids1))))]⟩)) ?_ (i + 1) _ _ ⟨0, Nat.zero_le _, by omega, .inl ⟨rfl, rfl, rfl⟩⟩
          rintro M f h ⟨j, hj, rfl, ⟨rfl, hkf, rfl⟩ | ⟨p, g2, rfl, hkf, rfl⟩⟩
          · refine goes_keep [1, 2, 4, 5, 6] ?_
            rw [hkf]
            obtain ⟨w, hw1, hw2, hTw⟩ := kid 0 (by omega)
            obtain ⟨k2, n2, a2, lv2, kids2⟩ := w
            repeat' first
              | refine wk ?_
              | refine wa ?_
              | (refine goesL_b (by rfl) (by rfl) fun b hb => ?_; cases b <;> refine sm ?_)
              | (refine goesA_b (by rfl) (by rfl) fun b hb => ?_; cases b <;> refine sm ?_)
            · refine goesL_index (n := i - 0) (by rfl) (by rfl) (by rfl) (by rfl) (by rfl) (by rfl) (by rfl) hw2 ?_
              refine sm ?_
              repeat' first
                | refine wk ?_
                | refine wa ?_
                | refine tl hTw ?_
                | refine ta hTw ?_
                | (refine goesL_b (by rfl) (by rfl) fun b hb => ?_; cases b <;> refine sm ?_)
                | (refine goesA_b (by rfl) (by rfl) fun b hb => ?_; cases b <;> refine sm ?_)
              refine ⟨i, by omega, 1, by omega, by omega, .inr ⟨0, .mk k2 n2 a2 lv2 kids2, rfl, ?_, ?_⟩⟩
              · rw [wrap_rng (n := (i : Int) - 1) ⟨by omega, by omega⟩]
                rfl
              · rw [show W.take (0 + 1) = _ from take_one_t hw1, tms_one]
                rfl
          · refine goes_keep [1, 2, 4, 5, 6] ?_
            rw [hkf]
            have hpg2 := pure_tmC g2
            have hpW := pure_tmsC (W.take (p + 1))
            have hp1 : (W.take (p + 1)).length = p + 1 := by rw [List.length_take]; omega
            refine goes_scope [1, 2, 4, 5, 6] ?_
            rcases Nat.lt_or_eq_of_le hj with hlt | heq
            · obtain ⟨w, hw1, hw2, hTw⟩ := kid (p + 1) (by omega)
              have hWi := take_next hw1
              have hpW2 := pure_tmsC (W.take (p + 1) ++ [w])
              obtain ⟨k2, n2, a2, lv2, kids2⟩ := w
              rw [show (i : Int) - ((p + 1 : Nat) : Int) = ((i - (p + 1) : Nat) : Int) by omega]
              repeat' first
                | refine wk ?_
                | refine wa ?_
                | (refine goesL_b (by rfl) (by rfl) fun b hb => ?_; cases b <;> refine sm ?_)
                | (refine goesA_b (by rfl) (by rfl) fun b hb => ?_; cases b <;> refine sm ?_)
              · refine goesL_index (n := i - (p + 1)) (by rfl) (by rfl) (by rfl) (by rfl) (by rfl) (by rfl) (by rfl) hw2 ?_
                refine sm ?_
                repeat' first
                  | refine wk ?_
                  | refine wa ?_
                  | refine tl hTw ?_
                  | refine ta hTw ?_
                  | (refine goesL_b (by rfl) (by rfl) fun b hb => ?_; cases b <;> refine sm ?_)
                  | (refine goesA_b (by rfl) (by rfl) fun b hb => ?_; cases b <;> refine sm ?_)
                refine goesL_push (c := W.take (p + 1)) (w := .mk k2 n2 a2 lv2 kids2) hp1 (by omega) ?_
                refine sm ?_
                repeat' first
                  | refine wk ?_
                  | refine wa ?_
                  | (refine goesL_b (by rfl) (by rfl) fun b hb => ?_; cases b <;> refine sm ?_)
                  | (refine goesA_b (by rfl) (by rfl) fun b hb => ?_; cases b <;> refine sm ?_)
                refine within_of (by repeat' first | exact True.intro | exact Of.raw _ | exact Of.emp | exact Of.ptr (has_nil (by rfl)) | exact Of.row (has_nil (by rfl)) | exact Of.yld (has_nil (by rfl)) | exact has_nil (by rfl) | assumption | exact Pure.of (by assumption) | exact Pure.of (pure_lvs _ _) | exact Pure.of (pure_tms _ _) | refine And.intro ?_ ?_ | exact ofC_pure (by assumption) | (refine Of.clo (fun _ ha => nomatch ha) (ofC_pure (by assumption))) | (refine Of.agg (OfC.all ?_)) | (refine Of.clo (fun _ ha => nomatch ha) (OfC.all ?_))) (by repeat' first | exact True.intro | refine And.intro ?_ ?_ | exact has_nil (by rfl)) (by first | exact True.intro | exact Of.raw _ | exact Of.ifc (Of.raw _)) (by repeat' first | exact True.intro | exact Of.raw _ | exact Of.emp | exact Of.ptr (has_nil (by rfl)) | exact Of.row (has_nil (by rfl)) | exact Of.yld (has_nil (by rfl)) | exact has_nil (by rfl) | assumption | exact Pure.of (by assumption) | exact Pure.of (pure_lvs _ _) | exact Pure.of (pure_tms _ _) | refine And.intro ?_ ?_ | exact ofC_pure (by assumption) | (refine Of.agg (OfC.all ?_)) | (refine Of.clo (fun _ ha => nomatch ha) (OfC.all ?_))) ?_
                refine ⟨i + 1 - (p + 2), by omega, p + 2, by omega, rfl, .inr ⟨p + 1, g2, rfl, ?_, ?_⟩⟩
                · rw [wrap_rng (n := ((i - (p + 1) : Nat) : Int) - 1) ⟨by omega, by omega⟩, show ((i - (p + 1) : Nat) : Int) - 1 = (i : Int) - ((p + 1 + 1 : Nat) : Int) by omega]
                  rfl
                · rw [hWi]
                  rfl
            · have hWt : W.take (p + 1) = W := List.take_of_length_le (by omega)
              rw [hWt] at hpW hp1 ⊢
              repeat' first
                | refine wk ?_
                | refine wa ?_
                | (refine goesL_b (by rfl) (by rfl) fun b hb => ?_; cases b <;> refine sm ?_)
                | (refine goesA_b (by rfl) (by rfl) fun b hb => ?_; cases b <;> refine sm ?_)
              · refine within_of (by repeat' first | exact True.intro | exact Of.raw _ | exact Of.emp | exact Of.ptr (has_nil (by rfl)) | exact Of.row (has_nil (by rfl)) | exact Of.yld (has_nil (by rfl)) | exact has_nil (by rfl) | assumption | exact Pure.of (by assumption) | exact Pure.of (pure_lvs _ _) | exact Pure.of (pure_tms _ _) | refine And.intro ?_ ?_ | exact ofC_pure (by assumption) | (refine Of.clo (fun _ ha => nomatch ha) (ofC_pure (by assumption))) | (refine Of.agg (OfC.all ?_)) | (refine Of.clo (fun _ ha => nomatch ha) (OfC.all ?_))) (by repeat' first | exact True.intro | refine And.intro ?_ ?_ | exact has_nil (by rfl)) (by first | exact True.intro | exact Of.raw _ | exact Of.ifc (Of.raw _)) (by repeat' first | exact True.intro | exact Of.raw _ | exact Of.emp | exact Of.ptr (has_nil (by rfl)) | exact Of.row (has_nil (by rfl)) | exact Of.yld (has_nil (by rfl)) | exact has_nil (by rfl) | assumption | exact Pure.of (by assumption) | exact Pure.of (pure_lvs _ _) | exact Pure.of (pure_tms _ _) | refine And.intro ?_ ?_ | exact ofC_pure (by assumption) | (refine Of.agg (OfC.all ?_)) | (refine Of.clo (fun _ ha => nomatch ha) (OfC.all ?_))) ?_
                refine sm ?_
                repeat' first
                  | refine wk ?_
                  | refine wa ?_
                  | refine tl hT ?_
                  | refine ta hT ?_
                  | (refine goesL_b (by rfl) (by rfl) fun b hb => ?_; cases b <;> refine sm ?_)
                  | (refine goesA_b (by rfl) (by rfl) fun b hb => ?_; cases b <;> refine sm ?_)
                have hsn := snap_tms (H := ⟨6, [], [(5, .cells ⟨p, 26, 5, 0, tmsC W⟩), (4, .cells (tmBlk 5 (tmC g2))), (3, .cells ⟨i, 26, 5, max 0 ((i + 1) * 5), tmsC c⟩), (2, .cells (tmBlk 5 (tmC g))), (1, .cells (tmBlk 1 (tmC (.mk k1 n1 a1 lv1 kids1)))), (0, .cells (tmBlk 1 (tmC (.mk k1 n1 a1 lv1 kids1))))]⟩) (r := 5) rfl hp1
                exact ⟨rfl, _, rfl, _, [(5, (p + 1) * 5)], [(5, 0 + (p + 1) * 5)], rfl, .tup (j := [(5, 0 + (p + 1) * 5)]) (l := []) (.pure (.agg hpu) hsn.1) .nil, hsn.2⟩
              · exact absurd (of_decide_eq_true hb) (by omega)
    | true =>
      obtain ⟨k1, n1, a1, lv1, kids1⟩ := u
      obtain ⟨rfl, x, y, rfl⟩ := Tm.two_iff.1 e
      have hub2 := ((Tm.bare_mk ..).1 hub).2
      have huf2 := ((Tm.fit_mk ..).1 huf).2.2.2
      rw [Tm.bareL, Tm.bareL] at hub2
      rw [Tm.fitL, Tm.fitL] at huf2
      rw [Tm.size_mk, Tm.sizeL, Tm.sizeL, Tm.sizeL] at hus
      rw [spineT_app] at hsp
      rw [tmC_two] at hpu ⊢
      have hpx := pure_tmC x
      have hpc2 := pure_tmsC (c ++ [y])
      obtain ⟨k2, n2, a2, lv2, kids2⟩ := x
      obtain ⟨k3, n3, a3, lv3, kids3⟩ := y
      repeat' first
        | refine wk ?_
        | refine wa ?_
        | (refine goesL_b (by rfl) (by rfl) fun b hb => ?_; cases b <;> refine sm ?_)
        | (refine goesA_b (by rfl) (by rfl) fun b hb => ?_; cases b <;> refine sm ?_)
      refine goesL_push (c := c) (w := .mk k3 n3 a3 lv3 kids3) hc (by omega) ?_
      refine sm ?_
      repeat' first
        | refine wk ?_
        | refine wa ?_
        | (refine goesL_b (by rfl) (by rfl) fun b hb => ?_; cases b <;> refine sm ?_)
        | (refine goesA_b (by rfl) (by rfl) fun b hb => ?_; cases b <;> refine sm ?_)
      refine within_of (by repeat' first | exact True.intro | exact Of.raw _ | exact Of.emp | exact Of.ptr (has_nil (by rfl)) | exact Of.row (has_nil (by rfl)) | exact Of.yld (has_nil (by rfl)) | exact has_nil (by rfl) | assumption | exact Pure.of (by assumption) | exact Pure.of (pure_lvs _ _) | exact Pure.of (pure_tms _ _) | refine And.intro ?_ ?_ | exact ofC_pure (by assumption) | (refine Of.clo (fun _ ha => nomatch ha) (ofC_pure (by assumption))) | (refine Of.agg (OfC.all ?_)) | (refine Of.clo (fun _ ha => nomatch ha) (OfC.all ?_))) (by repeat' first | exact True.intro | refine And.intro ?_ ?_ | exact has_nil (by rfl)) (by first | exact True.intro | exact Of.raw _ | exact Of.ifc (Of.raw _)) (by repeat' first | exact True.intro | exact Of.raw _ | exact Of.emp | exact Of.ptr (has_nil (by rfl)) | exact Of.row (has_nil (by rfl)) | exact Of.yld (has_nil (by rfl)) | exact has_nil (by rfl) | assumption | exact Pure.of (by assumption) | exact Pure.of (pure_lvs _ _) | exact Pure.of (pure_tms _ _) | refine And.intro ?_ ?_ | exact ofC_pure (by assumption) | (refine Of.agg (OfC.all ?_)) | (refine Of.clo (fun _ ha => nomatch ha) (OfC.all ?_))) ?_
      refine ⟨(Tm.mk k2 n2 a2 lv2 kids2).size, by rw [Tm.size_mk 6, Tm.sizeL, Tm.sizeL, Tm.sizeL]; omega, .mk k2 n2 a2 lv2 kids2, c ++ [.mk k3 n3 a3 lv3 kids3], rfl, hub2.1, huf2.1, by simp; omega, fun x hx => ?_, by rw [hsp]; simp, .inr ⟨i + 1, g, by simp [hc], rfl, rfl⟩⟩
      rcases List.mem_append.1 hx with hx | hx
      · exact hcs x hx
      · simp at hx; subst hx; exact ⟨hub2.2.1, huf2.2.1, by omega⟩
end Go.Proofs.YtaoglkkdhdfioaaGreatDoor
