/- term.eachLevel: each level turned. -/
import Derived.Test.YtaoglkkdhdfioaaGreatDoorEvWk
import Derived.Test.YtaoglkkdhdfioaaGreatDoorEvZ
import Derived.Test.YtaoglkkdhdfioaaGreatDoorTeCopied
import Derived.KernelRfl
import Derived.Test.YtaoglkkdhdfioaaGreatDoorProg
namespace Go.Proofs.YtaoglkkdhdfioaaGreatDoor
open Go Go.Proofs
set_option maxRecDepth 100000
set_option maxHeartbeats 1000000
attribute [local go_sem] AH.seals AH.adds news List.nil_append List.cons_append AF.put AF.start Slots.set Slots.ins zipA AH.zero AH.new AH.put AH.sub ofV AV.cells List.length AF.keep AH.cut List.filter_cons List.filter_nil List.contains_cons List.contains_nil Nat.reduceBEq Bool.or_false Bool.or_true Bool.true_or Bool.false_or decide_true decide_false Bool.not_false Bool.and_true Bool.true_and Bool.and_self List.append_nil List.getElem_toArray List.getElem_cons_zero List.getElem_cons_succ Nat.reduceLT Nat.reduceAdd Nat.reduceSub Nat.reduceEqDiff andThen atEnd rounds Tryz.ntmps148
/-- a level's one cell -/
def lvCell (l : List (Int × Int)) : AV := .vals 2 (l.map ePart)
theorem eLv_cells (l : List (Int × Int)) : (eLv l).cells = [lvCell l] := rfl
theorem lv_cells (g : List (Int × Int) → List (Int × Int)) : ∀ lv : List (List (Int × Int)), lv.map (fun l => lvCell (g l)) = ((lv.map g).map eLv).flatMap AV.cells
  | [] => rfl
  | l :: ls => by
    rw [List.map_cons, lv_cells g ls]
    rfl
theorem zeros_one (v : Value) : ∀ n : Nat, zerosA (.agg #[v]) n = List.replicate n (AV.raw v)
  | 0 => rfl
  | n + 1 => by
    have := zeros_one v n
    unfold zerosA at this ⊢
    rw [List.replicate_succ, List.flatten_cons, this, List.replicate_succ]
    rfl
theorem eachLevel_tells (lv : List (List (Int × Int))) (g : List (Int × Int) → List (Int × Int)) (F : Nat) (cap : List AV) (hcap : ∀ a ∈ cap, Pure a) (hn : lv.length ≤ 1048576) (hT : ∀ l ∈ lv, Tells Tryz.prog (.func F) [eLv l] cap (eLv (g l))) :
    Tells Tryz.prog (.func 148) [.vals 1 (lv.map eLv), .clo (.func F) [] cap] [] (.vals 1 ((lv.map g).map eLv)) := by
  refine tells_of (fun b hb => ?_) (pure_lvs 1 _) ?_
  · simp at hb; rcases hb with rfl | rfl
    · exact pure_lvs 1 lv
    · exact .clo (fun a ha => nomatch ha) hcap
  by_cases h0 : lv = []
  · subst h0
    refine gives_enter Tryz.func148 rfl rfl ?_
    repeat' first
      | refine wk ?_
      | (refine goesL_b (by rfl) (by rfl) fun b hb => ?_; cases b <;> refine sm ?_)
    refine ⟨rfl, _, rfl, _, [], _, rfl, .none .nil, fun p hp => (by cases hp)⟩
  · obtain ⟨K, hK⟩ : ∃ K, lv.map eLv = K := ⟨_, rfl⟩
    have hlen : K.length = lv.length := by rw [← hK]; simp
    have hpos : 0 < lv.length := List.length_pos_iff.2 h0
    have hKp : Pure (.vals 1 K) := hK ▸ pure_lvs 1 lv
    have hCp : Pure (AV.clo (.func F) [] cap) := .clo (fun a ha => nomatch ha) hcap
    rw [hK]
    refine gives_enter Tryz.func148 rfl rfl ?_
    repeat' first
      | refine wk ?_
      | (refine goesL_b (by rfl) (by rfl) fun b hb => ?_; cases b <;> refine sm ?_)
    · refine goesL_n (by rfl) (nop_make (n := K.length) (by rfl) (by rfl) (by rfl) (by rfl) (by rfl) (by rfl) (by unfold tops; omega) (by decide) (by rfl) (by kernel_rfl)) ?_
      refine sm ?_
      repeat' first
        | refine wk ?_
        | (refine goesL_b (by rfl) (by rfl) fun b hb => ?_; cases b <;> refine sm ?_)
      refine goes_keep [1, 5, 14, 15, 16] ?_
      refine goes_loop (fun m f h => ∃ j : Nat, j ≤ K.length ∧ m = K.length - j ∧ f = ⟨⟨29, [(1, AV.clo (.func F) [] cap), (5, .row 0 0 0 K.length), (14, .vals 1 K), (15, eInt (K.length : Int)), (16, eInt (j : Int))]⟩, [], none⟩ ∧ h = ⟨1, [], [(0, Blk.cells { ver := 0, elem := 45, sz := 1, imm := 0, cs := (lv.take j).map (fun l => lvCell (g l)) ++ List.replicate (K.length - j) (.raw (.slice none 0 0)) })]⟩) ?_ (K.length) _ _ ⟨0, Nat.zero_le _, rfl, rfl, ?_⟩
      · rintro m f h ⟨j, hj, rfl, rfl, rfl⟩
        have hcs : ∀ a ∈ (lv.take j).map (fun l => lvCell (g l)) ++ List.replicate (K.length - j) (AV.raw (.slice none 0 0)), Pure a := fun a ha => by
          rcases List.mem_append.1 ha with h1 | h1
          · obtain ⟨l, _, rfl⟩ := List.mem_map.1 h1
            exact pure_parts 2 _
          · rw [List.mem_replicate] at h1; rw [h1.2]; exact .raw _
        refine goes_scope [1, 5, 14, 15, 16] ?_
        repeat' first
          | refine wk ?_
          | (refine goesL_b (by rfl) (by rfl) fun b hb => ?_; cases b <;> refine sm ?_)
        · refine within_of (by repeat' first | exact True.intro | exact Of.raw _ | exact Of.emp | exact Of.ptr (has_nil (by rfl)) | exact Of.row (has_nil (by rfl)) | exact Of.yld (has_nil (by rfl)) | exact has_nil (by rfl) | assumption | exact Pure.of (by assumption) | exact Pure.of (pure_lvs _ _) | exact Pure.of (pure_tms _ _) | refine And.intro ?_ ?_ | exact ofC_pure (by assumption) | (refine Of.clo (fun _ ha => nomatch ha) (ofC_pure (by assumption))) | (refine Of.agg (OfC.all ?_)) | (refine Of.clo (fun _ ha => nomatch ha) (OfC.all ?_))) (by repeat' first | exact True.intro | refine And.intro ?_ ?_ | exact has_nil (by rfl)) (by first | exact True.intro | exact Of.raw _ | exact Of.ifc (Of.raw _)) (by repeat' first | exact True.intro | exact Of.raw _ | exact Of.emp | exact Of.ptr (has_nil (by rfl)) | exact Of.row (has_nil (by rfl)) | exact Of.yld (has_nil (by rfl)) | exact has_nil (by rfl) | assumption | exact Pure.of (by assumption) | exact Pure.of (pure_lvs _ _) | exact Pure.of (pure_tms _ _) | refine And.intro ?_ ?_ | exact ofC_pure (by assumption) | (refine Of.agg (OfC.all ?_)) | (refine Of.clo (fun _ ha => nomatch ha) (OfC.all ?_))) ?_
          have hj' : j = K.length := by have := of_decide_eq_false hb; omega
          subst hj'
          refine sm ?_
          repeat' first
            | refine wk ?_
            | (refine goesL_b (by rfl) (by rfl) fun b hb => ?_; cases b <;> refine sm ?_)
          have hz2 : ∀ e ∈ (lv.map g).map eLv, e.cells.length = 1 := fun e he => by
            obtain ⟨p, _, rfl⟩ := List.mem_map.1 he
            rfl
          have hp2 : ∀ e ∈ (lv.map g).map eLv, Pure e := fun e he => by
            obtain ⟨p, _, rfl⟩ := List.mem_map.1 he
            exact pure_lv p
          have hcs2 : (lv.take K.length).map (fun l => lvCell (g l)) ++ List.replicate (K.length - K.length) (AV.raw (.slice none 0 0)) = ((lv.map g).map eLv).flatMap AV.cells := by
            rw [Nat.sub_self, List.replicate_zero, List.append_nil, hlen, List.take_length, lv_cells]
          obtain ⟨k1, k2⟩ := snap_own (h := ⟨1, [], [(0, Blk.cells { ver := 0, elem := 45, sz := 1, imm := 0, cs := (lv.take K.length).map (fun l => lvCell (g l)) ++ List.replicate (K.length - K.length) (.raw (.slice none 0 0)) })]⟩) (r := 0) (n := K.length) (es := (lv.map g).map eLv) rfl hcs2 hz2 hp2 (by simp [hlen])
          exact ⟨rfl, _, rfl, _, [(0, K.length * 1)], _, rfl, k1, k2⟩
        · have hj' : j < K.length := by have := of_decide_eq_true hb; omega
          obtain ⟨l, hlj⟩ : ∃ u, lv[j]? = some u := ⟨_, List.getElem?_eq_getElem (by omega)⟩
          have hKj : K[j]? = some (.agg [lvCell l]) := by rw [← hK, List.getElem?_map, hlj]; rfl
          have hTl := hT l (List.mem_of_getElem? hlj)
          have hle : eLv l = .agg [lvCell l] := rfl
          have hge : eLv (g l) = .agg [lvCell (g l)] := rfl
          rw [hle, hge] at hTl
          refine goesL_index (n := j) (by rfl) (by rfl) (by rfl) (by rfl) (by rfl) (by rfl) (by rfl) hKj ?_
          refine sm ?_
          repeat' first
            | refine wk ?_
            | (refine goesL_b (by rfl) (by rfl) fun b hb => ?_; cases b <;> refine sm ?_)
          refine goesL_call (by rfl) (by rfl) (by rfl) (by rfl) (by rfl) (hTl.gives ?_)
          refine sm ?_
          refine goesL_q (by rfl) (qop_indexR (n := j) (sz := 1) (by rfl) (by rfl) (by rfl) (by rfl) (by rfl) (by rfl) (by rfl) hj' (by rfl)) ?_
          refine sm ?_
          have hlen2 : ((lv.take j).map (fun l => lvCell (g l))).length = j := by simp; omega
          have hrep : List.replicate (K.length - j) (AV.raw (.slice none 0 0)) = [AV.raw (.slice none 0 0)] ++ List.replicate (K.length - (j + 1)) (AV.raw (.slice none 0 0)) := by
            rw [show K.length - j = (K.length - (j + 1)) + 1 by omega, List.replicate_succ]; rfl
          have hset : setsA ((lv.take j).map (fun l => lvCell (g l)) ++ List.replicate (K.length - j) (AV.raw (.slice none 0 0))) (0 + j * 1) (AV.agg [lvCell (g l)]).cells = (lv.take (j + 1)).map (fun l => lvCell (g l)) ++ List.replicate (K.length - (j + 1)) (AV.raw (.slice none 0 0)) := by
            rw [hrep]
            show setsA _ _ [lvCell (g l)] = _
            rw [setsA_mid _ [AV.raw (.slice none 0 0)] _ [lvCell (g l)] _ (by rw [hlen2]; omega) rfl, List.take_add_one, hlj, Option.toList_some, List.map_append, List.append_assoc]
            rfl
          refine goesL_m (by rfl) (mop_storeS 1 hset (by rfl) (by rfl) (by rfl) (by rfl) (by rfl) (by rfl) (by simp; omega) (Nat.zero_le _) (by rfl)) ?_
          refine sm ?_
          repeat' first
            | refine wk ?_
            | (refine goesL_b (by rfl) (by rfl) fun b hb => ?_; cases b <;> refine sm ?_)
          have hcs3 : ∀ a ∈ (lv.take (j + 1)).map (fun l => lvCell (g l)) ++ List.replicate (K.length - (j + 1)) (AV.raw (.slice none 0 0)), Pure a := fun a ha => by
            rcases List.mem_append.1 ha with h1 | h1
            · obtain ⟨l, _, rfl⟩ := List.mem_map.1 h1
              exact pure_parts 2 _
            · rw [List.mem_replicate] at h1; rw [h1.2]; exact .raw _
          refine within_of (by repeat' first | exact True.intro | exact Of.raw _ | exact Of.emp | exact Of.ptr (has_nil (by rfl)) | exact Of.row (has_nil (by rfl)) | exact Of.yld (has_nil (by rfl)) | exact has_nil (by rfl) | assumption | exact Pure.of (by assumption) | exact Pure.of (pure_lvs _ _) | exact Pure.of (pure_tms _ _) | refine And.intro ?_ ?_ | exact ofC_pure (by assumption) | (refine Of.clo (fun _ ha => nomatch ha) (ofC_pure (by assumption))) | (refine Of.agg (OfC.all ?_)) | (refine Of.clo (fun _ ha => nomatch ha) (OfC.all ?_))) (by repeat' first | exact True.intro | refine And.intro ?_ ?_ | exact has_nil (by rfl)) (by first | exact True.intro | exact Of.raw _ | exact Of.ifc (Of.raw _)) (by repeat' first | exact True.intro | exact Of.raw _ | exact Of.emp | exact Of.ptr (has_nil (by rfl)) | exact Of.row (has_nil (by rfl)) | exact Of.yld (has_nil (by rfl)) | exact has_nil (by rfl) | assumption | exact Pure.of (by assumption) | exact Pure.of (pure_lvs _ _) | exact Pure.of (pure_tms _ _) | refine And.intro ?_ ?_ | exact ofC_pure (by assumption) | (refine Of.agg (OfC.all ?_)) | (refine Of.clo (fun _ ha => nomatch ha) (OfC.all ?_))) ?_
          refine ⟨K.length - (j + 1), by omega, j + 1, by omega, rfl, ?_, rfl⟩
          have e2 : IntKind.i64.wrap ((j : Int) + 1) = ((j + 1 : Nat) : Int) := by
            rw [show ((j : Int) + 1) = ((j + 1 : Nat) : Int) from rfl, wrap_nat (by omega)]
          rw [e2]
          rfl
      · show (⟨1, [], [(0, Blk.cells { ver := 0, elem := 45, sz := 1, imm := 0, cs := zerosA (.agg #[.slice none 0 0]) K.length })]⟩ : AH) = _
        have : zerosA (.agg #[.slice none 0 0]) K.length = List.replicate (K.length - 0) (AV.raw (.slice none 0 0)) := zeros_one _ _
        rw [this]
        rfl
    · exact absurd (show K.length = 0 by have : ((K.length : Int) = 0) := by simpa only [beq_iff_eq] using hb
                                         exact Int.ofNat.inj this) (by omega)
end Go.Proofs.YtaoglkkdhdfioaaGreatDoor
