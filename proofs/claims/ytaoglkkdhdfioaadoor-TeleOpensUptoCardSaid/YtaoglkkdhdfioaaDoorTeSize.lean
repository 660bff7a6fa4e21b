/- term.Size. -/
import Derived.Test.YtaoglkkdhdfioaaDoorEvWk
import Derived.Test.YtaoglkkdhdfioaaDoorEvX
import Derived.Test.YtaoglkkdhdfioaaDoorEvW
import Derived.KernelRfl
import Derived.Test.YtaoglkkdhdfioaaDoorProg
namespace Go.Proofs.YtaoglkkdhdfioaaDoor
open Go Go.Proofs
set_option maxRecDepth 100000
set_option maxHeartbeats 1000000
attribute [local go_sem] AH.seals AH.adds news List.nil_append List.cons_append AF.put AF.start Slots.set Slots.ins zipA AH.zero AH.new AH.put AH.sub ofV AV.cells List.length AF.keep AH.cut List.filter_cons List.filter_nil List.contains_cons List.contains_nil Nat.reduceBEq Bool.or_false Bool.or_true Bool.true_or Bool.false_or decide_true decide_false Bool.not_false Bool.and_true Bool.true_and Bool.and_self List.append_nil List.getElem_toArray List.getElem_cons_zero List.getElem_cons_succ Nat.reduceLT Nat.reduceAdd Nat.reduceSub Nat.reduceEqDiff andThen atEnd rounds Tryd.ntmps6
theorem size_tells (t : Tm) : t.size ≤ 1073741824 → Tells Tryd.prog (.func 6) [eTm t] [] (eInt t.size) := by
  induction t using Tm.ind with
  | h k n a lv kids ih =>
  intro hs
  refine tells_raw (fun b hb => ?_) (.raw _) ?_
  · simp at hb; subst hb; exact pure_tm _
  rw [eTm_mk]
  obtain ⟨L, hL⟩ : ∃ L, lv.map eLv = L := ⟨_, rfl⟩
  obtain ⟨K, hK⟩ : ∃ K, kids.map eTm = K := ⟨_, rfl⟩
  rw [hL, hK]
  refine gives_enter Tryd.func6 rfl rfl ?_
  repeat' first
    | refine wk ?_
    | (refine goesL_b (by rfl) (by rfl) fun b hb => ?_; cases b <;> refine sm ?_)
  refine goes_keep [2, 3, 7, 8, 9] ?_
  refine goes_loop (fun m f h => ∃ j : Nat, j ≤ kids.length ∧ m = kids.length - j ∧ f = ⟨⟨19, [(2, eInt 0), (3, eInt ((1 + Tm.sizeL (kids.take j) : Nat) : Int)), (7, .vals 5 K), (8, eInt (K.length : Int)), (9, eInt (j : Int))]⟩, [], none⟩ ∧ h = ⟨1, [], [(0, Blk.cells { ver := 0, elem := 26, sz := 1, imm := 0, cs := [eInt k, eInt n, eInt a, AV.vals 1 L, AV.vals 5 K] })]⟩) ?_ (kids.length) _ _ ⟨0, Nat.zero_le _, rfl, rfl, rfl⟩
  rintro m f h ⟨j, hj, rfl, rfl, rfl⟩
  have hKp : Pure (.vals 5 K) := hK ▸ pure_tms 5 kids
  have hLp : Pure (.vals 1 L) := hL ▸ pure_lvs 1 lv
  have hlen : K.length = kids.length := by rw [← hK]; simp
  refine goes_scope [2, 3, 7, 8, 9] ?_
  repeat' first
    | refine wk ?_
    | (refine goesL_b (by rfl) (by rfl) fun b hb => ?_; cases b <;> refine sm ?_)
  · refine within_of (by repeat' first | exact True.intro | exact Of.raw _ | exact Of.emp | exact Of.ptr (has_nil (by rfl)) | exact Of.row (has_nil (by rfl)) | exact Of.yld (has_nil (by rfl)) | exact has_nil (by rfl) | assumption | exact Pure.of (by assumption) | exact Pure.of (pure_lvs _ _) | exact Pure.of (pure_tms _ _) | refine And.intro ?_ ?_ | exact ofC_pure (by assumption) | (refine Of.clo (fun _ ha => nomatch ha) (ofC_pure (by assumption))) | (refine Of.agg (OfC.all ?_)) | (refine Of.clo (fun _ ha => nomatch ha) (OfC.all ?_))) (by repeat' first | exact True.intro | refine And.intro ?_ ?_ | exact has_nil (by rfl)) (by first | exact True.intro | exact Of.raw _ | exact Of.ifc (Of.raw _)) (by repeat' first | exact True.intro | exact Of.raw _ | exact Of.emp | exact Of.ptr (has_nil (by rfl)) | exact Of.row (has_nil (by rfl)) | exact Of.yld (has_nil (by rfl)) | exact has_nil (by rfl) | assumption | exact Pure.of (by assumption) | exact Pure.of (pure_lvs _ _) | exact Pure.of (pure_tms _ _) | refine And.intro ?_ ?_ | exact ofC_pure (by assumption) | (refine Of.agg (OfC.all ?_)) | (refine Of.clo (fun _ ha => nomatch ha) (OfC.all ?_))) ?_
    have hj' : j = kids.length := by have := of_decide_eq_false hb; omega
    subst hj'
    refine sm ?_
    repeat' first
      | refine wk ?_
      | (refine goesL_b (by rfl) (by rfl) fun b hb => ?_; cases b <;> refine sm ?_)
    refine ⟨rfl, _, rfl, ?_⟩
    rw [List.take_length, Tm.size_mk]
  · have hj' : j < kids.length := by have := of_decide_eq_true hb; omega
    obtain ⟨u, hu⟩ : ∃ u, kids[j]? = some u := ⟨_, List.getElem?_eq_getElem hj'⟩
    have hKu : K[j]? = some (eTm u) := by rw [← hK, List.getElem?_map, hu]; rfl
    have hsu : u.size ≤ 1073741824 := by
      have h1 := Tm.sizeL_take kids j u hu
      have h2 := Tm.sizeL_le kids (j + 1)
      rw [Tm.size_mk] at hs
      omega
    have hT := ih u (List.mem_of_getElem? hu) hsu
    obtain ⟨k1, n1, a1, lv1, kids1⟩ := u
    rw [eTm_mk] at hKu hT
    refine goesL_index (n := j) (by rfl) (by rfl) (by rfl) (by rfl) (by rfl) (by rfl) (by rfl) hKu ?_
    refine sm ?_
    repeat' first
      | refine wk ?_
      | (refine goesL_b (by rfl) (by rfl) fun b hb => ?_; cases b <;> refine sm ?_)
    refine goesL_call (by rfl) (by rfl) (by rfl) (by rfl) (by rfl) (hT.gives ?_)
    refine sm ?_
    repeat' first
      | refine wk ?_
      | (refine goesL_b (by rfl) (by rfl) fun b hb => ?_; cases b <;> refine sm ?_)
    refine within_of (by repeat' first | exact True.intro | exact Of.raw _ | exact Of.emp | exact Of.ptr (has_nil (by rfl)) | exact Of.row (has_nil (by rfl)) | exact Of.yld (has_nil (by rfl)) | exact has_nil (by rfl) | assumption | exact Pure.of (by assumption) | exact Pure.of (pure_lvs _ _) | exact Pure.of (pure_tms _ _) | refine And.intro ?_ ?_ | exact ofC_pure (by assumption) | (refine Of.clo (fun _ ha => nomatch ha) (ofC_pure (by assumption))) | (refine Of.agg (OfC.all ?_)) | (refine Of.clo (fun _ ha => nomatch ha) (OfC.all ?_))) (by repeat' first | exact True.intro | refine And.intro ?_ ?_ | exact has_nil (by rfl)) (by first | exact True.intro | exact Of.raw _ | exact Of.ifc (Of.raw _)) (by repeat' first | exact True.intro | exact Of.raw _ | exact Of.emp | exact Of.ptr (has_nil (by rfl)) | exact Of.row (has_nil (by rfl)) | exact Of.yld (has_nil (by rfl)) | exact has_nil (by rfl) | assumption | exact Pure.of (by assumption) | exact Pure.of (pure_lvs _ _) | exact Pure.of (pure_tms _ _) | refine And.intro ?_ ?_ | exact ofC_pure (by assumption) | (refine Of.agg (OfC.all ?_)) | (refine Of.clo (fun _ ha => nomatch ha) (OfC.all ?_))) ?_
    refine ⟨kids.length - (j + 1), by omega, j + 1, by omega, rfl, ?_, rfl⟩
    have e1 : IntKind.i64.wrap (((1 + Tm.sizeL (kids.take j) : Nat) : Int) + ((Tm.mk k1 n1 a1 lv1 kids1).size : Int)) = ((1 + Tm.sizeL (kids.take (j + 1)) : Nat) : Int) := by
      have h1 := Tm.sizeL_take kids j _ hu
      have h2 := Tm.sizeL_le kids (j + 1)
      rw [Tm.size_mk] at hs
      rw [← Int.natCast_add, wrap_nat (by omega)]
      omega
    have e2 : IntKind.i64.wrap ((j : Int) + 1) = ((j + 1 : Nat) : Int) := by
      have h3 := Tm.sizeL_len kids
      rw [Tm.size_mk] at hs
      rw [show ((j : Int) + 1) = ((j + 1 : Nat) : Int) from rfl, wrap_nat (by omega)]
    rw [e1, e2]
    rfl
end Go.Proofs.YtaoglkkdhdfioaaDoor
