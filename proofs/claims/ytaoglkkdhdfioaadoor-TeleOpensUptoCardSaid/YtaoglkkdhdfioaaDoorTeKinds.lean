/- term's known, Binds, below, means. -/
import Derived.Test.YtaoglkkdhdfioaaDoorEvWk
import Derived.Test.YtaoglkkdhdfioaaDoorEvX
import Derived.Test.YtaoglkkdhdfioaaDoorTeWalk
import Derived.KernelRfl
import Derived.Test.YtaoglkkdhdfioaaDoorProg
namespace Go.Proofs.YtaoglkkdhdfioaaDoor
open Go Go.Proofs
set_option maxRecDepth 100000
set_option maxHeartbeats 1000000
attribute [local go_sem] AH.seals AH.adds news List.nil_append List.cons_append AF.put AF.start Slots.set Slots.ins zipA AH.zero AH.new AH.put AH.sub ofV AV.cells List.length AF.keep AH.cut List.filter_cons List.filter_nil List.contains_cons List.contains_nil Nat.reduceBEq Bool.or_false Bool.or_true Bool.true_or Bool.false_or decide_true decide_false Bool.not_false Bool.and_true Bool.true_and Bool.and_self List.append_nil List.getElem_toArray List.getElem_cons_zero List.getElem_cons_succ Nat.reduceLT Nat.reduceAdd Nat.reduceSub Nat.reduceEqDiff andThen atEnd rounds Tryd.ntmps59 Tryd.ntmps58 Tryd.ntmps55 Tryd.ntmps38
theorem known (k : Int) : Tells Tryd.prog (.func 59) [eInt k] [] (eBool (decide (1 ≤ k) && decide (k ≤ 24))) := by
  refine tells_raw (fun b hb => ?_) (.raw _) ?_
  · simp at hb; subst hb; exact .raw _
  refine gives_enter Tryd.func59 rfl rfl ?_
  repeat' first
    | refine wk ?_
    | (refine goesL_b (by rfl) (by rfl) fun b hb => ?_; cases b <;> refine sm ?_)
  all_goals (refine ⟨rfl, _, rfl, ?_⟩; simp_all <;> omega)


theorem binds_tells (k : Int) (i : Nat) (hi : i ≤ 1048576) : Tells Tryd.prog (.func 58) [eInt k, eInt (i : Int)] [] (eBool (binds k i)) := by
  have hT := known k
  obtain ⟨b, hb⟩ : ∃ b, (decide (1 ≤ k) && decide (k ≤ 24)) = b := ⟨_, rfl⟩
  rw [hb] at hT
  refine tells_raw (fun b hb => ?_) (.raw _) ?_
  · simp at hb; rcases hb with rfl | rfl <;> exact .raw _
  refine gives_enter Tryd.func58 rfl rfl ?_
  repeat' first
    | refine wk ?_
    | (refine goesL_b (by rfl) (by rfl) fun b hb => ?_; cases b <;> refine sm ?_)
  refine goesL_tells hT (by rfl) (by rfl) (by rfl) (by rfl) (by rfl) (by rfl) ?_
  refine sm ?_
  cases b
  · repeat' first
      | refine wk ?_
      | (refine goesL_b (by rfl) (by rfl) fun b hb => ?_; cases b <;> refine sm ?_)
    all_goals (refine ⟨rfl, _, rfl, ?_⟩; simp only [binds, hb, Bool.false_and])
  · repeat' first
      | refine wk ?_
      | (refine goesL_b (by rfl) (by rfl) fun b hb => ?_; cases b <;> refine sm ?_)
    have hk : 1 ≤ k ∧ k ≤ 24 := by simpa using hb
    refine goesL_q (by rfl) (qop_indexA (n := k) (by rfl) (by rfl) (by rfl) (by rfl) (by rfl) (by rfl) (by omega) (by show k < ((25 : Nat) : Int); omega)) ?_
    refine sm ?_
    refine goesL_q (by rfl) (by rfl) ?_
    refine sm ?_
    refine goesL_q (by rfl) (qop_load1 (b := eInt (kindRow k.toNat).2.2.2.2) (by rfl) (by rfl) (by rfl) (by rfl) ?_ rfl) ?_
    · rw [List.drop_drop, List.getElem?_drop, Nat.add_zero]
      exact kind_cell k.toNat 4 _ (by omega) rfl
    refine sm ?_
    repeat' first
      | refine wk ?_
      | (refine goesL_b (by rfl) (by rfl) fun b hb => ?_; cases b <;> refine sm ?_)
    all_goals
      have e2 : IntKind.i64.wrap ((i : Int) + 1) = (i : Int) + 1 := by
        rw [show ((i : Int) + 1) = ((i + 1 : Nat) : Int) from rfl, wrap_nat (by omega)]
      rw [e2] at hb
      refine ⟨rfl, _, rfl, ?_⟩
      have : binds k i = ((kindRow k.toNat).2.2.2.2 == (i : Int) + 1) := by
        have h1 : decide (1 ≤ k) = true := decide_eq_true hk.1
        have h2 : decide (k ≤ 24) = true := decide_eq_true hk.2
        simp only [binds, h1, h2, Bool.true_and]
        rfl
      rw [this, hb]

theorem below_tells (d : Nat) (k : Int) (i : Nat) (hd : d ≤ 1073741824) (hi : i ≤ 1048576) : Tells Tryd.prog (.func 55) [.agg [eInt (d : Int)], eInt k, eInt (i : Int)] [] (.agg [eInt ((d + under k i : Nat) : Int)]) := by
  have hT := binds_tells k i hi
  obtain ⟨b, hb⟩ : ∃ b, binds k i = b := ⟨_, rfl⟩
  rw [hb] at hT
  refine tells_raw (fun b hb => ?_) (.agg fun a ha => ?_) ?_
  · simp at hb
    rcases hb with rfl | rfl | rfl
    · exact .agg fun a ha => by simp at ha; subst ha; exact .raw _
    · exact .raw _
    · exact .raw _
  · simp at ha; subst ha; exact .raw _
  refine gives_enter Tryd.func55 rfl rfl ?_
  repeat' first
    | refine wk ?_
    | (refine goesL_b (by rfl) (by rfl) fun b hb => ?_; cases b <;> refine sm ?_)
  refine goesL_tells hT (by rfl) (by rfl) (by rfl) (by rfl) (by rfl) (by rfl) ?_
  refine sm ?_
  cases b
  · repeat' first
      | refine wk ?_
      | (refine goesL_b (by rfl) (by rfl) fun b hb => ?_; cases b <;> refine sm ?_)
    refine ⟨rfl, _, rfl, ?_⟩
    simp only [under, hb]
    rfl
  · repeat' first
      | refine wk ?_
      | (refine goesL_b (by rfl) (by rfl) fun b hb => ?_; cases b <;> refine sm ?_)
    refine ⟨rfl, _, rfl, ?_⟩
    have e2 : IntKind.i64.wrap ((d : Int) + 1) = ((d + 1 : Nat) : Int) := by
      rw [show ((d : Int) + 1) = ((d + 1 : Nat) : Int) from rfl, wrap_nat (by omega)]
    simp only [under, hb, if_true]
    rw [← e2]
    rfl
theorem means_tells (d : Nat) (n : Int) : Tells Tryd.prog (.func 38) [.agg [eInt (d : Int)], eInt n] [] (if n < d then .tup [eInt 0, eBool false] else .tup [eInt (IntKind.i64.wrap (n - d)), eBool true]) := by
  refine tells_raw (fun b hb => ?_) ?_ ?_
  · simp at hb
    rcases hb with rfl | rfl
    · exact .agg fun a ha => by simp at ha; subst ha; exact .raw _
    · exact .raw _
  · split <;> exact .tup fun a ha => by simp at ha; rcases ha with rfl | rfl <;> exact .raw _
  refine gives_enter Tryd.func38 rfl rfl ?_
  repeat' first
    | refine wk ?_
    | (refine goesL_b (by rfl) (by rfl) fun b hb => ?_; cases b <;> refine sm ?_)
  all_goals (refine ⟨rfl, _, rfl, ?_⟩; simp_all)
end Go.Proofs.YtaoglkkdhdfioaaDoor
