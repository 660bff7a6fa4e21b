/- term.copied: a level of its own memory. -/
import Derived.Test.YtaoglkkdhdfioaaDoorEvWk
import Derived.Test.YtaoglkkdhdfioaaDoorEvX
import Derived.Test.YtaoglkkdhdfioaaDoorEvW
import Derived.KernelRfl
import Derived.Test.YtaoglkkdhdfioaaDoorProg
namespace Go.Proofs.YtaoglkkdhdfioaaDoor
open Go Go.Proofs
set_option maxRecDepth 100000
set_option maxHeartbeats 1000000
attribute [local go_sem] AH.seals AH.adds news List.nil_append List.cons_append AF.put AF.start Slots.set Slots.ins zipA AH.zero AH.new AH.put AH.sub ofV AV.cells List.length AF.keep AH.cut List.filter_cons List.filter_nil List.contains_cons List.contains_nil Nat.reduceBEq Bool.or_false Bool.or_true Bool.true_or Bool.false_or decide_true decide_false Bool.not_false Bool.and_true Bool.true_and Bool.and_self List.append_nil List.getElem_toArray List.getElem_cons_zero List.getElem_cons_succ Nat.reduceLT Nat.reduceAdd Nat.reduceSub Nat.reduceEqDiff andThen atEnd rounds Tryd.ntmps54
theorem copied_tells (ps : List (Int × Int)) (hn : ps.length ≤ 1048576) : Tells Tryd.prog (.func 54) [eLv ps] [] (eLv ps) := by
  refine tells_of (fun b hb => ?_) (pure_lv ps) ?_
  · simp at hb; subst hb; exact pure_lv ps
  have hKp : Pure (.vals 2 (ps.map ePart)) := pure_parts 2 ps
  unfold eLv
  by_cases h0 : ps = []
  · subst h0
    refine gives_enter Tryd.func54 rfl rfl ?_
    repeat' first
      | refine wk ?_
      | (refine goesL_b (by rfl) (by rfl) fun b hb => ?_; cases b <;> refine sm ?_)
    refine ⟨rfl, _, rfl, _, [], _, rfl, .agg (.none .nil) .nil, fun p hp => (by cases hp)⟩
  · obtain ⟨K, hK⟩ : ∃ K, ps.map ePart = K := ⟨_, rfl⟩
    have hlen : K.length = ps.length := by rw [← hK]; simp
    have hpos : 0 < ps.length := List.length_pos_iff.2 h0
    have hone : ∀ e ∈ K, ∀ a ∈ e.cells, a.one = true := fun e he a ha => by
      rw [← hK] at he
      obtain ⟨p, _, rfl⟩ := List.mem_map.1 he
      simp [ePart, AV.cells] at ha
      rcases ha with rfl | rfl <;> rfl
    rw [hK] at hKp ⊢
    refine gives_enter Tryd.func54 rfl rfl ?_
    repeat' first
      | refine wk ?_
      | (refine goesL_b (by rfl) (by rfl) fun b hb => ?_; cases b <;> refine sm ?_)
    refine goesL_n (by rfl) (nop_append (es := K) (by rfl) (by rfl) (by rfl) (by rfl) (by rfl) (by rfl) (by rfl) (by rfl) (by rfl) (by decide) (by rfl) (by rfl) (by omega) (by unfold tops; omega) hone) ?_
    refine sm ?_
    repeat' first
      | refine wk ?_
      | (refine goesL_b (by rfl) (by rfl) fun b hb => ?_; cases b <;> refine sm ?_)
    have hz2 : ∀ e ∈ K, e.cells.length = 2 := fun e he => by
      rw [← hK] at he
      obtain ⟨p, _, rfl⟩ := List.mem_map.1 he
      rfl
    have hp2 : ∀ e ∈ K, Pure e := fun e he => by
      rw [← hK] at he
      obtain ⟨p, _, rfl⟩ := List.mem_map.1 he
      exact pure_part p
    obtain ⟨k1, k2⟩ := snap_own (h := ⟨3, [], [(2, Blk.cells { ver := 0, elem := 96, sz := 2, imm := 0, cs := K.flatMap AV.cells }), (1, Blk.cells { ver := 0, elem := 87, sz := 1, imm := 0, cs := [.row 2 0 0 K.length] }), (0, Blk.cells { ver := 0, elem := 87, sz := 1, imm := 0, cs := [AV.vals 2 K] })]⟩) (r := 2) (es := K) rfl rfl hz2 hp2 rfl
    refine ⟨rfl, _, rfl, _, [(2, K.length * 2)], _, rfl, .agg k1 .nil, ?_⟩
    intro p hp
    exact k2 p (by simpa using hp)
end Go.Proofs.YtaoglkkdhdfioaaDoor
