/- The law's own words: same, rows, great, clean. -/
import Derived.Test.YtaoglkkdhdfioaaGreatDoorEvWk
import Derived.Test.YtaoglkkdhdfioaaGreatDoorTeLifts
import Derived.Test.YtaoglkkdhdfioaaGreatDoorTeOf
import Derived.Test.YtaoglkkdhdfioaaGreatDoorTeSame
import Derived.KernelRfl
import Derived.Test.YtaoglkkdhdfioaaGreatDoorProg
namespace Go.Proofs.YtaoglkkdhdfioaaGreatDoor
open Go Go.Proofs
set_option maxRecDepth 100000
set_option maxHeartbeats 2000000
attribute [local go_sem] AH.seals AH.adds news List.nil_append List.cons_append AF.put AF.start Slots.set Slots.ins zipA AH.zero AH.new AH.put AH.sub ofV AV.cells List.length AF.keep AH.cut List.filter_cons List.filter_nil List.contains_cons List.contains_nil Nat.reduceBEq Bool.or_false Bool.or_true Bool.true_or Bool.false_or decide_true decide_false Bool.not_false Bool.and_true Bool.true_and Bool.and_self List.append_nil List.getElem_toArray List.getElem_cons_zero List.getElem_cons_succ Nat.reduceLT Nat.reduceAdd Nat.reduceSub Nat.reduceEqDiff andThen atEnd rounds Tryz.ntmps30 Tryz.ntmps23
theorem same_tells (t u : Tm) (h : t.count ≤ 1048576) : Tells Tryz.prog (.func 30) [eTm t, eTm u] [] (eBool (t.same u)) := by
  have hT := sameterm t h u
  generalize t.same u = b at hT ⊢
  refine tells_raw (fun b hb => ?_) (.raw _) ?_
  · simp at hb; rcases hb with rfl | rfl <;> exact pure_tm _
  rw [eTm_agg t, eTm_agg u] at hT ⊢
  obtain ⟨k, n, a, lv, kids⟩ := t
  obtain ⟨k1, n1, a1, lv1, kids1⟩ := u
  refine gives_enter Tryz.func30 rfl rfl ?_
  repeat' first
    | refine wk ?_
    | (refine goesL_b (by rfl) (by rfl) fun b hb => ?_; cases b <;> refine sm ?_)
  refine goesL_tells hT (by rfl) (by rfl) (by rfl) (by rfl) (by rfl) (by rfl) ?_
  refine sm ?_
  repeat' first
    | refine wk ?_
    | (refine goesL_b (by rfl) (by rfl) fun b hb => ?_; cases b <;> refine sm ?_)
  all_goals (refine ⟨rfl, _, rfl, ?_⟩; rw [hb])
theorem rows_tells (xs ys : List Tm) (h : ∀ x ∈ xs, x.count ≤ 1048576) (hn : small xs.length) : Tells Tryz.prog (.func 23) [.vals 5 (xs.map eTm), .vals 5 (ys.map eTm)] [] (eBool (sameL Tm.same xs ys)) := by
  have hT := sameterms_row Tm.same xs ys hn fun x hx y _ => sameterm x (h x hx) y
  generalize sameL Tm.same xs ys = b at hT ⊢
  refine tells_raw (fun b hb => ?_) (.raw _) ?_
  · simp at hb; rcases hb with rfl | rfl <;> exact pure_tms 5 _
  generalize xs.map eTm = X at hT ⊢
  generalize ys.map eTm = Y at hT ⊢
  refine gives_enter Tryz.func23 rfl rfl ?_
  repeat' first
    | refine wk ?_
    | (refine goesL_b (by rfl) (by rfl) fun b hb => ?_; cases b <;> refine sm ?_)
  refine goesL_tells hT (by rfl) (by rfl) (by rfl) (by rfl) (by rfl) (by rfl) ?_
  refine sm ?_
  repeat' first
    | refine wk ?_
    | (refine goesL_b (by rfl) (by rfl) fun b hb => ?_; cases b <;> refine sm ?_)
  all_goals (refine ⟨rfl, _, rfl, ?_⟩; rw [hb])
/-- a call whose first argument is a row of ours -/
theorem gives_first {P : Program} {fn : Fn} {post : List AV} {z : AV} {h : AH} {r n : Nat} {c : Cells} {es : List AV} {R : Res → AH → Prop} (hg : h.get r = some (.cells c)) (hcs : c.cs = es.flatMap AV.cells) (hz : ∀ e ∈ es, e.cells.length = c.sz) (hp : ∀ e ∈ es, Pure e) (hn : es.length = n) (hpost : ∀ a ∈ post, Pure a)
    (hT : Tells P fn (.vals c.sz es :: post) [] z) (hR : R (.ret z) (h.seals [(r, n * c.sz)])) : Gives P fn (.row r c.ver 0 n :: post) [] h R := by
  have hs := snap_own hg hcs hz hp hn
  refine gives_seal (l := [(r, 0 + n * c.sz)]) [(r, n * c.sz)] hT ?_ rfl hs.2 hR
  rw [List.append_nil, List.append_nil]
  exact snap_then (A := post) (C := post) hs.1 (snap_pure hpost)
end Go.Proofs.YtaoglkkdhdfioaaGreatDoor
