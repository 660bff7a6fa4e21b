/- The chapter's examples are told as the statements say: awake is true. -/
import Derived.Test.YtafgmndlbbjphaaDoorLvSucc
import Derived.Test.YtafgmndlbbjphaaDoorLvOf
namespace Go.Proofs.YtafgmndlbbjphaaDoor
open Go.RowKit Go.Maps

/-- A level in memory, as a value. -/
def Lv (w : World) (ps : List (Int × Int)) (v : Value) : Prop := ∃ A c, v = .agg #[.slice A ps.length c] ∧ Lev w w.heap.size A ps ∧ (A = none → c = 0)
theorem Lv.below {w w' : World} {ps : List (Int × Int)} {v : Value} (h : Lv w ps v) (hb : Below w.heap.size w w') : Lv w' ps v := by
  obtain ⟨A, c, e, hl, hc⟩ := h
  exact ⟨A, c, e, (hl.below hb).more hb.size, hc⟩
def LvP (w : World) (ps : List (Int × Int)) (e : Ending) (w' : World) : Prop := ∃ A c, e = .returned (.agg #[.slice A ps.length c]) ∧ Lev w' w'.heap.size A ps ∧ (A = none → c = 0) ∧ Below w.heap.size w w'
theorem LvlPost.lv {w w0 : World} {ps : List (Int × Int)} {e : Ending} {w' : World} (h : LvlPost w ps e w') (hb : Below w0.heap.size w0 w) : LvP w0 ps e w' := by
  obtain ⟨v, rfl, hrow, hb1⟩ := h
  obtain ⟨A, n, c, rfl⟩ := own_slice hrow
  obtain ⟨rfl, hl, hc⟩ := own_lev hrow
  exact ⟨A, c, rfl, hl, hc, hb.trans (hb1.mono hb.size)⟩

theorem ints_lit (w : World) (ns : List Int) (cs : Array Value) (hcs : cs = (ns.map (Value.int .i64)).toArray) (t : TypeId) : Ints (w.alloc (.cells cs t)) (w.alloc (.cells cs t)).heap.size (some ⟨w.heap.size, 0, none⟩) ns := fun hn =>
  ⟨_, _, rfl, by simp, fun j hj => by
    subst hcs
    rw [cell_of_row _ _ _ _ _ (0, 0) (heap_alloc_new w _)]
    simp [List.getD_eq_getElem?_getD, List.getElem?_eq_getElem hj]⟩

def leqB (pa pb : List (Int × Int)) : Bool := (nf pa).all fun p => (nf pb).any fun q => decide (Cov p q)
theorem leqS_iff {pa pb : List (Int × Int)} (ha : ∀ p ∈ pa, 0 ≤ p.1) (hb : ∀ p ∈ pb, 0 ≤ p.1) : LeqS pa pb ↔ leqB pa pb = true := by
  unfold LeqS leqB
  rw [List.all_eq_true]
  constructor
  · intro h p hp
    obtain ⟨q, hq, hc⟩ := h p (((nf_level ha).2 p).1 hp)
    rw [List.any_eq_true]
    exact ⟨q, ((nf_level hb).2 q).2 hq, decide_eq_true hc⟩
  · intro h p hp
    obtain ⟨q, hq, hc⟩ := List.any_eq_true.1 (h p (((nf_level ha).2 p).2 hp))
    exact ⟨q, ((nf_level hb).2 q).1 hq, of_decide_eq_true hc⟩
instance (p : Int × Int) : Decidable (okPart p) := by unfold okPart; exact inferInstance

theorem levs_two {w : World} {p q : List (Int × Int)} {A B : Option Addr} {c d : Nat} (hp : Lev w w.heap.size A p) (hcp : A = none → c = 0) (hq : Lev w w.heap.size B q) (hcq : B = none → d = 0) (hp6 : p.length ≤ 4611686018427387904) (hq6 : q.length ≤ 4611686018427387904) (t : TypeId) :
    Levs (w.alloc (.cells #[.slice A p.length c, .slice B q.length d] t)) (w.alloc (.cells #[.slice A p.length c, .slice B q.length d] t)).heap.size (some ⟨w.heap.size, 0, none⟩) [p, q] := fun _ => by
  have hb := (Below.refl w.heap.size w).alloc (Nat.le_refl _) (.cells #[.slice A p.length c, .slice B q.length d] t)
  have hh := two_new w (.slice A p.length c) (.slice B q.length d) t
  refine ⟨_, _, rfl, by simp, fun i hi => ?_⟩
  match i, hi with
  | 0, _ => exact ⟨A, c, hh 0 _ rfl, (hp.below hb).more (by simp), hcp, hp6⟩
  | 1, _ => exact ⟨B, d, hh 1 _ rfl, (hq.below hb).more (by simp), hcq, hq6⟩

def AwakePost (w : World) (e : Ending) (w' : World) : Prop := e = .returned (.bool true) ∧ Below w.heap.size w w'
theorem leq_lit (pa pb : List (Int × Int)) (A A' : Option Addr) (n n' c c' : Nat) (w : World) (hn : n = pa.length) (hn' : n' = pb.length) (ha : Lev w w.heap.size A pa) (hca : A = none → c = 0) (hb : Lev w w.heap.size A' pb) (hcb : A' = none → c' = 0) (r : Bool)
    (hma : Few pa.length ∧ Few pb.length) (hoa : (∀ p ∈ pa, okPart p) ∧ (∀ p ∈ pb, okPart p)) (hr : leqB pa pb = r) :
    Calls Tryd.prog 40 #[.agg #[.slice A n c], .agg #[.slice A' n' c']] w (HasPost w r) := by
  subst hn hn'
  exact leq_any A A' pa pb c c' w hma.1 hma.2 ha hb hca hcb hoa.1 hoa.2 r (by rw [leqS_iff (fun p hp => (hoa.1 p hp).1) (fun p hp => (hoa.2 p hp).1), hr])

theorem lsame_lit (pa pb : List (Int × Int)) (A A' : Option Addr) (n n' c c' : Nat) (w : World) (hn : n = pa.length) (hn' : n' = pb.length) (ha : Lev w w.heap.size A pa) (hca : A = none → c = 0) (hb : Lev w w.heap.size A' pb) (hcb : A' = none → c' = 0) (r : Bool)
    (hma : Few pa.length ∧ Few pb.length) (hoa : (∀ p ∈ pa, okPart p) ∧ (∀ p ∈ pb, okPart p)) (hr : (decide (pa = pb) || (leqB pa pb && leqB pb pa)) = r) :
    Calls Tryd.prog 28 #[.agg #[.slice A n c], .agg #[.slice A' n' c']] w (HasPost w r) := by
  subst hn hn'
  refine lsame_any A A' pa pb c c' w hma.1 hma.2 ha hb hca hcb hoa.1 hoa.2 r ?_
  have h1 : ∀ p ∈ pa, 0 ≤ p.1 := fun p hp => (hoa.1 p hp).1
  have h2 : ∀ p ∈ pb, 0 ≤ p.1 := fun p hp => (hoa.2 p hp).1
  unfold SameS
  rw [leqS_iff h1 h2, leqS_iff h2 h1, ← hr]
  simp



end Go.Proofs.YtafgmndlbbjphaaDoor
