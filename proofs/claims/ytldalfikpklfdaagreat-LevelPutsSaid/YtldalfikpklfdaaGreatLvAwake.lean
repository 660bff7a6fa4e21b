/- The chapter's examples are told as the statements say: awake is true. -/
import Derived.Test.YtldalfikpklfdaaGreatLvSucc
import Derived.Test.YtldalfikpklfdaaGreatLvOf
namespace Go.Proofs.YtldalfikpklfdaaGreat
open Go.RowKit Go.Maps

/-- A level in memory, as a value. -/
def Lv (w : World) (ps : List (Int × Int)) (v : Value) : Prop := ∃ A c, v = .agg #[.slice A ps.length c] ∧ Lev w w.heap.size A ps ∧ (A = none → c = 0)
theorem Lv.below {w w' : World} {ps : List (Int × Int)} {v : Value} (h : Lv w ps v) (hb : Below w.heap.size w w') : Lv w' ps v := by
  obtain ⟨A, c, e, hl, hc⟩ := h
  exact ⟨A, c, e, (hl.below hb).more hb.size, hc⟩
def LvP (w : World) (ps : List (Int × Int)) (e : Ending) (w' : World) : Prop := ∃ A c, e = .returned (.agg #[.slice A ps.length c]) ∧ Lev w' w'.heap.size A ps ∧ (A = none → c = 0) ∧ Below w.heap.size w w'
theorem LvlPost.lv {w w0 : World} {ps : List (Int × Int)} {e : Ending} {w' : World} (h : LvlPost w ps e w') (hb : Below w0.heap.size w0 w) : LvP w0 ps e w' := by
  obtain ⟨v, rfl, hrow, hb1⟩ := h
  obtain ⟨A, n, c, rfl⟩ := own_slice hrow
  obtain ⟨rfl, hl, hc⟩ := own_lev hrow
  exact ⟨A, c, rfl, hl, hc, hb.trans (hb1.mono hb.size)⟩

theorem ints_lit (w : World) (ns : List Int) (cs : Array Value) (hcs : cs = (ns.map (Value.int .i64)).toArray) (t : TypeId) : Ints (w.alloc (.cells cs t)) (w.alloc (.cells cs t)).heap.size (some ⟨w.heap.size, 0, none⟩) ns := fun hn =>
  ⟨_, _, rfl, by simp, fun j hj => by
    subst hcs
    rw [cell_of_row _ _ _ _ _ (0, 0) (heap_alloc_new w _)]
    simp [List.getD_eq_getElem?_getD, List.getElem?_eq_getElem hj]⟩
theorem of_lit (w : World) (ns : List Int) (ps : List (Int × Int)) (cs : Array Value) (hcs : cs = (ns.map (Value.int .i64)).toArray) (hps : pairsOf ns = ps) (hf : Few ns.length) (n : Nat) (hn : n = ns.length) (t : TypeId) :
    Calls Tryz.prog 25 #[.slice (some ⟨w.heap.size, 0, none⟩) n n] (w.alloc (.cells cs t)) (LvP w ps) := by
  subst hn hps
  exact (of_any _ ns _ _ hf (ints_lit w ns cs hcs t)).mono fun _ _ h => h.lv ((Below.refl _ _).alloc (Nat.le_refl _) _)
theorem of_none (w : World) : Calls Tryz.prog 25 #[.slice none 0 0] w (LvP w []) :=
  (of_any none [] 0 w (by unfold Few; simp) (fun h => by simp at h)).mono fun _ _ h => h.lv (Below.refl _ _)

def leqB (pa pb : List (Int × Int)) : Bool := (nf pa).all fun p => (nf pb).any fun q => decide (Cov p q)
theorem leqS_iff {pa pb : List (Int × Int)} (ha : ∀ p ∈ pa, 0 ≤ p.1) (hb : ∀ p ∈ pb, 0 ≤ p.1) : LeqS pa pb ↔ leqB pa pb = true := by
  unfold LeqS leqB
  rw [List.all_eq_true]
  constructor
  · intro h p hp
    obtain ⟨q, hq, hc⟩ := h p (((nf_level ha).2 p).1 hp)
    rw [List.any_eq_true]
    exact ⟨q, ((nf_level hb).2 q).2 hq, decide_eq_true hc⟩
  · intro h p hp
    obtain ⟨q, hq, hc⟩ := List.any_eq_true.1 (h p (((nf_level ha).2 p).2 hp))
    exact ⟨q, ((nf_level hb).2 q).1 hq, of_decide_eq_true hc⟩
instance (p : Int × Int) : Decidable (okPart p) := by unfold okPart; exact inferInstance

theorem levs_two {w : World} {p q : List (Int × Int)} {A B : Option Addr} {c d : Nat} (hp : Lev w w.heap.size A p) (hcp : A = none → c = 0) (hq : Lev w w.heap.size B q) (hcq : B = none → d = 0) (hp6 : p.length ≤ 4611686018427387904) (hq6 : q.length ≤ 4611686018427387904) (t : TypeId) :
    Levs (w.alloc (.cells #[.slice A p.length c, .slice B q.length d] t)) (w.alloc (.cells #[.slice A p.length c, .slice B q.length d] t)).heap.size (some ⟨w.heap.size, 0, none⟩) [p, q] := fun _ => by
  have hb := (Below.refl w.heap.size w).alloc (Nat.le_refl _) (.cells #[.slice A p.length c, .slice B q.length d] t)
  have hh := two_new w (.slice A p.length c) (.slice B q.length d) t
  refine ⟨_, _, rfl, by simp, fun i hi => ?_⟩
  match i, hi with
  | 0, _ => exact ⟨A, c, hh 0 _ rfl, (hp.below hb).more (by simp), hcp, hp6⟩
  | 1, _ => exact ⟨B, d, hh 1 _ rfl, (hq.below hb).more (by simp), hcq, hq6⟩

def AwakePost (w : World) (e : Ending) (w' : World) : Prop := e = .returned (.bool true) ∧ Below w.heap.size w w'
theorem leq_lit (pa pb : List (Int × Int)) (A A' : Option Addr) (n n' c c' : Nat) (w : World) (hn : n = pa.length) (hn' : n' = pb.length) (ha : Lev w w.heap.size A pa) (hca : A = none → c = 0) (hb : Lev w w.heap.size A' pb) (hcb : A' = none → c' = 0) (r : Bool)
    (hma : Few pa.length ∧ Few pb.length) (hoa : (∀ p ∈ pa, okPart p) ∧ (∀ p ∈ pb, okPart p)) (hr : leqB pa pb = r) :
    Calls Tryz.prog 26 #[.agg #[.slice A n c], .agg #[.slice A' n' c']] w (HasPost w r) := by
  subst hn hn'
  exact leq_any A A' pa pb c c' w hma.1 hma.2 ha hb hca hcb hoa.1 hoa.2 r (by rw [leqS_iff (fun p hp => (hoa.1 p hp).1) (fun p hp => (hoa.2 p hp).1), hr])

theorem same_lit (pa pb : List (Int × Int)) (A A' : Option Addr) (n n' c c' : Nat) (w : World) (hn : n = pa.length) (hn' : n' = pb.length) (ha : Lev w w.heap.size A pa) (hb : Lev w w.heap.size A' pb) (r : Bool)
    (hma : Few pa.length ∧ Few pb.length) (hr : decide (pa = pb) = r) :
    Calls Tryz.prog 16 #[.agg #[.slice A n c], .agg #[.slice A' n' c']] w (HasPost w r) := by
  subst hn hn'
  exact same_any A A' pa pb c c' w (by have := hma.1; unfold Few at this; unfold maxLen; omega) (by have := hma.2; unfold Few at this; unfold maxLen; omega) ha hb r (by rw [← hr]; simp)
theorem lsame_lit (pa pb : List (Int × Int)) (A A' : Option Addr) (n n' c c' : Nat) (w : World) (hn : n = pa.length) (hn' : n' = pb.length) (ha : Lev w w.heap.size A pa) (hca : A = none → c = 0) (hb : Lev w w.heap.size A' pb) (hcb : A' = none → c' = 0) (r : Bool)
    (hma : Few pa.length ∧ Few pb.length) (hoa : (∀ p ∈ pa, okPart p) ∧ (∀ p ∈ pb, okPart p)) (hr : (decide (pa = pb) || (leqB pa pb && leqB pb pa)) = r) :
    Calls Tryz.prog 27 #[.agg #[.slice A n c], .agg #[.slice A' n' c']] w (HasPost w r) := by
  subst hn hn'
  refine lsame_any A A' pa pb c c' w hma.1 hma.2 ha hb hca hcb hoa.1 hoa.2 r ?_
  have h1 : ∀ p ∈ pa, 0 ≤ p.1 := fun p hp => (hoa.1 p hp).1
  have h2 : ∀ p ∈ pb, 0 ≤ p.1 := fun p hp => (hoa.2 p hp).1
  unfold SameS
  rw [leqS_iff h1 h2, leqS_iff h2 h1, ← hr]
  simp
theorem succ_lit (ps qs : List (Int × Int)) (A : Option Addr) (n c : Nat) (w : World) (hn : n = ps.length) (h : Lev w w.heap.size A ps) (hc : A = none → c = 0) (hm : Few ps.length) (hok : ∀ p ∈ ps, okPart p ∧ p.2 < 1048576) (hq : succS ps = qs) :
    Calls Tryz.prog 9 #[.agg #[.slice A n c]] w (LvP w qs) := by
  subst hn hq
  exact (succ_any A ps c w hm h hc hok).mono fun _ _ h => h.lv (Below.refl _ _)
theorem var_lit (n : Int) (qs : List (Int × Int)) (w : World) (hn : 0 ≤ n ∧ n ≤ 1048576) (hq : nf [(n, 0)] = qs) : Calls Tryz.prog 23 #[.int .i64 n] w (LvP w qs) := by
  subst hq
  exact (var_any n w hn).mono fun _ _ h => h.lv (Below.refl _ _)
theorem num_lit (n : Int) (qs : List (Int × Int)) (w : World) (hn : 0 ≤ n ∧ n ≤ 1048576) (hq : nf [(0, n)] = qs) : Calls Tryz.prog 24 #[.int .i64 n] w (LvP w qs) := by
  subst hq
  exact (num_any n w hn).mono fun _ _ h => h.lv (Below.refl _ _)

theorem max_lit (p q r : List (Int × Int)) (A B : Option Addr) (n n' c d : Nat) (w : World) (t : TypeId) (hn : n = p.length) (hn' : n' = q.length) (hp : Lev w w.heap.size A p) (hcp : A = none → c = 0) (hq : Lev w w.heap.size B q) (hcq : B = none → d = 0)
    (h6 : p.length ≤ 4611686018427387904 ∧ q.length ≤ 4611686018427387904) (hf : Few (flat [p, q]).length) (hok : ∀ x ∈ flat [p, q], okPart x) (hr : nf (flat [p, q]) = r) :
    Calls Tryz.prog 15 #[.slice (some ⟨w.heap.size, 0, none⟩) 2 2] (w.alloc (.cells #[.slice A n c, .slice B n' d] t)) (LvP w r) := by
  subst hn hn' hr
  exact (max_any (some ⟨w.heap.size, 0, none⟩) [p, q] 2 _ (by unfold maxLen; simp) hf (levs_two hp hcp hq hcq h6.1 h6.2 _) hok).mono fun _ _ h => h.lv ((Below.refl _ _).alloc (Nat.le_refl _) _)

set_option maxRecDepth 100000 in
set_option maxHeartbeats 4000000 in
theorem awake_any (w : World) : Calls Tryz.prog 6 #[] w (AwakePost w) := by
  have hfd := field_parts
  go_enter Tryz.func6, Tryz.ntmps6
  go_wp2_with (fail)
  refine (var_lit 1 [(1, 0)] w (by omega) (by decide)).mono ?_
  rintro e w1 ⟨A1, c1, rfl, hl, hc, hb⟩
  have L1 := Lib.hid hl
  have C1 := Lib.hid hc
  have hz1 : w.heap.size ≤ w1.heap.size := hb.size
  have B1 : Hid (Below w.heap.size w w1) := hb
  clear hb hl hc 
  go_wp2_with (fail)
  refine (num_lit 3 [(0, 3)] w1 (by omega) (by decide)).mono ?_
  rintro e w2 ⟨A2, c2, rfl, hl, hc, hb⟩
  have L2 := Lib.hid hl
  have C2 := Lib.hid hc
  have hz2 : w.heap.size ≤ w2.heap.size := Nat.le_trans hz1 hb.size
  have B2 : Hid (Below w.heap.size w w2) := B1.out.trans (hb.mono hz1)
  have M1 := Lib.hid ((L1.out.below hb).more hb.size)
  clear L1
  have L1 := M1
  clear M1
  clear hb hl hc B1 hz1
  have hmx : Hid (Calls Tryz.prog 15 #[.slice (some ⟨w2.heap.size, 0, none⟩) 2 2] (w2.alloc (.cells #[.slice A1 1 c1, .slice A2 1 c2] 24)) (LvP w2 [(0, 3), (1, 0)])) := max_lit [(1, 0)] [(0, 3)] [(0, 3), (1, 0)] A1 A2 1 1 c1 c2 w2 _ rfl rfl L1.out C1.out L2.out C2.out ⟨by decide, by decide⟩ (by unfold Few; decide) (by decide) (by decide)
  go_wp2_with (fail)
  refine (hmx.out).mono ?_
  rintro e w3 ⟨A3, c3, rfl, hl, hc, hb⟩
  have L3 := Lib.hid hl
  have C3 := Lib.hid hc
  have hz3 : w.heap.size ≤ w3.heap.size := Nat.le_trans hz2 hb.size
  have B3 : Hid (Below w.heap.size w w3) := B2.out.trans (hb.mono hz2)
  clear hb hl hc L1 C1 L2 C2 B2 hz2
  clear hmx
  go_wp2_with (fail)
  refine (succ_lit [(0, 3), (1, 0)] [(0, 4), (1, 1)] A3 2 c3 w3 rfl L3.out C3.out (by unfold Few; decide) (by decide) (by decide)).mono ?_
  rintro e w4 ⟨A4, c4, rfl, hl, hc, hb⟩
  have L4 := Lib.hid hl
  have C4 := Lib.hid hc
  have hz4 : w.heap.size ≤ w4.heap.size := Nat.le_trans hz3 hb.size
  have B4 : Hid (Below w.heap.size w w4) := B3.out.trans (hb.mono hz3)
  clear hb hl hc L3 C3 B3 hz3
  go_wp2_with (fail)
  refine (of_lit w4 [0, 4, 1, 1] [(0, 4), (1, 1)] #[.int .i64 0, .int .i64 4, .int .i64 1, .int .i64 1] rfl rfl (by unfold Few; decide) 4 rfl _).mono ?_
  rintro e w5 ⟨A5, c5, rfl, hl, hc, hb⟩
  have L5 := Lib.hid hl
  have C5 := Lib.hid hc
  have hz5 : w.heap.size ≤ w5.heap.size := Nat.le_trans hz4 hb.size
  have B5 : Hid (Below w.heap.size w w5) := B4.out.trans (hb.mono hz4)
  have M4 := Lib.hid ((L4.out.below hb).more hb.size)
  clear L4
  have L4 := M4
  clear M4
  clear hb hl hc B4 hz4
  go_wp2_with (fail)
  refine (same_lit [(0, 4), (1, 1)] [(0, 4), (1, 1)] A4 A5 2 2 c4 c5 w5 rfl rfl L4.out L5.out true ⟨by unfold Few; decide, by unfold Few; decide⟩ (by decide)).mono ?_
  rintro e w6 ⟨rfl, hb⟩
  have hz6 : w.heap.size ≤ w6.heap.size := Nat.le_trans hz5 hb.size
  have B6 : Hid (Below w.heap.size w w6) := B5.out.trans (hb.mono hz5)
  clear hb  L4 C4 L5 C5 B5 hz5
  go_wp2_with (fail)
  refine (of_lit w6 [1, 1] [(1, 1)] #[.int .i64 1, .int .i64 1] rfl rfl (by unfold Few; decide) 2 rfl _).mono ?_
  rintro e w7 ⟨A6, c6, rfl, hl, hc, hb⟩
  have L6 := Lib.hid hl
  have C6 := Lib.hid hc
  have hz7 : w.heap.size ≤ w7.heap.size := Nat.le_trans hz6 hb.size
  have B7 : Hid (Below w.heap.size w w7) := B6.out.trans (hb.mono hz6)
  clear hb hl hc B6 hz6
  go_wp2_with (fail)
  refine (of_lit w7 [0, 5, 1, 2] [(0, 5), (1, 2)] #[.int .i64 0, .int .i64 5, .int .i64 1, .int .i64 2] rfl rfl (by unfold Few; decide) 4 rfl _).mono ?_
  rintro e w8 ⟨A7, c7, rfl, hl, hc, hb⟩
  have L7 := Lib.hid hl
  have C7 := Lib.hid hc
  have hz8 : w.heap.size ≤ w8.heap.size := Nat.le_trans hz7 hb.size
  have B8 : Hid (Below w.heap.size w w8) := B7.out.trans (hb.mono hz7)
  have M6 := Lib.hid ((L6.out.below hb).more hb.size)
  clear L6
  have L6 := M6
  clear M6
  clear hb hl hc B7 hz7
  go_wp2_with (fail)
  refine (leq_lit [(1, 1)] [(0, 5), (1, 2)] A6 A7 1 2 c6 c7 w8 rfl rfl L6.out C6.out L7.out C7.out true ⟨by unfold Few; decide, by unfold Few; decide⟩ ⟨by decide, by decide⟩ (by decide)).mono ?_
  rintro e w9 ⟨rfl, hb⟩
  have hz9 : w.heap.size ≤ w9.heap.size := Nat.le_trans hz8 hb.size
  have B9 : Hid (Below w.heap.size w w9) := B8.out.trans (hb.mono hz8)
  clear hb  L6 C6 L7 C7 B8 hz8
  go_wp2_with (fail)
  refine (of_lit w9 [0, 5] [(0, 5)] #[.int .i64 0, .int .i64 5] rfl rfl (by unfold Few; decide) 2 rfl _).mono ?_
  rintro e w10 ⟨A8, c8, rfl, hl, hc, hb⟩
  have L8 := Lib.hid hl
  have C8 := Lib.hid hc
  have hz10 : w.heap.size ≤ w10.heap.size := Nat.le_trans hz9 hb.size
  have B10 : Hid (Below w.heap.size w w10) := B9.out.trans (hb.mono hz9)
  clear hb hl hc B9 hz9
  go_wp2_with (fail)
  refine (of_lit w10 [1, 0] [(1, 0)] #[.int .i64 1, .int .i64 0] rfl rfl (by unfold Few; decide) 2 rfl _).mono ?_
  rintro e w11 ⟨A9, c9, rfl, hl, hc, hb⟩
  have L9 := Lib.hid hl
  have C9 := Lib.hid hc
  have hz11 : w.heap.size ≤ w11.heap.size := Nat.le_trans hz10 hb.size
  have B11 : Hid (Below w.heap.size w w11) := B10.out.trans (hb.mono hz10)
  have M8 := Lib.hid ((L8.out.below hb).more hb.size)
  clear L8
  have L8 := M8
  clear M8
  clear hb hl hc B10 hz10
  go_wp2_with (fail)
  refine (leq_lit [(0, 5)] [(1, 0)] A8 A9 1 1 c8 c9 w11 rfl rfl L8.out C8.out L9.out C9.out false ⟨by unfold Few; decide, by unfold Few; decide⟩ ⟨by decide, by decide⟩ (by decide)).mono ?_
  rintro e w12 ⟨rfl, hb⟩
  have hz12 : w.heap.size ≤ w12.heap.size := Nat.le_trans hz11 hb.size
  have B12 : Hid (Below w.heap.size w w12) := B11.out.trans (hb.mono hz11)
  clear hb  L8 C8 L9 C9 B11 hz11
  go_wp2_with (fail)
  refine (of_none w12).mono ?_
  rintro e w13 ⟨A10, c10, rfl, hl, hc, hb⟩
  have L10 := Lib.hid hl
  have C10 := Lib.hid hc
  have hz13 : w.heap.size ≤ w13.heap.size := Nat.le_trans hz12 hb.size
  have B13 : Hid (Below w.heap.size w w13) := B12.out.trans (hb.mono hz12)
  clear hb hl hc B12 hz12
  go_wp2_with (fail)
  refine (of_lit w13 [1, 0] [(1, 0)] #[.int .i64 1, .int .i64 0] rfl rfl (by unfold Few; decide) 2 rfl _).mono ?_
  rintro e w14 ⟨A11, c11, rfl, hl, hc, hb⟩
  have L11 := Lib.hid hl
  have C11 := Lib.hid hc
  have hz14 : w.heap.size ≤ w14.heap.size := Nat.le_trans hz13 hb.size
  have B14 : Hid (Below w.heap.size w w14) := B13.out.trans (hb.mono hz13)
  have M10 := Lib.hid ((L10.out.below hb).more hb.size)
  clear L10
  have L10 := M10
  clear M10
  clear hb hl hc B13 hz13
  go_wp2_with (fail)
  refine (leq_lit [] [(1, 0)] A10 A11 0 1 c10 c11 w14 rfl rfl L10.out C10.out L11.out C11.out true ⟨by unfold Few; decide, by unfold Few; decide⟩ ⟨by decide, by decide⟩ (by decide)).mono ?_
  rintro e w15 ⟨rfl, hb⟩
  have hz15 : w.heap.size ≤ w15.heap.size := Nat.le_trans hz14 hb.size
  have B15 : Hid (Below w.heap.size w w15) := B14.out.trans (hb.mono hz14)
  clear hb  L10 C10 L11 C11 B14 hz14
  go_wp2_with (fail)
  refine (of_lit w15 [1, 0] [(1, 0)] #[.int .i64 1, .int .i64 0] rfl rfl (by unfold Few; decide) 2 rfl _).mono ?_
  rintro e w16 ⟨A12, c12, rfl, hl, hc, hb⟩
  have L12 := Lib.hid hl
  have C12 := Lib.hid hc
  have hz16 : w.heap.size ≤ w16.heap.size := Nat.le_trans hz15 hb.size
  have B16 : Hid (Below w.heap.size w w16) := B15.out.trans (hb.mono hz15)
  clear hb hl hc B15 hz15
  go_wp2_with (fail)
  refine (of_lit w16 [2, 0] [(2, 0)] #[.int .i64 2, .int .i64 0] rfl rfl (by unfold Few; decide) 2 rfl _).mono ?_
  rintro e w17 ⟨A13, c13, rfl, hl, hc, hb⟩
  have L13 := Lib.hid hl
  have C13 := Lib.hid hc
  have hz17 : w.heap.size ≤ w17.heap.size := Nat.le_trans hz16 hb.size
  have B17 : Hid (Below w.heap.size w w17) := B16.out.trans (hb.mono hz16)
  have M12 := Lib.hid ((L12.out.below hb).more hb.size)
  clear L12
  have L12 := M12
  clear M12
  clear hb hl hc B16 hz16
  go_wp2_with (fail)
  refine (lsame_lit [(1, 0)] [(2, 0)] A12 A13 1 1 c12 c13 w17 rfl rfl L12.out C12.out L13.out C13.out false ⟨by unfold Few; decide, by unfold Few; decide⟩ ⟨by decide, by decide⟩ (by decide)).mono ?_
  rintro e w18 ⟨rfl, hb⟩
  have hz18 : w.heap.size ≤ w18.heap.size := Nat.le_trans hz17 hb.size
  have B18 : Hid (Below w.heap.size w w18) := B17.out.trans (hb.mono hz17)
  clear hb  L12 C12 L13 C13 B17 hz17
  go_wp2
  go_ret
  exact ⟨rfl, B18.out⟩

end Go.Proofs.YtldalfikpklfdaaGreat
