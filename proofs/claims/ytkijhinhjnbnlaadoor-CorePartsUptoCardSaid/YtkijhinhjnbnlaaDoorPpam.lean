/- Laws. -/
import Derived.Test.YtkijhinhjnbnlaaDoorPpaf
import Derived.Test.YtkijhinhjnbnlaaDoorPpag
import Derived.Test.YtkijhinhjnbnlaaDoorPpal
import Derived.Deep.CutBlock
namespace Go.Proofs.YtkijhinhjnbnlaaDoor
open Go.RowKit Go.Maps
theorem tms_one5 {t : Tm} {c0 c1 c2 c3 c4 : Value} {w : World} (h : TmAt w w.heap.size t (.agg #[c0, c1, c2, c3, c4])) : Tms (w.alloc (.cells #[c0, c1, c2, c3, c4] 27)) (w.alloc (.cells #[c0, c1, c2, c3, c4] 27)).heap.size (some ⟨w.heap.size, 0, none⟩) 1 [t] := by
  have hb : Below w.heap.size w (w.alloc (.cells #[c0, c1, c2, c3, c4] 27)) := (Below.refl _ _).alloc (Nat.le_refl _) _
  have hx := heap_alloc_new w (.cells #[c0, c1, c2, c3, c4] 27)
  refine ⟨(fun h => by cases h), fun _ => ⟨w.heap.size, 0, rfl, by simp, ?_⟩⟩
  unfold TmsAt
  refine ⟨⟨_, Five.of hx (o := 0) ⟨rfl, rfl, rfl, rfl, rfl⟩, h.below hb hb.size⟩, ?_⟩
  unfold TmsAt
  trivial
end Go.Proofs.YtkijhinhjnbnlaaDoor
namespace Go.Proofs.YtkijhinhjnbnlaaDoor
open Go.RowKit Go.Maps
def intV (x : Int) : Value := .int .i64 x
theorem infoI : (Tryd.prog.info? 3).map (fun i => (i.zero, i.size, i.bytes)) = some (some (.int .i64 0), 1, 8) := by kernel_rfl
set_option maxRecDepth 100000 in
theorem run_ints {w : World} (base n : Nat) (xs : List Value) (v : Value) (hown : w.ownsRow base 3 1 v n xs) (A : Option Addr) (m c : Nat) (us : List Int) (hl : us.length = m) (hA : A = none → c = 0) {B : Nat} (hI : Ints w B A us) (hb : base ≤ w.heap.size) (h9 : n + m ≤ 1048576) (ty : TypeId) :
    ∃ v' w', (Builtin.append_ #[22, 22] ty #[v, .slice A m c]).run Tryd.prog w = .ok v' w' ∧ w'.ownsRow base 3 1 v' (n + m) (xs ++ us.map intV) ∧ w.grownBy w' v.ownBlock ∧ (v'.ownBlock = v.ownBlock ∨ v'.ownBlock = some w.heap.size) := by
  obtain ⟨i0, hi, hz0, hz1, hz2⟩ := info_parts infoI
  rcases A with _ | ad
  · obtain rfl := hA rfl
    have hu0 : us = [] := by
      cases us with
      | nil => rfl
      | cons u us =>
        obtain ⟨b, o, e, _⟩ := hI (by simp)
        cases e
    subst hu0
    obtain rfl : 0 = m := hl
    exact ⟨v, w, run_append_owned_none (P := Tryd.prog) w base 22 ty 3 i0 1 Tryd.underlying22 hi v n xs hown, by simpa using hown, ⟨rfl, rfl, rfl, Nat.le_refl _, fun _ _ _ => rfl⟩, .inl rfl⟩
  · obtain ⟨v', w', h1, h2, h3, _, h5⟩ := run_append_own_at (P := Tryd.prog) w base 22 ty 3 i0 (.int .i64 0) 1 8 Tryd.underlying22 hi hz0 hz1 hz2 rfl (by omega) v n xs hown ad m c (us.map intV) (by simp [hl]) (fun j u hu => by
      have hj : j < us.length := by
        have := (List.getElem?_eq_some_iff.1 hu).1
        simpa using this
      obtain ⟨b, o, e, hbB, hc⟩ := hI (by omega)
      obtain rfl : ad = ⟨b, o, none⟩ := Option.some.inj e
      have h := hc j hj
      rw [List.getElem?_map, List.getElem?_eq_getElem hj] at hu
      obtain rfl := Option.some.inj hu
      rw [List.getD_eq_getElem?_getD, List.getElem?_eq_getElem hj] at h
      show w.cell? (Addr.add ⟨b, o, none⟩ j) = _
      have hadd : (⟨b, o, none⟩ : Addr).add j = ⟨b, o + j, none⟩ := by unfold Addr.add; split <;> simp_all
      rw [hadd]
      exact h) (fun u hu => by
      obtain ⟨x, _, rfl⟩ := List.mem_map.1 hu
      rfl) (by unfold maxLen; omega) (by omega) hb
    exact ⟨v', w', h1, h2, h3, h5⟩
theorem ints_of_own {w : World} {base n : Nat} {v : Value} {ns : List Int} (h : w.ownsRow base 3 1 v n (ns.map intV)) (hn : ns.length = n) : ∃ A c, v = .slice A n c ∧ (A = none → c = 0) ∧ Ints w w.heap.size A ns := by
  rcases h.2 with ⟨rfl, rfl⟩ | ⟨g, cap, cur, rfl, hb, hg, h1, h2, h3, h4⟩
  · exact ⟨none, 0, rfl, fun _ => rfl, fun h => by omega⟩
  · refine ⟨_, _, rfl, fun h => (by cases h), fun h0 => ⟨g, 0, rfl, heap_some_lt hg, fun j hj => ?_⟩⟩
    rw [Nat.zero_add, cell_of_row w g j cur _ (0, 0) hg]
    have h5 : (cur.toList.take (n * 1))[j]? = (ns.map intV)[j]? := by rw [h4]
    rw [List.getElem?_take, if_pos (by omega), Array.getElem?_toList, List.getElem?_map, List.getElem?_eq_getElem hj] at h5
    rw [h5, List.getD_eq_getElem?_getD, List.getElem?_eq_getElem hj]
    rfl
theorem step_run {P : Program} {w : World} {ops : Array Oper} {o : Oper} {a : Act} {K : Act → World → Prop} {Q : Exit → Act → World → Prop} {E : Prop} (hgd : o.guard = none) (s x : Operand) (t : TypeId)
    (ho : o.op = .call { callee := .builtin .append, args := #[s, x], argTypes := #[t, t] }) (vx vy : Value) (hs : a.eval s = vx) (hx : a.eval x = vy) {v' : Value} {w' : World}
    (hr : (Builtin.append_ #[t, t] o.type #[vx, vy]).run P w = .ok v' w') (h : K (a.put o.dst v') w') :
    if Region.wanted o (yielded ops a.tmps) = true then Oper.wp P o a w K Q else E := by
  have hw : Region.wanted o (yielded ops a.tmps) = true := by simp [Region.wanted, hgd]
  rw [if_pos hw]
  unfold Oper.wp execOp
  simp only [ho, resolve, invoke, builtin, Sem.run_bind, Sem.run_pure, Result.andThen_ok, List.map_toArray, List.map_cons, List.map_nil, hs, hx, hr]
  exact h
theorem own5_below {w w' : World} {B : Nat} {e : TypeId} {s : Nat} {v : Value} {n : Nat} {xs : List Value} (h : w.ownsRow B e s v n xs) (hb : Below w.heap.size w w') : w'.ownsRow B e s v n xs :=
  h.kept ⟨hb.os, hb.tape, hb.output, hb.size, fun k hk _ => hb.block k hk⟩ (row := none) (by cases v.ownBlock <;> simp)
theorem own_empty5 (w : World) : (w.alloc (.cells #[] 3)).ownsRow w.heap.size 3 1 (.slice (some ⟨w.heap.size, 0, none⟩) 0 0) 0 [] := World.ownsRow_made w #[] 0 (Nat.le_refl _) (by unfold maxLen; omega) rfl
theorem bel5_drew {w w' : World} (h : Below w.heap.size w w') : Below w.heap.size w w'.drew := h.drew
theorem bel5_alloc {w w' : World} {o : Obj} (h : Below w.heap.size w w') : Below w.heap.size w (w'.alloc o) := h.alloc h.size _
theorem bel5_grown {w wa wb : World} {r : Option Nat} (h : Below w.heap.size w wa) (hg : wa.grownBy wb r) (hr : ∀ k, r = some k → w.heap.size ≤ k) : Below w.heap.size w wb :=
  ⟨hg.os.trans h.os, hg.tape.trans h.tape, hg.output.trans h.output, Nat.le_trans h.size hg.size, fun i hi => (hg.block i (Nat.lt_of_lt_of_le hi h.size) (fun e => by have := hr i e.symm; omega)).trans (h.block i hi)⟩
/-- one int in a block of its own -/
theorem ints_one {w : World} {g : Nat} {x : Int} (h : w.heap[g]? = some (.cells #[.int .i64 x] 3 (0, 0))) : Ints w w.heap.size (some ⟨g, 0, none⟩) [x] := fun _ => ⟨g, 0, rfl, heap_some_lt h, fun j hj => by
  obtain rfl : j = 0 := by simp at hj; exact hj
  exact cell_of_row _ _ 0 _ _ (0, 0) h⟩
set_option maxRecDepth 100000 in
/-- an append of ints at a step of a region that draws -/
theorem step_ints {w : World} {ops : Array Oper} {o : Oper} {a : Act} {K : Act → World → Prop} {Q : Exit → Act → World → Prop} {E : Prop} (hgd : o.guard = none) (s x : Operand)
    (ho : o.op = .call { callee := .builtin .append, args := #[s, x], argTypes := #[22, 22] }) (base n : Nat) (xs : List Value) (v : Value) (hs : a.eval s = v) (A : Option Addr) (m c : Nat) (us : List Int) (hx : a.eval x = .slice A m c)
    (hl : us.length = m) (hA : A = none → c = 0) (h9 : n + m ≤ 1048576) (hown : w.ownsRow base 3 1 v n xs) (hI : Ints w w.heap.size A us) (hb : base ≤ w.heap.size)
    (h : ∀ v' w', w'.ownsRow base 3 1 v' (n + m) (xs ++ us.map intV) → w.grownBy w' v.ownBlock → K (a.put o.dst v') w') :
    if Region.wanted o (yielded ops a.tmps) = true then Oper.wp Tryd.prog o a w K Q else E := by
  obtain ⟨v', w', r1, r2, r3, _⟩ := run_ints base n xs v hown A m c us hl hA hI hb h9 o.type
  exact step_run hgd s x _ ho _ _ hs hx r1 (h v' w' r2 r3)
theorem heap_two (w : World) (o p : Obj) : ((w.alloc o).alloc p).heap[w.heap.size]? = some o := by
  rw [Below.heap_alloc _ _ _ (by simp)]
  exact heap_alloc_new w o
theorem keep2 {w w' : World} {o p : Obj} (h : ((w.alloc o).alloc p).drew.grownBy w' (Value.ownBlock (.slice (some ⟨w.heap.size, 0, none⟩) 0 0))) : w'.heap[w.heap.size + 1]? = some p := by
  refine (h.block (w.heap.size + 1) (by show w.heap.size + 1 < ((w.alloc o).alloc p).heap.size; simp) (by intro e; injection e with e; have e : w.heap.size + 1 = w.heap.size := e; omega)).trans ?_
  show ((w.alloc o).alloc p).heap[w.heap.size + 1]? = some p
  have := heap_alloc_new (w.alloc o) p
  simpa using this
theorem keep3 {w w' : World} {o p : Obj} (h : ((w.alloc p).alloc o).drew.grownBy w' (Value.ownBlock (.slice (some ⟨w.heap.size + 1, 0, none⟩) 0 0))) : w'.heap[w.heap.size]? = some p :=
  (h.block w.heap.size (by show w.heap.size < ((w.alloc p).alloc o).heap.size; simp; omega) (by intro e; injection e with e; have e : w.heap.size = w.heap.size + 1 := e; omega)).trans (heap_two w p o)
theorem own_w1 (w : World) : (w.alloc (.cells #[] 3)).drew.ownsRow w.heap.size 3 1 (.slice (some ⟨w.heap.size, 0, none⟩) 0 0) 0 [] := own5_below (own_empty5 w) (bel5_drew (Below.refl _ _))
theorem own_w2 (w : World) (o : Obj) : ((w.alloc (.cells #[] 3)).alloc o).drew.ownsRow w.heap.size 3 1 (.slice (some ⟨w.heap.size, 0, none⟩) 0 0) 0 [] := own5_below (own_empty5 w) (bel5_drew (bel5_alloc (Below.refl _ _)))
theorem own_w3 (w : World) (o : Obj) : ((w.alloc o).alloc (.cells #[] 3)).drew.ownsRow w.heap.size 3 1 (.slice (some ⟨w.heap.size + 1, 0, none⟩) 0 0) 0 [] := by
  have h : ((w.alloc o).alloc (.cells #[] 3)).ownsRow w.heap.size 3 1 (.slice (some ⟨(w.alloc o).heap.size, 0, none⟩) 0 0) 0 [] := World.ownsRow_made (w.alloc o) #[] 0 (by simp) (by unfold maxLen; omega) rfl
  have e : (w.alloc o).heap.size = w.heap.size + 1 := by simp
  rw [e] at h
  exact own5_below h (bel5_drew (Below.refl _ _))
theorem one_w1 (w : World) (x : Int) : Ints (w.alloc (.cells #[.int .i64 x] 3)) (w.alloc (.cells #[.int .i64 x] 3)).heap.size (some ⟨w.heap.size, 0, none⟩) [x] := ints_one (heap_alloc_new w _)
theorem own_ge {w : World} {base : Nat} {e : TypeId} {n : Nat} {xs : List Value} {v : Value} (h : w.ownsRow base e 1 v n xs) : ∀ k, v.ownBlock = some k → base ≤ k := fun k hk => (h.lt k hk).1
/-- two variables of the call's own that hold the same term -/
def TwoBox (wa : World) (k num pos : Int) (A1 : Option Addr) (p1 c1 : Nat) (A2 : Option Addr) (p2 c2 : Nat) (sa sb : Value) (wx : World) : Prop := ∃ pa pb : Nat, sa = .pointer (some ⟨pa, 0, none⟩) ∧ sb = .pointer (some ⟨pb, 0, none⟩) ∧ pa ≠ pb ∧ wa.heap.size ≤ pa ∧ wa.heap.size ≤ pb ∧
  wx.heap[pa]? = some (.cells #[.int .i64 k, .int .i64 num, .int .i64 pos, .slice A1 p1 c1, .slice A2 p2 c2] 27 (0, 0)) ∧ wx.heap[pb]? = some (.cells #[.int .i64 k, .int .i64 num, .int .i64 pos, .slice A1 p1 c1, .slice A2 p2 c2] 27 (0, 0)) ∧ Below wa.heap.size wa wx
theorem two_box1 (wa : World) (k num pos : Int) (A1 : Option Addr) (p1 c1 : Nat) (A2 : Option Addr) (p2 c2 : Nat) : TwoBox wa k num pos A1 p1 c1 A2 p2 c2 (.pointer (some ⟨wa.heap.size, 0, none⟩)) (.pointer (some ⟨wa.heap.size + 1, 0, none⟩)) ((wa.alloc (.cells #[.int .i64 k, .int .i64 num, .int .i64 pos, .slice A1 p1 c1, .slice A2 p2 c2] 27)).alloc (.cells #[.int .i64 k, .int .i64 num, .int .i64 pos, .slice A1 p1 c1, .slice A2 p2 c2] 27)).drew := by
  obtain ⟨z1, z2, _⟩ := two_allocs wa (.cells #[.int .i64 k, .int .i64 num, .int .i64 pos, .slice A1 p1 c1, .slice A2 p2 c2] 27) (.cells #[.int .i64 k, .int .i64 num, .int .i64 pos, .slice A1 p1 c1, .slice A2 p2 c2] 27)
  exact ⟨wa.heap.size, wa.heap.size + 1, rfl, rfl, by omega, Nat.le_refl _, Nat.le_succ _, z1, z2, bel5_drew (bel5_alloc (bel5_alloc (Below.refl _ _)))⟩
theorem two_box2 (wa : World) (k num pos : Int) (A1 : Option Addr) (p1 c1 : Nat) (A2 : Option Addr) (p2 c2 : Nat) : TwoBox wa k num pos A1 p1 c1 A2 p2 c2 (.pointer (some ⟨wa.heap.size + 1, 0, none⟩)) (.pointer (some ⟨wa.heap.size, 0, none⟩)) ((wa.alloc (.cells #[.int .i64 k, .int .i64 num, .int .i64 pos, .slice A1 p1 c1, .slice A2 p2 c2] 27)).alloc (.cells #[.int .i64 k, .int .i64 num, .int .i64 pos, .slice A1 p1 c1, .slice A2 p2 c2] 27)).drew := by
  obtain ⟨z1, z2, _⟩ := two_allocs wa (.cells #[.int .i64 k, .int .i64 num, .int .i64 pos, .slice A1 p1 c1, .slice A2 p2 c2] 27) (.cells #[.int .i64 k, .int .i64 num, .int .i64 pos, .slice A1 p1 c1, .slice A2 p2 c2] 27)
  exact ⟨wa.heap.size + 1, wa.heap.size, rfl, rfl, by omega, Nat.le_succ _, Nat.le_refl _, z2, z1, bel5_drew (bel5_alloc (bel5_alloc (Below.refl _ _)))⟩
end Go.Proofs.YtkijhinhjnbnlaaDoor
namespace Go.Proofs.YtkijhinhjnbnlaaDoor
open Go.RowKit Go.Maps
/-- the cells of terms that lie below -/
def CellsTs (w : World) (base : Nat) (ys : List Value) (us : List Tm) : Prop := ys.length = us.length * 5 ∧ (∀ u ∈ ys, u.oneCell' = true) ∧ ∀ i t, us[i]? = some t → ∃ c0 c1 c2 c3 c4, ys[i * 5]? = some c0 ∧ ys[i * 5 + 1]? = some c1 ∧ ys[i * 5 + 2]? = some c2 ∧ ys[i * 5 + 3]? = some c3 ∧ ys[i * 5 + 4]? = some c4 ∧ TmAt w base t (.agg #[c0, c1, c2, c3, c4])
theorem CellsTs.append {w : World} {B : Nat} {xs ys : List Value} {ts us : List Tm} (h : CellsTs w B xs ts) (h' : CellsTs w B ys us) : CellsTs w B (xs ++ ys) (ts ++ us) := by
  obtain ⟨x1, x2, x4⟩ := h
  obtain ⟨y1, y2, y4⟩ := h'
  refine ⟨by rw [List.length_append, List.length_append, x1, y1, Nat.add_mul], fun u hu => ?_, fun i t ht => ?_⟩
  · rcases List.mem_append.1 hu with hu | hu
    · exact x2 u hu
    · exact y2 u hu
  · by_cases hlt : i < ts.length
    · rw [List.getElem?_append_left hlt] at ht
      obtain ⟨c0, c1, c2, c3, c4, q0, q1, q2, q3, q4, q5⟩ := x4 i t ht
      exact ⟨c0, c1, c2, c3, c4, by rw [List.getElem?_append_left (by omega)]; exact q0, by rw [List.getElem?_append_left (by omega)]; exact q1, by rw [List.getElem?_append_left (by omega)]; exact q2, by rw [List.getElem?_append_left (by omega)]; exact q3, by rw [List.getElem?_append_left (by omega)]; exact q4, q5⟩
    · rw [List.getElem?_append_right (by omega)] at ht
      obtain ⟨c0, c1, c2, c3, c4, q0, q1, q2, q3, q4, q5⟩ := y4 (i - ts.length) t ht
      have ei : ∀ k, i * 5 + k - xs.length = (i - ts.length) * 5 + k := fun k => by rw [x1]; omega
      refine ⟨c0, c1, c2, c3, c4, ?_, ?_, ?_, ?_, ?_, q5⟩ <;> rw [List.getElem?_append_right (by omega)]
      · have := ei 0
        simp only [Nat.add_zero] at this
        rw [this]; exact q0
      · rw [ei]; exact q1
      · rw [ei]; exact q2
      · rw [ei]; exact q3
      · rw [ei]; exact q4
theorem CellsTs.below {w w' : World} {B : Nat} {xs : List Value} {ts : List Tm} (h : CellsTs w B xs ts) (hb : Below B w w') : CellsTs w' B xs ts :=
  ⟨h.1, h.2.1, fun i t ht => by
    obtain ⟨c0, c1, c2, c3, c4, q0, q1, q2, q3, q4, q5⟩ := h.2.2 i t ht
    exact ⟨c0, c1, c2, c3, c4, q0, q1, q2, q3, q4, q5.below hb (Nat.le_refl _)⟩⟩
/-- a row of terms of the call's own -/
def OwnTs (w : World) (base B : Nat) (v : Value) (n : Nat) (ts : List Tm) : Prop := ts.length = n ∧ B ≤ base ∧ ∃ xs, w.ownsRow base 27 5 v n xs ∧ CellsTs w B xs ts
theorem OwnTs.keep {w w' : World} {base B : Nat} {v : Value} {n : Nat} {ts : List Tm} {r : Option Nat} (h : OwnTs w base B v n ts) (hg : w.grownBy w' r) (hne : v.ownBlock = none ∨ ¬ v.ownBlock = r) (hb : Below B w w') : OwnTs w' base B v n ts := by
  obtain ⟨h1, h1b, xs, h2, h3⟩ := h
  refine ⟨h1, h1b, xs, ?_, h3.below hb⟩
  rcases hne with hne | hne
  · rcases h2.2 with ⟨rfl, rfl⟩ | ⟨g, cap, cur, rfl, _⟩
    · exact ⟨h2.1, .inl ⟨rfl, rfl⟩⟩
    · cases hne
  · exact h2.kept hg (by first | exact hne | (intro k hk e; exact hne (hk.trans e.symm)) | (cases hv : v.ownBlock <;> simp_all))
theorem OwnTs.same {w w' : World} {base B : Nat} {v : Value} {n : Nat} {ts : List Tm} (h : OwnTs w base B v n ts) (hx : Below w.heap.size w w') (hb : base ≤ w.heap.size) : OwnTs w' base B v n ts := by
  obtain ⟨h1, h1b, xs, h2, h3⟩ := h
  exact ⟨h1, h1b, xs, own5_below h2 hx, h3.below (hx.mono (Nat.le_trans h1b hb))⟩
set_option maxRecDepth 100000 in
theorem run_terms {w : World} {base n B : Nat} {v : Value} {ts : List Tm} (h : OwnTs w base B v n ts) (ad : Addr) (c : Nat) {ys : List Value} {us : List Tm} {m : Nat} (hm : us.length = m) (hy : CellsTs w B ys us) (hc : ∀ j u, ys[j]? = some u → w.cell? (ad.add j) = some u) (hb : base ≤ w.heap.size) (h9 : n + m ≤ 1048576) (ty : TypeId) :
    ∃ v' w', (Builtin.append_ #[25, 25] ty #[v, .slice (some ad) m c]).run Tryd.prog w = .ok v' w' ∧ OwnTs w' base B v' (n + m) (ts ++ us) ∧ w.grownBy w' v.ownBlock ∧ Below base w w' := by
  obtain ⟨i0, hi, hz0, hz1, hz2⟩ := info_parts infoTm
  obtain ⟨h1, h1b, xs, h2, h3⟩ := h
  obtain ⟨v', w', r1, r2, r3, _, _⟩ := run_append_own_at (P := Tryd.prog) w base 25 ty 27 i0 (.agg #[.int .i64 0, .int .i64 0, .int .i64 0, .slice none 0 0, .slice none 0 0]) 5 72 Tryd.underlying25 hi hz0 hz1 hz2 rfl (by omega) v n xs h2 ad m c ys (by rw [hy.1, hm]) hc hy.2.1 (by unfold maxLen; omega) (by omega) hb
  have hB : Below base w w' := ⟨r3.os, r3.tape, r3.output, Nat.le_trans (by omega) r3.size, fun i hi2 => r3.block i (by omega) (fun e => by have := (h2.lt i e.symm).1; omega)⟩
  exact ⟨v', w', r1, ⟨by rw [List.length_append, h1, hm], h1b, _, r2, (h3.append hy).below (hB.mono h1b)⟩, r3, hB⟩
set_option maxRecDepth 100000 in
/-- appended: a row below -/
theorem run_terms_tms {w : World} {base n B : Nat} {v : Value} {ts : List Tm} (h : OwnTs w base B v n ts) (A : Option Addr) (m c : Nat) {us : List Tm} (hm : us.length = m) (hy : Tms w B A c us) (hb : base ≤ w.heap.size) (h9 : n + m ≤ 1048576) (ty : TypeId) :
    ∃ v' w', (Builtin.append_ #[25, 25] ty #[v, .slice A m c]).run Tryd.prog w = .ok v' w' ∧ OwnTs w' base B v' (n + m) (ts ++ us) ∧ w.grownBy w' v.ownBlock ∧ Below base w w' := by
  rcases A with _ | ad
  · obtain rfl := hy.1 rfl
    have hu0 : us = [] := by
      cases us with
      | nil => rfl
      | cons u us =>
        obtain ⟨b, o, e, _⟩ := hy.2 (by simp)
        cases e
    subst hu0
    obtain rfl : 0 = m := hm
    obtain ⟨i0, hi, hz0, hz1, hz2⟩ := info_parts infoTm
    have h' := h
    obtain ⟨h1, h1b, xs, h2, h3⟩ := h'
    exact ⟨v, w, run_append_owned_none (P := Tryd.prog) w base 25 ty 27 i0 5 Tryd.underlying25 hi v n xs h2, by simpa using h, ⟨rfl, rfl, rfl, Nat.le_refl _, fun _ _ _ => rfl⟩, (Below.refl _ _).mono hb⟩
  · obtain ⟨ys, y1, y2⟩ : ∃ ys : List Value, CellsTs w B ys us ∧ (∀ j u, ys[j]? = some u → w.cell? (ad.add j) = some u) := by
      rcases Nat.eq_zero_or_pos us.length with h | h
      · have e0 : us = [] := List.eq_nil_of_length_eq_zero h
        exact ⟨[], ⟨by simp [h], by simp, by simp [e0]⟩, by simp⟩
      · obtain ⟨b, oo, e, hbB, hts⟩ := hy.2 h
        injection e with e
        subst e
        obtain ⟨xs, h1, h2, h3, h4⟩ := Tms.row hts
        exact ⟨xs, ⟨h1, h3, h4⟩, fun j u hu => by rw [addr_add]; exact h2 j u hu⟩
    exact run_terms h ad c hm y1 y2 hb h9 ty
set_option maxRecDepth 100000 in
/-- appended: one term in a block of its own -/
theorem run_terms_one {w : World} {base n B : Nat} {v : Value} {ts : List Tm} (h : OwnTs w base B v n ts) (g c : Nat) (k num : Int) (hg : w.heap[g]? = some (.cells #[.int .i64 k, .int .i64 num, .int .i64 0, .slice none 0 0, .slice none 0 0] 27 (0, 0))) (hb : base ≤ w.heap.size) (h9 : n + 1 ≤ 1048576) (ty : TypeId) :
    ∃ v' w', (Builtin.append_ #[25, 25] ty #[v, .slice (some ⟨g, 0, none⟩) 1 c]).run Tryd.prog w = .ok v' w' ∧ OwnTs w' base B v' (n + 1) (ts ++ [.mk k num 0 [] []]) ∧ w.grownBy w' v.ownBlock ∧ Below base w w' :=
  run_terms (us := [.mk k num 0 [] []]) (m := 1) h ⟨g, 0, none⟩ c rfl (ys := [.int .i64 k, .int .i64 num, .int .i64 0, .slice none 0 0, .slice none 0 0]) ⟨rfl, by simp [Value.oneCell'], fun i t ht => by
    match i, ht with
    | 0, ht => injection ht with ht; subst ht; exact ⟨_, _, _, _, _, rfl, rfl, rfl, rfl, rfl, bareV_at _ _ _ _⟩⟩ (World.news_of_block (cs := #[.int .i64 k, .int .i64 num, .int .i64 0, .slice none 0 0, .slice none 0 0]) hg) hb h9 ty
theorem own_ts_empty (w : World) {B : Nat} (hB : B ≤ w.heap.size) : OwnTs (w.alloc (.cells #[] 27)) w.heap.size B (.slice (some ⟨w.heap.size, 0, none⟩) 0 0) 0 [] :=
  ⟨rfl, hB, [], World.ownsRow_made w #[] 0 (Nat.le_refl _) (by unfold maxLen; omega) rfl, rfl, by simp, by simp⟩
/-- what a row of the call's own reads as, and the first of it -/
theorem OwnTs.tms {w : World} {base B : Nat} {v : Value} {n : Nat} {ts : List Tm} (h : OwnTs w base B v n ts) (hn : 0 < n) (hb : base ≤ w.heap.size) : ∃ g cap, v = .slice (some ⟨g, 0, none⟩) n cap ∧ n ≤ cap ∧ cap ≤ maxLen ∧ base ≤ g ∧ g < w.heap.size ∧ ∀ m c, Tms w w.heap.size (some ⟨g, 0, none⟩) c (ts.take m) := by
  obtain ⟨h1, h1b, xs, h2, h3⟩ := h
  rcases h2.2 with ⟨_, h0⟩ | ⟨g, cap, cur, rfl, hbg, hg, hnc, hcm, hcs, hxs⟩
  · omega
  · refine ⟨g, cap, rfl, hnc, hcm, hbg, heap_some_lt hg, fun m c => ⟨fun e => (by cases e), fun _ => ⟨g, 0, rfl, heap_some_lt hg, ?_⟩⟩⟩
    refine TmsAt.of fun i t ht => ?_
    rw [List.getElem?_take] at ht
    split at ht
    · obtain ⟨c0, c1, c2, c3, c4, q0, q1, q2, q3, q4, q5⟩ := h3.2.2 i t ht
      have hcell : ∀ j u, xs[j]? = some u → w.cell? ⟨g, j, none⟩ = some u := fun j u hu => by
        rw [cell_of_row w g j cur _ (0, 0) hg]
        rw [← hxs, List.getElem?_take] at hu
        split at hu
        · rw [Array.getElem?_toList] at hu; exact hu
        · cases hu
      refine ⟨.agg #[c0, c1, c2, c3, c4], ⟨c0, c1, c2, c3, c4, rfl, ?_, ?_, ?_, ?_, ?_⟩, q5.below (Below.refl _ _) (Nat.le_trans h1b hb)⟩ <;> rw [Nat.zero_add]
      · exact hcell _ _ q0
      · exact hcell _ _ q1
      · exact hcell _ _ q2
      · exact hcell _ _ q3
      · exact hcell _ _ q4
    · cases ht
theorem Tm.sizeL_snoc (u : Tm) : ∀ ts : List Tm, Tm.sizeL (ts ++ [u]) = Tm.sizeL ts + u.size
  | [] => by simp [Tm.sizeL]
  | t :: ts => by
    have := Tm.sizeL_snoc u ts
    simp only [List.cons_append, Tm.sizeL, this]
    omega
end Go.Proofs.YtkijhinhjnbnlaaDoor
