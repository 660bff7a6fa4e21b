/- Laws. -/
import Derived.Test.YtfgnnbpbbnnnhaaDoorRrag
import Derived.Laws.OwnMore
namespace Go.Proofs.YtfgnnbpbbnnnhaaDoor
open Go.RowKit Go.Maps
/-- Blocks from lo on, ahead of hi, are as they were. -/
def KeptIn (lo hi : Nat) (w w' : World) : Prop := ∀ b, lo ≤ b → b < hi → w'.heap[b]? = w.heap[b]?
theorem KeptIn.sub {lo hi lo' hi' : Nat} {w w' : World} (h : KeptIn lo hi w w') (h1 : lo ≤ lo') (h2 : hi' ≤ hi) : KeptIn lo' hi' w w' := fun b p q => h b (by omega) (by omega)
theorem own_in {w w' : World} {lo hi : Nat} {e : TypeId} {s n : Nat} {v : Value} {xs : List Value} (h : w.ownsRow lo e s v n xs) (hlt : ∀ k, v.ownBlock = some k → k < hi) (hk : KeptIn lo hi w w') : w'.ownsRow lo e s v n xs := by
  refine ⟨h.1, h.2.imp id fun ⟨g, cap, cur, e1, q1, q2, q⟩ => ⟨g, cap, cur, e1, q1, ?_, q⟩⟩
  rw [hk g q1 (hlt g (by rw [e1]; rfl))]
  exact q2
theorem own_down {w : World} {lo lo' : Nat} {e : TypeId} {s n : Nat} {v : Value} {xs : List Value} (h : w.ownsRow lo e s v n xs) (hl : lo' ≤ lo) : w.ownsRow lo' e s v n xs :=
  ⟨h.1, h.2.imp id fun ⟨g, cap, cur, e1, q1, q⟩ => ⟨g, cap, cur, e1, by omega, q⟩⟩
/-- a row of the call's own whose block lies from lo on, ahead of hi -/
def RowIn (w : World) (lo hi : Nat) (e : TypeId) (s : Nat) (v : Value) (n : Nat) (xs : List Value) : Prop := lo ≤ hi ∧ (∃ A c, v = .slice A n c ∧ n ≤ 4611686018427387904) ∧ w.ownsRow lo e s v n xs ∧ ∀ k, v.ownBlock = some k → k < hi
theorem RowIn.kept {w w' : World} {lo hi : Nat} {e : TypeId} {s n : Nat} {v : Value} {xs : List Value} (h : RowIn w lo hi e s v n xs) (hk : KeptIn lo hi w w') : RowIn w' lo hi e s v n xs := ⟨h.1, h.2.1, own_in h.2.2.1 h.2.2.2 hk, h.2.2.2⟩
theorem RowIn.wide {w : World} {lo hi lo' hi' : Nat} {e : TypeId} {s n : Nat} {v : Value} {xs : List Value} (h : RowIn w lo hi e s v n xs) (h1 : lo' ≤ lo) (h2 : hi ≤ hi') : RowIn w lo' hi' e s v n xs :=
  ⟨by have := h.1; omega, h.2.1, own_down h.2.2.1 h1, fun k q => by have := h.2.2.2 k q; omega⟩
/-- levels of the call's own, one behind the other: v their slices of parts -/
def OwnLvs (w : World) : Nat → Nat → List (List (Int × Int)) → List Value → Prop
  | lo, hi, [], vs => vs = [] ∧ lo ≤ hi
  | lo, hi, l :: ls, vs => ∃ v vs' mid, vs = v :: vs' ∧ RowIn w lo mid 91 2 v l.length (cells l) ∧ OwnLvs w mid hi ls vs'
theorem OwnLvs.le {w : World} : ∀ {lo hi : Nat} {ls : List (List (Int × Int))} {vs : List Value}, OwnLvs w lo hi ls vs → lo ≤ hi
  | _, _, [], _, h => h.2
  | _, _, _ :: _, _, h => by
    obtain ⟨v, vs', mid, _, h1, h2⟩ := h
    have := h1.1
    have := h2.le
    omega
theorem OwnLvs.kept {w w' : World} : ∀ {lo hi : Nat} {ls : List (List (Int × Int))} {vs : List Value}, OwnLvs w lo hi ls vs → KeptIn lo hi w w' → OwnLvs w' lo hi ls vs
  | _, _, [], _, h, _ => h
  | _, _, _ :: _, _, h, hk => by
    obtain ⟨v, vs', mid, e, h1, h2⟩ := h
    exact ⟨v, vs', mid, e, h1.kept (hk.sub (Nat.le_refl _) h2.le), h2.kept (hk.sub h1.1 (Nat.le_refl _))⟩
theorem OwnLvs.up {w : World} : ∀ {lo hi hi' : Nat} {ls : List (List (Int × Int))} {vs : List Value}, OwnLvs w lo hi ls vs → hi ≤ hi' → OwnLvs w lo hi' ls vs
  | _, _, _, [], _, h, hl => ⟨h.1, by have := h.2; omega⟩
  | _, _, _, _ :: _, _, h, hl => by
    obtain ⟨v, vs', mid, e, h1, h2⟩ := h
    exact ⟨v, vs', mid, e, h1, h2.up hl⟩
theorem OwnLvs.snoc {w : World} {mid hi : Nat} {l : List (Int × Int)} {v : Value} (hl : RowIn w mid hi 91 2 v l.length (cells l)) : ∀ {lo : Nat} {ls : List (List (Int × Int))} {vs : List Value}, OwnLvs w lo mid ls vs → OwnLvs w lo hi (ls ++ [l]) (vs ++ [v])
  | lo, [], vs, h => by
    rw [h.1]
    exact ⟨v, [], hi, rfl, hl.wide h.2 (Nat.le_refl _), rfl, Nat.le_refl _⟩
  | lo, k :: ls, vs, h => by
    obtain ⟨u, vs', m, rfl, h1, h2⟩ := h
    exact ⟨u, vs' ++ [v], m, rfl, h1, h2.snoc hl⟩
theorem OwnLvs.get {w : World} : ∀ {lo hi : Nat} {ls : List (List (Int × Int))} {vs : List Value}, OwnLvs w lo hi ls vs → ∀ (i : Nat) (l : List (Int × Int)), ls[i]? = some l → ∃ v, vs[i]? = some v ∧ RowIn w lo hi 91 2 v l.length (cells l)
  | _, _, [], _, _, i, l, hi => by simp at hi
  | _, _, k :: ls, _, h, 0, l, hi => by
    obtain ⟨v, vs', mid, rfl, h1, h2⟩ := h
    simp at hi
    subst hi
    exact ⟨v, rfl, h1.wide (Nat.le_refl _) h2.le⟩
  | _, _, k :: ls, _, h, i + 1, l, hi => by
    obtain ⟨v, vs', mid, rfl, h1, h2⟩ := h
    obtain ⟨u, q1, q2⟩ := h2.get i l (by simpa using hi)
    exact ⟨u, by simpa using q1, q2.wide h1.1 (Nat.le_refl _)⟩
/-- a row of levels of the call's own -/
def OwnRowL (w : World) (lo hi : Nat) (v : Value) (ls : List (List (Int × Int))) : Prop := ∃ mid xs, RowIn w lo mid 39 1 v ls.length xs ∧ OwnLvs w mid hi ls xs
theorem OwnRowL.le {w : World} {lo hi : Nat} {v : Value} {ls : List (List (Int × Int))} (h : OwnRowL w lo hi v ls) : lo ≤ hi := by
  obtain ⟨mid, xs, h1, h2⟩ := h
  have := h1.1
  have := h2.le
  omega
theorem OwnRowL.kept {w w' : World} {lo hi : Nat} {v : Value} {ls : List (List (Int × Int))} (h : OwnRowL w lo hi v ls) (hk : KeptIn lo hi w w') : OwnRowL w' lo hi v ls := by
  obtain ⟨mid, xs, h1, h2⟩ := h
  exact ⟨mid, xs, h1.kept (hk.sub (Nat.le_refl _) h2.le), h2.kept (hk.sub h1.1 (Nat.le_refl _))⟩
theorem OwnRowL.wide {w : World} {lo hi lo' hi' : Nat} {v : Value} {ls : List (List (Int × Int))} (h : OwnRowL w lo hi v ls) (h1 : lo' ≤ lo) (h2 : hi ≤ hi') : OwnRowL w lo' hi' v ls := by
  obtain ⟨mid, xs, q1, q2⟩ := h
  exact ⟨mid, xs, q1.wide h1 (Nat.le_refl _), q2.up h2⟩
theorem row_lev {w : World} {lo hi : Nat} {A : Option Addr} {c : Nat} {l : List (Int × Int)} (h : RowIn w lo hi 91 2 (.slice A l.length c) l.length (cells l)) : Lev w hi A l ∧ (A = none → c = 0) ∧ l.length ≤ 4611686018427387904 := by
  rcases h.2.2.1.2 with ⟨e, e2⟩ | ⟨g, cap, cur, e, q1, q2, q3, q4, q5, q6⟩
  · injection e with e1 e3 e4
    exact ⟨fun hn => by omega, fun _ => e4, by omega⟩
  · injection e with e1 e3 e4
    subst e1 e4
    refine ⟨fun hn => ⟨g, 0, rfl, h.2.2.2 g rfl, fun i hi => ?_⟩, (fun x => by cases x), by obtain ⟨_, _, _, hn⟩ := h.2.1; exact hn⟩
    have c0 := h.2.2.1.cellAt (i * 2) (by omega)
    have c1 := h.2.2.1.cellAt (i * 2 + 1) (by omega)
    obtain ⟨d0, d1⟩ := cells_at l i hi
    rw [d0] at c0
    rw [d1] at c1
    exact ⟨by rw [show 0 + i * 2 = i * 2 by omega]; exact c0, by rw [show 0 + i * 2 + 1 = i * 2 + 1 by omega]; exact c1⟩
theorem OwnRowL.levs {w : World} {lo hi : Nat} {A : Option Addr} {c : Nat} {ls : List (List (Int × Int))} (h : OwnRowL w lo hi (.slice A ls.length c) ls) : Levs w hi A ls ∧ (A = none → c = 0) := by
  obtain ⟨mid, xs, h1, h2⟩ := h
  rcases h1.2.2.1.2 with ⟨e, e2⟩ | ⟨g, cap, cur, e, q1, q2, q3, q4, q5, q6⟩
  · injection e with e1 e3 e4
    exact ⟨fun hn => by omega, fun _ => e4⟩
  · injection e with e1 e3 e4
    subst e1 e4
    refine ⟨fun hn => ⟨g, 0, rfl, by have := h1.2.2.2 g rfl; have := h2.le; omega, fun i hi => ?_⟩, fun x => by cases x⟩
    obtain ⟨l, el⟩ : ∃ l, ls[i]? = some l := ⟨_, List.getElem?_eq_getElem hi⟩
    obtain ⟨v, p1, p2⟩ := h2.get i l el
    have eg : ls.getD i [] = l := by rw [List.getD_eq_getElem?_getD, el]; rfl
    obtain ⟨A, c, rfl, _⟩ := p2.2.1
    have c0 := h1.2.2.1.cellAt i (by omega)
    rw [p1] at c0
    rw [eg, show 0 + i = i by omega]
    obtain ⟨r1, r2, r3⟩ := row_lev p2
    exact ⟨A, c, c0, r1, r2, r3⟩
mutual
/-- v is this term, of the call's own: its rows lie from lo on, ahead of hi -/
def OwnTm (w : World) (lo hi : Nat) : Tm → Value → Prop
  | .mk k n a lv kids, v => ∃ vl vk m1 m2 xs, v = .agg #[.int .i64 k, .int .i64 n, .int .i64 a, vl, vk] ∧ OwnRowL w lo m1 vl lv ∧ (∃ A c, vl = .slice A lv.length c) ∧ RowIn w m1 m2 27 5 vk kids.length xs ∧ OwnTms w m2 hi kids xs
def OwnTms (w : World) : Nat → Nat → List Tm → List Value → Prop
  | lo, hi, [], xs => xs = [] ∧ lo ≤ hi
  | lo, hi, t :: ts, xs => ∃ c0 c1 c2 c3 c4 xs' mid, xs = c0 :: c1 :: c2 :: c3 :: c4 :: xs' ∧ lo ≤ mid ∧ OwnTm w lo mid t (.agg #[c0, c1, c2, c3, c4]) ∧ OwnTms w mid hi ts xs'
end
theorem OwnTms.le {w : World} : ∀ {lo hi : Nat} {ts : List Tm} {xs : List Value}, OwnTms w lo hi ts xs → lo ≤ hi
  | _, _, [], _, h => by unfold OwnTms at h; exact h.2
  | _, _, _ :: _, _, h => by
    unfold OwnTms at h
    obtain ⟨_, _, _, _, _, _, mid, _, h0, _, h2⟩ := h
    have := h2.le
    omega
theorem OwnTm.open {w : World} {lo hi : Nat} {k n a : Int} {lv : List (List (Int × Int))} {kids : List Tm} {v : Value} (h : OwnTm w lo hi (.mk k n a lv kids) v) :
    ∃ vl vk m1 m2 xs, v = .agg #[.int .i64 k, .int .i64 n, .int .i64 a, vl, vk] ∧ OwnRowL w lo m1 vl lv ∧ (∃ A c, vl = .slice A lv.length c) ∧ RowIn w m1 m2 27 5 vk kids.length xs ∧ OwnTms w m2 hi kids xs := by
  unfold OwnTm at h
  exact h
mutual
theorem OwnTm.kept {w w' : World} : ∀ {lo hi : Nat} {t : Tm} {v : Value}, OwnTm w lo hi t v → KeptIn lo hi w w' → OwnTm w' lo hi t v
  | lo, hi, .mk k n a lv kids, v, h, hk => by
    obtain ⟨vl, vk, m1, m2, xs, e, h1, hA, h2, h3⟩ := h.open
    have i1 := h1.le
    have i2 := h2.1
    have i3 := h3.le
    unfold OwnTm
    exact ⟨vl, vk, m1, m2, xs, e, h1.kept (hk.sub (Nat.le_refl _) (by omega)), hA, h2.kept (hk.sub (by omega) (by omega)), OwnTms.kept h3 (hk.sub (by omega) (Nat.le_refl _))⟩
theorem OwnTms.kept {w w' : World} : ∀ {lo hi : Nat} {ts : List Tm} {xs : List Value}, OwnTms w lo hi ts xs → KeptIn lo hi w w' → OwnTms w' lo hi ts xs
  | lo, hi, [], xs, h, hk => by
    unfold OwnTms at h ⊢
    exact h
  | lo, hi, t :: ts, xs, h, hk => by
    unfold OwnTms at h ⊢
    obtain ⟨c0, c1, c2, c3, c4, xs', mid, e, h0, h1, h2⟩ := h
    have := h2.le
    exact ⟨c0, c1, c2, c3, c4, xs', mid, e, h0, OwnTm.kept h1 (hk.sub (Nat.le_refl _) (by omega)), OwnTms.kept h2 (hk.sub h0 (Nat.le_refl _))⟩
end
theorem OwnTms.up {w : World} : ∀ {lo hi hi' : Nat} {ts : List Tm} {xs : List Value}, OwnTms w lo hi ts xs → hi ≤ hi' → OwnTms w lo hi' ts xs
  | _, _, _, [], _, h, hl => by
    unfold OwnTms at h ⊢
    exact ⟨h.1, by have := h.2; omega⟩
  | _, _, _, _ :: _, _, h, hl => by
    unfold OwnTms at h ⊢
    obtain ⟨c0, c1, c2, c3, c4, xs', mid, e, h0, h1, h2⟩ := h
    exact ⟨c0, c1, c2, c3, c4, xs', mid, e, h0, h1, h2.up hl⟩
theorem OwnTm.wide {w : World} {lo hi lo' hi' : Nat} {t : Tm} {v : Value} (h : OwnTm w lo hi t v) (h1 : lo' ≤ lo) (h2 : hi ≤ hi') : OwnTm w lo' hi' t v := by
  obtain ⟨k, n, a, lv, kids⟩ := t
  obtain ⟨vl, vk, m1, m2, xs, e, q1, hA, q2, q3⟩ := h.open
  unfold OwnTm
  exact ⟨vl, vk, m1, m2, xs, e, q1.wide h1 (Nat.le_refl _), hA, q2, q3.up h2⟩
theorem OwnTms.snoc {w : World} {mid hi : Nat} {t : Tm} {c0 c1 c2 c3 c4 : Value} (hm : mid ≤ hi) (ht : OwnTm w mid hi t (.agg #[c0, c1, c2, c3, c4])) : ∀ {lo : Nat} {ts : List Tm} {xs : List Value}, OwnTms w lo mid ts xs → OwnTms w lo hi (ts ++ [t]) (xs ++ [c0, c1, c2, c3, c4])
  | lo, [], xs, h => by
    unfold OwnTms at h
    rw [h.1]
    simp only [List.nil_append]
    unfold OwnTms
    refine ⟨c0, c1, c2, c3, c4, [], hi, rfl, by have := h.2; omega, ht.wide h.2 (Nat.le_refl _), ?_⟩
    unfold OwnTms
    exact ⟨rfl, Nat.le_refl _⟩
  | lo, s :: ts, xs, h => by
    unfold OwnTms at h
    obtain ⟨d0, d1, d2, d3, d4, xs', m, rfl, h0, h1, h2⟩ := h
    show OwnTms w lo hi (s :: (ts ++ [t])) _
    unfold OwnTms
    exact ⟨d0, d1, d2, d3, d4, xs' ++ [c0, c1, c2, c3, c4], m, rfl, h0, h1, h2.snoc hm ht⟩
theorem OwnTms.get {w : World} : ∀ {lo hi : Nat} {ts : List Tm} {xs : List Value}, OwnTms w lo hi ts xs → ∀ (i : Nat) (t : Tm), ts[i]? = some t → ∃ c0 c1 c2 c3 c4, xs[i * 5]? = some c0 ∧ xs[i * 5 + 1]? = some c1 ∧ xs[i * 5 + 2]? = some c2 ∧ xs[i * 5 + 3]? = some c3 ∧ xs[i * 5 + 4]? = some c4 ∧ OwnTm w lo hi t (.agg #[c0, c1, c2, c3, c4])
  | _, _, [], _, _, i, t, hi => by simp at hi
  | _, _, s :: ts, _, h, 0, t, hi => by
    unfold OwnTms at h
    obtain ⟨c0, c1, c2, c3, c4, xs', mid, rfl, h0, h1, h2⟩ := h
    simp at hi
    subst hi
    exact ⟨c0, c1, c2, c3, c4, rfl, rfl, rfl, rfl, rfl, h1.wide (Nat.le_refl _) h2.le⟩
  | _, _, s :: ts, _, h, i + 1, t, hi => by
    unfold OwnTms at h
    obtain ⟨d0, d1, d2, d3, d4, xs', mid, rfl, h0, h1, h2⟩ := h
    obtain ⟨c0, c1, c2, c3, c4, q0, q1, q2, q3, q4, q5⟩ := h2.get i t (by simpa using hi)
    have e : (i + 1) * 5 = i * 5 + 5 := by omega
    refine ⟨c0, c1, c2, c3, c4, ?_, ?_, ?_, ?_, ?_, q5.wide h0 (Nat.le_refl _)⟩ <;> rw [e] <;> simpa [Nat.add_assoc]
theorem OwnTms.length {w : World} : ∀ {lo hi : Nat} {ts : List Tm} {xs : List Value}, OwnTms w lo hi ts xs → xs.length = ts.length * 5
  | _, _, [], _, h => by unfold OwnTms at h; rw [h.1]; rfl
  | _, _, _ :: _, _, h => by
    unfold OwnTms at h
    obtain ⟨c0, c1, c2, c3, c4, xs', mid, rfl, h0, h1, h2⟩ := h
    simp [h2.length]
    omega
/-- a term of the call's own is a term -/
theorem OwnTm.tmAt {w : World} : ∀ (t : Tm) {lo hi : Nat} {v : Value}, OwnTm w lo hi t v → TmAt w hi t v := by
  intro t
  induction t using Tm.ind with
  | h k n a lv kids ih =>
    intro lo hi v h
    obtain ⟨vl, vk, m1, m2, xs, rfl, q1, ⟨A, c, rfl⟩, q2, q3⟩ := h.open
    obtain ⟨A2, c2, rfl, _⟩ := q2.2.1
    obtain ⟨r1, r2⟩ := q1.levs
    have l2 := q2.1
    have l3 := q3.le
    refine TmAt.make r2 (r1.keep (by omega) fun _ _ => rfl) ?_
    rcases q2.2.2.1.2 with ⟨e, e2⟩ | ⟨g, cap, cur, e, p1, p2, p3, p4, p5, p6⟩
    · injection e with e1 e3 e4
      exact ⟨fun _ => e4, fun hn => by omega⟩
    · injection e with e1 e3 e4
      subst e1 e4
      refine ⟨(fun x => by cases x), fun hn => ⟨g, 0, rfl, by have := q2.2.2.2 g rfl; omega, TmsAt.of fun i t ht => ?_⟩⟩
      obtain ⟨c0, c1, d2, c3, c4, s0, s1, s2, s3, s4, s5⟩ := q3.get i t ht
      have hi' : i < kids.length := (List.getElem?_eq_some_iff.1 ht).1
      refine ⟨_, ⟨c0, c1, d2, c3, c4, rfl, ?_, ?_, ?_, ?_, ?_⟩, ih t (List.mem_of_getElem? ht) s5⟩
      · rw [show 0 + i * 5 = i * 5 by omega]; exact (q2.2.2.1.cellAt (i * 5) (by omega)).trans s0
      · rw [show 0 + i * 5 + 1 = i * 5 + 1 by omega]; exact (q2.2.2.1.cellAt (i * 5 + 1) (by omega)).trans s1
      · rw [show 0 + i * 5 + 2 = i * 5 + 2 by omega]; exact (q2.2.2.1.cellAt (i * 5 + 2) (by omega)).trans s2
      · rw [show 0 + i * 5 + 3 = i * 5 + 3 by omega]; exact (q2.2.2.1.cellAt (i * 5 + 3) (by omega)).trans s3
      · rw [show 0 + i * 5 + 4 = i * 5 + 4 by omega]; exact (q2.2.2.1.cellAt (i * 5 + 4) (by omega)).trans s4
end Go.Proofs.YtfgnnbpbbnnnhaaDoor
namespace Go.Proofs.YtfgnnbpbbnnnhaaDoor
open Go.RowKit Go.Maps
theorem own_nil (w : World) (B : Nat) (e : TypeId) (s : Nat) : w.ownsRow B e s (.slice none 0 0) 0 [] := ⟨by simp, Or.inl ⟨rfl, rfl⟩⟩
theorem lev_news {w w' : World} {b o : Nat} {ps : List (Int × Int)} (hb : b < w.heap.size) (hw : Below w.heap.size w w')
    (h : ∀ i, i < ps.length → w.cell? ⟨b, o + i * 2, none⟩ = some (.int .i64 (ps.getD i (0, 0)).1) ∧ w.cell? ⟨b, o + i * 2 + 1, none⟩ = some (.int .i64 (ps.getD i (0, 0)).2)) :
    ∀ j u, (cells ps)[j]? = some u → w'.cell? ((⟨b, o, none⟩ : Addr).add j) = some u := fun j u hu => (hw.cell (by rw [addr_block]; exact hb)).trans (Lev.src h j u hu)
theorem thawed {w : World} {g : Nat} {cs : Array Value} {t : TypeId} (h : w.heap[g]? = some (.cells cs t (0, 0))) (j : Nat) : w.frozen? ⟨g, j, none⟩ = false := by simp [World.frozen?, h]
theorem grown_refl (w : World) (r : Option Nat) : w.grownBy w r := ⟨rfl, rfl, rfl, Nat.le_refl _, fun _ _ _ => rfl⟩
/-- one level's copy -/
def CopyPost (w : World) (ps : List (Int × Int)) (e : Ending) (w' : World) : Prop := ∃ v, e = .returned (.agg #[v]) ∧ RowIn w' w.heap.size w'.heap.size 91 2 v ps.length (cells ps) ∧ Below w.heap.size w w'
set_option maxRecDepth 100000 in
set_option maxHeartbeats 1000000 in
theorem copied_any (A : Option Addr) (ps : List (Int × Int)) (n c : Nat) (w : World) (hn : ps.length = n) (hm : Few n) (h : Lev w w.heap.size A ps) (hc : A = none → c = 0) :
    Calls Tryd.prog 98 #[.agg #[.slice A n c]] w (CopyPost w ps) := by
  obtain ⟨i0, hi, hz0, hz1, hz2⟩ := info_parts infoP
  have HM := Lib.hid hm
  have HN := Lib.hid hn
  obtain ⟨W2, hW2⟩ : ∃ W, (w.alloc (.cells #[.slice A n c] 39)).alloc (.cells #[.slice none 0 0] 39) = W := ⟨_, rfl⟩
  have hb0 : Below w.heap.size w W2 := by rw [← hW2]; exact ((Below.refl _ _).alloc (Nat.le_refl _) _).alloc (by simp) _
  have hs2 : W2.heap.size = w.heap.size + 2 := by rw [← hW2]; simp
  have x2 : W2.heap[w.heap.size + 1]? = some (.cells #[.slice none 0 0] 39 (0, 0)) := by
    rw [← hW2]; exact (two_allocs w (.cells #[.slice A n c] 39) (.cells #[.slice none 0 0] 39)).2.1
  have x1 : W2.heap[w.heap.size]? = some (.cells #[.slice A n c] 39 (0, 0)) := by
    rw [← hW2]; exact (two_allocs w (.cells #[.slice A n c] 39) (.cells #[.slice none 0 0] 39)).1
  have f1 := cell_of_one x1
  have hfin : ∀ v w1, w1.ownsRow W2.heap.size 91 2 v ps.length (cells ps) → (∃ A c, v = .slice A ps.length c) → W2.grownBy w1 none → CopyPost w ps (.returned (.agg #[v])) (w1.setCell ⟨w.heap.size + 1, 0, none⟩ v) ∧ w1.heap[w.heap.size + 1]? = some (.cells #[.slice none 0 0] 39 (0, 0)) := fun v w1 ho hv hg => by
    have hb1 : Below W2.heap.size W2 w1 := (Below.refl _ _).grown hg (Nat.le_refl _) (fun k e => by cases e)
    have hz := hg.size
    have hsz : (w1.setCell ⟨w.heap.size + 1, 0, none⟩ v).heap.size = w1.heap.size := by simp [World.setCell]
    refine ⟨⟨v, rfl, ⟨by omega, ?_, ?_, fun k hk => ?_⟩, ((hb0.trans (hb1.mono (by omega))).setCell (p := ⟨w.heap.size + 1, 0, none⟩) (by simp) v)⟩, (hb1.block _ (by omega)).trans x2⟩
    · obtain ⟨A, c, e⟩ := hv
      exact ⟨A, c, e, by rw [HN.out]; have := HM.out; unfold Few at this; omega⟩
    · refine own_down (lo := W2.heap.size) ?_ (by omega)
      refine own_in (hi := w1.heap.size) ho (fun k hk => (ho.lt k hk).2) fun b hb1 hb2 => ?_
      exact Below.heap_setCell _ _ _ _ (by show b ≠ w.heap.size + 1; omega)
    · have := (ho.lt k hk).2
      omega
  have HF := Lib.hid hfin
  clear hfin
  rcases A with _ | ad
  · obtain rfl := hc rfl
    have h0 : n = 0 := by
      rcases Nat.eq_zero_or_pos n with h0 | h0
      · exact h0
      · obtain ⟨b, o, e, _⟩ := h (by omega)
        cases e
    subst h0
    obtain rfl := List.eq_nil_of_length_eq_zero hn
    obtain ⟨HX, HY⟩ := HF.out _ _ (own_nil W2 _ _ 2) ⟨none, 0, rfl⟩ (grown_refl W2 none)
    have f2 := cell_of_one HY
    have z2 := thawed HY 0
    have HX := Lib.hid HX
    clear h hm hn hc
    go_enter Tryd.func98, Tryd.ntmps98
    go_upto_region 1 with (fail)
    clear hW2
    go_wp2_with (at_builtin; refine (wpList_append_own_none rfl _ _ 37 rfl W2.heap.size 91 i0 2 Tryd.underlying37 hi (.slice none 0 0) 0 [] rfl (own_nil _ _ _ _) rfl ?_))
    go_wp2
    exact bodyPost_ret (v := .agg #[.slice none 0 0]) (by simp [results, Tryd.results98, go_sem, f2]) rfl HX.out
  · have hsrc : ∀ j u, (cells ps)[j]? = some u → W2.cell? (ad.add j) = some u := by
      rcases Nat.eq_zero_or_pos n with h0 | h0
      · subst h0
        obtain rfl := List.eq_nil_of_length_eq_zero hn
        intro j u hu
        simp [cells] at hu
      · obtain ⟨b, o, e, hbB, hcell⟩ := h (by omega)
        injection e with e
        subst e
        exact lev_news hbB hb0 hcell
    have HSRC := Lib.hid hsrc
    clear h hsrc hc
    go_enter Tryd.func98, Tryd.ntmps98
    go_upto_region 1 with (fail)
    have HL : Hid ((cells ps).length = n * 2) := by show _ = _; rw [cells_length, HN.out]
    clear hW2 hn hm
    go_wp2_with (at_builtin; refine (wpList_append_own_at _ rfl _ _ 37 rfl W2.heap.size 91 i0 (.agg #[.int .i64 0, .int .i64 0]) 2 16 Tryd.underlying37 hi hz0 hz1 hz2 rfl (by decide) (.slice none 0 0) 0 [] rfl (own_nil _ _ _ _) ad n c (cells ps) rfl HL.out HSRC.out (cells_one ps) ?c1 ?c2 ?c3 ?_))
    case c1 => have := HM.out; unfold Few at this; unfold maxLen; omega
    case c2 => have := HM.out; unfold Few at this; omega
    case c3 => exact Nat.le_refl _
    intro v w1 ho hg _ hat
    have ho2 : w1.ownsRow W2.heap.size 91 2 v ps.length (cells ps) := by rw [HN.out, hs2]; exact ho
    obtain ⟨A2, n2, m2, rfl⟩ := own_slice ho2
    obtain ⟨HX, HY⟩ := HF.out _ w1 ho2 (by
      rcases ho2.2 with ⟨e, e2⟩ | ⟨g, cap, cur, e, _⟩
      · exact ⟨none, 0, by rw [e, e2]⟩
      · exact ⟨_, _, e⟩) hg
    have f2 := cell_of_one HY
    have z2 := thawed HY 0
    have HX := Lib.hid HX
    clear ho ho2 hg hat
    go_wp2
    exact bodyPost_ret (v := .agg #[.slice A2 n2 m2]) (by simp [results, Tryd.results98, go_sem, f2]) rfl HX.out
theorem infoLev : (Tryd.prog.info? 39).map (fun i => (i.zero, i.size, i.bytes)) = some (some (.agg #[.slice none 0 0]), 1, 24) := by kernel_rfl
theorem keptIn_setCell (w : World) {lo hi g : Nat} (j : Nat) (v : Value) (h : g < lo ∨ hi ≤ g) : KeptIn lo hi w (w.setCell ⟨g, j, none⟩ v) := fun b h1 h2 => Below.heap_setCell w _ _ _ (fun e => by have e : b = g := e; omega)
theorem keptIn_below {w w' : World} {lo hi B : Nat} (h : Below B w w') (hB : hi ≤ B) : KeptIn lo hi w w' := fun b _ h2 => h.block b (by omega)
theorem grown_under {w w' : World} (h : w.grownBy w' none) : Below w.heap.size w w' := ⟨h.os, h.tape, h.output, h.size, fun k hk => h.block k hk (by simp)⟩
/-- levels, not too many, none of more parts than a machine holds -/
def WideL (ls : List (List (Int × Int))) : Prop := ls.length ≤ 1048576 ∧ ∀ l ∈ ls, Few l.length
theorem SlimL.wide {ls : List (List (Int × Int))} (h : SlimL ls) : WideL ls := ⟨h.1, fun l hl => by have := h.2 l hl; unfold Few; omega⟩
/-- a row of levels of the call's own, told -/
def EachPost (w : World) (ls : List (List (Int × Int))) (e : Ending) (w' : World) : Prop := ∃ A c, e = .returned (.slice A ls.length c) ∧ OwnRowL w' w.heap.size w'.heap.size (.slice A ls.length c) ls ∧ Below w.heap.size w w'
set_option maxRecDepth 100000 in
set_option maxHeartbeats 1000000 in
theorem each_copied (A : Option Addr) (ls : List (List (Int × Int))) (n c : Nat) (w : World) (hn : ls.length = n) (hm : n ≤ 1048576) (h6 : ∀ l ∈ ls, Few l.length) (h : Levs w w.heap.size A ls) :
    Calls Tryd.prog 57 #[.slice A n c, .func (.func 98) #[] #[]] w (EachPost w ls) := by
  obtain ⟨i0, hi, hz0, hz1, hz2⟩ := info_parts infoLev
  have HL := Lib.hid h
  have HN := Lib.hid hn
  have H6 := Lib.hid h6
  rcases Nat.eq_zero_or_pos n with h0 | h0
  · subst h0
    have e : ls = [] := List.eq_nil_of_length_eq_zero hn
    have HF : Hid (EachPost w ls (.returned (.slice none 0 0)) w) := by
      rw [e]
      exact ⟨none, 0, rfl, ⟨w.heap.size, [], ⟨Nat.le_refl _, ⟨none, 0, rfl, by simp⟩, own_nil _ _ _ _, fun k hk => by cases hk⟩, rfl, Nat.le_refl _⟩, Below.refl _ _⟩
    clear h h6 hn e
    go_enter Tryd.func57, Tryd.ntmps57
    go_wp2
    go_ret
    exact HF.out
  · have hne : ((n : Int) == 0) = false := by simp; omega
    clear h h6 hn
    go_enter Tryd.func57, Tryd.ntmps57
    go_wp2_with (at_make; refine wpList_make_full _ rfl _ _ 24 rfl w.heap.size 39 i0 (.agg #[.slice none 0 0]) 1 Tryd.underlying24 hi hz0 hz1 .i64 .i64 n n n rfl rfl rfl rfl ?b1 ?b2 ?b3 ?_)
    case b1 => rw [hz2]; omega
    case b2 => unfold maxLen; omega
    case b3 => exact Nat.le_refl _
    intro w1 ho1 hg1
    have HB1 : Hid (Below w.heap.size w w1) := grown_under hg1
    have HO := Lib.hid ho1
    have s1 : w.heap.size < w1.heap.size := (ho1.lt w.heap.size rfl).2
    clear ho1 hg1
    go_wp2
    go_loopw [16] (fun i wr => ∃ (k : Nat) (xs : List Value), k ≤ n ∧ i = .int .i64 (k : Int) ∧ Below w.heap.size w wr ∧ w.heap.size < wr.heap.size ∧ wr.ownsRow w.heap.size 39 1 (.slice (some ⟨w.heap.size, 0, none⟩) n n) n xs ∧ OwnLvs wr (w.heap.size + 1) wr.heap.size (ls.take k) (xs.take k)) (fun i _ => n - (intOf i).toNat)
    case atStart => exact ⟨0, _, Nat.zero_le _, rfl, HB1.out, s1, HO.out, by simp, by omega⟩
    case round =>
      obtain ⟨k, xs, hk, rfl, hb, hsz, hrow, hown⟩ := hrel
      have hbz := hb.size
      have HB := Lib.hid hb
      have HR := Lib.hid hrow
      have HOW := Lib.hid hown
      by_cases hlt : k < n
      · obtain ⟨b, o, e, hbB, hcell⟩ := HL.out (by rw [HN.out]; omega)
        subst e
        obtain ⟨Ai, ci, q0, q1, q2, _⟩ := hcell k (by rw [HN.out]; exact hlt)
        obtain ⟨l, el⟩ : ∃ l, ls[k]? = some l := ⟨_, List.getElem?_eq_getElem (by rw [HN.out]; exact hlt)⟩
        have eg : ls.getD k [] = l := by rw [List.getD_eq_getElem?_getD, el]; rfl
        rw [eg] at q0 q1
        have hl6 := H6.out l (List.mem_of_getElem? el)
        obtain ⟨ni, hni⟩ : ∃ j, l.length = j := ⟨_, rfl⟩
        rw [hni] at q0 hl6
        have c0 := (hb.cell (p := ⟨b, o + k, none⟩) hbB).trans q0
        have HC : Hid (∀ w', Below wr.heap.size wr w' → Calls Tryd.prog 98 #[.agg #[.slice Ai ni ci]] w' (CopyPost w' l)) := fun w' hx => by
          have hx2 := hb.trans (hx.mono hbz)
          exact copied_any Ai l ni ci w' hni hl6 ((q1.below hx2).more hx2.size) q2
        have EL := Lib.hid el
        have ij0 : (0 : Int) ≤ (k : Int) := by omega
        have ij1 : (k : Int) < (n : Int) := by omega
        clear hb hrow hown q0 q1 q2 el eg hl6 hni hcell
        go_wp2_with (fail)
        refine (HC.out _ ((Below.refl _ _).alloc (Nat.le_refl _) _)).mono ?_
        rintro e w2 ⟨v, rfl, hv, hb2⟩
        obtain ⟨A2, c2, rfl, _⟩ := hv.2.1
        have hb3 : Below wr.heap.size wr w2 := ((Below.refl _ _).alloc (Nat.le_refl _) _).trans (hb2.mono (by simp))
        have hs2 := hb3.size
        have hr2 : w2.ownsRow w.heap.size 39 1 (.slice (some ⟨w.heap.size, 0, none⟩) n n) n xs := own_in (hi := wr.heap.size) HR.out (fun k hk => (HR.out.lt k hk).2) (keptIn_below hb3 (Nat.le_refl _))
        have f2 := hr2.cellAt k (by omega)
        have z2 := hr2.frozenAt k
        have hxl : xs.length = n := by have := HR.out.1; omega
        rw [List.getElem?_eq_getElem (by omega)] at f2
        obtain ⟨u, hu⟩ : ∃ u, xs[k] = u := ⟨_, rfl⟩
        rw [hu] at f2
        have HFIN : Hid (Below w.heap.size w (w2.setCell ⟨w.heap.size, k, none⟩ (.slice A2 l.length c2)) ∧ w.heap.size < (w2.setCell ⟨w.heap.size, k, none⟩ (.slice A2 l.length c2)).heap.size ∧
            (w2.setCell ⟨w.heap.size, k, none⟩ (.slice A2 l.length c2)).ownsRow w.heap.size 39 1 (.slice (some ⟨w.heap.size, 0, none⟩) n n) n (xs.set k (.slice A2 l.length c2)) ∧
            OwnLvs (w2.setCell ⟨w.heap.size, k, none⟩ (.slice A2 l.length c2)) (w.heap.size + 1) (w2.setCell ⟨w.heap.size, k, none⟩ (.slice A2 l.length c2)).heap.size (ls.take (k + 1)) ((xs.set k (.slice A2 l.length c2)).take (k + 1))) := by
          have e3 : (w2.setCell ⟨w.heap.size, k, none⟩ (.slice A2 l.length c2)).heap.size = w2.heap.size := by simp [World.setCell]
          refine ⟨(HB.out.trans (hb3.mono hbz)).setCell (Nat.le_refl _) _, by omega, (hr2.stored k _).1, ?_⟩
          have e1 : ls.take (k + 1) = ls.take k ++ [l] := by rw [List.take_add_one, EL.out]; rfl
          have e2 : (xs.set k (.slice A2 l.length c2)).take (k + 1) = xs.take k ++ [.slice A2 l.length c2] := by
            rw [List.take_add_one, List.getElem?_set_self (by omega), List.take_set_of_le (Nat.le_refl _)]; rfl
          rw [e1, e2, e3]
          refine OwnLvs.snoc (mid := wr.heap.size) ?_ ?_
          · exact (hv.kept (keptIn_setCell _ _ _ (by simp; omega))).wide (by simp) (Nat.le_refl _)
          · exact (HOW.out.kept (keptIn_below hb3 (Nat.le_refl _))).kept (keptIn_setCell _ _ _ (by omega))
        obtain ⟨ni2, hni2⟩ : ∃ j, l.length = j := ⟨_, rfl⟩
        rw [hni2] at HFIN ⊢
        clear hv hb2 hb3 hr2 hu hni2
        go_wp2
        go_roundw
        case rel => exact ⟨k + 1, _, by omega, by go_num, HFIN.out.1, HFIN.out.2.1, HFIN.out.2.2.1, HFIN.out.2.2.2⟩
        case measure => simp [intOf]; omega
      · have hkn : k = n := by omega
        have e1 : ls.take k = ls := List.take_of_length_le (by rw [HN.out]; omega)
        have hxl : xs.length = n := by have := hrow.1; omega
        have e2 : xs.take k = xs := List.take_of_length_le (by omega)
        rw [e1, e2] at hown
        have HF : Hid (EachPost w ls (.returned (.slice (some ⟨w.heap.size, 0, none⟩) n n)) wr) := by
          refine ⟨some ⟨w.heap.size, 0, none⟩, n, by rw [HN.out], ⟨w.heap.size + 1, xs, ⟨by omega, ⟨_, _, rfl, by rw [HN.out]; omega⟩, by rw [HN.out]; exact hrow, fun k hk => by have hk2 : w.heap.size = k := Option.some.inj hk; omega⟩, hown⟩, hb⟩
        clear hb hrow hown e1 e2 hkn HR HOW
        go_wp2
        go_ret
        exact HF.out
end Go.Proofs.YtfgnnbpbbnnnhaaDoor
namespace Go.Proofs.YtfgnnbpbbnnnhaaDoor
open Go.RowKit Go.Maps
/-- the table's binders -/
def bindTab : List Int := [0, 0, 0, 0, 2, 2, 0, 3, 0, 0, 0, 0, 2, 0, 0, 0, 2, 0, 2, 0, 0, 0, 0, 0, 0]
/-- the table, as far as binders go -/
def KindsAt (w : World) : Prop := ∀ i : Nat, i < 25 → w.cell? ⟨0, i * 5 + 4, none⟩ = some (.int .i64 (bindTab.getD i 0))
theorem KindsAt.below {w w' : World} {B : Nat} (h : KindsAt w) (hb : Below B w w') (hB : 0 < B) : KindsAt w' := fun i hi => (hb.cell (p := ⟨0, i * 5 + 4, none⟩) hB).trans (h i hi)
/-- does a kid of this number stand below a binder? -/
def binds (k : Int) (i : Nat) : Bool := decide (1 ≤ k ∧ k ≤ 24 ∧ bindTab.getD k.toNat 0 = (i : Int) + 1)
def under (k : Int) (i : Nat) : Nat := if binds k i then 1 else 0
set_option maxRecDepth 100000 in
set_option maxHeartbeats 1000000 in
theorem known_any (k : Int) (w : World) : Calls Tryd.prog 99 #[.int .i64 k] w (HasPost w (decide (1 ≤ k) && decide (k ≤ 24))) := by
  obtain ⟨r, hr⟩ : ∃ r, (decide (1 ≤ k) && decide (k ≤ 24)) = r := ⟨_, rfl⟩
  rw [hr]
  by_cases h1 : 1 ≤ k
  · by_cases h2 : k ≤ 24
    · have HF : Hid (r = true) := by show _ = _; rw [← hr]; simp [h1, h2]
      clear hr
      go_enter Tryd.func99, Tryd.ntmps99
      go_wp2
      go_ret
      exact ⟨by rw [HF.out]; rfl, Below.refl _ _⟩
    · have HF : Hid (r = false) := by show _ = _; rw [← hr]; simp [h2]
      clear hr
      go_enter Tryd.func99, Tryd.ntmps99
      go_wp2
      go_ret
      exact ⟨by rw [HF.out]; rfl, Below.refl _ _⟩
  · have HF : Hid (r = false) := by show _ = _; rw [← hr]; simp [h1]
    clear hr
    go_enter Tryd.func99, Tryd.ntmps99
    go_wp2
    go_ret
    exact ⟨by rw [HF.out]; rfl, Below.refl _ _⟩
set_option maxRecDepth 100000 in
set_option maxHeartbeats 1000000 in
theorem binds_any (k : Int) (i : Nat) (w : World) (hi : i ≤ 1048576) (hK : KindsAt w) : Calls Tryd.prog 97 #[.int .i64 k, .int .i64 (i : Int)] w (HasPost w (binds k i)) := by
  have HK := Lib.hid (known_any k w)
  have ws : IntKind.i64.wrap ((i : Int) + 1) = (i : Int) + 1 := IntWalk.i64_in _ (by omega)
  have ij0 : (0 : Int) ≤ (i : Int) := by omega
  by_cases h : 1 ≤ k ∧ k ≤ 24
  · obtain ⟨j, rfl⟩ : ∃ j : Nat, k = (j : Int) := ⟨k.toNat, by omega⟩
    have hj : j < 25 := by omega
    have e : (decide (1 ≤ (j : Int)) && decide ((j : Int) ≤ 24)) = true := by simp; omega
    rw [e] at HK
    obtain ⟨x, hx⟩ : ∃ x, bindTab.getD j 0 = x := ⟨_, rfl⟩
    have hKj : Hid (KindsAt w) := hK
    have HF : Hid (binds (j : Int) i = (x == (i : Int) + 1)) := by
      show _ = _
      unfold binds
      rw [Bool.eq_iff_iff]
      simp only [decide_eq_true_eq, beq_iff_eq, Int.toNat_natCast, hx]
      exact ⟨fun h => h.2.2, fun h => ⟨by omega, by omega, h⟩⟩
    have HX := Lib.hid hx
    clear hK h e hx
    go_enter Tryd.func97, Tryd.ntmps97
    go_wp2_with (fail)
    refine HK.out.mono ?_
    rintro e w1 ⟨rfl, hb⟩
    have hb0 : 0 < w.heap.size := cell_lt (hKj.out 0 (by decide))
    have c0 := (hb.cell (p := ⟨0, j * 5 + 4, none⟩) hb0).trans (hKj.out j hj)
    rw [HX.out] at c0
    have HB := Lib.hid hb
    have ij1 : (0 : Int) ≤ (j : Int) := by omega
    have ij2 : (j : Int) < 25 := by omega
    clear hb HX
    go_wp2
    go_ret
    exact ⟨by rw [HF.out]; rfl, HB.out⟩
  · have e : (decide (1 ≤ k) && decide (k ≤ 24)) = false := by
      rw [Bool.and_eq_false_iff]
      simp only [decide_eq_false_iff_not]
      omega
    rw [e] at HK
    have HF : Hid (binds k i = false) := decide_eq_false fun x => h ⟨x.1, x.2.1⟩
    clear hK h e
    go_enter Tryd.func97, Tryd.ntmps97
    go_wp2_with (fail)
    refine HK.out.mono ?_
    rintro e w1 ⟨rfl, hb⟩
    have HB := Lib.hid hb
    clear hb
    go_wp2
    go_ret
    exact ⟨by rw [HF.out]; rfl, HB.out⟩
set_option maxRecDepth 100000 in
set_option maxHeartbeats 1000000 in
theorem below_any (d : Nat) (k : Int) (i : Nat) (w : World) (hd : d ≤ 1073741824) (hi : i ≤ 1048576) (hK : KindsAt w) : Calls Tryd.prog 82 #[.agg #[.int .i64 (d : Int)], .int .i64 k, .int .i64 (i : Int)] w (fun e w' => e = .returned (.agg #[.int .i64 ((d + under k i : Nat) : Int)]) ∧ Below w.heap.size w w') := by
  obtain ⟨W2, hW2⟩ : ∃ W, (w.alloc (.cells #[.int .i64 (d : Int)] 72)).alloc (.cells #[.int .i64 0] 72) = W := ⟨_, rfl⟩
  have hb0 : Below w.heap.size w W2 := by rw [← hW2]; exact ((Below.refl _ _).alloc (Nat.le_refl _) _).alloc (by simp) _
  have hs2 : W2.heap.size = w.heap.size + 2 := by rw [← hW2]; simp
  obtain ⟨x1, x2, _⟩ := two_allocs w (.cells #[.int .i64 (d : Int)] 72) (.cells #[.int .i64 0] 72)
  rw [hW2] at x1 x2
  have h0 : 0 < w.heap.size := cell_lt (hK 0 (by decide))
  obtain ⟨r, hr⟩ : ∃ r, binds k i = r := ⟨_, rfl⟩
  have HC : Hid (Calls Tryd.prog 97 #[.int .i64 k, .int .i64 (i : Int)] W2 (HasPost W2 r)) := by rw [← hr]; exact binds_any k i W2 hi (hK.below hb0 h0)
  have HU : Hid (under k i = if r then 1 else 0) := by show _ = _; rw [← hr]; rfl
  have X1 := Lib.hid x1
  have X2 := Lib.hid x2
  have HB0 := Lib.hid hb0
  have HS2 := Lib.hid hs2
  clear hK hr x1 x2 hb0
  go_enter Tryd.func82, Tryd.ntmps82
  go_upto_region 1 with (fail)
  clear hW2 hs2
  go_wp2_with (fail)
  refine HC.out.mono ?_
  rintro e w1 ⟨rfl, hb⟩
  have y1 := (hb.block w.heap.size (heap_some_lt X1.out)).trans X1.out
  have y2 := (hb.block (w.heap.size + 1) (heap_some_lt X2.out)).trans X2.out
  have f1 := cell_of_one y1
  have f2 := cell_of_one y2
  have z1 := free_of_one y1
  have z2 := free_of_one y2
  have HB1 : Hid (Below w.heap.size w w1) := HB0.out.trans (hb.mono (by have := HS2.out; omega))
  have hb1 : w.heap.size < w1.heap.size := heap_some_lt y1
  have hb2 : w.heap.size + 1 < w1.heap.size := heap_some_lt y2
  have Y1 := Lib.hid y1
  have Y2 := Lib.hid y2
  clear hb y1 y2
  cases r with
  | true =>
    have HU2 : Hid (under k i = 1) := HU.out
    have ws : IntKind.i64.wrap ((d : Int) + 1) = ((d + 1 : Nat) : Int) := by rw [IntWalk.i64_in _ (by omega)]; omega
    have HFIN : Hid (Below w.heap.size w ((w1.setCell ⟨w.heap.size, 0, none⟩ (.int .i64 ((d + 1 : Nat) : Int))).setCell ⟨w.heap.size + 1, 0, none⟩ (.int .i64 ((d + 1 : Nat) : Int)))) := (HB1.out.setCell (Nat.le_refl _) _).setCell (by simp) _
    clear HU
    go_wp2
    exact bodyPost_ret (v := .agg #[.int .i64 ((d + 1 : Nat) : Int)]) (by simp [results, Tryd.results82, go_sem, f2]) rfl ⟨by rw [HU2.out], HFIN.out⟩
  | false =>
    have HU2 : Hid (under k i = 0) := HU.out
    have HFIN : Hid (Below w.heap.size w (w1.setCell ⟨w.heap.size + 1, 0, none⟩ (.int .i64 (d : Int)))) := HB1.out.setCell (by simp) _
    clear HU
    go_wp2
    exact bodyPost_ret (v := .agg #[.int .i64 (d : Int)]) (by simp [results, Tryd.results82, go_sem, f2]) rfl ⟨by rw [HU2.out]; rfl, HFIN.out⟩
/-- what means answers -/
def meansS (d : Nat) (n : Int) : Value := if n < d then .tuple #[.int .i64 0, .bool false] else .tuple #[.int .i64 (n - d), .bool true]
set_option maxRecDepth 100000 in
set_option maxHeartbeats 1000000 in
theorem means_any (d : Nat) (n : Int) (w : World) (hn : Rng n) : Calls Tryd.prog 36 #[.agg #[.int .i64 (d : Int)], .int .i64 n] w (fun e w' => e = .returned (meansS d n) ∧ Below w.heap.size w w') := by
  have HB : Hid (Below w.heap.size w (w.alloc (.cells #[.int .i64 (d : Int)] 72))) := (Below.refl _ _).alloc (Nat.le_refl _) _
  have HR := Lib.hid hn
  clear hn
  by_cases h : n < (d : Int)
  · have HF : Hid (meansS d n = .tuple #[.int .i64 0, .bool false]) := if_pos h
    go_enter Tryd.func36, Tryd.ntmps36
    go_wp2
    go_ret2
    exact ⟨by rw [HF.out]; rfl, HB.out⟩
  · have HF : Hid (meansS d n = .tuple #[.int .i64 (n - d), .bool true]) := if_neg h
    have ws : IntKind.i64.wrap (n - (d : Int)) = n - (d : Int) := IntWalk.i64_in _ (by have := HR.out; unfold Rng at this; omega)
    go_enter Tryd.func36, Tryd.ntmps36
    go_wp2
    go_ret2
    exact ⟨by rw [HF.out]; rfl, HB.out⟩
end Go.Proofs.YtfgnnbpbbnnnhaaDoor
namespace Go.Proofs.YtfgnnbpbbnnnhaaDoor
open Go.RowKit Go.Maps
/-- what a turn makes of a node: the node with another number and other levels, to go on from; or another term, and that is all -/
inductive Turned where
  | go (n : Int) (lv : List (List (Int × Int)))
  | done (t : Tm)
/-- a turn: by the depth, and a node's kind, number, levels -/
abbrev Turn := Nat → Int → Int → List (List (Int × Int)) → Turned
mutual
/-- what a term becomes -/
def Tm.walk (tr : Turn) (d : Nat) : Tm → Tm
  | .mk k n a lv kids => match tr d k n lv with
    | .go n' lv' => .mk k n' a lv' (Tm.walkL tr d k 0 kids)
    | .done u => u
def Tm.walkL (tr : Turn) (d : Nat) (k : Int) (i : Nat) : List Tm → List Tm
  | [] => []
  | t :: ts => t.walk tr (d + under k i) :: Tm.walkL tr d k (i + 1) ts
end
theorem Tm.walk_go {tr : Turn} {d : Nat} {k n a n' : Int} {lv lv' : List (List (Int × Int))} {kids : List Tm} (h : tr d k n lv = .go n' lv') : (Tm.mk k n a lv kids).walk tr d = .mk k n' a lv' (Tm.walkL tr d k 0 kids) := by
  rw [Tm.walk, h]
theorem Tm.walk_done {tr : Turn} {d : Nat} {k n a : Int} {lv : List (List (Int × Int))} {kids : List Tm} {u : Tm} (h : tr d k n lv = .done u) : (Tm.mk k n a lv kids).walk tr d = u := by
  rw [Tm.walk, h]
theorem Tm.walkL_length (tr : Turn) (d : Nat) (k : Int) : ∀ (ts : List Tm) (i : Nat), (Tm.walkL tr d k i ts).length = ts.length
  | [], i => by simp [Tm.walkL]
  | t :: ts, i => by simp [Tm.walkL, Tm.walkL_length tr d k ts]
theorem Tm.walkL_get (tr : Turn) (d : Nat) (k : Int) : ∀ (ts : List Tm) (i j : Nat), (Tm.walkL tr d k i ts)[j]? = ts[j]?.map (fun t => t.walk tr (d + under k (i + j)))
  | [], i, j => by simp [Tm.walkL]
  | t :: ts, i, 0 => by simp [Tm.walkL]
  | t :: ts, i, j + 1 => by
    have := Tm.walkL_get tr d k ts (i + 1) j
    simp only [Tm.walkL, List.getElem?_cons_succ, this]
    rw [show i + 1 + j = i + (j + 1) by omega]
/-- is a number at this depth that of an outer variable from some on? -/
def outer (d : Nat) (k n from' : Int) : Bool := decide (k = 1 ∧ (d : Int) ≤ n ∧ from' ≤ n - d)
/-- what lifting makes of a number, as the machine adds -/
def liftN (d : Nat) (k n from' m : Int) : Int := if outer d k n from' then IntKind.i64.wrap (n + m) else n
/-- lifting, as the machine adds -/
def liftT (m from' : Int) : Turn := fun d k n lv => .go (liftN d k n from' m) lv
theorem outer_iff {d : Nat} {k n from' : Int} : outer d k n from' = true ↔ k = 1 ∧ (d : Int) ≤ n ∧ from' ≤ n - d := by unfold outer; exact decide_eq_true_iff
theorem under_le (k : Int) (i : Nat) : under k i ≤ 1 := by unfold under; split <;> omega
theorem Tm.size_pos (t : Tm) : 1 ≤ t.size := by
  cases t
  rw [Tm.size_mk]
  omega
end Go.Proofs.YtfgnnbpbbnnnhaaDoor
