/- Laws. -/
import Derived.Test.YtfgnnbpbbnnnhaaDoorRraa
import Derived.Test.YtfgnnbpbbnnnhaaDoorRrad
import Derived.Defers
import Derived.Recover
namespace Go.Proofs.YtfgnnbpbbnnnhaaDoor
open Go.RowKit Go.Maps
theorem cell_lt {w : World} {g o : Nat} {v : Value} (h : w.cell? ⟨g, o, none⟩ = some v) : g < w.heap.size := by
  rcases Nat.lt_or_ge g w.heap.size with hlt | hge
  · exact hlt
  · simp [World.cell?, Array.getElem?_eq_none hge] at h
def HasPost (w : World) (r : Bool) (e : Ending) (w' : World) : Prop := e = .returned (.bool r) ∧ Below w.heap.size w w'
end Go.Proofs.YtfgnnbpbbnnnhaaDoor
namespace Go.Proofs.YtfgnnbpbbnnnhaaDoor
open Go.RowKit Go.Maps
/-- A row of levels in memory: each by its slice. -/
def Levs (w : World) (B : Nat) (A : Option Addr) (ls : List (List (Int × Int))) : Prop :=
  0 < ls.length → ∃ b o, A = some ⟨b, o, none⟩ ∧ b < B ∧ ∀ i, i < ls.length → ∃ Ai ci, w.cell? ⟨b, o + i, none⟩ = some (.slice Ai (ls.getD i []).length ci) ∧ Lev w B Ai (ls.getD i []) ∧ (Ai = none → ci = 0) ∧ (ls.getD i []).length ≤ 4611686018427387904
theorem Levs.below {w w' : World} {B : Nat} {A : Option Addr} {ls : List (List (Int × Int))} (h : Levs w B A ls) (hb : Below B w w') : Levs w' B A ls := fun hn => by
  obtain ⟨b, o, e, hbB, hc⟩ := h hn
  refine ⟨b, o, e, hbB, fun i hi => ?_⟩
  obtain ⟨Ai, ci, h1, h2, h3⟩ := hc i hi
  exact ⟨Ai, ci, (hb.cell hbB).trans h1, h2.below hb, h3⟩
theorem Levs.more {w : World} {B B' : Nat} {A : Option Addr} {ls : List (List (Int × Int))} (h : Levs w B A ls) (hB : B ≤ B') : Levs w B' A ls := fun hn => by
  obtain ⟨b, o, e, hbB, hc⟩ := h hn
  refine ⟨b, o, e, by omega, fun i hi => ?_⟩
  obtain ⟨Ai, ci, h1, h2, h3⟩ := hc i hi
  exact ⟨Ai, ci, h1, h2.more hB, h3⟩
end Go.Proofs.YtfgnnbpbbnnnhaaDoor
namespace Go.Proofs.YtfgnnbpbbnnnhaaDoor
open Go.RowKit
/-- A term, as a tree: its kind, number, place, levels (each by its parts), kids. -/
inductive Tm where
  | mk (kind num pos : Int) (lv : List (List (Int × Int))) (kids : List Tm)
theorem Tm.ind {P : Tm → Prop} (h : ∀ k n a lv kids, (∀ t ∈ kids, P t) → P (.mk k n a lv kids)) : ∀ t, P t
  | .mk k n a lv kids => h k n a lv kids fun t _ => Tm.ind h t
/-- a number that a machine's word holds -/
def Rng (n : Int) : Prop := -9223372036854775808 ≤ n ∧ n ≤ 9223372036854775807
/-- levels, not too many, none of too many parts -/
def SlimL (ls : List (List (Int × Int))) : Prop := ls.length ≤ 1048576 ∧ ∀ l ∈ ls, l.length ≤ 1000000
mutual
/-- a term of words, no list of which is too long -/
def Tm.fit : Tm → Prop
  | .mk _ n _ lv kids => Rng n ∧ SlimL lv ∧ kids.length ≤ 1048576 ∧ Tm.fitL kids
def Tm.fitL : List Tm → Prop
  | [] => True
  | t :: ts => t.fit ∧ Tm.fitL ts
end
theorem Tm.fit_mk (k n a : Int) (lv : List (List (Int × Int))) (kids : List Tm) : (Tm.mk k n a lv kids).fit ↔ Rng n ∧ SlimL lv ∧ kids.length ≤ 1048576 ∧ Tm.fitL kids := by rw [Tm.fit]
theorem Tm.fitL_iff : ∀ ts : List Tm, Tm.fitL ts ↔ ∀ t ∈ ts, t.fit
  | [] => by simp [Tm.fitL]
  | t :: ts => by
    have := Tm.fitL_iff ts
    simp [Tm.fitL, this]
/-- a struct of five cells -/
def Five (w : World) (b o : Nat) (v : Value) : Prop := ∃ c0 c1 c2 c3 c4, v = .agg #[c0, c1, c2, c3, c4] ∧ w.cell? ⟨b, o, none⟩ = some c0 ∧ w.cell? ⟨b, o + 1, none⟩ = some c1 ∧ w.cell? ⟨b, o + 2, none⟩ = some c2 ∧ w.cell? ⟨b, o + 3, none⟩ = some c3 ∧ w.cell? ⟨b, o + 4, none⟩ = some c4
theorem Five.keep {w w' : World} {b o : Nat} {v : Value} (h : Five w b o v) (hk : ∀ j, w'.cell? ⟨b, j, none⟩ = w.cell? ⟨b, j, none⟩) : Five w' b o v := by
  obtain ⟨c0, c1, c2, c3, c4, e, h0, h1, h2, h3, h4⟩ := h
  exact ⟨c0, c1, c2, c3, c4, e, (hk _).trans h0, (hk _).trans h1, (hk _).trans h2, (hk _).trans h3, (hk _).trans h4⟩
mutual
/-- v is this term -/
def TmAt (w : World) (B : Nat) : Tm → Value → Prop
  | .mk k n a lv kids, v => ∃ Al cl Ak ck, v = .agg #[.int .i64 k, .int .i64 n, .int .i64 a, .slice Al lv.length cl, .slice Ak kids.length ck] ∧ (Al = none → cl = 0) ∧ Levs w B Al lv ∧ (Ak = none → ck = 0) ∧ (0 < kids.length → ∃ b o, Ak = some ⟨b, o, none⟩ ∧ b < B ∧ TmsAt w B b o kids)
/-- behind this address there lie these terms -/
def TmsAt (w : World) (B b : Nat) : Nat → List Tm → Prop
  | _, [] => True
  | o, t :: ts => (∃ v, Five w b o v ∧ TmAt w B t v) ∧ TmsAt w B b (o + 5) ts
end
/-- a row of terms -/
def Tms (w : World) (B : Nat) (A : Option Addr) (c : Nat) (ts : List Tm) : Prop := (A = none → c = 0) ∧ (0 < ts.length → ∃ b o, A = some ⟨b, o, none⟩ ∧ b < B ∧ TmsAt w B b o ts)
theorem TmAt.open {w : World} {B : Nat} {k n a : Int} {lv : List (List (Int × Int))} {kids : List Tm} {v : Value} (h : TmAt w B (.mk k n a lv kids) v) :
    ∃ Al cl Ak ck, v = .agg #[.int .i64 k, .int .i64 n, .int .i64 a, .slice Al lv.length cl, .slice Ak kids.length ck] ∧ (Al = none → cl = 0) ∧ Levs w B Al lv ∧ Tms w B Ak ck kids := by
  unfold TmAt at h
  obtain ⟨Al, cl, Ak, ck, h1, h2, h3, h4, h5⟩ := h
  exact ⟨Al, cl, Ak, ck, h1, h2, h3, h4, h5⟩
theorem TmAt.make {w : World} {B : Nat} {k n a : Int} {lv : List (List (Int × Int))} {kids : List Tm} {Al Ak : Option Addr} {cl ck : Nat} (h2 : Al = none → cl = 0) (h3 : Levs w B Al lv) (h4 : Tms w B Ak ck kids) :
    TmAt w B (.mk k n a lv kids) (.agg #[.int .i64 k, .int .i64 n, .int .i64 a, .slice Al lv.length cl, .slice Ak kids.length ck]) := by
  unfold TmAt
  exact ⟨Al, cl, Ak, ck, rfl, h2, h3, h4.1, h4.2⟩
theorem TmsAt.get {w : World} {B b : Nat} : ∀ {o : Nat} {ts : List Tm}, TmsAt w B b o ts → ∀ (i : Nat) (t : Tm), ts[i]? = some t → ∃ v, Five w b (o + i * 5) v ∧ TmAt w B t v
  | _, [], _, i, t, hi => by simp at hi
  | o, s :: ts, h, 0, t, hi => by
    unfold TmsAt at h
    injection hi with hi
    subst hi
    simpa using h.1
  | o, s :: ts, h, i + 1, t, hi => by
    unfold TmsAt at h
    obtain ⟨v, h1, h2⟩ := TmsAt.get h.2 i t (by simpa using hi)
    exact ⟨v, by rw [show o + (i + 1) * 5 = o + 5 + i * 5 by omega]; exact h1, h2⟩
theorem TmsAt.of {w : World} {B b : Nat} : ∀ {o : Nat} {ts : List Tm}, (∀ (i : Nat) (t : Tm), ts[i]? = some t → ∃ v, Five w b (o + i * 5) v ∧ TmAt w B t v) → TmsAt w B b o ts
  | _, [], _ => by unfold TmsAt; trivial
  | o, s :: ts, h => by
    unfold TmsAt
    refine ⟨by simpa using h 0 s rfl, TmsAt.of fun i t hi => ?_⟩
    obtain ⟨v, h1, h2⟩ := h (i + 1) t (by simpa using hi)
    exact ⟨v, by rw [show o + 5 + i * 5 = o + (i + 1) * 5 by omega]; exact h1, h2⟩
theorem Levs.keep {w w' : World} {B B' : Nat} {A : Option Addr} {ls : List (List (Int × Int))} (h : Levs w B A ls) (hB : B ≤ B') (hk : ∀ p : Addr, p.block < B → w'.cell? p = w.cell? p) : Levs w' B' A ls := fun hn => by
  obtain ⟨b, o, e, hb, hc⟩ := h hn
  refine ⟨b, o, e, by omega, fun i hi => ?_⟩
  obtain ⟨Ai, ci, h1, h2, h3⟩ := hc i hi
  exact ⟨Ai, ci, (hk _ hb).trans h1, (h2.keep hk).more hB, h3⟩
theorem TmAt.keep {w w' : World} {B B' : Nat} (hB : B ≤ B') (hk : ∀ p : Addr, p.block < B → w'.cell? p = w.cell? p) : ∀ (t : Tm) (v : Value), TmAt w B t v → TmAt w' B' t v := by
  intro t
  induction t using Tm.ind with
  | h k n a lv kids ih =>
    intro v h
    obtain ⟨Al, cl, Ak, ck, rfl, h2, h3, h4, h5⟩ := h.open
    refine TmAt.make h2 (h3.keep hB hk) ⟨h4, fun hn => ?_⟩
    obtain ⟨b, o, e, hb, hts⟩ := h5 hn
    refine ⟨b, o, e, by omega, TmsAt.of fun i t hi => ?_⟩
    obtain ⟨v, q1, q2⟩ := hts.get i t hi
    exact ⟨v, q1.keep fun j => hk ⟨b, j, none⟩ hb, ih t (List.mem_of_getElem? hi) v q2⟩
theorem Tms.keep {w w' : World} {B B' : Nat} {A : Option Addr} {c : Nat} {ts : List Tm} (h : Tms w B A c ts) (hB : B ≤ B') (hk : ∀ p : Addr, p.block < B → w'.cell? p = w.cell? p) : Tms w' B' A c ts := ⟨h.1, fun hn => by
  obtain ⟨b, o, e, hb, hts⟩ := h.2 hn
  refine ⟨b, o, e, by omega, TmsAt.of fun i t hi => ?_⟩
  obtain ⟨v, q1, q2⟩ := hts.get i t hi
  exact ⟨v, q1.keep fun j => hk ⟨b, j, none⟩ hb, TmAt.keep hB hk t v q2⟩⟩
theorem TmAt.below {w w' : World} {B B' : Nat} {t : Tm} {v : Value} (h : TmAt w B t v) (hb : Below B w w') (hB : B ≤ B') : TmAt w' B' t v := TmAt.keep hB (fun _ hp => hb.cell hp) t v h
theorem Tms.below {w w' : World} {B B' : Nat} {A : Option Addr} {c : Nat} {ts : List Tm} (h : Tms w B A c ts) (hb : Below B w w') (hB : B ≤ B') : Tms w' B' A c ts := h.keep hB fun _ hp => hb.cell hp
/-- one of a row's terms -/
theorem Tms.get {w : World} {B : Nat} {A : Option Addr} {c : Nat} {ts : List Tm} (h : Tms w B A c ts) {i : Nat} {t : Tm} (hi : ts[i]? = some t) : ∃ b o v, A = some ⟨b, o, none⟩ ∧ b < B ∧ Five w b (o + i * 5) v ∧ TmAt w B t v := by
  have hl := (List.getElem?_eq_some_iff.1 hi).1
  obtain ⟨b, o, e, hb, hts⟩ := h.2 (by omega)
  obtain ⟨v, h1, h2⟩ := hts.get i t hi
  exact ⟨b, o, v, e, hb, h1, h2⟩
end Go.Proofs.YtfgnnbpbbnnnhaaDoor
namespace Go.Proofs.YtfgnnbpbbnnnhaaDoor
open Go.RowKit Go.Maps
/-- a row of levels, counted: each 1, and its parts -/
def lensSum : List (List (Int × Int)) → Nat
  | [] => 0
  | l :: ls => 1 + l.length + lensSum ls
theorem lensSum_take : ∀ (ls : List (List (Int × Int))) (k : Nat), k < ls.length → lensSum (ls.take (k + 1)) = lensSum (ls.take k) + (1 + (ls.getD k []).length)
  | [], k, h => by simp at h
  | l :: ls, 0, _ => by simp [lensSum]
  | l :: ls, k + 1, h => by
    have := lensSum_take ls k (by simpa using h)
    rw [List.take_succ_cons, List.take_succ_cons]
    simp only [lensSum, this, List.getD_cons_succ]
    omega
theorem lensSum_le : ∀ (ls : List (List (Int × Int))) (k : Nat), lensSum (ls.take k) ≤ lensSum ls
  | [], k => by simp [lensSum]
  | l :: ls, 0 => by simp [lensSum]
  | l :: ls, k + 1 => by
    have := lensSum_le ls k
    rw [List.take_succ_cons]
    simp only [lensSum]
    omega
theorem lensSum_length : ∀ ls : List (List (Int × Int)), ls.length ≤ lensSum ls
  | [] => by simp
  | l :: ls => by
    have := lensSum_length ls
    simp only [lensSum, List.length_cons]
    omega
mutual
/-- a term, counted: its nodes, the levels in them and their parts -/
def Tm.count : Tm → Nat
  | .mk _ _ _ lv kids => 1 + lensSum lv + Tm.countL kids
def Tm.countL : List Tm → Nat
  | [] => 0
  | t :: ts => t.count + Tm.countL ts
end
theorem Tm.count_mk (k n a : Int) (lv : List (List (Int × Int))) (kids : List Tm) : (Tm.mk k n a lv kids).count = 1 + lensSum lv + Tm.countL kids := by rw [Tm.count]
theorem Tm.countL_take : ∀ (ts : List Tm) (i : Nat) (t : Tm), ts[i]? = some t → Tm.countL (ts.take (i + 1)) = Tm.countL (ts.take i) + t.count
  | [], i, t, h => by simp at h
  | s :: ts, 0, t, h => by
    injection h with h
    subst h
    simp [Tm.countL]
  | s :: ts, i + 1, t, h => by
    have := Tm.countL_take ts i t (by simpa using h)
    rw [List.take_succ_cons, List.take_succ_cons]
    simp only [Tm.countL, this]
    omega
theorem Tm.countL_le : ∀ (ts : List Tm) (k : Nat), Tm.countL (ts.take k) ≤ Tm.countL ts
  | [], k => by simp
  | t :: ts, 0 => by simp [Tm.countL]
  | t :: ts, k + 1 => by
    have := Tm.countL_le ts k
    rw [List.take_succ_cons]
    simp only [Tm.countL]
    omega
theorem Tm.count_pos (t : Tm) : 0 < t.count := by
  cases t
  rw [Tm.count_mk]
  omega
theorem Tm.countL_length : ∀ ts : List Tm, ts.length ≤ Tm.countL ts
  | [] => by simp
  | t :: ts => by
    have := Tm.countL_length ts
    have := t.count_pos
    simp only [Tm.countL, List.length_cons]
    omega
theorem Tm.countL_mem {ts : List Tm} {t : Tm} (h : t ∈ ts) : t.count ≤ Tm.countL ts := by
  obtain ⟨i, hi⟩ := List.getElem?_of_mem h
  have h1 := Tm.countL_take ts i t hi
  have h2 := Tm.countL_le ts (i + 1)
  omega
/-- a count up to M: no more than there is, and just that where it is no more than M -/
def CountPost (w : World) (cnt M : Nat) (e : Ending) (w' : World) : Prop := ∃ r : Nat, e = .returned (.int .i64 (r : Int)) ∧ r ≤ cnt ∧ (r ≤ M → r = cnt) ∧ Below w.heap.size w w'
set_option maxRecDepth 100000 in
set_option maxHeartbeats 1000000 in
theorem levelOf_m (A : Option Addr) (n c M : Nat) (w : World) (hn : n ≤ 1048576) (hM : M ≤ 1048576) :
    Calls Tryd.prog 49 #[.agg #[.slice A n c], .int .i64 (M : Int)] w (CountPost w (1 + n) M) := by
  have hw : IntKind.i64.wrap (1 + (n : Int)) = 1 + (n : Int) := IntWalk.i64_in _ (by omega)
  have hw2 : IntKind.i64.wrap ((M : Int) + 1) = (M : Int) + 1 := IntWalk.i64_in _ (by omega)
  have HB := Lib.hid ((Below.refl w.heap.size w).alloc (Nat.le_refl _) (.cells #[.slice A n c] 39))
  have HF : Hid (∀ w', Below w.heap.size w w' → CountPost w (1 + n) M (.returned (.int .i64 (min (1 + (n : Int)) ((M : Int) + 1)))) w') := fun w' hb => by
    by_cases t : n ≤ M
    · exact ⟨1 + n, by congr 2; omega, by omega, fun _ => rfl, hb⟩
    · exact ⟨M + 1, by congr 2; omega, by omega, fun h => by omega, hb⟩
  go_enter Tryd.func49, Tryd.ntmps49
  go_wp2
  go_ret
  exact HF.out _ HB.out
set_option maxRecDepth 100000 in
set_option maxHeartbeats 1000000 in
theorem levelsOf_m (A : Option Addr) (ls : List (List (Int × Int))) (c M n : Nat) (w : World) (hn : ls.length = n) (hs : lensSum ls ≤ 1048576) (hM : M ≤ 1048576) (h : Levs w w.heap.size A ls) :
    Calls Tryd.prog 20 #[.slice A n c, .int .i64 (M : Int)] w (CountPost w (lensSum ls) M) := by
  have hn9 := lensSum_length ls
  have hn8 : n ≤ 1048576 := by omega
  have HL := Lib.hid h
  have HN := Lib.hid hn
  have HS := Lib.hid hs
  clear h hn hs hn9
  go_enter Tryd.func20, Tryd.ntmps20
  go_wp2
  go_loopw [5, 6] (fun u i wr => ∃ (k r : Nat), k ≤ n ∧ i = .int .i64 (k : Int) ∧ u = .int .i64 (r : Int) ∧ Below w.heap.size w wr ∧ r ≤ lensSum (ls.take k) ∧ (r ≤ M → r = lensSum (ls.take k))) (fun _ i _ => n - (intOf i).toNat)
  case atStart => exact ⟨0, 0, Nat.zero_le _, rfl, rfl, Below.refl _ _, by simp, fun _ => by simp [lensSum]⟩
  case round =>
    obtain ⟨k, r, hk, rfl, rfl, hb, h1, h2⟩ := hrel
    have hbz := hb.size
    have hle := lensSum_le ls k
    have hs9 := HS.out
    have hr9 : r ≤ 1048576 := by omega
    by_cases hlt : k < n
    · by_cases hu : r ≤ M
      · obtain ⟨b, o, e, hbB, hcell⟩ := HL.out (by rw [HN.out]; omega)
        subst e
        obtain ⟨Ai, ci, q0, _, _, q3⟩ := hcell k (by rw [HN.out]; exact hlt)
        have c0 := (hb.cell (p := ⟨b, o + k, none⟩) hbB).trans q0
        have ht := lensSum_take ls k (by rw [HN.out]; exact hlt)
        have hle1 := lensSum_le ls (k + 1)
        obtain ⟨m, hm⟩ : ∃ m, (ls.getD k []).length = m := ⟨_, rfl⟩
        rw [hm] at c0 ht
        have hm9 : m ≤ 1048576 := by omega
        have HC := Lib.hid (levelOf_m Ai m ci M wr (by omega) hM)
        have HT := Lib.hid ht
        have H2 := Lib.hid h2
        have HB := Lib.hid hb
        have ij0 : (0 : Int) ≤ (k : Int) := by omega
        have ij1 : (k : Int) < (n : Int) := by omega
        have ij2 : (r : Int) ≤ (M : Int) := by omega
        clear hb hcell q0 q3 hm h2 ht
        go_wp2_with (fail)
        refine HC.out.mono ?_
        rintro e w1 ⟨s, rfl, hs1, hs2, hb1⟩
        have ws : IntKind.i64.wrap ((r : Int) + (s : Int)) = ((r + s : Nat) : Int) := by rw [IntWalk.i64_in _ (by omega)]; omega
        have HF : Hid (r + s ≤ lensSum (ls.take (k + 1)) ∧ (r + s ≤ M → r + s = lensSum (ls.take (k + 1)))) := by
          rw [HT.out]
          refine ⟨by omega, fun h => ?_⟩
          have := hs2 (by omega)
          have := H2.out hu
          omega
        have HB1 : Hid (Below w.heap.size w w1) := HB.out.trans (hb1.mono hbz)
        clear hb1 hs2
        go_wp2
        go_roundw
        case rel => exact ⟨k + 1, r + s, by omega, by go_num, rfl, HB1.out, HF.out⟩
        case measure => simp [intOf]; omega
      · have ij2 : ¬ (r : Int) ≤ (M : Int) := by omega
        have HF : Hid (CountPost w (lensSum ls) M (.returned (.int .i64 (r : Int))) wr) := ⟨r, rfl, by omega, fun h => absurd h hu, hb⟩
        clear hb h2
        go_wp2
        go_ret
        exact HF.out
    · have hq : ls.take k = ls := List.take_of_length_le (by rw [HN.out]; omega)
      rw [hq] at h1 h2
      have HF : Hid (CountPost w (lensSum ls) M (.returned (.int .i64 (r : Int))) wr) := ⟨r, rfl, h1, h2, hb⟩
      clear hb h2 hq
      go_wp2
      go_ret
      exact HF.out
end Go.Proofs.YtfgnnbpbbnnnhaaDoor
