/- Laws. -/
import Derived.Test.YtfgnnbpbbnnnhaaDoorKqae
import Derived.Test.YtfgnnbpbbnnnhaaDoorKqaf
import Derived.OneCell
import Derived.Deep.Cut
import Derived.Deep.CutRange
import Derived.Deep.DeepCutAuto
namespace Go.Proofs.YtfgnnbpbbnnnhaaDoor
open Go.RowKit Go.Maps
/-- What a map keeps in its level. -/
def Kept (m : Int → Option Int) (k v : Int) : Prop := m k = some v ∧ (k = 0 → 0 < v ∧ ∀ j u, j ≠ 0 → m j = some u → u < v)
def IsLevel (m : Int → Option Int) (qs : List (Int × Int)) : Prop := qs.Pairwise (fun p q => p.1 < q.1) ∧ ∀ p, p ∈ qs ↔ Kept m p.1 p.2
def LevelPost (w : World) (b : Nat) (m : Int → Option Int) (e : Ending) (w' : World) : Prop :=
  ∃ v qs, e = .returned (.agg #[v]) ∧ IsLevel m qs ∧ w'.ownsRow w.heap.size 91 2 v qs.length (cells qs) ∧ w.grownBy w' (some b)
theorem bcell {W w1 : World} (hb : Below W.heap.size W w1) : (∀ b o, b < W.heap.size → w1.cell? ⟨b, o, none⟩ = W.cell? ⟨b, o, none⟩) ∧ (∀ b o, b < W.heap.size → w1.frozen? ⟨b, o, none⟩ = W.frozen? ⟨b, o, none⟩) :=
  ⟨fun b o h => hb.cell (p := ⟨b, o, none⟩) h, fun b o h => hb.frozen (p := ⟨b, o, none⟩) h⟩
theorem two_allocs (w : World) (A B : Obj) : ((w.alloc A).alloc B).heap[w.heap.size]? = some A ∧ ((w.alloc A).alloc B).heap[w.heap.size + 1]? = some B ∧ (∀ i, i < w.heap.size → ((w.alloc A).alloc B).heap[i]? = w.heap[i]?) := by
  refine ⟨(Below.heap_alloc _ _ _ (by simp)).trans (heap_alloc_new w A), ?_, fun i hi => (Below.heap_alloc _ _ _ (by simp; omega)).trans (Below.heap_alloc _ _ _ hi)⟩
  have := heap_alloc_new (w.alloc A) B
  simpa using this
theorem mp_at {w w' : World} {b n : Nat} {m : Int → Option Int} (h : Mp w b n m) (hb : w'.heap[b]? = w.heap[b]?) : Mp w' b n m := by
  obtain ⟨D, ⟨es, clock, h1, h2, h3, h4⟩, hR⟩ := h
  exact ⟨D, ⟨es, clock, hb.trans h1, h2, h3, h4⟩, hR⟩
/-- How the loop's world stands to that ahead of it: but for one block nothing has turned. -/
structure LoopW (w3 wr : World) (L : Nat) (v : Value) (k : Nat) (qs : List (Int × Int)) : Prop where
  grown : w3.grownBy wr (some L)
  cell : wr.heap[L]? = some (.cells #[v] 39 (0, 0))
  row : wr.ownsRow w3.heap.size 91 2 v k (cells qs)
/-- Is there a part of variable 0 that does not count? -/
def Drops (m : Int → Option Int) : Prop := ∃ p, m 0 = some p ∧ ¬ Kept m 0 p
def strip (m : Int → Option Int) : Int → Option Int := fun k => if k = 0 then none else m k
theorem row_shape {w : World} {B : Nat} {v : Value} {ks : List Int} (h : w.ownsRow B 3 1 v ks.length (ks.map (Value.int .i64))) :
    ∃ A c, v = .slice A ks.length c ∧ (0 < ks.length → ∃ G, A = some ⟨G, 0, none⟩ ∧ (B ≤ G ∧ G < w.heap.size) ∧ ∀ j, j < ks.length → w.cell? ⟨G, j, none⟩ = some (.int .i64 (ks.getD j 0))) := by
  rcases h.2 with ⟨rfl, h0⟩ | ⟨g, cap, cur, rfl, hb, hh, _, _, _, ht⟩
  · exact ⟨none, 0, by rw [h0], fun hp => by omega⟩
  · refine ⟨some ⟨g, 0, none⟩, cap, rfl, fun _ => ⟨g, rfl, ⟨hb, lt_of_block hh⟩, fun j hj => ?_⟩⟩
    rw [h.cellAt j (by omega)]
    simp [hj]
def qsOf (m : Int → Option Int) (ks : List Int) : List (Int × Int) := ks.map fun k => (k, (m k).getD 0)
theorem qsOf_snoc {m : Int → Option Int} {ks : List Int} {k : Nat} (hk : k < ks.length) {x y : Int} (hx : x = ks.getD k 0) (hy : m x = some y) : (qsOf m ks).take (k + 1) = (qsOf m ks).take k ++ [(x, y)] := by
  have hl : k < (qsOf m ks).length := by simpa [qsOf] using hk
  rw [List.take_succ_eq_append_getElem hl]
  congr 2
  have hxx : x = ks[k] := by rw [hx, List.getD_eq_getElem?_getD, List.getElem?_eq_getElem hk]; rfl
  simp only [qsOf, List.getElem_map]
  rw [← hxx, hy]; rfl
theorem own_base {w : World} {B B' : Nat} {e : TypeId} {s : Nat} {v : Value} {n : Nat} {xs : List Value} (h : w.ownsRow B e s v n xs) (hB : B' ≤ B) : w.ownsRow B' e s v n xs := by
  refine ⟨h.1, ?_⟩
  rcases h.2 with h2 | ⟨g, cap, cur, h3, h4, h5⟩
  · exact Or.inl h2
  · exact Or.inr ⟨g, cap, cur, h3, by omega, h5⟩
theorem isLevel_of {m m' : Int → Option Int} {ks : List Int} (hr : Rising ks) (hm : ∀ k, k ∈ ks ↔ (m' k).isSome = true) (hk : ∀ k v, m' k = some v ↔ Kept m k v) : IsLevel m (qsOf m' ks) := by
  refine ⟨List.pairwise_map.2 hr, fun p => ?_⟩
  unfold qsOf
  rw [List.mem_map, ← hk]
  constructor
  · rintro ⟨k, hk, rfl⟩
    obtain ⟨v, hv⟩ := Option.isSome_iff_exists.1 ((hm k).1 hk)
    simp [hv]
  · intro h
    exact ⟨p.1, (hm _).2 (by rw [h]; rfl), by rw [h]; rfl⟩
theorem own_slice {w : World} {B : Nat} {e : TypeId} {s : Nat} {v : Value} {n : Nat} {xs : List Value} (h : w.ownsRow B e s v n xs) : ∃ A n c, v = .slice A n c := by
  rcases h.2 with ⟨rfl, _⟩ | ⟨g, cap, cur, rfl, _⟩
  · exact ⟨_, _, _, rfl⟩
  · exact ⟨_, _, _, rfl⟩
theorem two_new (w : World) (a c : Value) (t : TypeId) : ∀ (j : Nat) (u : Value), [a, c][j]? = some u → (w.alloc (.cells #[a, c] t)).cell? ((⟨w.heap.size, 0, none⟩ : Addr).add j) = some u := by
  intro j u hu
  have hh := heap_alloc_new w (.cells #[a, c] t)
  match j, hu with
  | 0, hu => exact (cell_of_row _ _ 0 _ t (0, 0) hh).trans (by simpa using hu)
  | 1, hu => exact (cell_of_row _ _ 1 _ t (0, 0) hh).trans (by simpa using hu)
  | j + 2, hu => simp at hu
theorem loop_grown {w3 wr w1 : World} {L : Nat} {lv : Value} {e : TypeId} {k : Nat} {xs : List Value} {o : Obj} (h : w3.grownBy wr (some L)) (hrow : wr.ownsRow w3.heap.size e 2 lv k xs) (hg : (wr.alloc o).grownBy w1 lv.ownBlock) (_hL : L < w3.heap.size) (v : Value) :
    w3.grownBy (w1.setCell ⟨L, 0, none⟩ v) (some L) := by
  refine ⟨hg.os.trans h.os, hg.tape.trans h.tape, hg.output.trans h.output, ?_, fun i hi hne => ?_⟩
  · have h1 := h.size
    have h2 := hg.size
    simp [World.setCell] at h2 ⊢
    omega
  · have h1 := h.size
    refine (Below.heap_setCell _ _ _ _ (fun e => hne (by rw [e]))).trans ?_
    refine (hg.block i (by simp; omega) (fun e => ?_)).trans ((Below.heap_alloc _ _ _ (by omega)).trans (h.block i hi hne))
    have := (hrow.lt _ e.symm).1
    omega
theorem kept_same {m : Int → Option Int} (h : ¬ Drops m) (k v : Int) : m k = some v ↔ Kept m k v := by
  refine ⟨fun hk => Classical.byContradiction fun hn => ?_, fun hk => hk.1⟩
  by_cases e : k = 0
  · subst e; exact h ⟨v, hk, hn⟩
  · exact hn ⟨hk, fun e' => absurd e' e⟩
theorem kept_strip {m : Int → Option Int} (h : Drops m) (k v : Int) : strip m k = some v ↔ Kept m k v := by
  unfold strip
  by_cases e : k = 0
  · subst e
    obtain ⟨p, hp, hn⟩ := h
    simp only [if_true]
    constructor
    · intro q; cases q
    · intro q
      have := q.1
      rw [hp] at this
      injection this with this
      subst this
      exact absurd q hn
  · simp only [e, if_false]
    exact ⟨fun hk => ⟨hk, fun e' => absurd e' e⟩, fun hk => hk.1⟩
theorem drops_of {m : Int → Option Int} {p t : Int} (h0 : m 0 = some p) (hT : IsTop m t) : p ≤ max 0 t ↔ Drops m := by
  constructor
  · intro hle
    refine ⟨p, h0, fun hk => ?_⟩
    have hk2 := hk.2 rfl
    rcases hT.2 with rfl | ⟨k, hk0, hkt⟩
    · omega
    · have := hk2.2 k t hk0 hkt
      omega
  · rintro ⟨q, hq, hnk⟩
    rw [h0] at hq
    injection hq with hq
    subst hq
    refine Decidable.byContradiction fun hlt => hnk ⟨h0, fun _ => ⟨by omega, fun j u hj hju => ?_⟩⟩
    have := hT.1 j u hj hju
    omega
set_option maxRecDepth 100000 in
set_option maxHeartbeats 4000000 in
theorem level_any (b n : Nat) (m : Int → Option Int) (w : World) (hm : Mp w b n m) (hn : n < 2199023255552) (hv : ∀ k v, m k = some v → 0 ≤ v ∧ 0 ≤ k ∧ k ≤ 1048576) :
    Calls Tryd.prog 111 #[.agg #[.map (some b)]] w (LevelPost w b m) := by
  obtain ⟨D, hown, hR⟩ := hm
  have hbl := hown.lt
  have hownA : ∀ o o', ((w.alloc o).alloc o').ownsMap Tryd.prog 3 (plainElem Tryd.prog 3) b n D := fun o o' => by
    obtain ⟨es, clock, h1, h2, h3, h4⟩ := hown
    exact ⟨es, clock, ((Below.heap_alloc _ o' b (by simp; omega)).trans (Below.heap_alloc _ o b hbl)).trans h1, h2, h3, h4⟩
  have hkey : ∀ x : Int, 0 ≤ x ∧ x ≤ 1048576 → keyOf Tryd.prog 3 (.int .i64 x) = some (.int .i64 x) := fun x hx => keyOf_int_mk Tryd.underlying3 (by simp [Lit.wf, IntKind.min, IntKind.max, IntKind.signed, IntKind.bits]; omega)
  have HK := Lib.hid hkey
  have HV := Lib.hid hv
  clear hkey hv
  go_enter Tryd.func111, Tryd.ntmps111
  go_upto_region 2 with (first | (at_lookup; refine wpList_lookup_own_ok_int _ rfl _ _ 151 rfl 3 3 .i64 lawI Tryd.underlying151 Tryd.underlying3 (zeroI _) b n D rfl (hownA _ _) _ _ rfl (HK.out 0 (by omega)) ?_; intro c hat hwc))
  go_cut [23] from 3 to 23 (fun s wc => ∃ r : Bool, s = .bool r ∧ (r = true ↔ Drops m) ∧ Below (w.heap.size + 2) ((w.alloc (.cells #[.map (some b)] 155)).alloc (.cells #[.slice none 0 0] 39)) wc)
  case first =>
    rcases h0 : m 0 with _ | p
    · have hh : Maps.has D (.int .i64 0) = false := by rw [(hR.2 0).1, h0]; rfl
      have HD : Hid (¬ Drops m) := fun ⟨p, hp, _⟩ => by rw [h0] at hp; cases hp
      clear hat hwc h0
      go_wp2
      go_meet
      case rel => exact ⟨false, rfl, by simpa using HD.out, Below.refl _ _⟩
    · have hh : Maps.has D (.int .i64 0) = true := by rw [(hR.2 0).1, h0]; rfl
      obtain rfl : c = p := by
        rw [(hR.2 0).2 _ p h0] at hat
        injection hat with hat
        injection hat with _ hat
        exact hat.symm
      have HT : Hid (∀ t, IsTop m t → (c ≤ max 0 t ↔ Drops m)) := fun t hT => drops_of h0 hT
      have HM : Hid (∀ o o', Mp ((w.alloc o).alloc o') b n m) := fun o o' => ⟨D, hownA o o', hR⟩
      have HW : Hid (∀ k v, m k = some v → 0 ≤ v) := fun k v h => (HV.out k v h).1
      clear hat hwc h0
      go_wp2_with (fail)
      refine (top_any b n m _ (HM.out _ _) HW.out).mono ?_
      rintro e w1 ⟨t, rfl, hT, hb⟩
      have HTt := HT.out t hT
      have HTT := Lib.hid HTt
      have hb' := hb
      obtain ⟨hcc, hff⟩ := bcell hb
      clear HTt hT hb
      by_cases hle : c ≤ max 0 t
      · have hd : decide (c ≤ max 0 t) = true := by simpa using hle
        go_wp2
        go_meet
        case rel => exact ⟨true, rfl, by simpa using HTT.out.1 hle, hb'.mono (by simp)⟩
      · have hd : decide (c ≤ max 0 t) = false := by simpa using hle
        go_wp2
        go_meet
        case rel => exact ⟨false, rfl, by simpa using fun q => absurd (HTT.out.2 q) (by omega), hb'.mono (by simp)⟩
  case rest =>
    obtain ⟨r, rfl, hr, hb⟩ := hcut
    obtain ⟨a1, a2, a3⟩ := two_allocs w (.cells #[.map (some b)] 155) (.cells #[.slice none 0 0] 39)
    have b1 := (hb.block w.heap.size (by omega)).trans a1
    have b2 := (hb.block (w.heap.size + 1) (by omega)).trans a2
    have b3 : ∀ i, i < w.heap.size → wc.heap[i]? = w.heap[i]? := fun i hi => (hb.block i (by omega)).trans (a3 i hi)
    have bz : w.heap.size + 2 ≤ wc.heap.size := by have := hb.size; simp at this; omega
    have bg : w.grownBy wc (some b) := ⟨hb.os, hb.tape, hb.output, by omega, fun i hi _ => b3 i hi⟩
    have bm : wc.ownsMap Tryd.prog 3 (plainElem Tryd.prog 3) b n D := by
      obtain ⟨es, clock, h1, h2, h3, h4⟩ := hown
      exact ⟨es, clock, (b3 b hbl).trans h1, h2, h3, h4⟩
    have c1 := cell_of_one b1
    have B1 := Lib.hid b1
    have B2 := Lib.hid b2
    have B3 := Lib.hid b3
    have BG := Lib.hid bg
    have HR := Lib.hid hr
    clear a1 a2 a3 b1 b2 b3 bg hb hr hown hownA
    go_upto_if 23 with (fail)
    go_cut [] from 24 to 26 (fun wd => (∃ m', Mp wd b n m' ∧ ∀ k v, m' k = some v ↔ Kept m k v) ∧ w.grownBy wd (some b) ∧ wd.heap[w.heap.size]? = some (.cells #[.map (some b)] 155 (0, 0)) ∧ wd.heap[w.heap.size + 1]? = some (.cells #[.slice none 0 0] 39 (0, 0)) ∧ w.heap.size + 2 ≤ wd.heap.size)
    case first =>
      rcases r with _ | _
      · have hk : ∀ k v, m k = some v ↔ Kept m k v := kept_same (fun q => by simpa using HR.out.2 q)
        have HQ := Lib.hid hk
        clear hk
        go_wp2
        go_meet
        case rel => exact ⟨⟨m, ⟨D, bm, hR⟩, HQ.out⟩, BG.out, B1.out, B2.out, bz⟩
      · have hk : ∀ k v, strip m k = some v ↔ Kept m k v := kept_strip (HR.out.1 rfl)
        have HQ := Lib.hid hk
        clear hk
        go_wp2_with (at_delete; refine wpList_delete_own _ rfl _ _ 151 3 rfl 3 lawI Tryd.underlying151 _ b n D rfl bm _ _ rfl (HK.out 0 (by omega)) ?_; intro w1 hown1 hturn1)
        go_meet
        case rel =>
          have hg := hturn1.grown
          exact ⟨⟨strip m, ⟨_, hown1, hR.del 0⟩, HQ.out⟩, grown_then BG.out hg, (hg.block _ (by omega) (by simp; omega)).trans B1.out, (hg.block _ (by omega) (by simp; omega)).trans B2.out, Nat.le_trans bz hg.size⟩
    case rest =>
      obtain ⟨⟨m', hm', hk'⟩, hg, hB1, hB2, hz⟩ := hcut
      have d1 := cell_of_one hB1
      obtain ⟨a1, a2, a3⟩ := two_allocs wc (.cells #[.slice none 0 0] 39) (.cells #[.map (some b)] 151)
      have hbd : b < wc.heap.size := by omega
      have hz1 : w.heap.size < wc.heap.size := by omega
      have hmW : Mp ((wc.alloc (.cells #[.slice none 0 0] 39)).alloc (.cells #[.map (some b)] 151)) b n m' := mp_at hm' (a3 b hbd)
      have hcW : ((wc.alloc (.cells #[.slice none 0 0] 39)).alloc (.cells #[.map (some b)] 151)).cell? ⟨wc.heap.size + 1, 0, none⟩ = some (.map (some b)) := cell_of_one a2
      have HS := Lib.hid (sorted_any b n m' _ (wc.heap.size + 1) hmW hn (by simp) hcW)
      have A1 := Lib.hid a1
      have A3 := Lib.hid a3
      have K1 := Lib.hid hk'
      have HG := Lib.hid hg
      have HB1 := Lib.hid hB1
      have HB2 := Lib.hid hB2
      clear a1 a2 a3 hmW hcW hk' hg hB1 hB2 HR
      go_wp2_with (go_at_call 117; refine (keys_any _ _).mono ?_; rintro e w' ⟨rfl, rfl⟩)
      refine HS.out.mono ?_
      rintro e w3 ⟨v, ks, rfl, hri, hmem, hlen, hrow, hb3⟩
      have hb3' : Below (wc.heap.size + 2) ((wc.alloc (.cells #[.slice none 0 0] 39)).alloc (.cells #[.map (some b)] 151)) w3 := hb3.mono (by simp)
      have e1 : w3.heap[w.heap.size]? = some (.cells #[.map (some b)] 155 (0, 0)) := ((hb3'.block _ (by omega)).trans (A3.out _ (by omega))).trans HB1.out
      have e2 : w3.heap[w.heap.size + 1]? = some (.cells #[.slice none 0 0] 39 (0, 0)) := ((hb3'.block _ (by omega)).trans (A3.out _ (by omega))).trans HB2.out
      have e3 : w3.heap[wc.heap.size]? = some (.cells #[.slice none 0 0] 39 (0, 0)) := (hb3'.block _ (by omega)).trans A1.out
      have e4 : ∀ i, i < wc.heap.size → w3.heap[i]? = wc.heap[i]? := fun i hi => (hb3'.block _ (by omega)).trans (A3.out i hi)
      have e5 : wc.heap.size + 2 ≤ w3.heap.size := by have := hb3'.size; simp at this; omega
      have e6 : w.grownBy w3 (some b) := grown_then HG.out ⟨hb3'.os, hb3'.tape, hb3'.output, by omega, fun i hi _ => e4 i hi⟩
      have e7 : Mp w3 b n m' := mp_at hm' (e4 b hbd)
      have hrow' : w3.ownsRow (wc.heap.size + 2) 3 1 v ks.length (ks.map (Value.int .i64)) := by simpa using hrow
      clear hb3 hrow hb3' A1 A3 HG HB1 HB2 HS B1 B2 B3 BG bm hR hm'
      have hkb : ∀ k ∈ ks, 0 ≤ k ∧ k ≤ 1048576 := fun k hk => by
        obtain ⟨u, hu⟩ := Option.isSome_iff_exists.1 ((hmem k).1 hk)
        exact (HV.out k u ((K1.out k u).1 hu).1).2
      obtain ⟨A, cp, rfl, hA⟩ := row_shape hrow'
      obtain ⟨i0, hi, hz0, hz1, hz2⟩ := info_parts infoP
      have hl3 : wc.heap.size < w3.heap.size := by omega
      have HA := Lib.hid hA
      have HM := Lib.hid hmem
      have HKB := Lib.hid hkb
      have E1 := Lib.hid e1
      have E2 := Lib.hid e2
      have E3 := Lib.hid e3
      have E6 := Lib.hid e6
      obtain ⟨D2, hown2, hR2⟩ := e7
      have HO := Lib.hid hown2
      have HRR := Lib.hid hR2
      have HRI := Lib.hid hri
      have HLN := Lib.hid (show ks.length < 2199023255552 by omega)
      have hks : ks.length ≤ 9223372036854775807 := by omega
      clear hA hmem hkb e1 e2 e3 e4 e6 hrow' hown2 hR2 hri hlen d1
      go_wp2
      go_loopw [33] (fun i wr => ∃ (k : Nat) (lv : Value), k ≤ ks.length ∧ i = .int .i64 k ∧ LoopW w3 wr wc.heap.size lv k ((qsOf m' ks).take k)) (fun i _ => ks.length - (intOf i).toNat)
      case atStart => exact ⟨0, _, Nat.zero_le _, rfl, ⟨World.grownBy.refl _ _, E3.out, ⟨rfl, Or.inl ⟨rfl, rfl⟩⟩⟩⟩
      case round =>
        obtain ⟨k, lv, hk, rfl, hw⟩ := hrel
        have HW := Lib.hid hw
        have hwz := hw.grown.size
        have f0 := cell_of_one hw.cell
        have f1 := cell_of_one ((hw.grown.block w.heap.size (by omega) (by simp; omega)).trans E1.out)
        have f3 := free_of_one hw.cell
        have g1 : wc.heap.size < wr.heap.size := by omega
        have g2 : w.heap.size < wr.heap.size := by omega
        have hmr : wr.ownsMap Tryd.prog 3 (plainElem Tryd.prog 3) b n D2 := by
          obtain ⟨es, clock, h1, h2, h3, h4⟩ := HO.out
          exact ⟨es, clock, (hw.grown.block b (by omega) (by simp; omega)).trans h1, h2, h3, h4⟩
        clear hw
        by_cases hlt : k < ks.length
        · obtain ⟨G, rfl, hGl, hGc⟩ := HA.out (by omega)
          have f2 : wr.cell? ⟨G, k, none⟩ = some (.int .i64 (ks.getD k 0)) := (World.cell?_of_block (a := ⟨G, k, none⟩) (HW.out.grown.block G hGl.2 (by simp; omega))).trans (hGc k hlt)
          obtain ⟨x, hx⟩ : ∃ x, x = ks.getD k 0 := ⟨_, rfl⟩
          rw [← hx] at f2
          have hxm : x ∈ ks := by rw [hx, List.getD_eq_getElem?_getD, List.getElem?_eq_getElem hlt]; exact List.getElem_mem hlt
          obtain ⟨y, hy⟩ := Option.isSome_iff_exists.1 ((HM.out x).1 hxm)
          have HKx := Lib.hid (HK.out x (HKB.out x hxm))
          have HY : Hid (∀ c : Int, D2.atKey (.int .i64 x) (.lit (.int .i64 0)) = .lit (.int .i64 c) → c = y) := fun c hc => by
            rw [(HRR.out.2 x).2 _ y hy] at hc
            injection hc with hc
            injection hc with _ hc
            exact hc.symm
          have HQ : Hid ((qsOf m' ks).take (k + 1) = (qsOf m' ks).take k ++ [(x, y)]) := qsOf_snoc hlt hx hy
          have Hrw := Lib.hid HW.out.row
          clear hx hxm hy hGc
          go_wp2_with (first
            | (at_lookup; refine wpList_lookup_own_int _ rfl _ _ 151 rfl 3 3 .i64 lawI Tryd.underlying151 Tryd.underlying3 (zeroI _) b n D2 rfl hmr _ _ rfl HKx.out ?_; intro c hat hwc; obtain rfl : y = c := (HY.out c hat).symm)
            | (at_builtin; refine wpList_append_own _ rfl _ _ 37 rfl w3.heap.size 91 i0 (.agg #[.int .i64 0, .int .i64 0]) 2 16 Tryd.underlying37 hi hz0 hz1 hz2 rfl (by decide) _ _ _ rfl (Hrw.out.alloc _) ⟨wr.heap.size, 0, none⟩ 1 1 [.int .i64 x, .int .i64 y] rfl rfl ?c1 ?c2 ?c3 ?c4 ?c5 ?_))
          case c1 => exact two_new wr _ _ _
          case c2 => intro u hu; simp at hu; rcases hu with rfl | rfl <;> rfl
          case c3 => unfold maxLen; have := HLN.out; omega
          case c4 => have := HLN.out; omega
          case c5 => simp; omega
          intro v1 w1 ho hg1 _
          obtain ⟨A1, n1, m1, rfl⟩ := own_slice ho
          have hLne : some wc.heap.size ≠ lv.ownBlock := fun e => by have := (Hrw.out.lt _ e.symm).1; omega
          have hL1 : w1.heap[wc.heap.size]? = some (.cells #[lv] 39 (0, 0)) := ((hg1.block _ (by simp; omega) hLne).trans (Below.heap_alloc _ _ _ g1)).trans HW.out.cell
          have HF : Hid (LoopW w3 (w1.setCell ⟨wc.heap.size, 0, none⟩ (.slice A1 n1 m1)) wc.heap.size (.slice A1 n1 m1) (k + 1) ((qsOf m' ks).take (k + 1))) := by
            refine ⟨loop_grown HW.out.grown Hrw.out hg1 hl3 _, one_setCell hL1, ?_⟩
            rw [HQ.out, cells_append]
            exact ownsRow_setCell_below ho hl3 _
          have f5 := cell_of_one hL1
          have f6 := free_of_one hL1
          have HLT : Hid (k < ks.length) := hlt
          clear ho hg1 hL1 hLne f0 f1 f3
          go_wp2
          go_roundw
          case rel => exact ⟨k + 1, _, by omega, by go_num, HF.out⟩
          case measure => simp [intOf]; omega
        · obtain rfl : k = ks.length := by omega
          obtain ⟨A1, n1, m1, rfl⟩ := own_slice HW.out.row
          have hr2 := (HW.out.grown.block (w.heap.size + 1) (by omega) (by simp; omega)).trans E2.out
          have f5 := cell_of_one hr2
          have f6 := free_of_one hr2
          have hq : (qsOf m' ks).take ks.length = qsOf m' ks := List.take_of_length_le (by simp [qsOf])
          have HF : Hid (LevelPost w b m (.returned (.agg #[.slice A1 n1 m1])) (wr.setCell ⟨w.heap.size + 1, 0, none⟩ (.slice A1 n1 m1))) := by
            refine ⟨_, qsOf m' ks, rfl, isLevel_of HRI.out HM.out K1.out, ?_, ?_⟩
            · have hrw := HW.out.row
              rw [hq] at hrw
              rw [show (qsOf m' ks).length = ks.length from by simp [qsOf]]
              exact own_base (ownsRow_setCell_below hrw (by show w.heap.size + 1 < w3.heap.size; omega) _) (by omega)
            · refine ⟨HW.out.grown.os.trans E6.out.os, HW.out.grown.tape.trans E6.out.tape, HW.out.grown.output.trans E6.out.output, ?_, fun i hi hne => ?_⟩
              · simp [World.setCell]; omega
              · exact (Below.heap_setCell _ _ _ _ (by show i ≠ w.heap.size + 1; omega)).trans ((HW.out.grown.block i (by omega) (by simp; omega)).trans (E6.out.block i hi hne))
          clear hr2 hq hlt hk
          go_wp2
          exact bodyPost_ret (v := .agg #[.slice A1 n1 m1]) (by simp [results, Tryd.results111, go_sem, f5]) rfl HF.out
end Go.Proofs.YtfgnnbpbbnnnhaaDoor
