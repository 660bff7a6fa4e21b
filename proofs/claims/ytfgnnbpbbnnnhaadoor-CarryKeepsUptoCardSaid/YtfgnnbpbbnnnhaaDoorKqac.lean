/- Laws. -/
import Derived.Test.YtfgnnbpbbnnnhaaDoorKqab
import Derived.Maps.RangeWalk
namespace Go.Proofs.YtfgnnbpbbnnnhaaDoor
open Go.RowKit Go.Maps
def IsTop (m : Int → Option Int) (t : Int) : Prop :=
  (∀ k v, k ≠ 0 → m k = some v → v ≤ t) ∧ (t = -1 ∨ ∃ k, k ≠ 0 ∧ m k = some t)
def TopPost (w : World) (m : Int → Option Int) (e : Ending) (w' : World) : Prop := ∃ t, e = .returned (.int .i64 t) ∧ IsTop m t ∧ Below w.heap.size w w'
/-- What has come so far. -/
def TopSo (m : Int → Option Int) (left : Lit → Bool) (t : Int) : Prop :=
  (∀ k v, k ≠ 0 → m k = some v → left (.int .i64 k) = false → v ≤ t) ∧ (t = -1 ∨ ∃ k, k ≠ 0 ∧ m k = some t)
theorem Reps.at_ {D : DataW Unit} {m : Int → Option Int} (h : Reps D m) {x c : Int} (hat : ∀ zd, D.atKey (.int .i64 x) zd = .lit (.int .i64 c)) : m x = some c := by
  have h1 := has_true_of_atKey hat
  rw [(h.2 x).1] at h1
  obtain ⟨v, hv⟩ := Option.isSome_iff_exists.1 h1
  have := (h.2 x).2 .nil v hv
  rw [hat] at this
  injection this with this
  injection this with _ this
  rw [hv, this]
theorem sameKey_int (x k : Int) : (Lit.int .i64 k).sameKey (.int .i64 x) = decide (k = x) := by
  by_cases e : k = x
  · subst e; simp [Lit.sameKey]
  · rw [sameKey_ne (fun q => e (by injection q))]; simp [e]
theorem top_skip {m : Int → Option Int} {left : Lit → Bool} {q x : Int} (h : TopSo m left q) (e : x = 0) : TopSo m (fun z => left z && !z.sameKey (.int .i64 x)) q := by
  refine ⟨fun k v hk hkv hl => h.1 k v hk hkv ?_, h.2⟩
  simp only [sameKey_int] at hl
  simpa [show ¬ k = x from fun q => hk (q.trans e)] using hl
theorem top_take {m : Int → Option Int} {left : Lit → Bool} {q x c : Int} (h : TopSo m left q) (e : x ≠ 0) (hm : m x = some c) (hc : 0 ≤ c) : TopSo m (fun z => left z && !z.sameKey (.int .i64 x)) (max q c) := by
  refine ⟨fun k v hk hkv hl => ?_, Or.inr ?_⟩
  · simp only [sameKey_int] at hl
    by_cases ek : k = x
    · subst ek
      rw [hm] at hkv
      injection hkv with hkv
      omega
    · have := h.1 k v hk hkv (by simpa [ek] using hl)
      omega
  · by_cases hq : q ≤ c
    · exact ⟨x, e, by rw [Int.max_eq_right hq]; exact hm⟩
    · rcases h.2 with h2 | ⟨k, hk, hkq⟩
      · omega
      · exact ⟨k, hk, by rw [Int.max_eq_left (by omega)]; exact hkq⟩
set_option maxRecDepth 100000 in
set_option maxHeartbeats 1000000 in
theorem top_any (b n : Nat) (m : Int → Option Int) (w : World) (hm : Mp w b n m) (hv : ∀ k v, m k = some v → 0 ≤ v) :
    Calls Tryd.prog 115 #[.agg #[.map (some b)]] w (TopPost w m) := by
  obtain ⟨D, hown, hR⟩ := hm
  have hbl := hown.lt
  have hown1 : ∀ o, (w.alloc o).ownsMap Tryd.prog 3 (plainElem Tryd.prog 3) b n D := fun o => by
    obtain ⟨es, clock, h1, h2, h3, h4⟩ := hown
    exact ⟨es, clock, (Below.heap_alloc _ o b hbl).trans h1, h2, h3, h4⟩
  have HV := Lib.hid hv
  clear hv
  go_enter Tryd.func115, Tryd.ntmps115
  go_wp2_with (first
    | (at_range; refine wpList_range_own _ rfl _ 151 rfl 3 3 lawI Tryd.underlying151 _ b n _ rfl (hown1 _) ?_; intro w0 hrg0 hg0 hs0)
    | go_in)
  go_frame
  go_loopw [3] (fun t wr => ∃ (left : Lit → Bool) (cnt : Nat) (q : Int), t = .int .i64 q ∧ wr.ranges Tryd.prog 3 (plainElem Tryd.prog 3) b (w.alloc (.cells #[.map (some b)] 153)).heap.size n D left cnt ∧ Below w.heap.size w wr ∧ TopSo m left q)
    (fun _ wr => wr.rangeLeft b (w.alloc (.cells #[.map (some b)] 153)).heap.size)
  case atStart => exact ⟨_, _, -1, rfl, hrg0, ((Below.refl _ _).alloc (Nat.le_refl _) _).grown hg0 (by simp) (fun r e => by cases e), fun k v hk hkv hl => absurd hl (by rw [(hR.2 k).1, hkv]; simp), Or.inl rfl⟩
  case round =>
    obtain ⟨left, cnt, q, rfl, hrg, hb, hs⟩ := hrel
    have HS := Lib.hid hs
    clear hs
    have hbs := hb.size
    go_wp2_with (first
      | (at_next; refine wpList_next_ranges_ii _ rfl _ rfl 3 3 .i64 .i64 lawI Tryd.underlying3 Tryd.underlying3 b (w.alloc (.cells #[.map (some b)] 153)).heap.size n _ _ _ rfl hrg ?_ ?_)
      | go_in)
    · intro _ hl0
      have hfin : TopPost w m (.returned (.int .i64 q)) wr := ⟨q, rfl, ⟨fun k v hk hkv => HS.out.1 k v hk hkv (hl0 _), HS.out.2⟩, hb⟩
      have HF := Lib.hid hfin
      clear hfin hl0
      go_wp2
      go_ret
      exact HF.out
    · intro x c w1 cnt1 hwx hwc hlx hat hrg1 hlt hg1 hs1 hen
      have hmx : m x = some c := hR.at_ hat
      have hb1 : Below w.heap.size w w1 := hb.grown hg1 (by omega) (fun r e => by cases e; simp)
      have h0 : Hid (x = 0 → TopSo m (fun z => left z && !z.sameKey (.int .i64 x)) q) := fun e => top_skip HS.out e
      have h1 : Hid (x ≠ 0 → TopSo m (fun z => left z && !z.sameKey (.int .i64 x)) (max q c)) := fun e => top_take HS.out e hmx (HV.out _ _ hmx)
      have hms : Hid (w1.rangeLeft b (w.heap.size + 1) < wr.rangeLeft b (w.heap.size + 1)) := by
        have e1 := hrg1.left_eq
        have e2 := hrg.left_eq
        simp only [World.size_alloc] at e1 e2
        show _ < _
        rw [e1, e2]; exact hlt
      clear hmx hat hlx hwx hwc hs1 hrg
      have h2 : ∀ z, z = max q c → x ≠ 0 → TopSo m (fun z => left z && !z.sameKey (.int .i64 x)) z := fun z e hx => e ▸ h1.out hx
      have H2 := Lib.hid h2
      clear h2 h1
      go_wp2
      all_goals first
        | exact ⟨⟨_, ⟨_, hrg1⟩, h0.out (by simpa using ‹(x != 0) = false›)⟩, hms.out⟩
        | exact ⟨⟨_, ⟨_, hrg1⟩, H2.out q (by omega) (by simpa using ‹(x != 0) = true›)⟩, hms.out⟩
        | exact ⟨⟨_, ⟨_, hrg1⟩, H2.out c (by omega) (by simpa using ‹(x != 0) = true›)⟩, hms.out⟩
        | (simp only [World.size_alloc]
           go_roundw
           case rel => exact ⟨_, _, q, rfl, hrg1, hb1, h0.out (by simpa using ‹(x != 0) = false›)⟩
           case measure => exact hms.out)
end Go.Proofs.YtfgnnbpbbnnnhaaDoor
