/- Laws. -/
import Derived.Test.YtfgnnbpbbnnnhaaDoorRray
namespace Go.Proofs.YtfgnnbpbbnnnhaaDoor
open Go.RowKit Go.Maps
theorem rs_nil (n : Int) : RightS [] n := ⟨by simp, fun i hi => by simp at hi⟩
theorem aw1 : rightSB 0 0 0 [natD] (.mk 9 0 1 [] []) = true := by
  rw [rightSB_iff]
  refine ⟨by kernel_rfl, ?_⟩
  rw [Tm.src_mk]
  refine ⟨?_, fun l hl => by simp at hl, by rw [Tm.srcL]; trivial⟩
  unfold AskS
  exact Or.inr (Or.inr (Or.inr (Or.inr (Or.inl ⟨rfl, by decide, natD, rfl, rfl, rfl, by decide⟩))))
theorem aw2 : rightSB 0 0 0 [natD] (.mk 9 0 2 [] []) = false := by
  cases e : rightSB 0 0 0 [natD] (.mk 9 0 2 [] []) with
  | false => rfl
  | true =>
    have h := ((rightSB_iff ..).1 e).2
    rw [Tm.src_mk] at h
    have h := h.1
    unfold AskS at h
    rcases h with h | h | h | h | h | h | h
    · exact absurd h.1 (by decide)
    · omega
    · exact absurd h.1 (by decide)
    · exact absurd h.1 (by decide)
    · obtain ⟨_, _, D, hD, _, _, h2⟩ := h
      obtain rfl : natD = D := Option.some.inj hD
      exact absurd h2 (by decide)
    · exact absurd h.1 (by decide)
    · exact absurd h.1 (by decide)
theorem aw3 : rightSB 0 0 0 [natD] (.mk 10 0 0 [[]] []) = true := by
  rw [rightSB_iff]
  refine ⟨by kernel_rfl, ?_⟩
  rw [Tm.src_mk]
  refine ⟨?_, fun l hl => ?_, by rw [Tm.srcL]; trivial⟩
  · unfold AskS
    exact Or.inr (Or.inr (Or.inr (Or.inr (Or.inr (Or.inl ⟨rfl, by decide, natD, rfl, rfl, rfl, by decide⟩)))))
  · simp at hl
    subst hl
    exact rs_nil 0
theorem aw4 : rightSB 0 0 0 [natD] (.mk 10 0 0 [] []) = false := by
  cases e : rightSB 0 0 0 [natD] (.mk 10 0 0 [] []) with
  | false => rfl
  | true =>
    have h := ((rightSB_iff ..).1 e).2
    rw [Tm.src_mk] at h
    have h := h.1
    unfold AskS at h
    rcases h with h | h | h | h | h | h | h
    · exact absurd h.1 (by decide)
    · omega
    · exact absurd h.1 (by decide)
    · exact absurd h.1 (by decide)
    · exact absurd h.1 (by decide)
    · obtain ⟨_, _, D, hD, _, h2, _⟩ := h
      obtain rfl : natD = D := Option.some.inj hD
      exact absurd h2 (by decide)
    · exact absurd h.1 (by decide)
theorem self_src (d : Nat) : sT9.src 0 0 1 [] d := by
  unfold sT9
  rw [Tm.src_mk]
  refine ⟨?_, fun l hl => by simp at hl, by rw [Tm.srcL]; trivial⟩
  unfold AskS
  exact Or.inr (Or.inr (Or.inr (Or.inr (Or.inr (Or.inr ⟨rfl, by decide⟩)))))
theorem aw5 : declSB [] natD = true := by
  rw [declSB_iff]
  refine ⟨by decide, by decide, ?_⟩
  show (if natD.kind = 1 then _ else _)
  rw [if_neg (by decide), if_neg (by decide), if_pos (by decide)]
  refine ⟨rfl, rfl, rs_nil 0, by decide, by decide, by decide, ⟨by decide, fun i t ht => by simp [natD] at ht⟩, fun m hm => ?_, fun c hc => ?_⟩
  · simp [natD] at hm
    subst hm
    exact ⟨by decide, fun i t ht => by simp at ht⟩
  · simp only [natD, List.mem_cons, List.not_mem_nil, or_false] at hc
    rcases hc with rfl | rfl
    · exact ⟨by decide, by decide, by kernel_rfl, self_src 0⟩
    · refine ⟨by decide, by decide, by kernel_rfl, ?_⟩
      show piT9.src 0 0 1 [] 0
      unfold piT9
      rw [Tm.src_mk]
      refine ⟨?_, fun l hl => by simp at hl, ?_⟩
      · unfold AskS
        exact Or.inr (Or.inl (by decide))
      · rw [Tm.srcL, Tm.srcL, Tm.srcL]
        exact ⟨self_src _, self_src _, trivial⟩
theorem aw6 : declSB [] zD = false := by
  cases e : declSB [] zD with
  | false => rfl
  | true =>
    obtain ⟨_, _, h⟩ := (declSB_iff ..).1 e
    rw [if_neg (by decide), if_neg (by decide), if_neg (by decide)] at h
    exact h.elim
theorem fit_leaf (k n a : Int) (lv : List (List (Int × Int))) (hn : Rng n) (hl : SlimL lv) : (Tm.mk k n a lv []).fit := by
  rw [Tm.fit_mk]
  exact ⟨hn, hl, by simp, by rw [Tm.fitL]; trivial⟩
theorem natD_fits : natD.fits := by
  have h0 : zT9.fit := fit_leaf 0 0 0 [] (by unfold Rng; omega) ⟨by simp, by simp⟩
  have h1 : sT9.fit := fit_leaf 11 0 0 [] (by unfold Rng; omega) ⟨by simp, by simp⟩
  have h2 : piT9.fit := by
    unfold piT9
    rw [Tm.fit_mk]
    exact ⟨by unfold Rng; omega, ⟨by simp, by simp⟩, by simp, (Tm.fitL_iff _).2 (by simp [h1])⟩
  exact ⟨h0, h0, fun t ht => by simp [natD] at ht, fun m hm t ht => by simp [natD] at hm; subst hm; simp at ht, fun c hc => by
    simp only [natD, List.mem_cons, List.not_mem_nil, or_false] at hc
    rcases hc with rfl | rfl
    · exact h1
    · exact h2⟩
theorem zD_fits : zD.fits := by
  have h0 : zT9.fit := fit_leaf 0 0 0 [] (by unfold Rng; omega) ⟨by simp, by simp⟩
  exact ⟨h0, h0, fun t ht => by simp [zD] at ht, fun m hm => by simp [zD] at hm, fun c hc => by simp [zD] at hc⟩
theorem zD_at (w : World) (B : Nat) : DcAt w B zD zeroDc :=
  ⟨_, _, _, _, _, _, _, _, _, _, none, none, none, none, 0, 0, 0, 0, rfl, zT9_at _ _, zT9_at _ _, cnt_nil0 _ _, fun _ => rfl, fun h => by simp [zD] at h, ⟨fun _ => rfl, fun h => by simp [zD] at h⟩, ⟨fun _ => rfl, fun h => by simp [zD] at h⟩⟩
theorem dcs_none (w : World) (B : Nat) : Dcs w B none 0 [] := ⟨fun _ => rfl, fun h => by simp at h⟩
theorem dcs_one {w : World} {g : Nat} {d : Dc} {cs : Array Value} (h : w.heap[g]? = some (.cells cs 43 (0, 0))) (hd : DcAt w w.heap.size d cs) : Dcs w w.heap.size (some ⟨g, 0, none⟩) 1 [d] := ⟨fun h => (by cases h), fun _ => ⟨g, 0, rfl, heap_some_lt h, fun i x hi => by
  match i, hi with
  | 0, hi => injection hi with hi; subst hi; exact ⟨cs, hd, fun j _ => by rw [show 0 + 0 * 16 + j = j by omega]; exact cell_of_row _ _ j _ _ (0, 0) h⟩⟩⟩
set_option maxRecDepth 100000 in
set_option maxHeartbeats 4000000 in
theorem awake11_any (w : World) (hK : KindsAll w) : Calls Tryd.prog 7 #[] w (HasPost w true) := by
  have hw0 : 0 < w.heap.size := cell_lt (hK 0 (by decide)).1
  have HK := Lib.hid hK
  clear hK
  go_enter Tryd.func7, Tryd.ntmps7
  go_wp2_with (fail)
  refine (nat11_any w).mono ?_
  rintro e w2 ⟨a, b, rfl, hdc, hb2⟩
  obtain ⟨w3, hw3⟩ : ∃ x, w2.alloc (.cells (natV a b) 43) = x := ⟨_, rfl⟩
  obtain ⟨w4, hw4⟩ : ∃ x, w3.alloc (.cells #[.slice none 0 0] 39) = x := ⟨_, rfl⟩
  have hb3 : Below w2.heap.size w2 w3 := by rw [← hw3]; exact (Below.refl _ _).alloc (Nat.le_refl _) _
  have hb4 : Below w3.heap.size w3 w4 := by rw [← hw4]; exact (Below.refl _ _).alloc (Nat.le_refl _) _
  have x3 : w3.heap[w2.heap.size]? = some (.cells (natV a b) 43 (0, 0)) := by rw [← hw3]; exact heap_alloc_new w2 _
  have x4 : w4.heap[w3.heap.size]? = some (.cells #[.slice none 0 0] 39 (0, 0)) := by rw [← hw4]; exact heap_alloc_new w3 _
  have hds3 := dcs_one x3 (hdc.below hb3 hb3.size)
  have hds4 := hds3.below hb4 hb4.size
  have hbw4 : Below w.heap.size w w4 := hb2.trans ((hb3.trans (hb4.mono hb3.size)).mono hb2.size)
  have HW4 := Lib.hid hbw4
  have hlv : Levs w4 w4.heap.size (some ⟨w3.heap.size, 0, none⟩) [[]] := fun _ => ⟨w3.heap.size, 0, rfl, heap_some_lt x4, fun i hi => by
    obtain rfl : i = 0 := by simp at hi; exact hi
    exact ⟨none, 0, cell_of_row _ _ 0 _ _ (0, 0) x4, fun h => by simp at h, fun _ => rfl, by simp⟩⟩
  have HC : Hid (∀ (t : Tm) (v : Value) (r : Bool), rightSB 0 0 0 [natD] t = r → t.fit → t.size ≤ 1073741824 → TmAt w4 w4.heap.size t v → ∀ W, Below w4.heap.size w4 W → Calls Tryd.prog 9 #[.slice (some ⟨w2.heap.size, 0, none⟩) 1 1, .int .i64 0, .int .i64 0, .int .i64 0, v] W (HasPost W r)) := fun t v r hr hf hs ht W hW => by
    have hx := hbw4.trans (hW.mono hbw4.size)
    rw [← hr]
    exact rightS_any 0 0 0 [natD] _ 1 1 t v W (HK.out.below hx hw0) (hds4.below hW hW.size) rfl hf hs (ht.below hW hW.size)
  have C1 : Hid (∀ W, Below w4.heap.size w4 W → Calls Tryd.prog 9 #[.slice (some ⟨w2.heap.size, 0, none⟩) 1 1, .int .i64 0, .int .i64 0, .int .i64 0, .agg #[.int .i64 9, .int .i64 0, .int .i64 1, .slice none 0 0, .slice none 0 0]] W (HasPost W true)) :=
    HC.out (.mk 9 0 1 [] []) _ true aw1 (fit_leaf _ _ _ _ (by unfold Rng; omega) ⟨by simp, by simp⟩) (by decide) (TmAt.make (lv := []) (kids := []) (fun _ => rfl) (lvs_nil0 _ _) (cnt_nil0 _ _))
  have C2 : Hid (∀ W, Below w4.heap.size w4 W → Calls Tryd.prog 9 #[.slice (some ⟨w2.heap.size, 0, none⟩) 1 1, .int .i64 0, .int .i64 0, .int .i64 0, .agg #[.int .i64 9, .int .i64 0, .int .i64 2, .slice none 0 0, .slice none 0 0]] W (HasPost W false)) :=
    HC.out (.mk 9 0 2 [] []) _ false aw2 (fit_leaf _ _ _ _ (by unfold Rng; omega) ⟨by simp, by simp⟩) (by decide) (TmAt.make (lv := []) (kids := []) (fun _ => rfl) (lvs_nil0 _ _) (cnt_nil0 _ _))
  have C3 : Hid (∀ W, Below w4.heap.size w4 W → Calls Tryd.prog 9 #[.slice (some ⟨w2.heap.size, 0, none⟩) 1 1, .int .i64 0, .int .i64 0, .int .i64 0, .agg #[.int .i64 10, .int .i64 0, .int .i64 0, .slice (some ⟨w3.heap.size, 0, none⟩) 1 1, .slice none 0 0]] W (HasPost W true)) :=
    HC.out (.mk 10 0 0 [[]] []) _ true aw3 (fit_leaf _ _ _ _ (by unfold Rng; omega) ⟨by simp, by simp⟩) (by decide) (TmAt.make (lv := [[]]) (kids := []) (fun h => (by cases h)) hlv (cnt_nil0 _ _))
  have C4 : Hid (∀ W, Below w4.heap.size w4 W → Calls Tryd.prog 9 #[.slice (some ⟨w2.heap.size, 0, none⟩) 1 1, .int .i64 0, .int .i64 0, .int .i64 0, .agg #[.int .i64 10, .int .i64 0, .int .i64 0, .slice none 0 0, .slice none 0 0]] W (HasPost W false)) :=
    HC.out (.mk 10 0 0 [] []) _ false aw4 (fit_leaf _ _ _ _ (by unfold Rng; omega) ⟨by simp, by simp⟩) (by decide) (TmAt.make (lv := []) (kids := []) (fun _ => rfl) (lvs_nil0 _ _) (cnt_nil0 _ _))
  have HD : Hid (∀ (d : Dc) (cs : Array Value) (r : Bool) W, declSB [] d = r → d.fits → d.all ≤ 1048576 → DcAt W W.heap.size d cs → Below w4.heap.size w4 W → Calls Tryd.prog 14 #[.slice none 0 0, .agg cs] W (HasPost W r)) := fun d cs r W hr hf ha hd hW => by
    have hx := hbw4.trans (hW.mono hbw4.size)
    rw [← hr]
    exact declS_any [] none 0 0 d cs W (HK.out.below hx hw0) (dcs_none _ _) rfl hd hf ha
  unfold natV at hw3
  unfold natV
  clear hdc hb2 hb3 hb4 x3 x4 hds3 hds4 hbw4 hlv HC HK
  go_wp2_with (fail)
  refine (C1.out _ (Below.refl _ _)).mono ?_
  rintro e w5 ⟨rfl, h5⟩
  have H5 := Lib.hid h5
  clear h5 hw3 hw4
  go_wp2_with (fail)
  refine (C2.out _ H5.out).mono ?_
  rintro e w6 ⟨rfl, h6⟩
  have H6 := Lib.hid (H5.out.trans (h6.mono H5.out.size))
  clear h6
  go_wp2_with (fail)
  refine (C3.out _ H6.out).mono ?_
  rintro e w7 ⟨rfl, h7⟩
  have H7 := Lib.hid (H6.out.trans (h7.mono H6.out.size))
  clear h7
  go_wp2_with (fail)
  refine (C4.out _ H7.out).mono ?_
  rintro e w8 ⟨rfl, h8⟩
  have H8 := Lib.hid (H7.out.trans (h8.mono H7.out.size))
  clear h8
  go_wp2_with (fail)
  refine (nat11_any w8).mono ?_
  rintro e w9 ⟨a9, b9, rfl, hdc9, h9⟩
  have H9 := Lib.hid (H8.out.trans (h9.mono H8.out.size))
  have D9 := Lib.hid (HD.out natD _ true w9 aw5 natD_fits (by decide) hdc9 H9.out)
  clear h9 hdc9
  go_wp2_with (fail)
  refine D9.out.mono ?_
  rintro e w10 ⟨rfl, h10⟩
  have H10 := Lib.hid (H9.out.trans (h10.mono H9.out.size))
  have D10 := Lib.hid (HD.out zD zeroDc false w10 aw6 zD_fits (by decide) (zD_at _ _) H10.out)
  unfold zeroDc at D10
  clear h10
  go_wp2_with (fail)
  refine D10.out.mono ?_
  rintro e w11 ⟨rfl, h11⟩
  have HF : Hid (Below w.heap.size w w11) := HW4.out.trans ((H10.out.trans (h11.mono H10.out.size)).mono HW4.out.size)
  clear h11
  go_wp2
  go_ret
  exact ⟨rfl, HF.out⟩
/-- how great declarations and terms are together -/
theorem great11_any (ds : List Dc) (A : Option Addr) (n c : Nat) (ts : List Tm) (A2 : Option Addr) (m c2 : Nat) (w : World) (hn : ds.length = n) (hn9 : n ≤ 1048576) (hs : ∀ d ∈ ds, d.ok9) (h : Dcs w w.heap.size A c ds) (hm : ts.length = m) (hc : Tm.countL ts ≤ 1048576) (ht : Tms w w.heap.size A2 c2 ts) (hsum : sumF Dc.cn ds ≤ 1099511627776) :
    Calls Tryd.prog 8 #[.slice A n c, .slice A2 m c2] w (HasPost w (decide (1500 < sumF Dc.cn ds + Tm.countL ts))) := by
  have HD := Lib.hid (declsOf_cnt ds A c n w hn hn9 hs h)
  have HT : Hid (∀ W, Below w.heap.size w W → Calls Tryd.prog 31 #[.slice A2 m c2, .int .i64 1500] W (CountPost W (Tm.countL ts) 1500)) := fun W hW => termsOf_any ts A2 c2 1500 m W hm hc (by omega) (ht.below hW hW.size)
  obtain ⟨cD, hcD⟩ : ∃ x, sumF Dc.cn ds = x := ⟨_, rfl⟩
  obtain ⟨cT, hcT⟩ : ∃ x, Tm.countL ts = x := ⟨_, rfl⟩
  rw [hcD] at HD hsum ⊢
  rw [hcT] at HT hc ⊢
  clear hn hs h hm ht hcD hcT
  go_enter Tryd.func8, Tryd.ntmps8
  go_wp2_with (fail)
  refine HD.out.mono ?_
  rintro e w2 ⟨r, rfl, h1, h2, hb⟩
  have HB := Lib.hid hb
  have HT2 := Lib.hid (HT.out w2 hb)
  have HR : Hid (r ≤ cD ∧ (r ≤ 1500 → r = cD)) := ⟨h1, h2⟩
  clear h1 h2 hb
  go_wp2_with (fail)
  refine HT2.out.mono ?_
  rintro e w3 ⟨s, rfl, h1, h2, hb⟩
  have HF : Hid (Below w.heap.size w w3) := HB.out.trans (hb.mono HB.out.size)
  have hws : IntKind.i64.wrap ((r : Int) + (s : Int)) = (r : Int) + (s : Int) := IntWalk.i64_in _ (by have := HR.out; omega)
  have HQ : Hid (decide ((1500 : Int) < (r : Int) + (s : Int)) = decide (1500 < cD + cT)) := decide_eq_decide.2 (by have := HR.out; omega)
  clear h1 h2 hb
  go_wp2
  go_ret
  exact ⟨by rw [← HQ.out]; rfl, HF.out⟩
end Go.Proofs.YtfgnnbpbbnnnhaaDoor
