/- What term.Levels answers: the term with levels put for its level variables. -/
import Derived.Test.YtafgmndlbbjphaaDoorTmPutB
import Derived.Test.YtafgmndlbbjphaaDoorTmOne
namespace Go.Proofs.YtafgmndlbbjphaaDoor
open Go.RowKit Go.Maps

/-- a level with levels put -/
def putL (bys : List (List (Int × Int))) (l : List (Int × Int)) : List (Int × Int) := nfA (putS (nfA l) bys)
theorem putL_len {bys : List (List (Int × Int))} (h9 : ∀ b ∈ bys, b.length ≤ 1048576) {l : List (Int × Int)} (h : l.length ≤ 1048576) : (putL bys l).length ≤ 1099511627776 := by
  have h1 := nfA_len (putS (nfA l) bys)
  have h2 := putS_len h9 (nfA l)
  have h3 := nfA_len l
  unfold putL
  omega
/-- the turn of Levels -/
def levT (bys : List (List (Int × Int))) : Turn := fun _ _ n lv => .go n (lv.map (putL bys))
/-- levels: none too long, not too many -/
def Bys (bys : List (List (Int × Int))) : Prop := bys.length ≤ 1048576 ∧ ∀ b ∈ bys, b.length ≤ 1048576

set_option maxRecDepth 100000 in
set_option maxHeartbeats 2000000 in
theorem lev1_any (A Ab : Option Addr) (ps : List (Int × Int)) (bys : List (List (Int × Int))) (n c nb cb pb : Nat) (w : World) (hn : ps.length = n) (hm : n ≤ 1048576) (h : Lev w w.heap.size A ps) (hc : A = none → c = 0)
    (hcell : w.cell? ⟨pb, 0, none⟩ = some (.slice Ab nb cb)) (hnb : bys.length = nb) (h9 : Bys bys) (hb : Levs w w.heap.size Ab bys) :
    Calls Tryd.prog 31 #[.agg #[.slice A n c], .pointer (some ⟨pb, 0, none⟩)] w (CopyPost w (putL bys ps)) := by
  obtain ⟨w1, hw1⟩ : ∃ x, (w.alloc (.cells #[.slice A n c] 56)).alloc (.cells #[.slice none 0 0] 56) = x := ⟨_, rfl⟩
  obtain ⟨x1, x2, _⟩ := two_allocs w (.cells #[.slice A n c] 56) (.cells #[.slice none 0 0] 56)
  rw [hw1] at x1 x2
  have hb1 : Below w.heap.size w w1 := by rw [← hw1]; exact ((Below.refl _ _).alloc (Nat.le_refl _) _).alloc (by simp) _
  have hs1 : w1.heap.size = w.heap.size + 2 := by rw [← hw1]; simp
  have HP : Hid (Calls Tryd.prog 32 #[.agg #[.slice A n c], .slice Ab nb cb] w1 (LvlPost w1 (putL bys ps))) := by
    have := put_any A Ab ps bys c cb w1 (by omega) ((h.below hb1).more hb1.size) hc (by have := h9.1; unfold maxLen; omega) h9.2 ((hb.below hb1).more hb1.size)
    rw [hn, hnb] at this
    exact this
  have hpb : pb < w.heap.size := cell_lt hcell
  have f0 := cell_of_one x1
  have f1 := (hb1.cell (p := ⟨pb, 0, none⟩) hpb).trans hcell
  have X2 := Lib.hid x2
  have HB1 := Lib.hid hb1
  have HS1 := Lib.hid hs1
  have HLN : Hid ((putL bys ps).length ≤ 1099511627776) := putL_len h9.2 (by omega)
  obtain ⟨qs, hqs⟩ : ∃ q, putL bys ps = q := ⟨_, rfl⟩
  rw [hqs] at HP HLN ⊢
  clear x1 x2 hb1 hs1 hcell h hc hb h9 hnb hn hqs hpb hm
  go_enter Tryd.func31, Tryd.ntmps31
  go_wp2_with (fail)
  refine HP.out.mono ?_
  rintro e w2 ⟨v, rfl, hrow, hb2⟩
  obtain ⟨A2, n2, m2, rfl⟩ := own_slice hrow
  have hsz := HS1.out
  have hr := (hb2.block (w.heap.size + 1) (by omega)).trans X2.out
  have f5 := cell_of_one hr
  have f6 := free_of_one hr
  have HFIN : Hid (CopyPost w qs (.returned (.agg #[.slice A2 n2 m2])) (w2.setCell ⟨w.heap.size + 1, 0, none⟩ (.slice A2 n2 m2))) := by
    have hz2 := hb2.size
    have hl := (own_lev hrow).1
    refine ⟨_, rfl, ⟨by simp [World.setCell]; omega, ⟨A2, m2, by rw [hl], by have := HLN.out; omega⟩, own_base (ownsRow_setCell_below hrow (by show w.heap.size + 1 < w1.heap.size; omega) _) (by omega), fun k hk => ?_⟩, (HB1.out.trans (hb2.mono (by omega))).setCell (by show w.heap.size ≤ w.heap.size + 1; omega) _⟩
    have := (hrow.lt k hk).2
    simpa [World.setCell] using this
  clear hr hrow hb2 hsz
  go_wp2
  exact bodyPost_ret (v := .agg #[.slice A2 n2 m2]) (by simp [results, Tryd.results31, go_sem, f5]) rfl HFIN.out
set_option maxRecDepth 100000 in
set_option maxHeartbeats 1000000 in
theorem each_put (F : List (Int × Int) → List (Int × Int)) (pb : Nat) (A : Option Addr) (ls : List (List (Int × Int))) (n c : Nat) (w : World) (hn : ls.length = n) (hm : n ≤ 1048576) (h6 : ∀ l ∈ ls, ∀ (Ai : Option Addr) (ni ci : Nat) (w' : World), l.length = ni → Below w.heap.size w w' → Lev w' w'.heap.size Ai l → (Ai = none → ci = 0) → Calls Tryd.prog 31 #[.agg #[.slice Ai ni ci], .pointer (some ⟨pb, 0, none⟩)] w' (CopyPost w' (F l))) (h : Levs w w.heap.size A ls) :
    Calls Tryd.prog 30 #[.slice A n c, .func (.func 31) #[] #[.pointer (some ⟨pb, 0, none⟩)]] w (EachPost w (ls.map F)) := by
  obtain ⟨i0, hi, hz0, hz1, hz2⟩ := info_parts infoLev
  have HL := Lib.hid h
  have HN := Lib.hid hn
  have H6 := Lib.hid h6
  rcases Nat.eq_zero_or_pos n with h0 | h0
  · subst h0
    have e : ls = [] := List.eq_nil_of_length_eq_zero hn
    have HF : Hid (EachPost w (ls.map F) (.returned (.slice none 0 0)) w) := by
      rw [e]
      exact ⟨none, 0, rfl, ⟨w.heap.size, [], ⟨Nat.le_refl _, ⟨none, 0, rfl, by simp⟩, own_nil _ _ _ _, fun k hk => by cases hk⟩, rfl, Nat.le_refl _⟩, Below.refl _ _⟩
    clear h h6 hn e
    go_enter Tryd.func30, Tryd.ntmps30
    go_wp2
    go_ret
    exact HF.out
  · have hne : ((n : Int) == 0) = false := by simp; omega
    clear h h6 hn
    go_enter Tryd.func30, Tryd.ntmps30
    go_wp2_with (at_make; refine wpList_make_full _ rfl _ _ 23 rfl w.heap.size 56 i0 (.agg #[.slice none 0 0]) 1 Tryd.underlying23 hi hz0 hz1 .i64 .i64 n n n rfl rfl rfl rfl ?b1 ?b2 ?b3 ?_)
    case b1 => rw [hz2]; omega
    case b2 => unfold maxLen; omega
    case b3 => exact Nat.le_refl _
    intro w1 ho1 hg1
    have HB1 : Hid (Below w.heap.size w w1) := grown_under hg1
    have HO := Lib.hid ho1
    have s1 : w.heap.size < w1.heap.size := (ho1.lt w.heap.size rfl).2
    clear ho1 hg1
    go_wp2
    go_loopw [16] (fun i wr => ∃ (k : Nat) (xs : List Value), k ≤ n ∧ i = .int .i64 (k : Int) ∧ Below w.heap.size w wr ∧ w.heap.size < wr.heap.size ∧ wr.ownsRow w.heap.size 56 1 (.slice (some ⟨w.heap.size, 0, none⟩) n n) n xs ∧ OwnLvs wr (w.heap.size + 1) wr.heap.size ((ls.map F).take k) (xs.take k)) (fun i _ => n - (intOf i).toNat)
    case atStart => exact ⟨0, _, Nat.zero_le _, rfl, HB1.out, s1, HO.out, by simp, by omega⟩
    case round =>
      obtain ⟨k, xs, hk, rfl, hb, hsz, hrow, hown⟩ := hrel
      have hbz := hb.size
      have HB := Lib.hid hb
      have HR := Lib.hid hrow
      have HOW := Lib.hid hown
      by_cases hlt : k < n
      · obtain ⟨b, o, e, hbB, hcell⟩ := HL.out (by rw [HN.out]; omega)
        subst e
        obtain ⟨Ai, ci, q0, q1, q2, _⟩ := hcell k (by rw [HN.out]; exact hlt)
        obtain ⟨l, el⟩ : ∃ l, ls[k]? = some l := ⟨_, List.getElem?_eq_getElem (by rw [HN.out]; exact hlt)⟩
        have eg : ls.getD k [] = l := by rw [List.getD_eq_getElem?_getD, el]; rfl
        rw [eg] at q0 q1
        have hl6 := H6.out l (List.mem_of_getElem? el)
        have hdum : True := trivial
        obtain ⟨ni, hni⟩ : ∃ j, l.length = j := ⟨_, rfl⟩
        rw [hni] at q0
        have c0 := (hb.cell (p := ⟨b, o + k, none⟩) hbB).trans q0
        have HC : Hid (∀ w', Below wr.heap.size wr w' → Calls Tryd.prog 31 #[.agg #[.slice Ai ni ci], .pointer (some ⟨pb, 0, none⟩)] w' (CopyPost w' (F l))) := fun w' hx => by
          have hx2 := hb.trans (hx.mono hbz)
          exact hl6 Ai ni ci w' hni hx2 ((q1.below hx2).more hx2.size) q2
        have EL := Lib.hid el
        have ij0 : (0 : Int) ≤ (k : Int) := by omega
        have ij1 : (k : Int) < (n : Int) := by omega
        clear hb hrow hown q0 q1 q2 el eg hl6 hni hcell
        go_wp2_with (fail)
        refine (HC.out _ ((Below.refl _ _).alloc (Nat.le_refl _) _)).mono ?_
        rintro e w2 ⟨v, rfl, hv, hb2⟩
        obtain ⟨A2, c2, rfl, _⟩ := hv.2.1
        have hb3 : Below wr.heap.size wr w2 := ((Below.refl _ _).alloc (Nat.le_refl _) _).trans (hb2.mono (by simp))
        have hs2 := hb3.size
        have hr2 : w2.ownsRow w.heap.size 56 1 (.slice (some ⟨w.heap.size, 0, none⟩) n n) n xs := own_in (hi := wr.heap.size) HR.out (fun k hk => (HR.out.lt k hk).2) (keptIn_below hb3 (Nat.le_refl _))
        have f2 := hr2.cellAt k (by omega)
        have z2 := hr2.frozenAt k
        have hxl : xs.length = n := by have := HR.out.1; omega
        rw [List.getElem?_eq_getElem (by omega)] at f2
        obtain ⟨u, hu⟩ : ∃ u, xs[k] = u := ⟨_, rfl⟩
        rw [hu] at f2
        have HFIN : Hid (Below w.heap.size w (w2.setCell ⟨w.heap.size, k, none⟩ (.slice A2 (F l).length c2)) ∧ w.heap.size < (w2.setCell ⟨w.heap.size, k, none⟩ (.slice A2 (F l).length c2)).heap.size ∧
            (w2.setCell ⟨w.heap.size, k, none⟩ (.slice A2 (F l).length c2)).ownsRow w.heap.size 56 1 (.slice (some ⟨w.heap.size, 0, none⟩) n n) n (xs.set k (.slice A2 (F l).length c2)) ∧
            OwnLvs (w2.setCell ⟨w.heap.size, k, none⟩ (.slice A2 (F l).length c2)) (w.heap.size + 1) (w2.setCell ⟨w.heap.size, k, none⟩ (.slice A2 (F l).length c2)).heap.size ((ls.map F).take (k + 1)) ((xs.set k (.slice A2 (F l).length c2)).take (k + 1))) := by
          have e3 : (w2.setCell ⟨w.heap.size, k, none⟩ (.slice A2 (F l).length c2)).heap.size = w2.heap.size := by simp [World.setCell]
          refine ⟨(HB.out.trans (hb3.mono hbz)).setCell (Nat.le_refl _) _, by omega, (hr2.stored k _).1, ?_⟩
          have e1 : (ls.map F).take (k + 1) = (ls.map F).take k ++ [F l] := by rw [List.take_add_one, List.getElem?_map, EL.out]; rfl
          have e2 : (xs.set k (.slice A2 (F l).length c2)).take (k + 1) = xs.take k ++ [.slice A2 (F l).length c2] := by
            rw [List.take_add_one, List.getElem?_set_self (by omega), List.take_set_of_le (Nat.le_refl _)]; rfl
          rw [e1, e2, e3]
          refine OwnLvs.snoc (mid := wr.heap.size) ?_ ?_
          · exact (hv.kept (keptIn_setCell _ _ _ (by simp; omega))).wide (by simp) (Nat.le_refl _)
          · exact (HOW.out.kept (keptIn_below hb3 (Nat.le_refl _))).kept (keptIn_setCell _ _ _ (by omega))
        obtain ⟨ni2, hni2⟩ : ∃ j, (F l).length = j := ⟨_, rfl⟩
        rw [hni2] at HFIN ⊢
        clear hv hb2 hb3 hr2 hu hni2
        go_wp2
        go_roundw
        case rel => exact ⟨k + 1, _, by omega, by go_num, HFIN.out.1, HFIN.out.2.1, HFIN.out.2.2.1, HFIN.out.2.2.2⟩
        case measure => simp [intOf]; omega
      · have hkn : k = n := by omega
        have e1 : (ls.map F).take k = ls.map F := List.take_of_length_le (by rw [List.length_map, HN.out]; omega)
        have hxl : xs.length = n := by have := hrow.1; omega
        have e2 : xs.take k = xs := List.take_of_length_le (by omega)
        rw [e1, e2] at hown
        have HF : Hid (EachPost w (ls.map F) (.returned (.slice (some ⟨w.heap.size, 0, none⟩) n n)) wr) := by
          refine ⟨some ⟨w.heap.size, 0, none⟩, n, by rw [List.length_map, HN.out], ⟨w.heap.size + 1, xs, ⟨by omega, ⟨_, _, rfl, by rw [List.length_map, HN.out]; omega⟩, by rw [List.length_map, HN.out]; exact hrow, fun k hk => by have hk2 : w.heap.size = k := Option.some.inj hk; omega⟩, hown⟩, hb⟩
        clear hb hrow hown e1 e2 hkn HR HOW
        go_wp2
        go_ret
        exact HF.out
set_option maxRecDepth 100000 in
set_option maxHeartbeats 4000000 in
theorem turn_levels (W : World) (B D pb : Nat) (Ab : Option Addr) (nb cb : Nat) (bys : List (List (Int × Int))) (hpb : pb < B) (hcell : W.cell? ⟨pb, 0, none⟩ = some (.slice Ab nb cb)) (hnb : bys.length = nb) (h9 : Bys bys)
    (hls : Levs W B Ab bys) : TurnOk W B D 29 #[.pointer (some ⟨pb, 0, none⟩)] (levT bys) := by
  intro d k n a lv w g o cur Al cl vk hd hr hs hb hg hx h5 hl hz
  obtain ⟨w1, hw1⟩ : ∃ x, w.alloc (.cells #[.int .i64 (d : Int)] 43) = x := ⟨_, rfl⟩
  have hb1 : Below w.heap.size w w1 := by rw [← hw1]; exact (Below.refl _ _).alloc (Nat.le_refl _) _
  have hs1 : w1.heap.size = w.heap.size + 1 := by rw [← hw1]; simp
  have hgl := heap_some_lt hx
  have hg1 := (hb1.block g hgl).trans hx
  have hbw : Below B W w1 := hb.trans (hb1.mono (by omega))
  obtain ⟨p1, hp1⟩ : ∃ p, lv.length = p := ⟨_, rfl⟩
  have e3 := row_cell hg1 h5.2.2.2.1
  have HE : Hid (Calls Tryd.prog 30 #[.slice Al p1 cl, .func (.func 31) #[] #[.pointer (some ⟨pb, 0, none⟩)]] w1 (EachPost w1 (lv.map (putL bys)))) := by
    refine each_put (putL bys) pb Al lv p1 cl w1 hp1 (by rw [← hp1]; exact hs.1) (fun l hl' Ai ni ci w' hni hx' hlev hci => ?_) ((hl.below hbw).more (by omega))
    have hx2 : Below B W w' := hbw.trans (hx'.mono (by omega))
    exact lev1_any Ai Ab l bys ni ci nb cb pb w' hni (by have := hs.2 l hl'; omega) hlev hci ((hx2.cell (p := ⟨pb, 0, none⟩) hpb).trans hcell) hnb h9 ((hls.below hx2).more (by have := hx'.size; omega))
  have HW : Hid (WideL (lv.map (putL bys))) := ⟨by rw [List.length_map]; exact hs.1, fun l hl' => by
    obtain ⟨l', h1, rfl⟩ := List.mem_map.1 hl'
    have := putL_len h9.2 (l := l') (by have := hs.2 l' h1; omega)
    exact this⟩
  have HX := Lib.hid hg1
  have H5 := Lib.hid h5
  have HB1 := Lib.hid hb1
  have HS1 := Lib.hid hs1
  have HMAP : Hid ((lv.map (putL bys)).length = p1) := by rw [List.length_map]; exact hp1
  obtain ⟨ls, hlse⟩ : ∃ x, lv.map (putL bys) = x := ⟨_, rfl⟩
  have HTN : Hid (levT bys d k n lv = .go n ls) := by
    show _ = _
    rw [← hlse]
    rfl
  rw [hlse] at HE HW HMAP
  rw [hp1] at e3
  rw [HTN.out]
  have hmf : ∀ (W : World), (Instr.makeFunc (.func 31) #[] #[.pointer (some ⟨pb, 0, none⟩)]).run Tryd.prog W = .ok (.func (.func 31) #[] #[.pointer (some ⟨pb, 0, none⟩)]) W := fun _ => rfl
  clear hx h5 hcell hr hs hb1 hg1 hb hbw hls h9 hnb hs1 hl hz hp1 hlse hd HTN
  show Calls Tryd.prog 29 #[.agg #[.int .i64 (d : Int)], .pointer (some ⟨g, o, none⟩), .pointer (some ⟨pb, 0, none⟩)] w (TurnPost w g o cur k a vk (.go n ls))
  go_enter Tryd.func29, Tryd.ntmps29
  go_wp2_with (fail)
  refine HE.out.mono ?_
  rintro e w2 ⟨A2, c2, rfl, hrow, hb2⟩
  rw [HMAP.out]
  rw [HMAP.out] at hrow
  have hx2 := (hb2.block g (heap_some_lt HX.out)).trans HX.out
  have z3 := thawed hx2 (o + 3)
  have f3 := row_cell hx2 H5.out.2.2.2.1
  have HFIN : Hid (TurnPost w g o cur k a vk (.go n ls) (.returned (.bool false)) (w2.setCell ⟨g, o + 3, none⟩ (.slice A2 p1 c2))) := by
    have hs1 := HS1.out
    have hz2 := hb2.size
    have hgr := grown_set (grown_below (HB1.out.trans (hb2.mono (by omega))) (some g)) (o + 3) (.slice A2 p1 c2)
    refine ⟨hgr, rfl, HW.out, _, A2, c2, set_same hx2 _ _, Only5.set _ (by omega) (by omega), by rw [HMAP.out]; exact H5.out.set3 _, ?_⟩
    have hk : OwnRowL (w2.setCell ⟨g, o + 3, none⟩ (.slice A2 p1 c2)) w1.heap.size w2.heap.size (.slice A2 ls.length c2) ls := by
      rw [HMAP.out]
      exact hrow.kept (keptIn_setCell _ _ _ (by omega))
    have := hk.levs
    exact ⟨this.1.more (by simp [World.setCell]), this.2⟩
  clear hrow hb2 hx2 HE
  go_wp2
  go_ret
  exact HFIN.out

set_option maxRecDepth 100000 in
theorem enter_levels1 (vs : Array Value) (w : World) : (callFunc 29 vs).run Tryd.prog w = .ok (.enter 29 vs) w := by go_simp
set_option maxRecDepth 100000 in
set_option maxHeartbeats 4000000 in
theorem levels_of (k n a : Int) (lv : List (List (Int × Int))) (kids : List Tm) (hf : (Tm.mk k n a lv kids).fit) (w : World) (Al Ak Ab : Option Addr) (p1 c1 p2 c2 nb cb : Nat) (bys : List (List (Int × Int))) (hd : (Tm.mk k n a lv kids).size ≤ 1073741824) (hK : KindsAt w)
    (hv : TmAt w w.heap.size (.mk k n a lv kids) (.agg #[.int .i64 k, .int .i64 n, .int .i64 a, .slice Al p1 c1, .slice Ak p2 c2])) (hnb : bys.length = nb) (h9 : Bys bys) (hls : Levs w w.heap.size Ab bys) :
    Calls Tryd.prog 15 #[.agg #[.int .i64 k, .int .i64 n, .int .i64 a, .slice Al p1 c1, .slice Ak p2 c2], .slice Ab nb cb] w (TermPost w ((Tm.mk k n a lv kids).walk (levT bys) 0)) := by
  have h0 : 0 < w.heap.size := cell_lt (hK 0 (by decide))
  obtain ⟨wa, hwa⟩ : ∃ x, w.alloc (.cells #[.int .i64 k, .int .i64 n, .int .i64 a, .slice Al p1 c1, .slice Ak p2 c2] 26) = x := ⟨_, rfl⟩
  obtain ⟨w1, hw1⟩ : ∃ x, (wa.alloc (.cells #[.slice Ab nb cb] 23)).alloc (.cells #[.int .i64 0, .int .i64 0, .int .i64 0, .slice none 0 0, .slice none 0 0] 26) = x := ⟨_, rfl⟩
  have hsa : wa.heap.size = w.heap.size + 1 := by rw [← hwa]; simp
  have hba : Below w.heap.size w wa := by rw [← hwa]; exact (Below.refl _ _).alloc (Nat.le_refl _) _
  have hb1a : Below wa.heap.size wa w1 := by rw [← hw1]; exact ((Below.refl _ _).alloc (Nat.le_refl _) _).alloc (by simp) _
  have hb1 := hba.trans (hb1a.mono (by omega))
  have hs1 : w1.heap.size = w.heap.size + 3 := by rw [← hw1]; simp [hsa]
  have xa : wa.heap[w.heap.size]? = some (.cells #[.int .i64 k, .int .i64 n, .int .i64 a, .slice Al p1 c1, .slice Ak p2 c2] 26 (0, 0)) := by rw [← hwa]; exact heap_alloc_new w _
  have x0 := (hb1a.block w.heap.size (by omega)).trans xa
  obtain ⟨x1, x3, _⟩ := two_allocs wa (.cells #[.slice Ab nb cb] 23) (.cells #[.int .i64 0, .int .i64 0, .int .i64 0, .slice none 0 0, .slice none 0 0] 26)
  rw [hw1, hsa] at x1 x3
  obtain ⟨u, hu⟩ : ∃ u, (Tm.mk k n a lv kids).walk (levT bys) 0 = u := ⟨_, rfl⟩
  rw [hu]
  have HN : Hid (Calls Tryd.prog 24 #[.agg #[.int .i64 0, .func (.func 29) #[] #[.pointer (some ⟨w.heap.size + 1, 0, none⟩)]], .agg #[.int .i64 k, .int .i64 n, .int .i64 a, .slice Al p1 c1, .slice Ak p2 c2]] w1 (TermPost w1 u)) := by
    rw [← hu]
    exact term_any w1 w1.heap.size 1073741824 _ _ _ (Nat.le_refl _) (by omega) (hK.below hb1 h0) (fun vs w => enter_levels1 vs w) (turn_levels w1 _ _ _ Ab nb cb bys (heap_some_lt x1) (cell_of_one x1) hnb h9 ((hls.below hb1).more hb1.size)) _ hf 0 _ w1 (by omega) (Below.refl _ _) (Nat.le_refl _) (hv.below hb1 hb1.size)
  have y0 := cell_of_row _ _ 0 _ _ (0, 0) x0
  have y1 := cell_of_row _ _ 1 _ _ (0, 0) x0
  have y2 := cell_of_row _ _ 2 _ _ (0, 0) x0
  have y3 := cell_of_row _ _ 3 _ _ (0, 0) x0
  have y4 := cell_of_row _ _ 4 _ _ (0, 0) x0
  have X3 := Lib.hid x3
  have HB1 := Lib.hid hb1
  have HS1 := Lib.hid hs1
  have hmf : ∀ (W : World), (Instr.makeFunc (.func 29) #[] #[.pointer (some ⟨w.heap.size + 1, 0, none⟩)]).run Tryd.prog W = .ok (.func (.func 29) #[] #[.pointer (some ⟨w.heap.size + 1, 0, none⟩)]) W := fun _ => rfl
  clear hu hK hf hd hv x0 x1 x3 xa hb1 hb1a hba hs1 h0 hls h9 hnb
  go_enter Tryd.func15, Tryd.ntmps15
  go_wp2_with (fail)
  refine HN.out.mono ?_
  rintro e w2 ⟨v, rfl, hown, hb2⟩
  obtain ⟨k2, n2, a2, lv2, kids2⟩ := u
  obtain ⟨vl, vk, m1, m2, xs, ev, w1', ⟨A5, c5, rfl⟩, w2', w3'⟩ := hown.open
  obtain ⟨A6, c6, rfl, _⟩ := w2'.2.1
  obtain ⟨p5, hp5⟩ : ∃ p, lv2.length = p := ⟨_, rfl⟩
  obtain ⟨p6, hp6⟩ : ∃ p, kids2.length = p := ⟨_, rfl⟩
  rw [hp5, hp6] at ev
  subst ev
  have hr2 := (hb2.block (w.heap.size + 1 + 1) (by have := HS1.out; omega)).trans X3.out
  have e0 := cell_of_row _ _ 0 _ _ (0, 0) hr2
  have e1 := cell_of_row _ _ 1 _ _ (0, 0) hr2
  have e2 := cell_of_row _ _ 2 _ _ (0, 0) hr2
  have e3 := cell_of_row _ _ 3 _ _ (0, 0) hr2
  have e4 := cell_of_row _ _ 4 _ _ (0, 0) hr2
  have t0 := thawed hr2 0
  have t1 := thawed hr2 1
  have t2 := thawed hr2 2
  have t3 := thawed hr2 3
  have t4 := thawed hr2 4
  obtain ⟨g9, s9, cur9, h9, _, hc9⟩ := store5_post hr2 (o := 0) (by simp) (.int .i64 k2) (.int .i64 n2) (.int .i64 a2) (.slice A5 p5 c5) (.slice A6 p6 c6)
  have r0 := row_cell h9 hc9.1
  have r1 := row_cell h9 hc9.2.1
  have r2 := row_cell h9 hc9.2.2.1
  have r3 := row_cell h9 hc9.2.2.2.1
  have r4 := row_cell h9 hc9.2.2.2.2
  have HFIN : Hid (TermPost w (Tm.mk k2 n2 a2 lv2 kids2) (.returned (.agg #[.int .i64 k2, .int .i64 n2, .int .i64 a2, .slice A5 p5 c5, .slice A6 p6 c6])) (store5 w2 (w.heap.size + 1 + 1) 0 (.int .i64 k2) (.int .i64 n2) (.int .i64 a2) (.slice A5 p5 c5) (.slice A6 p6 c6))) := by
    have hs1 := HS1.out
    have hgs := hb2.size
    refine ⟨_, rfl, ?_, (HB1.out.trans (hb2.mono (by omega))).trans (below_grown g9 (by omega) (by omega))⟩
    rw [s9]
    exact (hown.kept (grown_kept g9 (by omega) (Nat.le_refl _))).wide (by omega) (Nat.le_refl _)
  unfold store5 at HFIN r0 r1 r2 r3 r4
  clear g9 s9 h9 hc9 hown hb2 hr2 w1' w2' w3' hp5 hp6 HN
  go_wp2
  exact bodyPost_ret (v := .agg #[.int .i64 k2, .int .i64 n2, .int .i64 a2, .slice A5 p5 c5, .slice A6 p6 c6]) (by simp [results, Tryd.results15, go_sem, r0, r1, r2, r3, r4]) rfl HFIN.out
/-- Levels answers the term with levels put. -/
theorem levels_any (t : Tm) (bys : List (List (Int × Int))) (hf : t.fit) (v : Value) (Ab : Option Addr) (nb cb : Nat) (w : World) (hd : t.size ≤ 1073741824) (hK : KindsAt w) (hv : TmAt w w.heap.size t v) (hnb : bys.length = nb) (h9 : Bys bys) (hls : Levs w w.heap.size Ab bys) :
    Calls Tryd.prog 15 #[v, .slice Ab nb cb] w (TermPost w (t.walk (levT bys) 0)) := by
  obtain ⟨k, n, a, lv, kids⟩ := t
  have hv' := hv
  obtain ⟨Al, cl, Ak, ck, rfl, _⟩ := hv.open
  exact levels_of k n a lv kids hf w Al Ak Ab _ cl _ ck nb cb bys hd hK hv' hnb h9 hls
end Go.Proofs.YtafgmndlbbjphaaDoor
