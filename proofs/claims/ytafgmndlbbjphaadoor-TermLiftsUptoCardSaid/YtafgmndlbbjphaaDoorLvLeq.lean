/- What level.Leq answers of parts that may stand in a normal form: whether each part of the one's normal form is covered by one of the other's. -/
import Derived.Test.YtafgmndlbbjphaaDoorLvGather
namespace Go.Proofs.YtafgmndlbbjphaaDoor
open Go.RowKit Go.Maps

theorem cell_lt {w : World} {g o : Nat} {v : Value} (h : w.cell? ⟨g, o, none⟩ = some v) : g < w.heap.size := by
  rcases Nat.lt_or_ge g w.heap.size with hlt | hge
  · exact hlt
  · simp [World.cell?, Array.getElem?_eq_none hge] at h

/-- Does q cover p? -/
def Cov (p q : Int × Int) : Prop := p.2 ≤ q.2 ∧ (p.1 = 0 ∨ q.1 = p.1)
instance (p q : Int × Int) : Decidable (Cov p q) := by unfold Cov; exact inferInstance

def CovPost (w : World) (p q : Int × Int) (e : Ending) (w' : World) : Prop := e = .returned (.bool (decide (Cov p q))) ∧ Below w.heap.size w w'

set_option maxRecDepth 100000 in
set_option maxHeartbeats 1000000 in
theorem covers_any (g : Nat) (px py qx qy : Int) (w : World) (h0 : w.cell? ⟨g, 0, none⟩ = some (.int .i64 px)) (h1 : w.cell? ⟨g, 1, none⟩ = some (.int .i64 py)) :
    Calls Tryd.prog 48 #[.agg #[.int .i64 qx, .int .i64 qy], .pointer (some ⟨g, 0, none⟩)] w (CovPost w (px, py) (qx, qy)) := by
  have hgl : g < w.heap.size := cell_lt h0
  have hbl := fun o => (Below.refl w.heap.size w).alloc (Nat.le_refl _) o
  have HB := Lib.hid hbl
  clear hbl
  by_cases t1 : py ≤ qy
  · by_cases t2 : px = 0
    · subst t2
      have HF : Hid (decide (Cov (0, py) (qx, qy)) = true) := decide_eq_true ⟨t1, Or.inl rfl⟩
      go_enter Tryd.func48, Tryd.ntmps48
      go_wp2
      go_ret
      exact ⟨by rw [HF.out]; rfl, HB.out _⟩
    · have zf : (px == 0) = false := by simpa using t2
      by_cases t3 : qx = px
      · have ze : (qx == px) = true := by simpa using t3
        have HF : Hid (decide (Cov (px, py) (qx, qy)) = true) := decide_eq_true ⟨t1, Or.inr t3⟩
        clear t2 t3
        go_enter Tryd.func48, Tryd.ntmps48
        go_wp2
        go_ret
        exact ⟨by rw [HF.out]; rfl, HB.out _⟩
      · have ze : (qx == px) = false := by simpa using t3
        have HF : Hid (decide (Cov (px, py) (qx, qy)) = false) := decide_eq_false (fun x => x.2.elim t2 t3)
        clear t2 t3
        go_enter Tryd.func48, Tryd.ntmps48
        go_wp2
        go_ret
        exact ⟨by rw [HF.out]; rfl, HB.out _⟩
  · have HF : Hid (decide (Cov (px, py) (qx, qy)) = false) := decide_eq_false (fun x => t1 x.1)
    go_enter Tryd.func48, Tryd.ntmps48
    go_wp2
    go_ret
    exact ⟨by rw [HF.out]; rfl, HB.out _⟩

def IdxPost (w : World) (p : Int × Int) (qs : List (Int × Int)) (e : Ending) (w' : World) : Prop := ∃ i : Int, e = .returned (.int .i64 i) ∧ (0 ≤ i ↔ ∃ q ∈ qs, Cov p q) ∧ Below w.heap.size w w'

set_option maxRecDepth 100000 in
set_option maxHeartbeats 1000000 in
theorem index_any (g : Nat) (px py : Int) (A : Option Addr) (qs : List (Int × Int)) (c : Nat) (w : World) (hm : qs.length ≤ maxLen) (h : Lev w w.heap.size A qs) (h0 : w.cell? ⟨g, 0, none⟩ = some (.int .i64 px)) (h1 : w.cell? ⟨g, 1, none⟩ = some (.int .i64 py)) :
    Calls Tryd.prog 61 #[.slice A qs.length c, .func (.func 48) #[] #[.pointer (some ⟨g, 0, none⟩)]] w (IdxPost w (px, py) qs) := by
  unfold maxLen at hm
  have hgl : g < w.heap.size := cell_lt h0
  have HL := Lib.hid h
  clear h
  go_enter Tryd.func61, Tryd.ntmps61
  go_wp2
  go_loopw [8] (fun i wr => ∃ k : Nat, k ≤ qs.length ∧ i = .int .i64 k ∧ Below w.heap.size w wr ∧ ∀ q ∈ qs.take k, ¬ Cov (px, py) q) (fun i _ => qs.length - (intOf i).toNat)
  case atStart => exact ⟨0, Nat.zero_le _, rfl, Below.refl _ _, fun q hq => by simp at hq⟩
  case round =>
    obtain ⟨k, hk, rfl, hb, hs⟩ := hrel
    have hbz := hb.size
    by_cases hlt : k < qs.length
    · obtain ⟨b, o, rfl, hbB, hcell⟩ := HL.out (by omega)
      have c0 := (hb.cell hbB).trans (hcell k hlt).1
      have c1 := (hb.cell hbB).trans (hcell k hlt).2
      obtain ⟨x, hx⟩ : ∃ x, x = (qs.getD k (0, 0)).1 := ⟨_, rfl⟩
      obtain ⟨y, hy⟩ : ∃ y, y = (qs.getD k (0, 0)).2 := ⟨_, rfl⟩
      rw [← hx] at c0
      rw [← hy] at c1
      have hq : qs[k] = (x, y) := by rw [hx, hy, List.getD_eq_getElem?_getD, List.getElem?_eq_getElem hlt]; rfl
      have HC := Lib.hid (covers_any g px py x y wr ((hb.cell hgl).trans h0) ((hb.cell hgl).trans h1))
      have HS := Lib.hid hs
      have HQ := Lib.hid hq
      have ij0 : (0 : Int) ≤ (k : Int) := by omega
      have ij1 : (k : Int) < (qs.length : Int) := by omega
      clear hs hq hx hy hcell
      go_wp2_with (fail)
      refine HC.out.mono ?_
      rintro e w2 ⟨rfl, hb2⟩
      by_cases t : Cov (px, py) (x, y)
      · have td : decide (Cov (px, py) (x, y)) = true := by simpa using t
        have HF : Hid (IdxPost w (px, py) qs (.returned (.int .i64 (k : Int))) w2) := ⟨_, rfl, ⟨fun _ => ⟨(x, y), by rw [← HQ.out]; exact List.getElem_mem hlt, t⟩, fun _ => by omega⟩, hb.trans (hb2.mono (by omega))⟩
        clear t hb2
        go_wp2
        go_ret
        exact HF.out
      · have td : decide (Cov (px, py) (x, y)) = false := by simpa using t
        have HF : Hid (Below w.heap.size w w2 ∧ ∀ q ∈ qs.take (k + 1), ¬ Cov (px, py) q) := ⟨hb.trans (hb2.mono (by omega)), fun q hq => by
          rw [List.take_succ_eq_append_getElem hlt, List.mem_append] at hq
          rcases hq with hq | hq
          · exact HS.out q hq
          · simp at hq; rw [hq, HQ.out]; exact t⟩
        clear t hb2
        go_wp2
        go_roundw
        case rel => exact ⟨k + 1, by omega, by go_num, HF.out.1, HF.out.2⟩
        case measure => simp [intOf]; omega
    · obtain rfl : k = qs.length := by omega
      have HF : Hid (IdxPost w (px, py) qs (.returned (.int .i64 (-1))) wr) := ⟨_, rfl, ⟨fun h => by omega, fun ⟨q, hq, hc⟩ => absurd hc (hs q (by simpa using hq))⟩, hb⟩
      clear hs hb
      go_wp2
      go_ret
      exact HF.out

def HasPost (w : World) (r : Bool) (e : Ending) (w' : World) : Prop := e = .returned (.bool r) ∧ Below w.heap.size w w'
set_option maxRecDepth 100000 in
set_option maxHeartbeats 1000000 in
theorem contains_any (g : Nat) (px py : Int) (A : Option Addr) (qs : List (Int × Int)) (c : Nat) (w : World) (hm : qs.length ≤ maxLen) (h : Lev w w.heap.size A qs) (h0 : w.cell? ⟨g, 0, none⟩ = some (.int .i64 px)) (h1 : w.cell? ⟨g, 1, none⟩ = some (.int .i64 py)) (r : Bool) (hr : r = true ↔ ∃ q ∈ qs, Cov (px, py) q) :
    Calls Tryd.prog 49 #[.slice A qs.length c, .func (.func 48) #[] #[.pointer (some ⟨g, 0, none⟩)]] w (HasPost w r) := by
  have HI := Lib.hid (index_any g px py A qs c w hm h h0 h1)
  have HR := Lib.hid hr
  clear hm h h0 h1 hr
  go_enter Tryd.func49, Tryd.ntmps49
  go_wp2_with (fail)
  refine HI.out.mono ?_
  rintro e w1 ⟨i, rfl, hi, hb⟩
  have HF : Hid (HasPost w r (.returned (.bool (decide (0 ≤ i)))) w1) := ⟨by
    have : r = decide (0 ≤ i) := by rw [Bool.eq_iff_iff, HR.out, ← hi]; simp
    rw [this], hb⟩
  clear hi hb
  go_wp2
  go_ret
  exact HF.out

theorem field_parts : ∀ (A : Option Addr) (n c : Nat) (w : World), (Instr.field 56 (.agg #[.slice A n c]) 0).run Tryd.prog w = .ok (.slice A n c) w := fun _ _ _ _ => by kernel_rfl

/-- Is a level never above another one? By their normal forms. -/
def LeqS (pa pb : List (Int × Int)) : Prop := ∀ p : Int × Int, Kept (mapOf pa) p.1 p.2 → ∃ q : Int × Int, Kept (mapOf pb) q.1 q.2 ∧ Cov p q

theorem level_len {ps qs : List (Int × Int)} (h : IsLevel (mapOf ps) qs) : qs.length ≤ ps.length := by
  have hnd : (qs.map (·.1)).Nodup := List.pairwise_map.2 (h.1.imp (fun {a c} hh => by omega))
  have hsub : ∀ x ∈ qs.map (·.1), x ∈ ps.map (·.1) := by
    intro x hx
    obtain ⟨p, hp, rfl⟩ := List.mem_map.1 hx
    exact List.mem_map.2 ⟨_, mapOf_mem ps p.1 p.2 ((h.2 p).1 hp).1, rfl⟩
  have : ∀ (l l' : List Int), l.Nodup → (∀ x ∈ l, x ∈ l') → l.length ≤ l'.length := by
    intro l
    induction l with
    | nil => intro l' _ _; simp
    | cons a l ih =>
      intro l' hn hs
      have ha := hs a (by simp)
      rw [List.nodup_cons] at hn
      have h1 := ih (l'.erase a) hn.2 (fun x hx => by
        refine (List.mem_erase_of_ne ?_).2 (hs x (by simp [hx]))
        rintro rfl
        exact hn.1 hx)
      rw [List.length_erase_of_mem ha] at h1
      have := List.length_pos_of_mem ha
      simp
      omega
  have := this _ _ hnd hsub
  simpa using this

theorem own_lev {w : World} {B : Nat} {A : Option Addr} {n c : Nat} {qs : List (Int × Int)} (h : w.ownsRow B 71 2 (.slice A n c) qs.length (cells qs)) : n = qs.length ∧ Lev w w.heap.size A qs ∧ (A = none → c = 0) := by
  rcases h.2 with ⟨e, h0⟩ | ⟨g, cap, cur, e, _, hh, _⟩
  · injection e with e1 e2 e3
    subst e1 e2 e3
    exact ⟨h0.symm, fun hp => by omega, fun _ => rfl⟩
  · injection e with e1 e2 e3
    subst e1 e2 e3
    refine ⟨rfl, fun _ => ⟨g, 0, rfl, lt_of_block hh, fun i hi => ?_⟩, fun e => by cases e⟩
    obtain ⟨c0, c1⟩ := cells_at qs i hi
    refine ⟨?_, ?_⟩
    · rw [Nat.zero_add, h.cellAt _ (by omega)]; exact c0
    · rw [Nat.zero_add, h.cellAt _ (by omega)]; exact c1

set_option maxRecDepth 100000 in
set_option maxHeartbeats 2000000 in
theorem leq_any (A A' : Option Addr) (pa pb : List (Int × Int)) (c c' : Nat) (w : World) (hma : Few pa.length) (hmb : Few pb.length) (ha : Lev w w.heap.size A pa) (hb : Lev w w.heap.size A' pb) (hca : A = none → c = 0) (hcb : A' = none → c' = 0)
    (hoa : ∀ p ∈ pa, okPart p) (hob : ∀ p ∈ pb, okPart p) (r : Bool) (hr : r = true ↔ LeqS pa pb) :
    Calls Tryd.prog 40 #[.agg #[.slice A pa.length c], .agg #[.slice A' pb.length c']] w (HasPost w r) := by
  have hmf : ∀ (fn : Fn) (first cap : Array Value) (w : World), (Instr.makeFunc fn first cap).run Tryd.prog w = .ok (.func fn first cap) w := fun _ _ _ _ => rfl
  have hfd := field_parts
  obtain ⟨x1, x2, x3⟩ := two_allocs w (.cells #[.slice A pa.length c] 56) (.cells #[.slice A' pb.length c'] 56)
  have hb0 : Below w.heap.size w ((w.alloc (.cells #[.slice A pa.length c] 56)).alloc (.cells #[.slice A' pb.length c'] 56)) := ((Below.refl _ _).alloc (Nat.le_refl _) _).alloc (by simp) _
  have HG1 := Lib.hid (gather_ok A' pb c' ((w.alloc (.cells #[.slice A pa.length c] 56)).alloc (.cells #[.slice A' pb.length c'] 56)) hmb ((hb.below hb0).more (by simp; omega)) hcb hob)
  have HG2 := Lib.hid (fun W (hW : Below w.heap.size w W) => gather_ok A pa c W hma ((ha.below hW).more hW.size) hca hoa)
  have X1 := Lib.hid x1
  have HB0 := Lib.hid hb0
  have HR := Lib.hid hr
  have HMA := Lib.hid hma
  have HMB := Lib.hid hmb
  clear x1 x2 x3 hb0 ha hb hoa hob hca hcb hr hma hmb
  go_enter Tryd.func40, Tryd.ntmps40
  go_wp2_with (fail)
  refine HG1.out.mono ?_
  rintro e w1 ⟨v1, q1, rfl, hq1, hrow1, hb1⟩
  obtain ⟨A1, n1, m1, rfl⟩ := own_slice hrow1
  obtain ⟨rfl, hl1, hc1⟩ := own_lev hrow1
  have e1 : w1.heap[w.heap.size]? = some (.cells #[.slice A pa.length c] 56 (0, 0)) := (hb1.block _ (by simp; omega)).trans X1.out
  have e2 : Below w.heap.size w w1 := HB0.out.trans (hb1.mono (by simp; omega))
  have hz1 : w.heap.size + 2 ≤ w1.heap.size := by have := hb1.size; simp at this; omega
  have HGG := Lib.hid (HG2.out w1 e2)
  have E2 := Lib.hid e2
  have HL1 := Lib.hid hl1
  have HQ1 := Lib.hid hq1
  have f1 := cell_of_one e1
  clear e1 e2 hl1 hc1 hq1 hrow1 hb1
  go_wp2_with (fail)
  refine HGG.out.mono ?_
  rintro e w2 ⟨v2, q2, rfl, hq2, hrow2, hb2⟩
  obtain ⟨A2, n2, m2, rfl⟩ := own_slice hrow2
  obtain ⟨rfl, hl2, hc2⟩ := own_lev hrow2
  have hz2 := hb2.size
  have E3 : Hid (Below w.heap.size w w2) := E2.out.trans (hb2.mono (by omega))
  have HL2 := Lib.hid hl2
  have HL1' : Hid (Lev w2 w1.heap.size A1 q1) := HL1.out.below hb2
  have HQ2 := Lib.hid hq2
  have hln1 : q1.length ≤ maxLen := by have := level_len HQ1.out; have := HMB.out; unfold Few at this; unfold maxLen; omega
  have hln2 : q2.length ≤ 9223372036854775807 := by have := level_len hq2; have := HMA.out; unfold Few at this; omega
  have HLN1 := Lib.hid hln1
  clear hl2 hc2 hq2 hrow2 hb2 f1 hln1
  go_wp2
  go_loopw [18] (fun i wr => ∃ k : Nat, k ≤ q2.length ∧ i = .int .i64 k ∧ Below w2.heap.size w2 wr ∧ ∀ p ∈ q2.take k, ∃ q ∈ q1, Cov p q) (fun i _ => q2.length - (intOf i).toNat)
  case atStart => exact ⟨0, Nat.zero_le _, rfl, Below.refl _ _, fun q hq => by simp at hq⟩
  case round =>
    obtain ⟨k, hk, rfl, hb, hs⟩ := hrel
    have hbz := hb.size
    by_cases hlt : k < q2.length
    · obtain ⟨b, o, rfl, hbB, hcell⟩ := HL2.out (by omega)
      have c0 := (hb.cell hbB).trans (hcell k hlt).1
      have c1 := (hb.cell hbB).trans (hcell k hlt).2
      obtain ⟨x, hx⟩ : ∃ x, x = (q2.getD k (0, 0)).1 := ⟨_, rfl⟩
      obtain ⟨y, hy⟩ : ∃ y, y = (q2.getD k (0, 0)).2 := ⟨_, rfl⟩
      rw [← hx] at c0
      rw [← hy] at c1
      have hq : q2[k] = (x, y) := by rw [hx, hy, List.getD_eq_getElem?_getD, List.getElem?_eq_getElem hlt]; rfl
      have hbw : b < wr.heap.size := by omega
      have HS := Lib.hid hs
      have HQK := Lib.hid hq
      have HBB := Lib.hid hb
      have hnew := two_new wr (.int .i64 x) (.int .i64 y) 71
      have n0 : (wr.alloc (.cells #[.int .i64 x, .int .i64 y] 71)).cell? ⟨wr.heap.size, 0, none⟩ = some (.int .i64 x) := hnew 0 _ rfl
      have n1' : (wr.alloc (.cells #[.int .i64 x, .int .i64 y] 71)).cell? ⟨wr.heap.size, 1, none⟩ = some (.int .i64 y) := hnew 1 _ rfl
      have hlv : Lev (wr.alloc (.cells #[.int .i64 x, .int .i64 y] 71)) (wr.alloc (.cells #[.int .i64 x, .int .i64 y] 71)).heap.size A1 q1 := (HL1'.out.below ((hb.mono hz2).alloc (by omega) _)).more (by simp; omega)
      by_cases t : ∃ q ∈ q1, Cov (x, y) q
      · have HC := Lib.hid (contains_any wr.heap.size x y A1 q1 m1 _ HLN1.out hlv n0 n1' true (by simpa using t))
        have HT := Lib.hid t
        clear hs hq hx hy hcell hnew n0 n1' hlv t hb
        go_wp2_with (fail)
        refine HC.out.mono ?_
        rintro e w3 ⟨rfl, hb3⟩
        have HF : Hid (Below w2.heap.size w2 w3 ∧ ∀ p ∈ q2.take (k + 1), ∃ q ∈ q1, Cov p q) := ⟨(HBB.out.alloc hbz _).trans (hb3.mono (by simp; omega)), fun p hp => by
          rw [List.take_succ_eq_append_getElem hlt, List.mem_append] at hp
          rcases hp with hp | hp
          · exact HS.out p hp
          · simp at hp; rw [hp, HQK.out]; exact HT.out⟩
        clear hb3
        go_wp2
        go_roundw
        case rel => exact ⟨k + 1, by omega, by go_num, HF.out.1, HF.out.2⟩
        case measure => simp [intOf]; omega
      · have HC := Lib.hid (contains_any wr.heap.size x y A1 q1 m1 _ HLN1.out hlv n0 n1' false (by simpa using t))
        have HT := Lib.hid t
        clear hs hq hx hy hcell hnew n0 n1' hlv t hb
        go_wp2_with (fail)
        refine HC.out.mono ?_
        rintro e w3 ⟨rfl, hb3⟩
        have HF : Hid (HasPost w r (.returned (.bool false)) w3) := ⟨by
          have : r = false := by
            rcases r with _ | _
            · rfl
            · refine absurd (HR.out.1 rfl (x, y) ?_) (fun ⟨q, hq, hc⟩ => HT.out ⟨q, (HQ1.out.2 q).2 hq, hc⟩)
              exact (HQ2.out.2 (x, y)).1 (by rw [← HQK.out]; exact List.getElem_mem hlt)
          rw [this], E3.out.trans (((HBB.out.alloc hbz _).trans (hb3.mono (by simp; omega))).mono E3.out.size)⟩
        clear hb3
        go_wp2
        go_ret
        exact HF.out
    · obtain rfl : k = q2.length := by omega
      have HF : Hid (HasPost w r (.returned (.bool true)) wr) := ⟨by
        have : r = true := HR.out.2 (fun p hp => by
          obtain ⟨q, hq, hc⟩ := hs p (by simpa using (HQ2.out.2 p).2 hp)
          exact ⟨q, (HQ1.out.2 q).1 hq, hc⟩)
        rw [this], E3.out.trans (hb.mono E3.out.size)⟩
      clear hs hb
      go_wp2
      go_ret
      exact HF.out

end Go.Proofs.YtafgmndlbbjphaaDoor
