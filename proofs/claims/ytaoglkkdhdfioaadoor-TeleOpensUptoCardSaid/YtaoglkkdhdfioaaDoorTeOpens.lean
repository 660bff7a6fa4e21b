/- TeleOpens, of all that is not too much. -/
import Derived.Test.YtaoglkkdhdfioaaDoorEvWk
import Derived.Test.YtaoglkkdhdfioaaDoorTeMath
import Derived.Test.YtaoglkkdhdfioaaDoorEvAn
import Derived.Test.YtaoglkkdhdfioaaDoorTeSize
import Derived.KernelRfl
import Derived.Test.YtaoglkkdhdfioaaDoorProg
namespace Go.Proofs.YtaoglkkdhdfioaaDoor
open Go Go.Proofs
set_option maxRecDepth 100000
set_option maxHeartbeats 8000000
attribute [local go_sem] AH.seals AH.adds news List.nil_append List.cons_append AF.put AF.start Slots.set Slots.ins zipA AH.zero AH.new AH.put AH.sub ofV AV.cells List.length AF.keep AH.cut List.filter_cons List.filter_nil List.contains_cons List.contains_nil Nat.reduceBEq Bool.or_false Bool.or_true Bool.true_or Bool.false_or decide_true decide_false Bool.not_false Bool.and_true Bool.true_and Bool.and_self List.append_nil List.getElem_toArray List.getElem_cons_zero List.getElem_cons_succ Nat.reduceLT Nat.reduceAdd Nat.reduceSub Nat.reduceEqDiff andThen atEnd rounds Tryd.ntmps3
theorem qok_cutHi {P : Program} {h : AH} {f : AF} {o : Oper} {t e : TypeId} {x y : Operand} {sz m : Nat} {es res : List AV} (ho : o.op = .slice t x none (some y) none) (hu : P.underlying t = some (.slice e)) (hs : szOf P e = some sz) (hx : f.ev x = some (.vals sz es)) (hy : f.ev y = some (eInt (m : Int))) (hm : m ≤ es.length) (hr : es.take m = res) : QOk P h f o (.vals sz res) := by
  subst hr
  refine qok_rop ?_
  simp only [rop, ho, rSlice, hu, hs, hx, AF.bound, hy]
  simp [hm]
theorem qok_cutLo {P : Program} {h : AH} {f : AF} {o : Oper} {t e : TypeId} {x y : Operand} {sz m : Nat} {es res : List AV} (ho : o.op = .slice t x (some y) none none) (hu : P.underlying t = some (.slice e)) (hs : szOf P e = some sz) (hx : f.ev x = some (.vals sz es)) (hy : f.ev y = some (eInt (m : Int))) (hm : m ≤ es.length) (hr : es.drop m = res) : QOk P h f o (.vals sz res) := by
  subst hr
  refine qok_rop ?_
  simp only [rop, ho, rSlice, hu, hs, hx, AF.bound, hy]
  simp [hm]
theorem max_run (g : Operand → Value) (d : Option Nat) (x y : Operand) (t u : TypeId) (a b : Int) (hx : g x = .int .i64 a) (hy : g y = .int .i64 b) (ty : TypeId) (pos : String) (aft : Array Edge) (gd : Option (Nat × Bool)) (w : World) :
    (execOp g { dst := d, op := .call { callee := .builtin .max, args := #[x, y], argTypes := #[t, u] }, type := ty, pos := pos, after := aft, guard := gd }).run Tryd.prog w = .ok (.value (.int .i64 (max a b))) w := by
  by_cases h : a < b
  · rw [Int.max_eq_right (by omega)]
    go_simp
    try omega
  · rw [Int.max_eq_left (by omega)]
    go_simp
    try omega
theorem qok_max {h : AH} {f : AF} {d : Option Nat} {x y : Operand} {t u : TypeId} {a b c : Int} {ty : TypeId} {pos : String} {aft : Array Edge} {gd : Option (Nat × Bool)} (hx : f.ev x = some (eInt a)) (hy : f.ev y = some (eInt b)) (hc : max a b = c) :
    QOk Tryd.prog h f { dst := d, op := .call { callee := .builtin .max, args := #[x, y], argTypes := #[t, u] }, type := ty, pos := pos, after := aft, guard := gd } (eInt c) := by
  subst hc
  refine qok_raw (v := .int .i64 (max a b)) rfl (fun z hz => ?_) fun w => ?_
  · change z ∈ [x, y] at hz
    simp at hz
    rcases hz with rfl | rfl
    · rw [hx]; rfl
    · rw [hy]; rfl
  · exact max_run _ d x y t u a b (by rw [AF.rawAt, hx]; rfl) (by rw [AF.rawAt, hy]; rfl) ty pos aft gd w
theorem opens_tells (row by' : List Tm) (t : Tm) (n : Int) (hs : t.size + Tm.sizeL row ≤ 1048576) (hs2 : t.size + Tm.sizeL by' ≤ 1048576) (hf : t.fit) (hl : Tm.fitL row) (hl2 : Tm.fitL by') : Tells Tryd.prog (.func 3) [.vals 5 (row.map eTm), eTm t, .vals 5 (by'.map eTm), eInt n] [] (eBool true) := by
  refine tells_raw (fun b hb => ?_) (.raw _) ?_
  · simp at hb; rcases hb with rfl | rfl | rfl | rfl
    · exact pure_tms 5 row
    · exact pure_tm t
    · exact pure_tms 5 by'
    · exact .raw _
  have hll := Tm.sizeL_len row
  have hgr1 := great_tells t row hs hf hl
  have hgr2 := great_tells t by' hs2 hf hl2
  have hsz := size_tells t (by omega)
  generalize hg1 : decide ((600 : Int) < (tsofN 600 0 (t :: row) : Int)) = g1 at hgr1
  generalize hg2 : decide ((600 : Int) < (tsofN 600 0 (t :: by') : Int)) = g2 at hgr2
  cases g1 with
  | true =>
    rw [eTm_agg t] at hgr1 ⊢
    generalize row.map eTm = K at hgr1 ⊢
    generalize by'.map eTm = B
    obtain ⟨k, m, a, lv, kids⟩ := t
    refine gives_enter Tryd.func3 rfl rfl ?_
    repeat' first
      | (refine goesL_q (y := .raw (.bool true)) (by rfl) (by rfl) ?_; refine sm ?_)
      | (refine goesL_q (y := .raw (.bool false)) (by rfl) (by rfl) ?_; refine sm ?_)
      | (refine goesL_b (by rfl) (by rfl) fun b hb => ?_; cases b <;> refine sm ?_)
      | (refine goesL_q (by rfl) (by rfl) ?_; refine sm ?_)
      | (refine goesL_n (by rfl) (by rfl) ?_; refine sm ?_)
      | (refine goesL_m (by rfl) (by rfl) ?_; refine sm ?_)
      | (refine goesL_s (by rfl) (qok_rop (by rfl)) ?_; refine sm ?_)
      | (refine goesL_off (by rfl) ?_; refine sm ?_)
      | (refine goesL_nil ?_; try refine sm ?_)
      | (refine goes_seq ?_)
      | (refine goes_region ?_)
      | (refine goes_cond (b := true) (by rfl) (fun _ => ?_) fun h => (by cases h))
      | (refine goes_cond (b := false) (by rfl) (fun h => (by cases h)) fun _ => ?_)
      | (refine goes_block ?_)
      | (refine goes_skip ?_; try refine sm ?_)
      | (refine goes_exit ?_; try refine sm ?_)
      | (refine goes_ret ?_; try refine sm ?_)
    refine goesL_tells awake_tells (by rfl) (by rfl) (by rfl) (by rfl) (by rfl) (by rfl) ?_
    refine sm ?_
    repeat' first
      | (refine goesL_q (y := .raw (.bool true)) (by rfl) (by rfl) ?_; refine sm ?_)
      | (refine goesL_q (y := .raw (.bool false)) (by rfl) (by rfl) ?_; refine sm ?_)
      | (refine goesL_b (by rfl) (by rfl) fun b hb => ?_; cases b <;> refine sm ?_)
      | (refine goesL_q (by rfl) (by rfl) ?_; refine sm ?_)
      | (refine goesL_n (by rfl) (by rfl) ?_; refine sm ?_)
      | (refine goesL_m (by rfl) (by rfl) ?_; refine sm ?_)
      | (refine goesL_s (by rfl) (qok_rop (by rfl)) ?_; refine sm ?_)
      | (refine goesL_off (by rfl) ?_; refine sm ?_)
      | (refine goesL_nil ?_; try refine sm ?_)
      | (refine goes_seq ?_)
      | (refine goes_region ?_)
      | (refine goes_cond (b := true) (by rfl) (fun _ => ?_) fun h => (by cases h))
      | (refine goes_cond (b := false) (by rfl) (fun h => (by cases h)) fun _ => ?_)
      | (refine goes_block ?_)
      | (refine goes_skip ?_; try refine sm ?_)
      | (refine goes_exit ?_; try refine sm ?_)
      | (refine goes_ret ?_; try refine sm ?_)
    refine goesL_tells hgr1 (by rfl) (by rfl) (by rfl) (by rfl) (by rfl) (by rfl) ?_
    refine sm ?_
    repeat' first
      | (refine goesL_q (y := .raw (.bool true)) (by rfl) (by rfl) ?_; refine sm ?_)
      | (refine goesL_q (y := .raw (.bool false)) (by rfl) (by rfl) ?_; refine sm ?_)
      | (refine goesL_b (by rfl) (by rfl) fun b hb => ?_; cases b <;> refine sm ?_)
      | (refine goesL_q (by rfl) (by rfl) ?_; refine sm ?_)
      | (refine goesL_n (by rfl) (by rfl) ?_; refine sm ?_)
      | (refine goesL_m (by rfl) (by rfl) ?_; refine sm ?_)
      | (refine goesL_s (by rfl) (qok_rop (by rfl)) ?_; refine sm ?_)
      | (refine goesL_off (by rfl) ?_; refine sm ?_)
      | (refine goesL_nil ?_; try refine sm ?_)
      | (refine goes_seq ?_)
      | (refine goes_region ?_)
      | (refine goes_cond (b := true) (by rfl) (fun _ => ?_) fun h => (by cases h))
      | (refine goes_cond (b := false) (by rfl) (fun h => (by cases h)) fun _ => ?_)
      | (refine goes_block ?_)
      | (refine goes_skip ?_; try refine sm ?_)
      | (refine goes_exit ?_; try refine sm ?_)
      | (refine goes_ret ?_; try refine sm ?_)
    exact ⟨rfl, _, rfl, rfl⟩
  | false =>
  cases g2 with
  | true =>
    rw [eTm_agg t] at hgr1 hgr2 ⊢
    generalize row.map eTm = K at hgr1 ⊢
    generalize by'.map eTm = B at hgr2 ⊢
    obtain ⟨k, m, a, lv, kids⟩ := t
    refine gives_enter Tryd.func3 rfl rfl ?_
    repeat' first
      | (refine goesL_q (y := .raw (.bool true)) (by rfl) (by rfl) ?_; refine sm ?_)
      | (refine goesL_q (y := .raw (.bool false)) (by rfl) (by rfl) ?_; refine sm ?_)
      | (refine goesL_b (by rfl) (by rfl) fun b hb => ?_; cases b <;> refine sm ?_)
      | (refine goesL_q (by rfl) (by rfl) ?_; refine sm ?_)
      | (refine goesL_n (by rfl) (by rfl) ?_; refine sm ?_)
      | (refine goesL_m (by rfl) (by rfl) ?_; refine sm ?_)
      | (refine goesL_s (by rfl) (qok_rop (by rfl)) ?_; refine sm ?_)
      | (refine goesL_off (by rfl) ?_; refine sm ?_)
      | (refine goesL_nil ?_; try refine sm ?_)
      | (refine goes_seq ?_)
      | (refine goes_region ?_)
      | (refine goes_cond (b := true) (by rfl) (fun _ => ?_) fun h => (by cases h))
      | (refine goes_cond (b := false) (by rfl) (fun h => (by cases h)) fun _ => ?_)
      | (refine goes_block ?_)
      | (refine goes_skip ?_; try refine sm ?_)
      | (refine goes_exit ?_; try refine sm ?_)
      | (refine goes_ret ?_; try refine sm ?_)
    refine goesL_tells awake_tells (by rfl) (by rfl) (by rfl) (by rfl) (by rfl) (by rfl) ?_
    refine sm ?_
    repeat' first
      | (refine goesL_q (y := .raw (.bool true)) (by rfl) (by rfl) ?_; refine sm ?_)
      | (refine goesL_q (y := .raw (.bool false)) (by rfl) (by rfl) ?_; refine sm ?_)
      | (refine goesL_b (by rfl) (by rfl) fun b hb => ?_; cases b <;> refine sm ?_)
      | (refine goesL_q (by rfl) (by rfl) ?_; refine sm ?_)
      | (refine goesL_n (by rfl) (by rfl) ?_; refine sm ?_)
      | (refine goesL_m (by rfl) (by rfl) ?_; refine sm ?_)
      | (refine goesL_s (by rfl) (qok_rop (by rfl)) ?_; refine sm ?_)
      | (refine goesL_off (by rfl) ?_; refine sm ?_)
      | (refine goesL_nil ?_; try refine sm ?_)
      | (refine goes_seq ?_)
      | (refine goes_region ?_)
      | (refine goes_cond (b := true) (by rfl) (fun _ => ?_) fun h => (by cases h))
      | (refine goes_cond (b := false) (by rfl) (fun h => (by cases h)) fun _ => ?_)
      | (refine goes_block ?_)
      | (refine goes_skip ?_; try refine sm ?_)
      | (refine goes_exit ?_; try refine sm ?_)
      | (refine goes_ret ?_; try refine sm ?_)
    refine goesL_tells hgr1 (by rfl) (by rfl) (by rfl) (by rfl) (by rfl) (by rfl) ?_
    refine sm ?_
    repeat' first
      | (refine goesL_q (y := .raw (.bool true)) (by rfl) (by rfl) ?_; refine sm ?_)
      | (refine goesL_q (y := .raw (.bool false)) (by rfl) (by rfl) ?_; refine sm ?_)
      | (refine goesL_b (by rfl) (by rfl) fun b hb => ?_; cases b <;> refine sm ?_)
      | (refine goesL_q (by rfl) (by rfl) ?_; refine sm ?_)
      | (refine goesL_n (by rfl) (by rfl) ?_; refine sm ?_)
      | (refine goesL_m (by rfl) (by rfl) ?_; refine sm ?_)
      | (refine goesL_s (by rfl) (qok_rop (by rfl)) ?_; refine sm ?_)
      | (refine goesL_off (by rfl) ?_; refine sm ?_)
      | (refine goesL_nil ?_; try refine sm ?_)
      | (refine goes_seq ?_)
      | (refine goes_region ?_)
      | (refine goes_cond (b := true) (by rfl) (fun _ => ?_) fun h => (by cases h))
      | (refine goes_cond (b := false) (by rfl) (fun h => (by cases h)) fun _ => ?_)
      | (refine goes_block ?_)
      | (refine goes_skip ?_; try refine sm ?_)
      | (refine goes_exit ?_; try refine sm ?_)
      | (refine goes_ret ?_; try refine sm ?_)
    refine goesL_tells hgr2 (by rfl) (by rfl) (by rfl) (by rfl) (by rfl) (by rfl) ?_
    refine sm ?_
    repeat' first
      | (refine goesL_q (y := .raw (.bool true)) (by rfl) (by rfl) ?_; refine sm ?_)
      | (refine goesL_q (y := .raw (.bool false)) (by rfl) (by rfl) ?_; refine sm ?_)
      | (refine goesL_b (by rfl) (by rfl) fun b hb => ?_; cases b <;> refine sm ?_)
      | (refine goesL_q (by rfl) (by rfl) ?_; refine sm ?_)
      | (refine goesL_n (by rfl) (by rfl) ?_; refine sm ?_)
      | (refine goesL_m (by rfl) (by rfl) ?_; refine sm ?_)
      | (refine goesL_s (by rfl) (qok_rop (by rfl)) ?_; refine sm ?_)
      | (refine goesL_off (by rfl) ?_; refine sm ?_)
      | (refine goesL_nil ?_; try refine sm ?_)
      | (refine goes_seq ?_)
      | (refine goes_region ?_)
      | (refine goes_cond (b := true) (by rfl) (fun _ => ?_) fun h => (by cases h))
      | (refine goes_cond (b := false) (by rfl) (fun h => (by cases h)) fun _ => ?_)
      | (refine goes_block ?_)
      | (refine goes_skip ?_; try refine sm ?_)
      | (refine goes_exit ?_; try refine sm ?_)
      | (refine goes_ret ?_; try refine sm ?_)
    exact ⟨rfl, _, rfl, rfl⟩
  | false =>
    have hc1 : t.count + Tm.countL row ≤ 600 := by
      have h := not_great (ts := t :: row) (M := 600) (by have := of_decide_eq_false hg1; omega)
      rw [Tm.countL] at h
      exact h
    have hc2 : t.count + Tm.countL by' ≤ 600 := by
      have h := not_great (ts := t :: by') (M := 600) (by have := of_decide_eq_false hg2; omega)
      rw [Tm.countL] at h
      exact h
    have hS1 := size_count t
    have hS2 := sizeL_countL row
    have hS3 := sizeL_countL by'
    -- what is called, and what it tells
    have hPis := pis_tells row t hs hf hl
    have hO1 := open_tells (aboveT 4 t row) (row.length : Int) (by omega) (by rw [aboveT_size]; omega) (aboveT_fit 4 t hf row hl)
    rw [if_neg (by omega), show ((row.length : Int)).toNat = row.length from rfl, openT_all] at hO1
    have hR1 := rows_tells row row (fun x hx => by have := Tm.countL_mem row x hx; omega) (by unfold small; omega)
    rw [rows_refl] at hR1
    have hE1 := same_tells t t (by omega)
    rw [same_refl] at hE1
    have hlen : (row.map eTm).length = row.length := by simp
    rw [← hlen] at hO1
    have hO1' : Tells Tryd.prog (.func 8) [eTm (aboveT 4 t row), eInt ((row.map eTm).length : Int)] [] (.tup [.vals 5 (row.map eTm), eTm t, eBool true]) := hO1
    have hC1 := count_tells (aboveT 4 t row) (by rw [aboveT_size]; omega)
    have hC2 := count_tells t (by omega)
    have hZ1 := size_tells (aboveT 4 t row) (by rw [aboveT_size]; omega)
    have hZ3 := size_tells (.mk 0 0 0 [] row) (by rw [Tm.size_mk]; omega)
    rw [cntT_above] at hC1
    rw [aboveT_size] at hZ1
    rw [Tm.size_mk, eTm_mk] at hZ3
    have hcl := cntT_le t
    obtain ⟨N, hN⟩ : ∃ N : Nat, max n 0 = (N : Int) := ⟨(max n 0).toNat, by omega⟩
    obtain ⟨few, hfew⟩ : ∃ few : Nat, min N row.length = few := ⟨_, rfl⟩
    have hfle : few ≤ row.length := by omega
    have hmn : min (N : Int) (row.length : Int) = (few : Int) := by omega
    have hasz : (aboveT 4 t row).size ≤ 1200 := by rw [aboveT_size]; omega
    have hafit : (aboveT 4 t row).fit := aboveT_fit 4 t hf row hl
    have hO2 := open_tells (aboveT 4 t row) (few : Int) (by omega) (by omega) hafit
    rw [if_neg (by omega), show ((few : Int)).toNat = few from rfl, openT_few t row few hfle] at hO2
    have hO2' : Tells Tryd.prog (.func 8) [eTm (aboveT 4 t row), eInt (few : Int)] [] (.tup [.vals 5 ((row.take few).map eTm), eTm (aboveT 4 t (row.drop few)), eBool true]) := hO2
    have hO3 := open_tells (aboveT 4 t row) ((row.length + cntT t + 1 : Nat) : Int) (by omega) (by omega) hafit
    rw [if_neg (by omega), show (((row.length + cntT t + 1 : Nat) : Int)).toNat = row.length + cntT t + 1 from rfl, openT_many] at hO3
    have hO3' : Tells Tryd.prog (.func 8) [eTm (aboveT 4 t row), eInt ((row.length + cntT t + 1 : Nat) : Int)] [] (.tup [.vals 5 [], eTm zeroTm, eBool false]) := hO3
    have htsz := sizeL_append (row.take few) (row.drop few)
    have htct := countL_append (row.take few) (row.drop few)
    have htft := (fitL_append (a := row.take few) (b := row.drop few)).1 (by rw [List.take_append_drop]; exact hl)
    rw [List.take_append_drop] at htsz htct
    have hdl : (row.drop few).length ≤ row.length := by rw [List.length_drop]; omega
    have hR3 := rows_tells (row.take few) (row.take few) (fun x hx => by have := Tm.countL_mem _ x hx; omega) (by have := Tm.countL_len (row.take few); unfold small; omega)
    rw [rows_refl] at hR3
    have hPis2 := pis_tells (row.drop few) t (by omega) hf htft.2
    have hE4 := same_tells (aboveT 4 t (row.drop few)) (aboveT 4 t (row.drop few)) (by rw [above_count]; omega)
    rw [same_refl] at hE4
    have htk : (row.map eTm).take few = (row.take few).map eTm := by rw [List.map_take]
    have hdk : (row.map eTm).drop few = (row.drop few).map eTm := by rw [List.map_drop]
    have hbyn : by'.length ≤ 600 := by have := Tm.countL_len by'; omega
    have hby : ∀ b ∈ by', b.fit ∧ b.size ≤ 600 ∧ b.count ≤ 600 := fun b hb => by
      have h1 := Tm.countL_mem by' b hb
      have h2 := size_count b
      exact ⟨(Tm.fitL_iff by').1 hl2 b hb, by omega, by omega⟩
    have hby2 : ∀ b ∈ by', b.fit ∧ b.size ≤ 1073741824 := fun b hb => ⟨(hby b hb).1, by have := (hby b hb).2.1; omega⟩
    obtain ⟨w1, w2, w3⟩ := put_bounds by' 600 600 (by omega) (by omega) hby (by omega) (aboveT 4 zeroTm row) 0
    have hz0 : zeroTm.fit := (Tm.fit_mk _ _ _ _ _).2 ⟨rng_zero, slim_nil, by simp, by rw [Tm.fitL]; trivial⟩
    have hPu := puts_tells row by' (by omega) hl (by omega) hby2 (by rw [aboveT_size, show zeroTm.size = 1 from rfl] at w1; omega) (w3 (aboveT_fit 4 zeroTm hz0 row hl))
    rw [puts_open by' zeroTm row] at hPu
    have hPu' : Tells Tryd.prog (.func 15) [.vals 5 (row.map eTm), .vals 5 (by'.map eTm)] [] (.vals 5 ((walksAt (putT by') 0 row).map eTm)) := hPu
    obtain ⟨v1, v2, v3⟩ := put_bounds by' 600 600 (by omega) (by omega) hby (by omega) (aboveT 4 t row) 0
    have hPa := put_tells (aboveT 4 t row) by' (by omega) hafit (by omega) hby2
    have hO4 := open_tells ((aboveT 4 t row).walk (putT by') 0) (row.length : Int) (by omega) (by omega) (v3 hafit)
    rw [if_neg (by omega), show ((row.length : Int)).toNat = row.length from rfl, puts_open by' t row] at hO4
    have hR4 := rows_tells (walksAt (putT by') 0 row) (walksAt (putT by') 0 row) (fun x hx => by
      obtain ⟨u, hu, j, rfl⟩ := walksAt_mem hx
      have h1 := (put_bounds by' 600 600 (by omega) (by omega) hby (by omega) u j).2.1
      have h2 := Tm.countL_mem row u hu
      omega) (by rw [walksAt_length]; unfold small; omega)
    rw [rows_refl] at hR4
    have hLi := lifts_tells 3 0 row (by omega) (fun u hu => by have h1 := Tm.countL_mem row u hu; have h2 := size_count u; omega) ((Tm.fitL_iff row).1 hl)
    have hLa := lift_tells (aboveT 4 t row) 3 0 (by omega) hafit
    obtain ⟨u1, u2, u3⟩ := lift_bounds 3 0 (aboveT 4 t row) 0
    have hO5 := open_tells ((aboveT 4 t row).walk (liftT 3 0) 0) (row.length : Int) (by omega) (by omega) (u3 hafit)
    rw [if_neg (by omega), show ((row.length : Int)).toNat = row.length from rfl, lifts_open 3 t row (by omega)] at hO5
    have hR5 := rows_tells (liftsT 3 0 row) (liftsT 3 0 row) (fun x hx => by
      unfold liftsT at hx
      obtain ⟨i, hi, rfl⟩ := List.mem_mapIdx.1 hx
      have h1 := (lift_bounds 3 (IntKind.i64.wrap (0 + (i : Int))) row[i] 0).2.1
      have h2 := Tm.countL_mem row row[i] (List.getElem_mem hi)
      omega) (by unfold liftsT; unfold small; simp; omega)
    rw [rows_refl] at hR5
    have hlen : (row.map eTm).length = row.length := by simp
    have hO4' : Tells Tryd.prog (.func 8) [eTm ((aboveT 4 t row).walk (putT by') 0), eInt ((row.map eTm).length : Int)] [] (.tup [.vals 5 ((walksAt (putT by') 0 row).map eTm), eTm (t.walk (putT by') row.length), eBool true]) := by rw [hlen]; exact hO4
    have hO5' : Tells Tryd.prog (.func 8) [eTm ((aboveT 4 t row).walk (liftT 3 0) 0), eInt ((row.map eTm).length : Int)] [] (.tup [.vals 5 ((liftsT 3 0 row).map eTm), eTm (t.walk (liftT 3 0) row.length), eBool true]) := by rw [hlen]; exact hO5
    clear hO2 hO3 hO4 hO5 hPu w1 w2 w3 v1 v2 v3 u1 u2 u3 htft
    generalize (row.take few).map eTm = K2 at hO2' hR3 htk
    generalize (row.drop few).map eTm = K3 at hPis2 hdk
    generalize aboveT 4 t (row.drop few) = lf at hO2' hPis2 hE4
    generalize (walksAt (putT by') 0 row).map eTm = PP at hPu' hO4' hR4
    generalize (liftsT 3 0 row).map eTm = QQ at hLi hO5' hR5
    generalize t.walk (putT by') row.length = x1 at hO4'
    generalize t.walk (liftT 3 0) row.length = x2 at hO5'
    generalize (aboveT 4 t row).walk (putT by') 0 = pa at hPa hO4'
    generalize (aboveT 4 t row).walk (liftT 3 0) 0 = la at hLa hO5'
    obtain ⟨sp1, sp2, sp3⟩ := spine_parts t
    have hSp1 := spine_tells t (by omega) hf
    have hAp := apps_tells t row (by omega) hf hl
    have hSp2 := spine_tells (appsT t row) (by rw [apps_size]; omega) (apps_fit row t hf hl)
    rw [(spine_apps row t).1, (spine_apps row t).2, List.map_append] at hSp2
    have hE2 := same_tells (headT t) (headT t) (by omega)
    rw [same_refl] at hE2
    have hR2 := rows_tells (argsT t) (argsT t) (fun x hx => by have := Tm.countL_mem (argsT t) x hx; omega) (by have := Tm.sizeL_len (argsT t); unfold small; omega)
    rw [rows_refl] at hR2
    have hAp2 := apps_tells (headT t) (argsT t) (by omega) (sp3 hf).1 (sp3 hf).2
    have hE3 := same_tells (appsT (headT t) (argsT t)) t (by have := Tm.countL_len (argsT t); rw [apps_count]; omega)
    have hCl := clean_tells t (by omega) hf
    have hcb : (appsT (headT t) (argsT t)).same t = false → cleanB t = false := fun h => by
      cases e : cleanB t with
      | false => rfl
      | true =>
        rw [clean_back t e, same_refl] at h
        exact h
    generalize (appsT (headT t) (argsT t)).same t = b1 at hE3 hcb
    generalize cleanB t = b2 at hCl hcb
    have hpL := pure_tms 5 (argsT t)
    have hLl : ((argsT t).map eTm).length ≤ 600 := by
      have := Tm.sizeL_len (argsT t)
      simp
      omega
    generalize appsT (headT t) (argsT t) = ah at hAp2 hE3
    generalize (argsT t).map eTm = L at hSp1 hSp2 hR2 hAp2 hpL hLl
    generalize headT t = hd at hSp1 hSp2 hE2 hAp2
    generalize appsT t row = ap at hAp hSp2
    generalize hall : aboveT 4 t row = all at hPis hO1' hC1 hZ1 hO2' hO3' hPa hLa hasz hafit
    rw [eTm_agg t] at hgr1 hgr2 hsz hPis hO1' hE1 hC2 hSp1 hAp hE3 hCl hPis2 ⊢
    rw [eTm_agg all] at hPis hO1' hC1 hZ1 hO2' hO3' hPa hLa
    rw [eTm_agg lf] at hO2' hPis2 hE4
    rw [eTm_agg x1] at hO4'
    rw [eTm_agg x2] at hO5'
    rw [eTm_agg pa] at hPa hO4'
    rw [eTm_agg la] at hLa hO5'
    rw [eTm_agg hd] at hSp1 hSp2 hE2 hAp2
    rw [eTm_agg ap] at hAp hSp2
    rw [eTm_agg ah] at hAp2 hE3
    generalize hK : row.map eTm = K at hgr1 hPis hO1' hR1 hlen hZ3 hAp hSp2 htk hdk hPu' hLi hO4' hO5' ⊢
    generalize cntT t = c2 at hC1 hC2 hcl hO3'
    generalize hts : t.size = s2 at hsz hZ1 hs hs2 hcl hS1 sp1
    generalize Tm.sizeL row = s3 at hZ1 hZ3 hs hS2 hll
    generalize hB : by'.map eTm = B at hgr2 hPu' hPa ⊢
    have hpt := pure_tmC t
    have hpall := pure_tmC all
    have hKp : Pure (.vals 5 K) := hK ▸ pure_tms 5 row
    have hBp : Pure (.vals 5 B) := hB ▸ pure_tms 5 by'
    obtain ⟨k, m, a, lv, kids⟩ := t
    obtain ⟨k1, m1, a1, lv1, kids1⟩ := all
    obtain ⟨k2, m2, a2, lv2, kids2⟩ := hd
    obtain ⟨k3, m3, a3, lv3, kids3⟩ := ap
    obtain ⟨k4, m4, a4, lv4, kids4⟩ := ah
    obtain ⟨k5, m5, a5, lv5, kids5⟩ := lf
    obtain ⟨k6, m6, a6, lv6, kids6⟩ := x1
    obtain ⟨k7, m7, a7, lv7, kids7⟩ := x2
    obtain ⟨k8, m8, a8, lv8, kids8⟩ := pa
    obtain ⟨k9, m9, a9, lv9, kids9⟩ := la
    have hcnt : IntKind.i64.wrap ((K.length : Int) + (c2 : Int)) = ((row.length + c2 : Nat) : Int) := by
      rw [← Int.natCast_add, hlen, wrap_nat (by omega)]
    have hsum : IntKind.i64.wrap (IntKind.i64.wrap (IntKind.i64.wrap ((s2 : Int) + ((1 + s3 : Nat) : Int)) - 1) + (K.length : Int)) = ((s2 + s3 + row.length : Nat) : Int) := by
      rw [← Int.natCast_add, wrap_nat (by omega), show (((s2 + (1 + s3) : Nat) : Int) - 1) = ((s2 + s3 : Nat) : Int) by omega, wrap_nat (by omega), ← Int.natCast_add, hlen, wrap_nat (by omega)]
    have hargs : IntKind.i64.wrap ((L.length : Int) + (K.length : Int)) = (((L ++ K).length : Nat) : Int) := by
      rw [← Int.natCast_add, List.length_append, wrap_nat (by omega)]
    have hLK : (L ++ K).length = L.length + K.length := List.length_append
    have htake : (L ++ K).take L.length = L := by simp
    have hdrop : (L ++ K).drop L.length = K := by simp
    generalize L ++ K = M at hSp2 hargs hLK htake hdrop
    have hsm : IntKind.i64.wrap (IntKind.i64.wrap ((K.length : Int) + (c2 : Int)) + 1) = ((row.length + c2 + 1 : Nat) : Int) := by
      rw [hcnt, show (((row.length + c2 : Nat) : Int) + 1) = ((row.length + c2 + 1 : Nat) : Int) from rfl, wrap_nat (by omega)]
    rw [← hsm] at hO3'
    have hmn' : min (N : Int) (K.length : Int) = (few : Int) := by rw [hlen]; exact hmn
    have hfK : few ≤ K.length := by omega
    refine gives_enter Tryd.func3 rfl rfl ?_
    repeat' first
      | (refine goesL_q (y := .raw (.bool true)) (by rfl) (by rfl) ?_; refine sm ?_)
      | (refine goesL_q (y := .raw (.bool false)) (by rfl) (by rfl) ?_; refine sm ?_)
      | (refine goesL_b (by rfl) (by rfl) fun b hb => ?_; cases b <;> refine sm ?_)
      | (refine goesL_q (by rfl) (by rfl) ?_; refine sm ?_)
      | (refine goesL_n (by rfl) (by rfl) ?_; refine sm ?_)
      | (refine goesL_m (by rfl) (by rfl) ?_; refine sm ?_)
      | (refine goesL_s (by rfl) (qok_rop (by rfl)) ?_; refine sm ?_)
      | (refine goesL_off (by rfl) ?_; refine sm ?_)
      | (refine goesL_nil ?_; try refine sm ?_)
      | (refine goes_seq ?_)
      | (refine goes_region ?_)
      | (refine goes_cond (b := true) (by rfl) (fun _ => ?_) fun h => (by cases h))
      | (refine goes_cond (b := false) (by rfl) (fun h => (by cases h)) fun _ => ?_)
      | (refine goes_block ?_)
      | (refine goes_skip ?_; try refine sm ?_)
      | (refine goes_exit ?_; try refine sm ?_)
      | (refine goes_ret ?_; try refine sm ?_)
    refine goesL_tells awake_tells (by rfl) (by rfl) (by rfl) (by rfl) (by rfl) (by rfl) ?_
    refine sm ?_
    repeat' first
      | (refine goesL_q (y := .raw (.bool true)) (by rfl) (by rfl) ?_; refine sm ?_)
      | (refine goesL_q (y := .raw (.bool false)) (by rfl) (by rfl) ?_; refine sm ?_)
      | (refine goesL_b (by rfl) (by rfl) fun b hb => ?_; cases b <;> refine sm ?_)
      | (refine goesL_q (by rfl) (by rfl) ?_; refine sm ?_)
      | (refine goesL_n (by rfl) (by rfl) ?_; refine sm ?_)
      | (refine goesL_m (by rfl) (by rfl) ?_; refine sm ?_)
      | (refine goesL_s (by rfl) (qok_rop (by rfl)) ?_; refine sm ?_)
      | (refine goesL_off (by rfl) ?_; refine sm ?_)
      | (refine goesL_nil ?_; try refine sm ?_)
      | (refine goes_seq ?_)
      | (refine goes_region ?_)
      | (refine goes_cond (b := true) (by rfl) (fun _ => ?_) fun h => (by cases h))
      | (refine goes_cond (b := false) (by rfl) (fun h => (by cases h)) fun _ => ?_)
      | (refine goes_block ?_)
      | (refine goes_skip ?_; try refine sm ?_)
      | (refine goes_exit ?_; try refine sm ?_)
      | (refine goes_ret ?_; try refine sm ?_)
    refine goesL_tells hgr1 (by rfl) (by rfl) (by rfl) (by rfl) (by rfl) (by rfl) ?_
    refine sm ?_
    repeat' first
      | (refine goesL_q (y := .raw (.bool true)) (by rfl) (by rfl) ?_; refine sm ?_)
      | (refine goesL_q (y := .raw (.bool false)) (by rfl) (by rfl) ?_; refine sm ?_)
      | (refine goesL_b (by rfl) (by rfl) fun b hb => ?_; cases b <;> refine sm ?_)
      | (refine goesL_q (by rfl) (by rfl) ?_; refine sm ?_)
      | (refine goesL_n (by rfl) (by rfl) ?_; refine sm ?_)
      | (refine goesL_m (by rfl) (by rfl) ?_; refine sm ?_)
      | (refine goesL_s (by rfl) (qok_rop (by rfl)) ?_; refine sm ?_)
      | (refine goesL_off (by rfl) ?_; refine sm ?_)
      | (refine goesL_nil ?_; try refine sm ?_)
      | (refine goes_seq ?_)
      | (refine goes_region ?_)
      | (refine goes_cond (b := true) (by rfl) (fun _ => ?_) fun h => (by cases h))
      | (refine goes_cond (b := false) (by rfl) (fun h => (by cases h)) fun _ => ?_)
      | (refine goes_block ?_)
      | (refine goes_skip ?_; try refine sm ?_)
      | (refine goes_exit ?_; try refine sm ?_)
      | (refine goes_ret ?_; try refine sm ?_)
    refine goesL_tells hgr2 (by rfl) (by rfl) (by rfl) (by rfl) (by rfl) (by rfl) ?_
    refine sm ?_
    repeat' first
      | (refine goesL_q (y := .raw (.bool true)) (by rfl) (by rfl) ?_; refine sm ?_)
      | (refine goesL_q (y := .raw (.bool false)) (by rfl) (by rfl) ?_; refine sm ?_)
      | (refine goesL_b (by rfl) (by rfl) fun b hb => ?_; cases b <;> refine sm ?_)
      | (refine goesL_q (by rfl) (by rfl) ?_; refine sm ?_)
      | (refine goesL_n (by rfl) (by rfl) ?_; refine sm ?_)
      | (refine goesL_m (by rfl) (by rfl) ?_; refine sm ?_)
      | (refine goesL_s (by rfl) (qok_rop (by rfl)) ?_; refine sm ?_)
      | (refine goesL_off (by rfl) ?_; refine sm ?_)
      | (refine goesL_nil ?_; try refine sm ?_)
      | (refine goes_seq ?_)
      | (refine goes_region ?_)
      | (refine goes_cond (b := true) (by rfl) (fun _ => ?_) fun h => (by cases h))
      | (refine goes_cond (b := false) (by rfl) (fun h => (by cases h)) fun _ => ?_)
      | (refine goes_block ?_)
      | (refine goes_skip ?_; try refine sm ?_)
      | (refine goes_exit ?_; try refine sm ?_)
      | (refine goes_ret ?_; try refine sm ?_)
    refine goesL_tells hsz (by rfl) (by rfl) (by rfl) (by rfl) (by rfl) (by rfl) ?_
    refine sm ?_
    repeat' first
      | (refine goesL_q (y := .raw (.bool true)) (by rfl) (by rfl) ?_; refine sm ?_)
      | (refine goesL_q (y := .raw (.bool false)) (by rfl) (by rfl) ?_; refine sm ?_)
      | (refine goesL_b (by rfl) (by rfl) fun b hb => ?_; cases b <;> refine sm ?_)
      | (refine goesL_q (by rfl) (by rfl) ?_; refine sm ?_)
      | (refine goesL_n (by rfl) (by rfl) ?_; refine sm ?_)
      | (refine goesL_m (by rfl) (by rfl) ?_; refine sm ?_)
      | (refine goesL_s (by rfl) (qok_rop (by rfl)) ?_; refine sm ?_)
      | (refine goesL_off (by rfl) ?_; refine sm ?_)
      | (refine goesL_nil ?_; try refine sm ?_)
      | (refine goes_seq ?_)
      | (refine goes_region ?_)
      | (refine goes_cond (b := true) (by rfl) (fun _ => ?_) fun h => (by cases h))
      | (refine goes_cond (b := false) (by rfl) (fun h => (by cases h)) fun _ => ?_)
      | (refine goes_block ?_)
      | (refine goes_skip ?_; try refine sm ?_)
      | (refine goes_exit ?_; try refine sm ?_)
      | (refine goes_ret ?_; try refine sm ?_)
    · refine goesL_tells hPis (by rfl) (by rfl) (by rfl) (by rfl) (by rfl) (by rfl) ?_
      refine sm ?_
      repeat' first
        | (refine goesL_q (y := .raw (.bool true)) (by rfl) (by rfl) ?_; refine sm ?_)
        | (refine goesL_q (y := .raw (.bool false)) (by rfl) (by rfl) ?_; refine sm ?_)
        | (refine goesL_b (by rfl) (by rfl) fun b hb => ?_; cases b <;> refine sm ?_)
        | (refine goesL_q (by rfl) (by rfl) ?_; refine sm ?_)
        | (refine goesL_n (by rfl) (by rfl) ?_; refine sm ?_)
        | (refine goesL_m (by rfl) (by rfl) ?_; refine sm ?_)
        | (refine goesL_s (by rfl) (qok_rop (by rfl)) ?_; refine sm ?_)
        | (refine goesL_off (by rfl) ?_; refine sm ?_)
        | (refine goesL_nil ?_; try refine sm ?_)
        | (refine goes_seq ?_)
        | (refine goes_region ?_)
        | (refine goes_cond (b := true) (by rfl) (fun _ => ?_) fun h => (by cases h))
        | (refine goes_cond (b := false) (by rfl) (fun h => (by cases h)) fun _ => ?_)
        | (refine goes_block ?_)
        | (refine goes_skip ?_; try refine sm ?_)
        | (refine goes_exit ?_; try refine sm ?_)
        | (refine goes_ret ?_; try refine sm ?_)
      refine goesL_tells hO1' (by rfl) (by rfl) (by rfl) (by rfl) (by rfl) (by rfl) ?_
      refine sm ?_
      repeat' first
        | (refine goesL_q (y := .raw (.bool true)) (by rfl) (by rfl) ?_; refine sm ?_)
        | (refine goesL_q (y := .raw (.bool false)) (by rfl) (by rfl) ?_; refine sm ?_)
        | (refine goesL_b (by rfl) (by rfl) fun b hb => ?_; cases b <;> refine sm ?_)
        | (refine goesL_q (by rfl) (by rfl) ?_; refine sm ?_)
        | (refine goesL_n (by rfl) (by rfl) ?_; refine sm ?_)
        | (refine goesL_m (by rfl) (by rfl) ?_; refine sm ?_)
        | (refine goesL_s (by rfl) (qok_rop (by rfl)) ?_; refine sm ?_)
        | (refine goesL_off (by rfl) ?_; refine sm ?_)
        | (refine goesL_nil ?_; try refine sm ?_)
        | (refine goes_seq ?_)
        | (refine goes_region ?_)
        | (refine goes_cond (b := true) (by rfl) (fun _ => ?_) fun h => (by cases h))
        | (refine goes_cond (b := false) (by rfl) (fun h => (by cases h)) fun _ => ?_)
        | (refine goes_block ?_)
        | (refine goes_skip ?_; try refine sm ?_)
        | (refine goes_exit ?_; try refine sm ?_)
        | (refine goes_ret ?_; try refine sm ?_)
      refine goes_draw 38 [] (by rfl) (by kernel_rfl) ?_
      refine sm ?_
      repeat' first
        | (refine goesD_q (y := .raw (.bool true)) (by first | decide | exact Nat.le_of_ble_eq_true rfl) (by rfl) (by rfl) ?_; refine sm ?_)
        | (refine goesD_q (y := .raw (.bool false)) (by first | decide | exact Nat.le_of_ble_eq_true rfl) (by rfl) (by rfl) ?_; refine sm ?_)
        | (refine goesD_b (by first | decide | exact Nat.le_of_ble_eq_true rfl) (by rfl) (by rfl) fun b hb => ?_; cases b <;> refine sm ?_)
        | (refine goesD_q (by first | decide | exact Nat.le_of_ble_eq_true rfl) (by rfl) (by rfl) ?_; refine sm ?_)
        | (refine goesD_s (by first | decide | exact Nat.le_of_ble_eq_true rfl) (by rfl) (qok_rop (by rfl)) ?_; refine sm ?_)
        | (refine goesD_off (by first | decide | exact Nat.le_of_ble_eq_true rfl) (by rfl) ?_; refine sm ?_)
        | (refine goesD_end (by rfl) ?_; refine sm ?_)
        | (refine goes_seq ?_)
      refine goesD_tells hR1 (by decide) (by rfl) (by rfl) (by rfl) (by rfl) (by rfl) (by rfl) (by rfl) ?_
      refine sm ?_
      repeat' first
        | (refine goesD_q (y := .raw (.bool true)) (by first | decide | exact Nat.le_of_ble_eq_true rfl) (by rfl) (by rfl) ?_; refine sm ?_)
        | (refine goesD_q (y := .raw (.bool false)) (by first | decide | exact Nat.le_of_ble_eq_true rfl) (by rfl) (by rfl) ?_; refine sm ?_)
        | (refine goesD_b (by first | decide | exact Nat.le_of_ble_eq_true rfl) (by rfl) (by rfl) fun b hb => ?_; cases b <;> refine sm ?_)
        | (refine goesD_q (by first | decide | exact Nat.le_of_ble_eq_true rfl) (by rfl) (by rfl) ?_; refine sm ?_)
        | (refine goesD_s (by first | decide | exact Nat.le_of_ble_eq_true rfl) (by rfl) (qok_rop (by rfl)) ?_; refine sm ?_)
        | (refine goesD_off (by first | decide | exact Nat.le_of_ble_eq_true rfl) (by rfl) ?_; refine sm ?_)
        | (refine goesD_end (by rfl) ?_; refine sm ?_)
        | (refine goes_seq ?_)
      refine goesD_tells hE1 (by decide) (by rfl) (by rfl) (by rfl) (by rfl) (by rfl) (by rfl) (by rfl) ?_
      refine sm ?_
      repeat' first
        | (refine goesD_q (y := .raw (.bool true)) (by first | decide | exact Nat.le_of_ble_eq_true rfl) (by rfl) (by rfl) ?_; refine sm ?_)
        | (refine goesD_q (y := .raw (.bool false)) (by first | decide | exact Nat.le_of_ble_eq_true rfl) (by rfl) (by rfl) ?_; refine sm ?_)
        | (refine goesD_b (by first | decide | exact Nat.le_of_ble_eq_true rfl) (by rfl) (by rfl) fun b hb => ?_; cases b <;> refine sm ?_)
        | (refine goesD_q (by first | decide | exact Nat.le_of_ble_eq_true rfl) (by rfl) (by rfl) ?_; refine sm ?_)
        | (refine goesD_s (by first | decide | exact Nat.le_of_ble_eq_true rfl) (by rfl) (qok_rop (by rfl)) ?_; refine sm ?_)
        | (refine goesD_off (by first | decide | exact Nat.le_of_ble_eq_true rfl) (by rfl) ?_; refine sm ?_)
        | (refine goesD_end (by rfl) ?_; refine sm ?_)
        | (refine goes_seq ?_)
      refine goesD_tells hC1 (by decide) (by rfl) (by rfl) (by rfl) (by rfl) (by rfl) (by rfl) (by rfl) ?_
      refine sm ?_
      repeat' first
        | (refine goesD_q (y := .raw (.bool true)) (by first | decide | exact Nat.le_of_ble_eq_true rfl) (by rfl) (by rfl) ?_; refine sm ?_)
        | (refine goesD_q (y := .raw (.bool false)) (by first | decide | exact Nat.le_of_ble_eq_true rfl) (by rfl) (by rfl) ?_; refine sm ?_)
        | (refine goesD_b (by first | decide | exact Nat.le_of_ble_eq_true rfl) (by rfl) (by rfl) fun b hb => ?_; cases b <;> refine sm ?_)
        | (refine goesD_q (by first | decide | exact Nat.le_of_ble_eq_true rfl) (by rfl) (by rfl) ?_; refine sm ?_)
        | (refine goesD_s (by first | decide | exact Nat.le_of_ble_eq_true rfl) (by rfl) (qok_rop (by rfl)) ?_; refine sm ?_)
        | (refine goesD_off (by first | decide | exact Nat.le_of_ble_eq_true rfl) (by rfl) ?_; refine sm ?_)
        | (refine goesD_end (by rfl) ?_; refine sm ?_)
        | (refine goes_seq ?_)
      refine goesD_tells hC2 (by decide) (by rfl) (by rfl) (by rfl) (by rfl) (by rfl) (by rfl) (by rfl) ?_
      refine sm ?_
      repeat' first
        | (refine goesD_q (y := .raw (.bool true)) (by first | decide | exact Nat.le_of_ble_eq_true rfl) (by rfl) (by rfl) ?_; refine sm ?_)
        | (refine goesD_q (y := .raw (.bool false)) (by first | decide | exact Nat.le_of_ble_eq_true rfl) (by rfl) (by rfl) ?_; refine sm ?_)
        | (refine goesD_b (by first | decide | exact Nat.le_of_ble_eq_true rfl) (by rfl) (by rfl) fun b hb => ?_; cases b <;> refine sm ?_)
        | (refine goesD_q (by first | decide | exact Nat.le_of_ble_eq_true rfl) (by rfl) (by rfl) ?_; refine sm ?_)
        | (refine goesD_s (by first | decide | exact Nat.le_of_ble_eq_true rfl) (by rfl) (qok_rop (by rfl)) ?_; refine sm ?_)
        | (refine goesD_off (by first | decide | exact Nat.le_of_ble_eq_true rfl) (by rfl) ?_; refine sm ?_)
        | (refine goesD_end (by rfl) ?_; refine sm ?_)
        | (refine goes_seq ?_)
      rotate_left
      · exact absurd ‹((((row.length + c2 : Nat)) : Int) != IntKind.i64.wrap ((K.length : Int) + (c2 : Int))) = true› (by rw [hcnt]; simp)
      refine goesD_tells hZ1 (by decide) (by rfl) (by rfl) (by rfl) (by rfl) (by rfl) (by rfl) (by rfl) ?_
      refine sm ?_
      repeat' first
        | (refine goesD_q (y := .raw (.bool true)) (by first | decide | exact Nat.le_of_ble_eq_true rfl) (by rfl) (by rfl) ?_; refine sm ?_)
        | (refine goesD_q (y := .raw (.bool false)) (by first | decide | exact Nat.le_of_ble_eq_true rfl) (by rfl) (by rfl) ?_; refine sm ?_)
        | (refine goesD_b (by first | decide | exact Nat.le_of_ble_eq_true rfl) (by rfl) (by rfl) fun b hb => ?_; cases b <;> refine sm ?_)
        | (refine goesD_q (by first | decide | exact Nat.le_of_ble_eq_true rfl) (by rfl) (by rfl) ?_; refine sm ?_)
        | (refine goesD_s (by first | decide | exact Nat.le_of_ble_eq_true rfl) (by rfl) (qok_rop (by rfl)) ?_; refine sm ?_)
        | (refine goesD_off (by first | decide | exact Nat.le_of_ble_eq_true rfl) (by rfl) ?_; refine sm ?_)
        | (refine goesD_end (by rfl) ?_; refine sm ?_)
        | (refine goes_seq ?_)
      refine goesD_tells hsz (by decide) (by rfl) (by rfl) (by rfl) (by rfl) (by rfl) (by rfl) (by rfl) ?_
      refine sm ?_
      repeat' first
        | (refine goesD_q (y := .raw (.bool true)) (by first | decide | exact Nat.le_of_ble_eq_true rfl) (by rfl) (by rfl) ?_; refine sm ?_)
        | (refine goesD_q (y := .raw (.bool false)) (by first | decide | exact Nat.le_of_ble_eq_true rfl) (by rfl) (by rfl) ?_; refine sm ?_)
        | (refine goesD_b (by first | decide | exact Nat.le_of_ble_eq_true rfl) (by rfl) (by rfl) fun b hb => ?_; cases b <;> refine sm ?_)
        | (refine goesD_q (by first | decide | exact Nat.le_of_ble_eq_true rfl) (by rfl) (by rfl) ?_; refine sm ?_)
        | (refine goesD_s (by first | decide | exact Nat.le_of_ble_eq_true rfl) (by rfl) (qok_rop (by rfl)) ?_; refine sm ?_)
        | (refine goesD_off (by first | decide | exact Nat.le_of_ble_eq_true rfl) (by rfl) ?_; refine sm ?_)
        | (refine goesD_end (by rfl) ?_; refine sm ?_)
        | (refine goes_seq ?_)
      refine goesD_call (first := []) (cap := []) (args := [.agg [eInt 0, eInt 0, eInt 0, .raw (.slice none 0 0), .vals 5 K]]) (args' := [.agg [eInt 0, eInt 0, eInt 0, .vals 1 [], .vals 5 K]]) (cap' := []) (l0 := []) (by decide) (by rfl) (by rfl) (by rfl) (by rfl) (by rfl) (.agg (j := []) (l := []) (.pure (.raw _) (.pure (.raw _) (.pure (.raw _) (.none (.pure hKp .nil))))) .nil) rfl (fun p hp => nomatch hp) hZ3 ?_
      refine sm ?_
      repeat' first
        | (refine goesD_q (y := .raw (.bool true)) (by first | decide | exact Nat.le_of_ble_eq_true rfl) (by rfl) (by rfl) ?_; refine sm ?_)
        | (refine goesD_q (y := .raw (.bool false)) (by first | decide | exact Nat.le_of_ble_eq_true rfl) (by rfl) (by rfl) ?_; refine sm ?_)
        | (refine goesD_b (by first | decide | exact Nat.le_of_ble_eq_true rfl) (by rfl) (by rfl) fun b hb => ?_; cases b <;> refine sm ?_)
        | (refine goesD_q (by first | decide | exact Nat.le_of_ble_eq_true rfl) (by rfl) (by rfl) ?_; refine sm ?_)
        | (refine goesD_s (by first | decide | exact Nat.le_of_ble_eq_true rfl) (by rfl) (qok_rop (by rfl)) ?_; refine sm ?_)
        | (refine goesD_off (by first | decide | exact Nat.le_of_ble_eq_true rfl) (by rfl) ?_; refine sm ?_)
        | (refine goesD_end (by rfl) ?_; refine sm ?_)
        | (refine goes_seq ?_)
      rotate_left
      · exact absurd ‹((((s2 + s3 + row.length : Nat)) : Int) != IntKind.i64.wrap (IntKind.i64.wrap (IntKind.i64.wrap ((s2 : Int) + ((1 + s3 : Nat) : Int)) - 1) + (K.length : Int))) = true› (by rw [hsum]; simp)
      repeat' first
        | (refine goesL_q (y := .raw (.bool true)) (by rfl) (by rfl) ?_; refine sm ?_)
        | (refine goesL_q (y := .raw (.bool false)) (by rfl) (by rfl) ?_; refine sm ?_)
        | (refine goesL_b (by rfl) (by rfl) fun b hb => ?_; cases b <;> refine sm ?_)
        | (refine goesL_q (by rfl) (by rfl) ?_; refine sm ?_)
        | (refine goesL_n (by rfl) (by rfl) ?_; refine sm ?_)
        | (refine goesL_m (by rfl) (by rfl) ?_; refine sm ?_)
        | (refine goesL_s (by rfl) (qok_rop (by rfl)) ?_; refine sm ?_)
        | (refine goesL_off (by rfl) ?_; refine sm ?_)
        | (refine goesL_nil ?_; try refine sm ?_)
        | (refine goes_seq ?_)
        | (refine goes_region ?_)
        | (refine goes_cond (b := true) (by rfl) (fun _ => ?_) fun h => (by cases h))
        | (refine goes_cond (b := false) (by rfl) (fun h => (by cases h)) fun _ => ?_)
        | (refine goes_block ?_)
        | (refine goes_skip ?_; try refine sm ?_)
        | (refine goes_exit ?_; try refine sm ?_)
        | (refine goes_ret ?_; try refine sm ?_)
      refine goesL_tells hSp1 (by rfl) (by rfl) (by rfl) (by rfl) (by rfl) (by rfl) ?_
      refine sm ?_
      repeat' first
        | (refine goesL_q (y := .raw (.bool true)) (by rfl) (by rfl) ?_; refine sm ?_)
        | (refine goesL_q (y := .raw (.bool false)) (by rfl) (by rfl) ?_; refine sm ?_)
        | (refine goesL_b (by rfl) (by rfl) fun b hb => ?_; cases b <;> refine sm ?_)
        | (refine goesL_q (by rfl) (by rfl) ?_; refine sm ?_)
        | (refine goesL_n (by rfl) (by rfl) ?_; refine sm ?_)
        | (refine goesL_m (by rfl) (by rfl) ?_; refine sm ?_)
        | (refine goesL_s (by rfl) (qok_rop (by rfl)) ?_; refine sm ?_)
        | (refine goesL_off (by rfl) ?_; refine sm ?_)
        | (refine goesL_nil ?_; try refine sm ?_)
        | (refine goes_seq ?_)
        | (refine goes_region ?_)
        | (refine goes_cond (b := true) (by rfl) (fun _ => ?_) fun h => (by cases h))
        | (refine goes_cond (b := false) (by rfl) (fun h => (by cases h)) fun _ => ?_)
        | (refine goes_block ?_)
        | (refine goes_skip ?_; try refine sm ?_)
        | (refine goes_exit ?_; try refine sm ?_)
        | (refine goes_ret ?_; try refine sm ?_)
      refine goesL_tells hAp (by rfl) (by rfl) (by rfl) (by rfl) (by rfl) (by rfl) ?_
      refine sm ?_
      repeat' first
        | (refine goesL_q (y := .raw (.bool true)) (by rfl) (by rfl) ?_; refine sm ?_)
        | (refine goesL_q (y := .raw (.bool false)) (by rfl) (by rfl) ?_; refine sm ?_)
        | (refine goesL_b (by rfl) (by rfl) fun b hb => ?_; cases b <;> refine sm ?_)
        | (refine goesL_q (by rfl) (by rfl) ?_; refine sm ?_)
        | (refine goesL_n (by rfl) (by rfl) ?_; refine sm ?_)
        | (refine goesL_m (by rfl) (by rfl) ?_; refine sm ?_)
        | (refine goesL_s (by rfl) (qok_rop (by rfl)) ?_; refine sm ?_)
        | (refine goesL_off (by rfl) ?_; refine sm ?_)
        | (refine goesL_nil ?_; try refine sm ?_)
        | (refine goes_seq ?_)
        | (refine goes_region ?_)
        | (refine goes_cond (b := true) (by rfl) (fun _ => ?_) fun h => (by cases h))
        | (refine goes_cond (b := false) (by rfl) (fun h => (by cases h)) fun _ => ?_)
        | (refine goes_block ?_)
        | (refine goes_skip ?_; try refine sm ?_)
        | (refine goes_exit ?_; try refine sm ?_)
        | (refine goes_ret ?_; try refine sm ?_)
      refine goesL_tells hSp2 (by rfl) (by rfl) (by rfl) (by rfl) (by rfl) (by rfl) ?_
      refine sm ?_
      repeat' first
        | (refine goesL_q (y := .raw (.bool true)) (by rfl) (by rfl) ?_; refine sm ?_)
        | (refine goesL_q (y := .raw (.bool false)) (by rfl) (by rfl) ?_; refine sm ?_)
        | (refine goesL_b (by rfl) (by rfl) fun b hb => ?_; cases b <;> refine sm ?_)
        | (refine goesL_q (by rfl) (by rfl) ?_; refine sm ?_)
        | (refine goesL_n (by rfl) (by rfl) ?_; refine sm ?_)
        | (refine goesL_m (by rfl) (by rfl) ?_; refine sm ?_)
        | (refine goesL_s (by rfl) (qok_rop (by rfl)) ?_; refine sm ?_)
        | (refine goesL_off (by rfl) ?_; refine sm ?_)
        | (refine goesL_nil ?_; try refine sm ?_)
        | (refine goes_seq ?_)
        | (refine goes_region ?_)
        | (refine goes_cond (b := true) (by rfl) (fun _ => ?_) fun h => (by cases h))
        | (refine goes_cond (b := false) (by rfl) (fun h => (by cases h)) fun _ => ?_)
        | (refine goes_block ?_)
        | (refine goes_skip ?_; try refine sm ?_)
        | (refine goes_exit ?_; try refine sm ?_)
        | (refine goes_ret ?_; try refine sm ?_)
      refine goes_draw 43 [] (by rfl) (by kernel_rfl) ?_
      refine sm ?_
      repeat' first
        | (refine goesD_q (y := .raw (.bool true)) (by first | decide | exact Nat.le_of_ble_eq_true rfl) (by rfl) (by rfl) ?_; refine sm ?_)
        | (refine goesD_q (y := .raw (.bool false)) (by first | decide | exact Nat.le_of_ble_eq_true rfl) (by rfl) (by rfl) ?_; refine sm ?_)
        | (refine goesD_b (by first | decide | exact Nat.le_of_ble_eq_true rfl) (by rfl) (by rfl) fun b hb => ?_; cases b <;> refine sm ?_)
        | (refine goesD_q (by first | decide | exact Nat.le_of_ble_eq_true rfl) (by rfl) (by rfl) ?_; refine sm ?_)
        | (refine goesD_s (by first | decide | exact Nat.le_of_ble_eq_true rfl) (by rfl) (qok_rop (by rfl)) ?_; refine sm ?_)
        | (refine goesD_off (by first | decide | exact Nat.le_of_ble_eq_true rfl) (by rfl) ?_; refine sm ?_)
        | (refine goesD_end (by rfl) ?_; refine sm ?_)
        | (refine goes_seq ?_)
      refine goesD_tells hE2 (by decide) (by rfl) (by rfl) (by rfl) (by rfl) (by rfl) (by rfl) (by rfl) ?_
      refine sm ?_
      repeat' first
        | (refine goesD_q (y := .raw (.bool true)) (by first | decide | exact Nat.le_of_ble_eq_true rfl) (by rfl) (by rfl) ?_; refine sm ?_)
        | (refine goesD_q (y := .raw (.bool false)) (by first | decide | exact Nat.le_of_ble_eq_true rfl) (by rfl) (by rfl) ?_; refine sm ?_)
        | (refine goesD_b (by first | decide | exact Nat.le_of_ble_eq_true rfl) (by rfl) (by rfl) fun b hb => ?_; cases b <;> refine sm ?_)
        | (refine goesD_q (by first | decide | exact Nat.le_of_ble_eq_true rfl) (by rfl) (by rfl) ?_; refine sm ?_)
        | (refine goesD_s (by first | decide | exact Nat.le_of_ble_eq_true rfl) (by rfl) (qok_rop (by rfl)) ?_; refine sm ?_)
        | (refine goesD_off (by first | decide | exact Nat.le_of_ble_eq_true rfl) (by rfl) ?_; refine sm ?_)
        | (refine goesD_end (by rfl) ?_; refine sm ?_)
        | (refine goes_seq ?_)
      rotate_left
      · exact absurd ‹((M.length : Int) != IntKind.i64.wrap ((L.length : Int) + (K.length : Int))) = true› (by rw [hargs]; simp)
      refine goesD_s (by decide) (by rfl) (qok_cutHi (m := L.length) (by rfl) (by rfl) (by rfl) (by rfl) (by rfl) (by omega) htake) ?_
      refine sm ?_
      repeat' first
        | (refine goesD_q (y := .raw (.bool true)) (by first | decide | exact Nat.le_of_ble_eq_true rfl) (by rfl) (by rfl) ?_; refine sm ?_)
        | (refine goesD_q (y := .raw (.bool false)) (by first | decide | exact Nat.le_of_ble_eq_true rfl) (by rfl) (by rfl) ?_; refine sm ?_)
        | (refine goesD_b (by first | decide | exact Nat.le_of_ble_eq_true rfl) (by rfl) (by rfl) fun b hb => ?_; cases b <;> refine sm ?_)
        | (refine goesD_q (by first | decide | exact Nat.le_of_ble_eq_true rfl) (by rfl) (by rfl) ?_; refine sm ?_)
        | (refine goesD_s (by first | decide | exact Nat.le_of_ble_eq_true rfl) (by rfl) (qok_rop (by rfl)) ?_; refine sm ?_)
        | (refine goesD_off (by first | decide | exact Nat.le_of_ble_eq_true rfl) (by rfl) ?_; refine sm ?_)
        | (refine goesD_end (by rfl) ?_; refine sm ?_)
        | (refine goes_seq ?_)
      refine goesD_tells hR2 (by decide) (by rfl) (by rfl) (by rfl) (by rfl) (by rfl) (by rfl) (by rfl) ?_
      refine sm ?_
      repeat' first
        | (refine goesD_q (y := .raw (.bool true)) (by first | decide | exact Nat.le_of_ble_eq_true rfl) (by rfl) (by rfl) ?_; refine sm ?_)
        | (refine goesD_q (y := .raw (.bool false)) (by first | decide | exact Nat.le_of_ble_eq_true rfl) (by rfl) (by rfl) ?_; refine sm ?_)
        | (refine goesD_b (by first | decide | exact Nat.le_of_ble_eq_true rfl) (by rfl) (by rfl) fun b hb => ?_; cases b <;> refine sm ?_)
        | (refine goesD_q (by first | decide | exact Nat.le_of_ble_eq_true rfl) (by rfl) (by rfl) ?_; refine sm ?_)
        | (refine goesD_s (by first | decide | exact Nat.le_of_ble_eq_true rfl) (by rfl) (qok_rop (by rfl)) ?_; refine sm ?_)
        | (refine goesD_off (by first | decide | exact Nat.le_of_ble_eq_true rfl) (by rfl) ?_; refine sm ?_)
        | (refine goesD_end (by rfl) ?_; refine sm ?_)
        | (refine goes_seq ?_)
      refine goesD_s (by decide) (by rfl) (qok_cutLo (m := L.length) (by rfl) (by rfl) (by rfl) (by rfl) (by rfl) (by omega) hdrop) ?_
      refine sm ?_
      repeat' first
        | (refine goesD_q (y := .raw (.bool true)) (by first | decide | exact Nat.le_of_ble_eq_true rfl) (by rfl) (by rfl) ?_; refine sm ?_)
        | (refine goesD_q (y := .raw (.bool false)) (by first | decide | exact Nat.le_of_ble_eq_true rfl) (by rfl) (by rfl) ?_; refine sm ?_)
        | (refine goesD_b (by first | decide | exact Nat.le_of_ble_eq_true rfl) (by rfl) (by rfl) fun b hb => ?_; cases b <;> refine sm ?_)
        | (refine goesD_q (by first | decide | exact Nat.le_of_ble_eq_true rfl) (by rfl) (by rfl) ?_; refine sm ?_)
        | (refine goesD_s (by first | decide | exact Nat.le_of_ble_eq_true rfl) (by rfl) (qok_rop (by rfl)) ?_; refine sm ?_)
        | (refine goesD_off (by first | decide | exact Nat.le_of_ble_eq_true rfl) (by rfl) ?_; refine sm ?_)
        | (refine goesD_end (by rfl) ?_; refine sm ?_)
        | (refine goes_seq ?_)
      refine goesD_tells hR1 (by decide) (by rfl) (by rfl) (by rfl) (by rfl) (by rfl) (by rfl) (by rfl) ?_
      refine sm ?_
      repeat' first
        | (refine goesD_q (y := .raw (.bool true)) (by first | decide | exact Nat.le_of_ble_eq_true rfl) (by rfl) (by rfl) ?_; refine sm ?_)
        | (refine goesD_q (y := .raw (.bool false)) (by first | decide | exact Nat.le_of_ble_eq_true rfl) (by rfl) (by rfl) ?_; refine sm ?_)
        | (refine goesD_b (by first | decide | exact Nat.le_of_ble_eq_true rfl) (by rfl) (by rfl) fun b hb => ?_; cases b <;> refine sm ?_)
        | (refine goesD_q (by first | decide | exact Nat.le_of_ble_eq_true rfl) (by rfl) (by rfl) ?_; refine sm ?_)
        | (refine goesD_s (by first | decide | exact Nat.le_of_ble_eq_true rfl) (by rfl) (qok_rop (by rfl)) ?_; refine sm ?_)
        | (refine goesD_off (by first | decide | exact Nat.le_of_ble_eq_true rfl) (by rfl) ?_; refine sm ?_)
        | (refine goesD_end (by rfl) ?_; refine sm ?_)
        | (refine goes_seq ?_)
      refine goesD_tells hAp2 (by decide) (by rfl) (by rfl) (by rfl) (by rfl) (by rfl) (by rfl) (by rfl) ?_
      refine sm ?_
      repeat' first
        | (refine goesD_q (y := .raw (.bool true)) (by first | decide | exact Nat.le_of_ble_eq_true rfl) (by rfl) (by rfl) ?_; refine sm ?_)
        | (refine goesD_q (y := .raw (.bool false)) (by first | decide | exact Nat.le_of_ble_eq_true rfl) (by rfl) (by rfl) ?_; refine sm ?_)
        | (refine goesD_b (by first | decide | exact Nat.le_of_ble_eq_true rfl) (by rfl) (by rfl) fun b hb => ?_; cases b <;> refine sm ?_)
        | (refine goesD_q (by first | decide | exact Nat.le_of_ble_eq_true rfl) (by rfl) (by rfl) ?_; refine sm ?_)
        | (refine goesD_s (by first | decide | exact Nat.le_of_ble_eq_true rfl) (by rfl) (qok_rop (by rfl)) ?_; refine sm ?_)
        | (refine goesD_off (by first | decide | exact Nat.le_of_ble_eq_true rfl) (by rfl) ?_; refine sm ?_)
        | (refine goesD_end (by rfl) ?_; refine sm ?_)
        | (refine goes_seq ?_)
      cases b1 with
      | true =>
        refine goesD_tells hE3 (by decide) (by rfl) (by rfl) (by rfl) (by rfl) (by rfl) (by rfl) (by rfl) ?_
        refine sm ?_
        repeat' first
          | (refine goesD_q (y := .raw (.bool true)) (by first | decide | exact Nat.le_of_ble_eq_true rfl) (by rfl) (by rfl) ?_; refine sm ?_)
          | (refine goesD_q (y := .raw (.bool false)) (by first | decide | exact Nat.le_of_ble_eq_true rfl) (by rfl) (by rfl) ?_; refine sm ?_)
          | (refine goesD_b (by first | decide | exact Nat.le_of_ble_eq_true rfl) (by rfl) (by rfl) fun b hb => ?_; cases b <;> refine sm ?_)
          | (refine goesD_q (by first | decide | exact Nat.le_of_ble_eq_true rfl) (by rfl) (by rfl) ?_; refine sm ?_)
          | (refine goesD_s (by first | decide | exact Nat.le_of_ble_eq_true rfl) (by rfl) (qok_rop (by rfl)) ?_; refine sm ?_)
          | (refine goesD_off (by first | decide | exact Nat.le_of_ble_eq_true rfl) (by rfl) ?_; refine sm ?_)
          | (refine goesD_end (by rfl) ?_; refine sm ?_)
          | (refine goes_seq ?_)
        repeat' first
          | (refine goesL_q (y := .raw (.bool true)) (by rfl) (by rfl) ?_; refine sm ?_)
          | (refine goesL_q (y := .raw (.bool false)) (by rfl) (by rfl) ?_; refine sm ?_)
          | (refine goesL_b (by rfl) (by rfl) fun b hb => ?_; cases b <;> refine sm ?_)
          | (refine goesL_q (by rfl) (by rfl) ?_; refine sm ?_)
          | (refine goesL_n (by rfl) (by rfl) ?_; refine sm ?_)
          | (refine goesL_m (by rfl) (by rfl) ?_; refine sm ?_)
          | (refine goesL_s (by rfl) (qok_rop (by rfl)) ?_; refine sm ?_)
          | (refine goesL_off (by rfl) ?_; refine sm ?_)
          | (refine goesL_nil ?_; try refine sm ?_)
          | (refine goes_seq ?_)
          | (refine goes_region ?_)
          | (refine goes_cond (b := true) (by rfl) (fun _ => ?_) fun h => (by cases h))
          | (refine goes_cond (b := false) (by rfl) (fun h => (by cases h)) fun _ => ?_)
          | (refine goes_block ?_)
          | (refine goes_skip ?_; try refine sm ?_)
          | (refine goes_exit ?_; try refine sm ?_)
          | (refine goes_ret ?_; try refine sm ?_)
        refine goesL_s (by rfl) (qok_max (a := n) (b := 0) (by rfl) (by rfl) hN) ?_
        refine sm ?_
        repeat' first
          | (refine goesL_q (y := .raw (.bool true)) (by rfl) (by rfl) ?_; refine sm ?_)
          | (refine goesL_q (y := .raw (.bool false)) (by rfl) (by rfl) ?_; refine sm ?_)
          | (refine goesL_b (by rfl) (by rfl) fun b hb => ?_; cases b <;> refine sm ?_)
          | (refine goesL_q (by rfl) (by rfl) ?_; refine sm ?_)
          | (refine goesL_n (by rfl) (by rfl) ?_; refine sm ?_)
          | (refine goesL_m (by rfl) (by rfl) ?_; refine sm ?_)
          | (refine goesL_s (by rfl) (qok_rop (by rfl)) ?_; refine sm ?_)
          | (refine goesL_off (by rfl) ?_; refine sm ?_)
          | (refine goesL_nil ?_; try refine sm ?_)
          | (refine goes_seq ?_)
          | (refine goes_region ?_)
          | (refine goes_cond (b := true) (by rfl) (fun _ => ?_) fun h => (by cases h))
          | (refine goes_cond (b := false) (by rfl) (fun h => (by cases h)) fun _ => ?_)
          | (refine goes_block ?_)
          | (refine goes_skip ?_; try refine sm ?_)
          | (refine goes_exit ?_; try refine sm ?_)
          | (refine goes_ret ?_; try refine sm ?_)
        refine goesL_s (by rfl) (qok_min (a := (N : Int)) (b := (K.length : Int)) (by rfl) (by rfl) hmn') ?_
        refine sm ?_
        repeat' first
          | (refine goesL_q (y := .raw (.bool true)) (by rfl) (by rfl) ?_; refine sm ?_)
          | (refine goesL_q (y := .raw (.bool false)) (by rfl) (by rfl) ?_; refine sm ?_)
          | (refine goesL_b (by rfl) (by rfl) fun b hb => ?_; cases b <;> refine sm ?_)
          | (refine goesL_q (by rfl) (by rfl) ?_; refine sm ?_)
          | (refine goesL_n (by rfl) (by rfl) ?_; refine sm ?_)
          | (refine goesL_m (by rfl) (by rfl) ?_; refine sm ?_)
          | (refine goesL_s (by rfl) (qok_rop (by rfl)) ?_; refine sm ?_)
          | (refine goesL_off (by rfl) ?_; refine sm ?_)
          | (refine goesL_nil ?_; try refine sm ?_)
          | (refine goes_seq ?_)
          | (refine goes_region ?_)
          | (refine goes_cond (b := true) (by rfl) (fun _ => ?_) fun h => (by cases h))
          | (refine goes_cond (b := false) (by rfl) (fun h => (by cases h)) fun _ => ?_)
          | (refine goes_block ?_)
          | (refine goes_skip ?_; try refine sm ?_)
          | (refine goes_exit ?_; try refine sm ?_)
          | (refine goes_ret ?_; try refine sm ?_)
        refine goesL_tells hO2' (by rfl) (by rfl) (by rfl) (by rfl) (by rfl) (by rfl) ?_
        refine sm ?_
        repeat' first
          | (refine goesL_q (y := .raw (.bool true)) (by rfl) (by rfl) ?_; refine sm ?_)
          | (refine goesL_q (y := .raw (.bool false)) (by rfl) (by rfl) ?_; refine sm ?_)
          | (refine goesL_b (by rfl) (by rfl) fun b hb => ?_; cases b <;> refine sm ?_)
          | (refine goesL_q (by rfl) (by rfl) ?_; refine sm ?_)
          | (refine goesL_n (by rfl) (by rfl) ?_; refine sm ?_)
          | (refine goesL_m (by rfl) (by rfl) ?_; refine sm ?_)
          | (refine goesL_s (by rfl) (qok_rop (by rfl)) ?_; refine sm ?_)
          | (refine goesL_off (by rfl) ?_; refine sm ?_)
          | (refine goesL_nil ?_; try refine sm ?_)
          | (refine goes_seq ?_)
          | (refine goes_region ?_)
          | (refine goes_cond (b := true) (by rfl) (fun _ => ?_) fun h => (by cases h))
          | (refine goes_cond (b := false) (by rfl) (fun h => (by cases h)) fun _ => ?_)
          | (refine goes_block ?_)
          | (refine goes_skip ?_; try refine sm ?_)
          | (refine goes_exit ?_; try refine sm ?_)
          | (refine goes_ret ?_; try refine sm ?_)
        refine goes_any (by rfl) ?_
        refine sm ?_
        repeat' first
          | (refine goesA_q [] (y := .raw (.bool true)) (by rfl) (by rfl) ?_; refine sm ?_)
          | (refine goesA_q [] (y := .raw (.bool false)) (by rfl) (by rfl) ?_; refine sm ?_)
          | (refine goesA_b (by rfl) (by rfl) fun b hb => ?_; cases b <;> refine sm ?_)
          | (refine goesA_q [] (by rfl) (by rfl) ?_; refine sm ?_)
          | (refine goesA_t (by rfl) (by rfl) (by rfl) ?_; refine sm ?_)
          | (refine goesA_n [] (by rfl) (by rfl) ?_; refine sm ?_)
          | (refine goesA_m (by rfl) (by rfl) (by rfl) ?_; refine sm ?_)
          | (refine goesA_off (by rfl) ?_; refine sm ?_)
          | (refine goesA_end (by kernel_rfl) ?_; refine sm ?_)
        refine goesA_tells hC2 (by rfl) (by rfl) (by rfl) (by rfl) (by rfl) (by rfl) (by rfl) ?_
        refine sm ?_
        repeat' first
          | (refine goesA_q [] (y := .raw (.bool true)) (by rfl) (by rfl) ?_; refine sm ?_)
          | (refine goesA_q [] (y := .raw (.bool false)) (by rfl) (by rfl) ?_; refine sm ?_)
          | (refine goesA_b (by rfl) (by rfl) fun b hb => ?_; cases b <;> refine sm ?_)
          | (refine goesA_q [] (by rfl) (by rfl) ?_; refine sm ?_)
          | (refine goesA_t (by rfl) (by rfl) (by rfl) ?_; refine sm ?_)
          | (refine goesA_n [] (by rfl) (by rfl) ?_; refine sm ?_)
          | (refine goesA_m (by rfl) (by rfl) (by rfl) ?_; refine sm ?_)
          | (refine goesA_off (by rfl) ?_; refine sm ?_)
          | (refine goesA_end (by kernel_rfl) ?_; refine sm ?_)
        refine goesA_tells hO3' (by rfl) (by rfl) (by rfl) (by rfl) (by rfl) (by rfl) (by rfl) ?_
        refine sm ?_
        repeat' first
          | (refine goesA_q [] (y := .raw (.bool true)) (by rfl) (by rfl) ?_; refine sm ?_)
          | (refine goesA_q [] (y := .raw (.bool false)) (by rfl) (by rfl) ?_; refine sm ?_)
          | (refine goesA_b (by rfl) (by rfl) fun b hb => ?_; cases b <;> refine sm ?_)
          | (refine goesA_q [] (by rfl) (by rfl) ?_; refine sm ?_)
          | (refine goesA_t (by rfl) (by rfl) (by rfl) ?_; refine sm ?_)
          | (refine goesA_n [] (by rfl) (by rfl) ?_; refine sm ?_)
          | (refine goesA_m (by rfl) (by rfl) (by rfl) ?_; refine sm ?_)
          | (refine goesA_off (by rfl) ?_; refine sm ?_)
          | (refine goesA_end (by kernel_rfl) ?_; refine sm ?_)
        repeat' first
          | (refine goesL_q (y := .raw (.bool true)) (by rfl) (by rfl) ?_; refine sm ?_)
          | (refine goesL_q (y := .raw (.bool false)) (by rfl) (by rfl) ?_; refine sm ?_)
          | (refine goesL_b (by rfl) (by rfl) fun b hb => ?_; cases b <;> refine sm ?_)
          | (refine goesL_q (by rfl) (by rfl) ?_; refine sm ?_)
          | (refine goesL_n (by rfl) (by rfl) ?_; refine sm ?_)
          | (refine goesL_m (by rfl) (by rfl) ?_; refine sm ?_)
          | (refine goesL_s (by rfl) (qok_rop (by rfl)) ?_; refine sm ?_)
          | (refine goesL_off (by rfl) ?_; refine sm ?_)
          | (refine goesL_nil ?_; try refine sm ?_)
          | (refine goes_seq ?_)
          | (refine goes_region ?_)
          | (refine goes_cond (b := true) (by rfl) (fun _ => ?_) fun h => (by cases h))
          | (refine goes_cond (b := false) (by rfl) (fun h => (by cases h)) fun _ => ?_)
          | (refine goes_block ?_)
          | (refine goes_skip ?_; try refine sm ?_)
          | (refine goes_exit ?_; try refine sm ?_)
          | (refine goes_ret ?_; try refine sm ?_)
        refine goes_draw 22 [] (by rfl) (by kernel_rfl) ?_
        refine sm ?_
        repeat' first
          | (refine goesD_q (y := .raw (.bool true)) (by first | decide | exact Nat.le_of_ble_eq_true rfl) (by rfl) (by rfl) ?_; refine sm ?_)
          | (refine goesD_q (y := .raw (.bool false)) (by first | decide | exact Nat.le_of_ble_eq_true rfl) (by rfl) (by rfl) ?_; refine sm ?_)
          | (refine goesD_b (by first | decide | exact Nat.le_of_ble_eq_true rfl) (by rfl) (by rfl) fun b hb => ?_; cases b <;> refine sm ?_)
          | (refine goesD_q (by first | decide | exact Nat.le_of_ble_eq_true rfl) (by rfl) (by rfl) ?_; refine sm ?_)
          | (refine goesD_s (by first | decide | exact Nat.le_of_ble_eq_true rfl) (by rfl) (qok_rop (by rfl)) ?_; refine sm ?_)
          | (refine goesD_off (by first | decide | exact Nat.le_of_ble_eq_true rfl) (by rfl) ?_; refine sm ?_)
          | (refine goesD_end (by rfl) ?_; refine sm ?_)
          | (refine goes_seq ?_)
        refine goesD_s (by decide) (by rfl) (qok_cutHi (m := few) (by rfl) (by rfl) (by rfl) (by rfl) (by rfl) hfK htk) ?_
        refine sm ?_
        repeat' first
          | (refine goesD_q (y := .raw (.bool true)) (by first | decide | exact Nat.le_of_ble_eq_true rfl) (by rfl) (by rfl) ?_; refine sm ?_)
          | (refine goesD_q (y := .raw (.bool false)) (by first | decide | exact Nat.le_of_ble_eq_true rfl) (by rfl) (by rfl) ?_; refine sm ?_)
          | (refine goesD_b (by first | decide | exact Nat.le_of_ble_eq_true rfl) (by rfl) (by rfl) fun b hb => ?_; cases b <;> refine sm ?_)
          | (refine goesD_q (by first | decide | exact Nat.le_of_ble_eq_true rfl) (by rfl) (by rfl) ?_; refine sm ?_)
          | (refine goesD_s (by first | decide | exact Nat.le_of_ble_eq_true rfl) (by rfl) (qok_rop (by rfl)) ?_; refine sm ?_)
          | (refine goesD_off (by first | decide | exact Nat.le_of_ble_eq_true rfl) (by rfl) ?_; refine sm ?_)
          | (refine goesD_end (by rfl) ?_; refine sm ?_)
          | (refine goes_seq ?_)
        refine goesD_tells hR3 (by decide) (by rfl) (by rfl) (by rfl) (by rfl) (by rfl) (by rfl) (by rfl) ?_
        refine sm ?_
        repeat' first
          | (refine goesD_q (y := .raw (.bool true)) (by first | decide | exact Nat.le_of_ble_eq_true rfl) (by rfl) (by rfl) ?_; refine sm ?_)
          | (refine goesD_q (y := .raw (.bool false)) (by first | decide | exact Nat.le_of_ble_eq_true rfl) (by rfl) (by rfl) ?_; refine sm ?_)
          | (refine goesD_b (by first | decide | exact Nat.le_of_ble_eq_true rfl) (by rfl) (by rfl) fun b hb => ?_; cases b <;> refine sm ?_)
          | (refine goesD_q (by first | decide | exact Nat.le_of_ble_eq_true rfl) (by rfl) (by rfl) ?_; refine sm ?_)
          | (refine goesD_s (by first | decide | exact Nat.le_of_ble_eq_true rfl) (by rfl) (qok_rop (by rfl)) ?_; refine sm ?_)
          | (refine goesD_off (by first | decide | exact Nat.le_of_ble_eq_true rfl) (by rfl) ?_; refine sm ?_)
          | (refine goesD_end (by rfl) ?_; refine sm ?_)
          | (refine goes_seq ?_)
        refine goesD_s (by decide) (by rfl) (qok_cutLo (m := few) (by rfl) (by rfl) (by rfl) (by rfl) (by rfl) hfK hdk) ?_
        refine sm ?_
        repeat' first
          | (refine goesD_q (y := .raw (.bool true)) (by first | decide | exact Nat.le_of_ble_eq_true rfl) (by rfl) (by rfl) ?_; refine sm ?_)
          | (refine goesD_q (y := .raw (.bool false)) (by first | decide | exact Nat.le_of_ble_eq_true rfl) (by rfl) (by rfl) ?_; refine sm ?_)
          | (refine goesD_b (by first | decide | exact Nat.le_of_ble_eq_true rfl) (by rfl) (by rfl) fun b hb => ?_; cases b <;> refine sm ?_)
          | (refine goesD_q (by first | decide | exact Nat.le_of_ble_eq_true rfl) (by rfl) (by rfl) ?_; refine sm ?_)
          | (refine goesD_s (by first | decide | exact Nat.le_of_ble_eq_true rfl) (by rfl) (qok_rop (by rfl)) ?_; refine sm ?_)
          | (refine goesD_off (by first | decide | exact Nat.le_of_ble_eq_true rfl) (by rfl) ?_; refine sm ?_)
          | (refine goesD_end (by rfl) ?_; refine sm ?_)
          | (refine goes_seq ?_)
        refine goesD_tells hPis2 (by decide) (by rfl) (by rfl) (by rfl) (by rfl) (by rfl) (by rfl) (by rfl) ?_
        refine sm ?_
        repeat' first
          | (refine goesD_q (y := .raw (.bool true)) (by first | decide | exact Nat.le_of_ble_eq_true rfl) (by rfl) (by rfl) ?_; refine sm ?_)
          | (refine goesD_q (y := .raw (.bool false)) (by first | decide | exact Nat.le_of_ble_eq_true rfl) (by rfl) (by rfl) ?_; refine sm ?_)
          | (refine goesD_b (by first | decide | exact Nat.le_of_ble_eq_true rfl) (by rfl) (by rfl) fun b hb => ?_; cases b <;> refine sm ?_)
          | (refine goesD_q (by first | decide | exact Nat.le_of_ble_eq_true rfl) (by rfl) (by rfl) ?_; refine sm ?_)
          | (refine goesD_s (by first | decide | exact Nat.le_of_ble_eq_true rfl) (by rfl) (qok_rop (by rfl)) ?_; refine sm ?_)
          | (refine goesD_off (by first | decide | exact Nat.le_of_ble_eq_true rfl) (by rfl) ?_; refine sm ?_)
          | (refine goesD_end (by rfl) ?_; refine sm ?_)
          | (refine goes_seq ?_)
        refine goesD_tells hE4 (by decide) (by rfl) (by rfl) (by rfl) (by rfl) (by rfl) (by rfl) (by rfl) ?_
        refine sm ?_
        repeat' first
          | (refine goesD_q (y := .raw (.bool true)) (by first | decide | exact Nat.le_of_ble_eq_true rfl) (by rfl) (by rfl) ?_; refine sm ?_)
          | (refine goesD_q (y := .raw (.bool false)) (by first | decide | exact Nat.le_of_ble_eq_true rfl) (by rfl) (by rfl) ?_; refine sm ?_)
          | (refine goesD_b (by first | decide | exact Nat.le_of_ble_eq_true rfl) (by rfl) (by rfl) fun b hb => ?_; cases b <;> refine sm ?_)
          | (refine goesD_q (by first | decide | exact Nat.le_of_ble_eq_true rfl) (by rfl) (by rfl) ?_; refine sm ?_)
          | (refine goesD_s (by first | decide | exact Nat.le_of_ble_eq_true rfl) (by rfl) (qok_rop (by rfl)) ?_; refine sm ?_)
          | (refine goesD_off (by first | decide | exact Nat.le_of_ble_eq_true rfl) (by rfl) ?_; refine sm ?_)
          | (refine goesD_end (by rfl) ?_; refine sm ?_)
          | (refine goes_seq ?_)
        repeat' first
          | (refine goesL_q (y := .raw (.bool true)) (by rfl) (by rfl) ?_; refine sm ?_)
          | (refine goesL_q (y := .raw (.bool false)) (by rfl) (by rfl) ?_; refine sm ?_)
          | (refine goesL_b (by rfl) (by rfl) fun b hb => ?_; cases b <;> refine sm ?_)
          | (refine goesL_q (by rfl) (by rfl) ?_; refine sm ?_)
          | (refine goesL_n (by rfl) (by rfl) ?_; refine sm ?_)
          | (refine goesL_m (by rfl) (by rfl) ?_; refine sm ?_)
          | (refine goesL_s (by rfl) (qok_rop (by rfl)) ?_; refine sm ?_)
          | (refine goesL_off (by rfl) ?_; refine sm ?_)
          | (refine goesL_nil ?_; try refine sm ?_)
          | (refine goes_seq ?_)
          | (refine goes_region ?_)
          | (refine goes_cond (b := true) (by rfl) (fun _ => ?_) fun h => (by cases h))
          | (refine goes_cond (b := false) (by rfl) (fun h => (by cases h)) fun _ => ?_)
          | (refine goes_block ?_)
          | (refine goes_skip ?_; try refine sm ?_)
          | (refine goes_exit ?_; try refine sm ?_)
          | (refine goes_ret ?_; try refine sm ?_)
        refine goesL_tells hPu' (by rfl) (by rfl) (by rfl) (by rfl) (by rfl) (by rfl) ?_
        refine sm ?_
        repeat' first
          | (refine goesL_q (y := .raw (.bool true)) (by rfl) (by rfl) ?_; refine sm ?_)
          | (refine goesL_q (y := .raw (.bool false)) (by rfl) (by rfl) ?_; refine sm ?_)
          | (refine goesL_b (by rfl) (by rfl) fun b hb => ?_; cases b <;> refine sm ?_)
          | (refine goesL_q (by rfl) (by rfl) ?_; refine sm ?_)
          | (refine goesL_n (by rfl) (by rfl) ?_; refine sm ?_)
          | (refine goesL_m (by rfl) (by rfl) ?_; refine sm ?_)
          | (refine goesL_s (by rfl) (qok_rop (by rfl)) ?_; refine sm ?_)
          | (refine goesL_off (by rfl) ?_; refine sm ?_)
          | (refine goesL_nil ?_; try refine sm ?_)
          | (refine goes_seq ?_)
          | (refine goes_region ?_)
          | (refine goes_cond (b := true) (by rfl) (fun _ => ?_) fun h => (by cases h))
          | (refine goes_cond (b := false) (by rfl) (fun h => (by cases h)) fun _ => ?_)
          | (refine goes_block ?_)
          | (refine goes_skip ?_; try refine sm ?_)
          | (refine goes_exit ?_; try refine sm ?_)
          | (refine goes_ret ?_; try refine sm ?_)
        refine goesL_tells hLi (by rfl) (by rfl) (by rfl) (by rfl) (by rfl) (by rfl) ?_
        refine sm ?_
        repeat' first
          | (refine goesL_q (y := .raw (.bool true)) (by rfl) (by rfl) ?_; refine sm ?_)
          | (refine goesL_q (y := .raw (.bool false)) (by rfl) (by rfl) ?_; refine sm ?_)
          | (refine goesL_b (by rfl) (by rfl) fun b hb => ?_; cases b <;> refine sm ?_)
          | (refine goesL_q (by rfl) (by rfl) ?_; refine sm ?_)
          | (refine goesL_n (by rfl) (by rfl) ?_; refine sm ?_)
          | (refine goesL_m (by rfl) (by rfl) ?_; refine sm ?_)
          | (refine goesL_s (by rfl) (qok_rop (by rfl)) ?_; refine sm ?_)
          | (refine goesL_off (by rfl) ?_; refine sm ?_)
          | (refine goesL_nil ?_; try refine sm ?_)
          | (refine goes_seq ?_)
          | (refine goes_region ?_)
          | (refine goes_cond (b := true) (by rfl) (fun _ => ?_) fun h => (by cases h))
          | (refine goes_cond (b := false) (by rfl) (fun h => (by cases h)) fun _ => ?_)
          | (refine goes_block ?_)
          | (refine goes_skip ?_; try refine sm ?_)
          | (refine goes_exit ?_; try refine sm ?_)
          | (refine goes_ret ?_; try refine sm ?_)
        refine goesL_tells hPa (by rfl) (by rfl) (by rfl) (by rfl) (by rfl) (by rfl) ?_
        refine sm ?_
        repeat' first
          | (refine goesL_q (y := .raw (.bool true)) (by rfl) (by rfl) ?_; refine sm ?_)
          | (refine goesL_q (y := .raw (.bool false)) (by rfl) (by rfl) ?_; refine sm ?_)
          | (refine goesL_b (by rfl) (by rfl) fun b hb => ?_; cases b <;> refine sm ?_)
          | (refine goesL_q (by rfl) (by rfl) ?_; refine sm ?_)
          | (refine goesL_n (by rfl) (by rfl) ?_; refine sm ?_)
          | (refine goesL_m (by rfl) (by rfl) ?_; refine sm ?_)
          | (refine goesL_s (by rfl) (qok_rop (by rfl)) ?_; refine sm ?_)
          | (refine goesL_off (by rfl) ?_; refine sm ?_)
          | (refine goesL_nil ?_; try refine sm ?_)
          | (refine goes_seq ?_)
          | (refine goes_region ?_)
          | (refine goes_cond (b := true) (by rfl) (fun _ => ?_) fun h => (by cases h))
          | (refine goes_cond (b := false) (by rfl) (fun h => (by cases h)) fun _ => ?_)
          | (refine goes_block ?_)
          | (refine goes_skip ?_; try refine sm ?_)
          | (refine goes_exit ?_; try refine sm ?_)
          | (refine goes_ret ?_; try refine sm ?_)
        refine goesL_tells hO4' (by rfl) (by rfl) (by rfl) (by rfl) (by rfl) (by rfl) ?_
        refine sm ?_
        repeat' first
          | (refine goesL_q (y := .raw (.bool true)) (by rfl) (by rfl) ?_; refine sm ?_)
          | (refine goesL_q (y := .raw (.bool false)) (by rfl) (by rfl) ?_; refine sm ?_)
          | (refine goesL_b (by rfl) (by rfl) fun b hb => ?_; cases b <;> refine sm ?_)
          | (refine goesL_q (by rfl) (by rfl) ?_; refine sm ?_)
          | (refine goesL_n (by rfl) (by rfl) ?_; refine sm ?_)
          | (refine goesL_m (by rfl) (by rfl) ?_; refine sm ?_)
          | (refine goesL_s (by rfl) (qok_rop (by rfl)) ?_; refine sm ?_)
          | (refine goesL_off (by rfl) ?_; refine sm ?_)
          | (refine goesL_nil ?_; try refine sm ?_)
          | (refine goes_seq ?_)
          | (refine goes_region ?_)
          | (refine goes_cond (b := true) (by rfl) (fun _ => ?_) fun h => (by cases h))
          | (refine goes_cond (b := false) (by rfl) (fun h => (by cases h)) fun _ => ?_)
          | (refine goes_block ?_)
          | (refine goes_skip ?_; try refine sm ?_)
          | (refine goes_exit ?_; try refine sm ?_)
          | (refine goes_ret ?_; try refine sm ?_)
        refine goesL_tells hLa (by rfl) (by rfl) (by rfl) (by rfl) (by rfl) (by rfl) ?_
        refine sm ?_
        repeat' first
          | (refine goesL_q (y := .raw (.bool true)) (by rfl) (by rfl) ?_; refine sm ?_)
          | (refine goesL_q (y := .raw (.bool false)) (by rfl) (by rfl) ?_; refine sm ?_)
          | (refine goesL_b (by rfl) (by rfl) fun b hb => ?_; cases b <;> refine sm ?_)
          | (refine goesL_q (by rfl) (by rfl) ?_; refine sm ?_)
          | (refine goesL_n (by rfl) (by rfl) ?_; refine sm ?_)
          | (refine goesL_m (by rfl) (by rfl) ?_; refine sm ?_)
          | (refine goesL_s (by rfl) (qok_rop (by rfl)) ?_; refine sm ?_)
          | (refine goesL_off (by rfl) ?_; refine sm ?_)
          | (refine goesL_nil ?_; try refine sm ?_)
          | (refine goes_seq ?_)
          | (refine goes_region ?_)
          | (refine goes_cond (b := true) (by rfl) (fun _ => ?_) fun h => (by cases h))
          | (refine goes_cond (b := false) (by rfl) (fun h => (by cases h)) fun _ => ?_)
          | (refine goes_block ?_)
          | (refine goes_skip ?_; try refine sm ?_)
          | (refine goes_exit ?_; try refine sm ?_)
          | (refine goes_ret ?_; try refine sm ?_)
        refine goesL_tells hO5' (by rfl) (by rfl) (by rfl) (by rfl) (by rfl) (by rfl) ?_
        refine sm ?_
        repeat' first
          | (refine goesL_q (y := .raw (.bool true)) (by rfl) (by rfl) ?_; refine sm ?_)
          | (refine goesL_q (y := .raw (.bool false)) (by rfl) (by rfl) ?_; refine sm ?_)
          | (refine goesL_b (by rfl) (by rfl) fun b hb => ?_; cases b <;> refine sm ?_)
          | (refine goesL_q (by rfl) (by rfl) ?_; refine sm ?_)
          | (refine goesL_n (by rfl) (by rfl) ?_; refine sm ?_)
          | (refine goesL_m (by rfl) (by rfl) ?_; refine sm ?_)
          | (refine goesL_s (by rfl) (qok_rop (by rfl)) ?_; refine sm ?_)
          | (refine goesL_off (by rfl) ?_; refine sm ?_)
          | (refine goesL_nil ?_; try refine sm ?_)
          | (refine goes_seq ?_)
          | (refine goes_region ?_)
          | (refine goes_cond (b := true) (by rfl) (fun _ => ?_) fun h => (by cases h))
          | (refine goes_cond (b := false) (by rfl) (fun h => (by cases h)) fun _ => ?_)
          | (refine goes_block ?_)
          | (refine goes_skip ?_; try refine sm ?_)
          | (refine goes_exit ?_; try refine sm ?_)
          | (refine goes_ret ?_; try refine sm ?_)
        refine goesL_tells hR4 (by rfl) (by rfl) (by rfl) (by rfl) (by rfl) (by rfl) ?_
        refine sm ?_
        repeat' first
          | (refine goesL_q (y := .raw (.bool true)) (by rfl) (by rfl) ?_; refine sm ?_)
          | (refine goesL_q (y := .raw (.bool false)) (by rfl) (by rfl) ?_; refine sm ?_)
          | (refine goesL_b (by rfl) (by rfl) fun b hb => ?_; cases b <;> refine sm ?_)
          | (refine goesL_q (by rfl) (by rfl) ?_; refine sm ?_)
          | (refine goesL_n (by rfl) (by rfl) ?_; refine sm ?_)
          | (refine goesL_m (by rfl) (by rfl) ?_; refine sm ?_)
          | (refine goesL_s (by rfl) (qok_rop (by rfl)) ?_; refine sm ?_)
          | (refine goesL_off (by rfl) ?_; refine sm ?_)
          | (refine goesL_nil ?_; try refine sm ?_)
          | (refine goes_seq ?_)
          | (refine goes_region ?_)
          | (refine goes_cond (b := true) (by rfl) (fun _ => ?_) fun h => (by cases h))
          | (refine goes_cond (b := false) (by rfl) (fun h => (by cases h)) fun _ => ?_)
          | (refine goes_block ?_)
          | (refine goes_skip ?_; try refine sm ?_)
          | (refine goes_exit ?_; try refine sm ?_)
          | (refine goes_ret ?_; try refine sm ?_)
        refine goesL_tells hR5 (by rfl) (by rfl) (by rfl) (by rfl) (by rfl) (by rfl) ?_
        refine sm ?_
        repeat' first
          | (refine goesL_q (y := .raw (.bool true)) (by rfl) (by rfl) ?_; refine sm ?_)
          | (refine goesL_q (y := .raw (.bool false)) (by rfl) (by rfl) ?_; refine sm ?_)
          | (refine goesL_b (by rfl) (by rfl) fun b hb => ?_; cases b <;> refine sm ?_)
          | (refine goesL_q (by rfl) (by rfl) ?_; refine sm ?_)
          | (refine goesL_n (by rfl) (by rfl) ?_; refine sm ?_)
          | (refine goesL_m (by rfl) (by rfl) ?_; refine sm ?_)
          | (refine goesL_s (by rfl) (qok_rop (by rfl)) ?_; refine sm ?_)
          | (refine goesL_off (by rfl) ?_; refine sm ?_)
          | (refine goesL_nil ?_; try refine sm ?_)
          | (refine goes_seq ?_)
          | (refine goes_region ?_)
          | (refine goes_cond (b := true) (by rfl) (fun _ => ?_) fun h => (by cases h))
          | (refine goes_cond (b := false) (by rfl) (fun h => (by cases h)) fun _ => ?_)
          | (refine goes_block ?_)
          | (refine goes_skip ?_; try refine sm ?_)
          | (refine goes_exit ?_; try refine sm ?_)
          | (refine goes_ret ?_; try refine sm ?_)
        exact ⟨rfl, _, rfl, rfl⟩
      | false =>
        obtain rfl : b2 = false := hcb rfl
        refine goesD_tells hE3 (by decide) (by rfl) (by rfl) (by rfl) (by rfl) (by rfl) (by rfl) (by rfl) ?_
        refine sm ?_
        repeat' first
          | (refine goesD_q (y := .raw (.bool true)) (by first | decide | exact Nat.le_of_ble_eq_true rfl) (by rfl) (by rfl) ?_; refine sm ?_)
          | (refine goesD_q (y := .raw (.bool false)) (by first | decide | exact Nat.le_of_ble_eq_true rfl) (by rfl) (by rfl) ?_; refine sm ?_)
          | (refine goesD_b (by first | decide | exact Nat.le_of_ble_eq_true rfl) (by rfl) (by rfl) fun b hb => ?_; cases b <;> refine sm ?_)
          | (refine goesD_q (by first | decide | exact Nat.le_of_ble_eq_true rfl) (by rfl) (by rfl) ?_; refine sm ?_)
          | (refine goesD_s (by first | decide | exact Nat.le_of_ble_eq_true rfl) (by rfl) (qok_rop (by rfl)) ?_; refine sm ?_)
          | (refine goesD_off (by first | decide | exact Nat.le_of_ble_eq_true rfl) (by rfl) ?_; refine sm ?_)
          | (refine goesD_end (by rfl) ?_; refine sm ?_)
          | (refine goes_seq ?_)
        refine goesD_tells hCl (by decide) (by rfl) (by rfl) (by rfl) (by rfl) (by rfl) (by rfl) (by rfl) ?_
        refine sm ?_
        repeat' first
          | (refine goesD_q (y := .raw (.bool true)) (by first | decide | exact Nat.le_of_ble_eq_true rfl) (by rfl) (by rfl) ?_; refine sm ?_)
          | (refine goesD_q (y := .raw (.bool false)) (by first | decide | exact Nat.le_of_ble_eq_true rfl) (by rfl) (by rfl) ?_; refine sm ?_)
          | (refine goesD_b (by first | decide | exact Nat.le_of_ble_eq_true rfl) (by rfl) (by rfl) fun b hb => ?_; cases b <;> refine sm ?_)
          | (refine goesD_q (by first | decide | exact Nat.le_of_ble_eq_true rfl) (by rfl) (by rfl) ?_; refine sm ?_)
          | (refine goesD_s (by first | decide | exact Nat.le_of_ble_eq_true rfl) (by rfl) (qok_rop (by rfl)) ?_; refine sm ?_)
          | (refine goesD_off (by first | decide | exact Nat.le_of_ble_eq_true rfl) (by rfl) ?_; refine sm ?_)
          | (refine goesD_end (by rfl) ?_; refine sm ?_)
          | (refine goes_seq ?_)
        repeat' first
          | (refine goesL_q (y := .raw (.bool true)) (by rfl) (by rfl) ?_; refine sm ?_)
          | (refine goesL_q (y := .raw (.bool false)) (by rfl) (by rfl) ?_; refine sm ?_)
          | (refine goesL_b (by rfl) (by rfl) fun b hb => ?_; cases b <;> refine sm ?_)
          | (refine goesL_q (by rfl) (by rfl) ?_; refine sm ?_)
          | (refine goesL_n (by rfl) (by rfl) ?_; refine sm ?_)
          | (refine goesL_m (by rfl) (by rfl) ?_; refine sm ?_)
          | (refine goesL_s (by rfl) (qok_rop (by rfl)) ?_; refine sm ?_)
          | (refine goesL_off (by rfl) ?_; refine sm ?_)
          | (refine goesL_nil ?_; try refine sm ?_)
          | (refine goes_seq ?_)
          | (refine goes_region ?_)
          | (refine goes_cond (b := true) (by rfl) (fun _ => ?_) fun h => (by cases h))
          | (refine goes_cond (b := false) (by rfl) (fun h => (by cases h)) fun _ => ?_)
          | (refine goes_block ?_)
          | (refine goes_skip ?_; try refine sm ?_)
          | (refine goes_exit ?_; try refine sm ?_)
          | (refine goes_ret ?_; try refine sm ?_)
        refine goesL_s (by rfl) (qok_max (a := n) (b := 0) (by rfl) (by rfl) hN) ?_
        refine sm ?_
        repeat' first
          | (refine goesL_q (y := .raw (.bool true)) (by rfl) (by rfl) ?_; refine sm ?_)
          | (refine goesL_q (y := .raw (.bool false)) (by rfl) (by rfl) ?_; refine sm ?_)
          | (refine goesL_b (by rfl) (by rfl) fun b hb => ?_; cases b <;> refine sm ?_)
          | (refine goesL_q (by rfl) (by rfl) ?_; refine sm ?_)
          | (refine goesL_n (by rfl) (by rfl) ?_; refine sm ?_)
          | (refine goesL_m (by rfl) (by rfl) ?_; refine sm ?_)
          | (refine goesL_s (by rfl) (qok_rop (by rfl)) ?_; refine sm ?_)
          | (refine goesL_off (by rfl) ?_; refine sm ?_)
          | (refine goesL_nil ?_; try refine sm ?_)
          | (refine goes_seq ?_)
          | (refine goes_region ?_)
          | (refine goes_cond (b := true) (by rfl) (fun _ => ?_) fun h => (by cases h))
          | (refine goes_cond (b := false) (by rfl) (fun h => (by cases h)) fun _ => ?_)
          | (refine goes_block ?_)
          | (refine goes_skip ?_; try refine sm ?_)
          | (refine goes_exit ?_; try refine sm ?_)
          | (refine goes_ret ?_; try refine sm ?_)
        refine goesL_s (by rfl) (qok_min (a := (N : Int)) (b := (K.length : Int)) (by rfl) (by rfl) hmn') ?_
        refine sm ?_
        repeat' first
          | (refine goesL_q (y := .raw (.bool true)) (by rfl) (by rfl) ?_; refine sm ?_)
          | (refine goesL_q (y := .raw (.bool false)) (by rfl) (by rfl) ?_; refine sm ?_)
          | (refine goesL_b (by rfl) (by rfl) fun b hb => ?_; cases b <;> refine sm ?_)
          | (refine goesL_q (by rfl) (by rfl) ?_; refine sm ?_)
          | (refine goesL_n (by rfl) (by rfl) ?_; refine sm ?_)
          | (refine goesL_m (by rfl) (by rfl) ?_; refine sm ?_)
          | (refine goesL_s (by rfl) (qok_rop (by rfl)) ?_; refine sm ?_)
          | (refine goesL_off (by rfl) ?_; refine sm ?_)
          | (refine goesL_nil ?_; try refine sm ?_)
          | (refine goes_seq ?_)
          | (refine goes_region ?_)
          | (refine goes_cond (b := true) (by rfl) (fun _ => ?_) fun h => (by cases h))
          | (refine goes_cond (b := false) (by rfl) (fun h => (by cases h)) fun _ => ?_)
          | (refine goes_block ?_)
          | (refine goes_skip ?_; try refine sm ?_)
          | (refine goes_exit ?_; try refine sm ?_)
          | (refine goes_ret ?_; try refine sm ?_)
        refine goesL_tells hO2' (by rfl) (by rfl) (by rfl) (by rfl) (by rfl) (by rfl) ?_
        refine sm ?_
        repeat' first
          | (refine goesL_q (y := .raw (.bool true)) (by rfl) (by rfl) ?_; refine sm ?_)
          | (refine goesL_q (y := .raw (.bool false)) (by rfl) (by rfl) ?_; refine sm ?_)
          | (refine goesL_b (by rfl) (by rfl) fun b hb => ?_; cases b <;> refine sm ?_)
          | (refine goesL_q (by rfl) (by rfl) ?_; refine sm ?_)
          | (refine goesL_n (by rfl) (by rfl) ?_; refine sm ?_)
          | (refine goesL_m (by rfl) (by rfl) ?_; refine sm ?_)
          | (refine goesL_s (by rfl) (qok_rop (by rfl)) ?_; refine sm ?_)
          | (refine goesL_off (by rfl) ?_; refine sm ?_)
          | (refine goesL_nil ?_; try refine sm ?_)
          | (refine goes_seq ?_)
          | (refine goes_region ?_)
          | (refine goes_cond (b := true) (by rfl) (fun _ => ?_) fun h => (by cases h))
          | (refine goes_cond (b := false) (by rfl) (fun h => (by cases h)) fun _ => ?_)
          | (refine goes_block ?_)
          | (refine goes_skip ?_; try refine sm ?_)
          | (refine goes_exit ?_; try refine sm ?_)
          | (refine goes_ret ?_; try refine sm ?_)
        refine goes_any (by rfl) ?_
        refine sm ?_
        repeat' first
          | (refine goesA_q [] (y := .raw (.bool true)) (by rfl) (by rfl) ?_; refine sm ?_)
          | (refine goesA_q [] (y := .raw (.bool false)) (by rfl) (by rfl) ?_; refine sm ?_)
          | (refine goesA_b (by rfl) (by rfl) fun b hb => ?_; cases b <;> refine sm ?_)
          | (refine goesA_q [] (by rfl) (by rfl) ?_; refine sm ?_)
          | (refine goesA_t (by rfl) (by rfl) (by rfl) ?_; refine sm ?_)
          | (refine goesA_n [] (by rfl) (by rfl) ?_; refine sm ?_)
          | (refine goesA_m (by rfl) (by rfl) (by rfl) ?_; refine sm ?_)
          | (refine goesA_off (by rfl) ?_; refine sm ?_)
          | (refine goesA_end (by kernel_rfl) ?_; refine sm ?_)
        refine goesA_tells hC2 (by rfl) (by rfl) (by rfl) (by rfl) (by rfl) (by rfl) (by rfl) ?_
        refine sm ?_
        repeat' first
          | (refine goesA_q [] (y := .raw (.bool true)) (by rfl) (by rfl) ?_; refine sm ?_)
          | (refine goesA_q [] (y := .raw (.bool false)) (by rfl) (by rfl) ?_; refine sm ?_)
          | (refine goesA_b (by rfl) (by rfl) fun b hb => ?_; cases b <;> refine sm ?_)
          | (refine goesA_q [] (by rfl) (by rfl) ?_; refine sm ?_)
          | (refine goesA_t (by rfl) (by rfl) (by rfl) ?_; refine sm ?_)
          | (refine goesA_n [] (by rfl) (by rfl) ?_; refine sm ?_)
          | (refine goesA_m (by rfl) (by rfl) (by rfl) ?_; refine sm ?_)
          | (refine goesA_off (by rfl) ?_; refine sm ?_)
          | (refine goesA_end (by kernel_rfl) ?_; refine sm ?_)
        refine goesA_tells hO3' (by rfl) (by rfl) (by rfl) (by rfl) (by rfl) (by rfl) (by rfl) ?_
        refine sm ?_
        repeat' first
          | (refine goesA_q [] (y := .raw (.bool true)) (by rfl) (by rfl) ?_; refine sm ?_)
          | (refine goesA_q [] (y := .raw (.bool false)) (by rfl) (by rfl) ?_; refine sm ?_)
          | (refine goesA_b (by rfl) (by rfl) fun b hb => ?_; cases b <;> refine sm ?_)
          | (refine goesA_q [] (by rfl) (by rfl) ?_; refine sm ?_)
          | (refine goesA_t (by rfl) (by rfl) (by rfl) ?_; refine sm ?_)
          | (refine goesA_n [] (by rfl) (by rfl) ?_; refine sm ?_)
          | (refine goesA_m (by rfl) (by rfl) (by rfl) ?_; refine sm ?_)
          | (refine goesA_off (by rfl) ?_; refine sm ?_)
          | (refine goesA_end (by kernel_rfl) ?_; refine sm ?_)
        repeat' first
          | (refine goesL_q (y := .raw (.bool true)) (by rfl) (by rfl) ?_; refine sm ?_)
          | (refine goesL_q (y := .raw (.bool false)) (by rfl) (by rfl) ?_; refine sm ?_)
          | (refine goesL_b (by rfl) (by rfl) fun b hb => ?_; cases b <;> refine sm ?_)
          | (refine goesL_q (by rfl) (by rfl) ?_; refine sm ?_)
          | (refine goesL_n (by rfl) (by rfl) ?_; refine sm ?_)
          | (refine goesL_m (by rfl) (by rfl) ?_; refine sm ?_)
          | (refine goesL_s (by rfl) (qok_rop (by rfl)) ?_; refine sm ?_)
          | (refine goesL_off (by rfl) ?_; refine sm ?_)
          | (refine goesL_nil ?_; try refine sm ?_)
          | (refine goes_seq ?_)
          | (refine goes_region ?_)
          | (refine goes_cond (b := true) (by rfl) (fun _ => ?_) fun h => (by cases h))
          | (refine goes_cond (b := false) (by rfl) (fun h => (by cases h)) fun _ => ?_)
          | (refine goes_block ?_)
          | (refine goes_skip ?_; try refine sm ?_)
          | (refine goes_exit ?_; try refine sm ?_)
          | (refine goes_ret ?_; try refine sm ?_)
        refine goes_draw 22 [] (by rfl) (by kernel_rfl) ?_
        refine sm ?_
        repeat' first
          | (refine goesD_q (y := .raw (.bool true)) (by first | decide | exact Nat.le_of_ble_eq_true rfl) (by rfl) (by rfl) ?_; refine sm ?_)
          | (refine goesD_q (y := .raw (.bool false)) (by first | decide | exact Nat.le_of_ble_eq_true rfl) (by rfl) (by rfl) ?_; refine sm ?_)
          | (refine goesD_b (by first | decide | exact Nat.le_of_ble_eq_true rfl) (by rfl) (by rfl) fun b hb => ?_; cases b <;> refine sm ?_)
          | (refine goesD_q (by first | decide | exact Nat.le_of_ble_eq_true rfl) (by rfl) (by rfl) ?_; refine sm ?_)
          | (refine goesD_s (by first | decide | exact Nat.le_of_ble_eq_true rfl) (by rfl) (qok_rop (by rfl)) ?_; refine sm ?_)
          | (refine goesD_off (by first | decide | exact Nat.le_of_ble_eq_true rfl) (by rfl) ?_; refine sm ?_)
          | (refine goesD_end (by rfl) ?_; refine sm ?_)
          | (refine goes_seq ?_)
        refine goesD_s (by decide) (by rfl) (qok_cutHi (m := few) (by rfl) (by rfl) (by rfl) (by rfl) (by rfl) hfK htk) ?_
        refine sm ?_
        repeat' first
          | (refine goesD_q (y := .raw (.bool true)) (by first | decide | exact Nat.le_of_ble_eq_true rfl) (by rfl) (by rfl) ?_; refine sm ?_)
          | (refine goesD_q (y := .raw (.bool false)) (by first | decide | exact Nat.le_of_ble_eq_true rfl) (by rfl) (by rfl) ?_; refine sm ?_)
          | (refine goesD_b (by first | decide | exact Nat.le_of_ble_eq_true rfl) (by rfl) (by rfl) fun b hb => ?_; cases b <;> refine sm ?_)
          | (refine goesD_q (by first | decide | exact Nat.le_of_ble_eq_true rfl) (by rfl) (by rfl) ?_; refine sm ?_)
          | (refine goesD_s (by first | decide | exact Nat.le_of_ble_eq_true rfl) (by rfl) (qok_rop (by rfl)) ?_; refine sm ?_)
          | (refine goesD_off (by first | decide | exact Nat.le_of_ble_eq_true rfl) (by rfl) ?_; refine sm ?_)
          | (refine goesD_end (by rfl) ?_; refine sm ?_)
          | (refine goes_seq ?_)
        refine goesD_tells hR3 (by decide) (by rfl) (by rfl) (by rfl) (by rfl) (by rfl) (by rfl) (by rfl) ?_
        refine sm ?_
        repeat' first
          | (refine goesD_q (y := .raw (.bool true)) (by first | decide | exact Nat.le_of_ble_eq_true rfl) (by rfl) (by rfl) ?_; refine sm ?_)
          | (refine goesD_q (y := .raw (.bool false)) (by first | decide | exact Nat.le_of_ble_eq_true rfl) (by rfl) (by rfl) ?_; refine sm ?_)
          | (refine goesD_b (by first | decide | exact Nat.le_of_ble_eq_true rfl) (by rfl) (by rfl) fun b hb => ?_; cases b <;> refine sm ?_)
          | (refine goesD_q (by first | decide | exact Nat.le_of_ble_eq_true rfl) (by rfl) (by rfl) ?_; refine sm ?_)
          | (refine goesD_s (by first | decide | exact Nat.le_of_ble_eq_true rfl) (by rfl) (qok_rop (by rfl)) ?_; refine sm ?_)
          | (refine goesD_off (by first | decide | exact Nat.le_of_ble_eq_true rfl) (by rfl) ?_; refine sm ?_)
          | (refine goesD_end (by rfl) ?_; refine sm ?_)
          | (refine goes_seq ?_)
        refine goesD_s (by decide) (by rfl) (qok_cutLo (m := few) (by rfl) (by rfl) (by rfl) (by rfl) (by rfl) hfK hdk) ?_
        refine sm ?_
        repeat' first
          | (refine goesD_q (y := .raw (.bool true)) (by first | decide | exact Nat.le_of_ble_eq_true rfl) (by rfl) (by rfl) ?_; refine sm ?_)
          | (refine goesD_q (y := .raw (.bool false)) (by first | decide | exact Nat.le_of_ble_eq_true rfl) (by rfl) (by rfl) ?_; refine sm ?_)
          | (refine goesD_b (by first | decide | exact Nat.le_of_ble_eq_true rfl) (by rfl) (by rfl) fun b hb => ?_; cases b <;> refine sm ?_)
          | (refine goesD_q (by first | decide | exact Nat.le_of_ble_eq_true rfl) (by rfl) (by rfl) ?_; refine sm ?_)
          | (refine goesD_s (by first | decide | exact Nat.le_of_ble_eq_true rfl) (by rfl) (qok_rop (by rfl)) ?_; refine sm ?_)
          | (refine goesD_off (by first | decide | exact Nat.le_of_ble_eq_true rfl) (by rfl) ?_; refine sm ?_)
          | (refine goesD_end (by rfl) ?_; refine sm ?_)
          | (refine goes_seq ?_)
        refine goesD_tells hPis2 (by decide) (by rfl) (by rfl) (by rfl) (by rfl) (by rfl) (by rfl) (by rfl) ?_
        refine sm ?_
        repeat' first
          | (refine goesD_q (y := .raw (.bool true)) (by first | decide | exact Nat.le_of_ble_eq_true rfl) (by rfl) (by rfl) ?_; refine sm ?_)
          | (refine goesD_q (y := .raw (.bool false)) (by first | decide | exact Nat.le_of_ble_eq_true rfl) (by rfl) (by rfl) ?_; refine sm ?_)
          | (refine goesD_b (by first | decide | exact Nat.le_of_ble_eq_true rfl) (by rfl) (by rfl) fun b hb => ?_; cases b <;> refine sm ?_)
          | (refine goesD_q (by first | decide | exact Nat.le_of_ble_eq_true rfl) (by rfl) (by rfl) ?_; refine sm ?_)
          | (refine goesD_s (by first | decide | exact Nat.le_of_ble_eq_true rfl) (by rfl) (qok_rop (by rfl)) ?_; refine sm ?_)
          | (refine goesD_off (by first | decide | exact Nat.le_of_ble_eq_true rfl) (by rfl) ?_; refine sm ?_)
          | (refine goesD_end (by rfl) ?_; refine sm ?_)
          | (refine goes_seq ?_)
        refine goesD_tells hE4 (by decide) (by rfl) (by rfl) (by rfl) (by rfl) (by rfl) (by rfl) (by rfl) ?_
        refine sm ?_
        repeat' first
          | (refine goesD_q (y := .raw (.bool true)) (by first | decide | exact Nat.le_of_ble_eq_true rfl) (by rfl) (by rfl) ?_; refine sm ?_)
          | (refine goesD_q (y := .raw (.bool false)) (by first | decide | exact Nat.le_of_ble_eq_true rfl) (by rfl) (by rfl) ?_; refine sm ?_)
          | (refine goesD_b (by first | decide | exact Nat.le_of_ble_eq_true rfl) (by rfl) (by rfl) fun b hb => ?_; cases b <;> refine sm ?_)
          | (refine goesD_q (by first | decide | exact Nat.le_of_ble_eq_true rfl) (by rfl) (by rfl) ?_; refine sm ?_)
          | (refine goesD_s (by first | decide | exact Nat.le_of_ble_eq_true rfl) (by rfl) (qok_rop (by rfl)) ?_; refine sm ?_)
          | (refine goesD_off (by first | decide | exact Nat.le_of_ble_eq_true rfl) (by rfl) ?_; refine sm ?_)
          | (refine goesD_end (by rfl) ?_; refine sm ?_)
          | (refine goes_seq ?_)
        repeat' first
          | (refine goesL_q (y := .raw (.bool true)) (by rfl) (by rfl) ?_; refine sm ?_)
          | (refine goesL_q (y := .raw (.bool false)) (by rfl) (by rfl) ?_; refine sm ?_)
          | (refine goesL_b (by rfl) (by rfl) fun b hb => ?_; cases b <;> refine sm ?_)
          | (refine goesL_q (by rfl) (by rfl) ?_; refine sm ?_)
          | (refine goesL_n (by rfl) (by rfl) ?_; refine sm ?_)
          | (refine goesL_m (by rfl) (by rfl) ?_; refine sm ?_)
          | (refine goesL_s (by rfl) (qok_rop (by rfl)) ?_; refine sm ?_)
          | (refine goesL_off (by rfl) ?_; refine sm ?_)
          | (refine goesL_nil ?_; try refine sm ?_)
          | (refine goes_seq ?_)
          | (refine goes_region ?_)
          | (refine goes_cond (b := true) (by rfl) (fun _ => ?_) fun h => (by cases h))
          | (refine goes_cond (b := false) (by rfl) (fun h => (by cases h)) fun _ => ?_)
          | (refine goes_block ?_)
          | (refine goes_skip ?_; try refine sm ?_)
          | (refine goes_exit ?_; try refine sm ?_)
          | (refine goes_ret ?_; try refine sm ?_)
        refine goesL_tells hPu' (by rfl) (by rfl) (by rfl) (by rfl) (by rfl) (by rfl) ?_
        refine sm ?_
        repeat' first
          | (refine goesL_q (y := .raw (.bool true)) (by rfl) (by rfl) ?_; refine sm ?_)
          | (refine goesL_q (y := .raw (.bool false)) (by rfl) (by rfl) ?_; refine sm ?_)
          | (refine goesL_b (by rfl) (by rfl) fun b hb => ?_; cases b <;> refine sm ?_)
          | (refine goesL_q (by rfl) (by rfl) ?_; refine sm ?_)
          | (refine goesL_n (by rfl) (by rfl) ?_; refine sm ?_)
          | (refine goesL_m (by rfl) (by rfl) ?_; refine sm ?_)
          | (refine goesL_s (by rfl) (qok_rop (by rfl)) ?_; refine sm ?_)
          | (refine goesL_off (by rfl) ?_; refine sm ?_)
          | (refine goesL_nil ?_; try refine sm ?_)
          | (refine goes_seq ?_)
          | (refine goes_region ?_)
          | (refine goes_cond (b := true) (by rfl) (fun _ => ?_) fun h => (by cases h))
          | (refine goes_cond (b := false) (by rfl) (fun h => (by cases h)) fun _ => ?_)
          | (refine goes_block ?_)
          | (refine goes_skip ?_; try refine sm ?_)
          | (refine goes_exit ?_; try refine sm ?_)
          | (refine goes_ret ?_; try refine sm ?_)
        refine goesL_tells hLi (by rfl) (by rfl) (by rfl) (by rfl) (by rfl) (by rfl) ?_
        refine sm ?_
        repeat' first
          | (refine goesL_q (y := .raw (.bool true)) (by rfl) (by rfl) ?_; refine sm ?_)
          | (refine goesL_q (y := .raw (.bool false)) (by rfl) (by rfl) ?_; refine sm ?_)
          | (refine goesL_b (by rfl) (by rfl) fun b hb => ?_; cases b <;> refine sm ?_)
          | (refine goesL_q (by rfl) (by rfl) ?_; refine sm ?_)
          | (refine goesL_n (by rfl) (by rfl) ?_; refine sm ?_)
          | (refine goesL_m (by rfl) (by rfl) ?_; refine sm ?_)
          | (refine goesL_s (by rfl) (qok_rop (by rfl)) ?_; refine sm ?_)
          | (refine goesL_off (by rfl) ?_; refine sm ?_)
          | (refine goesL_nil ?_; try refine sm ?_)
          | (refine goes_seq ?_)
          | (refine goes_region ?_)
          | (refine goes_cond (b := true) (by rfl) (fun _ => ?_) fun h => (by cases h))
          | (refine goes_cond (b := false) (by rfl) (fun h => (by cases h)) fun _ => ?_)
          | (refine goes_block ?_)
          | (refine goes_skip ?_; try refine sm ?_)
          | (refine goes_exit ?_; try refine sm ?_)
          | (refine goes_ret ?_; try refine sm ?_)
        refine goesL_tells hPa (by rfl) (by rfl) (by rfl) (by rfl) (by rfl) (by rfl) ?_
        refine sm ?_
        repeat' first
          | (refine goesL_q (y := .raw (.bool true)) (by rfl) (by rfl) ?_; refine sm ?_)
          | (refine goesL_q (y := .raw (.bool false)) (by rfl) (by rfl) ?_; refine sm ?_)
          | (refine goesL_b (by rfl) (by rfl) fun b hb => ?_; cases b <;> refine sm ?_)
          | (refine goesL_q (by rfl) (by rfl) ?_; refine sm ?_)
          | (refine goesL_n (by rfl) (by rfl) ?_; refine sm ?_)
          | (refine goesL_m (by rfl) (by rfl) ?_; refine sm ?_)
          | (refine goesL_s (by rfl) (qok_rop (by rfl)) ?_; refine sm ?_)
          | (refine goesL_off (by rfl) ?_; refine sm ?_)
          | (refine goesL_nil ?_; try refine sm ?_)
          | (refine goes_seq ?_)
          | (refine goes_region ?_)
          | (refine goes_cond (b := true) (by rfl) (fun _ => ?_) fun h => (by cases h))
          | (refine goes_cond (b := false) (by rfl) (fun h => (by cases h)) fun _ => ?_)
          | (refine goes_block ?_)
          | (refine goes_skip ?_; try refine sm ?_)
          | (refine goes_exit ?_; try refine sm ?_)
          | (refine goes_ret ?_; try refine sm ?_)
        refine goesL_tells hO4' (by rfl) (by rfl) (by rfl) (by rfl) (by rfl) (by rfl) ?_
        refine sm ?_
        repeat' first
          | (refine goesL_q (y := .raw (.bool true)) (by rfl) (by rfl) ?_; refine sm ?_)
          | (refine goesL_q (y := .raw (.bool false)) (by rfl) (by rfl) ?_; refine sm ?_)
          | (refine goesL_b (by rfl) (by rfl) fun b hb => ?_; cases b <;> refine sm ?_)
          | (refine goesL_q (by rfl) (by rfl) ?_; refine sm ?_)
          | (refine goesL_n (by rfl) (by rfl) ?_; refine sm ?_)
          | (refine goesL_m (by rfl) (by rfl) ?_; refine sm ?_)
          | (refine goesL_s (by rfl) (qok_rop (by rfl)) ?_; refine sm ?_)
          | (refine goesL_off (by rfl) ?_; refine sm ?_)
          | (refine goesL_nil ?_; try refine sm ?_)
          | (refine goes_seq ?_)
          | (refine goes_region ?_)
          | (refine goes_cond (b := true) (by rfl) (fun _ => ?_) fun h => (by cases h))
          | (refine goes_cond (b := false) (by rfl) (fun h => (by cases h)) fun _ => ?_)
          | (refine goes_block ?_)
          | (refine goes_skip ?_; try refine sm ?_)
          | (refine goes_exit ?_; try refine sm ?_)
          | (refine goes_ret ?_; try refine sm ?_)
        refine goesL_tells hLa (by rfl) (by rfl) (by rfl) (by rfl) (by rfl) (by rfl) ?_
        refine sm ?_
        repeat' first
          | (refine goesL_q (y := .raw (.bool true)) (by rfl) (by rfl) ?_; refine sm ?_)
          | (refine goesL_q (y := .raw (.bool false)) (by rfl) (by rfl) ?_; refine sm ?_)
          | (refine goesL_b (by rfl) (by rfl) fun b hb => ?_; cases b <;> refine sm ?_)
          | (refine goesL_q (by rfl) (by rfl) ?_; refine sm ?_)
          | (refine goesL_n (by rfl) (by rfl) ?_; refine sm ?_)
          | (refine goesL_m (by rfl) (by rfl) ?_; refine sm ?_)
          | (refine goesL_s (by rfl) (qok_rop (by rfl)) ?_; refine sm ?_)
          | (refine goesL_off (by rfl) ?_; refine sm ?_)
          | (refine goesL_nil ?_; try refine sm ?_)
          | (refine goes_seq ?_)
          | (refine goes_region ?_)
          | (refine goes_cond (b := true) (by rfl) (fun _ => ?_) fun h => (by cases h))
          | (refine goes_cond (b := false) (by rfl) (fun h => (by cases h)) fun _ => ?_)
          | (refine goes_block ?_)
          | (refine goes_skip ?_; try refine sm ?_)
          | (refine goes_exit ?_; try refine sm ?_)
          | (refine goes_ret ?_; try refine sm ?_)
        refine goesL_tells hO5' (by rfl) (by rfl) (by rfl) (by rfl) (by rfl) (by rfl) ?_
        refine sm ?_
        repeat' first
          | (refine goesL_q (y := .raw (.bool true)) (by rfl) (by rfl) ?_; refine sm ?_)
          | (refine goesL_q (y := .raw (.bool false)) (by rfl) (by rfl) ?_; refine sm ?_)
          | (refine goesL_b (by rfl) (by rfl) fun b hb => ?_; cases b <;> refine sm ?_)
          | (refine goesL_q (by rfl) (by rfl) ?_; refine sm ?_)
          | (refine goesL_n (by rfl) (by rfl) ?_; refine sm ?_)
          | (refine goesL_m (by rfl) (by rfl) ?_; refine sm ?_)
          | (refine goesL_s (by rfl) (qok_rop (by rfl)) ?_; refine sm ?_)
          | (refine goesL_off (by rfl) ?_; refine sm ?_)
          | (refine goesL_nil ?_; try refine sm ?_)
          | (refine goes_seq ?_)
          | (refine goes_region ?_)
          | (refine goes_cond (b := true) (by rfl) (fun _ => ?_) fun h => (by cases h))
          | (refine goes_cond (b := false) (by rfl) (fun h => (by cases h)) fun _ => ?_)
          | (refine goes_block ?_)
          | (refine goes_skip ?_; try refine sm ?_)
          | (refine goes_exit ?_; try refine sm ?_)
          | (refine goes_ret ?_; try refine sm ?_)
        refine goesL_tells hR4 (by rfl) (by rfl) (by rfl) (by rfl) (by rfl) (by rfl) ?_
        refine sm ?_
        repeat' first
          | (refine goesL_q (y := .raw (.bool true)) (by rfl) (by rfl) ?_; refine sm ?_)
          | (refine goesL_q (y := .raw (.bool false)) (by rfl) (by rfl) ?_; refine sm ?_)
          | (refine goesL_b (by rfl) (by rfl) fun b hb => ?_; cases b <;> refine sm ?_)
          | (refine goesL_q (by rfl) (by rfl) ?_; refine sm ?_)
          | (refine goesL_n (by rfl) (by rfl) ?_; refine sm ?_)
          | (refine goesL_m (by rfl) (by rfl) ?_; refine sm ?_)
          | (refine goesL_s (by rfl) (qok_rop (by rfl)) ?_; refine sm ?_)
          | (refine goesL_off (by rfl) ?_; refine sm ?_)
          | (refine goesL_nil ?_; try refine sm ?_)
          | (refine goes_seq ?_)
          | (refine goes_region ?_)
          | (refine goes_cond (b := true) (by rfl) (fun _ => ?_) fun h => (by cases h))
          | (refine goes_cond (b := false) (by rfl) (fun h => (by cases h)) fun _ => ?_)
          | (refine goes_block ?_)
          | (refine goes_skip ?_; try refine sm ?_)
          | (refine goes_exit ?_; try refine sm ?_)
          | (refine goes_ret ?_; try refine sm ?_)
        refine goesL_tells hR5 (by rfl) (by rfl) (by rfl) (by rfl) (by rfl) (by rfl) ?_
        refine sm ?_
        repeat' first
          | (refine goesL_q (y := .raw (.bool true)) (by rfl) (by rfl) ?_; refine sm ?_)
          | (refine goesL_q (y := .raw (.bool false)) (by rfl) (by rfl) ?_; refine sm ?_)
          | (refine goesL_b (by rfl) (by rfl) fun b hb => ?_; cases b <;> refine sm ?_)
          | (refine goesL_q (by rfl) (by rfl) ?_; refine sm ?_)
          | (refine goesL_n (by rfl) (by rfl) ?_; refine sm ?_)
          | (refine goesL_m (by rfl) (by rfl) ?_; refine sm ?_)
          | (refine goesL_s (by rfl) (qok_rop (by rfl)) ?_; refine sm ?_)
          | (refine goesL_off (by rfl) ?_; refine sm ?_)
          | (refine goesL_nil ?_; try refine sm ?_)
          | (refine goes_seq ?_)
          | (refine goes_region ?_)
          | (refine goes_cond (b := true) (by rfl) (fun _ => ?_) fun h => (by cases h))
          | (refine goes_cond (b := false) (by rfl) (fun h => (by cases h)) fun _ => ?_)
          | (refine goes_block ?_)
          | (refine goes_skip ?_; try refine sm ?_)
          | (refine goes_exit ?_; try refine sm ?_)
          | (refine goes_ret ?_; try refine sm ?_)
        exact ⟨rfl, _, rfl, rfl⟩
    · exact ⟨rfl, _, rfl, rfl⟩
end Go.Proofs.YtaoglkkdhdfioaaDoor
