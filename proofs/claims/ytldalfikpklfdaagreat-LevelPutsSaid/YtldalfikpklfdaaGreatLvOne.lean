/- What the level laws' one answers: true, of any two levels and any number. -/
import Derived.Test.YtldalfikpklfdaaGreatLvRuns
import Derived.Test.YtldalfikpklfdaaGreatLvRefSucc
import Derived.Test.YtldalfikpklfdaaGreatLvRefValue
import Derived.Test.YtldalfikpklfdaaGreatLvRight
import Derived.Test.YtldalfikpklfdaaGreatLvFacts
namespace Go.Proofs.YtldalfikpklfdaaGreat
open Go.RowKit Go.Maps
set_option maxRecDepth 100000 in
theorem enter_right (vs : Array Value) (w : World) : (callFunc 30 vs).run Tryz.prog w = .ok (.enter 30 vs) w := by go_simp
set_option maxRecDepth 100000 in
theorem enter_rright (vs : Array Value) (w : World) : (callFunc 31 vs).run Tryz.prog w = .ok (.enter 31 vs) w := by go_simp
set_option maxRecDepth 100000 in
theorem enter_rnorm (vs : Array Value) (w : World) : (callFunc 32 vs).run Tryz.prog w = .ok (.enter 32 vs) w := by go_simp
set_option maxRecDepth 100000 in
theorem enter_rsucc (vs : Array Value) (w : World) : (callFunc 33 vs).run Tryz.prog w = .ok (.enter 33 vs) w := by go_simp
set_option maxRecDepth 100000 in
theorem enter_rleq (vs : Array Value) (w : World) : (callFunc 34 vs).run Tryz.prog w = .ok (.enter 34 vs) w := by go_simp
set_option maxRecDepth 100000 in
theorem enter_rsame (vs : Array Value) (w : World) : (callFunc 35 vs).run Tryz.prog w = .ok (.enter 35 vs) w := by go_simp
set_option maxRecDepth 100000 in
theorem enter_num (vs : Array Value) (w : World) : (callFunc 24 vs).run Tryz.prog w = .ok (.enter 24 vs) w := by go_simp
set_option maxRecDepth 100000 in
theorem enter_rnum (vs : Array Value) (w : World) : (callFunc 36 vs).run Tryz.prog w = .ok (.enter 36 vs) w := by go_simp
set_option maxRecDepth 100000 in
theorem enter_var (vs : Array Value) (w : World) : (callFunc 23 vs).run Tryz.prog w = .ok (.enter 23 vs) w := by go_simp
set_option maxRecDepth 100000 in
theorem enter_rvar (vs : Array Value) (w : World) : (callFunc 37 vs).run Tryz.prog w = .ok (.enter 37 vs) w := by go_simp
end Go.Proofs.YtldalfikpklfdaaGreat
namespace Go.Proofs.YtldalfikpklfdaaGreat
open Go.RowKit Go.Maps

theorem cov_refl (p : Int × Int) : Cov p p := ⟨Int.le_refl _, Or.inr rfl⟩
theorem leqL_refl (ps : List (Int × Int)) : LeqL ps ps := fun p hp => ⟨p, hp, cov_refl p⟩
theorem sameA_iff (pa pb : List (Int × Int)) : SameA pa pb ↔ LeqL (nfA pa) (nfA pb) ∧ LeqL (nfA pb) (nfA pa) := by
  unfold SameA
  constructor
  · rintro (rfl | h)
    · exact ⟨leqL_refl _, leqL_refl _⟩
    · exact h
  · exact Or.inr
theorem prop_bool (P : Prop) : ∃ r : Bool, r = true ↔ P := by
  by_cases h : P
  · exact ⟨true, by simpa using h⟩
  · exact ⟨false, by simpa using h⟩
/-- a row of at most m parts has a succession of at most m parts and one -/
theorem succA_len (ps : List (Int × Int)) : (succA ps).length ≤ ps.length + 1 := by
  unfold succA
  split
  · have := nfA_len [(0, 1)]
    simp at this
    omega
  · have h1 := nfA_len ((nfA ps).map up1)
    have h2 := nfA_len ps
    rw [List.length_map] at h1
    omega

set_option maxRecDepth 100000 in
set_option maxHeartbeats 4000000 in
theorem one_any (Aa Ab : Option Addr) (pa pb : List (Int × Int)) (ca cb : Nat) (n : Int) (w : World) (hpa : pa.length ≤ 900) (hpb : pb.length ≤ 900) (ha : Lev w w.heap.size Aa pa) (hca : Aa = none → ca = 0) (hb : Lev w w.heap.size Ab pb) (hcb : Ab = none → cb = 0) :
    Calls Tryz.prog 10 #[.agg #[.slice Aa pa.length ca], .agg #[.slice Ab pb.length cb], .int .i64 n] w (HasPost w true) := by
  have hfd := field_parts
  obtain ⟨na, hna⟩ : ∃ k, pa.length = k := ⟨_, rfl⟩
  obtain ⟨nb, hnb⟩ : ∃ k, pb.length = k := ⟨_, rfl⟩
  rw [hna, hnb]
  obtain ⟨x1, x2, x3⟩ := two_allocs w (.cells #[.slice Aa na ca] 24) (.cells #[.slice Ab nb cb] 24)
  have hb0 : Below w.heap.size w ((w.alloc (.cells #[.slice Aa na ca] 24)).alloc (.cells #[.slice Ab nb cb] 24)) := ((Below.refl _ _).alloc (Nat.le_refl _) _).alloc (by simp) _
  have LA0 : LAt ((w.alloc (.cells #[.slice Aa na ca] 24)).alloc (.cells #[.slice Ab nb cb] 24)) Aa na ca pa := ⟨hna.symm, (ha.below hb0).more hb0.size, hca⟩
  have LB0 : LAt ((w.alloc (.cells #[.slice Aa na ca] 24)).alloc (.cells #[.slice Ab nb cb] 24)) Ab nb cb pb := ⟨hnb.symm, (hb.below hb0).more hb0.size, hcb⟩
  have f1 := cell_of_one x1
  have f2 := cell_of_one x2
  clear x1 x2 x3 ha hb hca hcb
  go_enter Tryz.func10, Tryz.ntmps10
  go_upto_region 1 with (fail)
  obtain ⟨w1, hw1⟩ : ∃ w1, (w.alloc (.cells #[.slice Aa na ca] 24)).alloc (.cells #[.slice Ab nb cb] 24) = w1 := ⟨_, rfl⟩
  rw [hw1] at hb0 LA0 LB0 f1 f2 ⊢
  clear hw1
  have LA := Lib.hid LA0
  have LB := Lib.hid LB0
  have HB0 := Lib.hid hb0
  have s1 := hb0.size
  clear LA0 LB0 hb0
  obtain ⟨qa, hqa⟩ : ∃ q, nfA pa = q := ⟨_, rfl⟩
  obtain ⟨nn, hnn⟩ : ∃ k, qa.length = k := ⟨_, rfl⟩
  obtain ⟨sa, hsa⟩ : ∃ q, succA pa = q := ⟨_, rfl⟩
  obtain ⟨ns, hns⟩ : ∃ k, sa.length = k := ⟨_, rfl⟩
  obtain ⟨qn, hqn⟩ : ∃ q, nfA [(0, n)] = q := ⟨_, rfl⟩
  obtain ⟨nq, hnq⟩ : ∃ k, qn.length = k := ⟨_, rfl⟩
  obtain ⟨qv, hqv⟩ : ∃ q, nfA [(n, 0)] = q := ⟨_, rfl⟩
  obtain ⟨nv, hnv⟩ : ∃ k, qv.length = k := ⟨_, rfl⟩
  have l1 : qa.length ≤ 900 := by have := nfA_len pa; rw [hqa] at this; omega
  have l2 : sa.length ≤ 901 := by have := succA_len pa; rw [hsa] at this; omega
  have l3 : qn.length ≤ 1 := by have := nfA_len [(0, n)]; rw [hqn] at this; simpa using this
  have l4 : qv.length ≤ 1 := by have := nfA_len [(n, 0)]; rw [hqv] at this; simpa using this
  obtain ⟨rr, hrr⟩ := prop_bool (RightS pa n)
  obtain ⟨lab, hlab⟩ := prop_bool (LeqL (nfA pa) (nfA pb))
  obtain ⟨lba, hlba⟩ := prop_bool (LeqL (nfA pb) (nfA pa))
  obtain ⟨sab, hsab⟩ := prop_bool (LeqL (nfA pa) (nfA pb) ∧ LeqL (nfA pb) (nfA pa))
  have C9 : Hid (∀ w', BoxL w1 [(w.heap.size, .slice Aa na ca), (w.heap.size + 1, .slice Ab nb cb)] w' → Calls Tryz.prog 30 #[.agg #[.slice Aa na ca], .int .i64 n] w' fun e w'' => e = .returned (.bool rr) ∧ Below w'.heap.size w' w'' ∧ BoxL w1 [(w.heap.size, .slice Aa na ca), (w.heap.size + 1, .slice Ab nb cb)] w'') := fun w' hx => by
    obtain ⟨a0, a1, a2⟩ := LA.out.step hx.1
    obtain ⟨b0, b1, b2⟩ := LB.out.step hx.1
    have h := right_any Aa pa ca n w' (by unfold maxLen; omega) a1 rr hrr
    rw [hna] at h
    exact h.mono fun _ _ h => ⟨h.1, h.2, hx.step h.2⟩
  have C12 : Hid (∀ w', BoxL w1 [(w.heap.size, .slice Aa na ca), (w.heap.size + 1, .slice Ab nb cb)] w' → Calls Tryz.prog 31 #[.agg #[.slice Aa na ca], .int .i64 n] w' fun e w'' => e = .returned (.bool rr) ∧ Below w'.heap.size w' w'' ∧ BoxL w1 [(w.heap.size, .slice Aa na ca), (w.heap.size + 1, .slice Ab nb cb)] w'') := fun w' hx => by
    obtain ⟨a0, a1, a2⟩ := LA.out.step hx.1
    obtain ⟨b0, b1, b2⟩ := LB.out.step hx.1
    have h := rright_any Aa pa ca n w' (by unfold maxLen; omega) a1 rr hrr
    rw [hna] at h
    exact h.mono fun _ _ h => ⟨h.1, h.2, hx.step h.2⟩
  have C31 : Hid (∀ w', BoxL w1 [(w.heap.size, .slice Aa na ca), (w.heap.size + 1, .slice Ab nb cb)] w' → Calls Tryz.prog 26 #[.agg #[.slice Aa na ca], .agg #[.slice Ab nb cb]] w' fun e w'' => e = .returned (.bool lab) ∧ Below w'.heap.size w' w'' ∧ BoxL w1 [(w.heap.size, .slice Aa na ca), (w.heap.size + 1, .slice Ab nb cb)] w'') := fun w' hx => by
    obtain ⟨a0, a1, a2⟩ := LA.out.step hx.1
    obtain ⟨b0, b1, b2⟩ := LB.out.step hx.1
    have h := leq_all Aa Ab pa pb ca cb w' (by unfold Few; omega) (by unfold Few; omega) a1 b1 a2 b2 lab hlab
    rw [hna, hnb] at h
    exact h.mono fun _ _ h => ⟨h.1, h.2, hx.step h.2⟩
  have C34 : Hid (∀ w', BoxL w1 [(w.heap.size, .slice Aa na ca), (w.heap.size + 1, .slice Ab nb cb)] w' → Calls Tryz.prog 34 #[.agg #[.slice Aa na ca], .agg #[.slice Ab nb cb]] w' fun e w'' => e = .returned (.bool lab) ∧ Below w'.heap.size w' w'' ∧ BoxL w1 [(w.heap.size, .slice Aa na ca), (w.heap.size + 1, .slice Ab nb cb)] w'') := fun w' hx => by
    obtain ⟨a0, a1, a2⟩ := LA.out.step hx.1
    obtain ⟨b0, b1, b2⟩ := LB.out.step hx.1
    have h := rleq_any Aa Ab pa pb ca cb w' (by omega) (by omega) a1 b1 a2 b2 lab hlab
    rw [hna, hnb] at h
    exact h.mono fun _ _ h => ⟨h.1, h.2, hx.step h.2⟩
  have C40 : Hid (∀ w', BoxL w1 [(w.heap.size, .slice Aa na ca), (w.heap.size + 1, .slice Ab nb cb)] w' → Calls Tryz.prog 26 #[.agg #[.slice Ab nb cb], .agg #[.slice Aa na ca]] w' fun e w'' => e = .returned (.bool lba) ∧ Below w'.heap.size w' w'' ∧ BoxL w1 [(w.heap.size, .slice Aa na ca), (w.heap.size + 1, .slice Ab nb cb)] w'') := fun w' hx => by
    obtain ⟨a0, a1, a2⟩ := LA.out.step hx.1
    obtain ⟨b0, b1, b2⟩ := LB.out.step hx.1
    have h := leq_all Ab Aa pb pa cb ca w' (by unfold Few; omega) (by unfold Few; omega) b1 a1 b2 a2 lba hlba
    rw [hna, hnb] at h
    exact h.mono fun _ _ h => ⟨h.1, h.2, hx.step h.2⟩
  have C43 : Hid (∀ w', BoxL w1 [(w.heap.size, .slice Aa na ca), (w.heap.size + 1, .slice Ab nb cb)] w' → Calls Tryz.prog 34 #[.agg #[.slice Ab nb cb], .agg #[.slice Aa na ca]] w' fun e w'' => e = .returned (.bool lba) ∧ Below w'.heap.size w' w'' ∧ BoxL w1 [(w.heap.size, .slice Aa na ca), (w.heap.size + 1, .slice Ab nb cb)] w'') := fun w' hx => by
    obtain ⟨a0, a1, a2⟩ := LA.out.step hx.1
    obtain ⟨b0, b1, b2⟩ := LB.out.step hx.1
    have h := rleq_any Ab Aa pb pa cb ca w' (by omega) (by omega) b1 a1 b2 a2 lba hlba
    rw [hna, hnb] at h
    exact h.mono fun _ _ h => ⟨h.1, h.2, hx.step h.2⟩
  have C49 : Hid (∀ w', BoxL w1 [(w.heap.size, .slice Aa na ca), (w.heap.size + 1, .slice Ab nb cb)] w' → Calls Tryz.prog 27 #[.agg #[.slice Aa na ca], .agg #[.slice Ab nb cb]] w' fun e w'' => e = .returned (.bool sab) ∧ Below w'.heap.size w' w'' ∧ BoxL w1 [(w.heap.size, .slice Aa na ca), (w.heap.size + 1, .slice Ab nb cb)] w'') := fun w' hx => by
    obtain ⟨a0, a1, a2⟩ := LA.out.step hx.1
    obtain ⟨b0, b1, b2⟩ := LB.out.step hx.1
    have h := lsame_all Aa Ab pa pb ca cb w' (by unfold Few; omega) (by unfold Few; omega) a1 b1 a2 b2 sab (hsab.trans (sameA_iff pa pb).symm)
    rw [hna, hnb] at h
    exact h.mono fun _ _ h => ⟨h.1, h.2, hx.step h.2⟩
  have C52 : Hid (∀ w', BoxL w1 [(w.heap.size, .slice Aa na ca), (w.heap.size + 1, .slice Ab nb cb)] w' → Calls Tryz.prog 35 #[.agg #[.slice Aa na ca], .agg #[.slice Ab nb cb]] w' fun e w'' => e = .returned (.bool sab) ∧ Below w'.heap.size w' w'' ∧ BoxL w1 [(w.heap.size, .slice Aa na ca), (w.heap.size + 1, .slice Ab nb cb)] w'') := fun w' hx => by
    obtain ⟨a0, a1, a2⟩ := LA.out.step hx.1
    obtain ⟨b0, b1, b2⟩ := LB.out.step hx.1
    have h := rsame_any Aa Ab pa pb ca cb w' (by omega) (by omega) a1 b1 a2 b2 sab hsab
    rw [hna, hnb] at h
    exact h.mono fun _ _ h => ⟨h.1, h.2, hx.step h.2⟩
  have C16 : Hid (∀ w', BoxL w1 [(w.heap.size, .slice Aa na ca), (w.heap.size + 1, .slice Ab nb cb)] w' → Calls Tryz.prog 8 #[.agg #[.slice Aa na ca]] w' fun e w'' => ∃ A c, e = .returned (.agg #[.slice A nn c]) ∧ LAt w'' A nn c qa ∧ Below w'.heap.size w' w'' ∧ BoxL w1 [(w.heap.size, .slice Aa na ca), (w.heap.size + 1, .slice Ab nb cb)] w'') := fun w' hx => by
    obtain ⟨a0, a1, a2⟩ := LA.out.step hx.1
    have h := norm_any Aa pa ca w' (by unfold Few; omega) a1 a2
    rw [hna] at h
    refine h.mono fun _ _ h => ?_
    obtain ⟨A, c, h1, h2, h3⟩ := h.lout
    rw [hqa, hnn] at h1 h2
    exact ⟨A, c, h1, h2, h3, hx.step h3⟩
  have C18 : Hid (∀ w', BoxL w1 [(w.heap.size, .slice Aa na ca), (w.heap.size + 1, .slice Ab nb cb)] w' → Calls Tryz.prog 32 #[.agg #[.slice Aa na ca]] w' fun e w'' => ∃ A c, e = .returned (.agg #[.slice A nn c]) ∧ LAt w'' A nn c qa ∧ Below w'.heap.size w' w'' ∧ BoxL w1 [(w.heap.size, .slice Aa na ca), (w.heap.size + 1, .slice Ab nb cb)] w'') := fun w' hx => by
    obtain ⟨a0, a1, a2⟩ := LA.out.step hx.1
    have h := rnorm_any Aa pa ca w' (by omega) a1 a2
    rw [hna] at h
    refine h.mono fun _ _ h => ?_
    obtain ⟨A, c, h1, h2, h3⟩ := h
    rw [hqa, hnn] at h1 h2
    exact ⟨A, c, h1, h2, h3, hx.step h3⟩
  have C23 : Hid (∀ w', BoxL w1 [(w.heap.size, .slice Aa na ca), (w.heap.size + 1, .slice Ab nb cb)] w' → Calls Tryz.prog 9 #[.agg #[.slice Aa na ca]] w' fun e w'' => ∃ A c, e = .returned (.agg #[.slice A ns c]) ∧ LAt w'' A ns c sa ∧ Below w'.heap.size w' w'' ∧ BoxL w1 [(w.heap.size, .slice Aa na ca), (w.heap.size + 1, .slice Ab nb cb)] w'') := fun w' hx => by
    obtain ⟨a0, a1, a2⟩ := LA.out.step hx.1
    have h := succ_all Aa pa ca w' (by unfold Few; omega) a1 a2
    rw [hna] at h
    refine h.mono fun _ _ h => ?_
    obtain ⟨A, c, h1, h2, h3⟩ := h.lout
    rw [hsa, hns] at h1 h2
    exact ⟨A, c, h1, h2, h3, hx.step h3⟩
  have C25 : Hid (∀ w', BoxL w1 [(w.heap.size, .slice Aa na ca), (w.heap.size + 1, .slice Ab nb cb)] w' → Calls Tryz.prog 33 #[.agg #[.slice Aa na ca]] w' fun e w'' => ∃ A c, e = .returned (.agg #[.slice A ns c]) ∧ LAt w'' A ns c sa ∧ Below w'.heap.size w' w'' ∧ BoxL w1 [(w.heap.size, .slice Aa na ca), (w.heap.size + 1, .slice Ab nb cb)] w'') := fun w' hx => by
    obtain ⟨a0, a1, a2⟩ := LA.out.step hx.1
    have h := rsucc_any Aa pa ca w' (by omega) a1 a2
    rw [hna] at h
    refine h.mono fun _ _ h => ?_
    obtain ⟨A, c, h1, h2, h3⟩ := h
    rw [hsa, hns] at h1 h2
    exact ⟨A, c, h1, h2, h3, hx.step h3⟩
  have C57 : Hid (∀ w', BoxL w1 [(w.heap.size, .slice Aa na ca), (w.heap.size + 1, .slice Ab nb cb)] w' → Calls Tryz.prog 24 #[.int .i64 n] w' fun e w'' => ∃ A c, e = .returned (.agg #[.slice A nq c]) ∧ LAt w'' A nq c qn ∧ Below w'.heap.size w' w'' ∧ BoxL w1 [(w.heap.size, .slice Aa na ca), (w.heap.size + 1, .slice Ab nb cb)] w'') := fun w' hx => by
    obtain ⟨a0, a1, a2⟩ := LA.out.step hx.1
    have h := num_all n w'
    skip
    refine h.mono fun _ _ h => ?_
    obtain ⟨A, c, h1, h2, h3⟩ := h.lout
    rw [hqn, hnq] at h1 h2
    exact ⟨A, c, h1, h2, h3, hx.step h3⟩
  have C59 : Hid (∀ w', BoxL w1 [(w.heap.size, .slice Aa na ca), (w.heap.size + 1, .slice Ab nb cb)] w' → Calls Tryz.prog 36 #[.int .i64 n] w' fun e w'' => ∃ A c, e = .returned (.agg #[.slice A nq c]) ∧ LAt w'' A nq c qn ∧ Below w'.heap.size w' w'' ∧ BoxL w1 [(w.heap.size, .slice Aa na ca), (w.heap.size + 1, .slice Ab nb cb)] w'') := fun w' hx => by
    obtain ⟨a0, a1, a2⟩ := LA.out.step hx.1
    have h := rnum_any n w'
    skip
    refine h.mono fun _ _ h => ?_
    obtain ⟨A, c, h1, h2, h3⟩ := h
    rw [hqn, hnq] at h1 h2
    exact ⟨A, c, h1, h2, h3, hx.step h3⟩
  have C64 : Hid (∀ w', BoxL w1 [(w.heap.size, .slice Aa na ca), (w.heap.size + 1, .slice Ab nb cb)] w' → Calls Tryz.prog 23 #[.int .i64 n] w' fun e w'' => ∃ A c, e = .returned (.agg #[.slice A nv c]) ∧ LAt w'' A nv c qv ∧ Below w'.heap.size w' w'' ∧ BoxL w1 [(w.heap.size, .slice Aa na ca), (w.heap.size + 1, .slice Ab nb cb)] w'') := fun w' hx => by
    obtain ⟨a0, a1, a2⟩ := LA.out.step hx.1
    have h := var_all n w'
    skip
    refine h.mono fun _ _ h => ?_
    obtain ⟨A, c, h1, h2, h3⟩ := h.lout
    rw [hqv, hnv] at h1 h2
    exact ⟨A, c, h1, h2, h3, hx.step h3⟩
  have C66 : Hid (∀ w', BoxL w1 [(w.heap.size, .slice Aa na ca), (w.heap.size + 1, .slice Ab nb cb)] w' → Calls Tryz.prog 37 #[.int .i64 n] w' fun e w'' => ∃ A c, e = .returned (.agg #[.slice A nv c]) ∧ LAt w'' A nv c qv ∧ Below w'.heap.size w' w'' ∧ BoxL w1 [(w.heap.size, .slice Aa na ca), (w.heap.size + 1, .slice Ab nb cb)] w'') := fun w' hx => by
    obtain ⟨a0, a1, a2⟩ := LA.out.step hx.1
    have h := rvar_any n w'
    skip
    refine h.mono fun _ _ h => ?_
    obtain ⟨A, c, h1, h2, h3⟩ := h
    rw [hqv, hnv] at h1 h2
    exact ⟨A, c, h1, h2, h3, hx.step h3⟩
  have CS : Hid (∀ (A A' : Option Addr) (k c c' : Nat) (q : List (Int × Int)) w', q.length ≤ 901 → LAt w' A k c q → LAt w' A' k c' q → BoxL w1 [(w.heap.size, .slice Aa na ca), (w.heap.size + 1, .slice Ab nb cb)] w' → Calls Tryz.prog 16 #[.agg #[.slice A k c], .agg #[.slice A' k c']] w' fun e w'' => e = .returned (.bool true) ∧ Below w'.heap.size w' w'' ∧ BoxL w1 [(w.heap.size, .slice Aa na ca), (w.heap.size + 1, .slice Ab nb cb)] w'') := fun A A' k c c' q w' hl h1 h2 hx => by
    obtain ⟨rfl, h3, _⟩ := h1
    obtain ⟨_, h4, _⟩ := h2
    exact (same_any A A' q q c c' w' (by unfold maxLen; omega) (by unfold maxLen; omega) h3 h4 true ⟨fun _ => rfl, fun _ => rfl⟩).mono fun _ _ h => ⟨h.1, h.2, hx.step h.2⟩
  have hS : BoxL w1 [(w.heap.size, .slice Aa na ca), (w.heap.size + 1, .slice Ab nb cb)] w1.drew := BoxL.drew (by simp only [List.mem_cons, List.not_mem_nil, or_false, forall_eq_or_imp, forall_eq]; exact ⟨f1, f2⟩)
  have m1 : qa.length ≤ 901 := by omega
  have m3 : qn.length ≤ 901 := by omega
  have m4 : qv.length ≤ 901 := by omega
  clear f1 f2 hrr hlab hlba hsab hqa hnn hsa hns hqn hnq hqv hnv hna hnb
  refine wp_region_tab (fun w' => BoxL w1 [(w.heap.size, .slice Aa na ca), (w.heap.size + 1, .slice Ab nb cb)] w') (fun w1 w2 : World => Below w1.heap.size w1 w2) [(fun (x : Value) (_ : World) => x = (.agg #[.slice Aa na ca] : Value)), (fun (x : Value) (_ : World) => x = (.int .i64 n : Value)), (fun (x : Value) (_ : World) => x = (.bool rr : Value)), (fun (x : Value) (_ : World) => x = (.agg #[.slice Aa na ca] : Value)), (fun (x : Value) (_ : World) => x = (.int .i64 n : Value)), (fun (x : Value) (_ : World) => x = (.bool rr : Value)), (fun (x : Value) (_ : World) => x = (.bool true : Value)), (fun (x : Value) (_ : World) => x = (.bool true : Value)), (fun (x : Value) (_ : World) => x = (.agg #[.slice Aa na ca] : Value)), (fun (x : Value) (w : World) => ∃ A c, x = .agg #[.slice A nn c] ∧ LAt w A nn c qa), (fun (x : Value) (_ : World) => x = (.agg #[.slice Aa na ca] : Value)), (fun (x : Value) (w : World) => ∃ A c, x = .agg #[.slice A nn c] ∧ LAt w A nn c qa), (fun (x : Value) (_ : World) => x = (.bool true : Value)), (fun (x : Value) (_ : World) => x = (.bool true : Value)), (fun (x : Value) (_ : World) => x = (.bool true : Value)), (fun (x : Value) (_ : World) => x = (.agg #[.slice Aa na ca] : Value)), (fun (x : Value) (w : World) => ∃ A c, x = .agg #[.slice A ns c] ∧ LAt w A ns c sa), (fun (x : Value) (_ : World) => x = (.agg #[.slice Aa na ca] : Value)), (fun (x : Value) (w : World) => ∃ A c, x = .agg #[.slice A ns c] ∧ LAt w A ns c sa), (fun (x : Value) (_ : World) => x = (.bool true : Value)), (fun (x : Value) (_ : World) => x = (.bool true : Value)), (fun (x : Value) (_ : World) => x = (.bool true : Value)), (fun (x : Value) (_ : World) => x = (.agg #[.slice Aa na ca] : Value)), (fun (x : Value) (_ : World) => x = (.agg #[.slice Ab nb cb] : Value)), (fun (x : Value) (_ : World) => x = (.bool lab : Value)), (fun (x : Value) (_ : World) => x = (.agg #[.slice Aa na ca] : Value)), (fun (x : Value) (_ : World) => x = (.agg #[.slice Ab nb cb] : Value)), (fun (x : Value) (_ : World) => x = (.bool lab : Value)), (fun (x : Value) (_ : World) => x = (.bool true : Value)), (fun (x : Value) (_ : World) => x = (.bool true : Value)), (fun (x : Value) (_ : World) => x = (.bool true : Value)), (fun (x : Value) (_ : World) => x = (.agg #[.slice Ab nb cb] : Value)), (fun (x : Value) (_ : World) => x = (.agg #[.slice Aa na ca] : Value)), (fun (x : Value) (_ : World) => x = (.bool lba : Value)), (fun (x : Value) (_ : World) => x = (.agg #[.slice Ab nb cb] : Value)), (fun (x : Value) (_ : World) => x = (.agg #[.slice Aa na ca] : Value)), (fun (x : Value) (_ : World) => x = (.bool lba : Value)), (fun (x : Value) (_ : World) => x = (.bool true : Value)), (fun (x : Value) (_ : World) => x = (.bool true : Value)), (fun (x : Value) (_ : World) => x = (.bool true : Value)), (fun (x : Value) (_ : World) => x = (.agg #[.slice Aa na ca] : Value)), (fun (x : Value) (_ : World) => x = (.agg #[.slice Ab nb cb] : Value)), (fun (x : Value) (_ : World) => x = (.bool sab : Value)), (fun (x : Value) (_ : World) => x = (.agg #[.slice Aa na ca] : Value)), (fun (x : Value) (_ : World) => x = (.agg #[.slice Ab nb cb] : Value)), (fun (x : Value) (_ : World) => x = (.bool sab : Value)), (fun (x : Value) (_ : World) => x = (.bool true : Value)), (fun (x : Value) (_ : World) => x = (.bool true : Value)), (fun (x : Value) (_ : World) => x = (.bool true : Value)), (fun (x : Value) (_ : World) => x = (.int .i64 n : Value)), (fun (x : Value) (w : World) => ∃ A c, x = .agg #[.slice A nq c] ∧ LAt w A nq c qn), (fun (x : Value) (_ : World) => x = (.int .i64 n : Value)), (fun (x : Value) (w : World) => ∃ A c, x = .agg #[.slice A nq c] ∧ LAt w A nq c qn), (fun (x : Value) (_ : World) => x = (.bool true : Value)), (fun (x : Value) (_ : World) => x = (.bool true : Value)), (fun (x : Value) (_ : World) => x = (.bool true : Value)), (fun (x : Value) (_ : World) => x = (.int .i64 n : Value)), (fun (x : Value) (w : World) => ∃ A c, x = .agg #[.slice A nv c] ∧ LAt w A nv c qv), (fun (x : Value) (_ : World) => x = (.int .i64 n : Value)), (fun (x : Value) (w : World) => ∃ A c, x = .agg #[.slice A nv c] ∧ LAt w A nv c qv), (fun (x : Value) (_ : World) => x = (.bool true : Value)), (fun (x : Value) (_ : World) => x = (.bool true : Value)), (fun (x : Value) (_ : World) => x = (.bool true : Value))] [⟨some 7, .load 24 (.tmp 3), none, []⟩, ⟨some 8, .move (.tmp 2), none, []⟩, ⟨some 9, .call { callee := .value (.func 30), args := #[.tmp 7, .tmp 8], argTypes := #[24, 3] }, none, [(7, 0), (8, 1)]⟩, ⟨some 10, .load 24 (.tmp 3), none, []⟩, ⟨some 11, .move (.tmp 2), none, []⟩, ⟨some 12, .call { callee := .value (.func 31), args := #[.tmp 10, .tmp 11], argTypes := #[24, 3] }, none, [(10, 3), (11, 4)]⟩, ⟨some 13, .binOp .eql 4 (.tmp 9) (.tmp 12) 4, none, [(9, 2), (12, 5)]⟩, ⟨some 14, .move (.tmp 13), none, [(13, 6)]⟩, ⟨some 15, .load 24 (.tmp 3), some (some 14, true), [(14, 7)]⟩, ⟨some 16, .call { callee := .value (.func 8), args := #[.tmp 15], argTypes := #[24] }, some (some 14, true), [(14, 7), (15, 8)]⟩, ⟨some 17, .load 24 (.tmp 3), some (some 14, true), [(14, 7)]⟩, ⟨some 18, .call { callee := .value (.func 32), args := #[.tmp 17], argTypes := #[24] }, some (some 14, true), [(14, 7), (17, 10)]⟩, ⟨some 19, .call { callee := .value (.func 16), args := #[.tmp 16, .tmp 18], argTypes := #[24, 24] }, some (some 14, true), [(14, 7), (16, 9), (18, 11)]⟩, ⟨some 20, .pick (.tmp 14) (.tmp 19) (.const (Value.bool false)), none, [(14, 7), (19, 12)]⟩, ⟨some 21, .move (.tmp 20), none, [(20, 13)]⟩, ⟨some 22, .load 24 (.tmp 3), some (some 21, true), [(21, 14)]⟩, ⟨some 23, .call { callee := .value (.func 9), args := #[.tmp 22], argTypes := #[24] }, some (some 21, true), [(21, 14), (22, 15)]⟩, ⟨some 24, .load 24 (.tmp 3), some (some 21, true), [(21, 14)]⟩, ⟨some 25, .call { callee := .value (.func 33), args := #[.tmp 24], argTypes := #[24] }, some (some 21, true), [(21, 14), (24, 17)]⟩, ⟨some 26, .call { callee := .value (.func 16), args := #[.tmp 23, .tmp 25], argTypes := #[24, 24] }, some (some 21, true), [(21, 14), (23, 16), (25, 18)]⟩, ⟨some 27, .pick (.tmp 21) (.tmp 26) (.const (Value.bool false)), none, [(21, 14), (26, 19)]⟩, ⟨some 28, .move (.tmp 27), none, [(27, 20)]⟩, ⟨some 29, .load 24 (.tmp 3), some (some 28, true), [(28, 21)]⟩, ⟨some 30, .load 24 (.tmp 4), some (some 28, true), [(28, 21)]⟩, ⟨some 31, .call { callee := .value (.func 26), args := #[.tmp 29, .tmp 30], argTypes := #[24, 24] }, some (some 28, true), [(28, 21), (29, 22), (30, 23)]⟩, ⟨some 32, .load 24 (.tmp 3), some (some 28, true), [(28, 21)]⟩, ⟨some 33, .load 24 (.tmp 4), some (some 28, true), [(28, 21)]⟩, ⟨some 34, .call { callee := .value (.func 34), args := #[.tmp 32, .tmp 33], argTypes := #[24, 24] }, some (some 28, true), [(28, 21), (32, 25), (33, 26)]⟩, ⟨some 35, .binOp .eql 4 (.tmp 31) (.tmp 34) 4, some (some 28, true), [(28, 21), (31, 24), (34, 27)]⟩, ⟨some 36, .pick (.tmp 28) (.tmp 35) (.const (Value.bool false)), none, [(28, 21), (35, 28)]⟩, ⟨some 37, .move (.tmp 36), none, [(36, 29)]⟩, ⟨some 38, .load 24 (.tmp 4), some (some 37, true), [(37, 30)]⟩, ⟨some 39, .load 24 (.tmp 3), some (some 37, true), [(37, 30)]⟩, ⟨some 40, .call { callee := .value (.func 26), args := #[.tmp 38, .tmp 39], argTypes := #[24, 24] }, some (some 37, true), [(37, 30), (38, 31), (39, 32)]⟩, ⟨some 41, .load 24 (.tmp 4), some (some 37, true), [(37, 30)]⟩, ⟨some 42, .load 24 (.tmp 3), some (some 37, true), [(37, 30)]⟩, ⟨some 43, .call { callee := .value (.func 34), args := #[.tmp 41, .tmp 42], argTypes := #[24, 24] }, some (some 37, true), [(37, 30), (41, 34), (42, 35)]⟩, ⟨some 44, .binOp .eql 4 (.tmp 40) (.tmp 43) 4, some (some 37, true), [(37, 30), (40, 33), (43, 36)]⟩, ⟨some 45, .pick (.tmp 37) (.tmp 44) (.const (Value.bool false)), none, [(37, 30), (44, 37)]⟩, ⟨some 46, .move (.tmp 45), none, [(45, 38)]⟩, ⟨some 47, .load 24 (.tmp 3), some (some 46, true), [(46, 39)]⟩, ⟨some 48, .load 24 (.tmp 4), some (some 46, true), [(46, 39)]⟩, ⟨some 49, .call { callee := .value (.func 27), args := #[.tmp 47, .tmp 48], argTypes := #[24, 24] }, some (some 46, true), [(46, 39), (47, 40), (48, 41)]⟩, ⟨some 50, .load 24 (.tmp 3), some (some 46, true), [(46, 39)]⟩, ⟨some 51, .load 24 (.tmp 4), some (some 46, true), [(46, 39)]⟩, ⟨some 52, .call { callee := .value (.func 35), args := #[.tmp 50, .tmp 51], argTypes := #[24, 24] }, some (some 46, true), [(46, 39), (50, 43), (51, 44)]⟩, ⟨some 53, .binOp .eql 4 (.tmp 49) (.tmp 52) 4, some (some 46, true), [(46, 39), (49, 42), (52, 45)]⟩, ⟨some 54, .pick (.tmp 46) (.tmp 53) (.const (Value.bool false)), none, [(46, 39), (53, 46)]⟩, ⟨some 55, .move (.tmp 54), none, [(54, 47)]⟩, ⟨some 56, .move (.tmp 2), some (some 55, true), [(55, 48)]⟩, ⟨some 57, .call { callee := .value (.func 24), args := #[.tmp 56], argTypes := #[3] }, some (some 55, true), [(55, 48), (56, 49)]⟩, ⟨some 58, .move (.tmp 2), some (some 55, true), [(55, 48)]⟩, ⟨some 59, .call { callee := .value (.func 36), args := #[.tmp 58], argTypes := #[3] }, some (some 55, true), [(55, 48), (58, 51)]⟩, ⟨some 60, .call { callee := .value (.func 16), args := #[.tmp 57, .tmp 59], argTypes := #[24, 24] }, some (some 55, true), [(55, 48), (57, 50), (59, 52)]⟩, ⟨some 61, .pick (.tmp 55) (.tmp 60) (.const (Value.bool false)), none, [(55, 48), (60, 53)]⟩, ⟨some 62, .move (.tmp 61), none, [(61, 54)]⟩, ⟨some 63, .move (.tmp 2), some (some 62, true), [(62, 55)]⟩, ⟨some 64, .call { callee := .value (.func 23), args := #[.tmp 63], argTypes := #[3] }, some (some 62, true), [(62, 55), (63, 56)]⟩, ⟨some 65, .move (.tmp 2), some (some 62, true), [(62, 55)]⟩, ⟨some 66, .call { callee := .value (.func 37), args := #[.tmp 65], argTypes := #[3] }, some (some 62, true), [(62, 55), (65, 58)]⟩, ⟨some 67, .call { callee := .value (.func 16), args := #[.tmp 64, .tmp 66], argTypes := #[24, 24] }, some (some 62, true), [(62, 55), (64, 57), (66, 59)]⟩, ⟨some 68, .pick (.tmp 62) (.tmp 67) (.const (Value.bool false)), none, [(62, 55), (67, 60)]⟩, ⟨some 6, .assign (.tmp 68), none, [(68, 61)]⟩] [some 7, some 8, some 9, some 10, some 11, some 12, some 13, some 14, some 15, some 16, some 17, some 18, some 19, some 20, some 21, some 22, some 23, some 24, some 25, some 26, some 27, some 28, some 29, some 30, some 31, some 32, some 33, some 34, some 35, some 36, some 37, some 38, some 39, some 40, some 41, some 42, some 43, some 44, some 45, some 46, some 47, some 48, some 49, some 50, some 51, some 52, some 53, some 54, some 55, some 56, some 57, some 58, some 59, some 60, some 61, some 62, some 63, some 64, some 65, some 66, some 67, some 68, some 6] (by kernel_rfl) (by kernel_rfl) (by kernel_rfl) (by kernel_rfl) (by kernel_rfl) ?hS ?hmono ?hsteps ?hfin
  case hS => exact hS
  case hmono =>
    refine MonoL.cons (fun x w1 w2 _ _ _ hx => hx) ?_
    refine MonoL.cons (fun x w1 w2 _ _ _ hx => hx) ?_
    refine MonoL.cons (fun x w1 w2 _ _ _ hx => hx) ?_
    refine MonoL.cons (fun x w1 w2 _ _ _ hx => hx) ?_
    refine MonoL.cons (fun x w1 w2 _ _ _ hx => hx) ?_
    refine MonoL.cons (fun x w1 w2 _ _ _ hx => hx) ?_
    refine MonoL.cons (fun x w1 w2 _ _ _ hx => hx) ?_
    refine MonoL.cons (fun x w1 w2 _ _ _ hx => hx) ?_
    refine MonoL.cons (fun x w1 w2 _ _ _ hx => hx) ?_
    refine MonoL.cons (fun x w1 w2 _ _ hR hx => ?_) ?_
    · obtain ⟨A, c, rfl, h⟩ := hx; exact ⟨A, c, rfl, h.step hR⟩
    refine MonoL.cons (fun x w1 w2 _ _ _ hx => hx) ?_
    refine MonoL.cons (fun x w1 w2 _ _ hR hx => ?_) ?_
    · obtain ⟨A, c, rfl, h⟩ := hx; exact ⟨A, c, rfl, h.step hR⟩
    refine MonoL.cons (fun x w1 w2 _ _ _ hx => hx) ?_
    refine MonoL.cons (fun x w1 w2 _ _ _ hx => hx) ?_
    refine MonoL.cons (fun x w1 w2 _ _ _ hx => hx) ?_
    refine MonoL.cons (fun x w1 w2 _ _ _ hx => hx) ?_
    refine MonoL.cons (fun x w1 w2 _ _ hR hx => ?_) ?_
    · obtain ⟨A, c, rfl, h⟩ := hx; exact ⟨A, c, rfl, h.step hR⟩
    refine MonoL.cons (fun x w1 w2 _ _ _ hx => hx) ?_
    refine MonoL.cons (fun x w1 w2 _ _ hR hx => ?_) ?_
    · obtain ⟨A, c, rfl, h⟩ := hx; exact ⟨A, c, rfl, h.step hR⟩
    refine MonoL.cons (fun x w1 w2 _ _ _ hx => hx) ?_
    refine MonoL.cons (fun x w1 w2 _ _ _ hx => hx) ?_
    refine MonoL.cons (fun x w1 w2 _ _ _ hx => hx) ?_
    refine MonoL.cons (fun x w1 w2 _ _ _ hx => hx) ?_
    refine MonoL.cons (fun x w1 w2 _ _ _ hx => hx) ?_
    refine MonoL.cons (fun x w1 w2 _ _ _ hx => hx) ?_
    refine MonoL.cons (fun x w1 w2 _ _ _ hx => hx) ?_
    refine MonoL.cons (fun x w1 w2 _ _ _ hx => hx) ?_
    refine MonoL.cons (fun x w1 w2 _ _ _ hx => hx) ?_
    refine MonoL.cons (fun x w1 w2 _ _ _ hx => hx) ?_
    refine MonoL.cons (fun x w1 w2 _ _ _ hx => hx) ?_
    refine MonoL.cons (fun x w1 w2 _ _ _ hx => hx) ?_
    refine MonoL.cons (fun x w1 w2 _ _ _ hx => hx) ?_
    refine MonoL.cons (fun x w1 w2 _ _ _ hx => hx) ?_
    refine MonoL.cons (fun x w1 w2 _ _ _ hx => hx) ?_
    refine MonoL.cons (fun x w1 w2 _ _ _ hx => hx) ?_
    refine MonoL.cons (fun x w1 w2 _ _ _ hx => hx) ?_
    refine MonoL.cons (fun x w1 w2 _ _ _ hx => hx) ?_
    refine MonoL.cons (fun x w1 w2 _ _ _ hx => hx) ?_
    refine MonoL.cons (fun x w1 w2 _ _ _ hx => hx) ?_
    refine MonoL.cons (fun x w1 w2 _ _ _ hx => hx) ?_
    refine MonoL.cons (fun x w1 w2 _ _ _ hx => hx) ?_
    refine MonoL.cons (fun x w1 w2 _ _ _ hx => hx) ?_
    refine MonoL.cons (fun x w1 w2 _ _ _ hx => hx) ?_
    refine MonoL.cons (fun x w1 w2 _ _ _ hx => hx) ?_
    refine MonoL.cons (fun x w1 w2 _ _ _ hx => hx) ?_
    refine MonoL.cons (fun x w1 w2 _ _ _ hx => hx) ?_
    refine MonoL.cons (fun x w1 w2 _ _ _ hx => hx) ?_
    refine MonoL.cons (fun x w1 w2 _ _ _ hx => hx) ?_
    refine MonoL.cons (fun x w1 w2 _ _ _ hx => hx) ?_
    refine MonoL.cons (fun x w1 w2 _ _ _ hx => hx) ?_
    refine MonoL.cons (fun x w1 w2 _ _ hR hx => ?_) ?_
    · obtain ⟨A, c, rfl, h⟩ := hx; exact ⟨A, c, rfl, h.step hR⟩
    refine MonoL.cons (fun x w1 w2 _ _ _ hx => hx) ?_
    refine MonoL.cons (fun x w1 w2 _ _ hR hx => ?_) ?_
    · obtain ⟨A, c, rfl, h⟩ := hx; exact ⟨A, c, rfl, h.step hR⟩
    refine MonoL.cons (fun x w1 w2 _ _ _ hx => hx) ?_
    refine MonoL.cons (fun x w1 w2 _ _ _ hx => hx) ?_
    refine MonoL.cons (fun x w1 w2 _ _ _ hx => hx) ?_
    refine MonoL.cons (fun x w1 w2 _ _ _ hx => hx) ?_
    refine MonoL.cons (fun x w1 w2 _ _ hR hx => ?_) ?_
    · obtain ⟨A, c, rfl, h⟩ := hx; exact ⟨A, c, rfl, h.step hR⟩
    refine MonoL.cons (fun x w1 w2 _ _ _ hx => hx) ?_
    refine MonoL.cons (fun x w1 w2 _ _ hR hx => ?_) ?_
    · obtain ⟨A, c, rfl, h⟩ := hx; exact ⟨A, c, rfl, h.step hR⟩
    refine MonoL.cons (fun x w1 w2 _ _ _ hx => hx) ?_
    refine MonoL.cons (fun x w1 w2 _ _ _ hx => hx) ?_
    refine MonoL.cons (fun x w1 w2 _ _ _ hx => hx) ?_
    exact MonoL.nil
  case hsteps =>
    refine StepsT.cons (fun (x : Value) (_ : World) => x = (.agg #[.slice Aa na ca] : Value)) [] rfl rfl (fun oq hop _ wq hQS => ?_) ?_
    · skip
      exact StepFrom.load hop (by kernel_rfl) (load_level (hQS.2 (w.heap.size, .slice Aa na ca) (by simp))) (by kernel_rfl) hQS (Below.refl _ _) rfl
    refine StepsT.cons (fun (x : Value) (_ : World) => x = (.int .i64 n : Value)) [] rfl rfl (fun oq hop _ wq hQS => ?_) ?_
    · exact StepFrom.move hop (v := (.int .i64 n : Value)) (by kernel_rfl) (by kernel_rfl) hQS (Below.refl _ _) rfl
    refine StepsT.cons (fun (x : Value) (_ : World) => x = (.bool rr : Value)) [(7, (fun (x : Value) (_ : World) => x = (.agg #[.slice Aa na ca] : Value))), (8, (fun (x : Value) (_ : World) => x = (.int .i64 n : Value)))] rfl rfl (fun oq hop _ wq hQS => ?_) ?_
    · refine StepFrom.more_eq ((.agg #[.slice Aa na ca] : Value)) ?_
      refine StepFrom.more_eq ((.int .i64 n : Value)) ?_
      exact StepFrom.call hop (vs := [(.agg #[.slice Aa na ca] : Value), (.int .i64 n : Value)]) (by kernel_rfl) (fun w => enter_right _ w) (by kernel_rfl) ((C9.out _ hQS).mono fun e w2 h => ⟨_, h.1, h.2.2, h.2.1, rfl⟩)
    refine StepsT.cons (fun (x : Value) (_ : World) => x = (.agg #[.slice Aa na ca] : Value)) [] rfl rfl (fun oq hop _ wq hQS => ?_) ?_
    · skip
      exact StepFrom.load hop (by kernel_rfl) (load_level (hQS.2 (w.heap.size, .slice Aa na ca) (by simp))) (by kernel_rfl) hQS (Below.refl _ _) rfl
    refine StepsT.cons (fun (x : Value) (_ : World) => x = (.int .i64 n : Value)) [] rfl rfl (fun oq hop _ wq hQS => ?_) ?_
    · exact StepFrom.move hop (v := (.int .i64 n : Value)) (by kernel_rfl) (by kernel_rfl) hQS (Below.refl _ _) rfl
    refine StepsT.cons (fun (x : Value) (_ : World) => x = (.bool rr : Value)) [(10, (fun (x : Value) (_ : World) => x = (.agg #[.slice Aa na ca] : Value))), (11, (fun (x : Value) (_ : World) => x = (.int .i64 n : Value)))] rfl rfl (fun oq hop _ wq hQS => ?_) ?_
    · refine StepFrom.more_eq ((.agg #[.slice Aa na ca] : Value)) ?_
      refine StepFrom.more_eq ((.int .i64 n : Value)) ?_
      exact StepFrom.call hop (vs := [(.agg #[.slice Aa na ca] : Value), (.int .i64 n : Value)]) (by kernel_rfl) (fun w => enter_rright _ w) (by kernel_rfl) ((C12.out _ hQS).mono fun e w2 h => ⟨_, h.1, h.2.2, h.2.1, rfl⟩)
    refine StepsT.cons (fun (x : Value) (_ : World) => x = (.bool true : Value)) [(9, (fun (x : Value) (_ : World) => x = (.bool rr : Value))), (12, (fun (x : Value) (_ : World) => x = (.bool rr : Value)))] rfl rfl (fun oq hop _ wq hQS => ?_) ?_
    · refine StepFrom.more_eq ((.bool rr : Value)) ?_
      refine StepFrom.more_eq ((.bool rr : Value)) ?_
      exact StepFrom.bin hop (vx := (.bool rr : Value)) (vy := (.bool rr : Value)) (by kernel_rfl) (by kernel_rfl) (eql_bool _ _ _ _ _) (by kernel_rfl) hQS (Below.refl _ _) (by cases rr <;> rfl)
    refine StepsT.cons (fun (x : Value) (_ : World) => x = (.bool true : Value)) [(13, (fun (x : Value) (_ : World) => x = (.bool true : Value)))] rfl rfl (fun oq hop _ wq hQS => ?_) ?_
    · refine StepFrom.more_eq ((.bool true : Value)) ?_
      exact StepFrom.move hop (v := (.bool true : Value)) (by kernel_rfl) (by kernel_rfl) hQS (Below.refl _ _) rfl
    refine StepsT.cons (fun (x : Value) (_ : World) => x = (.agg #[.slice Aa na ca] : Value)) [(14, (fun (x : Value) (_ : World) => x = (.bool true : Value)))] rfl rfl (fun oq hop _ wq hQS => ?_) ?_
    · refine StepFrom.more_eq ((.bool true : Value)) ?_
      skip
      exact StepFrom.load hop (by kernel_rfl) (load_level (hQS.2 (w.heap.size, .slice Aa na ca) (by simp))) (by kernel_rfl) hQS (Below.refl _ _) rfl
    refine StepsT.cons (fun (x : Value) (w : World) => ∃ A c, x = .agg #[.slice A nn c] ∧ LAt w A nn c qa) [(14, (fun (x : Value) (_ : World) => x = (.bool true : Value))), (15, (fun (x : Value) (_ : World) => x = (.agg #[.slice Aa na ca] : Value)))] rfl rfl (fun oq hop _ wq hQS => ?_) ?_
    · refine StepFrom.more_eq ((.bool true : Value)) ?_
      refine StepFrom.more_eq ((.agg #[.slice Aa na ca] : Value)) ?_
      exact StepFrom.call hop (vs := [(.agg #[.slice Aa na ca] : Value)]) (by kernel_rfl) (fun w => enter_norm _ w) (by kernel_rfl) ((C16.out _ hQS).mono fun e w2 ⟨A, c, h1, h2, h3, h4⟩ => ⟨_, h1, h4, h3, A, c, rfl, h2⟩)
    refine StepsT.cons (fun (x : Value) (_ : World) => x = (.agg #[.slice Aa na ca] : Value)) [(14, (fun (x : Value) (_ : World) => x = (.bool true : Value)))] rfl rfl (fun oq hop _ wq hQS => ?_) ?_
    · refine StepFrom.more_eq ((.bool true : Value)) ?_
      skip
      exact StepFrom.load hop (by kernel_rfl) (load_level (hQS.2 (w.heap.size, .slice Aa na ca) (by simp))) (by kernel_rfl) hQS (Below.refl _ _) rfl
    refine StepsT.cons (fun (x : Value) (w : World) => ∃ A c, x = .agg #[.slice A nn c] ∧ LAt w A nn c qa) [(14, (fun (x : Value) (_ : World) => x = (.bool true : Value))), (17, (fun (x : Value) (_ : World) => x = (.agg #[.slice Aa na ca] : Value)))] rfl rfl (fun oq hop _ wq hQS => ?_) ?_
    · refine StepFrom.more_eq ((.bool true : Value)) ?_
      refine StepFrom.more_eq ((.agg #[.slice Aa na ca] : Value)) ?_
      exact StepFrom.call hop (vs := [(.agg #[.slice Aa na ca] : Value)]) (by kernel_rfl) (fun w => enter_rnorm _ w) (by kernel_rfl) ((C18.out _ hQS).mono fun e w2 ⟨A, c, h1, h2, h3, h4⟩ => ⟨_, h1, h4, h3, A, c, rfl, h2⟩)
    refine StepsT.cons (fun (x : Value) (_ : World) => x = (.bool true : Value)) [(14, (fun (x : Value) (_ : World) => x = (.bool true : Value))), (16, (fun (x : Value) (w : World) => ∃ A c, x = .agg #[.slice A nn c] ∧ LAt w A nn c qa)), (18, (fun (x : Value) (w : World) => ∃ A c, x = .agg #[.slice A nn c] ∧ LAt w A nn c qa))] rfl rfl (fun oq hop _ wq hQS => ?_) ?_
    · refine StepFrom.more_eq ((.bool true : Value)) ?_
      refine StepFrom.more fun x16 h16 => ?_
      obtain ⟨A16, c16, rfl, hl16⟩ := h16
      refine StepFrom.more fun x18 h18 => ?_
      obtain ⟨A18, c18, rfl, hl18⟩ := h18
      exact StepFrom.call hop (vs := [(.agg #[.slice A16 nn c16] : Value), (.agg #[.slice A18 nn c18] : Value)]) (by kernel_rfl) (fun w => enter_same _ w) (by kernel_rfl) ((CS.out _ _ _ _ _ _ _ m1 hl16 hl18 hQS).mono fun e w2 h => ⟨_, h.1, h.2.2, h.2.1, rfl⟩)
    refine StepsT.cons (fun (x : Value) (_ : World) => x = (.bool true : Value)) [(14, (fun (x : Value) (_ : World) => x = (.bool true : Value))), (19, (fun (x : Value) (_ : World) => x = (.bool true : Value)))] rfl rfl (fun oq hop _ wq hQS => ?_) ?_
    · refine StepFrom.more_eq ((.bool true : Value)) ?_
      refine StepFrom.more_eq ((.bool true : Value)) ?_
      exact StepFrom.pick hop (b := true) (vx := (.bool true : Value)) (vy := (Value.bool false : Value)) (by kernel_rfl) (by kernel_rfl) (by kernel_rfl) (by kernel_rfl) hQS (Below.refl _ _) rfl
    refine StepsT.cons (fun (x : Value) (_ : World) => x = (.bool true : Value)) [(20, (fun (x : Value) (_ : World) => x = (.bool true : Value)))] rfl rfl (fun oq hop _ wq hQS => ?_) ?_
    · refine StepFrom.more_eq ((.bool true : Value)) ?_
      exact StepFrom.move hop (v := (.bool true : Value)) (by kernel_rfl) (by kernel_rfl) hQS (Below.refl _ _) rfl
    refine StepsT.cons (fun (x : Value) (_ : World) => x = (.agg #[.slice Aa na ca] : Value)) [(21, (fun (x : Value) (_ : World) => x = (.bool true : Value)))] rfl rfl (fun oq hop _ wq hQS => ?_) ?_
    · refine StepFrom.more_eq ((.bool true : Value)) ?_
      skip
      exact StepFrom.load hop (by kernel_rfl) (load_level (hQS.2 (w.heap.size, .slice Aa na ca) (by simp))) (by kernel_rfl) hQS (Below.refl _ _) rfl
    refine StepsT.cons (fun (x : Value) (w : World) => ∃ A c, x = .agg #[.slice A ns c] ∧ LAt w A ns c sa) [(21, (fun (x : Value) (_ : World) => x = (.bool true : Value))), (22, (fun (x : Value) (_ : World) => x = (.agg #[.slice Aa na ca] : Value)))] rfl rfl (fun oq hop _ wq hQS => ?_) ?_
    · refine StepFrom.more_eq ((.bool true : Value)) ?_
      refine StepFrom.more_eq ((.agg #[.slice Aa na ca] : Value)) ?_
      exact StepFrom.call hop (vs := [(.agg #[.slice Aa na ca] : Value)]) (by kernel_rfl) (fun w => enter_succ _ w) (by kernel_rfl) ((C23.out _ hQS).mono fun e w2 ⟨A, c, h1, h2, h3, h4⟩ => ⟨_, h1, h4, h3, A, c, rfl, h2⟩)
    refine StepsT.cons (fun (x : Value) (_ : World) => x = (.agg #[.slice Aa na ca] : Value)) [(21, (fun (x : Value) (_ : World) => x = (.bool true : Value)))] rfl rfl (fun oq hop _ wq hQS => ?_) ?_
    · refine StepFrom.more_eq ((.bool true : Value)) ?_
      skip
      exact StepFrom.load hop (by kernel_rfl) (load_level (hQS.2 (w.heap.size, .slice Aa na ca) (by simp))) (by kernel_rfl) hQS (Below.refl _ _) rfl
    refine StepsT.cons (fun (x : Value) (w : World) => ∃ A c, x = .agg #[.slice A ns c] ∧ LAt w A ns c sa) [(21, (fun (x : Value) (_ : World) => x = (.bool true : Value))), (24, (fun (x : Value) (_ : World) => x = (.agg #[.slice Aa na ca] : Value)))] rfl rfl (fun oq hop _ wq hQS => ?_) ?_
    · refine StepFrom.more_eq ((.bool true : Value)) ?_
      refine StepFrom.more_eq ((.agg #[.slice Aa na ca] : Value)) ?_
      exact StepFrom.call hop (vs := [(.agg #[.slice Aa na ca] : Value)]) (by kernel_rfl) (fun w => enter_rsucc _ w) (by kernel_rfl) ((C25.out _ hQS).mono fun e w2 ⟨A, c, h1, h2, h3, h4⟩ => ⟨_, h1, h4, h3, A, c, rfl, h2⟩)
    refine StepsT.cons (fun (x : Value) (_ : World) => x = (.bool true : Value)) [(21, (fun (x : Value) (_ : World) => x = (.bool true : Value))), (23, (fun (x : Value) (w : World) => ∃ A c, x = .agg #[.slice A ns c] ∧ LAt w A ns c sa)), (25, (fun (x : Value) (w : World) => ∃ A c, x = .agg #[.slice A ns c] ∧ LAt w A ns c sa))] rfl rfl (fun oq hop _ wq hQS => ?_) ?_
    · refine StepFrom.more_eq ((.bool true : Value)) ?_
      refine StepFrom.more fun x23 h23 => ?_
      obtain ⟨A23, c23, rfl, hl23⟩ := h23
      refine StepFrom.more fun x25 h25 => ?_
      obtain ⟨A25, c25, rfl, hl25⟩ := h25
      exact StepFrom.call hop (vs := [(.agg #[.slice A23 ns c23] : Value), (.agg #[.slice A25 ns c25] : Value)]) (by kernel_rfl) (fun w => enter_same _ w) (by kernel_rfl) ((CS.out _ _ _ _ _ _ _ l2 hl23 hl25 hQS).mono fun e w2 h => ⟨_, h.1, h.2.2, h.2.1, rfl⟩)
    refine StepsT.cons (fun (x : Value) (_ : World) => x = (.bool true : Value)) [(21, (fun (x : Value) (_ : World) => x = (.bool true : Value))), (26, (fun (x : Value) (_ : World) => x = (.bool true : Value)))] rfl rfl (fun oq hop _ wq hQS => ?_) ?_
    · refine StepFrom.more_eq ((.bool true : Value)) ?_
      refine StepFrom.more_eq ((.bool true : Value)) ?_
      exact StepFrom.pick hop (b := true) (vx := (.bool true : Value)) (vy := (Value.bool false : Value)) (by kernel_rfl) (by kernel_rfl) (by kernel_rfl) (by kernel_rfl) hQS (Below.refl _ _) rfl
    refine StepsT.cons (fun (x : Value) (_ : World) => x = (.bool true : Value)) [(27, (fun (x : Value) (_ : World) => x = (.bool true : Value)))] rfl rfl (fun oq hop _ wq hQS => ?_) ?_
    · refine StepFrom.more_eq ((.bool true : Value)) ?_
      exact StepFrom.move hop (v := (.bool true : Value)) (by kernel_rfl) (by kernel_rfl) hQS (Below.refl _ _) rfl
    refine StepsT.cons (fun (x : Value) (_ : World) => x = (.agg #[.slice Aa na ca] : Value)) [(28, (fun (x : Value) (_ : World) => x = (.bool true : Value)))] rfl rfl (fun oq hop _ wq hQS => ?_) ?_
    · refine StepFrom.more_eq ((.bool true : Value)) ?_
      skip
      exact StepFrom.load hop (by kernel_rfl) (load_level (hQS.2 (w.heap.size, .slice Aa na ca) (by simp))) (by kernel_rfl) hQS (Below.refl _ _) rfl
    refine StepsT.cons (fun (x : Value) (_ : World) => x = (.agg #[.slice Ab nb cb] : Value)) [(28, (fun (x : Value) (_ : World) => x = (.bool true : Value)))] rfl rfl (fun oq hop _ wq hQS => ?_) ?_
    · refine StepFrom.more_eq ((.bool true : Value)) ?_
      skip
      exact StepFrom.load hop (by kernel_rfl) (load_level (hQS.2 (w.heap.size + 1, .slice Ab nb cb) (by simp))) (by kernel_rfl) hQS (Below.refl _ _) rfl
    refine StepsT.cons (fun (x : Value) (_ : World) => x = (.bool lab : Value)) [(28, (fun (x : Value) (_ : World) => x = (.bool true : Value))), (29, (fun (x : Value) (_ : World) => x = (.agg #[.slice Aa na ca] : Value))), (30, (fun (x : Value) (_ : World) => x = (.agg #[.slice Ab nb cb] : Value)))] rfl rfl (fun oq hop _ wq hQS => ?_) ?_
    · refine StepFrom.more_eq ((.bool true : Value)) ?_
      refine StepFrom.more_eq ((.agg #[.slice Aa na ca] : Value)) ?_
      refine StepFrom.more_eq ((.agg #[.slice Ab nb cb] : Value)) ?_
      exact StepFrom.call hop (vs := [(.agg #[.slice Aa na ca] : Value), (.agg #[.slice Ab nb cb] : Value)]) (by kernel_rfl) (fun w => enter_leq _ w) (by kernel_rfl) ((C31.out _ hQS).mono fun e w2 h => ⟨_, h.1, h.2.2, h.2.1, rfl⟩)
    refine StepsT.cons (fun (x : Value) (_ : World) => x = (.agg #[.slice Aa na ca] : Value)) [(28, (fun (x : Value) (_ : World) => x = (.bool true : Value)))] rfl rfl (fun oq hop _ wq hQS => ?_) ?_
    · refine StepFrom.more_eq ((.bool true : Value)) ?_
      skip
      exact StepFrom.load hop (by kernel_rfl) (load_level (hQS.2 (w.heap.size, .slice Aa na ca) (by simp))) (by kernel_rfl) hQS (Below.refl _ _) rfl
    refine StepsT.cons (fun (x : Value) (_ : World) => x = (.agg #[.slice Ab nb cb] : Value)) [(28, (fun (x : Value) (_ : World) => x = (.bool true : Value)))] rfl rfl (fun oq hop _ wq hQS => ?_) ?_
    · refine StepFrom.more_eq ((.bool true : Value)) ?_
      skip
      exact StepFrom.load hop (by kernel_rfl) (load_level (hQS.2 (w.heap.size + 1, .slice Ab nb cb) (by simp))) (by kernel_rfl) hQS (Below.refl _ _) rfl
    refine StepsT.cons (fun (x : Value) (_ : World) => x = (.bool lab : Value)) [(28, (fun (x : Value) (_ : World) => x = (.bool true : Value))), (32, (fun (x : Value) (_ : World) => x = (.agg #[.slice Aa na ca] : Value))), (33, (fun (x : Value) (_ : World) => x = (.agg #[.slice Ab nb cb] : Value)))] rfl rfl (fun oq hop _ wq hQS => ?_) ?_
    · refine StepFrom.more_eq ((.bool true : Value)) ?_
      refine StepFrom.more_eq ((.agg #[.slice Aa na ca] : Value)) ?_
      refine StepFrom.more_eq ((.agg #[.slice Ab nb cb] : Value)) ?_
      exact StepFrom.call hop (vs := [(.agg #[.slice Aa na ca] : Value), (.agg #[.slice Ab nb cb] : Value)]) (by kernel_rfl) (fun w => enter_rleq _ w) (by kernel_rfl) ((C34.out _ hQS).mono fun e w2 h => ⟨_, h.1, h.2.2, h.2.1, rfl⟩)
    refine StepsT.cons (fun (x : Value) (_ : World) => x = (.bool true : Value)) [(28, (fun (x : Value) (_ : World) => x = (.bool true : Value))), (31, (fun (x : Value) (_ : World) => x = (.bool lab : Value))), (34, (fun (x : Value) (_ : World) => x = (.bool lab : Value)))] rfl rfl (fun oq hop _ wq hQS => ?_) ?_
    · refine StepFrom.more_eq ((.bool true : Value)) ?_
      refine StepFrom.more_eq ((.bool lab : Value)) ?_
      refine StepFrom.more_eq ((.bool lab : Value)) ?_
      exact StepFrom.bin hop (vx := (.bool lab : Value)) (vy := (.bool lab : Value)) (by kernel_rfl) (by kernel_rfl) (eql_bool _ _ _ _ _) (by kernel_rfl) hQS (Below.refl _ _) (by cases lab <;> rfl)
    refine StepsT.cons (fun (x : Value) (_ : World) => x = (.bool true : Value)) [(28, (fun (x : Value) (_ : World) => x = (.bool true : Value))), (35, (fun (x : Value) (_ : World) => x = (.bool true : Value)))] rfl rfl (fun oq hop _ wq hQS => ?_) ?_
    · refine StepFrom.more_eq ((.bool true : Value)) ?_
      refine StepFrom.more_eq ((.bool true : Value)) ?_
      exact StepFrom.pick hop (b := true) (vx := (.bool true : Value)) (vy := (Value.bool false : Value)) (by kernel_rfl) (by kernel_rfl) (by kernel_rfl) (by kernel_rfl) hQS (Below.refl _ _) rfl
    refine StepsT.cons (fun (x : Value) (_ : World) => x = (.bool true : Value)) [(36, (fun (x : Value) (_ : World) => x = (.bool true : Value)))] rfl rfl (fun oq hop _ wq hQS => ?_) ?_
    · refine StepFrom.more_eq ((.bool true : Value)) ?_
      exact StepFrom.move hop (v := (.bool true : Value)) (by kernel_rfl) (by kernel_rfl) hQS (Below.refl _ _) rfl
    refine StepsT.cons (fun (x : Value) (_ : World) => x = (.agg #[.slice Ab nb cb] : Value)) [(37, (fun (x : Value) (_ : World) => x = (.bool true : Value)))] rfl rfl (fun oq hop _ wq hQS => ?_) ?_
    · refine StepFrom.more_eq ((.bool true : Value)) ?_
      skip
      exact StepFrom.load hop (by kernel_rfl) (load_level (hQS.2 (w.heap.size + 1, .slice Ab nb cb) (by simp))) (by kernel_rfl) hQS (Below.refl _ _) rfl
    refine StepsT.cons (fun (x : Value) (_ : World) => x = (.agg #[.slice Aa na ca] : Value)) [(37, (fun (x : Value) (_ : World) => x = (.bool true : Value)))] rfl rfl (fun oq hop _ wq hQS => ?_) ?_
    · refine StepFrom.more_eq ((.bool true : Value)) ?_
      skip
      exact StepFrom.load hop (by kernel_rfl) (load_level (hQS.2 (w.heap.size, .slice Aa na ca) (by simp))) (by kernel_rfl) hQS (Below.refl _ _) rfl
    refine StepsT.cons (fun (x : Value) (_ : World) => x = (.bool lba : Value)) [(37, (fun (x : Value) (_ : World) => x = (.bool true : Value))), (38, (fun (x : Value) (_ : World) => x = (.agg #[.slice Ab nb cb] : Value))), (39, (fun (x : Value) (_ : World) => x = (.agg #[.slice Aa na ca] : Value)))] rfl rfl (fun oq hop _ wq hQS => ?_) ?_
    · refine StepFrom.more_eq ((.bool true : Value)) ?_
      refine StepFrom.more_eq ((.agg #[.slice Ab nb cb] : Value)) ?_
      refine StepFrom.more_eq ((.agg #[.slice Aa na ca] : Value)) ?_
      exact StepFrom.call hop (vs := [(.agg #[.slice Ab nb cb] : Value), (.agg #[.slice Aa na ca] : Value)]) (by kernel_rfl) (fun w => enter_leq _ w) (by kernel_rfl) ((C40.out _ hQS).mono fun e w2 h => ⟨_, h.1, h.2.2, h.2.1, rfl⟩)
    refine StepsT.cons (fun (x : Value) (_ : World) => x = (.agg #[.slice Ab nb cb] : Value)) [(37, (fun (x : Value) (_ : World) => x = (.bool true : Value)))] rfl rfl (fun oq hop _ wq hQS => ?_) ?_
    · refine StepFrom.more_eq ((.bool true : Value)) ?_
      skip
      exact StepFrom.load hop (by kernel_rfl) (load_level (hQS.2 (w.heap.size + 1, .slice Ab nb cb) (by simp))) (by kernel_rfl) hQS (Below.refl _ _) rfl
    refine StepsT.cons (fun (x : Value) (_ : World) => x = (.agg #[.slice Aa na ca] : Value)) [(37, (fun (x : Value) (_ : World) => x = (.bool true : Value)))] rfl rfl (fun oq hop _ wq hQS => ?_) ?_
    · refine StepFrom.more_eq ((.bool true : Value)) ?_
      skip
      exact StepFrom.load hop (by kernel_rfl) (load_level (hQS.2 (w.heap.size, .slice Aa na ca) (by simp))) (by kernel_rfl) hQS (Below.refl _ _) rfl
    refine StepsT.cons (fun (x : Value) (_ : World) => x = (.bool lba : Value)) [(37, (fun (x : Value) (_ : World) => x = (.bool true : Value))), (41, (fun (x : Value) (_ : World) => x = (.agg #[.slice Ab nb cb] : Value))), (42, (fun (x : Value) (_ : World) => x = (.agg #[.slice Aa na ca] : Value)))] rfl rfl (fun oq hop _ wq hQS => ?_) ?_
    · refine StepFrom.more_eq ((.bool true : Value)) ?_
      refine StepFrom.more_eq ((.agg #[.slice Ab nb cb] : Value)) ?_
      refine StepFrom.more_eq ((.agg #[.slice Aa na ca] : Value)) ?_
      exact StepFrom.call hop (vs := [(.agg #[.slice Ab nb cb] : Value), (.agg #[.slice Aa na ca] : Value)]) (by kernel_rfl) (fun w => enter_rleq _ w) (by kernel_rfl) ((C43.out _ hQS).mono fun e w2 h => ⟨_, h.1, h.2.2, h.2.1, rfl⟩)
    refine StepsT.cons (fun (x : Value) (_ : World) => x = (.bool true : Value)) [(37, (fun (x : Value) (_ : World) => x = (.bool true : Value))), (40, (fun (x : Value) (_ : World) => x = (.bool lba : Value))), (43, (fun (x : Value) (_ : World) => x = (.bool lba : Value)))] rfl rfl (fun oq hop _ wq hQS => ?_) ?_
    · refine StepFrom.more_eq ((.bool true : Value)) ?_
      refine StepFrom.more_eq ((.bool lba : Value)) ?_
      refine StepFrom.more_eq ((.bool lba : Value)) ?_
      exact StepFrom.bin hop (vx := (.bool lba : Value)) (vy := (.bool lba : Value)) (by kernel_rfl) (by kernel_rfl) (eql_bool _ _ _ _ _) (by kernel_rfl) hQS (Below.refl _ _) (by cases lba <;> rfl)
    refine StepsT.cons (fun (x : Value) (_ : World) => x = (.bool true : Value)) [(37, (fun (x : Value) (_ : World) => x = (.bool true : Value))), (44, (fun (x : Value) (_ : World) => x = (.bool true : Value)))] rfl rfl (fun oq hop _ wq hQS => ?_) ?_
    · refine StepFrom.more_eq ((.bool true : Value)) ?_
      refine StepFrom.more_eq ((.bool true : Value)) ?_
      exact StepFrom.pick hop (b := true) (vx := (.bool true : Value)) (vy := (Value.bool false : Value)) (by kernel_rfl) (by kernel_rfl) (by kernel_rfl) (by kernel_rfl) hQS (Below.refl _ _) rfl
    refine StepsT.cons (fun (x : Value) (_ : World) => x = (.bool true : Value)) [(45, (fun (x : Value) (_ : World) => x = (.bool true : Value)))] rfl rfl (fun oq hop _ wq hQS => ?_) ?_
    · refine StepFrom.more_eq ((.bool true : Value)) ?_
      exact StepFrom.move hop (v := (.bool true : Value)) (by kernel_rfl) (by kernel_rfl) hQS (Below.refl _ _) rfl
    refine StepsT.cons (fun (x : Value) (_ : World) => x = (.agg #[.slice Aa na ca] : Value)) [(46, (fun (x : Value) (_ : World) => x = (.bool true : Value)))] rfl rfl (fun oq hop _ wq hQS => ?_) ?_
    · refine StepFrom.more_eq ((.bool true : Value)) ?_
      skip
      exact StepFrom.load hop (by kernel_rfl) (load_level (hQS.2 (w.heap.size, .slice Aa na ca) (by simp))) (by kernel_rfl) hQS (Below.refl _ _) rfl
    refine StepsT.cons (fun (x : Value) (_ : World) => x = (.agg #[.slice Ab nb cb] : Value)) [(46, (fun (x : Value) (_ : World) => x = (.bool true : Value)))] rfl rfl (fun oq hop _ wq hQS => ?_) ?_
    · refine StepFrom.more_eq ((.bool true : Value)) ?_
      skip
      exact StepFrom.load hop (by kernel_rfl) (load_level (hQS.2 (w.heap.size + 1, .slice Ab nb cb) (by simp))) (by kernel_rfl) hQS (Below.refl _ _) rfl
    refine StepsT.cons (fun (x : Value) (_ : World) => x = (.bool sab : Value)) [(46, (fun (x : Value) (_ : World) => x = (.bool true : Value))), (47, (fun (x : Value) (_ : World) => x = (.agg #[.slice Aa na ca] : Value))), (48, (fun (x : Value) (_ : World) => x = (.agg #[.slice Ab nb cb] : Value)))] rfl rfl (fun oq hop _ wq hQS => ?_) ?_
    · refine StepFrom.more_eq ((.bool true : Value)) ?_
      refine StepFrom.more_eq ((.agg #[.slice Aa na ca] : Value)) ?_
      refine StepFrom.more_eq ((.agg #[.slice Ab nb cb] : Value)) ?_
      exact StepFrom.call hop (vs := [(.agg #[.slice Aa na ca] : Value), (.agg #[.slice Ab nb cb] : Value)]) (by kernel_rfl) (fun w => enter_lsame _ w) (by kernel_rfl) ((C49.out _ hQS).mono fun e w2 h => ⟨_, h.1, h.2.2, h.2.1, rfl⟩)
    refine StepsT.cons (fun (x : Value) (_ : World) => x = (.agg #[.slice Aa na ca] : Value)) [(46, (fun (x : Value) (_ : World) => x = (.bool true : Value)))] rfl rfl (fun oq hop _ wq hQS => ?_) ?_
    · refine StepFrom.more_eq ((.bool true : Value)) ?_
      skip
      exact StepFrom.load hop (by kernel_rfl) (load_level (hQS.2 (w.heap.size, .slice Aa na ca) (by simp))) (by kernel_rfl) hQS (Below.refl _ _) rfl
    refine StepsT.cons (fun (x : Value) (_ : World) => x = (.agg #[.slice Ab nb cb] : Value)) [(46, (fun (x : Value) (_ : World) => x = (.bool true : Value)))] rfl rfl (fun oq hop _ wq hQS => ?_) ?_
    · refine StepFrom.more_eq ((.bool true : Value)) ?_
      skip
      exact StepFrom.load hop (by kernel_rfl) (load_level (hQS.2 (w.heap.size + 1, .slice Ab nb cb) (by simp))) (by kernel_rfl) hQS (Below.refl _ _) rfl
    refine StepsT.cons (fun (x : Value) (_ : World) => x = (.bool sab : Value)) [(46, (fun (x : Value) (_ : World) => x = (.bool true : Value))), (50, (fun (x : Value) (_ : World) => x = (.agg #[.slice Aa na ca] : Value))), (51, (fun (x : Value) (_ : World) => x = (.agg #[.slice Ab nb cb] : Value)))] rfl rfl (fun oq hop _ wq hQS => ?_) ?_
    · refine StepFrom.more_eq ((.bool true : Value)) ?_
      refine StepFrom.more_eq ((.agg #[.slice Aa na ca] : Value)) ?_
      refine StepFrom.more_eq ((.agg #[.slice Ab nb cb] : Value)) ?_
      exact StepFrom.call hop (vs := [(.agg #[.slice Aa na ca] : Value), (.agg #[.slice Ab nb cb] : Value)]) (by kernel_rfl) (fun w => enter_rsame _ w) (by kernel_rfl) ((C52.out _ hQS).mono fun e w2 h => ⟨_, h.1, h.2.2, h.2.1, rfl⟩)
    refine StepsT.cons (fun (x : Value) (_ : World) => x = (.bool true : Value)) [(46, (fun (x : Value) (_ : World) => x = (.bool true : Value))), (49, (fun (x : Value) (_ : World) => x = (.bool sab : Value))), (52, (fun (x : Value) (_ : World) => x = (.bool sab : Value)))] rfl rfl (fun oq hop _ wq hQS => ?_) ?_
    · refine StepFrom.more_eq ((.bool true : Value)) ?_
      refine StepFrom.more_eq ((.bool sab : Value)) ?_
      refine StepFrom.more_eq ((.bool sab : Value)) ?_
      exact StepFrom.bin hop (vx := (.bool sab : Value)) (vy := (.bool sab : Value)) (by kernel_rfl) (by kernel_rfl) (eql_bool _ _ _ _ _) (by kernel_rfl) hQS (Below.refl _ _) (by cases sab <;> rfl)
    refine StepsT.cons (fun (x : Value) (_ : World) => x = (.bool true : Value)) [(46, (fun (x : Value) (_ : World) => x = (.bool true : Value))), (53, (fun (x : Value) (_ : World) => x = (.bool true : Value)))] rfl rfl (fun oq hop _ wq hQS => ?_) ?_
    · refine StepFrom.more_eq ((.bool true : Value)) ?_
      refine StepFrom.more_eq ((.bool true : Value)) ?_
      exact StepFrom.pick hop (b := true) (vx := (.bool true : Value)) (vy := (Value.bool false : Value)) (by kernel_rfl) (by kernel_rfl) (by kernel_rfl) (by kernel_rfl) hQS (Below.refl _ _) rfl
    refine StepsT.cons (fun (x : Value) (_ : World) => x = (.bool true : Value)) [(54, (fun (x : Value) (_ : World) => x = (.bool true : Value)))] rfl rfl (fun oq hop _ wq hQS => ?_) ?_
    · refine StepFrom.more_eq ((.bool true : Value)) ?_
      exact StepFrom.move hop (v := (.bool true : Value)) (by kernel_rfl) (by kernel_rfl) hQS (Below.refl _ _) rfl
    refine StepsT.cons (fun (x : Value) (_ : World) => x = (.int .i64 n : Value)) [(55, (fun (x : Value) (_ : World) => x = (.bool true : Value)))] rfl rfl (fun oq hop _ wq hQS => ?_) ?_
    · refine StepFrom.more_eq ((.bool true : Value)) ?_
      exact StepFrom.move hop (v := (.int .i64 n : Value)) (by kernel_rfl) (by kernel_rfl) hQS (Below.refl _ _) rfl
    refine StepsT.cons (fun (x : Value) (w : World) => ∃ A c, x = .agg #[.slice A nq c] ∧ LAt w A nq c qn) [(55, (fun (x : Value) (_ : World) => x = (.bool true : Value))), (56, (fun (x : Value) (_ : World) => x = (.int .i64 n : Value)))] rfl rfl (fun oq hop _ wq hQS => ?_) ?_
    · refine StepFrom.more_eq ((.bool true : Value)) ?_
      refine StepFrom.more_eq ((.int .i64 n : Value)) ?_
      exact StepFrom.call hop (vs := [(.int .i64 n : Value)]) (by kernel_rfl) (fun w => enter_num _ w) (by kernel_rfl) ((C57.out _ hQS).mono fun e w2 ⟨A, c, h1, h2, h3, h4⟩ => ⟨_, h1, h4, h3, A, c, rfl, h2⟩)
    refine StepsT.cons (fun (x : Value) (_ : World) => x = (.int .i64 n : Value)) [(55, (fun (x : Value) (_ : World) => x = (.bool true : Value)))] rfl rfl (fun oq hop _ wq hQS => ?_) ?_
    · refine StepFrom.more_eq ((.bool true : Value)) ?_
      exact StepFrom.move hop (v := (.int .i64 n : Value)) (by kernel_rfl) (by kernel_rfl) hQS (Below.refl _ _) rfl
    refine StepsT.cons (fun (x : Value) (w : World) => ∃ A c, x = .agg #[.slice A nq c] ∧ LAt w A nq c qn) [(55, (fun (x : Value) (_ : World) => x = (.bool true : Value))), (58, (fun (x : Value) (_ : World) => x = (.int .i64 n : Value)))] rfl rfl (fun oq hop _ wq hQS => ?_) ?_
    · refine StepFrom.more_eq ((.bool true : Value)) ?_
      refine StepFrom.more_eq ((.int .i64 n : Value)) ?_
      exact StepFrom.call hop (vs := [(.int .i64 n : Value)]) (by kernel_rfl) (fun w => enter_rnum _ w) (by kernel_rfl) ((C59.out _ hQS).mono fun e w2 ⟨A, c, h1, h2, h3, h4⟩ => ⟨_, h1, h4, h3, A, c, rfl, h2⟩)
    refine StepsT.cons (fun (x : Value) (_ : World) => x = (.bool true : Value)) [(55, (fun (x : Value) (_ : World) => x = (.bool true : Value))), (57, (fun (x : Value) (w : World) => ∃ A c, x = .agg #[.slice A nq c] ∧ LAt w A nq c qn)), (59, (fun (x : Value) (w : World) => ∃ A c, x = .agg #[.slice A nq c] ∧ LAt w A nq c qn))] rfl rfl (fun oq hop _ wq hQS => ?_) ?_
    · refine StepFrom.more_eq ((.bool true : Value)) ?_
      refine StepFrom.more fun x57 h57 => ?_
      obtain ⟨A57, c57, rfl, hl57⟩ := h57
      refine StepFrom.more fun x59 h59 => ?_
      obtain ⟨A59, c59, rfl, hl59⟩ := h59
      exact StepFrom.call hop (vs := [(.agg #[.slice A57 nq c57] : Value), (.agg #[.slice A59 nq c59] : Value)]) (by kernel_rfl) (fun w => enter_same _ w) (by kernel_rfl) ((CS.out _ _ _ _ _ _ _ m3 hl57 hl59 hQS).mono fun e w2 h => ⟨_, h.1, h.2.2, h.2.1, rfl⟩)
    refine StepsT.cons (fun (x : Value) (_ : World) => x = (.bool true : Value)) [(55, (fun (x : Value) (_ : World) => x = (.bool true : Value))), (60, (fun (x : Value) (_ : World) => x = (.bool true : Value)))] rfl rfl (fun oq hop _ wq hQS => ?_) ?_
    · refine StepFrom.more_eq ((.bool true : Value)) ?_
      refine StepFrom.more_eq ((.bool true : Value)) ?_
      exact StepFrom.pick hop (b := true) (vx := (.bool true : Value)) (vy := (Value.bool false : Value)) (by kernel_rfl) (by kernel_rfl) (by kernel_rfl) (by kernel_rfl) hQS (Below.refl _ _) rfl
    refine StepsT.cons (fun (x : Value) (_ : World) => x = (.bool true : Value)) [(61, (fun (x : Value) (_ : World) => x = (.bool true : Value)))] rfl rfl (fun oq hop _ wq hQS => ?_) ?_
    · refine StepFrom.more_eq ((.bool true : Value)) ?_
      exact StepFrom.move hop (v := (.bool true : Value)) (by kernel_rfl) (by kernel_rfl) hQS (Below.refl _ _) rfl
    refine StepsT.cons (fun (x : Value) (_ : World) => x = (.int .i64 n : Value)) [(62, (fun (x : Value) (_ : World) => x = (.bool true : Value)))] rfl rfl (fun oq hop _ wq hQS => ?_) ?_
    · refine StepFrom.more_eq ((.bool true : Value)) ?_
      exact StepFrom.move hop (v := (.int .i64 n : Value)) (by kernel_rfl) (by kernel_rfl) hQS (Below.refl _ _) rfl
    refine StepsT.cons (fun (x : Value) (w : World) => ∃ A c, x = .agg #[.slice A nv c] ∧ LAt w A nv c qv) [(62, (fun (x : Value) (_ : World) => x = (.bool true : Value))), (63, (fun (x : Value) (_ : World) => x = (.int .i64 n : Value)))] rfl rfl (fun oq hop _ wq hQS => ?_) ?_
    · refine StepFrom.more_eq ((.bool true : Value)) ?_
      refine StepFrom.more_eq ((.int .i64 n : Value)) ?_
      exact StepFrom.call hop (vs := [(.int .i64 n : Value)]) (by kernel_rfl) (fun w => enter_var _ w) (by kernel_rfl) ((C64.out _ hQS).mono fun e w2 ⟨A, c, h1, h2, h3, h4⟩ => ⟨_, h1, h4, h3, A, c, rfl, h2⟩)
    refine StepsT.cons (fun (x : Value) (_ : World) => x = (.int .i64 n : Value)) [(62, (fun (x : Value) (_ : World) => x = (.bool true : Value)))] rfl rfl (fun oq hop _ wq hQS => ?_) ?_
    · refine StepFrom.more_eq ((.bool true : Value)) ?_
      exact StepFrom.move hop (v := (.int .i64 n : Value)) (by kernel_rfl) (by kernel_rfl) hQS (Below.refl _ _) rfl
    refine StepsT.cons (fun (x : Value) (w : World) => ∃ A c, x = .agg #[.slice A nv c] ∧ LAt w A nv c qv) [(62, (fun (x : Value) (_ : World) => x = (.bool true : Value))), (65, (fun (x : Value) (_ : World) => x = (.int .i64 n : Value)))] rfl rfl (fun oq hop _ wq hQS => ?_) ?_
    · refine StepFrom.more_eq ((.bool true : Value)) ?_
      refine StepFrom.more_eq ((.int .i64 n : Value)) ?_
      exact StepFrom.call hop (vs := [(.int .i64 n : Value)]) (by kernel_rfl) (fun w => enter_rvar _ w) (by kernel_rfl) ((C66.out _ hQS).mono fun e w2 ⟨A, c, h1, h2, h3, h4⟩ => ⟨_, h1, h4, h3, A, c, rfl, h2⟩)
    refine StepsT.cons (fun (x : Value) (_ : World) => x = (.bool true : Value)) [(62, (fun (x : Value) (_ : World) => x = (.bool true : Value))), (64, (fun (x : Value) (w : World) => ∃ A c, x = .agg #[.slice A nv c] ∧ LAt w A nv c qv)), (66, (fun (x : Value) (w : World) => ∃ A c, x = .agg #[.slice A nv c] ∧ LAt w A nv c qv))] rfl rfl (fun oq hop _ wq hQS => ?_) ?_
    · refine StepFrom.more_eq ((.bool true : Value)) ?_
      refine StepFrom.more fun x64 h64 => ?_
      obtain ⟨A64, c64, rfl, hl64⟩ := h64
      refine StepFrom.more fun x66 h66 => ?_
      obtain ⟨A66, c66, rfl, hl66⟩ := h66
      exact StepFrom.call hop (vs := [(.agg #[.slice A64 nv c64] : Value), (.agg #[.slice A66 nv c66] : Value)]) (by kernel_rfl) (fun w => enter_same _ w) (by kernel_rfl) ((CS.out _ _ _ _ _ _ _ m4 hl64 hl66 hQS).mono fun e w2 h => ⟨_, h.1, h.2.2, h.2.1, rfl⟩)
    refine StepsT.cons (fun (x : Value) (_ : World) => x = (.bool true : Value)) [(62, (fun (x : Value) (_ : World) => x = (.bool true : Value))), (67, (fun (x : Value) (_ : World) => x = (.bool true : Value)))] rfl rfl (fun oq hop _ wq hQS => ?_) ?_
    · refine StepFrom.more_eq ((.bool true : Value)) ?_
      refine StepFrom.more_eq ((.bool true : Value)) ?_
      exact StepFrom.pick hop (b := true) (vx := (.bool true : Value)) (vy := (Value.bool false : Value)) (by kernel_rfl) (by kernel_rfl) (by kernel_rfl) (by kernel_rfl) hQS (Below.refl _ _) rfl
    refine StepsT.cons (fun (x : Value) (_ : World) => x = (.bool true : Value)) [(68, (fun (x : Value) (_ : World) => x = (.bool true : Value)))] rfl rfl (fun oq hop _ wq hQS => ?_) ?_
    · refine StepFrom.more_eq ((.bool true : Value)) ?_
      exact StepFrom.assign hop (v := (.bool true : Value)) (by kernel_rfl) (by kernel_rfl) hQS (Below.refl _ _) rfl
    exact StepsT.nil
  case hfin =>
    intro wf hFS
    refine FinalFrom.more fun x7 h7 => ?_
    refine FinalFrom.more fun x8 h8 => ?_
    refine FinalFrom.more fun x9 h9 => ?_
    refine FinalFrom.more fun x10 h10 => ?_
    refine FinalFrom.more fun x11 h11 => ?_
    refine FinalFrom.more fun x12 h12 => ?_
    refine FinalFrom.more fun x13 h13 => ?_
    refine FinalFrom.more fun x14 h14 => ?_
    refine FinalFrom.more fun x15 h15 => ?_
    refine FinalFrom.more fun x16 h16 => ?_
    refine FinalFrom.more fun x17 h17 => ?_
    refine FinalFrom.more fun x18 h18 => ?_
    refine FinalFrom.more fun x19 h19 => ?_
    refine FinalFrom.more fun x20 h20 => ?_
    refine FinalFrom.more fun x21 h21 => ?_
    refine FinalFrom.more fun x22 h22 => ?_
    refine FinalFrom.more fun x23 h23 => ?_
    refine FinalFrom.more fun x24 h24 => ?_
    refine FinalFrom.more fun x25 h25 => ?_
    refine FinalFrom.more fun x26 h26 => ?_
    refine FinalFrom.more fun x27 h27 => ?_
    refine FinalFrom.more fun x28 h28 => ?_
    refine FinalFrom.more fun x29 h29 => ?_
    refine FinalFrom.more fun x30 h30 => ?_
    refine FinalFrom.more fun x31 h31 => ?_
    refine FinalFrom.more fun x32 h32 => ?_
    refine FinalFrom.more fun x33 h33 => ?_
    refine FinalFrom.more fun x34 h34 => ?_
    refine FinalFrom.more fun x35 h35 => ?_
    refine FinalFrom.more fun x36 h36 => ?_
    refine FinalFrom.more fun x37 h37 => ?_
    refine FinalFrom.more fun x38 h38 => ?_
    refine FinalFrom.more fun x39 h39 => ?_
    refine FinalFrom.more fun x40 h40 => ?_
    refine FinalFrom.more fun x41 h41 => ?_
    refine FinalFrom.more fun x42 h42 => ?_
    refine FinalFrom.more fun x43 h43 => ?_
    refine FinalFrom.more fun x44 h44 => ?_
    refine FinalFrom.more fun x45 h45 => ?_
    refine FinalFrom.more fun x46 h46 => ?_
    refine FinalFrom.more fun x47 h47 => ?_
    refine FinalFrom.more fun x48 h48 => ?_
    refine FinalFrom.more fun x49 h49 => ?_
    refine FinalFrom.more fun x50 h50 => ?_
    refine FinalFrom.more fun x51 h51 => ?_
    refine FinalFrom.more fun x52 h52 => ?_
    refine FinalFrom.more fun x53 h53 => ?_
    refine FinalFrom.more fun x54 h54 => ?_
    refine FinalFrom.more fun x55 h55 => ?_
    refine FinalFrom.more fun x56 h56 => ?_
    refine FinalFrom.more fun x57 h57 => ?_
    refine FinalFrom.more fun x58 h58 => ?_
    refine FinalFrom.more fun x59 h59 => ?_
    refine FinalFrom.more fun x60 h60 => ?_
    refine FinalFrom.more fun x61 h61 => ?_
    refine FinalFrom.more fun x62 h62 => ?_
    refine FinalFrom.more fun x63 h63 => ?_
    refine FinalFrom.more fun x64 h64 => ?_
    refine FinalFrom.more fun x65 h65 => ?_
    refine FinalFrom.more fun x66 h66 => ?_
    refine FinalFrom.more fun x67 h67 => ?_
    refine FinalFrom.more fun x68 h68 => ?_
    refine FinalFrom.more fun x6 h6 => ?_
    refine FinalFrom.done ?_
    obtain rfl : x6 = (.bool true : Value) := h6
    simp only [Act.put, List.setIfInBounds_toArray, List.set_cons_zero, List.set_cons_succ]
    have HF : Hid (HasPost w true (.returned (.bool true)) wf) := ⟨rfl, HB0.out.trans (hFS.1.mono (by omega))⟩
    clear hS C9 C12 C31 C34 C40 C43 C49 C52 C16 C18 C23 C25 C57 C59 C64 C66 CS hFS
    go_wp2
    go_ret
    exact HF.out
end Go.Proofs.YtldalfikpklfdaaGreat
