/- Laws. -/
import Derived.Test.YtfgnnbpbbnnnhaaDoorKqac
import Derived.Test.YtfgnnbpbbnnnhaaDoorKqad
namespace Go.Proofs.YtfgnnbpbbnnnhaaDoor
open Go.RowKit Go.Maps Go.Sort Go.Shelf
theorem sorts (k : Nat) : AnyZI.SortsIn Tryd.prog Tryd.sortedA_ren Fence.wide k :=
  ⟨fun blk off cap ss W hH hblk hsz => callsIn_wide.2 (AnyM.slices_Sort_int Tryd.sortA blk off cap ss W hH hblk hsz),
   fun p cap W => callsIn_wide.2 (AnyM.slices_Sort_int_none Tryd.sortA p cap W)⟩
theorem keys_any (mb : Option Nat) (W : World) :
    Calls Tryd.prog 117 #[.map mb] W fun e w' => e = .returned (.func (.func 121) #[] #[.pointer (some ⟨W.heap.size, 0, none⟩)]) ∧ w' = W.alloc (.cells #[.map mb] 151) :=
  (callsIn_wide (n := 5)).1 (AnyZI.keys_in Tryd.keysA Fence.wide 5 trivial rfl mb W)
def Rising (ks : List Int) : Prop := ks.Pairwise (fun x y => x < y)
def SortedPost (w : World) (n : Nat) (m : Int → Option Int) (e : Ending) (w' : World) : Prop :=
  ∃ v ks, e = .returned v ∧ Rising ks ∧ (∀ k, k ∈ ks ↔ (m k).isSome = true) ∧ ks.length ≤ n ∧ w'.ownsRow w.heap.size 3 1 v ks.length (ks.map (Value.int .i64)) ∧ Below w.heap.size w w'
theorem rising_of {D : DataW Unit} {m : Int → Option Int} {w : World} {b n : Nat} (hown : w.ownsMap Tryd.prog 3 (plainElem Tryd.prog 3) b n D) (hR : Reps D m) {ss : List Int} (hp : ss.Perm (intKeys D)) :
    Rising (ss.mergeSort (fun x y => decide (x ≤ y))) ∧ (∀ k, k ∈ ss.mergeSort (fun x y => decide (x ≤ y)) ↔ (m k).isSome = true) ∧ ss.length ≤ n := by
  have hsz := hown.size_le
  obtain ⟨es, hD, hpw, _⟩ := hown.entries lawI
  obtain ⟨es', hD', hko⟩ := hown.keysOf
  obtain rfl : es = es' := by rw [hD] at hD'; simpa using hD'
  subst hD
  have hkk : ∀ p ∈ es, ∃ x, p.1 = .int .i64 x := by
    intro p hp
    obtain ⟨v, hv⟩ := hko p hp
    obtain ⟨x, _, hx, _⟩ := Maps.keyOf_i64 Tryd.underlying3 hv
    exact ⟨x, hx⟩
  have hmem : ∀ k, k ∈ intKeys (.map es : DataW Unit) ↔ (m k).isSome = true := by
    intro k
    rw [← (hR.2 k).1, has_eq, List.any_eq_true]
    show k ∈ es.map (fun p => _root_.Go.intOf p.1) ↔ _
    rw [List.mem_map]
    constructor
    · rintro ⟨p, hp', rfl⟩
      obtain ⟨a, ha⟩ := hkk p hp'
      exact ⟨p, hp', by rw [ha]; simp [Lit.sameKey, _root_.Go.intOf]⟩
    · rintro ⟨p, hp', hs⟩
      obtain ⟨a, ha⟩ := hkk p hp'
      rw [ha] at hs
      exact ⟨p, hp', by rw [ha]; simpa [Lit.sameKey, _root_.Go.intOf] using hs⟩
  have hnd : (intKeys (.map es : DataW Unit)).Nodup := by
    show (es.map fun p => _root_.Go.intOf p.1).Nodup
    refine List.pairwise_map.2 (hpw.imp_of_mem fun {p q} hp' hq' hne e => hne ?_)
    obtain ⟨a, ha⟩ := hkk p hp'
    obtain ⟨b, hb⟩ := hkk q hq'
    rw [ha, hb] at e ⊢
    exact congrArg _ e
  have tr : ∀ a b c : Int, decide (a ≤ b) = true → decide (b ≤ c) = true → decide (a ≤ c) = true := fun a b c h1 h2 => by simp only [decide_eq_true_eq] at *; omega
  have tot : ∀ a b : Int, (decide (a ≤ b) || decide (b ≤ a)) = true := fun a b => by simp only [Bool.or_eq_true, decide_eq_true_eq]; omega
  have hP := List.mergeSort_perm ss (fun x y => decide (x ≤ y))
  have hS := List.pairwise_mergeSort tr tot ss
  have hN : (ss.mergeSort (fun x y => decide (x ≤ y))).Nodup := (hP.nodup_iff).2 ((hp.nodup_iff).2 hnd)
  refine ⟨?_, fun k => by rw [hP.mem_iff, hp.mem_iff, hmem], by rw [hp.length_eq]; simpa [intKeys, size_eq] using hsz⟩
  exact (hS.and hN).imp (fun {a b} ⟨h1, h2⟩ => by simp only [decide_eq_true_eq] at h1; omega)
set_option maxHeartbeats 1000000 in
theorem sorted_any (b n : Nat) (m : Int → Option Int) (W : World) (g : Nat) (hm : Mp W b n m) (hn : n < 2199023255552) (hg : g < W.heap.size) (hc : W.cell? ⟨g, 0, none⟩ = some (.map (some b))) :
    Calls Tryd.prog 116 #[.func (.func 121) #[] #[.pointer (some ⟨g, 0, none⟩)]] W (SortedPost W n m) := by
  obtain ⟨D, hown, hR⟩ := hm
  have hsz := hown.size_le
  have hseq : SeqGives Fence.wide 2 Tryd.prog 121 #[.pointer (some ⟨g, 0, none⟩)] encZ (fun ss => ss.Perm (intKeys D)) (Maps.size D) W :=
    AnyZI.keys_gives (ρ := Tryd.keysA_ren) { Tryd.keysA with } Fence.wide _ trivial rfl (by omega) g b n D _ hg hc hown
  have cS := AnyZI.sorted_in Tryd.sortedA Fence.wide 5 trivial trivial trivial trivial rfl (by omega) (sorts _) (enters_of Tryd.func120 (by kernel_rfl) rfl) 121 #[.pointer (some ⟨g, 0, none⟩)] trivial (enters_of Tryd.func121 (by kernel_rfl) rfl) _ _ (by unfold maxLen; omega) (by omega) _ hseq
  have cS' := (callsIn_wide (n := 5)).1 cS
  refine Calls.mono cS' ?_
  rintro e w' ⟨v, ss, rfl, hp, hrow, _, hb⟩
  obtain ⟨h1, h2, h3⟩ := rising_of hown hR hp
  refine ⟨v, _, rfl, h1, h2, ?_, ?_, hb⟩
  · rw [List.length_mergeSort]; exact h3
  · rw [List.length_mergeSort]; exact hrow
end Go.Proofs.YtfgnnbpbbnnnhaaDoor
