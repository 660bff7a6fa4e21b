/- From what is said here of a call to what the library says of one, and back. -/
import Derived.Test.YtaoglkkdhdfioaaDoorEvY
namespace Go.Proofs.YtaoglkkdhdfioaaDoor
open Go
section
variable {P : Program} {h h' : AH} {F : Fence} {n : Nat}
theorem fenced_ok (hF : FOk F) (m : Machine) : m.fenced P F := fun g _ =>
  ⟨fun h => absurd (hF.alive ▸ h) (by simp), .inl (hF.fn _), fun _ _ => hF.fn _, fun d hd => by rw [hF.depth] at hd; cases hd⟩
theorem room_ok (hF : FOk F) (n : Nat) : F.room n := fun d hd => by rw [hF.depth] at hd; cases hd
theorem stepsIn_ok (hF : FOk F) {m m' : Machine} : StepsIn (Machine.fenced P F) P m m' ↔ Steps P m m' :=
  ⟨StepsIn.steps, fun h => (StepsIn.of_steps h).mono fun m _ => fenced_ok hF m⟩
theorem comesIn_ok (hF : FOk F) {m m' : Machine} {e : Ending} : ComesIn (Machine.fenced P F) P m m' e ↔ Comes P m m' e := by
  cases e with
  | returned v => exact stepsIn_ok hF
  | panicked chain => exact stepsIn_ok hF
  | outgrown => exact Iff.rfl
theorem callsIn_ok (hF : FOk F) {f : FuncId} {args : Array Value} {w : World} {R : Ending → World → Prop} : CallsIn F n P f args w R ↔ Calls P f args w R :=
  ⟨fun h cs => let ⟨e, w', fr, r, s, x⟩ := h.2 cs (room_ok hF _); ⟨e, w', fr, r, (comesIn_ok hF).1 s, x⟩,
   fun h => ⟨hF.fn _, fun cs _ => let ⟨e, w', fr, r, s, x⟩ := h cs; ⟨e, w', fr, r, (comesIn_ok hF).2 s, x⟩⟩⟩
theorem wide_ok : FOk Fence.wide := ⟨fun _ => trivial, rfl, rfl⟩
/-- what is said here of a call is so -/
theorem sound_calls {fid : FuncId} {fn : Func} {c : Code} {args cap : List AV} {r : Res} {res : Nat → Nat → Prop} {g q : Nat → Nat} {us cs : Array Value} {w : World} (hs : Sound P (.call (.func fid) args cap h) (.call r h')) (hf : P.funcs[fid]? = some fn) (hb : fn.body = some c) (hn : (fn.name == "runtime.NumGoroutine") = false)
    (hV : Rel (h.mem res g q) w) (hu : DenL (h.mem res g q) w us args) (hc : DenL (h.mem res g q) w cs cap) : Calls P fid (us ++ cs) w fun e w1 => Post (h.mem res g q) w h' res (fun V' w' => RDen V' w' e r) w1 := by
  have k := hs Fence.wide 1 res g q us cs w wide_ok hV hu hc
  have he : (invoke (.fn (.func fid) cs) us).run P w = .ok (.enter fid (us ++ cs)) w := enters_of hf hn hb (us ++ cs) w
  unfold CallOk at k
  rw [he] at k
  exact (callsIn_ok wide_ok).1 k
/-- what is so of a call may be said here -/
theorem sound_of {fid : FuncId} {fn : Func} {c : Code} {args cap : List AV} {r : Res} (hf : P.funcs[fid]? = some fn) (hb : fn.body = some c) (hn : (fn.name == "runtime.NumGoroutine") = false)
    (k : ∀ (res : Nat → Nat → Prop) (g q : Nat → Nat) (us cs : Array Value) (w : World), Rel (h.mem res g q) w → DenL (h.mem res g q) w us args → DenL (h.mem res g q) w cs cap → Calls P fid (us ++ cs) w fun e w1 => Post (h.mem res g q) w h' res (fun V' w' => RDen V' w' e r) w1) :
    Sound P (.call (.func fid) args cap h) (.call r h') := by
  intro F n res g q us cs w hF hV hu hc
  have he : (invoke (.fn (.func fid) cs) us).run P w = .ok (.enter fid (us ++ cs)) w := enters_of hf hn hb (us ++ cs) w
  unfold CallOk
  rw [he]
  exact (callsIn_ok hF).2 (k res g q us cs w hV hu hc)
end
/-! ### Memory that is set aside while a call runs -/
section
variable {h h1 : AH} {res : Nat → Nat → Prop} {g q g' q' : Nat → Nat} {w w1 w2 w3 : World} {X : Nat → Prop}
def resX (res : Nat → Nat → Prop) (X : Nat → Prop) : Nat → Nat → Prop := fun b i => res b i ∨ X b
theorem aside_fwd (hX : ∀ b, X b → w.heap.size ≤ b) (hs : w.heap.size ≤ w1.heap.size) (hk : ∀ b, b < w.heap.size → w1.heap[b]? = w.heap[b]?) : Fwd (h.mem res g q) w (h.mem (resX res X) g q) w1 where
  ok b i x h1 h2 := by
    obtain ⟨k1, k2, k3⟩ := h1
    refine ⟨⟨by omega, ?_, k3⟩, by rw [cell_of_heap (hk b k1)]; exact h2⟩
    rintro (e | e)
    · exact k2 e
    · have := hX b e; omega
  born r hr := hr
  cells r c hb h := ⟨c, h, Nat.le_refl _, fun _ => ⟨rfl, rfl, rfl, rfl⟩⟩
  loop r l hb h := ⟨l, h, rfl⟩
  mark r h := ⟨h, rfl⟩
theorem back_fwd (hs : w3.heap.size = w2.heap.size) (hk : ∀ b, b < w2.heap.size → ¬ X b → w3.heap[b]? = w2.heap[b]?) : Fwd (h1.mem (resX res X) g' q') w2 (h1.mem res g' q') w3 where
  ok b i x h1 h2 := by
    obtain ⟨k1, k2, k3⟩ := h1
    refine ⟨⟨by omega, fun e => k2 (.inl e), k3⟩, by rw [cell_of_heap (hk b k1 fun e => k2 (.inr e))]; exact h2⟩
  born r hr := hr
  cells r c hb h := ⟨c, h, Nat.le_refl _, fun _ => ⟨rfl, rfl, rfl, rfl⟩⟩
  loop r l hb h := ⟨l, h, rfl⟩
  mark r h := ⟨h, rfl⟩
theorem aside_rel (hV : Rel (h.mem res g q) w) (hX : ∀ b, X b → w.heap.size ≤ b ∧ b < w1.heap.size) (hs : w.heap.size ≤ w1.heap.size) (hk : ∀ b, b < w.heap.size → w1.heap[b]? = w.heap[b]?) : Rel (h.mem (resX res X) g q) w1 := by
  have hf := aside_fwd (h := h) (res := res) (g := g) (q := q) (fun b hb => (hX b hb).1) hs hk
  refine ⟨fun b i hb => ?_, fun r o ho i => ?_, fun r o ho => ?_, fun r s o p h1 h2 h3 => hV.apart r s o p h1 h2 h3, fun r c hc => ?_, fun r l hl => ?_, fun r hr => ?_, hV.glob.fwd hf⟩
  · rcases hb with e | e
    · have := hV.bound b i e; omega
    · exact (hX b e).2
  · rintro (e | e)
    · exact hV.free r o ho i e
    · have := (hX _ e).1
      have h2 := (hV.live r o ho).2
      have h2 : g r < w.heap.size := h2
      have this : w.heap.size ≤ g r := this
      omega
  · have := (hV.live r o ho); exact ⟨this.1, Nat.lt_of_lt_of_le this.2 hs⟩
  · obtain ⟨Y, k1, k2, k3, k4, k5, k6⟩ := hV.cells r c hc
    exact ⟨Y, (hk _ (hV.live r _ hc).2).trans k1, k2, k3, k4, k5, fun i x a e1 e2 => (k6 i x a e1 e2).fwd hf⟩
  · obtain ⟨k0, fn, T, k1, k2, k3⟩ := hV.loop r l hl
    exact ⟨k0, fn, T, (hk _ (hV.live r _ hl).2).trans k1, k2, fun i a e => by obtain ⟨x, e1, e2⟩ := k3 i a e; exact ⟨x, e1, e2.fwd hf⟩⟩
  · exact (hk _ (hV.live r _ hr).2).trans (hV.mark r hr)
theorem back_to (hV : Rel (h.mem res g q) w) (hX : ∀ b, X b → w.heap.size ≤ b ∧ b < w1.heap.size) (hs : w.heap.size ≤ w1.heap.size) (hk : ∀ b, b < w.heap.size → w1.heap[b]? = w.heap[b]?) (ho : w1.os = w.os ∧ w1.tape = w.tape ∧ w1.output = w.output)
    (t : To (h.mem (resX res X) g q) w1 (h1.mem (resX res X) g' q') w2) (hs3 : w3.heap.size = w2.heap.size) (hk3 : ∀ b, b < w2.heap.size → ¬ X b → w3.heap[b]? = w2.heap[b]?) (ho3 : w3.os = w2.os ∧ w3.tape = w2.tape ∧ w3.output = w2.output) :
    To (h.mem res g q) w (h1.mem res g' q') w3 := by
  have f1 := aside_fwd (h := h) (res := res) (g := g) (q := q) (fun b hb => (hX b hb).1) hs hk
  have f2 := back_fwd (h1 := h1) (res := res) (g' := g') (q' := q') hs3 hk3
  have hf := (f1.trans t.fwd).trans f2
  have hV2 := t.rel
  have hnx : ∀ r o, h1.get r = some o → ¬ X (g' r) := fun r o ho hx => hV2.free r o ho 0 (.inr hx)
  have kk := t.keep
  refine ⟨⟨fun b i hb => ?_, fun r o ho i e => hV2.free r o ho i (.inl e), fun r o ho => ?_, fun r s o p h1 h2 h3 => hV2.apart r s o p h1 h2 h3, fun r c hc => ?_, fun r l hl => ?_, fun r hr => ?_, hV.glob.fwd hf⟩, hf, ⟨ho3.1.trans (kk.os.trans ho.1), ho3.2.1.trans (kk.tape.trans ho.2.1), ho3.2.2.trans (kk.output.trans ho.2.2), ?_, fun b hb hn => ?_⟩, fun r o ho => ?_⟩
  · have := hV2.bound b i (.inl hb); omega
  · have := hV2.live r o ho; exact ⟨this.1, by have h2 := this.2; show g' r < _; have h2 : g' r < w2.heap.size := h2; omega⟩
  · obtain ⟨Y, k1, k2, k3, k4, k5, k6⟩ := hV2.cells r c hc
    exact ⟨Y, (hk3 _ (hV2.live r _ hc).2 (hnx r _ hc)).trans k1, k2, k3, k4, k5, fun i x a e1 e2 => (k6 i x a e1 e2).fwd f2⟩
  · obtain ⟨k0, fn, T, k1, k2, k3⟩ := hV2.loop r l hl
    exact ⟨k0, fn, T, (hk3 _ (hV2.live r _ hl).2 (hnx r _ hl)).trans k1, k2, fun i a e => by obtain ⟨x, e1, e2⟩ := k3 i a e; exact ⟨x, e1, e2.fwd f2⟩⟩
  · exact (hk3 _ (hV2.live r _ hr).2 (hnx r _ hr)).trans (hV2.mark r hr)
  · have := kk.size; omega
  · have hnX : ¬ X b := fun e => by have := (hX b e).1; omega
    have := kk.size
    rw [hk3 b (by omega) hnX, kk.block b (by omega) hn, hk b hb]
  · rcases t.old r o ho with e | e
    · exact .inl (by have : w1.heap.size ≤ (h1.mem res g' q').pos r := e; omega)
    · exact .inr e
end
end Go.Proofs.YtaoglkkdhdfioaaDoor
