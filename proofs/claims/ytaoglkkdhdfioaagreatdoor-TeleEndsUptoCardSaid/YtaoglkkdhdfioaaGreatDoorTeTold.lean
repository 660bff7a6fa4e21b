/- throw.Told: what a call tells, or the error that it throws. -/
import Derived.Test.YtaoglkkdhdfioaaGreatDoorEvWk
import Derived.Test.YtaoglkkdhdfioaaGreatDoorEvZ
import Derived.Recover
import Derived.Lib.Hide
import Derived.WalkKit
import Derived.WalkSpells
import Derived.KernelRfl
import Derived.Test.YtaoglkkdhdfioaaGreatDoorProg
namespace Go.Proofs.YtaoglkkdhdfioaaGreatDoor
open Go Go.Proofs
set_option maxRecDepth 100000
set_option maxHeartbeats 2000000
theorem cell_one {w : World} {b : Nat} {e : TypeId} {u : Value} (h : w.heap[b]? = some (.cells #[u] e (0, 0))) : w.cell? ⟨b, 0, none⟩ = some u := by simp [World.cell?, h]
theorem free_one {w : World} {b : Nat} {e : TypeId} {u : Value} (h : w.heap[b]? = some (.cells #[u] e (0, 0))) : w.frozen? ⟨b, 0, none⟩ = false := by simp [World.frozen?, h]
theorem heap_new (w : World) (o : Obj) : (w.alloc o).heap[w.heap.size]? = some o := by
  show (w.heap.push o)[w.heap.size]? = _
  rw [Array.getElem?_push, if_pos rfl]
theorem heap_old (w : World) (o : Obj) (b : Nat) (h : b < w.heap.size) : (w.alloc o).heap[b]? = w.heap[b]? := by
  show (w.heap.push o)[b]? = _
  rw [Array.getElem?_push, if_neg (by omega)]
theorem heap_set (w : World) (a : Addr) (u : Value) (k : Nat) (h : k ≠ a.block) : (w.setCell a u).heap[k]? = w.heap[k]? := by
  simp only [World.setCell, Array.getElem?_modify]
  rw [if_neg (by omega)]
theorem size_set (w : World) (a : Addr) (u : Value) : (w.setCell a u).heap.size = w.heap.size := by simp [World.setCell]
theorem size_new (w : World) (o : Obj) : (w.alloc o).heap.size = w.heap.size + 1 := Array.size_push _
theorem heap_at (w : World) (o : Obj) (b : Nat) (h : b = w.heap.size) : (w.alloc o).heap[b]? = some o := h ▸ heap_new w o
theorem thrown_any (k o : Int) (w : World) : Calls Tryz.prog 111 #[.iface 69 (.int .i64 k), .int .i64 o] w (fun e w' => e = .returned (.int .i64 k) ∧ w' = w) := by
  have hta : ∀ w, (Instr.typeAssert (.iface 69 (.int .i64 k)) 20 69 true).run Tryz.prog w = .ok (.tuple #[.int .i64 k, .bool true]) w := fun _ => by kernel_rfl
  go_enter Tryz.func111, Tryz.ntmps111
  go_wp2
  go_ret
  exact ⟨rfl, rfl⟩
theorem told_idle (p : Array Value) (hp : p.size = 3) (w : World) :
    CallsD Tryz.prog 110 p .returning w fun e u' w' => e = .returned (.tuple #[]) ∧ u' = .returning ∧ w' = w := by
  obtain ⟨p0, p1, p2, rfl⟩ : ∃ p0 p1 p2, p = #[p0, p1, p2] := by
    obtain ⟨l⟩ := p
    match l, hp with
    | [a, b, c], _ => exact ⟨a, b, c, rfl⟩
  refine callsD_of_wpS Tryz.func110 rfl fun c₀ cs hu => ?_
  apply wpS_seq
  apply wpS_region
  simp [wpOpsS, go_sem, recoverD, hu, Tryz.ntmps110, Exit.thenS]
  apply wpS_seq
  apply wpS_region
  simp [wpOpsS, go_sem, Exit.thenS]
  refine wpS_cond (t := false) (by simp [Act.eval, Array.replicate]) ?_
  simp only [Bool.false_eq_true, if_false]
  refine wpS_of_wp (wp_skip ?_)
  cases c₀
  simp_all [bodyPostS, results, Tryz.results110]
theorem told_catch (g0 g1 g2 : Nat) (k o : Int) (x y : Value) (older : List PanicEntry) (w : World) (h0 : w.cell? ⟨g0, 0, none⟩ = some (.int .i64 o)) (h1 : w.cell? ⟨g1, 0, none⟩ = some x) (h2 : w.cell? ⟨g2, 0, none⟩ = some y) (z1 : w.frozen? ⟨g1, 0, none⟩ = false) (z2 : w.frozen? ⟨g2, 0, none⟩ = false) (hne : g1 ≠ g2) :
    CallsD Tryz.prog 110 #[.pointer (some ⟨g0, 0, none⟩), .pointer (some ⟨g1, 0, none⟩), .pointer (some ⟨g2, 0, none⟩)] (.panicking ({ v := .iface 69 (.int .i64 k), recovered := false } :: older)) w fun e u' w' =>
      e = .returned (.tuple #[]) ∧ u' = .panicking ({ v := .iface 69 (.int .i64 k), recovered := true } :: older) ∧ w' = (w.setCell ⟨g1, 0, none⟩ (.int .i64 0)).setCell ⟨g2, 0, none⟩ (.int .i64 k) := by
  have hta : ∀ w, (Instr.typeAssert (.iface 69 (.int .i64 k)) 20 69 true).run Tryz.prog w = .ok (.tuple #[.int .i64 k, .bool true]) w := fun _ => by kernel_rfl
  refine callsD_of_wpS Tryz.func110 rfl fun c₀ cs hu => ?_
  apply wpS_seq
  apply wpS_region
  simp [wpOpsS, go_sem, recoverD, hu, Tryz.ntmps110, Exit.thenS]
  apply wpS_seq
  apply wpS_region
  simp [wpOpsS, go_sem, Exit.thenS]
  refine wpS_cond (t := true) (by simp [Act.eval, Array.replicate]) ?_
  simp only [if_true]
  refine wpS_of_wp ?_
  simp only [Array.replicate, List.replicate, List.append_toArray, List.setIfInBounds_toArray, List.set]
  go_wp2_with (fail)
  refine (thrown_any k o w).mono ?_
  rintro e w2 ⟨rfl, rfl⟩
  have e2 : (w2.setCell ⟨g1, 0, none⟩ (.int .i64 0)).cell? ⟨g2, 0, none⟩ = some y := (World.cell?_setCell_other _ _ _ _ (by intro e; exact hne (congrArg (fun a : Addr => a.block) e))).trans h2
  have z3 : (w2.setCell ⟨g1, 0, none⟩ (.int .i64 0)).frozen? ⟨g2, 0, none⟩ = false := by rw [World.frozen?_setCell]; exact z2
  go_wp2
  cases c₀
  simp_all [bodyPostS, results, Tryz.results110]
theorem told_sound (fid : Nat) {fn : Func} {c : Code} (hf : Tryz.prog.funcs[fid]? = some fn) (hb : fn.body = some c) (hn : (fn.name == "runtime.NumGoroutine") = false) (hcall : ∀ vs w, (callFunc fid vs).run Tryz.prog w = .ok (.enter fid vs) w) (o : Int) {cap : List AV} {h h1 : AH} {r : Res} {m k : Int}
    (hs : Sound Tryz.prog (.call (.func fid) [] cap h) (.call r h1)) (hr : (r = .ret (eInt m) ∧ k = 0) ∨ (r = .pan (.ifc 69 (eInt k)) ∧ m = 0)) :
    Sound Tryz.prog (.call (.func 76) [eInt o, .clo (.func fid) [] cap] [] h) (.call (.ret (.tup [eInt m, eInt k])) h1) := by
  refine sound_of rfl rfl rfl fun res g q us cs w hV hu hc => ?_
  obtain ⟨v0, v1, rfl⟩ : ∃ v0 v1, us = #[v0, v1] := by
    obtain ⟨l⟩ := us
    have := hu.1
    match l, this with
    | [a, b], _ => exact ⟨a, b, rfl⟩
  obtain rfl : cs = #[] := Array.eq_empty_of_size_eq_zero hc.1
  have d0 := hu.2 0 v0 _ rfl rfl
  have d1 := hu.2 1 v1 _ rfl rfl
  obtain rfl := den_raw d0
  cases d1 with
  | clo hf1 hc1 k1 k2 =>
    rename_i f1 c1
    obtain rfl : f1 = #[] := Array.eq_empty_of_size_eq_zero hf1
    have hcap : DenL (h.mem res g q) w c1 cap := ⟨hc1, k2⟩
    obtain ⟨w1, hw1⟩ : ∃ x, ((w.alloc (.cells #[.int .i64 o] 69)).alloc (.cells #[.int .i64 0] 3)).alloc (.cells #[.int .i64 0] 69) = x := ⟨_, rfl⟩
    have hs1 : w1.heap.size = w.heap.size + 3 := by rw [← hw1, size_new, size_new, size_new]
    have hk1 : ∀ b, b < w.heap.size → w1.heap[b]? = w.heap[b]? := fun b hb => by
      rw [← hw1, heap_old _ _ _ (by rw [size_new, size_new]; omega), heap_old _ _ _ (by rw [size_new]; omega), heap_old _ _ _ hb]
    have x0 : w1.heap[w.heap.size]? = some (.cells #[.int .i64 o] 69 (0, 0)) := by
      rw [← hw1, heap_old _ _ _ (by rw [size_new, size_new]; omega), heap_old _ _ _ (by rw [size_new]; omega)]; exact heap_new _ _
    have x1 : w1.heap[w.heap.size + 1]? = some (.cells #[.int .i64 0] 3 (0, 0)) := by
      rw [← hw1, heap_old _ _ _ (by rw [size_new, size_new]; omega)]; exact heap_at _ _ _ (by rw [size_new])
    have x2 : w1.heap[w.heap.size + 1 + 1]? = some (.cells #[.int .i64 0] 69 (0, 0)) := by
      rw [← hw1]; exact heap_at _ _ _ (by rw [size_new, size_new])
    have ho1 : w1.os = w.os ∧ w1.tape = w.tape ∧ w1.output = w.output := by rw [← hw1]; exact ⟨rfl, rfl, rfl⟩
    have hX : ∀ b, (fun b => w.heap.size ≤ b ∧ b < w.heap.size + 3) b → w.heap.size ≤ b ∧ b < w1.heap.size := fun b hb => ⟨hb.1, by omega⟩
    have hV1 := aside_rel (X := fun b => w.heap.size ≤ b ∧ b < w.heap.size + 3) hV hX (by omega) hk1
    have hF1 := aside_fwd (h := h) (res := res) (g := g) (q := q) (X := fun b => w.heap.size ≤ b ∧ b < w.heap.size + 3) (fun b hb => hb.1) (by omega : w.heap.size ≤ w1.heap.size) hk1
    have hcalls := sound_calls (us := #[]) (cs := c1) hs hf hb hn hV1 ⟨rfl, fun i x a e1 e2 => by simp at e2⟩ (hcap.fwd hF1)
    rw [Array.empty_append] at hcalls
    have HA := Lib.hid hcalls
    have X0 := Lib.hid x0
    have X1 := Lib.hid x1
    have X2 := Lib.hid x2
    have HS1 := Lib.hid hs1
    have HV := Lib.hid (And.intro hV (And.intro hX (And.intro hk1 ho1)))
    have hmf : ∀ (W : World), (Instr.makeFunc (.func 110) #[] #[.pointer (some ⟨w.heap.size, 0, none⟩), .pointer (some ⟨w.heap.size + 1, 0, none⟩), .pointer (some ⟨w.heap.size + 1 + 1, 0, none⟩)]).run Tryz.prog W = .ok (.func (.func 110) #[] #[.pointer (some ⟨w.heap.size, 0, none⟩), .pointer (some ⟨w.heap.size + 1, 0, none⟩), .pointer (some ⟨w.heap.size + 1 + 1, 0, none⟩)]) W := fun _ => by first | rfl | kernel_rfl
    clear hu hc hV d0 hcap hV1 hF1 hcalls hs1 x0 x1 x2 hX hk1 ho1 k1 k2 hc1 hf1
    go_enter_defers Tryz.func76, Tryz.ntmps76
    go_wp2_with (fail)
    refine HA.out.mono ?_
    rintro e w2 ⟨g', q', t, hd⟩
    obtain ⟨hV, hX, hk1, ho1⟩ := HV.out
    have hs1 := HS1.out
    have hk2 : ∀ b, w.heap.size ≤ b → b < w1.heap.size → w2.heap[b]? = w1.heap[b]? := fun b h1 h2 => t.keep.block b h2 fun r o ho e => by
      have := (hV.live r o ho).2
      have e : (h.mem res g q).pos r = b := e
      omega
    have hs2 := t.keep.size
    have X0 := Lib.hid ((hk2 _ (by omega) (by omega)).trans X0.out)
    have X1 := Lib.hid ((hk2 _ (by omega) (by omega)).trans X1.out)
    have X2 := Lib.hid ((hk2 _ (by omega) (by omega)).trans X2.out)
    have y0 := cell_one X0.out
    have y1 := cell_one X1.out
    have y2 := cell_one X2.out
    have f1 := free_one X1.out
    have f2 := free_one X2.out
    have e2 : ∀ v, (w2.setCell ⟨w.heap.size + 1, 0, none⟩ v).cell? ⟨w.heap.size + 1 + 1, 0, none⟩ = some (.int .i64 0) := fun v => (World.cell?_setCell_other _ _ _ _ (by intro e; have := congrArg (fun a : Addr => a.block) e; simp at this)).trans y2
    have hback : ∀ v v', To (h.mem res g q) w (h1.mem res g' q') ((w2.setCell ⟨w.heap.size + 1, 0, none⟩ v).setCell ⟨w.heap.size + 1 + 1, 0, none⟩ v') := fun v v' =>
      back_to hV hX (by omega) hk1 ho1 t (by rw [size_set, size_set]) (fun b hb hn => by
        have hn : ¬ (w.heap.size ≤ b ∧ b < w.heap.size + 3) := hn
        rw [heap_set _ _ _ _ (by show b ≠ w.heap.size + 1 + 1; omega), heap_set _ _ _ _ (by show b ≠ w.heap.size + 1; omega)]) ⟨rfl, rfl, rfl⟩
    have q1 : ∀ v v', ((w2.setCell ⟨w.heap.size + 1, 0, none⟩ v).setCell ⟨w.heap.size + 1 + 1, 0, none⟩ v').cell? ⟨w.heap.size + 1, 0, none⟩ = some v := fun v v' =>
      (World.cell?_setCell_other _ _ _ _ (by intro e; have := congrArg (fun a : Addr => a.block) e; simp at this)).trans (World.cell?_setCell_same _ _ _ y1)
    have q2 : ∀ v v', ((w2.setCell ⟨w.heap.size + 1, 0, none⟩ v).setCell ⟨w.heap.size + 1 + 1, 0, none⟩ v').cell? ⟨w.heap.size + 1 + 1, 0, none⟩ = some v' := fun v v' => World.cell?_setCell_same _ _ _ (e2 v)
    have HB := Lib.hid hback
    have HQ1 := Lib.hid q1
    have HQ2 := Lib.hid q2
    clear hV hX hk1 ho1 hk2 t hback q1 q2 X0 X1 X2
    rcases hr with ⟨rfl, rfl⟩ | ⟨rfl, rfl⟩
    · cases e <;> try exact hd.elim
      have hd := den_raw hd
      subst hd
      clear hs1 hs2
      go_wp2
      refine leaves_cons (f := 110) (args := #[.pointer (some ⟨w.heap.size, 0, none⟩), .pointer (some ⟨w.heap.size + 1, 0, none⟩), .pointer (some ⟨w.heap.size + 1 + 1, 0, none⟩)]) (by simp) (by simp [go_sem]) ?_
      refine (told_idle _ rfl _).mono ?_
      rintro e u' w'' ⟨rfl, rfl, rfl⟩
      have q1 := HQ1.out (.int .i64 m) (.int .i64 0)
      have q2 := HQ2.out (.int .i64 m) (.int .i64 0)
      have hx := HB.out (.int .i64 m) (.int .i64 0)
      simp [Leaves, settle, results, Tryz.results76, go_sem, q1, q2]
      exact ⟨g', q', hx, .tup rfl (DenL.raws _ _ #[.int .i64 m, .int .i64 0]).2⟩
    · cases e <;> try exact hd.elim
      obtain ⟨v, rfl, hd⟩ := hd
      cases hd with
      | ifc hd =>
        have hd := den_raw hd
        subst hd
        clear hs1 hs2
        go_wp2
        refine leaves_cons (f := 110) (args := #[.pointer (some ⟨w.heap.size, 0, none⟩), .pointer (some ⟨w.heap.size + 1, 0, none⟩), .pointer (some ⟨w.heap.size + 1 + 1, 0, none⟩)]) (by simp) (by simp [go_sem]) ?_
        refine (told_catch _ _ _ k o _ _ [] _ y0 y1 y2 f1 f2 (by omega)).mono ?_
        rintro e u' w'' ⟨rfl, rfl, rfl⟩
        have q1 := HQ1.out (.int .i64 0) (.int .i64 k)
        have q2 := HQ2.out (.int .i64 0) (.int .i64 k)
        have hx := HB.out (.int .i64 0) (.int .i64 k)
        simp [Leaves, settle, results, Tryz.results76, go_sem, q1, q2]
        exact ⟨g', q', hx, .tup rfl (DenL.raws _ _ #[.int .i64 0, .int .i64 k]).2⟩
theorem gives_told (fid : Nat) {fn : Func} {c : Code} (hf : Tryz.prog.funcs[fid]? = some fn) (hb : fn.body = some c) (hn : (fn.name == "runtime.NumGoroutine") = false) (hcall : ∀ vs w, (callFunc fid vs).run Tryz.prog w = .ok (.enter fid vs) w) (o : Int) {cap : List AV} {h : AH} {R : Res → AH → Prop}
    (hk : Gives Tryz.prog (.func fid) [] cap h fun r h1 => (∃ m, r = .ret (eInt m) ∧ R (.ret (.tup [eInt m, eInt 0])) h1) ∨ ∃ k, r = .pan (.ifc 69 (eInt k)) ∧ R (.ret (.tup [eInt 0, eInt k])) h1) : Gives Tryz.prog (.func 76) [eInt o, .clo (.func fid) [] cap] [] h R := by
  obtain ⟨r, h1, k1, k2⟩ := hk
  rcases k2 with ⟨m, rfl, k2⟩ | ⟨k, rfl, k2⟩
  · exact ⟨_, _, .known (told_sound fid hf hb hn hcall o (sound k1) (.inl ⟨rfl, rfl⟩)), k2⟩
  · exact ⟨_, _, .known (told_sound fid hf hb hn hcall o (sound k1) (.inr ⟨rfl, rfl⟩)), k2⟩
end Go.Proofs.YtaoglkkdhdfioaaGreatDoor
