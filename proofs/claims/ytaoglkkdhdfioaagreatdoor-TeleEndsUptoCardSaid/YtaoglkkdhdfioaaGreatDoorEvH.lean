/- What runs: code, operations one behind the other, calls; and that the model runs so. -/
import Derived.Test.YtaoglkkdhdfioaaGreatDoorEvG
import Derived.Shelf.Abstract
namespace Go.Proofs.YtaoglkkdhdfioaaGreatDoor
open Go

inductive Ex where
  | normal
  | exit (id : Nat)
  | ret
  | pan (v : AV)
inductive Res where
  | ret (v : AV)
  | pan (v : AV)
inductive Task where
  | code (c : Code) (f : AF) (h : AH)
  | ops (ops : Array Oper) (l : List Nat) (f : AF) (h : AH)
  | call (fn : Fn) (args cap : List AV) (h : AH)
  | iter (c : Code) (k : Nat) (f : AF) (h : AH)
  | yld (r : Nat) (args : List AV) (h : AH)
  | heads (ops : Array Oper) (n0 : Nat) (l : List Nat) (f : AF) (h : AH) (ys : List AV) (B : List (Option Cells))
inductive Out where
  | code (e : Ex) (f : AF) (h : AH)
  | call (r : Res) (h : AH)
def AF.put (f : AF) (d : Option Tmp) (y : AV) : AF := match d with
  | some d => { f with t := f.t.set d y }
  | none => f
/-- is the operation wanted? -/
def guardA (ops : Array Oper) (f : AF) (o : Oper) : Option Bool :=
  match o.guard with
  | none => some true
  | some (j, want) => match (ops[j]?).bind (·.dst) with
    | none => some false
    | some d => match f.t.get d with
      | some (.raw (.bool b)) => some (b == want)
      | some (.raw (.tuple _)) => some false
      | _ => none
/-- the loop's variables, as a round finds them -/
def givenA (t : Slots) (ps : List Tmp) (args : List AV) : Slots := (ps.zip args).foldl (fun t p => t.set p.1 p.2) t
/-- how a round is left -/
def leftA : Ex → Option (Bool × LoopState × Option Code)
  | .normal => some (true, .ready, none)
  | .exit id => some (false, .done, some (.exit id))
  | .ret => some (false, .done, some .ret)
  | .pan _ => none
def AH.without : List (Nat × Blk) → Nat → List (Nat × Blk)
  | [], _ => []
  | (s, o) :: l, r => if r = s then AH.without l r else (s, o) :: AH.without l r
def AH.drop1 (h : AH) (r : Nat) : AH := { h with blk := AH.without h.blk r }
def AH.drop (h : AH) : List Nat → AH
  | [] => h
  | r :: l => (h.drop1 r).drop l
/-- the results' values -/
def resA (P : Program) (h : AH) (f : AF) : List ResultVar → Option (List AV)
  | [] => some []
  | .tmp t :: l => match f.t.get t, resA P h f l with
    | some a, some zs => some (a :: zs)
    | _, _ => none
  | .cell x t :: l => match rLoad P h f t (.tmp x), resA P h f l with
    | some a, some zs => some (a :: zs)
    | _, _ => none
def resultA (P : Program) (h : AH) (f : AF) (fn : Func) : Option AV :=
  match resA P h f fn.results.toList with
  | some [a] => some a
  | some zs => some (.tup zs)
  | none => none
def zipA : Nat → List AV → List (Nat × AV)
  | _, [] => []
  | k, a :: l => (k, a) :: zipA (k + 1) l
def AF.start (args : List AV) (n : Nat) : AF := ⟨⟨args.length + (n - args.length), zipA 0 args⟩, [], none⟩
/-- what is known of some slots alone -/
def AF.keep (f : AF) (L : List Nat) : AF := { f with t := { f.t with l := f.t.l.filter fun p => L.contains p.1 } }
/-- what the operations yield, all at once -/
def AF.puts (f : AF) (ops : Array Oper) (ys : List AV) : AF := (ys.zipIdx).foldl (fun f p => f.put ((ops[p.2]?).bind (·.dst)) p.1) f
/-- what they make -/
def news (n0 : Nat) : Nat → List (Option Cells) → List (Nat × Blk)
  | _, [] => []
  | k, none :: l => news n0 (k + 1) l
  | k, some c :: l => (n0 + k, Blk.cells c) :: news n0 (k + 1) l
def AH.adds (h : AH) (n0 : Nat) (B : List (Option Cells)) : AH := { next := n0 + B.length, hid := h.hid.filter (· < n0), blk := h.blk ++ news n0 0 B }
def edgeB (ops : Array Oper) (i j : Nat) : Bool := match ops[i]? with
  | some o => o.after.any fun e => Region.binds .any e && e.on == j
  | none => false
/-- the first n in whatever order, the rest one behind the other -/
def drawB (ops : Array Oper) (n k : Nat) : Bool :=
  Region.noSelect ops && decide (n ≤ ops.size) &&
  ((List.range ops.size).all fun i => match ops[i]? with
    | none => true
    | some o => (match o.dst with | some d => decide (d < k) | none => true) && (o.after.all fun e => !Region.binds .any e || decide (e.on < i))) &&
  ((List.range n).all fun i => match ops[i]? with
    | none => true
    | some o => (List.range ops.size).all fun j => match (ops[j]?).bind (·.dst) with
      | none => true
      | some d => (!(o.looksAt ops).contains d || edgeB ops i j) && (j == i || o.dst != some d)) &&
  ((List.range n).all fun i => (n == ops.size) || (List.range (n + 1)).any fun s => decide (i < s) && edgeB ops s i) &&
  ((List.range ops.size).all fun k => decide (k ≤ n) || edgeB ops k (k - 1))
def AH.zero : AH := ⟨0, [], []⟩
/-- an operation tells y, whatever there is besides -/
def QOk (P : Program) (h : AH) (f : AF) (o : Oper) (y : AV) : Prop := ∀ (V : Mem) (w : World) (f' : AF) (a : Act), Rel V w → Agr h V → FrDen V w f' a → (∀ x ∈ o.op.operands.toList, f'.ev x = f.ev x) → ∃ v, (execOp a.eval o).run P w = .ok (.value v) w ∧ Den V w v y
/-! ### Rows that stand for ever, seen as values -/
inductive SnapH (h : AH) : List (Nat × Blk) → List (Nat × Blk) → Prop
  | nil : SnapH h [] []
  | same {p : Nat × Blk} {us bs : List (Nat × Blk)} (ht : SnapH h us bs) : SnapH h (p :: us) (p :: bs)
  | cells {r : Nat} {c : Cells} {cs : List AV} {l : List (Nat × Nat)} {us bs : List (Nat × Blk)} (hs : SnapL h c.cs cs l) (hl : Sealed h l) (ht : SnapH h us bs) : SnapH h ((r, .cells c) :: us) ((r, .cells { c with cs := cs }) :: bs)
inductive SnapS (h : AH) : List (Nat × AV) → List (Nat × AV) → Prop
  | nil : SnapS h [] []
  | same {p : Nat × AV} {us bs : List (Nat × AV)} (ht : SnapS h us bs) : SnapS h (p :: us) (p :: bs)
  | snap {i : Nat} {a b : AV} {l : List (Nat × Nat)} {us bs : List (Nat × AV)} (hs : SnapL h [a] [b] l) (hl : Sealed h l) (ht : SnapS h us bs) : SnapS h ((i, a) :: us) ((i, b) :: bs)
/-! ### What is of the blocks of a stretch alone -/
inductive Of (S : Nat → Prop) : AV → Prop
  | raw (v : Value) : Of S (.raw v)
  | agg {cs : List AV} (h : ∀ a ∈ cs, Of S a) : Of S (.agg cs)
  | tup {cs : List AV} (h : ∀ a ∈ cs, Of S a) : Of S (.tup cs)
  | vals {sz : Nat} {es : List AV} (h : ∀ e ∈ es, Of S e) : Of S (.vals sz es)
  | emp : Of S .emp
  | row {r k off len : Nat} (h : S r) : Of S (.row r k off len)
  | ptr {r k off : Nat} (h : S r) : Of S (.ptr r k off)
  | vptr {cs : List AV} (h : ∀ a ∈ cs, Of S a) : Of S (.vptr cs)
  | clo {fn : Fn} {fs cs : List AV} (h1 : ∀ a ∈ fs, Of S a) (h2 : ∀ a ∈ cs, Of S a) : Of S (.clo fn fs cs)
  | yld {r : Nat} (h : S r) : Of S (.yld r)
  | ifc {t : TypeId} {a : AV} (h : Of S a) : Of S (.ifc t a)
def OfB (S : Nat → Prop) : Blk → Prop
  | .cells c => ∀ a ∈ c.cs, Of S a
  | .loop l => S l.mark ∧ ∀ i a, l.tmps.get i = some a → Of S a
  | .mark => True
def AH.has (h : AH) (r : Nat) : Prop := r < h.next ∧ r ∉ h.hid
/-- what was there ahead of h is all that is kept -/
def AH.cut (h' h : AH) : AH := { next := h.next, hid := h.hid, blk := h'.blk.filter fun p => decide (p.1 < h.next) && !h.hid.contains p.1 }
/-! ### That the model runs so -/
def EDen (V : Mem) (w : World) : Exit → Ex → Prop
  | .normal, .normal => True
  | .exit id, .exit id' => id = id'
  | .ret, .ret => True
  | .panic ch, .pan y => ∃ v, ch = [{ v, recovered := false }] ∧ Den V w v y
  | _, _ => False
def RDen (V : Mem) (w : World) : Ending → Res → Prop
  | .returned v, .ret y => Den V w v y
  | .panicked ch, .pan y => ∃ v, ch = [{ v, recovered := false }] ∧ Den V w v y
  | _, _ => False
structure FOk (F : Fence) : Prop where
  fn : ∀ f, F.fn f
  depth : F.depth = none
  alive : F.alive = false
/-- the frame's round is the fence's -/
structure ROk (F : Fence) (V : Mem) (f : AF) : Prop where
  same : F.round.isSome = f.rnd.isSome
  born : ∀ r, f.rnd = some r → V.born r
  pos : ∀ r l, f.rnd = some r → V.blk r = some (.loop l) → F.round = some (V.pos r)
theorem ROk.fwd {F : Fence} {V V' : Mem} {w w' : World} {f f' : AF} (h : ROk F V f) (hf : Fwd V w V' w') (e : f'.rnd = f.rnd) : ROk F V' f' :=
  ⟨by rw [e]; exact h.same, fun r hr => hf.born r (h.born r (e ▸ hr)), fun r l hr hl => by
    obtain ⟨l0, h1, h2⟩ := hf.loop r l (h.born r (e ▸ hr)) hl
    rw [h2]; exact h.pos r l0 (e ▸ hr) h1⟩
/-- the call leads on -/
def CallOk (F : Fence) (n : Nat) (P : Program) (s : Sem Next) (w : World) (R : Ending → World → Prop) : Prop :=
  match s.run P w with
  | .ok (.enter f args) w' => CallsIn F (n - 1) P f args w' R
  | .ok (.round l f tmps zs body) w' => RoundIn F (n - 1) P l f tmps zs body w' R
  | .ok (.value v) w' => R (.returned v) w'
  | _ => False
def Post (V : Mem) (w : World) (h' : AH) (res : Nat → Nat → Prop) (X : Mem → World → Prop) (w' : World) : Prop := ∃ g' q', To V w (h'.mem res g' q') w' ∧ X (h'.mem res g' q') w'
theorem Post.trans {V1 : Mem} {w1 w2 w3 : World} {h2 h3 : AH} {res : Nat → Nat → Prop} {g q : Nat → Nat} {X : Mem → World → Prop} (h : To V1 w1 (h2.mem res g q) w2) (k : Post (h2.mem res g q) w2 h3 res X w3) : Post V1 w1 h3 res X w3 := by
  obtain ⟨g', q', k1, k2⟩ := k
  exact ⟨g', q', h.trans k1, k2⟩
def codePost (V : Mem) (w : World) (h' : AH) (res : Nat → Nat → Prop) (e : Ex) (f' : AF) (e1 : Exit) (a1 : Act) (w1 : World) : Prop :=
  Post V w h' res (fun V' w' => EDen V' w' e1 e ∧ FrDen V' w' f' a1) w1
/-- code, soundly -/
def SoundC (P : Program) (c : Code) (f : AF) (h : AH) (e : Ex) (f' : AF) (h' : AH) : Prop :=
  f'.rnd = f.rnd ∧ ∀ (F : Fence) (n : Nat) (res : Nat → Nat → Prop) (g q : Nat → Nat) (a : Act) (w : World), FOk F → ROk F (h.mem res g q) f → Rel (h.mem res g q) w → FrDen (h.mem res g q) w f a → c.wpIn F n P (codePost (h.mem res g q) w h' res e f') a w
def Chain (P : Program) (c : Code) : Nat → AF → AH → Ex → AF → AH → Prop
  | 0, f, h, e, f', h' => SoundC P c f h e f' h' ∧ e ≠ .normal
  | k + 1, f, h, e, f', h' => ∃ f1 h1, SoundC P c f h .normal f1 h1 ∧ Chain P c k f1 h1 e f' h'
/-- an operation of the head: in whatever order -/
def HeadOk (P : Program) (ops : Array Oper) (n0 : Nat) (f : AF) (h : AH) (ys : List AV) (B : List (Option Cells)) (i : Nat) : Prop :=
  ∃ o y b, ops[i]? = some o ∧ ys[i]? = some y ∧ B[i]? = some b ∧ ∀ (F : Fence) (n : Nat) (V : Mem) (w : World) (fS : AF) (a : Act) (K : Act → World → Prop) (Q : Exit → Act → World → Prop), FOk F → Rel V w → Agr h V → FrDen V w fS a →
    (∀ x ∈ o.op.operands.toList, fS.ev x = f.ev x) → guardA ops fS o = guardA ops f o → ¬ V.born (n0 + i) →
    (match b with
      | none => ∀ v w', To V w V w' → Den V w' v y → K (a.put o.dst v) w'
      | some c => ∀ v w' m, To V w (V.upd (n0 + i) (some (.cells c)) w.heap.size m) w' → Den (V.upd (n0 + i) (some (.cells c)) w.heap.size m) w' v y → K (a.put o.dst v) w') → wpOpIn F n P ops Q i K a w
def Sound (P : Program) : Task → Out → Prop
  | .code c f h, .code e f' h' => SoundC P c f h e f' h'
  | .ops ops l f h, .code e f' h' => f'.rnd = f.rnd ∧ ∀ (F : Fence) (n : Nat) (res : Nat → Nat → Prop) (g q : Nat → Nat) (a : Act) (w : World), FOk F → ROk F (h.mem res g q) f → Rel (h.mem res g q) w → FrDen (h.mem res g q) w f a → wpOpsIn F n P ops (codePost (h.mem res g q) w h' res e f') l a w
  | .call fn args cap h, .call r h' => ∀ (F : Fence) (n : Nat) (res : Nat → Nat → Prop) (g q : Nat → Nat) (us cs : Array Value) (w : World), FOk F → Rel (h.mem res g q) w → DenL (h.mem res g q) w us args → DenL (h.mem res g q) w cs cap →
      CallOk F n P (invoke (.fn fn cs) us) w fun e w1 => Post (h.mem res g q) w h' res (fun V' w' => RDen V' w' e r) w1
  | .iter c k f h, .code e f' h' => Chain P c k f h e f' h'
  | .yld r args h, .call y h' => (∃ L, h.get r = some (.loop L)) ∧ ∀ (F : Fence) (n : Nat) (res : Nat → Nat → Prop) (g q : Nat → Nat) (us : Array Value) (w : World), FOk F → Rel (h.mem res g q) w → DenL (h.mem res g q) w us args →
      CallOk F n P (Instr.yield (g r) us) w fun e w1 => Post (h.mem res g q) w h' res (fun V' w' => RDen V' w' e y) w1
  | .heads ops n0 l f h ys B, .code _ _ _ => ∀ i ∈ l, HeadOk P ops n0 f h ys B i
  | _, _ => False
inductive Run (P : Program) : Task → Out → Prop
  | ops_nil {ops : Array Oper} {f : AF} {h : AH} : Run P (.ops ops [] f h) (.code .normal f h)
  | ops_off {ops : Array Oper} {i : Nat} {l : List Nat} {o : Oper} {f : AF} {h : AH} {out : Out} (ho : ops[i]? = some o) (hg : guardA ops f o = some false) (hr : Run P (.ops ops l (f.put o.dst (.raw undef)) h) out) : Run P (.ops ops (i :: l) f h) out
  | ops_q {ops : Array Oper} {i : Nat} {l : List Nat} {o : Oper} {f : AF} {h : AH} {out : Out} {y : AV} (ho : ops[i]? = some o) (hg : guardA ops f o = some true) (hy : qop P h f o = some y) (hr : Run P (.ops ops l (f.put o.dst y) h) out) : Run P (.ops ops (i :: l) f h) out
  | ops_s {ops : Array Oper} {i : Nat} {l : List Nat} {o : Oper} {f : AF} {h : AH} {out : Out} {y : AV} (ho : ops[i]? = some o) (hg : guardA ops f o = some true) (hy : QOk P h f o y) (hr : Run P (.ops ops l (f.put o.dst y) h) out) : Run P (.ops ops (i :: l) f h) out
  | ops_n {ops : Array Oper} {i : Nat} {l : List Nat} {o : Oper} {f : AF} {h : AH} {out : Out} {y : Nat → AV} {c : Cells} (ho : ops[i]? = some o) (hg : guardA ops f o = some true) (hy : nop P h f o = some (y, c)) (hr : Run P (.ops ops l (f.put o.dst (y h.next)) (h.new (.cells c))) out) : Run P (.ops ops (i :: l) f h) out
  | ops_m {ops : Array Oper} {i : Nat} {l : List Nat} {o : Oper} {f : AF} {h h' : AH} {out : Out} {y : AV} (ho : ops[i]? = some o) (hg : guardA ops f o = some true) (hy : mop P h f o = some (y, h')) (hr : Run P (.ops ops l (f.put o.dst y) h') out) : Run P (.ops ops (i :: l) f h) out
  | ops_call {ops : Array Oper} {i : Nat} {l : List Nat} {o : Oper} {f : AF} {h h' : AH} {out : Out} {c : Call} {x : Operand} {fn : Fn} {first cap args : List AV} {y : AV} (ho : ops[i]? = some o) (hg : guardA ops f o = some true) (hc : o.op = .call c) (hx : c.callee = .value x)
      (hf : f.ev x = some (.clo fn first cap)) (ha : f.evs c.args.toList = some args) (hk : Run P (.call fn (first ++ args) cap h) (.call (.ret y) h')) (hr : Run P (.ops ops l (f.put o.dst y) h') out) : Run P (.ops ops (i :: l) f h) out
  | ops_calx {ops : Array Oper} {i : Nat} {l : List Nat} {o : Oper} {f : AF} {h h' : AH} {c : Call} {x : Operand} {fn : Fn} {first cap args : List AV} {y : AV} (ho : ops[i]? = some o) (hg : guardA ops f o = some true) (hc : o.op = .call c) (hx : c.callee = .value x)
      (hf : f.ev x = some (.clo fn first cap)) (ha : f.evs c.args.toList = some args) (hk : Run P (.call fn (first ++ args) cap h) (.call (.pan y) h')) : Run P (.ops ops (i :: l) f h) (.code (.pan y) f h')
  | ops_panic {ops : Array Oper} {i : Nat} {l : List Nat} {o : Oper} {f : AF} {h : AH} {x : Operand} {t : TypeId} {y : AV} (ho : ops[i]? = some o) (hg : guardA ops f o = some true) (hc : o.op = .panic x) (hx : f.ev x = some (.ifc t y)) : Run P (.ops ops (i :: l) f h) (.code (.pan (.ifc t y)) f h)
  | skip {f : AF} {h : AH} : Run P (.code .skip f h) (.code .normal f h)
  | label {n : Nat} {f : AF} {h : AH} : Run P (.code (.label n) f h) (.code .normal f h)
  | seq {c d : Code} {f f' : AF} {h h' : AH} {out : Out} (h1 : Run P (.code c f h) (.code .normal f' h')) (h2 : Run P (.code d f' h') out) : Run P (.code (.seq c d) f h) out
  | seqx {c d : Code} {f f' : AF} {h h' : AH} {e : Ex} (h1 : Run P (.code c f h) (.code e f' h')) (he : e ≠ .normal) : Run P (.code (.seq c d) f h) (.code e f' h')
  | cond {x : Operand} {c d : Code} {f : AF} {h : AH} {out : Out} {b : Bool} (hb : f.ev x = some (.raw (.bool b))) (h1 : Run P (.code (if b then c else d) f h) out) : Run P (.code (.cond x c d) f h) out
  | block {id : Nat} {c : Code} {f f' : AF} {h h' : AH} {e : Ex} (h1 : Run P (.code c f h) (.code e f' h')) (he : e ≠ .exit id) : Run P (.code (.block id c) f h) (.code e f' h')
  | blockx {id : Nat} {c : Code} {f f' : AF} {h h' : AH} (h1 : Run P (.code c f h) (.code (.exit id) f' h')) : Run P (.code (.block id c) f h) (.code .normal f' h')
  | more {c : Code} {k : Nat} {f f' : AF} {h h' : AH} {out : Out} (h1 : Run P (.code c f h) (.code .normal f' h')) (h2 : Run P (.iter c k f' h') out) : Run P (.iter c (k + 1) f h) out
  | last {c : Code} {f f' : AF} {h h' : AH} {e : Ex} (h1 : Run P (.code c f h) (.code e f' h')) (he : e ≠ .normal) : Run P (.iter c 0 f h) (.code e f' h')
  | loop {c : Code} {k : Nat} {f : AF} {h : AH} {out : Out} (h1 : Run P (.iter c k f h) out) : Run P (.code (.loop c) f h) out
  | exit {id : Nat} {f : AF} {h : AH} : Run P (.code (.exit id) f h) (.code (.exit id) f h)
  | ret {f : AF} {h : AH} : Run P (.code .ret f h) (.code .ret f h)
  | region {id : Nat} {ops : Array Oper} {f : AF} {h : AH} {out : Out} (h1 : Run P (.ops ops (List.range ops.size) f h) out) : Run P (.code (.region id ops false) f h) out
  | enter {F : Nat} {fn : Func} {c : Code} {args cap : List AV} {h h' : AH} {f' : AF} {e : Ex} {y : AV} (hf : P.funcs[F]? = some fn) (hb : fn.body = some c) (hn : (fn.name == "runtime.NumGoroutine") = false)
      (h1 : Run P (.code c (AF.start (args ++ cap) fn.ntmps) h) (.code e f' h')) (he : e = .normal ∨ e = .ret) (hy : resultA P (h'.drop f'.marks) f' fn = some y) (hm : ∀ m ∈ f'.marks, h.next ≤ m) (hl : ∀ r l, h'.get r = some (.loop l) → l.mark ∉ f'.marks) : Run P (.call (.func F) args cap h) (.call (.ret y) (h'.drop f'.marks))
  | enterx {F : Nat} {fn : Func} {c : Code} {args cap : List AV} {h h' : AH} {f' : AF} {y : AV} (hf : P.funcs[F]? = some fn) (hb : fn.body = some c) (hn : (fn.name == "runtime.NumGoroutine") = false)
      (h1 : Run P (.code c (AF.start (args ++ cap) fn.ntmps) h) (.code (.pan y) f' h')) (hm : f'.marks = []) : Run P (.call (.func F) args cap h) (.call (.pan y) h')
  | pure {fn : Fn} {args cap args' cap' : List AV} {h h' : AH} {y z : AV} {L l l1 l2 : List (Nat × Nat)} (ha : SnapL (h.seals L) (args ++ cap) (args' ++ cap') l) (hal : args.length = args'.length) (hs : Sealed (h.seals L) l) (hp : ∀ a ∈ args' ++ cap', Pure a)
      (h1 : Run P (.call fn args' cap' .zero) (.call (.ret y) h')) (hy : SnapL (h'.seals l1) [y] [z] l2) (hs2 : Sealed (h'.seals l1) l2) (hz : Pure z) : Run P (.call fn args cap h) (.call (.ret z) (h.seals L))
  | purex {fn : Fn} {args cap args' cap' : List AV} {h h' : AH} {y z : AV} {L l l1 l2 : List (Nat × Nat)} (ha : SnapL (h.seals L) (args ++ cap) (args' ++ cap') l) (hal : args.length = args'.length) (hs : Sealed (h.seals L) l) (hp : ∀ a ∈ args' ++ cap', Pure a)
      (h1 : Run P (.call fn args' cap' .zero) (.call (.pan y) h')) (hy : SnapL (h'.seals l1) [y] [z] l2) (hs2 : Sealed (h'.seals l1) l2) (hz : Pure z) : Run P (.call fn args cap h) (.call (.pan z) (h.seals L))
  | ops_yield {ops : Array Oper} {i r : Nat} {l : List Nat} {o : Oper} {f : AF} {h h' : AH} {out : Out} {c : Call} {x : Operand} {args : List AV} {y : AV} (ho : ops[i]? = some o) (hg : guardA ops f o = some true) (hc : o.op = .call c) (hx : c.callee = .value x)
      (hf : f.ev x = some (.yld r)) (ha : f.evs c.args.toList = some args) (hk : Run P (.yld r args h) (.call (.ret y) h')) (hr : Run P (.ops ops l (f.put o.dst y) h') out) : Run P (.ops ops (i :: l) f h) out
  | yld {r : Nat} {args : List AV} {h hA hB : AH} {L L3 : ALoop} {f1 f2 : AF} {e : Ex} {b : Bool} {st : LoopState} {pe : Option Code} (hl : h.get r = some (.loop L)) (hs : L.st = .ready) (ha : args.length = L.params.size)
      (h1 : Run P (.code L.assign ⟨givenA L.tmps L.params.toList args, [], some r⟩ h) (.code .normal f1 hA)) (hl1 : hA.get r = some (.loop L)) (h2 : Run P (.code L.body f1 (hA.put r (.loop { L with st := .busy }))) (.code e f2 hB)) (hl3 : hB.get r = some (.loop L3))
      (he : leftA e = some (b, st, pe)) : Run P (.yld r args h) (.call (.ret (.raw (.bool b))) (hB.put r (.loop { L3 with st := st, pending := pe })))
  | range {G : Nat} {fn : Func} {c assign body : Code} {g : Operand} {ps : Array Tmp} {f : AF} {h h2 : AH} {first cap : List AV} {y : AV} {L : ALoop} (hg : f.ev g = some (.clo (.func G) first cap)) (hf : P.funcs[G]? = some fn) (hb : fn.body = some c) (hn : (fn.name == "runtime.NumGoroutine") = false) (hr : f.rnd = none)
      (hk : Run P (.call (.func G) (first ++ [.yld (h.next + 1)]) cap ((h.new .mark).new (.loop ⟨.ready, none, f.t, ps, assign, body, h.next⟩))) (.call (.ret y) h2)) (hl : h2.get (h.next + 1) = some (.loop L)) (hs : L.st ≠ .busy) (hp : L.pending = none) :
      Run P (.code (.rangeFunc g ps assign body) f h) (.code .normal { f with marks := h.next :: f.marks } (h2.drop1 (h.next + 1)))
  | rangej {G : Nat} {fn : Func} {c assign body j : Code} {g : Operand} {ps : Array Tmp} {f : AF} {h h2 : AH} {first cap : List AV} {y : AV} {L : ALoop} {out : Out} (hg : f.ev g = some (.clo (.func G) first cap)) (hf : P.funcs[G]? = some fn) (hb : fn.body = some c) (hn : (fn.name == "runtime.NumGoroutine") = false) (hr : f.rnd = none)
      (hk : Run P (.call (.func G) (first ++ [.yld (h.next + 1)]) cap ((h.new .mark).new (.loop ⟨.ready, none, f.t, ps, assign, body, h.next⟩))) (.call (.ret y) h2)) (hl : h2.get (h.next + 1) = some (.loop L)) (hs : L.st ≠ .busy) (hp : L.pending = some j)
      (hj : Run P (.code j { f with marks := h.next :: f.marks } (h2.drop1 (h.next + 1))) out) : Run P (.code (.rangeFunc g ps assign body) f h) out
  | rangei {G r0 : Nat} {fn : Func} {c assign body : Code} {g : Operand} {ps : Array Tmp} {f : AF} {h h2 : AH} {first cap : List AV} {y : AV} {L L0 : ALoop} (hg : f.ev g = some (.clo (.func G) first cap)) (hf : P.funcs[G]? = some fn) (hb : fn.body = some c) (hn : (fn.name == "runtime.NumGoroutine") = false) (hr : f.rnd = some r0)
      (h0 : h.get r0 = some (.loop L0)) (hk : Run P (.call (.func G) (first ++ [.yld h.next]) cap (h.new (.loop ⟨.ready, none, f.t, ps, assign, body, L0.mark⟩))) (.call (.ret y) h2)) (hl : h2.get h.next = some (.loop L)) (hs : L.st ≠ .busy) (hp : L.pending = none) :
      Run P (.code (.rangeFunc g ps assign body) f h) (.code .normal f (h2.drop1 h.next))
  | rangeij {G r0 : Nat} {fn : Func} {c assign body j : Code} {g : Operand} {ps : Array Tmp} {f : AF} {h h2 : AH} {first cap : List AV} {y : AV} {L L0 : ALoop} {out : Out} (hg : f.ev g = some (.clo (.func G) first cap)) (hf : P.funcs[G]? = some fn) (hb : fn.body = some c) (hn : (fn.name == "runtime.NumGoroutine") = false) (hr : f.rnd = some r0)
      (h0 : h.get r0 = some (.loop L0)) (hk : Run P (.call (.func G) (first ++ [.yld h.next]) cap (h.new (.loop ⟨.ready, none, f.t, ps, assign, body, L0.mark⟩))) (.call (.ret y) h2)) (hl : h2.get h.next = some (.loop L)) (hs : L.st ≠ .busy) (hp : L.pending = some j)
      (hj : Run P (.code j f (h2.drop1 h.next)) out) : Run P (.code (.rangeFunc g ps assign body) f h) out
  | heads_nil {ops : Array Oper} {n0 : Nat} {f : AF} {h : AH} {ys : List AV} {B : List (Option Cells)} : Run P (.heads ops n0 [] f h ys B) (.code .normal f h)
  | heads_off {ops : Array Oper} {n0 i : Nat} {l : List Nat} {f : AF} {h : AH} {ys : List AV} {B : List (Option Cells)} {o : Oper} (ho : ops[i]? = some o) (hg : guardA ops f o = some false) (hy : ys[i]? = some (.raw undef)) (hb : B[i]? = some none)
      (hr : Run P (.heads ops n0 l f h ys B) (.code .normal f h)) : Run P (.heads ops n0 (i :: l) f h ys B) (.code .normal f h)
  | heads_q {ops : Array Oper} {n0 i : Nat} {l : List Nat} {f : AF} {h : AH} {ys : List AV} {B : List (Option Cells)} {o : Oper} {y : AV} (ho : ops[i]? = some o) (hg : guardA ops f o = some true) (hq : qop P h f o = some y) (hy : ys[i]? = some y) (hb : B[i]? = some none)
      (hr : Run P (.heads ops n0 l f h ys B) (.code .normal f h)) : Run P (.heads ops n0 (i :: l) f h ys B) (.code .normal f h)
  | heads_s {ops : Array Oper} {n0 i : Nat} {l : List Nat} {f : AF} {h : AH} {ys : List AV} {B : List (Option Cells)} {o : Oper} {y : AV} (ho : ops[i]? = some o) (hg : guardA ops f o = some true) (hq : QOk P h f o y) (hy : ys[i]? = some y) (hb : B[i]? = some none)
      (hr : Run P (.heads ops n0 l f h ys B) (.code .normal f h)) : Run P (.heads ops n0 (i :: l) f h ys B) (.code .normal f h)
  | heads_n {ops : Array Oper} {n0 i m : Nat} {l : List Nat} {f : AF} {h : AH} {ys : List AV} {B : List (Option Cells)} {o : Oper} {y : Nat → AV} {c : Cells} (ho : ops[i]? = some o) (hg : guardA ops f o = some true) (hq : nop P h f o = some (y, c)) (hm : m ≤ c.cs.length) (hy : ys[i]? = some (y (n0 + i)))
      (hb : B[i]? = some (some { c with imm := m })) (hr : Run P (.heads ops n0 l f h ys B) (.code .normal f h)) : Run P (.heads ops n0 (i :: l) f h ys B) (.code .normal f h)
  | heads_call {ops : Array Oper} {n0 i : Nat} {l : List Nat} {f : AF} {h h' : AH} {ys : List AV} {B : List (Option Cells)} {o : Oper} {c : Call} {x : Operand} {fn : Fn} {first args cap args' cap' : List AV} {y z : AV} {l0 l1 l2 : List (Nat × Nat)} (ho : ops[i]? = some o) (hg : guardA ops f o = some true)
      (hc : o.op = .call c) (hx : c.callee = .value x) (hf : f.ev x = some (.clo fn first cap)) (ha : f.evs c.args.toList = some args) (hs : SnapL h (first ++ args ++ cap) (args' ++ cap') l0) (hl : (first ++ args).length = args'.length) (hs0 : Sealed h l0) (hp : ∀ a ∈ args' ++ cap', Pure a)
      (hk : Run P (.call fn args' cap' .zero) (.call (.ret y) h')) (hz : SnapL (h'.seals l1) [y] [z] l2) (hs2 : Sealed (h'.seals l1) l2) (hpz : Pure z) (hy : ys[i]? = some z) (hb : B[i]? = some none)
      (hr : Run P (.heads ops n0 l f h ys B) (.code .normal f h)) : Run P (.heads ops n0 (i :: l) f h ys B) (.code .normal f h)
  | weak {c : Code} {f f' : AF} {h : AH} {out : Out} (h1 : f'.t.n = f.t.n) (h2 : ∀ i y, f'.t.get i = some y → f.t.get i = some y) (h3 : f'.marks = f.marks) (h4 : f'.rnd = f.rnd) (hr : Run P (.code c f' h) out) : Run P (.code c f h) out
  | draw {id : Nat} {ops : Array Oper} {f : AF} {h : AH} {n : Nat} {L : List (Nat × Nat)} {ys : List AV} {B : List (Option Cells)} {out : Out} (hm : P.follows .mixedOrders = true) (hk : drawB ops n f.t.n = true) (hy : ys.length = n) (hb : B.length = n)
      (hh : Run P (.heads ops h.next (List.range n) (f.puts ops ys) ((h.seals L).adds h.next B) ys B) (.code .normal (f.puts ops ys) ((h.seals L).adds h.next B)))
      (hr : Run P (.ops ops (List.range' n (ops.size - n)) (f.puts ops ys) ((h.seals L).adds h.next B)) out) : Run P (.code (.region id ops true) f h) out
  | scope {c : Code} {f f' f2 : AF} {h h' : AH} {e : Ex} (h1 : Run P (.code c f h) (.code e f' h')) (hn : f2.t.n = f'.t.n) (hw : ∀ i y, f2.t.get i = some y → f'.t.get i = some y ∧ Of h.has y) (hm : f2.marks = f'.marks) (hm2 : ∀ m ∈ f'.marks, h.has m)
      (hr : f2.rnd = f'.rnd) (he : ∀ v, e = .pan v → Of h.has v) (hb : ∀ p ∈ (h'.cut h).blk, OfB h.has p.2) : Run P (.code c f h) (.code e f2 (h'.cut h))
  | snap {c : Code} {f : AF} {h : AH} {L : List (Nat × Nat)} {sl : List (Nat × AV)} {bs : List (Nat × Blk)} {out : Out} (hb : SnapH (h.seals L) (h.seals L).blk bs) (hs : SnapS (h.seals L) f.t.l sl)
      (hr : Run P (.code c { f with t := { f.t with l := sl } } { h with blk := bs }) out) : Run P (.code c f h) out
  | knownc {c : Code} {f f' : AF} {h h' : AH} {e : Ex} (hs : SoundC P c f h e f' h') : Run P (.code c f h) (.code e f' h')
  | knowny {r : Nat} {args : List AV} {h h' : AH} {y : Res} (hs : Sound P (.yld r args h) (.call y h')) : Run P (.yld r args h) (.call y h')
  | known {fn : Fn} {args cap : List AV} {h h' : AH} {r : Res} (hs : Sound P (.call fn args cap h) (.call r h')) : Run P (.call fn args cap h) (.call r h')
section
variable {P : Program} {h h' : AH} {V : Mem} {res : Nat → Nat → Prop} {g q : Nat → Nat} {w : World} {f f' : AF} {a : Act}
theorem put_rnd (f : AF) (d : Option Tmp) (y : AV) : (f.put d y).rnd = f.rnd := by cases d <;> rfl
theorem FrDen.put {d : Option Tmp} {v : Value} {y : AV} (hf : FrDen V w f a) (hd : Den V w v y) : FrDen V w (f.put d y) (a.put d v) := by
  cases d with
  | none => exact hf
  | some d =>
    refine ⟨⟨by simpa [AF.put, Act.put] using hf.tmps.1, fun i b h2 => ?_⟩, hf.defers, hf.marks, hf.nodup, hf.glob⟩
    simp only [AF.put, Slots.get_set] at h2
    simp only [Act.put, Array.getElem?_setIfInBounds]
    have hsz := hf.tmps.1
    by_cases e : d = i
    · subst e
      simp only [if_true] at h2 ⊢
      split at h2
      · injection h2 with h2
        subst h2
        exact ⟨v, by rw [if_pos (by omega)], hd⟩
      · cases h2
    · simp only [e, if_false] at h2 ⊢
      exact hf.tmps.2 i b h2
theorem guard_ok {ops : Array Oper} {o : Oper} {b : Bool} (hf : FrDen V w f a) (hg : guardA ops f o = some b) : Region.wanted o (yielded ops a.tmps) = b := by
  unfold guardA at hg
  unfold Region.wanted
  cases ho : o.guard with
  | none => simp [ho] at hg; simp [hg]
  | some p =>
    obtain ⟨j, want⟩ := p
    rw [ho] at hg
    simp only at hg ⊢
    unfold yielded
    cases hd : (ops[j]?).bind (·.dst) with
    | none => rw [hd] at hg; simp at hg; subst hg; rfl
    | some d =>
      rw [hd] at hg
      simp only at hg
      split at hg
      · rename_i c hc
        obtain ⟨x, hx, hden⟩ := hf.tmps.get hc
        cases hden
        injection hg with hg
        subst hg
        simp [hx]
      · rename_i vs hc
        obtain ⟨x, hx, hden⟩ := hf.tmps.get hc
        cases hden
        injection hg with hg
        subst hg
        simp [hx]
      · cases hg
end
end Go.Proofs.YtaoglkkdhdfioaaGreatDoor
