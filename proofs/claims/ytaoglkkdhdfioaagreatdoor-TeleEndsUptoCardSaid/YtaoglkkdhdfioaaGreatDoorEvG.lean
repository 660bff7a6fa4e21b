/- What is of no block of ours any more: values that are handed over. -/
import Derived.Test.YtaoglkkdhdfioaaGreatDoorEvF
namespace Go.Proofs.YtaoglkkdhdfioaaGreatDoor
open Go

/-- it names no block of ours -/
inductive Pure : AV → Prop
  | raw (v : Value) : Pure (.raw v)
  | agg {cs : List AV} (h : ∀ a ∈ cs, Pure a) : Pure (.agg cs)
  | tup {cs : List AV} (h : ∀ a ∈ cs, Pure a) : Pure (.tup cs)
  | vals {sz : Nat} {es : List AV} (h : ∀ e ∈ es, Pure e) : Pure (.vals sz es)
  | emp : Pure .emp
  | vptr {cs : List AV} (h : ∀ a ∈ cs, Pure a) : Pure (.vptr cs)
  | clo {fn : Fn} {fs cs : List AV} (h1 : ∀ a ∈ fs, Pure a) (h2 : ∀ a ∈ cs, Pure a) : Pure (.clo fn fs cs)
  | ifc {t : TypeId} {a : AV} (h : Pure a) : Pure (.ifc t a)
theorem Pure.cells {a : AV} (h : Pure a) : ∀ b ∈ a.cells, Pure b := by
  cases h with
  | raw v => intro b hb; simp only [AV.cells, List.mem_map] at hb; obtain ⟨u, _, rfl⟩ := hb; exact .raw u
  | agg h => exact h
  | tup h => intro b hb; simp [AV.cells] at hb; subst hb; exact .tup h
  | vals h => intro b hb; simp [AV.cells] at hb; subst hb; exact .vals h
  | emp => intro b hb; simp [AV.cells] at hb; subst hb; exact .emp
  | vptr h => intro b hb; simp [AV.cells] at hb; subst hb; exact .vptr h
  | clo h1 h2 => intro b hb; simp [AV.cells] at hb; subst hb; exact .clo h1 h2
  | ifc h => intro b hb; simp [AV.cells] at hb; subst hb; exact .ifc h
/-- what nobody changes here nobody changes there -/
def Stand (V : Mem) (w : World) (V' : Mem) (w' : World) : Prop := ∀ b i x, OkCell V w b i → w.cell? ⟨b, i, none⟩ = some x → OkCell V' w' b i ∧ w'.cell? ⟨b, i, none⟩ = some x
theorem Den.stand {V V' : Mem} {w w' : World} {v : Value} {a : AV} (h : Den V w v a) (hs : Stand V w V' w') (hp : Pure a) : Den V' w' v a := by
  induction h with
  | raw v => exact .raw v
  | agg hl h ih => cases hp with | agg hp => exact .agg hl fun i x a h1 h2 => ih i x a h1 h2 (hp a (List.mem_of_getElem? h2))
  | tup hl h ih => cases hp with | tup hp => exact .tup hl fun i x a h1 h2 => ih i x a h1 h2 (hp a (List.mem_of_getElem? h2))
  | vnil => exact .vnil
  | emp => exact .emp
  | vals X hc hz hx h ih => cases hp with | vals hp => exact .vals X hc hz (fun j e i a h1 h2 => hs _ _ _ (hx j e i a h1 h2).1 (hx j e i a h1 h2).2) fun j e i a h1 h2 => ih j e i a h1 h2 ((hp e (List.mem_of_getElem? h1)).cells a (List.mem_of_getElem? h2))
  | row hv hb h => cases hp
  | ptr hv hb h => cases hp
  | vptr X hx h ih => cases hp with | vptr hp => exact .vptr X (fun i a h1 => hs _ _ _ (hx i a h1).1 (hx i a h1).2) fun i a h1 => ih i a h1 (hp a (List.mem_of_getElem? h1))
  | clo hf hc h1 h2 ih1 ih2 => cases hp with | clo p1 p2 => exact .clo hf hc (fun i x a k1 k2 => ih1 i x a k1 k2 (p1 a (List.mem_of_getElem? k2))) fun i x a k1 k2 => ih2 i x a k1 k2 (p2 a (List.mem_of_getElem? k2))
  | yld hv hb h => cases hp
  | ifc h ih => cases hp with | ifc hp => exact .ifc (ih hp)

/-- values as they are handed over: slices of our blocks as rows of values; up to where our blocks then stand for ever -/
inductive SnapL (h : AH) : List AV → List AV → List (Nat × Nat) → Prop
  | nil : SnapL h [] [] []
  | pure {a : AV} {as bs : List AV} {l : List (Nat × Nat)} (hp : Pure a) (ht : SnapL h as bs l) : SnapL h (a :: as) (a :: bs) l
  | none {sz : Nat} {as bs : List AV} {l : List (Nat × Nat)} (ht : SnapL h as bs l) : SnapL h (.raw (.slice none 0 0) :: as) (.vals sz [] :: bs) l
  | emp {sz : Nat} {as bs : List AV} {l : List (Nat × Nat)} (ht : SnapL h as bs l) : SnapL h (.emp :: as) (.vals sz [] :: bs) l
  | row {r k off len : Nat} {c : Cells} {es as bs : List AV} {j l : List (Nat × Nat)} (hc : h.now r k = some c) (hl : es.length = len) (hz : ∀ (j : Nat) (e : AV), es[j]? = some e → e.cells.length = c.sz)
      (hs : SnapL h ((c.cs.drop off).take (len * c.sz)) (es.flatMap AV.cells) j) (hp : ∀ e ∈ es, Pure e) (ht : SnapL h as bs l) : SnapL h (.row r k off len :: as) (.vals c.sz es :: bs) ((r, off + len * c.sz) :: (j ++ l))
  | agg {cs ds as bs : List AV} {j l : List (Nat × Nat)} (hs : SnapL h cs ds j) (ht : SnapL h as bs l) : SnapL h (.agg cs :: as) (.agg ds :: bs) (j ++ l)
  | tup {cs ds as bs : List AV} {j l : List (Nat × Nat)} (hs : SnapL h cs ds j) (ht : SnapL h as bs l) : SnapL h (.tup cs :: as) (.tup ds :: bs) (j ++ l)
  | ifc {t : TypeId} {a b : AV} {as bs : List AV} {j l : List (Nat × Nat)} (hs : SnapL h [a] [b] j) (ht : SnapL h as bs l) : SnapL h (.ifc t a :: as) (.ifc t b :: bs) (j ++ l)
  | clo {fn : Fn} {fs gs cs ds as bs : List AV} {j1 j2 l : List (Nat × Nat)} (h1 : SnapL h fs gs j1) (h2 : SnapL h cs ds j2) (ht : SnapL h as bs l) : SnapL h (.clo fn fs cs :: as) (.clo fn gs ds :: bs) (j1 ++ (j2 ++ l))
  | vptr {r k off n : Nat} {c : Cells} {es as bs : List AV} {j l : List (Nat × Nat)} (hc : h.now r k = some c) (hn : off + n ≤ c.cs.length) (hs : SnapL h ((c.cs.drop off).take n) es j) (ht : SnapL h as bs l) : SnapL h (.ptr r k off :: as) (.vptr es :: bs) ((r, off + n) :: (j ++ l))
theorem SnapL.length {h : AH} {as bs : List AV} {l : List (Nat × Nat)} (hs : SnapL h as bs l) : as.length = bs.length := by
  induction hs with
  | nil => rfl
  | pure _ _ ih => simp [ih]
  | none _ ih => simp [ih]
  | emp _ ih => simp [ih]
  | row _ _ _ _ _ _ _ ih => simp [ih]
  | agg _ _ _ ih => simp [ih]
  | tup _ _ _ ih => simp [ih]
  | ifc _ _ _ ih => simp [ih]
  | clo _ _ _ _ _ ih => simp [ih]
  | vptr _ _ _ _ _ ih => simp [ih]
/-- the blocks stand from there on -/
def AH.seal (h : AH) (p : Nat × Nat) : AH := match h.get p.1 with
  | some (.cells c) => if p.2 ≤ c.cs.length then h.put p.1 (.cells { c with imm := max c.imm p.2 }) else h
  | _ => h
def AH.seals (h : AH) : List (Nat × Nat) → AH
  | [] => h
  | p :: l => (h.seal p).seals l
section
variable {P : Program} {h h' : AH} {V : Mem} {res : Nat → Nat → Prop} {g q : Nat → Nat} {w : World} {f : AF} {a : Act} {y : AV}
theorem seal_to (p : Nat × Nat) (hV : Rel (h.mem res g q) w) : To (h.mem res g q) w ((h.seal p).mem res g q) w := by
  unfold AH.seal
  split
  · rename_i c hc
    split
    · rename_i hle
      have hr : (h.mem res g q).blk p.1 = some (.cells c) := hc
      obtain ⟨X, k1, k2, k3, k4, k5, k6⟩ := hV.cells _ c hr
      rw [← put_same p.1 _ (hV.live _ _ hr).1]
      exact to_turn (c' := { c with imm := max c.imm p.2 }) hV hr k1 rfl k2 rfl (fun _ _ => rfl) rfl rfl rfl (Nat.le_refl _) (fun _ => ⟨rfl, rfl⟩) (Nat.le_max_left _ _) (by show max c.imm p.2 ≤ c.cs.length; omega) k3 k5
        (fun i x hi hx => by simpa [World.cell?, k1] using hx) fun V' hf i x b h1 h2 => (k6 i x b h1 h2).fwd hf
    · exact To.refl hV
  · exact To.refl hV
theorem seals_to : ∀ (l : List (Nat × Nat)) {h : AH}, Rel (h.mem res g q) w → To (h.mem res g q) w ((h.seals l).mem res g q) w
  | [], h, hV => To.refl hV
  | p :: l, h, hV => (seal_to p hV).trans (seals_to l (seal_to p hV).rel)
theorem seals_next : ∀ (l : List (Nat × Nat)) (h : AH), (h.seals l).next = h.next ∧ (h.seals l).hid = h.hid
  | [], _ => ⟨rfl, rfl⟩
  | p :: l, h => by
    have : (h.seal p).next = h.next ∧ (h.seal p).hid = h.hid := by
      unfold AH.seal
      split
      · split <;> exact ⟨rfl, rfl⟩
      · exact ⟨rfl, rfl⟩
    show ((h.seal p).seals l).next = _ ∧ ((h.seal p).seals l).hid = _
    rw [(seals_next l _).1, (seals_next l _).2]
    exact this
/-- they stand as far as that -/
def Sealed (h : AH) (l : List (Nat × Nat)) : Prop := ∀ p ∈ l, ∀ c, h.get p.1 = some (.cells c) → p.2 ≤ c.imm
theorem snap_ok {as bs : List AV} {l : List (Nat × Nat)} (hs : SnapL h as bs l) (hV : Rel V w) (hA : Agr h V) (hl : Sealed h l) : ∀ {us : Array Value}, DenL V w us as → DenL V w us bs := by
  have cons : ∀ {a b : AV} {as bs : List AV} {us : Array Value}, as.length = bs.length → (∀ u, Den V w u a → Den V w u b) → (∀ {us : Array Value}, DenL V w us as → DenL V w us bs) → DenL V w us (a :: as) → DenL V w us (b :: bs) := by
    intro a b as bs us hlen h1 h2' hd
    have hsz := hd.1
    have hrest : DenL V w (us.toList.drop 1).toArray as := ⟨by simp at hsz ⊢; omega, fun i x c k1 k2 => hd.2 (i + 1) x c (by simpa [Nat.add_comm] using k1) (by simpa using k2)⟩
    have hr := h2' hrest
    refine ⟨by rw [hsz]; simp [hlen], fun i x c k1 k2 => ?_⟩
    cases i with
    | zero =>
      simp at k2
      subst k2
      exact h1 x (hd.2 0 x a k1 rfl)
    | succ i => exact hr.2 i x c (by simpa [Nat.add_comm] using k1) (by simpa using k2)
  induction hs with
  | nil => intro us hd; exact ⟨hd.1, fun i x a _ h2 => by simp at h2⟩
  | pure hp ht ih => intro us hd; exact cons ht.length (fun u hu => hu) (fun hd => ih hl hd) hd
  | none ht ih => intro us hd; exact cons ht.length (fun u hu => by rw [den_raw hu]; exact .vnil) (fun hd => ih hl hd) hd
  | emp ht ih => intro us hd; exact cons ht.length (fun u hu => by
      cases hu with
      | emp => exact .vnil) (fun hd => ih hl hd) hd
  | agg hs ht ih1 ih2 => intro us hd; exact cons ht.length (fun u hu => by
      cases hu with
      | agg hl' hh =>
        have := ih1 (fun p hp => hl p (List.mem_append_left _ hp)) ⟨hl', hh⟩
        exact .agg this.1 this.2) (fun hd => ih2 (fun p hp => hl p (List.mem_append_right _ hp)) hd) hd
  | tup hs ht ih1 ih2 => intro us hd; exact cons ht.length (fun u hu => by
      cases hu with
      | tup hl' hh =>
        have := ih1 (fun p hp => hl p (List.mem_append_left _ hp)) ⟨hl', hh⟩
        exact .tup this.1 this.2) (fun hd => ih2 (fun p hp => hl p (List.mem_append_right _ hp)) hd) hd
  | ifc hs ht ih1 ih2 => intro us hd; exact cons ht.length (fun u hu => by
      cases hu with
      | ifc hu =>
        have := ih1 (fun p hp => hl p (List.mem_append_left _ hp)) (us := #[_]) ⟨rfl, fun i x a h1 h2 => by
          cases i with
          | zero => simp at h1 h2; subst h1 h2; exact hu
          | succ i => simp at h2⟩
        exact .ifc (this.2 0 _ _ rfl rfl)) (fun hd => ih2 (fun p hp => hl p (List.mem_append_right _ hp)) hd) hd
  | clo h1 h2 ht ih1 ih2 ih3 => intro us hd; exact cons ht.length (fun u hu => by
      cases hu with
      | clo hf hc k1 k2 =>
        have e1 := ih1 (fun p hp => hl p (List.mem_append_left _ hp)) ⟨hf, k1⟩
        have e2 := ih2 (fun p hp => hl p (List.mem_append_right _ (List.mem_append_left _ hp))) ⟨hc, k2⟩
        exact .clo e1.1 e2.1 e1.2 e2.2) (fun hd => ih3 (fun p hp => hl p (List.mem_append_right _ (List.mem_append_right _ hp))) hd) hd
  | vptr hc hn hs ht ih1 ih2 =>
    rename_i r k off n c es as' bs' j l'
    intro us hd
    exact cons ht.length (fun u hu => by
      obtain ⟨hr, rfl⟩ := hu.ptr_now hA hc
      obtain ⟨X, k1, k2, k3, k4, k5, k6⟩ := hV.cells r c hr
      have k1' : w.heap[V.pos r]? = some (.cells X c.elem (0, 0)) := k1
      have hdl : DenL V w (X.extract off (off + n)) ((c.cs.drop off).take n) := by
        refine ⟨by simp; omega, fun i x b h1 h2 => ?_⟩
        have hi : i < n := by
          have := (List.getElem?_eq_some_iff.1 h2).1
          simp at this; omega
        rw [List.getElem?_take, if_pos hi, List.getElem?_drop] at h2
        rw [Array.getElem?_extract, if_pos (by omega)] at h1
        exact k6 _ x b h1 h2
      have hdl2 := ih1 (fun p hp => hl p (List.mem_cons_of_mem _ (List.mem_append_left _ hp))) hdl
      have hel : es.length = n := by rw [← hs.length]; simp; omega
      have himm := hl (r, off + n) (List.mem_cons_self ..) c (AH.now_get hc).1
      have himm : off + n ≤ c.imm := himm
      refine .vptr (fun i => X.getD (off + i) undef) (fun i b h2 => ?_) fun i b h2 => ?_
      · have hi := (List.getElem?_eq_some_iff.1 h2).1
        have hX : off + i < X.size := by omega
        refine ⟨⟨(hV.live r _ hr).2, hV.free r _ hr _, fun s d hs hp => ?_⟩, by simp [World.cell?, k1', hX]⟩
        have : s = r := hV.apart s r _ _ hs hr hp
        subst this
        rw [hr] at hs
        injection hs with hs
        injection hs with hs
        subst hs
        omega
      · have hi := (List.getElem?_eq_some_iff.1 h2).1
        have hX : off + i < X.size := by omega
        refine hdl2.2 i _ b ?_ h2
        rw [Array.getElem?_extract, if_pos (by omega)]
        simp [hX]) (fun hd => ih2 (fun p hp => hl p (List.mem_cons_of_mem _ (List.mem_append_right _ hp))) hd) hd
  | row hc hlen hz hs hp ht ih1 ih2 =>
    rename_i r k off len c es as' bs' j l'
    intro us hd
    exact cons ht.length (fun u hu => by
      obtain ⟨hr, j1, cap, rfl, j2, j3⟩ := hu.row_now hA hc
      obtain ⟨X, k1, k2, k3, k4, k5, k6⟩ := hV.cells r c hr
      have k1' : w.heap[V.pos r]? = some (.cells X c.elem (0, 0)) := k1
      -- the cells
      have hdl : DenL V w (X.extract off (off + len * c.sz)) ((c.cs.drop off).take (len * c.sz)) := by
        refine ⟨by simp; omega, fun i x b h1 h2 => ?_⟩
        have hi : i < len * c.sz := by
          have := (List.getElem?_eq_some_iff.1 h2).1
          simp at this; omega
        rw [List.getElem?_take, if_pos hi, List.getElem?_drop] at h2
        rw [Array.getElem?_extract, if_pos (by omega)] at h1
        exact k6 _ x b h1 h2
      have hdl2 := ih1 (fun p hp => hl p (List.mem_cons_of_mem _ (List.mem_append_left _ hp))) hdl
      have hfl : (es.flatMap AV.cells).length = len * c.sz := by rw [← hs.length]; simp; omega
      have himm := hl (r, off + len * c.sz) (List.mem_cons_self ..) c (AH.now_get hc).1
      have hokc : ∀ i, i < off + len * c.sz → OkCell V w (V.pos r) i := fun i hi => by
        refine ⟨(hV.live r _ hr).2, hV.free r _ hr i, fun s d hs hp => ?_⟩
        have : s = r := hV.apart s r _ _ hs hr hp
        subst this
        rw [hr] at hs
        injection hs with hs
        injection hs with hs
        subst hs
        have : off + len * c.sz ≤ c.imm := himm
        omega
      have hflat : ∀ (es : List AV) (n j i : Nat) (e b : AV), (∀ (j : Nat) (e : AV), es[j]? = some e → e.cells.length = n) → es[j]? = some e → e.cells[i]? = some b → (es.flatMap AV.cells)[j * n + i]? = some b := by
        intro es n
        induction es with
        | nil => intro j i e b _ h1; simp at h1
        | cons d ds ih =>
          intro j i e b hn h1 h2
          rw [List.flatMap_cons]
          have hd := hn 0 d rfl
          cases j with
          | zero =>
            simp at h1
            subst h1
            rw [Nat.zero_mul, Nat.zero_add, List.getElem?_append_left (List.getElem?_eq_some_iff.1 h2).1]
            exact h2
          | succ j =>
            rw [List.getElem?_append_right (by rw [hd, Nat.succ_mul]; omega), hd, (by rw [Nat.succ_mul]; omega : (j + 1) * n + i - n = j * n + i)]
            exact ih j i e b (fun j e h => hn (j + 1) e (by simpa using h)) (by simpa using h1) h2
      have hlt : ∀ (j i : Nat) (e b : AV), es[j]? = some e → e.cells[i]? = some b → j * c.sz + i < len * c.sz := fun j i e b h1 h2 => by
        have := hflat es c.sz j i e b hz h1 h2
        rw [← hfl]
        exact (List.getElem?_eq_some_iff.1 this).1
      subst hlen
      refine .vals (fun j i => X.getD (off + j * c.sz + i) undef) j2 hz (fun j e i b h1 h2 => ?_) fun j e i b h1 h2 => ?_
      · have hji := hlt j i e b h1 h2
        have hX : off + j * c.sz + i < X.size := by omega
        exact ⟨hokc _ (by omega), by simp [World.cell?, k1', hX]⟩
      · have hji := hlt j i e b h1 h2
        have hX : off + j * c.sz + i < X.size := by omega
        refine hdl2.2 (j * c.sz + i) _ b ?_ (hflat es c.sz j i e b hz h1 h2)
        rw [Array.getElem?_extract, if_pos (by omega), ← Nat.add_assoc]
        simp [hX]) (fun hd => ih2 (fun p hp => hl p (List.mem_cons_of_mem _ (List.mem_append_right _ hp))) hd) hd
end
end Go.Proofs.YtaoglkkdhdfioaaGreatDoor
