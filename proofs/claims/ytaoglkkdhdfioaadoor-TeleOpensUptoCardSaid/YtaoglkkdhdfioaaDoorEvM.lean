/- That the model runs so. -/
import Derived.Test.YtaoglkkdhdfioaaDoorEvV
namespace Go.Proofs.YtaoglkkdhdfioaaDoor
open Go
section
variable {P : Program} {h h' : AH} {V : Mem} {res : Nat → Nat → Prop} {g q : Nat → Nat} {w : World} {f f' : AF} {a : Act} {ops : Array Oper} {ys : List AV} {B : List (Option Cells)}
theorem puts_rnd : ∀ (l : List (AV × Nat)) (f : AF), (l.foldl (fun f p => f.put ((ops[p.2]?).bind (·.dst)) p.1) f).rnd = f.rnd
  | [], _ => rfl
  | p :: l, f => by rw [List.foldl_cons, puts_rnd l, put_rnd]
theorem sound_draw {id n : Nat} {L : List (Nat × Nat)} {f1 : AF} {h1 : AH} {e : Ex} (hm : P.follows .mixedOrders = true) (hk : drawB ops n f.t.n = true) (hy : ys.length = n) (hb : B.length = n)
    (hh : ∀ i ∈ List.range n, HeadOk P ops h.next (f.puts ops ys) ((h.seals L).adds h.next B) ys B i) (hr : Sound P (.ops ops (List.range' n (ops.size - n)) (f.puts ops ys) ((h.seals L).adds h.next B)) (.code e f1 h1)) : SoundC P (.region id ops true) f h e f1 h1 := by
  have hd := drawB_spec hk
  have hch := drawB_chain hk
  have hpr : (f.puts ops ys).rnd = f.rnd := puts_rnd _ f
  refine ⟨hr.1.trans hpr, fun F nn res g q a w hF hR hV hf => wpIn_region_any hm ?_⟩
  have t0 : To (h.mem res g q) w (h.mem res g q) { w with drawn := w.drawn + 1 } := to_same hV rfl rfl rfl (Nat.le_refl _) fun _ _ => rfl
  have t1 := t0.trans (seals_to L t0.rel)
  obtain ⟨en, eh⟩ := seals_next L h
  have live : ∀ r o, (h.seals L).get r = some o → r < (h.seals L).next ∧ r ∉ (h.seals L).hid := fun r o ho => (t1.rel.live r o ho).1
  have hG := adds_grown (h := h.seals L) (B := B) hb fun r o ho => (live r o ho).1
  rw [← en] at hh hr
  have hs := memS_start (res := res) (g := g) (q := q) (ops := ops) hG hd.le live
  refine any_head (res := res) (h := h.seals L) (V0 := h.mem res g q) (w0 := w) hF hd rfl hy hG (fun r o ho hne => live r o (by rw [← hG.old r hne]; exact ho)) (fun i hi => hh i (List.mem_range.2 hi)) (fun g2 q2 a2 w2 t2 f2 fu li l1 l2 l3 l4 => ?_) ops.size _ a _ g q f ⟨by simp, fun i j h1 h2 h3 => ?_, fun k h1 h2 => ?_⟩ (by rw [hs]; exact t1) (by rw [hs]; exact hf.fwd t1.fwd)
    ⟨rfl, rfl, rfl, fun _ _ => rfl, fun j d y j1 j2 _ _ => ?_⟩ ?_
  · exact any_tail hd hch _ n fu li a2 w2 (by have := hd.le; omega) (Nat.le_refl _) l1 l2 l3 l4 (ops_mono (fun e1 a1 w1 k => codePost.up t2 k) (hr.2 F nn res g2 q2 a2 w2 hF (hR.fwd t2.fwd hpr) t2.rel f2))
  · simp [h2] at h1
  · simp [h2]
  · have := hd.le
    have : j < ops.size := by omega
    simp [this] at j2
  · have := hd.le
    have h3 := List.countP_le_length (p := fun i => !(Array.replicate ops.size false).getD i true) (l := List.range n)
    rw [List.length_range] at h3
    omega
theorem sound {t : Task} {o : Out} (hr : Run P t o) : Sound P t o := by
  induction hr with
  | ops_nil => exact ⟨rfl, fun F n res g q a w hF hR hV hf => post_refl hV hf trivial⟩
  | ops_off ho hg _ ih => exact sound_off ho hg ih
  | ops_q ho hg hy _ ih => exact sound_q ho hg hy ih
  | ops_s ho hg hy _ ih => exact sound_s ho hg hy ih
  | ops_n ho hg hy _ ih => exact sound_n ho hg hy ih
  | ops_m ho hg hy _ ih => exact sound_m ho hg hy ih
  | ops_call ho hg hc hx hf ha _ _ ih1 ih2 => exact sound_call ho hg hc hx hf ha ih1 ih2
  | ops_calx ho hg hc hx hf ha _ ih1 => exact sound_calx ho hg hc hx hf ha ih1
  | ops_panic ho hg hc hx => exact sound_panic ho hg hc hx
  | skip => exact sound_skip
  | label => exact sound_label
  | seq _ _ ih1 ih2 =>
    rename_i out _ _
    cases out with
    | call r h' => exact ih2
    | code e f' h' => exact sound_seq ih1 ih2
  | seqx _ he ih1 => exact sound_seqx ih1 he
  | cond hb _ ih =>
    rename_i out _ _
    cases out with
    | call r h' => exact ih
    | code e f' h' => exact sound_cond hb ih
  | block _ he ih => exact sound_block ih he
  | blockx _ ih => exact sound_blockx ih
  | more _ _ ih1 ih2 =>
    rename_i out _ _
    cases out with
    | call r h' => exact ih2
    | code e f' h' => exact ⟨_, _, ih1, ih2⟩
  | last _ he ih => exact ⟨ih, he⟩
  | loop _ ih =>
    rename_i out _
    cases out with
    | call r h' => exact ih
    | code e f' h' => exact sound_loop ih
  | exit => exact sound_exit
  | ret => exact sound_ret
  | region _ ih =>
    rename_i out _
    cases out with
    | call r h' => exact ih
    | code e f' h' => exact sound_region ih
  | enter hf hb hn _ he hy hm hl ih => exact sound_enter hf hb hn ih he hy hm hl
  | enterx hf hb hn _ hm ih => exact sound_enterx hf hb hn ih hm
  | pure ha hal hs hp _ hy hs2 hz ih =>
    refine sound_pure ha hal hs hp ih (fun res g q w e hV hd => ?_) hz
    cases e <;> try exact hd.elim
    exact ⟨_, back_den hV hy hs2 hd⟩
  | purex ha hal hs hp _ hy hs2 hz ih =>
    refine sound_pure ha hal hs hp ih (fun res g q w e hV hd => ?_) hz
    cases e <;> try exact hd.elim
    obtain ⟨v, e1, e2⟩ := hd
    exact ⟨_, v, e1, back_den hV hy hs2 e2⟩
  | heads_nil => exact fun i hi => (by cases hi)
  | heads_off ho hg hy hb _ ih =>
    intro j hj
    rcases List.mem_cons.1 hj with rfl | hj
    · exact head_off ho hg hy hb
    · exact ih j hj
  | heads_q ho hg hq hy hb _ ih =>
    intro j hj
    rcases List.mem_cons.1 hj with rfl | hj
    · exact head_q ho hg hq hy hb
    · exact ih j hj
  | heads_s ho hg hq hy hb _ ih =>
    intro j hj
    rcases List.mem_cons.1 hj with rfl | hj
    · exact head_s ho hg hq hy hb
    · exact ih j hj
  | heads_n ho hg hq hm hy hb _ ih =>
    intro j hj
    rcases List.mem_cons.1 hj with rfl | hj
    · exact head_n ho hg hq hm hy hb
    · exact ih j hj
  | heads_call ho hg hc hx hf ha hs hl hs0 hp _ hz hs2 hpz hy hb _ ih1 ih =>
    intro j hj
    rcases List.mem_cons.1 hj with rfl | hj
    · exact head_call ho hg hc hx hf ha hs hl hs0 hp ih1 hz hs2 hpz hy hb
    · exact ih j hj
  | draw hm hk hy hb _ _ ih1 ih2 =>
    rename_i out _ _
    cases out with
    | call r h' => exact ih2
    | code e f' h' => exact sound_draw hm hk hy hb ih1 ih2
  | ops_yield ho hg hc hx hf ha _ _ ih1 ih2 => exact sound_yield ho hg hc hx hf ha ih1 ih2
  | yld hl hs ha _ hl1 _ hl3 he ih1 ih2 => exact sound_yld hl hs ha ih1 hl1 ih2 hl3 he
  | range hg hf hb hn hr _ hl hs hp ih =>
    refine sound_rangeO hg hf hb hn hr ih hl hs ?_
    rw [hp]
    exact ⟨rfl, rfl, rfl, rfl⟩
  | rangej hg hf hb hn hr _ hl hs hp _ ih1 ih2 =>
    rename_i out _ _
    cases out with
    | call r h' => exact ih2
    | code e f' h' =>
      refine sound_rangeO hg hf hb hn hr ih1 hl hs ?_
      rw [hp]
      exact ⟨ih2.1, ih2⟩
  | rangei hg hf hb hn hr h0 _ hl hs hp ih =>
    refine sound_rangeI hg hf hb hn hr h0 ih hl hs ?_
    rw [hp]
    exact ⟨rfl, rfl, rfl, rfl⟩
  | rangeij hg hf hb hn hr h0 _ hl hs hp _ ih1 ih2 =>
    rename_i out _ _
    cases out with
    | call r h' => exact ih2
    | code e f' h' =>
      refine sound_rangeI hg hf hb hn hr h0 ih1 hl hs ?_
      rw [hp]
      exact ⟨ih2.1, ih2⟩
  | known hs => exact hs
  | knowny hs => exact hs
  | knownc hs => exact hs
  | snap hb hs _ ih =>
    rename_i out _
    cases out with
    | call r h' => exact ih
    | code e f' h' => exact sound_snap hb hs ih
  | scope _ hn hw hm hm2 hr he hb ih => exact sound_scope ih hn hw hm hm2 hr he hb
  | weak h1 h2 h3 h4 _ ih =>
    rename_i out _
    cases out with
    | call r h' => exact ih
    | code e f' h' => exact ⟨ih.1.trans h4, fun F n res g q a w hF hR hV hf => ih.2 F n res g q a w hF (hR.fwd (Fwd.refl _ w) h4) hV ⟨⟨by rw [hf.tmps.1, h1], fun i b hb => hf.tmps.2 i b (h2 i b hb)⟩, by rw [h3]; exact hf.defers, fun m hm => hf.marks m (by rw [← h3]; exact hm), by rw [h3]; exact hf.nodup, hf.glob⟩⟩
end
end Go.Proofs.YtaoglkkdhdfioaaDoor
