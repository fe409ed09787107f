/- The walk of WireOwn: what is handed in is left as it is, what is answered is nobody's else. -/
import Derived.Test.YthodmnekljbljaaTwo
import Derived.Test.YthodmnekljbljaaFramesMake
import Derived.Test.YthodmnekljbljaaScribble
import Derived.Test.YthodmnekljbljaaText
import Derived.Test.YthodmnekljbljaaLive
import Derived.Test.YthodmnekljbljaaEqual
import Derived.BigQuiet
import Derived.Deep.QuietTactic
namespace Go.Proofs.Ythodmnekljbljaa
open Go.RowKit Go.Shelf

attribute [local go_sem] Oper.semAt_some

/-- What Frame answers, in memory of its own. -/
def FrameO (w : World) (t : List Int × Nat) (e : Ending) (w' : World) : Prop :=
  ∃ v, e = .returned (.tuple #[v, .int .i64 (t.2 : Nat)]) ∧ OB w.heap.size w' v t.1 ∧ Below w.heap.size w w'
theorem wframe_own (A : Option Addr) (n c : Nat) (zs : List Int) (w : World) (h : RB w A n zs) (hn : n ≤ 140737488355328) :
    Calls Try.prog 30 #[.slice A n c] w (FrameO w (frameA zs)) := by
  have hl := h.len
  by_cases hb : 1048576 < n
  · refine (wframe_long A n c w hb hn).mono ?_
    rintro e w' ⟨rfl, rfl⟩
    unfold frameA
    rw [if_pos (by omega)]
    exact ⟨_, rfl, OB.nil _ _, Below.refl _ _⟩
  · refine (wframe A n c zs w h (by omega)).mono ?_
    rintro e w' ⟨v, rfl, ho, hb⟩
    unfold frameA
    rw [if_neg (by omega)]
    exact ⟨v, rfl, ho, hb⟩
theorem frameA_len (zs : List Int) : (frameA zs).1.length ≤ 1048584 := by
  unfold frameA
  split
  · simp
  · rw [frameB_len]; omega

theorem OB.rb {b : Nat} {w : World} {A : Option Addr} {n c : Nat} {zs : List Int} (h : OB b w (.slice A n c) zs) : RB w A n zs ∧ n = zs.length := by
  obtain ⟨A', c', e, r, -, -⟩ := h.form
  injection e with e1 e2 e3
  subst e1; subst e2; subst e3
  exact ⟨r, rfl⟩
/-- What stands throughout: the answer's variable, the variable with the copy of what came in, and all that lay. -/
structure St (s d lo hi : Nat) (w : World) (u : Value) (zs : List Int) (W : World) : Prop where
  r : Cel W s (.bool false)
  k : Cel W d u
  z : Lies lo hi W u zs
  l : Below s w W
  o : s < lo ∧ hi ≤ d ∧ s < d
theorem St.below {s d lo hi : Nat} {w W W' : World} {u : Value} {zs : List Int} (h : St s d lo hi w u zs W) (hb : Below W.heap.size W W') : St s d lo hi w u zs W' :=
  ⟨h.r.below hb, h.k.below hb, h.z.below hb, h.l.trans (hb.mono (Nat.le_of_lt h.r.lt)), h.o⟩
theorem St.grown {s d lo hi : Nat} {w W W' : World} {u : Value} {zs : List Int} {row : Option Nat} (h : St s d lo hi w u zs W) (hg : W.grownBy W' row) (hr : ∀ k, row = some k → d < k) : St s d lo hi w u zs W' := by
  obtain ⟨o1, o2, o3⟩ := h.o
  refine ⟨h.r.grown hg (fun k e => ?_), h.k.grown hg (fun k e => ?_), h.z.grown hg (fun k e => ?_), h.l.grown hg (Nat.le_of_lt h.r.lt) (fun k e => ?_), h.o⟩ <;> have := hr k e <;> omega

set_option maxRecDepth 100000 in
set_option maxHeartbeats 2000000 in
theorem walk_WireOwn (A0 : Option Addr) (n0 c0 : Nat) (z0 : List Int) (a1 : ByteArray) (w : World) (h0 : RB w A0 n0 z0) (hn0 : n0 ≤ c0) (hc0 : c0 ≤ 140737488351232) (ha1 : a1.size ≤ 140737488351232) :
    Calls Try.prog 13 #[.slice A0 n0 c0, .string a1] w fun e w' => e = .returned (.bool true) ∧ Below w.heap.size w w' := by
  obtain rfl : z0.length = n0 := h0.len
  refine (callsIn_wide (n := 10)).1 ?_
  refine callsIn_of_wp_marks Try.func13 rfl trivial ?_ rfl
  refine wpIn_wide.2 ?_
  simp only [Try.ntmps13, List.size_toArray, List.length_cons, List.length_nil, Nat.reduceAdd, Nat.reduceSub, Array.replicate_succ, Array.replicate_zero, List.push_toArray, List.append_toArray, List.nil_append, List.cons_append]
  obtain ⟨f, x, hf⟩ : ∃ f x, frameA z0 = (f, x) := ⟨_, _, rfl⟩
  have hfl := frameA_len z0
  rw [hf] at hfl
  have HF := Lib.hid hf
  clear hf
  -- the answer's variable
  obtain ⟨Wa, hWa⟩ : ∃ Wa, w.alloc (.cells #[.bool false] 4) = Wa := ⟨_, rfl⟩
  have ba : Below w.heap.size w Wa := by rw [← hWa]; exact (Below.refl _ _).alloc (Nat.le_refl _) _
  have kr : Cel Wa w.heap.size (.bool false) := by rw [← hWa]; exact Cel.new w _ _
  have ra := h0.below' ba
  have oa : OB Wa.heap.size (Wa.alloc (.cells #[] 5)) (.slice (some ⟨Wa.heap.size, 0, none⟩) 0 0) [] := by simpa using ob_lit Wa [] (by simp) (by simp)
  have bb : Below Wa.heap.size Wa (Wa.alloc (.cells #[] 5)) := (Below.refl _ _).alloc (Nat.le_refl _) _
  have rb := ra.below' bb
  have sz := bb.size
  go_wp2_with (at_builtin; refine ob_append rfl (.tmp 21) (.tmp 22) rfl Wa.heap.size (.slice (some ⟨Wa.heap.size, 0, none⟩) 0 0) [] rfl oa _ _ _ _ rfl rb (by simp; omega) sz ?_; intro v1 w1 o1 b1 g1; clear g1; simp only [List.nil_append] at o1; have l1 := Lies.of o1; obtain ⟨Aw, cw, rfl, -, -, -⟩ := o1.form; clear o1)
  have b1' := bb.trans b1
  have kr1 := kr.below b1'
  have s1 := b1'.size
  have B1 := ba.trans (b1'.mono ba.size)
  obtain ⟨W2, hW2⟩ : ∃ W2, w1.alloc (.cells #[.slice Aw z0.length cw] 25) = W2 := ⟨_, rfl⟩
  have bq : Below w1.heap.size w1 W2 := by rw [← hW2]; exact (Below.refl _ _).alloc (Nat.le_refl _) _
  have sa : Wa.heap.size = w.heap.size + 1 := by rw [← hWa]; simp
  have t2 : St w.heap.size w1.heap.size Wa.heap.size w1.heap.size w (.slice Aw z0.length cw) z0 W2 :=
    ⟨kr1.below bq, by rw [← hW2]; exact Cel.new w1 _ _, l1.below bq, B1.trans (bq.mono B1.size), by omega, Nat.le_refl _, by omega⟩
  have q2 : w1.heap.size + 1 = W2.heap.size := by rw [← hW2]; simp
  simp only [hW2]
  clear hW2 hWa ba kr ra oa bb rb sz b1 l1 b1' kr1 B1 bq
  refine (wframe_own _ _ _ z0 _ (h0.below t2.l (Nat.le_refl _)) (by omega)).mono ?_
  rw [HF.out]
  rintro e w3 ⟨vf, rfl, of, b3⟩
  have t3 := t2.below b3
  have f3 := Lies.of of
  have q3 := b3.size
  clear t2 b3 of
  go_wp2_with fail
  refine (wframe_own _ _ _ z0 _ (h0.below t3.l (Nat.le_refl _)) (by omega)).mono ?_
  rw [HF.out]
  rintro e w4 ⟨vg, rfl, og, b4⟩
  have t4 := t3.below b4
  have f4 := f3.below b4
  have g4 := Lies.of og
  have q4 := b4.size
  clear t3 f3 b4 og
  go_wp2_with fail
  refine (wtext a1 _ ha1).mono ?_
  rintro e w5 ⟨vt, rfl, ot, b5⟩
  have t5 := t4.below b5
  have f5 := f4.below b5
  have g5 := g4.below b5
  have x5 := Lies.of ot
  have q5 := b5.size
  clear t4 f4 g4 b5 ot
  go_wp2_with fail
  refine (wtext a1 _ ha1).mono ?_
  rintro e w6 ⟨vu, rfl, ou, b6⟩
  have t6 := t5.below b6
  have f6 := f5.below b6
  have g6 := g5.below b6
  have x6 := x5.below b6
  have y6 := Lies.of ou
  have q6 := b6.size
  clear t5 f5 g5 x5 b6 ou
  -- h, v
  obtain ⟨Af, cf, rfl, rf, -, -⟩ := f6.1.form
  obtain ⟨Ag, cg, rfl, -, -, -⟩ := g6.1.form
  obtain ⟨At, ct, rfl, rt, -, -⟩ := x6.1.form
  obtain ⟨Au, cu, rfl, -, -, -⟩ := y6.1.form
  obtain ⟨y, hy⟩ : ∃ y, textB a1 = y := ⟨_, rfl⟩
  have hyl : y.length ≤ 140737488351242 := by
    have := uintB_len a1.size (by omega)
    rw [← hy]; unfold textB; rw [List.length_append, strB_len]; omega
  rw [hy] at x6 y6 rt
  simp only [hy]
  clear hy
  have ol : OB w6.heap.size (w6.alloc (.cells #[] 5)) (.slice (some ⟨w6.heap.size, 0, none⟩) 0 0) [] := by simpa using ob_lit w6 [] (by simp) (by simp)
  have bl : Below w6.heap.size w6 (w6.alloc (.cells #[] 5)) := (Below.refl _ _).alloc (Nat.le_refl _) _
  have rf' := rf.below' bl
  have sl := bl.size
  have nxt : Hid (∀ W : World, OB W.heap.size (W.alloc (.cells #[] 5)) (.slice (some ⟨W.heap.size, 0, none⟩) 0 0) []) := fun W => by simpa using ob_lit W [] (by simp) (by simp)
  have nxb : Hid (∀ W : World, Below W.heap.size W (W.alloc (.cells #[] 5))) := fun W => (Below.refl _ _).alloc (Nat.le_refl _) _
  go_wp2_with (first
    | (at_builtin; refine ob_append rfl (.tmp 38) (.tmp 39) rfl w6.heap.size (.slice (some ⟨w6.heap.size, 0, none⟩) 0 0) [] rfl ol Af f.length cf f rfl rf' (by simp; omega) sl ?_; intro vh w7 oh bh gh; clear gh; simp only [List.nil_append] at oh; obtain ⟨Ah, ch, rfl, -, -, -⟩ := oh.form; have b7 := bl.trans bh; have t7 := t6.below b7; have f7 := f6.below b7; have g7 := g6.below b7; have x7 := x6.below b7; have y7 := y6.below b7; have h7 := Lies.of oh; have q7 := b7.size; have rt7 := (rt.below' b7).below' (nxb.out w7); have ol7 := nxt.out w7; have sl7 := (nxb.out w7).size; clear oh bh rf rf' ol bl sl t6 f6 g6 x6 y6 rt b7)
    | (at_builtin; refine ob_append rfl (.tmp 41) (.tmp 42) rfl w7.heap.size (.slice (some ⟨w7.heap.size, 0, none⟩) 0 0) [] rfl ol7 At y.length ct y rfl rt7 (by simp; omega) sl7 ?_; intro vv w8 ov bh gh; clear gh; simp only [List.nil_append] at ov; obtain ⟨Av, cv, rfl, -, -, -⟩ := ov.form; have b8 := (nxb.out w7).trans bh; have t8 := t7.below b8; have f8 := f7.below b8; have g8 := g7.below b8; have x8 := x7.below b8; have y8 := y7.below b8; have h8 := h7.below b8; have v8 := Lies.of ov; have q8 := b8.size; clear ov bh rt7 ol7 sl7 t7 f7 g7 x7 y7 h7 b8))
  -- scribble
  refine (scribble_ob _ _ _ _ f8.1 (by omega) (by omega)).mono ?_
  rintro e w9 ⟨⟨_, rfl⟩, k9⟩
  have rw9 := f8.row
  have t9 := t8.grown k9 (fun k hk => by have := rw9 k hk; omega)
  have g9 := g8.grown k9 (fun k hk => by have := rw9 k hk; omega)
  have x9 := x8.grown k9 (fun k hk => by have := rw9 k hk; omega)
  have y9 := y8.grown k9 (fun k hk => by have := rw9 k hk; omega)
  have h9 := h8.grown k9 (fun k hk => by have := rw9 k hk; omega)
  have v9 := v8.grown k9 (fun k hk => by have := rw9 k hk; omega)
  have q9 := k9.size
  clear t8 f8 g8 x8 y8 h8 v8 k9 rw9
  go_wp2_with fail
  refine (scribble_ob _ _ _ _ x9.1 (by omega) (by omega)).mono ?_
  rintro e w10 ⟨⟨_, rfl⟩, k10⟩
  have rw10 := x9.row
  have t10 := t9.grown k10 (fun k hk => by have := rw10 k hk; omega)
  have g10 := g9.grown k10 (fun k hk => by have := rw10 k hk; omega)
  have y10 := y9.grown k10 (fun k hk => by have := rw10 k hk; omega)
  have h10 := h9.grown k10 (fun k hk => by have := rw10 k hk; omega)
  have v10 := v9.grown k10 (fun k hk => by have := rw10 k hk; omega)
  have q10 := k10.size
  clear t9 g9 x9 y9 h9 v9 k10 rw10
  go_wp2_with fail
  refine (live_true _).mono ?_
  rintro e w11 ⟨rfl, b11⟩
  have t11 := t10.below b11
  have g11 := g10.below b11
  have rg := g11.1.rb.1
  have rh := ((h10.below b11).1.rb).1
  have ru := ((y10.below b11).1.rb).1
  have rv := ((v10.below b11).1.rb).1
  have rz := t11.z.1.rb.1
  have r0 := h0.below t11.l (Nat.le_refl _)
  have ck := t11.k.1
  have q11 := b11.size
  clear t10 g10 h10 y10 v10 b11
  have ol := nxt.out w11
  have bl := nxb.out w11
  have rg' := rg.below' bl
  have sl := bl.size
  go_wp2_with (first
    | (go_at_call 15; refine (equal_same _ _ _ _ _ _ _ _ rg rh).mono ?_; rintro e w' ⟨rfl, rfl⟩; clear rh)
    | (go_at_call 15; refine (equal_same _ _ _ _ _ _ _ _ ru rv).mono ?_; rintro e w' ⟨rfl, rfl⟩; clear ru rv)
    | (go_at_call 15; refine (equal_same _ _ _ _ _ _ _ _ r0 rz).mono ?_; rintro e w' ⟨rfl, rfl⟩; clear r0 rz)
    | (at_builtin; refine ob_append rfl (.tmp 68) (.tmp 69) rfl w11.heap.size (.slice (some ⟨w11.heap.size, 0, none⟩) 0 0) [] rfl ol Ag f.length cg f rfl rg' (by simp; omega) sl ?_; intro vq w12 oq bq gq; clear gq; simp only [List.nil_append] at oq; obtain ⟨Aq, cq, rfl, -, -, -⟩ := oq.form; have b12 := bl.trans bq; have rg2 := rg.below' b12; have q12 := b12.size; clear rg' ol sl bq)
    | (at_builtin; refine ob_append rfl (.tmp 70) (.tmp 71) rfl w11.heap.size (.slice Aq f.length cq) f rfl oq Ag f.length cg f rfl rg2 (by omega) q12 ?_; intro vo w13 oo bo go; clear go; obtain ⟨Ao, co, rfl, -, hco, -⟩ := oo.form; have b13 := b12.trans bo; have t13 := t11.below b13; have g13 := g11.below b13; have o13 := Lies.of oo; have q13 := b13.size; clear oo oq bo b12 b13 rg rg2 t11 g11))
  have eo : f.length + f.length = (f ++ f).length := by rw [List.length_append]
  have hff : (f ++ f).length ≤ 2097168 := by rw [List.length_append]; omega
  have hco' : f.length + f.length ≤ co := by rw [List.length_append] at hco; exact hco
  obtain ⟨two, h2⟩ : ∃ two, Hid (two = f ++ f) := ⟨_, rfl⟩
  rw [← h2.out] at o13 eo hff
  clear hco
  have T := wtakeFrame Ao two.length co two 0 w13 o13.1.rb.1 (by omega) (by omega)
  have hcs := takeFrame_small two 0
  obtain ⟨ct2, s2, y2, ht⟩ : ∃ ct s y, takeFrame two 0 = (ct, s, y) := ⟨_, _, _, rfl⟩
  rw [ht] at T hcs
  rw [eo]
  clear ht ck bl
  refine T.mono ?_
  rintro e w14 ⟨vc, rfl, oc, b14⟩
  have t14 := t13.below b14
  have g14 := g13.below b14
  have o14 := o13.below b14
  have c14 := Lies.of oc
  have q14 := b14.size
  clear T t13 g13 o13 b14 oc
  go_wp2_with fail
  refine (scribble_ob _ _ _ _ c14.1 (by omega) (by omega)).mono ?_
  rintro e w15 ⟨⟨_, rfl⟩, k15⟩
  have rw15 := c14.row
  have t15 := t14.grown k15 (fun k hk => by have := rw15 k hk; omega)
  have g15 := g14.grown k15 (fun k hk => by have := rw15 k hk; omega)
  have o15 := o14.grown k15 (fun k hk => by have := rw15 k hk; omega)
  have q15 := k15.size
  clear t14 g14 o14 c14 k15 rw15 hcs
  -- the count's variable; Frames
  go_wp2_with fail
  obtain ⟨p, hp⟩ : ∃ p, Hid (p = w15.heap.size) := ⟨_, rfl⟩
  obtain ⟨W, hW⟩ : ∃ W, w15.alloc (.cells #[.int .i64 0] 3) = W := ⟨_, rfl⟩
  have bW : Below w15.heap.size w15 W := by rw [← hW]; exact (Below.refl _ _).alloc (Nat.le_refl _) _
  have sW : W.heap.size = w15.heap.size + 1 := by rw [← hW]; simp
  have kn : Cel W w15.heap.size (.int .i64 0) := by rw [← hW]; exact Cel.new w15 _ _
  simp only [hW]
  clear hW
  refine (wframes Ao two.length co two W (o15.below bW).1.rb.1 (by omega)).mono ?_
  rintro e V ⟨B, g, rfl, hB, hg, hBc, hgr, bV⟩
  have kn2 := kn.below bV
  have b16 := bW.trans (bV.mono bW.size)
  have sV := bV.size
  go_wp2_with fail
  refine (wpIn_wide (n := 10)).1 ?_
  refine wp_hands rfl (by omega) (gf := 42) (lb := #[.pointer (some ⟨B, 0, none⟩)]) rfl trivial (enters_of Try.func42 (by kernel_rfl) rfl)
    (hands_frames _ B g W.heap.size V.heap.size two.length two.length two V (by omega) (Nat.le_refl _) hB hg hBc hgr) (fun h k => h.trans k)
    (fun A l o o' hl ho hc => KeepF.turn A l o o' (by omega) ho hc) (fun _ => rfl)
    (fun pre X => Below w15.heap.size w15 X ∧ Cel X w15.heap.size (.int .i64 (pre.length : Nat)) ∧ ∀ x, x ∈ pre → x.2.1 = z0)
    (fun _ _ _ => False)
    (fun s A C h hb => ⟨h.1.trans (hb.mono h.1.size), h.2.1.below hb, h.2.2⟩) (fun s A l o o' h hl ho hc => ⟨below_turn (o := o) (b := 0) h.1 (Nat.le_refl _) (by omega) o', h.2.1.turn o' ho hc, h.2.2⟩)
    (fun c s A C h hb => h) (fun c s A l o o' h hl ho hc => h)
    (fun s x A l o o' h hl ho hc => ⟨h.1, h.2.1, h.2.2.turn o' ho hc⟩) ⟨b16, kn2, by simp⟩
    ?act ?assign ?body ?done ?stop
  case assign =>
    intro l x X K hK
    gi_wp2
    exact hK
  case body =>
    rintro l pre ⟨q, ct3, v⟩ X hX ⟨hb1, hk1, hall⟩ ⟨hx1, hx2, hx3⟩
    dsimp only at hx1 hx2 hx3 ⊢
    obtain rfl : ct3 = z0 := two_frames z0 h0.byte pre hall ct3 _ (by rw [HF.out, ← h2.out]; exact hx2)
    obtain ⟨A3, c3, rfl, r3, -, -⟩ := hx3.form
    obtain ⟨m, hm⟩ : ∃ m, Hid (pre.length = m) := ⟨_, rfl⟩
    have hml : m ≤ 2097168 := by
      have h3 := placeF_len pre
      have h4 := (takeFrame_fits hx2).2
      have h5 := hm.out
      omega
    rw [hm.out] at hk1
    have t := t15.below hb1
    have rz := t.z.1.rb.1
    have ck := t.k.1
    have hv := hx3.lt
    have T := scribble_ob _ _ _ X hx3 hX (by omega)
    clear hx1 hx2 t15 g15 o15 kn kn2 hBc hgr
    gi_wp2_with (refine ⟨trivial, ?_⟩; first
      | (gi_at_call 15; refine (CallsIn.inRound l (callsIn_wide.2 (equal_same _ _ _ _ _ _ _ _ r3 rz))).mono ?_; rintro e X2 ⟨rfl, rfl⟩; clear ck)
      | (gi_at_call 36; refine (CallsIn.inRound l (callsIn_wide.2 T)).mono ?_; rintro e X1 ⟨⟨_, rfl⟩, k1⟩; have hn1 := hk1.grown k1 (fun k hk => by have := hv k hk; omega); have cn := hn1.1; have fn := hn1.2; clear T))
    have hw : ∀ k, (Value.slice A3 ct3.length c3).ownBlock = some k → w15.heap.size ≤ k := fun k hk => by have := hv k hk; omega
    refine ⟨(others_of_grown hx3 k1).trans (KeepsOthers.setCell _ _ _), ⟨by have := k1.size; simpa [World.setCell] using this, fun k h3 h4 => ?_⟩, (hb1.grown k1 hb1.size hw).setCell (p := ⟨w15.heap.size, 0, none⟩) (Nat.le_refl _) _, ?_, fun x hx => ?_⟩
    · exact (Below.heap_setCell _ _ _ _ (by show k ≠ w15.heap.size; omega)).trans (k1.block k (by omega) (fun e => by have := hv k e.symm; omega))
    · have := hn1.set_same (.int .i64 ((m : Int) + 1))
      rw [List.length_append, hm.out]
      simpa using this
    · rcases List.mem_append.1 hx with hx | hx
      · exact hall x hx
      · rw [List.mem_singleton.1 hx]
  case done =>
    rintro D ys X hD hA ⟨hb1, hk1, hall⟩ hK
    have hcnt := two_count z0 h0.byte ys hall (by rw [HF.out, ← h2.out]; exact hA)
    rw [HF.out] at hcnt
    dsimp only at hcnt
    obtain ⟨m, hm⟩ : ∃ m, ys.length = m := ⟨_, rfl⟩
    rw [hm] at hk1 hcnt
    clear hm hA hall
    have t := t15.below hb1
    have rg := (g15.below hb1).1.rb.1
    have ro := (o15.below hb1).1.rb.1
    have ra := ro.take (k := f.length) (by omega)
    rw [h2.out, List.take_left] at ra
    have rc := ro.cut (k := f.length) (by omega) co (by omega)
    have ez : two.length - f.length = f.length := by omega
    rw [h2.out, List.drop_left, ← h2.out, ez] at rc
    have cn := hk1.1
    have cr := t.r.1
    have fr := t.r.2
    have i1 : (f.length : Int) ≤ (two.length : Int) := by omega
    have i2 : f.length ≤ two.length := by omega
    have i3 : (f.length : Int) ≤ (co : Int) := by omega
    have i4 : f.length ≤ co := by omega
    have i5 : two.length ≤ co := by omega
    have t15s := t15.r.lt
    clear t15 g15 o15 kn kn2 hBc hgr hb1 ro
    have e1 : ((m : Int) == 2) = decide (0 < f.length) := by
      rw [← hcnt, Bool.eq_iff_iff]; simp; omega
    clear hcnt
    by_cases hcf : co = f.length
    · rw [if_pos hcf] at rc
      go_wp2_with (first
        | (go_at_call 15; refine (equal_same _ _ _ _ _ _ _ _ ra rg).mono ?_; rintro e w' ⟨rfl, rfl⟩; clear ra)
        | (go_at_call 15; refine (equal_same _ _ _ _ _ _ _ _ rc rg).mono ?_; rintro e w' ⟨rfl, rfl⟩))
      refine leaves_marks (fun Y => Below w.heap.size w Y ∧ Cel Y w.heap.size (.bool true)) w15.heap.size (fun Y E h hE ho => ⟨below_turn (o := .deferred (some [])) (b := 0) h.1 (Nat.le_refl _) (by have := t15s; omega) _, h.2.turn _ ho rfl⟩) (fun Y h => ?_) [D] _ (by simp)
        (fun E hE => ?_) ⟨t.l.setCell (p := ⟨w.heap.size, 0, none⟩) (Nat.le_refl _) _, t.r.set_same _⟩
      · have hc5 := h.2.1
        exact ⟨.bool true, by simp [results, Try.f13, go_sem, hc5], rfl, h.1⟩
      · obtain rfl := List.mem_singleton.1 hE
        exact ⟨by omega, (Below.heap_setCell _ _ _ _ (by show E ≠ w.heap.size; have := t15s; omega)).trans hK⟩
    · rw [if_neg hcf] at rc
      have hc9 : ¬ co ≤ f.length := by omega
      go_wp2_with (first
        | (go_at_call 15; refine (equal_same _ _ _ _ _ _ _ _ ra rg).mono ?_; rintro e w' ⟨rfl, rfl⟩; clear ra)
        | (go_at_call 15; refine (equal_same _ _ _ _ _ _ _ _ rc rg).mono ?_; rintro e w' ⟨rfl, rfl⟩))
      refine leaves_marks (fun Y => Below w.heap.size w Y ∧ Cel Y w.heap.size (.bool true)) w15.heap.size (fun Y E h hE ho => ⟨below_turn (o := .deferred (some [])) (b := 0) h.1 (Nat.le_refl _) (by have := t15s; omega) _, h.2.turn _ ho rfl⟩) (fun Y h => ?_) [D] _ (by simp)
        (fun E hE => ?_) ⟨t.l.setCell (p := ⟨w.heap.size, 0, none⟩) (Nat.le_refl _) _, t.r.set_same _⟩
      · have hc5 := h.2.1
        exact ⟨.bool true, by simp [results, Try.f13, go_sem, hc5], rfl, h.1⟩
      · obtain rfl := List.mem_singleton.1 hE
        exact ⟨by omega, (Below.heap_setCell _ _ _ _ (by show E ≠ w.heap.size; have := t15s; omega)).trans hK⟩
  case stop => exact fun _ _ _ _ _ _ h _ => h.elim
end Go.Proofs.Ythodmnekljbljaa
