/- The walk of WireGoes: true at all bytes and every stop. -/
import Derived.Test.YthodmnekljbljaaFrames
import Derived.Test.YthodmnekljbljaaFramesMake
import Derived.Test.YthodmnekljbljaaCel
import Derived.Test.YthodmnekljbljaaLive
import Derived.Test.YthodmnekljbljaaTakeFrameR
import Derived.Test.YthodmnekljbljaaEqual
namespace Go.Proofs.Ythodmnekljbljaa
open Go.RowKit Go.Shelf

attribute [local go_sem] Oper.semAt_some

/-- What stands throughout: the bytes, the stop, the answer, and nothing that lay has turned. -/
structure G3 (s : Nat) (A : Option Addr) (n c : Nat) (zs : List Int) (a1 : Int) (w W : World) : Prop where
  b : Cel W s (.slice A n c)
  t : Cel W (s + 1) (.int .i64 a1)
  r : Cel W (s + 1 + 1) (.bool false)
  z : RB W A n zs
  l : Below s w W

theorem G3.below {s : Nat} {A : Option Addr} {n c : Nat} {zs : List Int} {a1 : Int} {w W W' : World} (h : G3 s A n c zs a1 w W) (hb : Below W.heap.size W W') : G3 s A n c zs a1 w W' :=
  ⟨h.b.below hb, h.t.below hb, h.r.below hb, h.z.below' hb, h.l.trans (hb.mono (Nat.le_of_lt h.b.lt))⟩
theorem G3.turn {s : Nat} {A : Option Addr} {n c : Nat} {zs : List Int} {a1 : Int} {w W : World} (h : G3 s A n c zs a1 w W) (hs : s ≤ w.heap.size) {l : Nat} {o : Obj} (o' : Obj) (hsl : s ≤ l) (hl : W.heap[l]? = some o) (hc : o.isCells = false) :
    G3 s A n c zs a1 w (W.putObj l o') :=
  ⟨h.b.turn o' hl hc, h.t.turn o' hl hc, h.r.turn o' hl hc, h.z.turn o' hl hc, below_turn (o := o) (b := 0) h.l hs hsl o'⟩

/-- Between two frames of one going through: the two variables, and the marks of the loops before. -/
structure GI (p : Nat) (Ds : List Nat) (w X : World) (x y : Int) : Prop where
  l : Below w.heap.size w X
  a : Cel X p (.int .i64 x)
  e : Cel X (p + 1) (.int .i64 y)
  d : ∀ D, D ∈ Ds → D < p ∧ X.heap[D]? = some (.deferred (some []))
theorem GI.below {p : Nat} {Ds : List Nat} {w X Y : World} {x y : Int} (h : GI p Ds w X x y) (hb : Below X.heap.size X Y) : GI p Ds w Y x y :=
  ⟨h.l.trans (hb.mono h.l.size), h.a.below hb, h.e.below hb, fun D hD => ⟨(h.d D hD).1, stays_at _ _ (h.d D hD).2 hb⟩⟩
theorem GI.turn {p : Nat} {Ds : List Nat} {w X : World} {x y : Int} (h : GI p Ds w X x y) {l : Nat} {o : Obj} (o' : Obj) (hw : w.heap.size ≤ l) (hp : p ≤ l) (hl : X.heap[l]? = some o) (hc : o.isCells = false) :
    GI p Ds w (X.putObj l o') x y :=
  ⟨h.l.grown (grownBy_putObj' X l o') h.l.size (fun k e => by cases e; exact hw), h.a.turn o' hl hc, h.e.turn o' hl hc,
    fun D hD => ⟨(h.d D hD).1, (World.putObj_heap_other (by have := (h.d D hD).1; omega)).trans (h.d D hD).2⟩⟩
theorem GI.step {p : Nat} {Ds : List Nat} {w X : World} {x y : Int} (h : GI p Ds w X x y) (hw : w.heap.size ≤ p) (x' y' : Int) :
    GI p Ds w ((X.setCell ⟨p, 0, none⟩ (.int .i64 x')).setCell ⟨p + 1, 0, none⟩ (.int .i64 y')) x' y' :=
  ⟨(h.l.setCell (p := ⟨p, 0, none⟩) hw _).setCell (p := ⟨p + 1, 0, none⟩) (by show w.heap.size ≤ p + 1; omega) _, (h.a.set_same _).set_other (by omega) _, (h.e.set_other (by omega) _).set_same _,
    fun D hD => ⟨(h.d D hD).1, by
      have := (h.d D hD).1
      exact ((Below.heap_setCell _ _ _ _ (by show D ≠ p + 1; omega)).trans (Below.heap_setCell _ _ _ _ (by show D ≠ p; omega))).trans (h.d D hD).2⟩⟩

set_option maxRecDepth 100000 in
set_option maxHeartbeats 2000000 in
theorem walk_WireGoes (A0 : Option Addr) (n0 c0 : Nat) (z0 : List Int) (a1 : Int) (w : World) (h0 : RB w A0 n0 z0) (hn0 : n0 ≤ c0) (hc0 : c0 ≤ 140737488351232) (ha1 : -9223372036854775808 ≤ a1 ∧ a1 ≤ 9223372036854775807) :
    Calls Try.prog 8 #[.slice A0 n0 c0, .int .i64 a1] w fun e w' => e = .returned (.bool true) ∧ Below w.heap.size w w' := by
  refine (callsIn_wide (n := 10)).1 ?_
  refine callsIn_of_wp_marks Try.func8 rfl trivial ?_ rfl
  simp only [Try.ntmps8, List.size_toArray, List.length_cons, List.length_nil, Nat.reduceAdd, Nat.reduceSub, Array.replicate_succ, Array.replicate_zero, List.push_toArray, List.append_toArray, List.nil_append, List.cons_append]
  have k0 := (Cel.new w (.slice A0 n0 c0) 25)
  have k1 := (Cel.new (w.alloc (.cells #[.slice A0 n0 c0] 25)) (.int .i64 a1) 3)
  have k2 := (Cel.new ((w.alloc (.cells #[.slice A0 n0 c0] 25)).alloc (.cells #[.int .i64 a1] 3)) (.bool false) 4)
  have g0 : G3 w.heap.size A0 n0 c0 z0 a1 w (((w.alloc (.cells #[.slice A0 n0 c0] 25)).alloc (.cells #[.int .i64 a1] 3)).alloc (.cells #[.bool false] 4)) := by
    have bb := (((Below.refl w.heap.size w).alloc (Nat.le_refl _) (.cells #[.slice A0 n0 c0] 25)).alloc (by simp) (.cells #[.int .i64 a1] 3)).alloc (by simp; omega) (.cells #[.bool false] 4)
    refine ⟨(k0.alloc _).alloc _, ?_, ?_, h0.below' bb, bb⟩
    · have := k1.alloc (.cells #[.bool false] 4); simpa using this
    · simpa using k2
  clear k0 k1 k2
  gi_wp2_with (refine ⟨trivial, ?_⟩; first
    | (gi_at_call 14; refine (callsIn_wide.2 (live_true _)).mono ?_; rintro e w1 ⟨rfl, b1⟩; have g1 := g0.below b1; clear g0 b1; have cb := g1.b.1; have cr := g1.r.1; have fr := g1.r.2; have cz := g1.z)
    | (gi_at_call 34; refine (callsIn_wide.2 (wframes _ _ _ _ _ cz (by omega))).mono ?_; rintro e w2 ⟨B, g, rfl, hB, hg, hBc, hgr, b2⟩; have g2 := g1.below b2; clear g1 cb cr fr cz b2; have cb := g2.b.1; have cr := g2.r.1; have fr := g2.r.2; have cz := g2.z))
  refine wpIn_loop (fun a W => ∃ (k : Nat) (Ds : List Nat) (u6 u7 u13 u14 u15 u21 u22 u53 u54 u55 u56 u57 u58 u59 u60 u61 u62 u63 u64 u65 u66 u67 : Value), a = { tmps := #[.slice A0 n0 c0, .int .i64 a1, .pointer (some ⟨w.heap.size, 0, none⟩), .pointer (some ⟨w.heap.size + 1, 0, none⟩), .pointer (some ⟨w.heap.size + 1 + 1, 0, none⟩), .func (.func 42) #[] #[.pointer (some ⟨B, 0, none⟩)], u6, u7, undef, undef, undef, undef, undef, u13, u14, u15, .bool true, .bool false, .slice A0 n0 c0, .func (.func 42) #[] #[.pointer (some ⟨B, 0, none⟩)], .int .i64 (k : Nat), u21, u22, undef, undef, undef, undef, undef, undef, undef, undef, undef, undef, undef, undef, undef, undef, undef, undef, undef, undef, undef, undef, undef, undef, undef, undef, undef, undef, undef, undef, undef, undef, u53, u54, u55, u56, u57, u58, u59, u60, u61, u62, u63, u64, u65, u66, u67, undef], defers := Ds.map markF } ∧ k ≤ 2 ∧ Below w2.heap.size w2 W ∧ Ds.Nodup ∧ ∀ D, D ∈ Ds → w2.heap.size ≤ D ∧ W.heap[D]? = some (.deferred (some [])))
    (fun a _ => 2 - (intOf (a.tmps.getD 20 undef)).toNat) ⟨0, [], undef, undef, undef, undef, undef, undef, undef, undef, undef, undef, undef, undef, undef, undef, undef, undef, undef, undef, undef, undef, undef, undef, rfl, by omega, Below.refl _ _, List.nodup_nil, by simp⟩ ?_
  rintro a W ⟨k, Ds, u6, u7, u13, u14, u15, u21, u22, u53, u54, u55, u56, u57, u58, u59, u60, u61, u62, u63, u64, u65, u66, u67, rfl, hk, hbW, hnd, hDs⟩
  have g3 := g2.below hbW
  have hBw := keep_below hBc hbW
  have hgw := hgr.below' hbW
  gi_wp2
  · have hk2 : (k : Int) < 2 := by assumption
    have hn : n0 ≤ 140737488355328 := by omega
    obtain ⟨V, hV⟩ : ∃ V, (W.alloc (.cells #[.int .i64 0] 3)).alloc (.cells #[.int .i64 0] 3) = V := ⟨_, rfl⟩
    have hsV : V.heap.size = W.heap.size + 2 := by rw [← hV]; simp
    have bV : Below W.heap.size W V := by rw [← hV]; exact ((Below.refl _ _).alloc (Nat.le_refl _) _).alloc (by simp) _
    have hwW := hbW.size
    have gi0 : GI W.heap.size Ds w2 V 0 0 := by
      refine ⟨hbW.trans (bV.mono hwW), ?_, ?_, fun D hD => ⟨(Array.getElem?_eq_some_iff.1 (hDs D hD).2).1, stays_at _ _ (hDs D hD).2 bV⟩⟩
      · rw [← hV]; exact (Cel.new W _ _).alloc _
      · have := Cel.new (W.alloc (.cells #[.int .i64 0] 3)) (.int .i64 0) 3
        rw [hV] at this
        simpa using this
    rw [hV]
    refine wp_hands rfl (by omega) (gf := 42) (lb := #[.pointer (some ⟨B, 0, none⟩)]) rfl trivial (enters_of Try.func42 (by kernel_rfl) rfl)
      (hands_frames _ B g w1.heap.size w2.heap.size n0 n0 z0 V hn (Nat.le_refl _) hB hg (keep_below hBw bV) (hgw.below' bV)) (fun h k => h.trans k)
      (fun A l o o' hl ho hc => KeepF.turn A l o o' (by omega) ho hc) (fun _ => rfl)
      (fun pre X => GI W.heap.size Ds w2 X (placeF pre : Nat) (pre.length : Nat) ∧ placeF pre ≤ n0)
      (fun c pre X => c = .exit 2 ∧ GI W.heap.size Ds w2 X (placeF pre : Nat) a1 ∧ placeF pre ≤ n0)
      (fun s A C h hb => ⟨h.1.below hb, h.2⟩) (fun s A l o o' h hl ho hc => ⟨h.1.turn o' (by omega) (by omega) ho hc, h.2⟩)
      (fun c s A C h hb => ⟨h.1, h.2.1.below hb, h.2.2⟩) (fun c s A l o o' h hl ho hc => ⟨h.1, h.2.1.turn o' (by omega) (by omega) ho hc, h.2.2⟩)
      (fun s x A l o o' h hl ho hc => ⟨h.1, h.2.1, h.2.2.turn o' ho hc⟩) ⟨gi0, Nat.zero_le _⟩
      (fun x => { tmps := #[.slice A0 n0 c0, .int .i64 a1, .pointer (some ⟨w.heap.size, 0, none⟩), .pointer (some ⟨w.heap.size + 1, 0, none⟩), .pointer (some ⟨w.heap.size + 1 + 1, 0, none⟩), .func (.func 42) #[] #[.pointer (some ⟨B, 0, none⟩)], .pointer (some ⟨W.heap.size, 0, none⟩), .pointer (some ⟨W.heap.size + 1, 0, none⟩), .int .i64 (x.1 : Nat), x.2.2, undef, undef, undef, u13, u14, u15, .bool true, .bool false, .slice A0 n0 c0, .func (.func 42) #[] #[.pointer (some ⟨B, 0, none⟩)], .int .i64 (k : Nat), .bool (decide ((k : Int) < 2)), .func (.func 42) #[] #[.pointer (some ⟨B, 0, none⟩)], .int .i64 (x.1 : Nat), x.2.2, undef, undef, undef, undef, undef, undef, undef, undef, undef, undef, undef, undef, undef, undef, undef, undef, undef, undef, undef, undef, undef, undef, undef, undef, undef, undef, undef, undef, u53, u54, u55, u56, u57, u58, u59, u60, u61, u62, u63, u64, u65, u66, u67, undef], defers := [] }) ?assign ?body ?done ?stop
    case assign =>
      intro l x X K hK
      rw [decide_eq_true hk2] at hK
      gi_wp2
      exact hK
    case body =>
      rintro l pre ⟨q, ct, v⟩ X hX ⟨gi, hp⟩ ⟨hx1, hx2, hx3⟩
      dsimp only at hx1 hx2 hx3 ⊢
      obtain ⟨A3, c3, rfl, r3, -, -⟩ := hx3.form
      obtain ⟨m, hm⟩ : ∃ m, Hid (pre.length = m) := ⟨_, rfl⟩
      have hml := Hid.out (show Hid (m ≤ q) by rw [← hm.out, hx1]; exact placeF_len pre)
      have hq := Lib.hid hx1
      clear hx1
      rw [← hq.out] at gi hp hx2
      rw [hm.out] at gi
      obtain ⟨-, hql⟩ := takeFrame_fits hx2
      have hzl := h0.len
      have g4 := g2.below gi.l
      have T := rtakeFrame A0 n0 c0 z0 (q : Nat) X g4.z hn hn0
      rw [hx2] at T
      have ct0 := g4.t
      have hlt2 := g2.t.lt
      have hne1 : w.heap.size + 1 ≠ W.heap.size := by omega
      have hne2 : w.heap.size + 1 ≠ W.heap.size + 1 := by have := g2.b.lt; omega
      clear cb cr fr cz hbW hnd hDs hBw hgw bV gi0 hV hsV g3 hx2 hx3 hBc hgr
      have cb := g4.b.1
      have ca := gi.a.1
      have fa := gi.a.2
      gi_wp2_with (refine ⟨trivial, ?_⟩; first
        | (gi_at_call 33; refine (CallsIn.inRound l (callsIn_wide.2 T)).mono ?_; rintro e X1 ⟨v1, rfl, ho1, hb1⟩; clear T ca fa cb; obtain ⟨A4, c4, rfl, r4, -, -⟩ := ho1.form; have gi1 := gi.below hb1; have r3' := r3.below' hb1; have ca := gi1.a.1; have fa := gi1.a.2; have ce := gi1.e.1; have fe := gi1.e.2; have cs := (((ct0.below hb1).set_other (c := W.heap.size) hne1 (.int .i64 ((q : Int) + ((ct.length : Int) + 8)))).set_other (c := W.heap.size + 1) hne2 (.int .i64 ((m : Int) + 1))).1)
        | (gi_at_call 15; refine (CallsIn.inRound l (callsIn_wide.2 (equal_same _ _ _ _ _ _ _ _ r3' r4))).mono ?_; rintro e X2 ⟨rfl, rfl⟩))
      all_goals
        have gi5 := gi1.step hwW ((q : Int) + ((ct.length : Int) + 8)) ((m : Int) + 1)
        have hpl : placeF (pre ++ [(q, ct, Value.slice A3 ct.length c3)]) = q + (ct.length + 8) := by rw [placeF_snoc, ← hq.out]
        have hle : q + (ct.length + 8) ≤ n0 := hzl ▸ hql
        have hot : KeepsOthers X ((X1.setCell ⟨W.heap.size, 0, none⟩ (.int .i64 ((q : Int) + ((ct.length : Int) + 8)))).setCell ⟨W.heap.size + 1, 0, none⟩ (.int .i64 ((m : Int) + 1))) :=
          ((others_of_below hb1).trans (KeepsOthers.setCell _ _ _)).trans (KeepsOthers.setCell _ _ _)
      · refine ⟨hot, rfl, ?_, by rw [hpl]; exact hle⟩
        rw [hpl]
        have e1 : ((m : Int) + 1 == a1) = true := by assumption
        have e2 : ((m : Int) + 1) = a1 := by simpa using e1
        rw [e2] at gi5 ⊢
        exact gi5
      · refine ⟨hot, ⟨hot.size, fun k _ h2 => (gi5.l.block k h2).trans (gi.l.block k h2).symm⟩, ?_, by rw [hpl]; exact hle⟩
        rw [hpl, List.length_append, hm.out]
        simpa using gi5
    case done =>
      rintro D ys X hD ⟨hle, herr⟩ ⟨gi, hp⟩ hK
      obtain ⟨q, hq⟩ : ∃ q, placeF ys = q := ⟨_, rfl⟩
      rw [hq] at gi hp herr
      obtain ⟨m, hm⟩ : ∃ m, ys.length = m := ⟨_, rfl⟩
      rw [hm] at gi
      clear hq hm hle
      have g4 := g2.below gi.l
      obtain ⟨ct, z, y, ht⟩ : ∃ ct z y, takeFrame z0 (q : Nat) = (ct, z, y) := ⟨_, _, _, rfl⟩
      have T := rtakeFrame A0 n0 c0 z0 (q : Nat) X g4.z hn hn0
      rw [ht] at T herr
      clear ht cb cr fr cz hbW hBw hgw bV gi0 g3 hBc hgr
      have cb := g4.b.1
      have ca := gi.a.1
      have ey : ((y : Int) == 0) = false := by simpa using herr
      gi_wp2_with (refine ⟨trivial, ?_⟩; gi_at_call 33; refine (callsIn_wide.2 T).mono ?_; rintro e X1 ⟨v1, rfl, ho1, hb1⟩; clear T ca cb; have gi1 := gi.below hb1; have ce := gi1.e.1; have cs := (g4.t.below hb1).1)
      all_goals
        refine ⟨⟨k + 1, D :: Ds, _, _, _, _, _, _, _, _, _, _, _, _, _, _, _, _, _, _, _, _, _, _, rfl, by omega, gi1.l, List.nodup_cons.2 ⟨fun h => ?_, hnd⟩, fun E hE => ?_⟩, ?_⟩
        · have := (gi1.d D h).1; omega
        · rcases List.mem_cons.1 hE with rfl | hE
          · exact ⟨by omega, stays_at _ _ hK hb1⟩
          · exact ⟨(hDs E hE).1, (gi1.d E hE).2⟩
        · show 2 - ((k : Int) + 1).toNat < 2 - ((k : Nat) : Int).toNat
          omega
    case stop =>
      rintro D c pre X hD _ ⟨rfl, gi, hp⟩ hK
      obtain ⟨q, hq⟩ : ∃ q, placeF pre = q := ⟨_, rfl⟩
      rw [hq] at gi hp
      clear hq
      have g4 := g2.below gi.l
      obtain ⟨ct, z, y, ht⟩ : ∃ ct z y, takeFrame z0 (q : Nat) = (ct, z, y) := ⟨_, _, _, rfl⟩
      have T := rtakeFrame A0 n0 c0 z0 (q : Nat) X g4.z hn hn0
      rw [ht] at T
      clear ht cb cr fr cz hbW hBw hgw bV gi0 g3 hBc hgr
      have cb := g4.b.1
      have ca := gi.a.1
      gi_wp2_with (refine ⟨trivial, ?_⟩; gi_at_call 33; refine (callsIn_wide.2 T).mono ?_; rintro e X1 ⟨v1, rfl, ho1, hb1⟩; clear T ca cb; have gi1 := gi.below hb1; have ce := gi1.e.1; have cs := (g4.t.below hb1).1)
      all_goals
        refine ⟨⟨k + 1, D :: Ds, _, _, _, _, _, _, _, _, _, _, _, _, _, _, _, _, _, _, _, _, _, _, rfl, by omega, gi1.l, List.nodup_cons.2 ⟨fun h => ?_, hnd⟩, fun E hE => ?_⟩, ?_⟩
        · have := (gi1.d D h).1; omega
        · rcases List.mem_cons.1 hE with rfl | hE
          · exact ⟨by omega, stays_at _ _ hK hb1⟩
          · exact ⟨(hDs E hE).1, (gi1.d E hE).2⟩
        · show 2 - ((k : Int) + 1).toNat < 2 - ((k : Nat) : Int).toNat
          omega
  · gi_wp2_with (refine ⟨trivial, ?_⟩; gi_at_call 14; refine (callsIn_wide.2 (live_true _)).mono ?_; rintro e X1 ⟨rfl, b1⟩; have g4 := g3.below b1; have cr1 := g4.r.1; have fr1 := g4.r.2)
    have hl2 := g2.r.lt
    refine leaves_marks (fun Y => Below w.heap.size w Y ∧ Cel Y (w.heap.size + 1 + 1) (.bool true)) w2.heap.size (fun Y D h hD ho => ⟨below_turn (o := .deferred (some [])) (b := 0) h.1 (Nat.le_refl _) (by omega) _, h.2.turn _ ho rfl⟩) (fun Y h => ?_) Ds _ hnd
      (fun D hD => ⟨(hDs D hD).1, ?_⟩) ⟨(g4.l.setCell (p := ⟨w.heap.size + 1 + 1, 0, none⟩) (by show w.heap.size ≤ w.heap.size + 1 + 1; omega) _), g4.r.set_same _⟩
    · have hc5 := h.2.1
      exact ⟨.bool true, by simp [results, Try.f8, go_sem, hc5], rfl, h.1⟩
    · have := (hDs D hD).1
      exact (Below.heap_setCell _ _ _ _ (by show D ≠ w.heap.size + 1 + 1; omega)).trans (stays_at _ _ (hDs D hD).2 b1)
end Go.Proofs.Ythodmnekljbljaa
