import Derived.Test.YtknppiebncdjmaaGreatJAS
import Derived.Test.YtknppiebncdjmaaGreatJAH
set_option linter.unusedVariables false
namespace Go.Proofs.YtknppiebncdjmaaGreat
set_option maxRecDepth 100000
open Go.RowKit Go.Maps Go.ChangeMaps Go.MapKept

structure CopI (F T cur left : List (Int × (Bool × Bool))) : Prop where
  oc : OnceA cur
  ol : OnceA left
  sub : ∀ x f, (x, f) ∈ left → (x, f) ∈ T
  get : ∀ x, getA cur x = if (getA left x).isSome then getA F x else (getA T x).or (getA F x)
  len : cur.length + left.length ≤ F.length + T.length
theorem CopI.start {F T : List (Int × (Bool × Bool))} (hF : OnceA F) (hT : OnceA T) : CopI F T F T := ⟨hF, hT, fun _ _ h => h, fun x => by cases getA T x <;> simp, Nat.le_refl _⟩
theorem CopI.step {F T cur left : List (Int × (Bool × Bool))} (hT : OnceA T) (h : CopI F T cur left) {x : Int} {f : Bool × Bool} (hx : (x, f) ∈ left) : CopI F T (putA cur x f) (delA left x) := by
  refine ⟨h.oc.put x f, h.ol.del x, fun y g hy => h.sub y g (mem_delA.1 hy).1, fun y => ?_, ?_⟩
  · rw [getA_put h.oc, getA_del h.ol]
    by_cases e : y = x
    · subst e
      rw [if_pos rfl, if_pos rfl, (getA_some hT).2 (h.sub y f hx)]
      rfl
    · rw [if_neg e, if_neg e, h.get]
  · have h1 : (delA left x).length < left.length := by
      unfold delA
      exact List.length_filter_lt_length_iff_exists.2 ⟨(x, f), hx, by simp⟩
    have h2 := put_lenA (l := cur) x f
    have := h.len
    omega
theorem CopI.ends {F T cur : List (Int × (Bool × Bool))} (hF : OnceA F) (hT : OnceA T) (h : CopI F T cur []) : cur.Perm (copyG F T) := permA h.oc (copy_once T F hF) fun x => by rw [h.get, copy_get T F hF hT]; rfl
section
variable {M : MF} {w : World} {b ab kb fb lm lr rr : Nat} {GR : Nat → Prop} {c : Cp10} {P : Pg}
set_option maxHeartbeats 8000000 in
theorem wxCopy {fb tm : Nat} {F T : List (Int × (Bool × Bool))} (hF : MapM KI w fb (flgM F)) (hT : MapM KI w tm (flgM T)) (hne : tm ≠ fb) (hl : F.length + T.length ≤ 3000000) :
    Calls Tryz.prog 147 #[.map (some fb), .map (some tm)] w fun e w' => e = .returned (.tuple #[]) ∧ MapM KI w' fb (flgM (copyG F T)) ∧ Out (fun k => k = fb) w w' := by
  have HF := Lib.hid hF
  have HT := Lib.hid hT
  have OF := Lib.hid ((enc_once flagV).1 hF.once)
  have OT := Lib.hid ((enc_once flagV).1 hT.once)
  have HNE := Lib.hid hne
  have HL := Lib.hid hl
  have HLT := Lib.hid (And.intro hF.lt hT.lt)
  clear hF hT hne hl
  go_enter Tryz.func147, Tryz.ntmps147
  go_wp2_with (at_range; go_loud (refine wp_rangeM KI (by rfl) (.tmp 6) (by rfl) (by rfl) HT.out Tryz.underlying88 ?_; intro w2 r2 g2 s2; have R2 := Lib.hid r2; have G2 := Lib.hid g2; clear r2 g2 s2))
  try go_frame
  go_loopw [8] (fun _ wr => ∃ cur left : List (Int × (Bool × Bool)), CopI F T cur left ∧ RangeM KI wr tm w.heap.size (flgM T) (flgM left) ∧ MapM KI wr fb (flgM cur) ∧ Out (fun k => k = fb) w wr) (fun _ wr => wr.rangeLeft tm w.heap.size)
  case atStart =>
    have o2 : Out (fun k => k = fb) w w2 := (Out.refl _ w).grown G2.out (fun k e => by cases e)
    have b2 : Below w.heap.size w w2 := (Below.refl _ _).grown G2.out (Nat.le_refl _) (fun k e => by cases e)
    exact ⟨F, T, CopI.start OF.out OT.out, R2.out, HF.out.block (b2.block _ HLT.out.1), o2⟩
  case round =>
    rename World => wr
    obtain ⟨cur, left, hI, hR, hM, hO⟩ := hrel
    have HI := Lib.hid hI
    have HR := Lib.hid hR
    have HM := Lib.hid hM
    have HO := Lib.hid hO
    clear hI hR hM hO
    go_wp2_with (at_next; go_loud (refine wp_nextM KI (by rfl) (.tmp 7) (by rfl) w.heap.size (flgM left) (by rfl) HR.out ?_ ?_))
    · intro hnil
      have hl : left = [] := by
        unfold flgM encA at hnil
        exact List.map_eq_nil_iff.1 hnil
      subst hl
      go_wp2
      go_end0
      exact ⟨rfl, HM.out.perm ((HI.out.ends OF.out OT.out).map _), HO.out⟩
    · intro x v wn hin hok hr2 hg2 hsz hlt hen
      obtain ⟨f, hf, rfl⟩ := (enc_mem flagV).1 hin
      have hlts := HLT.out
      have hitl := RangeM.it_lt HR.out
      obtain ⟨X, hX⟩ : ∃ X, wn.alloc (.cells #[.bool f.1, .bool f.2] 79) = X := ⟨_, rfl⟩
      have bX : Below wn.heap.size wn X := by rw [← hX]; exact (Below.refl _ _).alloc (Nat.le_refl _) _
      have nX : X.heap[wn.heap.size]? = some (.cells #[.bool f.1, .bool f.2] 79 (0, 0)) := by rw [← hX]; exact heap_alloc_new _ _
      have x1 : X.cell? ⟨wn.heap.size, 0, none⟩ = some (.bool f.1) := cell_of_row _ _ 0 _ _ _ nX
      have x2 : X.cell? ⟨wn.heap.size, 1, none⟩ = some (.bool f.2) := cell_of_row _ _ 1 _ _ _ nX
      have oX : Out (fun k => k = fb) w X := (HO.out.grown hg2 fun k e => .inr (by rw [← Option.some.inj e]; exact Nat.le_refl _)).then (Out.of_below bX _)
      have rX : RangeM KI X tm w.heap.size (flgM T) (flgM (delA left x)) := by
        have hd : delM (flgM left) x = flgM (delA left x) := enc_del _ _ _
        rw [← hd]
        exact hr2.kept (bX.block _ hr2.map.lt) (bX.block _ hr2.it_lt)
      have lX : X.rangeLeft tm w.heap.size < wr.rangeLeft tm w.heap.size := by
        rw [left_kept (bX.block _ hr2.map.lt) (bX.block _ hr2.it_lt)]; exact hlt
      have mX : MapM KI X fb (flgM cur) := (HM.out.block (hg2.block fb HM.out.lt (fun e => by have := Option.some.inj e; omega))).block (bX.block _ (by have := HM.out.lt; have := hg2.size; omega))
      have hen2 : (Instr.entry (.pointer (some ⟨w.heap.size, 0, none⟩))).run Tryz.prog wn = .ok (.tuple #[.int .i64 x, .agg #[.bool f.1, .bool f.2]]) wn := hen
      have OX := Lib.hid oX
      have RX := Lib.hid rX
      have LX := Lib.hid lX
      have MX := Lib.hid mX
      have HST := Lib.hid (HI.out.step OT.out hf)
      have HXK := Lib.hid (show KI.ok x from hok)
      have HCL := Lib.hid (show (flgM cur).length < 4000000 by rw [show (flgM cur).length = cur.length from enc_len _ _]; have := HI.out.len; have := HL.out; omega)
      clear hin hok hr2 hg2 hsz hlt hen hitl bX nX oX rX lX mX hf hlts
      go_upto_region 3 with fail
      clear hen2 hX
      go_wp2_with (at_mapUpdate; go_loud (refine wp_putM KI (by rfl) (.tmp 13) (.tmp 14) (.tmp 15) (by rfl) (by rfl) MX.out Tryz.underlying88 x HXK.out (by rfl) HCL.out ?_; intro w5 m5 g5 s5; have M5 := Lib.hid m5; have G5 := Lib.hid g5; clear m5 g5 s5; go_frame))
      have o5 : Out (fun k => k = fb) X w5 := (Out.refl _ X).grown G5.out fun k e => .inl (Option.some.inj e).symm
      have O5 := Lib.hid o5
      clear o5
      go_roundw
      case rel =>
        have e5 : putM (flgM cur) x (flagV f) = flgM (putA cur x f) := enc_put _ _ _ _
        have m5 : MapM KI w5 fb (putM (flgM cur) x (flagV f)) := M5.out
        rw [e5] at m5
        exact ⟨putA cur x f, delA left x, HST.out, RX.out.kept (O5.out.block _ RX.out.map.lt HNE.out) (O5.out.block _ RX.out.it_lt (by have := HLT.out; omega)), m5, OX.out.then O5.out⟩
      case measure =>
        rw [left_kept (O5.out.block _ RX.out.map.lt HNE.out) (O5.out.block _ RX.out.it_lt (by have := HLT.out; omega))]
        exact LX.out
set_option maxHeartbeats 4000000 in
theorem wxPut (I : Api9 M) (h : Mem10 M w b ab kb fb lm lr rr GR c P) (hc : PgOk c P) {bm bt tm : Nat} (c1 : w.cell? ⟨bm, 0, none⟩ = some (.pointer (some ⟨b, 0, none⟩))) (c2 : w.cell? ⟨bt, 0, none⟩ = some (.map (some tm))) {T : List (Int × (Bool × Bool))} (hT : MapM KI w tm (flgM T)) (hne : tm ≠ fb) (hne1 : bm ≠ fb) (hne2 : bt ≠ fb) (hl : T.length ≤ 2000001) :
    Calls Tryz.prog 146 #[.pointer (some ⟨bm, 0, none⟩), .pointer (some ⟨bt, 0, none⟩)] w fun e w' => e = .returned (.tuple #[]) ∧ Mem10 M w' b ab kb fb lm lr rr GR c { P with flg := copyG P.flg T } ∧ Out (fun k => k = fb) w w' := by
  have c8 := h.cells.2.2.2.2.2.2.2.2.1
  have CC := Lib.hid (wxCopy (w := w.drew) (show MapM KI w.drew fb (flgM P.flg) from h.flg) (show MapM KI w.drew tm (flgM T) from hT) hne (by have := hc.nf; omega))
  have HM := Lib.hid h
  clear h hc hT hl
  go_enter Tryz.func146, Tryz.ntmps146
  go_region_held3 (fun w' => w'.cell? ⟨bm, 0, none⟩ = some (.pointer (some ⟨b, 0, none⟩)) ∧ w'.cell? ⟨bt, 0, none⟩ = some (.map (some tm)) ∧ w'.cell? ⟨b, 8, none⟩ = some (.map (some fb))) (first | exact ⟨c1, c2, c8⟩ | exact S2)
    (first | (go_at_call 147; go_loud (refine CC.out.mono ?_; rintro e w2 ⟨rfl, m2, o2⟩; have M2 := Lib.hid m2; have O2 := Lib.hid o2; have S2 : w2.cell? ⟨bm, 0, none⟩ = some (.pointer (some ⟨b, 0, none⟩)) ∧ w2.cell? ⟨bt, 0, none⟩ = some (.map (some tm)) ∧ w2.cell? ⟨b, 8, none⟩ = some (.map (some fb)) := ⟨o2.cell (w := w.drew) c1 hne1, o2.cell (w := w.drew) c2 hne2, o2.cell (w := w.drew) c8 HM.out.ne.1.2.2.1⟩; clear m2 o2)))
  go_wp2
  go_end0
  have o2 : Out (fun k => k = fb) w w2 := (Out.refl _ w).drew.then O2.out
  exact ⟨rfl, HM.out.setFlg I o2 M2.out, o2⟩
set_option maxHeartbeats 4000000 in
theorem wxDep (I : Api9 M) (h : Mem10 M w b ab kb fb lm lr rr GR c P) (hc : PgOk c P) {tx : Int} (hx : (Lit.int .i64 tx).wf = true) {A : Option Addr} {n d : Nat} {os : List Int} (hA : SB w A n (numC os)) (hn : os.length = n) (hd : n ≤ d) (hm : d ≤ maxLen) (hle : n ≤ 1000000) (hwf : ∀ o ∈ os, (Lit.int .i64 o).wf = true) (own theirs : Bool × Bool) :
    Calls Tryz.prog 53 #[.pointer (some ⟨b, 0, none⟩), .int .i64 tx, .slice A n d, .agg #[.bool own.1, .bool own.2], .agg #[.bool theirs.1, .bool theirs.2]] w fun e w' => e = .returned (.int .i64 (dependG P tx os own theirs).1) ∧ ∃ GR', Mem10 M w' b ab kb fb lm lr rr GR' c (dependG P tx os own theirs).2 ∧ (∀ k, GR' k → GR k ∨ w.heap.size ≤ k) ∧ Out (fun k => k = ab ∨ k = kb ∨ k = fb ∨ k = lr ∨ GR k) w w' := by
  obtain ⟨W1, hW1⟩ : ∃ W, w.alloc (.cells #[.bool own.1, .bool own.2] 79) = W := ⟨_, rfl⟩
  have s1 : W1.heap.size = w.heap.size + 1 := by rw [← hW1]; simp
  have b1 : Below w.heap.size w W1 := by rw [← hW1]; exact (Below.refl _ _).alloc (Nat.le_refl _) _
  have q1 : W1.heap[w.heap.size]? = some (.cells #[.bool own.1, .bool own.2] 79 (0, 0)) := by rw [← hW1]; exact heap_alloc_new _ _
  obtain ⟨W2, hW2⟩ : ∃ W, W1.alloc (.cells #[.bool theirs.1, .bool theirs.2] 79) = W := ⟨_, rfl⟩
  have b12 : Below W1.heap.size W1 W2 := by rw [← hW2]; exact (Below.refl _ _).alloc (Nat.le_refl _) _
  have b2 : Below w.heap.size w W2 := below_next b1 b12
  have q2 : W2.heap[w.heap.size + 1]? = some (.cells #[.bool theirs.1, .bool theirs.2] 79 (0, 0)) := by rw [← hW2, ← s1]; exact heap_alloc_new _ _
  have r1 := (b12.block _ (by omega)).trans q1
  have x0 : W2.cell? ⟨w.heap.size, 0, none⟩ = some (.bool own.1) := cell_of_row _ _ 0 _ _ _ r1
  have x1 : W2.cell? ⟨w.heap.size, 1, none⟩ = some (.bool own.2) := cell_of_row _ _ 1 _ _ _ r1
  have y0 : W2.cell? ⟨w.heap.size + 1, 0, none⟩ = some (.bool theirs.1) := cell_of_row _ _ 0 _ _ _ q2
  have y1 : W2.cell? ⟨w.heap.size + 1, 1, none⟩ = some (.bool theirs.2) := cell_of_row _ _ 1 _ _ _ q2
  have m2 := h.below I b2
  have CT := Lib.hid (wxTry I m2 hc hx (hA.gw b2) hn hd hm hle hwf own theirs)
  have M2 := Lib.hid m2
  have B2 := Lib.hid b2
  have HC := Lib.hid hc
  have HX := Lib.hid hx
  have HTL := Lib.hid (show (thensG P tx own theirs os).length ≤ 2000001 by have := thens_len P tx own theirs os [(tx, flgOf P tx)]; simp only [List.length_singleton] at this; unfold thensG; omega)
  have HS := Lib.hid s1
  obtain ⟨T, hT⟩ : ∃ T, thensG P tx own theirs os = T := ⟨_, rfl⟩
  rw [hT] at CT HTL
  unfold dependG
  rw [hT]
  clear h hA hn hd hm hle hwf b1 b2 b12 q1 q2 r1 m2 hc hx hT
  by_cases hbad : badG P tx T = true
  · rw [if_pos hbad]
    have HBD := Lib.hid hbad
    clear hbad
    go_enter Tryz.func53, Tryz.ntmps53
    go_upto_region 1 with fail
    try rw [hW1]
    try rw [s1]
    try rw [hW2]
    clear hW1 hW2 s1
    go_wp2_with (first
      | (go_at_call 103; go_loud (refine CT.out.mono ?_; rintro e w3 ⟨ht, b3⟩; replace ht : e = .returned (.tuple #[.nilFunc, .bool false]) := (ht.elim (fun h => h.2) fun h => by have := HBD.out; rw [h.1] at this; cases this); subst ht; have B3 := Lib.hid b3; have CA := Lib.hid (wxAbort I (M2.out.below I b3) HC.out HX.out); clear b3))
      | (go_at_call 52; go_loud (refine CA.out.mono ?_; rintro e w4 ⟨rfl, GR4, m4, g4, o4⟩; have M4 := Lib.hid m4; have G4 := Lib.hid g4; have O4 := Lib.hid o4; clear m4 g4 o4)))
    go_ret
    have hs := below_next B2.out B3.out
    exact ⟨rfl, GR4, M4.out, fun k hk => (G4.out k hk).imp id fun h => Nat.le_trans hs.size h, (Out.of_below hs _).then O4.out⟩
  · have hb2 : badG P tx T = false := by simpa using hbad
    rw [if_neg hbad]
    have HBD := Lib.hid hb2
    clear hbad hb2
    go_enter Tryz.func53, Tryz.ntmps53
    go_upto_region 1 with fail
    try rw [hW1]
    try rw [s1]
    try rw [hW2]
    clear hW1 hW2 s1
    go_wp2_with (first
      | (go_at_call 103; go_loud (refine CT.out.mono ?_; rintro e w3 ⟨ht, b3⟩; replace ht := (ht.elim (fun h => by have := HBD.out; rw [h.1] at this; cases this) fun h => h.2); obtain ⟨bm, bt, tm, rfl, k1, k2, k3, k4, k5, k6⟩ := ht; have B3 := Lib.hid b3; have HLB := M2.out.blt.2.2.2.1; have CP := Lib.hid (wxPut I (M2.out.below I b3) HC.out k1 k2 k3 (by omega) (by omega) (by omega) HTL.out); clear b3 k1 k2 k3 k4 k5 k6 HLB))
      | (go_at_call 146; go_loud (refine CP.out.mono ?_; rintro e w4 ⟨rfl, m4, o4⟩; have M4 := Lib.hid m4; have O4 := Lib.hid o4; clear m4 o4)))
    go_ret
    have hs := below_next B2.out B3.out
    exact ⟨rfl, GR, M4.out, fun k hk => .inl hk, (Out.of_below hs _).then (O4.out.mono fun _ _ e => .inr (.inr (.inl e)))⟩
end
end Go.Proofs.YtknppiebncdjmaaGreat

namespace Go.Proofs.YtknppiebncdjmaaGreat
set_option maxRecDepth 100000
open Go.RowKit Go.Maps Go.ChangeMaps Go.MapKept

theorem PgOk.setL {c : Cp10} {P : Pg} (h : PgOk c P) (L : List Nt) : PgOk c { P with L := L } := ⟨h.ca, h.ck, h.na, h.nk, h.nf, h.bg, h.nw, h.ax, h.kx, h.fx⟩
theorem PgOk.setH {c : Cp10} {P : Pg} (h : PgOk c P) (H : List Hd) : PgOk c { P with H := H } := ⟨h.ca, h.ck, h.na, h.nk, h.nf, h.bg, h.nw, h.ax, h.kx, h.fx⟩
theorem SB.out {F : Nat → Prop} {w w' : World} {A : Option Addr} {m : Nat} {vs : List Value} (h : SB w A m vs) (o : Out F w w') (hF : ∀ ad, A = some ad → ¬ F ad.block) : SB w' A m vs :=
  ⟨h.len, h.one, fun h0 => by
    obtain ⟨g, q, rfl, hc⟩ := h.cell h0
    exact ⟨g, q, rfl, fun j u hj => o.cell (hc j u hj) (hF ⟨g, q, none⟩ rfl)⟩⟩
def noteG (c : Cp10) (P : Pg) (tx : Int) (x : Rd) (os : List Int) : Int × Pg :=
  if (noteP c.reads P.L tx x).1 ≠ 0 then ((noteP c.reads P.L tx x).1, abortG { P with L := (noteP c.reads P.L tx x).2 } tx)
  else dependG { P with L := (noteP c.reads P.L tx x).2 } tx os (false, true) (true, false)
section
variable {M : MF} {w : World} {b ab kb fb lm lr rr : Nat} {GR : Nat → Prop} {c : Cp10} {P : Pg}
def LeftG (M : MF) (w w' : World) (b ab kb fb lm lr rr : Nat) (GR : Nat → Prop) (c : Cp10) (P' : Pg) : Prop := ∃ GR', Mem10 M w' b ab kb fb lm lr rr GR' c P' ∧ (∀ k, GR' k → GR k ∨ w.heap.size ≤ k) ∧ Out (fun k => k = ab ∨ k = kb ∨ k = fb ∨ k = lr ∨ GR k) w w'
theorem LeftG.after {w1 w2 w3 : World} {P' : Pg} (h : LeftG M w2 w3 b ab kb fb lm lr rr GR c P') (g : Below w1.heap.size w1 w2) : LeftG M w1 w3 b ab kb fb lm lr rr GR c P' := by
  obtain ⟨GR', m, hg, o⟩ := h
  exact ⟨GR', m, fun k hk => (hg k hk).imp id fun h => Nat.le_trans g.size h, (Out.of_below g _).then o⟩
theorem LeftG.more {w1 w2 w3 : World} {GR1 : Nat → Prop} {P' : Pg} (h : LeftG M w2 w3 b ab kb fb lm lr rr GR1 c P') (hg : ∀ k, GR1 k → GR k ∨ w1.heap.size ≤ k) (o : Out (fun k => k = ab ∨ k = kb ∨ k = fb ∨ k = lr ∨ GR k) w1 w2) : LeftG M w1 w3 b ab kb fb lm lr rr GR c P' := by
  obtain ⟨GR', m, hg2, o2⟩ := h
  refine ⟨GR', m, fun k hk => ?_, o.trans o2 fun k hk e => ?_⟩
  · rcases hg2 k hk with h | h
    · exact hg k h
    · exact .inr (Nat.le_trans o.size h)
  · rcases e with e | e | e | e | e
    · exact .inl e
    · exact .inr (.inl e)
    · exact .inr (.inr (.inl e))
    · exact .inr (.inr (.inr (.inl e)))
    · rcases hg k e with h | h
      · exact .inr (.inr (.inr (.inr h)))
      · omega
set_option maxHeartbeats 8000000 in
theorem wxNote (I : Api9 M) (h : Mem10 M w b ab kb fb lm lr rr GR c P) (hc : PgOk c P) {tx : Int} (hx : (Lit.int .i64 tx).wf = true) (x : Rd) (hr : RdS x) {A : Option Addr} {n d : Nat} {os : List Int} (hA : SB w A n (numC os)) (hn : os.length = n) (hd : n ≤ d) (hm : d ≤ maxLen) (hle : n ≤ 1000000) (hwf : ∀ o ∈ os, (Lit.int .i64 o).wf = true) (hAG : ∀ ad, A = some ad → ¬ GR ad.block) :
    Calls Tryz.prog 76 #[.pointer (some ⟨b, 0, none⟩), .int .i64 tx, rdV x, .slice A n d] w fun e w' => e = .returned (.int .i64 (noteG c P tx x os).1) ∧ LeftG M w w' b ab kb fb lm lr rr GR c (noteG c P tx x os).2 := by
  obtain ⟨tb, kd, lo, hi⟩ := x
  obtain ⟨W, hW⟩ : ∃ W, w.alloc (.cells #[.string tb, .int .i64 kd, .string lo, .string hi] 114) = W := ⟨_, rfl⟩
  have hB : Below w.heap.size w W := by rw [← hW]; exact (Below.refl _ _).alloc (Nat.le_refl _) _
  have q0 : W.heap[w.heap.size]? = some (.cells #[.string tb, .int .i64 kd, .string lo, .string hi] 114 (0, 0)) := by rw [← hW]; exact heap_alloc_new _ _
  have m1 := h.below I hB
  have x0 : W.cell? ⟨w.heap.size, 0, none⟩ = some (.string tb) := cell_of_row _ _ 0 _ _ _ q0
  have x1 : W.cell? ⟨w.heap.size, 1, none⟩ = some (.int .i64 kd) := cell_of_row _ _ 1 _ _ _ q0
  have x2 : W.cell? ⟨w.heap.size, 2, none⟩ = some (.string lo) := cell_of_row _ _ 2 _ _ _ q0
  have x3 : W.cell? ⟨w.heap.size, 3, none⟩ = some (.string hi) := cell_of_row _ _ 3 _ _ _ q0
  have c10 := m1.cells.2.2.2.2.2.2.2.2.2.2
  have md := m1.below I (Below.refl W.heap.size W).drew
  have CN := Lib.hid (I.note md.rds tx ⟨tb, kd, lo, hi⟩ hx hr)
  have M1 := Lib.hid m1
  have MD := Lib.hid md
  have HB := Lib.hid hB
  have HA := Lib.hid (hA.gw hB)
  have HD := Lib.hid (And.intro hn (And.intro hd (And.intro hm hle)))
  have HWF := Lib.hid hwf
  have HAG := Lib.hid hAG
  have HX := Lib.hid hx
  have HC := Lib.hid hc
  have HGR := Lib.hid (show ∀ k, GR k → k < w.heap.size from fun k hk => (h.lt I).1 k (.inr hk))
  have HBN := Lib.hid (show ¬ GR b ∧ b < w.heap.size from ⟨h.ngr b (by simp), h.blt.1⟩)
  obtain ⟨r, hr2⟩ : ∃ r, noteP c.reads P.L tx ⟨tb, kd, lo, hi⟩ = r := ⟨_, rfl⟩
  unfold noteG rdV at *
  rw [hr2] at CN
  rw [hr2]
  obtain ⟨r1, r2⟩ := r
  simp only at CN ⊢
  have hS : W.cell? ⟨b, 10, none⟩ = some (.pointer (some ⟨rr, 0, none⟩)) ∧ W.cell? ⟨w.heap.size, 0, none⟩ = some (.string tb) ∧ W.cell? ⟨w.heap.size, 1, none⟩ = some (.int .i64 kd) ∧ W.cell? ⟨w.heap.size, 2, none⟩ = some (.string lo) ∧ W.cell? ⟨w.heap.size, 3, none⟩ = some (.string hi) := ⟨c10, x0, x1, x2, x3⟩
  clear h hA hn hd hm hle hwf hAG hx hc q0 m1 md hB hr2 c10 x0 x1 x2 x3 hr
  have SN := Lib.hid (show ∀ w2 : World, Out GR W.drew w2 → w2.cell? ⟨b, 10, none⟩ = some (.pointer (some ⟨rr, 0, none⟩)) ∧ w2.cell? ⟨w.heap.size, 0, none⟩ = some (.string tb) ∧ w2.cell? ⟨w.heap.size, 1, none⟩ = some (.int .i64 kd) ∧ w2.cell? ⟨w.heap.size, 2, none⟩ = some (.string lo) ∧ w2.cell? ⟨w.heap.size, 3, none⟩ = some (.string hi) from fun w2 o => by
    have hg : ¬ GR w.heap.size := fun hk => by have := HGR.out _ hk; omega
    exact ⟨o.cell (w := W.drew) hS.1 HBN.out.1, o.cell (w := W.drew) hS.2.1 hg, o.cell (w := W.drew) hS.2.2.1 hg, o.cell (w := W.drew) hS.2.2.2.1 hg, o.cell (w := W.drew) hS.2.2.2.2 hg⟩)
  by_cases hr0 : r1 = 0
  · subst hr0
    rw [if_neg (by simp)]
    obtain ⟨dp, hdp⟩ : ∃ q, dependG { P with L := r2 } tx os (false, true) (true, false) = q := ⟨_, rfl⟩
    rw [hdp]
    have HDP := Lib.hid hdp
    clear hdp
    go_enter Tryz.func76, Tryz.ntmps76
    go_upto_region 1 with fail
    try rw [hW]
    go_region_held3 (fun w' => w'.cell? ⟨b, 10, none⟩ = some (.pointer (some ⟨rr, 0, none⟩)) ∧ w'.cell? ⟨w.heap.size, 0, none⟩ = some (.string tb) ∧ w'.cell? ⟨w.heap.size, 1, none⟩ = some (.int .i64 kd) ∧ w'.cell? ⟨w.heap.size, 2, none⟩ = some (.string lo) ∧ w'.cell? ⟨w.heap.size, 3, none⟩ = some (.string hi)) (first | exact hS | exact S2)
      (first | (go_at_call 47; go_loud (refine CN.out.mono ?_; rintro e w2 ⟨rfl, GR2, n2, g2, o2⟩; have S2 := SN.out w2 o2; have M2 := Lib.hid (MD.out.notes I n2 g2 o2); have G2 := Lib.hid g2; have O2 := Lib.hid o2; have A2 := Lib.hid (HA.out.out (show Out GR W w2 from (Out.refl _ W).drew.then o2) HAG.out); clear n2 g2 o2)))
    have CD := Lib.hid (wxDep I M2.out (HC.out.setL r2) HX.out A2.out HD.out.1 HD.out.2.1 HD.out.2.2.1 HD.out.2.2.2 HWF.out (false, true) (true, false))
    rw [HDP.out] at CD
    clear S2
    go_wp2_with (go_at_call 53; go_loud (refine CD.out.mono ?_; rintro e w3 ⟨rfl, l3⟩; have L3 := Lib.hid (show LeftG M w2 w3 b ab kb fb lm lr rr GR2 c dp.2 from l3); clear l3))
    go_ret
    refine ⟨rfl, (L3.out.more (w1 := w) (GR := GR) (fun k hk => (G2.out k hk).imp id fun h => Nat.le_trans HB.out.size h) ?_)⟩
    exact (Out.of_below HB.out _).drew.then (O2.out.mono fun _ _ h => .inr (.inr (.inr (.inr h))))
  · rw [if_pos hr0]
    have i1 : (r1 == 0) = false := by simpa using hr0
    go_enter Tryz.func76, Tryz.ntmps76
    go_upto_region 1 with fail
    try rw [hW]
    go_region_held3 (fun w' => w'.cell? ⟨b, 10, none⟩ = some (.pointer (some ⟨rr, 0, none⟩)) ∧ w'.cell? ⟨w.heap.size, 0, none⟩ = some (.string tb) ∧ w'.cell? ⟨w.heap.size, 1, none⟩ = some (.int .i64 kd) ∧ w'.cell? ⟨w.heap.size, 2, none⟩ = some (.string lo) ∧ w'.cell? ⟨w.heap.size, 3, none⟩ = some (.string hi)) (first | exact hS | exact S2)
      (first | (go_at_call 47; go_loud (refine CN.out.mono ?_; rintro e w2 ⟨rfl, GR2, n2, g2, o2⟩; have S2 := SN.out w2 o2; have M2 := Lib.hid (MD.out.notes I n2 g2 o2); have G2 := Lib.hid g2; have O2 := Lib.hid o2; clear n2 g2 o2)))
    have CA := Lib.hid (wxAbort I M2.out (HC.out.setL r2) HX.out)
    clear S2
    go_wp2_with (go_at_call 52; go_loud (refine CA.out.mono ?_; rintro e w3 ⟨rfl, l3⟩; have L3 := Lib.hid (show LeftG M w2 w3 b ab kb fb lm lr rr GR2 c (abortG { P with L := r2 } tx) from l3); clear l3))
    go_ret
    refine ⟨rfl, (L3.out.more (w1 := w) (GR := GR) (fun k hk => (G2.out k hk).imp id fun h => Nat.le_trans HB.out.size h) ?_)⟩
    exact (Out.of_below HB.out _).drew.then (O2.out.mono fun _ _ h => .inr (.inr (.inr (.inr h))))
end
end Go.Proofs.YtknppiebncdjmaaGreat

namespace Go.Proofs.YtknppiebncdjmaaGreat
set_option maxRecDepth 100000
open Go.RowKit Go.Maps Go.ChangeMaps Go.MapKept

structure WfP (P : Pg) : Prop where
  h : ∀ x ∈ P.H, (Lit.int .i64 x.2).wf = true
  l : ∀ x ∈ P.L, (Lit.int .i64 x.1).wf = true
  k : ∀ x ∈ P.kep, (Lit.int .i64 x.1).wf = true
def readG (c : Cp10) (P : Pg) (tx : Int) (l : Lk) (zs : List Int) : Int × Pg :=
  if isAct P tx = false then (101, P) else if holderP P.H l = some tx then (0, P) else noteG c P tx ⟨l.1, 1, l.2, ⟨#[]⟩⟩ (zs ++ (holderP P.H l).toList)
def scanG (c : Cp10) (P : Pg) (tx : Int) (tb lo hi : ByteArray) (zs : List Int) : Int × Pg :=
  if isAct P tx = false then (101, P) else if (!(hi.toList == []) && !klB lo hi) = true then (0, P) else noteG c P tx ⟨tb, 2, lo, hi⟩ (zs ++ riseP (whoP P.H tb lo hi))
theorem kw_wf {P : Pg} (h : WfP P) {tx : Int} {tb lo hi : ByteArray} {zs : List Int} (k : KwIs P tx tb lo hi zs) : ∀ o ∈ zs, (Lit.int .i64 o).wf = true := fun o ho => by
  obtain ⟨r, h1, -⟩ := (k.1 o).1 ho
  exact h.k (o, r) h1
theorem holder_mem {H : List Hd} {l : Lk} {x : Int} (h : holderP H l = some x) : ∃ p ∈ H, p.2 = x := by
  unfold holderP at h
  rw [Option.map_eq_some_iff] at h
  obtain ⟨p, h1, h2⟩ := h
  exact ⟨p, List.mem_of_find?_eq_some h1, h2⟩
theorem cell_low {B : Nat} {w w' : World} {p : Addr} {v : Value} (h : w.cell? p = some v) (g : Below B w w') (hp : p.block < B) : w'.cell? p = some v := by
  unfold World.cell? at h ⊢
  rw [g.block p.block hp]
  exact h
section
variable {M : MF} {w : World} {b ab kb fb lm lr rr : Nat} {GR : Nat → Prop} {c : Cp10} {P : Pg}
theorem LeftG.refl (I : Api9 M) (h : Mem10 M w b ab kb fb lm lr rr GR c P) {w' : World} (g : Below w.heap.size w w') : LeftG M w w' b ab kb fb lm lr rr GR c P := ⟨GR, h.below I g, fun _ hk => .inl hk, Out.of_below g _⟩
set_option maxHeartbeats 8000000 in
theorem wxRead (I : Api9 M) (h : Mem10 M w b ab kb fb lm lr rr GR c P) (hc : PgOk c P) (hw : WfP P) {tx : Int} (hx : (Lit.int .i64 tx).wf = true) {l : Lk} (hl : Sz2 l) :
    Calls Tryz.prog 31 #[.pointer (some ⟨b, 0, none⟩), .int .i64 tx, lkV l] w fun e w' => ∃ zs, (isAct P tx = true → holderP P.H l ≠ some tx → KwIs P tx l.1 l.2 (l.2 ++ ⟨#[0]⟩) zs) ∧ e = .returned (.int .i64 (readG c P tx l zs).1) ∧ LeftG M w w' b ab kb fb lm lr rr GR c (readG c P tx l zs).2 := by
  obtain ⟨W, hW⟩ : ∃ W, w.alloc (.cells #[.string l.1, .string l.2] 42) = W := ⟨_, rfl⟩
  have hB : Below w.heap.size w W := by rw [← hW]; exact (Below.refl _ _).alloc (Nat.le_refl _) _
  have q0 : W.heap[w.heap.size]? = some (.cells #[.string l.1, .string l.2] 42 (0, 0)) := by rw [← hW]; exact heap_alloc_new _ _
  have x0 : W.cell? ⟨w.heap.size, 0, none⟩ = some (.string l.1) := cell_of_row _ _ 0 _ _ _ q0
  have x1 : W.cell? ⟨w.heap.size, 1, none⟩ = some (.string l.2) := cell_of_row _ _ 1 _ _ _ q0
  have m1 := h.below I hB
  have CR := Lib.hid (wxRef m1 hc hx)
  have CH := Lib.hid (fun (w1 : World) (m : Mem10 M w1 b ab kb fb lm lr rr GR c P) => wxHolds m hl.sz tx)
  have CK := Lib.hid (fun (w1 : World) (m : Mem10 M w1 b ab kb fb lm lr rr GR c P) => wxKwOf I m hc tx hl)
  have CL := Lib.hid (fun (w1 : World) (m : Mem10 M w1 b ab kb fb lm lr rr GR c P) => wkHolder m.lok hl.sz)
  have HS1 := Lib.hid (show W.heap.size = w.heap.size + 1 by rw [← hW]; simp)
  have M1 := Lib.hid m1
  have HM := Lib.hid h
  have HB := Lib.hid hB
  have HC := Lib.hid hc
  have HX := Lib.hid hx
  have HW := Lib.hid hw
  have HL := Lib.hid hl
  have HGR := Lib.hid (show ∀ k, GR k → k < w.heap.size from fun k hk => (h.lt I).1 k (.inr hk))
  clear h hc hw hx hl q0 m1 hB
  unfold lkV refG at *
  cases ha : isAct P tx with
  | false =>
    rw [ha] at CR
    have HG := Lib.hid (show ∀ zs, readG c P tx l zs = (101, P) from fun zs => by unfold readG; rw [if_pos ha])
    clear ha
    go_enter Tryz.func31, Tryz.ntmps31
    go_upto_region 1 with fail
    try rw [hW]
    go_wp2_with (go_at_call 48; go_loud (refine CR.out.mono ?_; rintro e w1 ⟨rfl, hw⟩; replace hw := hw.symm; subst hw))
    go_ret
    exact ⟨[], by simp, by rw [HG.out]; rfl, by rw [HG.out]; exact LeftG.refl I HM.out HB.out⟩
  | true =>
    rw [ha] at CR
    obtain ⟨ho, hh⟩ : ∃ q, holderP P.H l = q := ⟨_, rfl⟩
    by_cases hown : ho = some tx
    · subst hown
      have HG := Lib.hid (show ∀ zs, readG c P tx l zs = (0, P) from fun zs => by unfold readG; rw [if_neg (by simp [ha]), if_pos hh])
      have HHO := Lib.hid hh
      have CH2 := Lib.hid (show ∀ w1, Mem10 M w1 b ab kb fb lm lr rr GR c P → Calls Tryz.prog 49 #[.pointer (some ⟨b, 0, none⟩), .int .i64 tx, .agg #[.string l.1, .string l.2]] w1 fun e w' => e = .returned (.bool true) ∧ Below w1.heap.size w1 w' from fun w1 m => (CH.out w1 m).mono fun e w' h => by rw [hh] at h; simpa using h)
      clear ha hh
      go_enter Tryz.func31, Tryz.ntmps31
      go_upto_region 1 with fail
      try rw [hW]
      go_wp2_with (first
        | (go_at_call 48; go_loud (refine CR.out.mono ?_; rintro e w1 ⟨rfl, hw⟩; replace hw := hw.symm; subst hw))
        | (go_at_call 49; go_loud (refine (CH2.out _ M1.out).mono ?_; rintro e w2 ⟨rfl, b2⟩; have B2 := Lib.hid b2; clear b2)))
      go_ret
      exact ⟨[], fun _ hn => absurd HHO.out hn, by rw [HG.out]; rfl, by rw [HG.out]; exact LeftG.refl I HM.out (below_next HB.out B2.out)⟩
    · have CH2 := Lib.hid (show ∀ w1, Mem10 M w1 b ab kb fb lm lr rr GR c P → Calls Tryz.prog 49 #[.pointer (some ⟨b, 0, none⟩), .int .i64 tx, .agg #[.string l.1, .string l.2]] w1 fun e w' => e = .returned (.bool false) ∧ Below w1.heap.size w1 w' from fun w1 m => (CH.out w1 m).mono fun e w' h => by rw [hh] at h; simpa [hown] using h)
      have HHO := Lib.hid (show ¬ holderP P.H l = some tx by rw [hh]; exact hown)
      have HHW := Lib.hid (show ∀ y ∈ ho.toList, (Lit.int .i64 y).wf = true from fun y hy => by
        cases ho with
        | none => cases hy
        | some z =>
          rw [Option.toList_some, List.mem_singleton] at hy
          subst hy
          obtain ⟨p, hp, e⟩ := holder_mem hh
          rw [← e]; exact HW.out.h p hp)
      have HG := Lib.hid (show ∀ zs, readG c P tx l zs = noteG c P tx ⟨l.1, 1, l.2, ⟨#[]⟩⟩ (zs ++ ho.toList) from fun zs => by unfold readG; rw [if_neg (by simp [ha]), if_neg (by rw [hh]; exact hown), hh])
      rw [hh] at CL
      have HOK := Lib.hid (show ∀ w1, Mem10 M w1 b ab kb fb lm lr rr GR c P → w1.cell? ⟨b, 9, none⟩ = some (.pointer (some ⟨lm, 0, none⟩)) from fun w1 m => m.cells.2.2.2.2.2.2.2.2.2.1)
      have CN := Lib.hid (fun (w1 : World) (m : Mem10 M w1 b ab kb fb lm lr rr GR c P) (A : Option Addr) (n d : Nat) (os : List Int) (hA : SB w1 A n (numC os)) (hn : os.length = n) (hd : n ≤ d) (hm : d ≤ maxLen) (hle : n ≤ 1000000) (hwf : ∀ o ∈ os, (Lit.int .i64 o).wf = true) (hAG : ∀ ad, A = some ad → w.heap.size ≤ ad.block) => wxNote I m HC.out HX.out ⟨l.1, 1, l.2, ⟨#[]⟩⟩ ⟨HL.out.2, HL.out.1⟩ hA hn hd hm hle hwf (fun ad e hg => by have := hAG ad e; have := HGR.out _ hg; omega))
      have HKL := Lib.hid (show P.kep.length ≤ 1024 by have := HC.out.nk; have := HC.out.ck; omega)
      clear ha hh hown CH
      unfold rdV at CN
      simp only at CN
      go_enter Tryz.func31, Tryz.ntmps31
      go_upto_region 1 with fail
      try rw [hW]
      go_upto_region 7 with (first
        | (go_at_call 48; go_loud (refine CR.out.mono ?_; rintro e w1 ⟨rfl, hw⟩; replace hw := hw.symm; subst hw))
        | (go_at_call 49; go_loud (refine (CH2.out _ M1.out).mono ?_; rintro e w2 ⟨rfl, b2⟩; have M2 := Lib.hid (M1.out.below I b2); have B2 := Lib.hid (below_next HB.out b2); have HS2 := Lib.hid b2.size; replace x0 := keep_below x0 b2; replace x1 := keep_below x1 b2; clear b2))
        | (go_at_call 51; go_loud (refine (CK.out _ M2.out).mono ?_; rintro e w3 ⟨v3, zs, rfl, o3, k3, b3⟩; have M3 := Lib.hid (M2.out.below I b3); have B3 := Lib.hid (below_next B2.out b3); have O3 := Lib.hid (o3.base (show w.heap.size + 1 ≤ w2.heap.size by have := HS1.out; have := HS2.out; omega) rfl rfl); have K3 := Lib.hid k3; replace x0 := keep_below x0 b3; replace x1 := keep_below x1 b3; clear b3 o3 k3)))
      have c9 := HOK.out _ M3.out
      have MD := Lib.hid (M3.out.below I (Below.refl w3.heap.size w3).drew)
      have hS : w3.cell? ⟨b, 9, none⟩ = some (.pointer (some ⟨lm, 0, none⟩)) ∧ w3.cell? ⟨w.heap.size, 0, none⟩ = some (.string l.1) ∧ w3.cell? ⟨w.heap.size, 1, none⟩ = some (.string l.2) := ⟨c9, x0, x1⟩
      have ZL := Lib.hid (show zs.length ≤ 1024 by have := K3.out.2; have := HKL.out; omega)
      have ZW := Lib.hid (show ∀ o ∈ zs ++ ho.toList, (Lit.int .i64 o).wf = true from fun o h => by
        rcases List.mem_append.1 h with h | h
        · exact kw_wf HW.out K3.out o h
        · exact HHW.out o h)
      cases ho with
      | none =>
        go_region_held3 (fun w' => w'.cell? ⟨b, 9, none⟩ = some (.pointer (some ⟨lm, 0, none⟩)) ∧ w'.cell? ⟨w.heap.size, 0, none⟩ = some (.string l.1) ∧ w'.cell? ⟨w.heap.size, 1, none⟩ = some (.string l.2)) (first | exact hS | exact S2)
          (first | (go_at_call 75; go_loud (refine (CL.out _ MD.out).mono ?_; rintro e w4 ⟨rfl, b4⟩; have S2 : w4.cell? ⟨b, 9, none⟩ = some (.pointer (some ⟨lm, 0, none⟩)) ∧ w4.cell? ⟨w.heap.size, 0, none⟩ = some (.string l.1) ∧ w4.cell? ⟨w.heap.size, 1, none⟩ = some (.string l.2) := ⟨keep_below (w := w3.drew) c9 b4, keep_below (w := w3.drew) x0 b4, keep_below (w := w3.drew) x1 b4⟩; have M4 := Lib.hid (MD.out.below I b4); have B34 := Lib.hid ((Below.refl w3.heap.size w3).drew.trans b4); clear b4)))
        obtain ⟨y0, y1⟩ := S2.2
        have B4 := Lib.hid (below_next B3.out B34.out)
        obtain ⟨A, d, rfl, hsb, hnd, hdm, hab⟩ := (O3.out.below B34.out).form
        have hsb : SB w4 A zs.length (numC zs) := by have := hsb; rwa [show seN.s = 1 from rfl, Nat.one_mul] at this
        have CN2 := Lib.hid (CN.out w4 M4.out A zs.length d (zs ++ []) (by rw [List.append_nil]; exact hsb) (by simp) hnd hdm (by have := ZL.out; omega) ZW.out (fun ad e => by have := hab ad e; omega))
        have HG2 := Lib.hid (HG.out zs)
        obtain ⟨rp, hrp⟩ : ∃ q, noteG c P tx ⟨l.1, 1, l.2, ⟨#[]⟩⟩ (zs ++ []) = q := ⟨_, rfl⟩
        rw [show (none : Option Int).toList = [] from rfl, hrp] at HG2
        rw [hrp] at CN2
        clear hsb hnd hdm hab hrp S2
        go_wp2_with (go_at_call 76; go_loud (refine CN2.out.mono ?_; rintro e w5 ⟨rfl, l5⟩; have L5 := Lib.hid l5; clear l5))
        go_ret
        exact ⟨zs, fun _ _ => K3.out, by rw [HG2.out]; rfl, by rw [HG2.out]; exact L5.out.after B4.out⟩
      | some y =>
        go_region_held3 (fun w' => w'.cell? ⟨b, 9, none⟩ = some (.pointer (some ⟨lm, 0, none⟩)) ∧ w'.cell? ⟨w.heap.size, 0, none⟩ = some (.string l.1) ∧ w'.cell? ⟨w.heap.size, 1, none⟩ = some (.string l.2)) (first | exact hS | exact S2)
          (first | (go_at_call 75; go_loud (refine (CL.out _ MD.out).mono ?_; rintro e w4 ⟨rfl, b4⟩; have S2 : w4.cell? ⟨b, 9, none⟩ = some (.pointer (some ⟨lm, 0, none⟩)) ∧ w4.cell? ⟨w.heap.size, 0, none⟩ = some (.string l.1) ∧ w4.cell? ⟨w.heap.size, 1, none⟩ = some (.string l.2) := ⟨keep_below (w := w3.drew) c9 b4, keep_below (w := w3.drew) x0 b4, keep_below (w := w3.drew) x1 b4⟩; have M4 := Lib.hid (MD.out.below I b4); have B34 := Lib.hid ((Below.refl w3.heap.size w3).drew.trans b4); clear b4)))
        obtain ⟨y0, y1⟩ := S2.2
        have B4 := Lib.hid (below_next B3.out B34.out)
        have O4 := Lib.hid (O3.out.below B34.out)
        clear S2
        go_upto_region 10 with (at_builtin; go_loud (refine so_append seN_ok (by rfl) (.tmp 35) (.tmp 37) (by rfl) _ (by rfl) (O4.out.alloc _) (some ⟨w4.heap.size, 0, none⟩) 1 1 (numC [y]) (by rfl) (sb_num w4 y) (by have := ZL.out; omega) (by have := B4.out.size; have := M4.out.blt.1; have := HS1.out; have := HS2.out; have := B34.out.size; simp; omega) ?_; intro v5 w5 o5 b5; have O5 := Lib.hid o5; have B5 := Lib.hid ((B4.out.alloc B4.out.size _).trans (b5.mono (Nat.le_succ _))); have hb5 := b5; clear o5 b5))
        have hlt : w.heap.size < w4.heap.size := World.block_lt_of_cell? w4 _ y0
        have bl4 : Below (w.heap.size + 1) w4 w5 := ((Below.refl _ _).alloc hlt _).trans hb5
        have z0 : w5.cell? ⟨w.heap.size, 0, none⟩ = some (.string l.1) := cell_low y0 bl4 (Nat.lt_succ_self _)
        have z1 : w5.cell? ⟨w.heap.size, 1, none⟩ = some (.string l.2) := cell_low y1 bl4 (Nat.lt_succ_self _)
        have M5 := HM.out.below I B5.out
        obtain ⟨A, d, rfl, hsb, hnd, hdm, hab⟩ := O5.out.form
        have hsb : SB w5 A (zs.length + 1) (numC (zs ++ [y])) := by
          have := hsb
          rw [show seN.s = 1 from rfl, Nat.one_mul] at this
          rwa [show numC (zs ++ [y]) = numC zs ++ numC [y] by simp [numC]]
        have CN2 := Lib.hid (CN.out w5 M5 A (zs.length + 1) d (zs ++ [y]) hsb (by simp) hnd hdm (by have := ZL.out; omega) ZW.out (fun ad e => by have := hab ad e; omega))
        have HG2 := Lib.hid (HG.out zs)
        obtain ⟨rp, hrp⟩ : ∃ q, noteG c P tx ⟨l.1, 1, l.2, ⟨#[]⟩⟩ (zs ++ [y]) = q := ⟨_, rfl⟩
        rw [show (some y : Option Int).toList = [y] from rfl, hrp] at HG2
        rw [hrp] at CN2
        clear hsb hnd hdm hab hrp hlt bl4 hb5 M5
        go_wp2_with (go_at_call 76; go_loud (refine CN2.out.mono ?_; rintro e w6 ⟨rfl, l6⟩; have L6 := Lib.hid l6; clear l6))
        go_ret
        exact ⟨zs, fun _ _ => K3.out, by rw [HG2.out]; rfl, by rw [HG2.out]; exact L6.out.after B5.out⟩
end
end Go.Proofs.YtknppiebncdjmaaGreat

namespace Go.Proofs.YtknppiebncdjmaaGreat
set_option maxRecDepth 100000
open Go.RowKit Go.Maps Go.ChangeMaps Go.MapKept

theorem who_mem {H : List Hd} {tb lo hi : ByteArray} {x : Int} (h : x ∈ riseP (whoP H tb lo hi)) : ∃ p ∈ H, p.2 = x := by
  have h2 := ((rise_is (whoP H tb lo hi)).2 x).1 h
  unfold whoP at h2
  obtain ⟨p, hp, e⟩ := List.mem_map.1 h2
  exact ⟨p, (List.mem_filter.1 hp).1, e⟩
section
variable {M : MF} {w : World} {b ab kb fb lm lr rr : Nat} {GR : Nat → Prop} {c : Cp10} {P : Pg}
set_option maxHeartbeats 8000000 in
theorem wxScan (I : Api9 M) (h : Mem10 M w b ab kb fb lm lr rr GR c P) (hc : PgOk c P) (hw : WfP P) {tx : Int} (hx : (Lit.int .i64 tx).wf = true) {tb lo hi : ByteArray} (htb : tb.size ≤ 140737488351232) (hlo : lo.size ≤ 140737488351232) :
    Calls Tryz.prog 33 #[.pointer (some ⟨b, 0, none⟩), .int .i64 tx, .string tb, .string lo, .string hi] w fun e w' => ∃ zs, (isAct P tx = true → (!(hi.toList == []) && !klB lo hi) = false → KwIs P tx tb lo hi zs) ∧ e = .returned (.int .i64 (scanG c P tx tb lo hi zs).1) ∧ LeftG M w w' b ab kb fb lm lr rr GR c (scanG c P tx tb lo hi zs).2 := by
  have CR := Lib.hid (wxRef h hc hx)
  have md := h.below I (Below.refl w.heap.size w).drew
  have CK := Lib.hid (fun (w1 : World) (m : Mem10 M w1 b ab kb fb lm lr rr GR c P) => wxKw I m hc tx tb lo hi)
  have CL := Lib.hid (fun (w1 : World) (m : Mem10 M w1 b ab kb fb lm lr rr GR c P) => wkHolders m.lok tb lo hi)
  have CN := Lib.hid (fun (w1 : World) (m : Mem10 M w1 b ab kb fb lm lr rr GR c P) (A : Option Addr) (n d : Nat) (os : List Int) (hA : SB w1 A n (numC os)) (hn : os.length = n) (hd : n ≤ d) (hm : d ≤ maxLen) (hle : n ≤ 1000000) (hwf : ∀ o ∈ os, (Lit.int .i64 o).wf = true) (hAG : ∀ ad, A = some ad → w.heap.size ≤ ad.block) => wxNote I m hc hx ⟨tb, 2, lo, hi⟩ ⟨hlo, htb⟩ hA hn hd hm hle hwf (fun ad e hg => by have := hAG ad e; have := (h.lt I).1 _ (.inr hg); omega))
  have c9 := h.cells.2.2.2.2.2.2.2.2.2.1
  have MD := Lib.hid md
  have HM := Lib.hid h
  have HW := Lib.hid hw
  have HKL := Lib.hid (show P.kep.length ≤ 1024 by have := hc.nk; have := hc.ck; omega)
  have HHL := Lib.hid (show P.H.length ≤ 4096 by have := h.lok.len; have := h.lok.m2; omega)
  clear h hc hw hx md
  unfold refG at *
  unfold rdV at CN
  simp only at CN
  cases ha : isAct P tx with
  | false =>
    rw [ha] at CR
    have HG := Lib.hid (show ∀ zs, scanG c P tx tb lo hi zs = (101, P) from fun zs => by unfold scanG; rw [if_pos ha])
    clear ha
    go_enter Tryz.func33, Tryz.ntmps33
    go_wp2_with (go_at_call 48; go_loud (refine CR.out.mono ?_; rintro e w1 ⟨rfl, hw⟩; replace hw := hw.symm; subst hw))
    go_ret
    exact ⟨[], by simp, by rw [HG.out]; rfl, by rw [HG.out]; exact LeftG.refl I HM.out (Below.refl _ _)⟩
  | true =>
    rw [ha] at CR
    cases hq : (!(hi.toList == []) && !klB lo hi) with
    | true =>
      have HG := Lib.hid (show ∀ zs, scanG c P tx tb lo hi zs = (0, P) from fun zs => by unfold scanG; rw [if_neg (by simp [ha]), if_pos hq])
      obtain ⟨h1, h2⟩ := (Bool.and_eq_true _ _).mp hq
      have e1 : (hi.toList == []) = false := by simpa using h1
      have e2 : Op.bytesLess lo.toList hi.toList = false := (show klB lo hi = false by simpa using h2)
      have e3 := bl_le8 hi lo
      unfold klB at e3
      rw [e2] at e3
      have e4 : (Op.bytesLess hi.toList lo.toList || hi.toList == lo.toList) = true := by
        cases hz : (Op.bytesLess hi.toList lo.toList || hi.toList == lo.toList) with
        | true => rfl
        | false => rw [hz] at e3; cases e3
      clear ha hq h1 h2 e3
      cases e5 : Op.bytesLess hi.toList lo.toList <;> cases e6 : (hi.toList == lo.toList)
      all_goals first | (rw [e5, e6] at e4; cases e4) | skip
      all_goals
        go_enter Tryz.func33, Tryz.ntmps33
        go_wp2_with (go_at_call 48; go_loud (refine CR.out.mono ?_; rintro e w1 ⟨rfl, hw⟩; replace hw := hw.symm; subst hw))
        go_ret
        exact ⟨[], by simp, by rw [HG.out]; rfl, by rw [HG.out]; exact LeftG.refl I HM.out (Below.refl _ _)⟩
    | false =>
      have HG := Lib.hid (show ∀ zs, scanG c P tx tb lo hi zs = noteG c P tx ⟨tb, 2, lo, hi⟩ (zs ++ riseP (whoP P.H tb lo hi)) from fun zs => by unfold scanG; rw [if_neg (by rw [ha]; simp), if_neg (by rw [hq]; simp)])
      have HHW := Lib.hid (show ∀ y ∈ riseP (whoP P.H tb lo hi), (Lit.int .i64 y).wf = true from fun y hy => by
        obtain ⟨p, hp, e⟩ := who_mem hy
        rw [← e]; exact HW.out.h p hp)
      obtain ⟨hs, hhs⟩ : ∃ q, riseP (whoP P.H tb lo hi) = q := ⟨_, rfl⟩
      have HHN := Lib.hid (show hs.length ≤ 4096 by
        rw [← hhs]
        have h1 := rise_len (whoP P.H tb lo hi) (whoP P.H tb lo hi).length
        rw [List.take_length] at h1
        have h2 : (whoP P.H tb lo hi).length ≤ P.H.length := by unfold whoP; rw [List.length_map]; exact List.length_filter_le _ _
        have := HHL.out
        omega)
      rw [hhs] at CL HG HHW
      have HQ1 : (hi.toList == []) = false → Op.bytesLess hi.toList lo.toList = true → False := fun h1 h2 => by
        have h3 : klB lo hi = false := by rw [bl_le8 hi lo, h2]; rfl
        rw [h1, h3] at hq; cases hq
      have HQ2 : (hi.toList == []) = false → (hi.toList == lo.toList) = true → False := fun h1 h2 => by
        have h3 : klB lo hi = false := by rw [bl_le8 hi lo, h2, Bool.or_true]; rfl
        rw [h1, h3] at hq; cases hq
      clear ha hq hhs
      cases e4 : (hi.toList == []) <;> cases e5 : Op.bytesLess hi.toList lo.toList <;> cases e6 : (hi.toList == lo.toList)
      all_goals first | exact (HQ1 e4 e5).elim | exact (HQ2 e4 e6).elim | skip
      all_goals
        clear HQ1 HQ2
        go_enter Tryz.func33, Tryz.ntmps33
        go_upto_region 6 with (go_at_call 48; go_loud (refine CR.out.mono ?_; rintro e w1 ⟨rfl, hw⟩; replace hw := hw.symm; subst hw))
        have hS : w.cell? ⟨b, 9, none⟩ = some (.pointer (some ⟨lm, 0, none⟩)) := c9
        have K9 := Lib.hid (show ∀ w1, Below w.heap.size w w1 → w1.cell? ⟨b, 9, none⟩ = some (.pointer (some ⟨lm, 0, none⟩)) from fun w1 g => keep_below c9 g)
        go_region_held3 (fun w' => w'.cell? ⟨b, 9, none⟩ = some (.pointer (some ⟨lm, 0, none⟩))) (first | exact hS | exact S4 | exact S3 | exact S2)
          (first
            | (go_at_call 83; go_loud (refine (CK.out _ HO1.out.1).mono ?_; rintro e w3 ⟨v3, zs, rfl, o3, k3, b3⟩; have bv := below_next HO1.out.2.2 b3; have OK := Lib.hid (o3.base HO1.out.2.2.size rfl rfl); have OH := Lib.hid (HO1.out.2.1.below b3); have BV := Lib.hid bv; have K3 := Lib.hid k3; have S3 := K9.out _ bv; clear b3 o3 k3 bv))
            | (go_at_call 84; go_loud (refine (CL.out _ KO1.out.1).mono ?_; rintro e w3 ⟨v4, rfl, o3, b3⟩; have bv := below_next KO1.out.2.2.2 b3; have OH := Lib.hid (o3.base KO1.out.2.2.2.size rfl rfl); have OK := Lib.hid (KO1.out.2.1.below b3); have BV := Lib.hid bv; have K3 := Lib.hid KO1.out.2.2.1; have S3 := K9.out _ bv; clear b3 o3 bv))
            | (go_at_call 83; go_loud (refine (CK.out _ MD.out).mono ?_; rintro e w2 ⟨v3, zs, rfl, o3, k3, b3⟩; have bv := ((Below.refl w.heap.size w).drew.trans b3); have KO1 := Lib.hid (And.intro (HM.out.below I bv) (And.intro o3 (And.intro k3 bv))); have S2 := K9.out _ bv; clear b3 o3 k3 bv))
            | (go_at_call 84; go_loud (refine (CL.out _ MD.out).mono ?_; rintro e w2 ⟨v4, rfl, o3, b3⟩; have bv := ((Below.refl w.heap.size w).drew.trans b3); have HO1 := Lib.hid (And.intro (HM.out.below I bv) (And.intro o3 bv)); have S2 := K9.out _ bv; clear b3 o3 bv))
            | (obtain ⟨A4, d4, rfl, sb4, hn4, hm4, ha4⟩ := OH.out.form; refine so_step seN_ok (by rfl) (.tmp 31) (.tmp 39) (by rfl) _ (by rfl) OK.out A4 hs.length d4 (numC hs) (by rfl) sb4 (by have := K3.out.2; have := HKL.out; have := HHN.out; omega) BV.out.size ?_; intro v5 w5 o5 b5; have S4 := K9.out _ (BV.out.trans b5); have O5 := Lib.hid o5; have B5 := Lib.hid (BV.out.trans b5); clear o5 b5 sb4 hn4 hm4 ha4))
        all_goals
          obtain ⟨A, d, rfl, hsb, hnd, hdm, hab⟩ := O5.out.form
          have hsb : SB w5 A (zs.length + hs.length) (numC (zs ++ hs)) := by
            have := hsb
            rw [show seN.s = 1 from rfl, Nat.one_mul] at this
            rwa [show numC (zs ++ hs) = numC zs ++ numC hs by simp [numC]]
          have M5 := HM.out.below I B5.out
          have CN2 := Lib.hid (CN.out w5 M5 A (zs.length + hs.length) d (zs ++ hs) hsb (by simp) hnd hdm (by have := K3.out.2; have := HKL.out; have := HHN.out; omega) (fun o h => (List.mem_append.1 h).elim (fun h => kw_wf HW.out K3.out o h) (fun h => HHW.out o h)) hab)
          have HG2 := Lib.hid (HG.out zs)
          obtain ⟨rp, hrp⟩ : ∃ q, noteG c P tx ⟨tb, 2, lo, hi⟩ (zs ++ hs) = q := ⟨_, rfl⟩
          rw [hrp] at HG2 CN2
          clear hsb hnd hdm hab hrp M5
          go_wp2_with (go_at_call 76; go_loud (refine CN2.out.mono ?_; rintro e w6 ⟨rfl, l6⟩; have L6 := Lib.hid l6; clear l6))
          go_ret
          exact ⟨zs, fun _ _ => K3.out, by rw [HG2.out]; rfl, by rw [HG2.out]; exact L6.out.after B5.out⟩
end
end Go.Proofs.YtknppiebncdjmaaGreat
