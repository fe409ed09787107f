/- Layer 11: SerialOrders, walked. -/
import Derived.Test.YtnpeankmmojebaaGreatDoorJBP
import Derived.Sort.CutIn
set_option linter.unusedVariables false
namespace Go.Proofs.YtnpeankmmojebaaGreatDoor
set_option maxRecDepth 100000
open Go.RowKit Go.Shelf

attribute [local go_sem] Oper.semAt_some

/-- The history, the most and the result, each in a block of its own. -/
structure BoxO (w W : World) (A : Option Addr) (n c : Nat) (B : Option Addr) (m d : Nat) (cs : List Int) (ac : List Ac) (mo : Int) : Prop where
  eq : ((w.alloc (.cells #[.slice A n c, .slice B m d] 25)).alloc (.cells #[.int .u8 mo] 5)).alloc (.cells #[.bool false] 4) = W
  below : Below w.heap.size w W
  size : W.heap.size = w.heap.size + 3
  hq : W.heap[w.heap.size]? = some (.cells #[.slice A n c, .slice B m d] 25 (0, 0))
  mq : Vx W (w.heap.size + 1) (.int .u8 mo) 5
  rq : Vx W (w.heap.size + 2) (.bool false) 4
  h : Hist W A n c B m d cs ac
theorem Hist.boxO {w : World} {A B : Option Addr} {n c m d : Nat} {cs : List Int} {ac : List Ac} (h : Hist w A n c B m d cs ac) (mo : Int) : ∃ W, BoxO w W A n c B m d cs ac mo := by
  have b0 : Below w.heap.size w (w.alloc (.cells #[.slice A n c, .slice B m d] 25)) := alloc_below11 _ _
  have q0 := heap_alloc_new w (.cells #[.slice A n c, .slice B m d] 25)
  generalize hw1 : w.alloc (.cells #[.slice A n c, .slice B m d] 25) = w1 at b0 q0
  have z1 : w1.heap.size = w.heap.size + 1 := by rw [← hw1]; simp
  have b1 : Below w1.heap.size w1 (w1.alloc (.cells #[.int .u8 mo] 5)) := alloc_below11 _ _
  have q1 := Vx.new w1 (.int .u8 mo) 5
  generalize hw2 : w1.alloc (.cells #[.int .u8 mo] 5) = w2 at b1 q1
  have z2 : w2.heap.size = w.heap.size + 2 := by rw [← hw2]; simp [z1]
  have b2 : Below w2.heap.size w2 (w2.alloc (.cells #[.bool false] 4)) := alloc_below11 _ _
  have q2 := Vx.new w2 (.bool false) 4
  rw [z1] at q1
  rw [z2] at q2
  have b3 := below_next (below_next b0 b1) b2
  refine ⟨_, by rw [hw1, hw2], b3, by simp [z2], ?_, q1.gw b2, q2, h.gw b3⟩
  have l0 := (Array.getElem?_eq_some_iff.1 q0).1
  have q0' := (b1.block _ l0).trans q0
  exact (b2.block _ (Array.getElem?_eq_some_iff.1 q0').1).trans q0'
section
variable {w : World} {A B : Option Addr} {n c m d : Nat} {cs : List Int} {ac : List Ac} {mo : Int}
set_option maxHeartbeats 32000000 in
theorem wlOrdersNo (h : Hist w A n c B m d cs ac) (hR : ¬ Right cs ac) :
    Calls Tryz.prog 3 #[histV A n c B m d, .int .u8 mo] w fun e w' => e = .returned (.bool true) ∧ Below w.heap.size w w' := by
  obtain ⟨W0, hB⟩ := h.boxO mo
  have HB := Lib.hid hB
  have HW := Lib.hid hB.eq
  have x0 := cell_of_row _ _ 0 _ _ _ hB.hq
  have x1 := cell_of_row _ _ 1 _ _ _ hB.hq
  have RQ := Lib.hid hB.rq
  have CL := Lib.hid wlLive
  have CR := Lib.hid (wlRightNo hB.h hR)
  unfold histV at CR ⊢
  simp at x0 x1
  clear h hB hR
  go_enter Tryz.func3, Tryz.ntmps3
  go_upto_region 1 with fail
  rw [HW.out]
  go_upto_region 2 with (go_at_call 5; go_loud (refine CR.out.mono ?_; rintro e w1 ⟨rfl, b1⟩; have B1 := Lib.hid b1; have R1 := Lib.hid (RQ.out.gw b1); clear b1))
  go_upto_region 3 with fail
  go_wp2_with (go_at_call 6; go_loud (refine (CL.out _).mono ?_; rintro e w2 ⟨rfl, b2⟩; have B2 := Lib.hid b2; have r2 := R1.out.gw b2; have R2 := Lib.hid r2; have rc := r2.c; have rf := r2.f; clear b2 r2))
  have BF := Lib.hid (show Below w.heap.size w (w2.setCell ⟨w.heap.size + 2, 0, none⟩ (.bool true)) from (below_next (below_next HB.out.below B1.out) B2.out).setCell (p := ⟨w.heap.size + 2, 0, none⟩) (by show w.heap.size ≤ w.heap.size + 2; omega) _)
  have c5 := (R2.out.set (.bool true)).c
  go_wp2
  exact bodyPost_ret (v := .bool true) (by simp [results, Tryz.results3, go_sem, c5]) rfl ⟨rfl, BF.out⟩
theorem others_of_out {A B : World} {p : Nat} {v : Value} {t : TypeId} (h : Vx A p v t) (ho : Out (fun k => k = p) A B) : KeepsOthers A B :=
  ⟨ho.size, fun k o hk hc => (ho.block k (Array.getElem?_eq_some_iff.1 hk).1 (fun e => by
    have e : k = p := e
    subst e
    unfold Vx at h
    rw [h] at hk
    injection hk with hk
    subst hk
    cases hc)).trans hk⟩
theorem firstO_le {n : Nat} {cs : List Int} {M : List Nat} (h : n ≤ 4096) : (firstO cs n M).length ≤ 4096 := by
  unfold firstO
  split
  · rename_i hM; simp [numsP, hM]; exact h
  · simp
set_option maxHeartbeats 64000000 in
theorem wlOrdersOk (h : Hist w A n c B m d cs ac) (hR : Right cs ac) (hT : TzAt w) (k : Nat) (hk : k ≤ 255) :
    Calls Tryz.prog 3 #[histV A n c B m d, .int .u8 (k : Nat)] w fun e w' => e = .returned (.bool true) ∧ Below w.heap.size w w' := by
  obtain ⟨M, hM⟩ := FillP.exists (E := edgeH cs ac) (n := n) n [] .nil (by simp)
  have hcl : cs.length = n := h.cl
  have hn : n ≤ 4096 := by rw [← hcl]; exact hR.lc
  obtain ⟨W0, hB⟩ := h.boxO (k : Nat)
  have HB := Lib.hid hB
  have HW := Lib.hid hB.eq
  have HHQ := Lib.hid hB.hq
  have x0 := cell_of_row _ _ 0 _ _ _ hB.hq
  have x1 := cell_of_row _ _ 1 _ _ _ hB.hq
  simp at x0 x1
  have CL := Lib.hid wlLive
  have CR := Lib.hid (wlRightOk hB.h hR)
  have CO := Lib.hid (fun W (hW : Below W0.heap.size W0 W) => wsOrderAll (hB.h.gw hW) hR ((hT.below hB.below).below hW) hM)
  have CF := Lib.hid (fun W (hW : Below W0.heap.size W0 W) => wrOrderAll (hB.h.gw hW) hR hM)
  have CA := Lib.hid (fun W (hW : Below W0.heap.size W0 W) => wrOrdersAll (most := k + 1) (hB.h.gw hW) hR hM (by omega))
  have CP := Lib.hid (fun W (hW : Below W0.heap.size W0 W) => wsOrders (hB.h.gw hW) hR)
  have HFO := Lib.hid (firstO_le (cs := cs) (M := M) hn)
  have HRI := Lib.hid hR
  have HMF := Lib.hid hM
  have HCL := Lib.hid hcl
  have HTZ := Lib.hid (hT.below hB.below)
  have HK := Lib.hid hk
  have i1 : IntKind.i64.wrap (k : Int) = (k : Int) := by rw [IntKind.wrap_i64]; omega
  have i2 : IntKind.i64.wrap ((k : Int) + 1) = ((k + 1 : Nat) : Int) := by rw [IntKind.wrap_i64]; omega
  have i3 : wrap64 ((k : Int) + 1) = ((k + 1 : Nat) : Int) := by unfold wrap64; omega
  have I1 := Lib.hid i1
  have I2 := Lib.hid i2
  have I3 := Lib.hid i3
  obtain ⟨F, hF⟩ : ∃ F, (allO cs ac n M).take (k + 1) = F := ⟨_, rfl⟩
  have HF := Lib.hid hF
  rw [hF] at CA
  obtain ⟨f, hf⟩ : ∃ f, F.length = f := ⟨_, rfl⟩
  have HFN := Lib.hid hf
  rw [hf] at CA
  obtain ⟨r, hr⟩ : ∃ r, decide (M.length = n) = r := ⟨_, rfl⟩
  rw [hr] at CO CF
  have rr : (r != r) = false := by simp
  obtain ⟨L, hL⟩ : ∃ L, firstO cs n M = L := ⟨_, rfl⟩
  rw [hL] at CO CF HFO
  obtain ⟨q, hq⟩ : ∃ q, L.length = q := ⟨_, rfl⟩
  have CE := Lib.hid (fun W (A1 A2 : Option Addr) (c1 c2 : Nat) (h1 : SB W A1 q (numC L)) (h2 : SB W A2 q (numC L)) => weqI (w := W) (A := A1) (B := A2) (c1 := c1) (c2 := c2) (l := L) (by rw [hq]; exact h1) (by rw [hq]; exact h2) (by have := HFO.out; omega))
  rw [hq] at CE CO CF
  unfold histV at CR CO CF CA CP ⊢
  clear h hB hR hT hM hcl hn hk hF hf hr hL hq
  refine (callsIn_wide (n := 10)).1 ?_
  refine callsIn_of_wp_marks Tryz.func3 rfl trivial ?_ rfl
  simp only [Tryz.ntmps3, List.size_toArray, List.length_cons, List.length_nil, Nat.reduceAdd, Nat.reduceSub, Array.replicate_succ, Array.replicate_zero, List.push_toArray, List.append_toArray, List.nil_append, List.cons_append]
  gi_upto_region 1 with fail
  rw [HW.out]
  gi_upto_region 2 with (refine ⟨trivial, ?_⟩; gi_at_call 5; go_loud (refine (callsIn_wide.2 CR.out).mono ?_; rintro e w1 ⟨rfl, b1⟩; have B1 := Lib.hid b1; have y0 := keep_below x0 b1; have y1 := keep_below x1 b1; clear b1))
  clear x0 x1
  gi_upto_region 4 with (refine ⟨trivial, ?_⟩; gi_at_call 6; go_loud (refine (callsIn_wide.2 (CL.out _)).mono ?_; rintro e w2 ⟨rfl, b2⟩; have B2 := Lib.hid (below_next B1.out b2); have z0 := keep_below y0 b2; have z1 := keep_below y1 b2; clear b2))
  clear y0 y1
  gi_upto_region 5 with (refine ⟨trivial, ?_⟩; gi_at_call 7; go_loud (refine (callsIn_wide.2 (CO.out _ B2.out)).mono ?_; rintro e w3 ⟨A3, c3, rfl, s3, b3⟩; have B3 := Lib.hid (below_next B2.out b3); have S3 := Lib.hid s3; have y0 := keep_below z0 b3; have y1 := keep_below z1 b3; clear b3 s3))
  clear z0 z1
  gi_upto_region 6 with (refine ⟨trivial, ?_⟩; gi_at_call 8; go_loud (refine (callsIn_wide.2 (CF.out _ B3.out)).mono ?_; rintro e w4 ⟨A4, c4, rfl, s4, b4⟩; have B4 := Lib.hid (below_next B3.out b4); have S4 := Lib.hid s4; have T4 := Lib.hid (S3.out.gw b4); have z0 := keep_below y0 b4; have z1 := keep_below y1 b4; clear b4 s4))
  clear y0 y1
  gi_upto_region 8 with (refine ⟨trivial, ?_⟩; gi_at_call 9; go_loud (refine (callsIn_wide.2 (CE.out _ _ _ _ _ T4.out S4.out)).mono ?_; rintro e w5 ⟨rfl, b5⟩; have B5 := Lib.hid (below_next B4.out b5); have y0 := keep_below z0 b5; have y1 := keep_below z1 b5; clear b5))
  clear z0 z1
  have k3 := (HB.out.mq.gw B5.out).c
  gi_upto_region 9 with (refine ⟨trivial, ?_⟩; gi_at_call 10; go_loud (refine (callsIn_wide.2 (CA.out _ B5.out)).mono ?_; rintro e w6 ⟨A6, c6, rfl, s6, b6⟩; have B6 := Lib.hid (below_next B5.out b6); have S6 := Lib.hid s6; have z0 := keep_below y0 b6; have z1 := keep_below y1 b6; clear b6 s6))
  clear y0 y1 k3
  obtain ⟨W7, hW7⟩ : ∃ X, w6.alloc (.cells #[.slice A6 f c6] 35) = X := ⟨_, rfl⟩
  have b7 : Below w6.heap.size w6 W7 := by rw [← hW7]; exact alloc_below11 w6 _
  have Q7 := Lib.hid (show Vx W7 w6.heap.size (.slice A6 f c6) 35 by rw [← hW7]; exact Vx.new w6 _ _)
  have S7 := Lib.hid (S6.out.below b7)
  have B7 := Lib.hid (below_next B6.out b7)
  have y0 := keep_below z0 b7
  have y1 := keep_below z1 b7
  rw [hW7]
  clear hW7 b7 z0 z1
  gi_upto_region 10 with (refine ⟨trivial, ?_⟩; gi_at_call 11; go_loud (refine (callsIn_wide.2 (CP.out _ B7.out)).mono ?_; rintro e WB ⟨bx, gb, rfl, vb, nb, b8⟩; have B8 := Lib.hid (below_next B7.out b8); have V8 := Lib.hid vb; have N8 := Lib.hid nb.toW; have H12 := Lib.hid (Q7.out.gw b8); have HFL := Lib.hid (S7.out.below b8); clear b8 vb nb))
  clear y0 y1
  obtain ⟨p2, hp2⟩ : ∃ p, w.heap.size = p := ⟨_, rfl⟩
  obtain ⟨p3, hp3⟩ : ∃ p, p2 + 1 = p := ⟨_, rfl⟩
  obtain ⟨p4, hp4⟩ : ∃ p, p3 + 1 = p := ⟨_, rfl⟩
  obtain ⟨p12, hp12⟩ : ∃ p, w6.heap.size = p := ⟨_, rfl⟩
  have H3 := Lib.hid (show Vx WB p3 (.int .u8 (k : Nat)) 5 by rw [← hp3, ← hp2]; exact HB.out.mq.gw B8.out)
  have H4 := Lib.hid (show Vx WB p4 (.bool false) 4 by rw [← hp4, ← hp3, ← hp2]; exact HB.out.rq.gw B8.out)
  rw [hp12] at H12
  have HT := Lib.hid (HTZ.out.below B8.out)
  have GW := Lib.hid (below_next HB.out.below B8.out)
  have HP := Lib.hid (show w.heap.size = p2 ∧ p2 + 1 = p3 ∧ p3 + 1 = p4 ∧ p4 < WB.heap.size from ⟨hp2, hp3, hp4, H4.out.lt⟩)
  rw [hp2, hp3, hp4, hp12]
  clear hp2 hp3 hp4 hp12 HB HW HHQ B1 B2 B3 B4 B5 B6 B7 B8 S3 S4 T4 S6 S7 Q7 HTZ CR CL CO CF CA CP CE i1 i2 i3
  gi_wp2
  refine wpIn_loop (LO WB p2 p3 p4 p12 33 #[.pointer (some ⟨bx, 0, none⟩)]) (fun a' _ => 2 - (intOf (a'.tmps.getD 66 undef)).toNat) ?_ ?_
  · exact LO.mk' [] 0 rfl (by omega) (Below.refl _ _) List.nodup_nil (by simp)
  rintro _ wr ⟨Ds, j, us, rfl, hj, hb, hnd, hds⟩
  unfold tmQ
  have HB := Lib.hid hb
  have HND := Lib.hid hnd
  have HDS := Lib.hid hds
  by_cases hlt : j < 2
  · have HLT := Lib.hid hlt
    have j1 : (j : Int) < 2 := by omega
    have j4 : IntKind.i64.wrap ((j : Int) + 1) = ((j + 1 : Nat) : Int) := by rw [IntKind.wrap_i64]; omega
    have j5 : wrap64 ((j : Int) + 1) = ((j + 1 : Nat) : Int) := by unfold wrap64; omega
    obtain ⟨V, hV⟩ : ∃ X, wr.alloc (.cells #[.int .i64 0] 3) = X := ⟨_, rfl⟩
    have HV := Lib.hid hV
    have BV := Lib.hid (show Below wr.heap.size wr V by rw [← hV]; exact alloc_below11 wr _)
    have V14 := Lib.hid (show Vx V wr.heap.size (.int .i64 (([] : List (List Int × Value)).length : Nat)) 3 by rw [← hV]; exact Vx.new wr _ _)
    have SV := Lib.hid (show V.heap.size = wr.heap.size + 1 by rw [← hV]; simp)
    clear hV hb hnd hds hlt hj
    gi_wp2
    rw [HV.out]
    have GV := Lib.hid (HB.out.trans (BV.out.mono HB.out.size))
    have LOW := Lib.hid (show ∀ X, Out (fun i => i = wr.heap.size ∨ V.heap.size + 2 ≤ i) V X → Below wr.heap.size wr X from fun X o => BV.out.trans (o.below (B := wr.heap.size) (by rw [SV.out]; omega) (fun i hi e => e.elim (fun e => by omega) (fun e => by have := SV.out; omega))))
    have P14 : wr.heap.size < V.heap.size := by rw [SV.out]; omega
    have eg : ∀ args w, (callFunc 33 args).run Tryz.prog w = .ok (.enter 33 args) w := enters_of Tryz.func33 (by kernel_rfl) rfl
    have hH := hands_allO 9 bx gb wr.heap.size WB.heap.size V HRI.out HCL.out (V8.out.gw GV.out) (N8.out.below GV.out) HB.out.size P14 (HT.out.below GV.out) (by have := HT.out.lt; have := HB.out.size; omega) HMF.out
    refine wp_handsB (gf := 33) (lb := #[.pointer (some ⟨bx, 0, none⟩)]) rfl (by decide) rfl trivial eg hH keepO_trans (fun A l o o' hl ho hc => keepO_turn o' hl ho hc) (fun _ => rfl)
      (IO V wr.heap.size (V.heap.size + 2) (k + 1)) (fun c pre X => c = .exit 2 ∧ f = k + 1 ∧ pre.length = k + 1 ∧ Vx X wr.heap.size (.int .i64 ((k + 1 : Nat) : Int)) 3 ∧ Out (fun i => i = wr.heap.size ∨ V.heap.size + 2 ≤ i) V X)
      (fun s A B h hb => h.gw hb) (fun s A l o o' h hl ho hc => h.turn o' hl ho hc) (fun s A B h ho => h.out (by omega) ho)
      (fun c s A B h hb => ⟨h.1, h.2.1, h.2.2.1, h.2.2.2.1.gw hb, h.2.2.2.2.then (Out.of_below hb _)⟩)
      (fun c s A l o o' h hl ho hc => ⟨h.1, h.2.1, h.2.2.1, h.2.2.2.1.turn o' ho hc, h.2.2.2.2.grown (grownBy_putObj' A l o') (fun k e => by cases e; exact .inr hl)⟩)
      (fun s x A l o o' h _ ho hc => h.turn o' ho hc) ⟨V14.out, Out.refl _ _, by simp⟩ (fun A B h => keepO_below h) (fun s x A B h hb => h.gw hb)
      (AxO p2 p3 p4 p12 wr.heap.size) (fun x a' A l o o' h _ _ _ => h)
      ?assign ?body ?done ?stop
    case assign =>
      rintro l ⟨z, y⟩ X K hX hK
      unfold encO
      dsimp only
      gi_wp2
      exact hK _ _ (AxO.mk' rfl) (Below.refl _ _)
    case body =>
      rintro l1 pre ⟨xs, xv⟩ _ X hX ⟨us, rfl⟩ ⟨h14, ho, hz⟩ ⟨hy, A7, c7, hv, hs⟩
      dsimp only at hy hv hs ⊢
      subst hv
      unfold tmP
      obtain ⟨z, hzz⟩ : ∃ z, pre.length = z := ⟨_, rfl⟩
      obtain ⟨z1, hz1⟩ : ∃ n, z + 1 = n := ⟨_, rfl⟩
      obtain ⟨k1, hk1⟩ : ∃ n, k + 1 = n := ⟨_, rfl⟩
      have HLN := Lib.hid (show (pre ++ [(xs, Value.slice A7 n c7)]).length = z1 by simp [hzz, hz1])
      rw [hzz] at h14 hy hz
      have hFz : F[z]? = some xs := by rw [← HF.out, List.getElem?_take_of_lt hz]; exact hy
      have hzf : z < f := by rw [← HFN.out]; exact (List.getElem?_eq_some_iff.1 hFz).1
      have hff : f ≤ k + 1 := by rw [← HFN.out, ← HF.out]; simp; omega
      have hxn : xs.length = n := by have := hs.len; simpa [numC] using this
      have hn : n ≤ 4096 := by have := HRI.out.lc; have := HCL.out; omega
      have FA := Lib.hid (show z1 = k1 → z1 = k + 1 ∧ f = k + 1 by omega)
      have FB := Lib.hid (show ¬ z1 = k1 → z1 < k + 1 by omega)
      have FC := Lib.hid (show ¬ z1 = k1 → ¬ (z1 : Int) = (k1 : Int) by omega)
      have FD := Lib.hid (show ¬ z1 = k1 → ((z1 : Int) == (k1 : Int)) = false from fun q => beq_false_of_ne (FC.out q))
      have P3N := Lib.hid (show p3 ≠ wr.heap.size by have := HP.out; have := HB.out.size; omega)
      obtain ⟨g, o, A8, c8, e8, q8, s8⟩ := ((HFL.out.below HB.out).below (LOW.out X ho)).atO hFz
      rw [hxn] at q8 s8
      have CE := Lib.hid (fun W (hW : Below X.heap.size X W) => weqI (c1 := c7) (c2 := c8) (l := xs) (by rw [hxn]; exact hs.gw hW) (by rw [hxn]; exact s8.gw hW) (by omega))
      rw [hxn] at CE
      have X3 := Lib.hid ((H3.out.gw HB.out).gw (LOW.out X ho))
      have X12 := Lib.hid ((H12.out.gw HB.out).gw (LOW.out X ho))
      have X14 := Lib.hid h14
      rw [e8] at X12
      have k14 := X14.out.c
      have k12 := X12.out.c
      have XO := Lib.hid ho
      have l1' : (z : Int) < (f : Int) := by omega
      have l2 : ¬ (f : Int) ≤ (z : Int) := by omega
      have l3 : IntKind.i64.wrap ((z : Int) + 1) = (z1 : Int) := by have := HK.out; rw [IntKind.wrap_i64]; omega
      have l4 : wrap64 ((z : Int) + 1) = (z1 : Int) := by have := HK.out; unfold wrap64; omega
      have HZ := Lib.hid (And.intro (And.intro hz1 hk1) (And.intro hz (And.intro hzf hff)))
      have m2 := I2.out
      have m3 := I3.out
      rw [hk1] at m2 m3
      clear hz1 hk1 h14 ho hz hy hs hzz hX hFz hzf hff hxn hn s8 e8
      gi_upto_region 17 with (refine ⟨trivial, ?_⟩; gi_at_call 9; go_loud (refine (callsIn_wide.2 (CE.out _ (Below.refl _ _))).mono ?_; rintro e Y ⟨rfl, by1⟩; have BY := Lib.hid by1; clear by1))
      have y14 := X14.out.gw BY.out
      have c14 := y14.c
      have f14 := y14.f
      obtain ⟨Y1, hY1⟩ : ∃ Y1, Y.setCell ⟨wr.heap.size, 0, none⟩ (.int .i64 (z1 : Int)) = Y1 := ⟨_, rfl⟩
      have O1 := Lib.hid (show Out (fun k => k = wr.heap.size) Y Y1 by rw [← hY1]; exact (Out.refl (fun k => k = wr.heap.size) Y).setCell (p := ⟨wr.heap.size, 0, none⟩) (.inl rfl) _)
      have Z14 := Lib.hid (show Vx Y1 wr.heap.size (.int .i64 (z1 : Int)) 3 by rw [← hY1]; exact y14.set _)
      have d14 := Z14.out.c
      have d3 := (show Vx Y1 p3 (.int .u8 (k : Nat)) 5 from (O1.out.block p3 (X3.out.gw BY.out).lt P3N.out).trans (X3.out.gw BY.out)).c
      have OXY := Lib.hid ((Out.of_below BY.out (fun k => k = wr.heap.size)).then O1.out)
      have KK := Lib.hid (And.intro (others_of_out X14.out OXY.out) (show keepO wr.heap.size V.heap.size X Y1 from Out.mono OXY.out fun i _ e => .inl e))
      have OV := Lib.hid (show Out (fun i => i = wr.heap.size ∨ V.heap.size + 2 ≤ i) V Y1 from XO.out.then (Out.mono OXY.out fun i _ e => .inl e))
      have m1 := I1.out
      clear y14 k14 k12 q8
      by_cases hm : z1 = k1
      · subst hm
        have FIN := Lib.hid (FA.out rfl)
        have ZK := Lib.hid (show Vx Y1 wr.heap.size (.int .i64 ((k + 1 : Nat) : Int)) 3 by rw [← FIN.out.1]; exact Z14.out)
        gi_wp2
        exact ⟨KK.out.1, rfl, FIN.out.2, HLN.out.trans FIN.out.1, ZK.out, OV.out⟩
      · have hm2 := FC.out hm
        have hm3 := FD.out hm
        have FIN := Lib.hid (show IO V wr.heap.size (V.heap.size + 2) (k + 1) (pre ++ [(xs, Value.slice A7 n c7)]) Y1 from ⟨by rw [HLN.out]; exact Z14.out, OV.out, HLN.out ▸ FB.out hm⟩)
        gi_wp2
        exact ⟨KK.out.1, KK.out.2, FIN.out⟩
    case done =>
      rintro D xs X hD hxs ⟨h14, ho, hz⟩ hmk
      have LX := Lib.hid (LOW.out X ho)
      have hlen : xs.length = f := by
        rw [← HFN.out, ← HF.out, ← hxs, List.length_take, List.length_map]; omega
      rw [hlen] at h14
      have c14 := h14.c
      have c12 := ((H12.out.gw HB.out).gw LX.out).c
      have HD := Lib.hid (show wr.heap.size < D by rw [SV.out] at hD; omega)
      have FIN := Lib.hid (show Below WB.heap.size WB X ∧ (D :: Ds).Nodup ∧ ∀ E ∈ D :: Ds, WB.heap.size ≤ E ∧ X.heap[E]? = some (.deferred (some [])) from marksO HB.out HND.out HDS.out LX.out HD.out hmk)
      have HJ := Lib.hid (show j + 1 ≤ 2 by have := HLT.out; omega)
      clear h14 ho hz hmk hD hxs hlen
      gi_wp2
      refine ⟨LO.mk' (D :: Ds) (j + 1) rfl HJ.out FIN.out.1 FIN.out.2.1 FIN.out.2.2, ?_⟩
      have := HLT.out
      simp [intOf]
      omega
    case stop =>
      rintro D c1 pre X hD - ⟨rfl, hf, hpre, h14, ho⟩ hmk
      have LX := Lib.hid (LOW.out X ho)
      rw [← hf] at h14
      have c14 := h14.c
      have c12 := ((H12.out.gw HB.out).gw LX.out).c
      have HD := Lib.hid (show wr.heap.size < D by rw [SV.out] at hD; omega)
      have FIN := Lib.hid (show Below WB.heap.size WB X ∧ (D :: Ds).Nodup ∧ ∀ E ∈ D :: Ds, WB.heap.size ≤ E ∧ X.heap[E]? = some (.deferred (some [])) from marksO HB.out HND.out HDS.out LX.out HD.out hmk)
      have HJ := Lib.hid (show j + 1 ≤ 2 by have := HLT.out; omega)
      clear h14 ho hf hpre hmk hD
      gi_wp2
      refine ⟨LO.mk' (D :: Ds) (j + 1) rfl HJ.out FIN.out.1 FIN.out.2.1 FIN.out.2.2, ?_⟩
      have := HLT.out
      simp [intOf]
      omega
  · obtain rfl : j = 2 := by omega
    have c4 := (H4.out.gw hb).c
    have f4 := (H4.out.gw hb).f
    have END := Lib.hid (show Vx (wr.setCell ⟨p4, 0, none⟩ (.bool true)) p4 (.bool true) 4 ∧ Below w.heap.size w (wr.setCell ⟨p4, 0, none⟩ (.bool true)) ∧ ∀ D ∈ Ds, w.heap.size ≤ D ∧ (wr.setCell ⟨p4, 0, none⟩ (.bool true)).heap[D]? = some (.deferred (some [])) from
      ⟨(H4.out.gw hb).set _, (GW.out.trans (hb.mono GW.out.size)).setCell (p := ⟨p4, 0, none⟩) (by show w.heap.size ≤ p4; have := HP.out; omega) _, fun D hD => ⟨Nat.le_trans GW.out.size (hds D hD).1, (Below.heap_setCell _ _ _ _ (by show D ≠ p4; have := HP.out; have := (hds D hD).1; omega)).trans (hds D hD).2⟩⟩)
    clear hb hnd hds hlt hj
    gi_wp2
    refine leaves_marksO (fun Y => Below w.heap.size w Y ∧ Vx Y p4 (.bool true) 4) w.heap.size (fun Y D h hD ho => ⟨below_turn (o := .deferred (some [])) (b := 0) h.1 (Nat.le_refl _) hD _, h.2.turn _ ho rfl⟩) (fun Y h => ?_) Ds _ HND.out END.out.2.2 ⟨END.out.2.1, END.out.1⟩
    have hc5 := h.2.c
    exact ⟨.bool true, by simp [results, Tryz.f3, go_sem, hc5], rfl, h.1⟩
theorem walk_SerialOrders (A : Option Addr) (n c : Nat) (B : Option Addr) (m d : Nat) (cs : List Int) (ac : List Ac) (mo : Int) (w : World) (hT : TzAt w) (h : Hist w A n c B m d cs ac) (hm : 0 ≤ mo ∧ mo ≤ 255) :
    Calls Tryz.prog 3 #[.agg #[.slice A n c, .slice B m d], .int .u8 mo] w fun e w' => e = .returned (.bool true) ∧ Below w.heap.size w w' := by
  obtain ⟨k, rfl⟩ := Int.eq_ofNat_of_zero_le hm.1
  by_cases hR : Right cs ac
  · exact wlOrdersOk h hR hT k (by have := hm.2; omega)
  · exact wlOrdersNo h hR
end
end Go.Proofs.YtnpeankmmojebaaGreatDoor
