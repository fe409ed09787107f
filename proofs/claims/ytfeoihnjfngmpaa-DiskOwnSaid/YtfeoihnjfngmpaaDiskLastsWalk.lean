/- The walk of DiskLasts: true whatever comes in. -/
import Derived.Test.YtfeoihnjfngmpaaDLastsMath
namespace Go.Proofs.Ytfeoihnjfngmpaa
open Go.RowKit

/-- Where a law stands: the disk d holds S, its memory is the law's own. -/
structure LM (w wr : World) (d : Nat) (S : St) (F : Nat → Prop) : Prop where
  pd : PD F wr d S
  fs : ∀ j, F j → w.heap.size ≤ j ∧ j < wr.heap.size
  b : Below w.heap.size w wr
theorem LM.below {w wr wr' : World} {d : Nat} {S : St} {F : Nat → Prop} (h : LM w wr d S F) (hb : Below wr.heap.size wr wr') : LM w wr' d S F :=
  ⟨h.pd.below hb, fun j hj => ⟨(h.fs j hj).1, Nat.lt_of_lt_of_le (h.fs j hj).2 hb.size⟩, h.b.trans (hb.mono h.b.size)⟩
theorem LM.step {w wr wr' : World} {d : Nat} {S S' : St} {F : Nat → Prop} (h : LM w wr d S F) (hp : PD (Gr F wr) wr' d S') (ho : Out F wr wr') : LM w wr' d S' (fun j => Gr F wr j ∧ j < wr'.heap.size) :=
  ⟨hp.shut, fun j hj => ⟨by rcases hj.1 with h1 | h1; exact (h.fs j h1).1; exact Nat.le_trans h.b.size h1, hj.2⟩, h.b.trans (ho.below h.b.size (fun i hi hf => by have := (h.fs i hf).1; omega))⟩
theorem LM.drew {w wr : World} {d : Nat} {S : St} {F : Nat → Prop} (h : LM w wr d S F) : LM w wr.drew d S F := ⟨h.pd.drew, h.fs, h.b.drew⟩

theorem sync_free {S : St} (h1 : S.off = false) (h2 : S.plan = -1) : syncS S = ⟨layAll S.last S.pend (ones S.pend.length), [], false, -1, S.writes, wrap64 (S.syncs + 1)⟩ ∧ syncE S = 0 := by
  unfold syncS syncE spendS spendE
  simp [h1, h2]

set_option maxRecDepth 100000 in
set_option maxHeartbeats 4000000 in
theorem walk_DiskLasts (A0 : Option Addr) (n0 c0 : Nat) (z0 : List OpD) (A1 : Option Addr) (n1 c1 : Nat) (z1 : List OpD) (A2 : Option Addr) (n2 c2 : Nat) (z2 : List Int) (w : World) (h0 : RO w A0 n0 z0) (hn0 : n0 ≤ c0) (hc0 : c0 ≤ 2199023255488) (h1 : RO w A1 n1 z1) (hn1 : n1 ≤ c1) (hc1 : c1 ≤ 2199023255488) (h2 : RI w A2 n2 z2) (hn2 : n2 ≤ c2) (hc2 : c2 ≤ 17592186043904) :
    Calls Try.prog 5 #[.slice A0 n0 c0, .slice A1 n1 c1, .slice A2 n2 c2] w fun e w' => e = .returned (.bool true) ∧ Below w.heap.size w w' := by
  have cb := begun_true w
  have HL0 := Lib.hid h0.len
  have HL1 := Lib.hid h1.len
  have HP1 := Lib.hid (show (wrPend [] 6 z0).length ≤ 2199023255488 by have := wrPend_len 6 z0 []; rw [h0.len] at this; simp at this; omega)
  have HP2 := Lib.hid (show (wrPend [] 6 z1).length ≤ 2199023255488 by have := wrPend_len 6 z1 []; rw [h1.len] at this; simp at this; omega)
  go_enter Try.func5, Try.ntmps5
  go_upto_region 6 with (first
    | (go_at_call 20; refine cb.mono ?_; rintro e w1 ⟨rfl, b1⟩; have B1 := Lib.hid b1; clear b1 cb)
    | (go_at_call 10; refine (dnew w1 6 (by omega)).mono ?_; rintro e w2 (⟨h, -, -⟩ | ⟨-, d, rfl, hp, b2⟩); exact absurd (by omega) h; have M2 := Lib.hid (show LM w w2 d (newS 6) (fun j => w1.heap.size ≤ j ∧ j < w2.heap.size) from ⟨hp.shut, fun j hj => ⟨Nat.le_trans B1.out.size hj.1, hj.2⟩, B1.out.trans (b2.mono B1.out.size)⟩); clear hp b2))
  go_upto_region 7 with (go_at_call 21; refine (lwrites (S := newS 6) (w0 := w) M2.out.pd (fun j hj => (M2.out.fs j hj).1) M2.out.b rfl rfl A0 n0 c0 z0 h0 hn0 hc0 (by show 0 + n0 < _; omega)).mono ?_; rintro e w3 ⟨F3, gA, vsA, cA, hE, p3, f3, o3, ga3, r3⟩; obtain rfl : e = .returned (.tuple #[.slice (some ⟨gA, 0, none⟩) 6 6, .bool true]) := hE; have M3 := Lib.hid (show LM w w3 d { newS 6 with pend := wrPend [] 6 z0, writes := cA } F3 from ⟨p3, fun j hj => ⟨by rcases (f3 j hj).1 with h | h; exact (M2.out.fs j h).1; exact Nat.le_trans M2.out.b.size h, (f3 j hj).2⟩, M2.out.b.trans (o3.below M2.out.b.size (fun i hi hf => by have := (M2.out.fs i hf).1; omega))⟩); have R3 := Lib.hid (show LRow F3 w3 gA 6 (wrLast (nones 6) 6 z0) vsA from r3); clear p3 f3 o3 r3 ga3)
  obtain ⟨L4, hL4⟩ : ∃ L, L = layAll (newL 6) (wrPend [] 6 z0) (ones (wrPend [] 6 z0).length) := ⟨_, rfl⟩
  have HL4 := Lib.hid hL4
  have hl4 : L4.length = 6 := by rw [hL4, layAll_len]; rfl
  have HLL := Lib.hid hl4
  have cs := dsync M3.out.pd (by show (wrPend [] 6 z0).length ≤ _; have := HP1.out; omega)
  obtain ⟨e1, e2⟩ := sync_free (S := { newS 6 with pend := wrPend [] 6 z0, writes := cA }) rfl rfl
  rw [e1, e2] at cs
  clear e1 e2
  rw [show layAll ({ newS 6 with pend := wrPend [] 6 z0, writes := cA } : St).last ({ newS 6 with pend := wrPend [] 6 z0, writes := cA } : St).pend (ones ({ newS 6 with pend := wrPend [] 6 z0, writes := cA } : St).pend.length) = L4 from hL4.symm] at cs
  clear hL4 hl4
  go_upto_region 9 with (first
    | (go_at_call 15; refine cs.mono ?_; rintro e w4 ⟨rfl, p4, o4⟩; have M4 := Lib.hid (M3.out.step p4 o4); have R4 := Lib.hid (R3.out.step o4 (F' := fun j => Gr F3 w3 j ∧ j < w4.heap.size) (fun j h => h.1)); clear p4 o4 cs)
    | (go_at_call 22; refine (dpending M4.out.pd (by show 0 < _; omega)).mono ?_; rintro e w5 ⟨Lp, Gp, hE, -, b5⟩; obtain rfl : e = .returned (.slice (some ⟨w4.heap.size, 0, none⟩) 0 0) := hE; have M5 := Lib.hid (M4.out.below b5); have R5 := Lib.hid (R4.out.step (Out.of_below b5 _) (fun j h => .inl h)); clear b5 M4 R4))
  go_upto_region 10 with (go_at_call 21; have lw := (lwrites (S := ⟨L4, [], false, -1, cA, wrap64 (0 + 1)⟩) (w0 := w) M5.out.pd (fun j hj => (M5.out.fs j hj).1) M5.out.b rfl rfl A1 n1 c1 z1 h1 hn1 hc1 (by show 0 + n1 < _; omega)); rw [show (({ last := L4, pend := [], off := false, plan := -1, writes := cA, syncs := wrap64 (0 + 1) } : St).last.length : Int) = 6 by show (L4.length : Int) = 6; rw [HLL.out]; rfl] at lw; refine lw.mono ?_; rintro e w6 ⟨F6, gB, vsB, cB, hE, p6, f6, o6, gb6, r6⟩; simp only [HLL.out] at hE p6 r6; subst hE; have M6 := Lib.hid (show LM w w6 d ⟨L4, wrPend [] 6 z1, false, -1, cB, wrap64 (0 + 1)⟩ F6 from ⟨p6, fun j hj => ⟨by rcases (f6 j hj).1 with h | h; exact (M5.out.fs j h).1; exact Nat.le_trans M5.out.b.size h, (f6 j hj).2⟩, M5.out.b.trans (o6.below M5.out.b.size (fun i hi hf => by have := (M5.out.fs i hf).1; omega))⟩); have R6 := Lib.hid (R5.out.step o6 (fun j h => (f6 j h).1)); have Q6 := Lib.hid (show LRow F6 w6 gB 6 (wrLast (nones 6) 6 z1) vsB from r6); clear p6 f6 o6 r6 gb6 lw)
  -- REST
  obtain ⟨m2, hm2⟩ : ∃ m, m = (wrPend [] 6 z1).length := ⟨_, rfl⟩
  have HM2 := Lib.hid hm2
  have HPS := Lib.hid (show (wrPend [] 6 z1).length < 2199023255552 by have := HP2.out; omega)
  have cp := dpending M6.out.pd HPS.out
  have hmb : m2 ≤ 2199023255488 := by rw [hm2]; exact HP2.out
  clear hm2
  by_cases hcmp : m2 < n2
  · have hci : (m2 : Int) < (n2 : Int) := by omega
    have hck : decide ((m2 : Int) < (n2 : Int)) = true := by simp; omega
    have hck2 : decide (m2 < n2) = true := by simp; omega
    have hcc : m2 ≤ c2 := by omega
    go_upto_region 13 with (go_at_call 22; refine cp.mono ?_; rintro e w7 ⟨Lr, Gr7, hE, -, b7⟩; obtain rfl : e = .returned (.slice (some ⟨w6.heap.size, 0, none⟩) m2 m2) := (by rw [HM2.out]; exact hE); have M7a := Lib.hid (M6.out.below b7); have R7a := Lib.hid (R6.out.step (Out.of_below b7 _) (F' := F6) (fun j h => .inl h)); have Q7a := Lib.hid (Q6.out.step (Out.of_below b7 _) (F' := F6) (fun j h => .inl h)); clear b7 cp M6 R6 Q6)
    go_upto_region 14 with (go_at_call 22; refine (dpending M7a.out.pd HPS.out).mono ?_; rintro e w7 ⟨Ls, Gs, hE, -, b7⟩; obtain rfl : e = .returned (.slice (some ⟨_, 0, none⟩) m2 m2) := (by rw [HM2.out]; exact hE); have M7 := Lib.hid (M7a.out.below b7); have R7 := Lib.hid (R7a.out.step (Out.of_below b7 _) (F' := F6) (fun j h => .inl h)); have Q7 := Lib.hid (Q7a.out.step (Out.of_below b7 _) (F' := F6) (fun j h => .inl h)); clear b7 M7a R7a Q7a)
    obtain ⟨nk, hnk0⟩ : ∃ nk, nk = m2 := ⟨_, rfl⟩
    obtain ⟨ks, hks0⟩ : ∃ ks, ks = z2.take m2 := ⟨_, rfl⟩
    have hks : RI w A2 nk ks := by
      rw [hnk0, hks0]
      refine ⟨by rw [List.length_take, h2.len]; omega, fun z hz => h2.rng z (List.mem_of_mem_take hz), fun hp => ?_⟩
      obtain ⟨b, o, e, hc⟩ := h2.cell (by omega)
      refine ⟨b, o, e, fun j hj => ?_⟩
      rw [hc j (by omega)]
      simp [List.getD_eq_getElem?_getD, hj]
    have hnk : nk ≤ (wrPend [] 6 z1).length := by rw [hnk0, HM2.out]; exact Nat.le_refl _
    rw [← hnk0]
    clear hnk0 hks0 hcmp hci hck hck2
    have HKS := Lib.hid hks
    have HKL := Lib.hid hks.len
    have HNK := Lib.hid hnk
    have hnkb : nk ≤ 2199023255488 := by have := HP2.out; omega
    clear hks hnk
    go_wp2
    go_loopw [13, 66] (fun _ i wr => ∃ k : Nat, i = .int .i64 (k : Nat) ∧ k ≤ nk ∧ w7 = wr ∧ ∀ j, j < k → keepOk (ks.getD j 0)) (fun _ i _ => nk - (intOf i).toNat)
    case atStart => exact ⟨0, rfl, Nat.zero_le _, rfl, fun j hj => by omega⟩
    case round =>
      obtain ⟨k, rfl, hk, rfl, hok⟩ := hrel
      have ksw := HKS.out.below (M7.out.b)
      have cc := dcrash M7.out.pd A2 nk c2 ks ksw (fun ad e hpos hf => by
        obtain ⟨b, o, e2, hc⟩ := HKS.out.cell hpos
        rw [e2] at e; cases e
        have := World.block_lt_of_cell? w _ (hc 0 hpos)
        have := (M7.out.fs _ hf).1
        simp at *; omega) HPS.out (by omega)
      by_cases hlt : k < nk
      · obtain ⟨b, o, rfl, hcell⟩ := ksw.cell (by omega)
        have ck := hcell k hlt
        have hki : (k : Int) < (nk : Int) := by omega
        obtain ⟨z, hz⟩ : ∃ z, ks.getD k 0 = z := ⟨_, rfl⟩
        have hzm : z ∈ ks := by
          have hkl : k < ks.length := by rw [HKL.out]; exact hlt
          rw [← hz, List.getD_eq_getElem?_getD, List.getElem?_eq_getElem hkl]
          exact List.getElem_mem hkl
        rw [hz] at ck
        have HO := Lib.hid hok
        have HZ := Lib.hid hz
        clear hok hz hcell ksw
        by_cases hzk : keepOk z
        · have HZK := Lib.hid hzk
          have z1 : ¬ z < 0 := by unfold keepOk at hzk; omega
          have z2 : ¬ 2 < z := by unfold keepOk at hzk; omega
          have z3 : decide (z < 0) = false := by simp; omega
          have z4 : decide (2 < z) = false := by simp; omega
          clear hzk cc hzm
          go_wp2
          go_roundw
          case rel => exact ⟨k + 1, by go_num, hlt, by first | rfl | trivial, fun j hj => by
            rcases Nat.lt_or_ge j k with h1 | h1
            · exact HO.out j h1
            · rw [show j = k by omega, HZ.out]; exact HZK.out⟩
          case measure => simp [intOf]; omega
        · have hbad : crashE ⟨L4, wrPend [] 6 z1, false, -1, cB, wrap64 (0 + 1)⟩ ks = 1 := by
            unfold crashE
            split
            · rfl
            · rw [if_neg (fun hh => hzk (hh z hzm))]
          rw [hbad] at cc
          rcases Int.lt_or_le z 0 with hz0 | hz0
          · have z3 : decide (z < 0) = true := by simp; omega
            clear hbad hzk hzm
            go_wp2_with (go_at_call 23; refine cc.mono ?_; rintro e w8 ⟨rfl, p8, o8⟩; have M8 := Lib.hid (M7.out.step p8 o8); clear p8 o8)
            go_ret
            exact ⟨rfl, M8.out.b⟩
          · have z3 : decide (z < 0) = false := by simp; omega
            have hz2 : 2 < z := by
              rcases Int.lt_or_le 2 z with h | h
              · exact h
              · exact absurd (show keepOk z by unfold keepOk; omega) hzk
            have z4 : decide (2 < z) = true := by simp; omega
            clear hbad hzk hzm
            go_wp2_with (go_at_call 23; refine cc.mono ?_; rintro e w8 ⟨rfl, p8, o8⟩; have M8 := Lib.hid (M7.out.step p8 o8); clear p8 o8)
            go_ret
            exact ⟨rfl, M8.out.b⟩
      · obtain rfl : k = nk := by omega
        have hall : ∀ z ∈ ks, keepOk z := fun z hz => by
          obtain ⟨j, hj⟩ := List.getElem?_of_mem hz
          have hjl : j < ks.length := (List.getElem?_eq_some_iff.1 hj).1
          have := hok j (by rw [HKL.out] at hjl; exact hjl)
          rw [List.getD_eq_getElem?_getD, hj] at this
          exact this
        have hnl : ¬ (wrPend [] 6 z1).length < ks.length := by rw [HKL.out]; have := HNK.out; omega
        have hE : crashE ⟨L4, wrPend [] 6 z1, false, -1, cB, wrap64 (0 + 1)⟩ ks = 0 := by unfold crashE; rw [if_neg hnl, if_pos hall]
        obtain ⟨L8, hL8⟩ : ∃ L, L = layAll L4 (wrPend [] 6 z1) ks := ⟨_, rfl⟩
        have hS : crashS ⟨L4, wrPend [] 6 z1, false, -1, cB, wrap64 (0 + 1)⟩ ks = ⟨L8, [], false, -1, cB, wrap64 (0 + 1)⟩ := by unfold crashS; rw [if_neg hnl, if_pos hall, hL8]
        rw [hE, hS] at cc
        have HL8 := Lib.hid hL8
        clear hok hall hnl hE hS hL8 ksw
        go_upto_region 22 with (first
          | (go_at_call 23; refine cc.mono ?_; rintro e w8 ⟨rfl, p8, o8⟩; have M8 := Lib.hid (M7.out.step p8 o8); have R8 := Lib.hid (R7.out.step o8 (F' := fun j => Gr F6 w7 j ∧ j < w8.heap.size) (fun j h => h.1)); have Q8 := Lib.hid (Q7.out.step o8 (F' := fun j => Gr F6 w7 j ∧ j < w8.heap.size) (fun j h => h.1)); clear p8 o8 cc)
          | (go_at_call 22; refine (dpending M8.out.pd (by show 0 < _; omega)).mono ?_; rintro e w9 ⟨Lq, Gq, hE, -, b9⟩; obtain rfl : e = .returned (.slice (some ⟨w8.heap.size, 0, none⟩) 0 0) := hE; have M9 := Lib.hid (M8.out.below b9); have R9 := Lib.hid (R8.out.step (Out.of_below b9 _) (fun j h => .inl h)); have Q9 := Lib.hid (Q8.out.step (Out.of_below b9 _) (fun j h => .inl h)); clear b9 M8 R8 Q8)
          | (go_at_call 24; refine (poff M9.out.pd).mono ?_; rintro e w' ⟨hE, rfl⟩; obtain rfl : e = .returned (.bool false) := hE))
        have hAl := R9.out.own.1
        have hBl := Q9.out.own.1
        have HAL := Lib.hid (show vsA.length = 6 by omega)
        have HBL := Lib.hid (show vsB.length = 6 by omega)
        clear hAl hBl
        go_wp2
        go_loopw [14, 15, 16, 17, 97] (fun _ _ _ _ i wr => ∃ j : Nat, i = .int .i64 (j : Nat) ∧ j ≤ 6 ∧ LM w wr d ⟨L8, [], false, -1, cB, wrap64 (0 + 1)⟩ (fun j => Gr F6 w7 j ∧ j < w8.heap.size) ∧ LRow (fun j => Gr F6 w7 j ∧ j < w8.heap.size) wr gA 6 (wrLast (nones 6) 6 z0) vsA ∧ LRow (fun j => Gr F6 w7 j ∧ j < w8.heap.size) wr gB 6 (wrLast (nones 6) 6 z1) vsB) (fun _ _ _ _ i _ => 6 - (intOf i).toNat)
        case atStart => exact ⟨0, rfl, Nat.zero_le _, M9.out, R9.out, Q9.out⟩
        case round =>
          obtain ⟨j, rfl, hj, M, RA, RBw⟩ := hrel
          by_cases hj6 : j < 6
          · obtain ⟨q, hq1, hq2⟩ := wr_last 6 z0 j hj6
            rw [← HL4.out] at hq2
            obtain ⟨vA, hvA⟩ : ∃ v, vsA[j]? = some v := ⟨_, List.getElem?_eq_getElem (by rw [HAL.out]; exact hj6)⟩
            obtain ⟨vB, hvB⟩ : ∃ v, vsB[j]? = some v := ⟨_, List.getElem?_eq_getElem (by rw [HBL.out]; exact hj6)⟩
            obtain ⟨qB, hqB⟩ : ∃ v, (wrLast (nones 6) 6 z1)[j]? = some v := ⟨_, List.getElem?_eq_getElem (by rw [wrLast_len]; simp [nones]; exact hj6)⟩
            have lvA := RA.at_ j q vA hq1 hvA
            have lvB := RBw.at_ j qB vB hqB hvB
            have cA1 : wr.cell? ⟨gA, j, none⟩ = some vA := (RA.own.cellAt j (by omega)).trans hvA
            have cB1 : wr.cell? ⟨gB, j, none⟩ = some vB := (RBw.own.cellAt j (by omega)).trans hvB
            have hji : (j : Int) < 6 := by omega
            have HJ := Lib.hid hj6
            have hrd : qB = none → readB ⟨L8, [], false, -1, cB, wrap64 (0 + 1)⟩ (j : Int) = (q.getD zero64, 0) := fun hn => by
              subst hn
              refine read_clean (c := ⟨q.getD zero64, false⟩) rfl rfl ?_ rfl
              show L8[j]? = _
              rw [HL8.out, layAll_other j _ _ _ (fun x hx he => wr_none 6 z1 x hx (by rw [he]; exact hqB))]
              exact hq2
            have HRD := Lib.hid hrd
            have MH := Lib.hid M
            have RAH := Lib.hid RA
            have RBH := Lib.hid RBw
            clear hq1 hq2 hvA hvB hqB hrd RA RBw
            have hn1 := nil_is
            have hn2 := nil_isnt
            cases q with
            | none =>
              obtain rfl : vA = .slice none 0 0 := lvA
              have hmk := run_make_bytes wr 64 64 (by omega) (by omega) (by omega)
              have rz := rb_zeros wr 64 (by omega)
              have bz : Below wr.heap.size wr (wr.alloc (.cells (madeCells #[.int .u8 0] 64) 5)) := (Below.refl _ _).alloc (Nat.le_refl _) _
              have cB2 : (wr.alloc (.cells (madeCells #[.int .u8 0] 64) 5)).cell? ⟨gB, j, none⟩ = some vB := keep_below cB1 bz
              rw [show (64 : Int).toNat = 64 from rfl] at hmk
              generalize wr.alloc (.cells (madeCells #[.int .u8 0] 64) 5) = W1 at hmk rz bz cB2
              have M1 := Lib.hid (MH.out.below bz)
              have RA1 := Lib.hid (RAH.out.step (Out.of_below bz _) (F' := fun j => Gr F6 w7 j ∧ j < w8.heap.size) (fun j h => .inl h))
              have RB1 := Lib.hid (RBH.out.step (Out.of_below bz _) (F' := fun j => Gr F6 w7 j ∧ j < w8.heap.size) (fun j h => .inl h))
              have cr := dread M1.out.pd (j : Int) (by show 0 < _; omega)
              cases qB with
              | none =>
                obtain rfl : vB = .slice none 0 0 := lvB
                rw [HRD.out rfl] at cr
                clear bz M
                go_wp2_with (first
                  | (go_at_call 25; refine cr.mono ?_; rintro e w2' (⟨hne, -, -, -⟩ | ⟨-, hb64, rfl, hw⟩); exact absurd rfl hne; have bb : Below W1.heap.size W1 w2' := (by rw [hw]; exact (Below.refl _ _).alloc (Nat.le_refl _) _); have rr : RB w2' (some ⟨W1.heap.size, 0, none⟩) 64 zero64 := (by rw [hw]; exact rb_head (r := []) hb64 (by rw [List.append_nil]; exact heap_alloc_new _ _)); have cB3 := keep_below cB2 bb; have rz2 := rz.below' bb; have M2' := Lib.hid (M1.out.below bb); have RA2 := Lib.hid (RA1.out.step (Out.of_below bb _) (F' := fun j => Gr F6 w7 j ∧ j < w8.heap.size) (fun j h => .inl h)); have RB2 := Lib.hid (RB1.out.step (Out.of_below bb _) (F' := fun j => Gr F6 w7 j ∧ j < w8.heap.size) (fun j h => .inl h)); clear cr hw bb)
                  | (go_at_call 26; refine (lalike 64 64 rr rz2).mono ?_; rintro e w' ⟨hE, rfl⟩; obtain rfl : e = .returned (.bool true) := hE))
                go_roundw
                case rel => exact ⟨j + 1, by go_num, HJ.out, M2'.out, RA2.out, RB2.out⟩
                case measure => simp [intOf]; omega
              | some zb =>
                obtain ⟨gb, cb', rfl, -, -⟩ := lvB
                clear bz M
                go_wp2_with (go_at_call 25; refine (read_any cr).mono ?_; rintro e w2' ⟨vr, cc', rfl, bb⟩; have cB3 := keep_below cB2 bb; have M2' := Lib.hid (M1.out.below bb); have RA2 := Lib.hid (RA1.out.step (Out.of_below bb _) (F' := fun j => Gr F6 w7 j ∧ j < w8.heap.size) (fun j h => .inl h)); have RB2 := Lib.hid (RB1.out.step (Out.of_below bb _) (F' := fun j => Gr F6 w7 j ∧ j < w8.heap.size) (fun j h => .inl h)); clear cr bb)
                go_roundw
                case rel => exact ⟨j + 1, by go_num, HJ.out, M2'.out, RA2.out, RB2.out⟩
                case measure => simp [intOf]; omega
            | some za =>
              obtain ⟨ga, ca', rfl, rza, -⟩ := lvA
              have cr := dread MH.out.pd (j : Int) (by show 0 < _; omega)
              cases qB with
              | none =>
                obtain rfl : vB = .slice none 0 0 := lvB
                rw [HRD.out rfl] at cr
                clear M
                go_wp2_with (first
                  | (go_at_call 25; refine cr.mono ?_; rintro e w2' (⟨hne, -, -, -⟩ | ⟨-, hb64, rfl, hw⟩); exact absurd rfl hne; have bb : Below wr.heap.size wr w2' := (by rw [hw]; exact (Below.refl _ _).alloc (Nat.le_refl _) _); have rr : RB w2' (some ⟨wr.heap.size, 0, none⟩) 64 za := (by rw [hw]; exact rb_head (r := []) hb64 (by rw [List.append_nil]; exact heap_alloc_new _ _)); have cB3 := keep_below cB1 bb; have rz2 := rza.below' bb; have M2' := Lib.hid (MH.out.below bb); have RA2 := Lib.hid (RAH.out.step (Out.of_below bb _) (F' := fun j => Gr F6 w7 j ∧ j < w8.heap.size) (fun j h => .inl h)); have RB2 := Lib.hid (RBH.out.step (Out.of_below bb _) (F' := fun j => Gr F6 w7 j ∧ j < w8.heap.size) (fun j h => .inl h)); clear cr hw bb)
                  | (go_at_call 26; refine (lalike 64 ca' rr rz2).mono ?_; rintro e w' ⟨hE, rfl⟩; obtain rfl : e = .returned (.bool true) := (by rw [hE]; simp)))
                go_roundw
                case rel => exact ⟨j + 1, by go_num, HJ.out, M2'.out, RA2.out, RB2.out⟩
                case measure => simp [intOf]; omega
              | some zb =>
                obtain ⟨gb, cb', rfl, -, -⟩ := lvB
                clear M
                go_wp2_with (go_at_call 25; refine (read_any cr).mono ?_; rintro e w2' ⟨vr, cc', rfl, bb⟩; have cB3 := keep_below cB1 bb; have M2' := Lib.hid (MH.out.below bb); have RA2 := Lib.hid (RAH.out.step (Out.of_below bb _) (F' := fun j => Gr F6 w7 j ∧ j < w8.heap.size) (fun j h => .inl h)); have RB2 := Lib.hid (RBH.out.step (Out.of_below bb _) (F' := fun j => Gr F6 w7 j ∧ j < w8.heap.size) (fun j h => .inl h)); clear cr bb)
                go_roundw
                case rel => exact ⟨j + 1, by go_num, HJ.out, M2'.out, RA2.out, RB2.out⟩
                case measure => simp [intOf]; omega
          · obtain rfl : j = 6 := by omega
            go_wp2
            go_ret
            exact ⟨rfl, M.b⟩
  · have hci : ¬ (m2 : Int) < (n2 : Int) := by omega
    have hck : decide ((m2 : Int) < (n2 : Int)) = false := by simp; omega
    have hck2 : decide (m2 < n2) = false := by simp; omega
    go_upto_region 14 with (go_at_call 22; refine cp.mono ?_; rintro e w7 ⟨Lr, Gr7, hE, -, b7⟩; obtain rfl : e = .returned (.slice (some ⟨w6.heap.size, 0, none⟩) m2 m2) := (by rw [HM2.out]; exact hE); have M7 := Lib.hid (M6.out.below b7); have R7 := Lib.hid (R6.out.step (Out.of_below b7 _) (F' := F6) (fun j h => .inl h)); have Q7 := Lib.hid (Q6.out.step (Out.of_below b7 _) (F' := F6) (fun j h => .inl h)); clear b7 cp M6 R6 Q6)
    obtain ⟨nk, hnk0⟩ : ∃ nk, nk = n2 := ⟨_, rfl⟩
    obtain ⟨ks, hks0⟩ : ∃ ks, ks = z2 := ⟨_, rfl⟩
    have hks : RI w A2 nk ks := by rw [hnk0, hks0]; exact h2
    have hnk : nk ≤ (wrPend [] 6 z1).length := by rw [hnk0, ← HM2.out]; omega
    rw [← hnk0]
    clear hnk0 hks0 hcmp
    have HKS := Lib.hid hks
    have HKL := Lib.hid hks.len
    have HNK := Lib.hid hnk
    have hnkb : nk ≤ 2199023255488 := by have := HP2.out; omega
    clear hks hnk
    go_wp2
    go_loopw [13, 66] (fun _ i wr => ∃ k : Nat, i = .int .i64 (k : Nat) ∧ k ≤ nk ∧ w7 = wr ∧ ∀ j, j < k → keepOk (ks.getD j 0)) (fun _ i _ => nk - (intOf i).toNat)
    case atStart => exact ⟨0, rfl, Nat.zero_le _, rfl, fun j hj => by omega⟩
    case round =>
      obtain ⟨k, rfl, hk, rfl, hok⟩ := hrel
      have ksw := HKS.out.below (M7.out.b)
      have cc := dcrash M7.out.pd A2 nk c2 ks ksw (fun ad e hpos hf => by
        obtain ⟨b, o, e2, hc⟩ := HKS.out.cell hpos
        rw [e2] at e; cases e
        have := World.block_lt_of_cell? w _ (hc 0 hpos)
        have := (M7.out.fs _ hf).1
        simp at *; omega) HPS.out (by omega)
      by_cases hlt : k < nk
      · obtain ⟨b, o, rfl, hcell⟩ := ksw.cell (by omega)
        have ck := hcell k hlt
        have hki : (k : Int) < (nk : Int) := by omega
        obtain ⟨z, hz⟩ : ∃ z, ks.getD k 0 = z := ⟨_, rfl⟩
        have hzm : z ∈ ks := by
          have hkl : k < ks.length := by rw [HKL.out]; exact hlt
          rw [← hz, List.getD_eq_getElem?_getD, List.getElem?_eq_getElem hkl]
          exact List.getElem_mem hkl
        rw [hz] at ck
        have HO := Lib.hid hok
        have HZ := Lib.hid hz
        clear hok hz hcell ksw
        by_cases hzk : keepOk z
        · have HZK := Lib.hid hzk
          have z1 : ¬ z < 0 := by unfold keepOk at hzk; omega
          have z2 : ¬ 2 < z := by unfold keepOk at hzk; omega
          have z3 : decide (z < 0) = false := by simp; omega
          have z4 : decide (2 < z) = false := by simp; omega
          clear hzk cc hzm
          go_wp2
          go_roundw
          case rel => exact ⟨k + 1, by go_num, hlt, by first | rfl | trivial, fun j hj => by
            rcases Nat.lt_or_ge j k with h1 | h1
            · exact HO.out j h1
            · rw [show j = k by omega, HZ.out]; exact HZK.out⟩
          case measure => simp [intOf]; omega
        · have hbad : crashE ⟨L4, wrPend [] 6 z1, false, -1, cB, wrap64 (0 + 1)⟩ ks = 1 := by
            unfold crashE
            split
            · rfl
            · rw [if_neg (fun hh => hzk (hh z hzm))]
          rw [hbad] at cc
          rcases Int.lt_or_le z 0 with hz0 | hz0
          · have z3 : decide (z < 0) = true := by simp; omega
            clear hbad hzk hzm
            go_wp2_with (go_at_call 23; refine cc.mono ?_; rintro e w8 ⟨rfl, p8, o8⟩; have M8 := Lib.hid (M7.out.step p8 o8); clear p8 o8)
            go_ret
            exact ⟨rfl, M8.out.b⟩
          · have z3 : decide (z < 0) = false := by simp; omega
            have hz2 : 2 < z := by
              rcases Int.lt_or_le 2 z with h | h
              · exact h
              · exact absurd (show keepOk z by unfold keepOk; omega) hzk
            have z4 : decide (2 < z) = true := by simp; omega
            clear hbad hzk hzm
            go_wp2_with (go_at_call 23; refine cc.mono ?_; rintro e w8 ⟨rfl, p8, o8⟩; have M8 := Lib.hid (M7.out.step p8 o8); clear p8 o8)
            go_ret
            exact ⟨rfl, M8.out.b⟩
      · obtain rfl : k = nk := by omega
        have hall : ∀ z ∈ ks, keepOk z := fun z hz => by
          obtain ⟨j, hj⟩ := List.getElem?_of_mem hz
          have hjl : j < ks.length := (List.getElem?_eq_some_iff.1 hj).1
          have := hok j (by rw [HKL.out] at hjl; exact hjl)
          rw [List.getD_eq_getElem?_getD, hj] at this
          exact this
        have hnl : ¬ (wrPend [] 6 z1).length < ks.length := by rw [HKL.out]; have := HNK.out; omega
        have hE : crashE ⟨L4, wrPend [] 6 z1, false, -1, cB, wrap64 (0 + 1)⟩ ks = 0 := by unfold crashE; rw [if_neg hnl, if_pos hall]
        obtain ⟨L8, hL8⟩ : ∃ L, L = layAll L4 (wrPend [] 6 z1) ks := ⟨_, rfl⟩
        have hS : crashS ⟨L4, wrPend [] 6 z1, false, -1, cB, wrap64 (0 + 1)⟩ ks = ⟨L8, [], false, -1, cB, wrap64 (0 + 1)⟩ := by unfold crashS; rw [if_neg hnl, if_pos hall, hL8]
        rw [hE, hS] at cc
        have HL8 := Lib.hid hL8
        clear hok hall hnl hE hS hL8 ksw
        go_upto_region 22 with (first
          | (go_at_call 23; refine cc.mono ?_; rintro e w8 ⟨rfl, p8, o8⟩; have M8 := Lib.hid (M7.out.step p8 o8); have R8 := Lib.hid (R7.out.step o8 (F' := fun j => Gr F6 w7 j ∧ j < w8.heap.size) (fun j h => h.1)); have Q8 := Lib.hid (Q7.out.step o8 (F' := fun j => Gr F6 w7 j ∧ j < w8.heap.size) (fun j h => h.1)); clear p8 o8 cc)
          | (go_at_call 22; refine (dpending M8.out.pd (by show 0 < _; omega)).mono ?_; rintro e w9 ⟨Lq, Gq, hE, -, b9⟩; obtain rfl : e = .returned (.slice (some ⟨w8.heap.size, 0, none⟩) 0 0) := hE; have M9 := Lib.hid (M8.out.below b9); have R9 := Lib.hid (R8.out.step (Out.of_below b9 _) (fun j h => .inl h)); have Q9 := Lib.hid (Q8.out.step (Out.of_below b9 _) (fun j h => .inl h)); clear b9 M8 R8 Q8)
          | (go_at_call 24; refine (poff M9.out.pd).mono ?_; rintro e w' ⟨hE, rfl⟩; obtain rfl : e = .returned (.bool false) := hE))
        have hAl := R9.out.own.1
        have hBl := Q9.out.own.1
        have HAL := Lib.hid (show vsA.length = 6 by omega)
        have HBL := Lib.hid (show vsB.length = 6 by omega)
        clear hAl hBl
        go_wp2
        go_loopw [14, 15, 16, 17, 97] (fun _ _ _ _ i wr => ∃ j : Nat, i = .int .i64 (j : Nat) ∧ j ≤ 6 ∧ LM w wr d ⟨L8, [], false, -1, cB, wrap64 (0 + 1)⟩ (fun j => Gr F6 w7 j ∧ j < w8.heap.size) ∧ LRow (fun j => Gr F6 w7 j ∧ j < w8.heap.size) wr gA 6 (wrLast (nones 6) 6 z0) vsA ∧ LRow (fun j => Gr F6 w7 j ∧ j < w8.heap.size) wr gB 6 (wrLast (nones 6) 6 z1) vsB) (fun _ _ _ _ i _ => 6 - (intOf i).toNat)
        case atStart => exact ⟨0, rfl, Nat.zero_le _, M9.out, R9.out, Q9.out⟩
        case round =>
          obtain ⟨j, rfl, hj, M, RA, RBw⟩ := hrel
          by_cases hj6 : j < 6
          · obtain ⟨q, hq1, hq2⟩ := wr_last 6 z0 j hj6
            rw [← HL4.out] at hq2
            obtain ⟨vA, hvA⟩ : ∃ v, vsA[j]? = some v := ⟨_, List.getElem?_eq_getElem (by rw [HAL.out]; exact hj6)⟩
            obtain ⟨vB, hvB⟩ : ∃ v, vsB[j]? = some v := ⟨_, List.getElem?_eq_getElem (by rw [HBL.out]; exact hj6)⟩
            obtain ⟨qB, hqB⟩ : ∃ v, (wrLast (nones 6) 6 z1)[j]? = some v := ⟨_, List.getElem?_eq_getElem (by rw [wrLast_len]; simp [nones]; exact hj6)⟩
            have lvA := RA.at_ j q vA hq1 hvA
            have lvB := RBw.at_ j qB vB hqB hvB
            have cA1 : wr.cell? ⟨gA, j, none⟩ = some vA := (RA.own.cellAt j (by omega)).trans hvA
            have cB1 : wr.cell? ⟨gB, j, none⟩ = some vB := (RBw.own.cellAt j (by omega)).trans hvB
            have hji : (j : Int) < 6 := by omega
            have HJ := Lib.hid hj6
            have hrd : qB = none → readB ⟨L8, [], false, -1, cB, wrap64 (0 + 1)⟩ (j : Int) = (q.getD zero64, 0) := fun hn => by
              subst hn
              refine read_clean (c := ⟨q.getD zero64, false⟩) rfl rfl ?_ rfl
              show L8[j]? = _
              rw [HL8.out, layAll_other j _ _ _ (fun x hx he => wr_none 6 z1 x hx (by rw [he]; exact hqB))]
              exact hq2
            have HRD := Lib.hid hrd
            have MH := Lib.hid M
            have RAH := Lib.hid RA
            have RBH := Lib.hid RBw
            clear hq1 hq2 hvA hvB hqB hrd RA RBw
            have hn1 := nil_is
            have hn2 := nil_isnt
            cases q with
            | none =>
              obtain rfl : vA = .slice none 0 0 := lvA
              have hmk := run_make_bytes wr 64 64 (by omega) (by omega) (by omega)
              have rz := rb_zeros wr 64 (by omega)
              have bz : Below wr.heap.size wr (wr.alloc (.cells (madeCells #[.int .u8 0] 64) 5)) := (Below.refl _ _).alloc (Nat.le_refl _) _
              have cB2 : (wr.alloc (.cells (madeCells #[.int .u8 0] 64) 5)).cell? ⟨gB, j, none⟩ = some vB := keep_below cB1 bz
              rw [show (64 : Int).toNat = 64 from rfl] at hmk
              generalize wr.alloc (.cells (madeCells #[.int .u8 0] 64) 5) = W1 at hmk rz bz cB2
              have M1 := Lib.hid (MH.out.below bz)
              have RA1 := Lib.hid (RAH.out.step (Out.of_below bz _) (F' := fun j => Gr F6 w7 j ∧ j < w8.heap.size) (fun j h => .inl h))
              have RB1 := Lib.hid (RBH.out.step (Out.of_below bz _) (F' := fun j => Gr F6 w7 j ∧ j < w8.heap.size) (fun j h => .inl h))
              have cr := dread M1.out.pd (j : Int) (by show 0 < _; omega)
              cases qB with
              | none =>
                obtain rfl : vB = .slice none 0 0 := lvB
                rw [HRD.out rfl] at cr
                clear bz M
                go_wp2_with (first
                  | (go_at_call 25; refine cr.mono ?_; rintro e w2' (⟨hne, -, -, -⟩ | ⟨-, hb64, rfl, hw⟩); exact absurd rfl hne; have bb : Below W1.heap.size W1 w2' := (by rw [hw]; exact (Below.refl _ _).alloc (Nat.le_refl _) _); have rr : RB w2' (some ⟨W1.heap.size, 0, none⟩) 64 zero64 := (by rw [hw]; exact rb_head (r := []) hb64 (by rw [List.append_nil]; exact heap_alloc_new _ _)); have cB3 := keep_below cB2 bb; have rz2 := rz.below' bb; have M2' := Lib.hid (M1.out.below bb); have RA2 := Lib.hid (RA1.out.step (Out.of_below bb _) (F' := fun j => Gr F6 w7 j ∧ j < w8.heap.size) (fun j h => .inl h)); have RB2 := Lib.hid (RB1.out.step (Out.of_below bb _) (F' := fun j => Gr F6 w7 j ∧ j < w8.heap.size) (fun j h => .inl h)); clear cr hw bb)
                  | (go_at_call 26; refine (lalike 64 64 rr rz2).mono ?_; rintro e w' ⟨hE, rfl⟩; obtain rfl : e = .returned (.bool true) := hE))
                go_roundw
                case rel => exact ⟨j + 1, by go_num, HJ.out, M2'.out, RA2.out, RB2.out⟩
                case measure => simp [intOf]; omega
              | some zb =>
                obtain ⟨gb, cb', rfl, -, -⟩ := lvB
                clear bz M
                go_wp2_with (go_at_call 25; refine (read_any cr).mono ?_; rintro e w2' ⟨vr, cc', rfl, bb⟩; have cB3 := keep_below cB2 bb; have M2' := Lib.hid (M1.out.below bb); have RA2 := Lib.hid (RA1.out.step (Out.of_below bb _) (F' := fun j => Gr F6 w7 j ∧ j < w8.heap.size) (fun j h => .inl h)); have RB2 := Lib.hid (RB1.out.step (Out.of_below bb _) (F' := fun j => Gr F6 w7 j ∧ j < w8.heap.size) (fun j h => .inl h)); clear cr bb)
                go_roundw
                case rel => exact ⟨j + 1, by go_num, HJ.out, M2'.out, RA2.out, RB2.out⟩
                case measure => simp [intOf]; omega
            | some za =>
              obtain ⟨ga, ca', rfl, rza, -⟩ := lvA
              have cr := dread MH.out.pd (j : Int) (by show 0 < _; omega)
              cases qB with
              | none =>
                obtain rfl : vB = .slice none 0 0 := lvB
                rw [HRD.out rfl] at cr
                clear M
                go_wp2_with (first
                  | (go_at_call 25; refine cr.mono ?_; rintro e w2' (⟨hne, -, -, -⟩ | ⟨-, hb64, rfl, hw⟩); exact absurd rfl hne; have bb : Below wr.heap.size wr w2' := (by rw [hw]; exact (Below.refl _ _).alloc (Nat.le_refl _) _); have rr : RB w2' (some ⟨wr.heap.size, 0, none⟩) 64 za := (by rw [hw]; exact rb_head (r := []) hb64 (by rw [List.append_nil]; exact heap_alloc_new _ _)); have cB3 := keep_below cB1 bb; have rz2 := rza.below' bb; have M2' := Lib.hid (MH.out.below bb); have RA2 := Lib.hid (RAH.out.step (Out.of_below bb _) (F' := fun j => Gr F6 w7 j ∧ j < w8.heap.size) (fun j h => .inl h)); have RB2 := Lib.hid (RBH.out.step (Out.of_below bb _) (F' := fun j => Gr F6 w7 j ∧ j < w8.heap.size) (fun j h => .inl h)); clear cr hw bb)
                  | (go_at_call 26; refine (lalike 64 ca' rr rz2).mono ?_; rintro e w' ⟨hE, rfl⟩; obtain rfl : e = .returned (.bool true) := (by rw [hE]; simp)))
                go_roundw
                case rel => exact ⟨j + 1, by go_num, HJ.out, M2'.out, RA2.out, RB2.out⟩
                case measure => simp [intOf]; omega
              | some zb =>
                obtain ⟨gb, cb', rfl, -, -⟩ := lvB
                clear M
                go_wp2_with (go_at_call 25; refine (read_any cr).mono ?_; rintro e w2' ⟨vr, cc', rfl, bb⟩; have cB3 := keep_below cB1 bb; have M2' := Lib.hid (MH.out.below bb); have RA2 := Lib.hid (RAH.out.step (Out.of_below bb _) (F' := fun j => Gr F6 w7 j ∧ j < w8.heap.size) (fun j h => .inl h)); have RB2 := Lib.hid (RBH.out.step (Out.of_below bb _) (F' := fun j => Gr F6 w7 j ∧ j < w8.heap.size) (fun j h => .inl h)); clear cr bb)
                go_roundw
                case rel => exact ⟨j + 1, by go_num, HJ.out, M2'.out, RA2.out, RB2.out⟩
                case measure => simp [intOf]; omega
          · obtain rfl : j = 6 := by omega
            go_wp2
            go_ret
            exact ⟨rfl, M.b⟩
end Go.Proofs.Ytfeoihnjfngmpaa
