/- The walk of DiskDoes: true whatever comes in. -/
import Derived.Test.YtapjgancaldgaaaRStep
import Derived.Test.YtapjgancaldgaaaDClone
namespace Go.Proofs.Ytapjgancaldgaaa
set_option maxRecDepth 100000
open Go.RowKit

/-- The disks that the law goes on with, and the one that it left. -/
structure OldD (w wr : World) (d p : Nat) (S : St) (F G : Nat → Prop) (o : Nat) (T : St) (H : Nat → Prop) : Prop where
  bl : BL w wr d p S S F G
  pd : PD H wr o T
  disF : ∀ k, F k → ¬ H k
  disG : ∀ k, G k → ¬ H k
  hl : ∀ k, H k → w.heap.size ≤ k
  hlt : ∀ k, H k → k < wr.heap.size
theorem BL.out {w wr w' : World} {d p : Nat} {S T : St} {F G H : Nat → Prop} (h : BL w wr d p S T F G) (ho : Out H wr w') (h1 : ∀ k, F k → ¬ H k) (h2 : ∀ k, G k → ¬ H k) (h3 : ∀ k, H k → w.heap.size ≤ k) : BL w w' d p S T F G :=
  ⟨⟨h.bm.a.stays (fun k hk hf => ho.block k hk (h1 k hf)), h.bm.b.stays (fun k hk hg => ho.block k hk (h2 k hg)) ho.size, h.bm.dis, fun k hf => Nat.lt_of_lt_of_le (h.bm.flt k hf) ho.size, fun k hf => Nat.lt_of_lt_of_le (h.bm.glt k hf) ho.size⟩,
    h.fl, h.gl, h.b.trans (ho.below h.b.size (fun i hi hf => by have := h3 i hf; omega))⟩
theorem OldD.step {w wr w' : World} {d p : Nat} {S : St} {F G : Nat → Prop} {o : Nat} {T T' : St} {H : Nat → Prop} (h : OldD w wr d p S F G o T H) (hp : PD (Gr H wr) w' o T') (ho : Out H wr w') : OldD w w' d p S F G o T' (fun j => Gr H wr j ∧ j < w'.heap.size) :=
  ⟨h.bl.out ho h.disF h.disG h.hl, hp.shut, fun k hf hk => by
    rcases hk.1 with h1 | h1
    · exact h.disF k hf h1
    · have := h.bl.bm.flt k hf; omega, fun k hf hk => by
    rcases hk.1 with h1 | h1
    · exact h.disG k hf h1
    · have := h.bl.bm.glt k hf; omega, fun k hk => by
    rcases hk.1 with h1 | h1
    · exact h.hl k h1
    · exact Nat.le_trans h.bl.b.size h1, fun k hk => hk.2⟩
theorem OldD.alloc {w wr : World} {d p : Nat} {S : St} {F G : Nat → Prop} {o : Nat} {T : St} {H : Nat → Prop} (h : OldD w wr d p S F G o T H) (x : Obj) : OldD w (wr.alloc x) d p S F G o T H :=
  ⟨h.bl.alloc x, h.pd.alloc x, h.disF, h.disG, h.hl, fun k hk => Nat.lt_of_lt_of_le (h.hlt k hk) (by simp)⟩
theorem old_clone {w wr w' : World} {d p d2 : Nat} {S : St} {F G : Nat → Prop} (h : BL w wr d p S S F G) (hp : PD (fun k => wr.heap.size ≤ k) w' d2 S) (hb : Below wr.heap.size wr w') : OldD w w' d2 p S (fun k => wr.heap.size ≤ k ∧ k < w'.heap.size) G d S F :=
  ⟨⟨⟨hp.shut, h.bm.b.stays (fun k hk _ => hb.block k hk) hb.size, fun k h1 h2 => by have := h.bm.glt k h2; omega, fun k hk => hk.2, fun k hk => Nat.lt_of_lt_of_le (h.bm.glt k hk) hb.size⟩, fun k hk => Nat.le_trans h.b.size hk.1, h.gl, h.b.trans (hb.mono h.b.size)⟩,
    h.bm.a.below hb, fun k h1 h2 => by have := h.bm.flt k h2; omega, fun k h1 h2 => h.bm.dis k h2 h1, h.fl, fun k hk => Nat.lt_of_lt_of_le (h.bm.flt k hk) hb.size⟩
theorem rb_zero_new (w : World) : RB (w.alloc (.cells (madeCells #[.int .u8 0] 64) 5)) (some ⟨w.heap.size, 0, none⟩) 64 zero64 := by
  have h := (show Row _ _ zero64 from row_made w 64).rb b64_zero.byte
  rw [b64_zero.len] at h
  exact h
theorem write_pend (S : St) (n : Int) (zs : List Int) : (writeS S n zs).pend.length ≤ S.pend.length + 1 := step_pend S ⟨0, n, none, 0, 0, zs, none, 0, 0, []⟩
theorem plan_pend (S : St) (n : Int) : (planS S n).pend.length ≤ S.pend.length + 1 := step_pend S ⟨2, n, none, 0, 0, [], none, 0, 0, []⟩

set_option maxHeartbeats 8000000 in
theorem walk_DiskDoes (a0 : Int) (A1 : Option Addr) (n1 c1 : Nat) (z1 : List OpD) (w : World) (ha0 : -9223372036854775808 ≤ a0 ∧ a0 ≤ 9223372036854775807) (h1 : RO w A1 n1 z1) (hn1 : n1 ≤ c1) (hc1 : c1 ≤ 2199023255488) :
    Calls Try.prog 3 #[.int .i64 a0, .slice A1 n1 c1] w fun e w' => e = .returned (.bool true) ∧ Below w.heap.size w w' := by
  have H1 := Lib.hid h1
  clear h1
  by_cases hin : 1 ≤ a0 ∧ a0 ≤ 16384
  · obtain ⟨m, rfl⟩ := Int.eq_ofNat_of_zero_le (show 0 ≤ a0 by omega)
    have HM1 := Lib.hid (show 1 ≤ m by omega)
    have HM2 := Lib.hid (show m ≤ 16384 by omega)
    clear hin
    go_enter Try.func3, Try.ntmps3
    go_upto_region 3 with (first
      | (go_at_call 14; go_loud (refine (dnew w (m : Int) (by omega)).mono ?_; rintro e w2 (⟨h, -, -⟩ | ⟨-, d, rfl, hp, b2⟩); exact absurd (by have := HM1.out; have := HM2.out; omega) h; rw [Int.toNat_natCast] at hp; have P2 := Lib.hid hp; have B2 := Lib.hid b2; clear hp b2))
      | (go_at_call 15; go_loud (refine (rnew_at w2 m HM1.out HM2.out).mono ?_; rintro e w3 ⟨gd, cd, gt, ct, rfl, b3, hr⟩; have M4' := Lib.hid (bl_new (Below.refl _ _) P2.out B2.out b3 hr); clear b3 hr P2 B2)))
    obtain ⟨w4, hw4⟩ : ∃ W, (w3.alloc (.cells #[.bool true, .bool false, .int .i64 (-1), .slice (some ⟨gd, 0, none⟩) m cd, .slice (some ⟨gt, 0, none⟩) m ct, .slice none 0 0, .int .i64 0, .int .i64 0] 31)) = W := ⟨_, rfl⟩
    rw [hw4] at M4' ⊢
    obtain ⟨pp, hpp⟩ : ∃ pp, pp = w3.heap.size := ⟨_, rfl⟩
    rw [← hpp] at M4' ⊢
    have M4 := M4'
    clear hw4 M4' hpp
    go_upto_region 8 with fail
    go_loopw [5, 36] (fun dv i wr => ∃ (k d : Nat) (S : St) (F G : Nat → Prop), dv = .pointer (some ⟨d, 0, none⟩) ∧ i = .int .i64 (k : Nat) ∧ k ≤ n1 ∧ BL w wr d pp S S F G ∧ S.pend.length ≤ k) (fun _ i _ => n1 - (intOf i).toNat)
    case atStart => exact ⟨0, d, newS m, _, _, rfl, rfl, Nat.zero_le _, M4.out, by simp [newS]⟩
    case round =>
      clear M4
      obtain ⟨k, d, S, F, G, rfl, rfl, hk, hM, hP⟩ := hrel
      by_cases hlt : k < n1
      · obtain ⟨b, o, x, rfl, hx, hxis, hrow⟩ := H1.out.at_ hM.b hlt
        have HR := Lib.hid hrow
        have HI := Lib.hid (show (Try.prog.info? 37).map (·.size) = some [Value.int .i64 x.do_, .int .i64 x.n, .slice x.A1 x.n1 x.c1, .slice x.A2 x.n2 x.c2].length by rfl)
        have hki : (k : Int) < (n1 : Int) := by omega
        have HK := Lib.hid hlt
        have HPL := Lib.hid (show S.pend.length < 2199023255488 by omega)
        have HP := Lib.hid hP
        have HX := Lib.hid hxis
        obtain ⟨W1, hW1⟩ : ∃ W, wr.alloc (.cells #[.int .i64 x.do_, .int .i64 x.n, .slice x.A1 x.n1 x.c1, .slice x.A2 x.n2 x.c2] 37) = W := ⟨_, rfl⟩
        have q0 : W1.heap[wr.heap.size]? = some (.cells #[.int .i64 x.do_, .int .i64 x.n, .slice x.A1 x.n1 x.c1, .slice x.A2 x.n2 x.c2] 37 (0, 0)) := by rw [← hW1]; exact heap_alloc_new _ _
        have HL1 := Lib.hid (show wr.heap.size < W1.heap.size from (Array.getElem?_eq_some_iff.1 q0).1)
        have N1 := Lib.hid (show BL w W1 d pp S S F G by rw [← hW1]; exact hM.alloc _)
        have HFF := Lib.hid (show ¬ F wr.heap.size from fun hf => by have := hM.bm.flt _ hf; omega)
        have a0_ : W1.cell? ⟨wr.heap.size, 0, none⟩ = some (.int .i64 x.do_) := by rw [cell_of_row _ _ _ _ _ _ q0]; rfl
        have a1_ : W1.cell? ⟨wr.heap.size, 1, none⟩ = some (.int .i64 x.n) := by rw [cell_of_row _ _ _ _ _ _ q0]; rfl
        have a2_ : W1.cell? ⟨wr.heap.size, 2, none⟩ = some (.slice x.A1 x.n1 x.c1) := by rw [cell_of_row _ _ _ _ _ _ q0]; rfl
        have a3_ : W1.cell? ⟨wr.heap.size, 3, none⟩ = some (.slice x.A2 x.n2 x.c2) := by rw [cell_of_row _ _ _ _ _ _ q0]; rfl
        have HQ := Lib.hid q0
        by_cases h9 : x.do_ = 9
        · have CL := Lib.hid (pclone N1.out.bm.a (by have := HPL.out; omega))
          have hmk : ∀ w, (Instr.makeSlice 34 (.int .i64 64) (.int .i64 64)).run Try.prog w = .ok (.slice (some ⟨w.heap.size, 0, none⟩) 64 64) (w.alloc (.cells (madeCells #[.int .u8 0] 64) 5)) := fun w => run_make_bytes w 64 64 (by omega) (by omega) (by omega)
          have H9 := Lib.hid h9
          have h9' : (x.do_ == 9) = true := by simp [h9]
          clear hrow hx hM hP q0 hxis hlt h9
          go_wp2_with (first
            | (with_reducible refine wpList_load_mid rfl 37 (.tmp 38) rfl b (o + k * 4) rfl [.int .i64 x.do_, .int .i64 x.n, .slice x.A1 x.n1 x.c1, .slice x.A2 x.n2 x.c2] _ HR.out Try.underlying37 rfl HI.out ?_)
            | (go_at_call 16; go_loud (refine CL.out.mono ?_; rintro e w5 ⟨d2, rfl, p5, b5⟩; have O5 := Lib.hid (old_clone N1.out p5 b5); have L5 := Lib.hid (show wr.heap.size < w5.heap.size from Nat.lt_of_lt_of_le HL1.out b5.size); have s0_ := keep_below a0_ b5; have s1_ := keep_below a1_ b5; have s2_ := keep_below a2_ b5; have s3_ := keep_below a3_ b5; clear p5 b5 CL))
            | (go_at_call 17; go_loud (obtain ⟨W6, hW6⟩ : ∃ W, w5.alloc (.cells (madeCells #[.int .u8 0] 64) 5) = W := ⟨_, rfl⟩; have O6 := Lib.hid (show OldD w W6 d2 pp S _ G d S F by rw [← hW6]; exact O5.out.alloc _); have B6 := Lib.hid (show Below w5.heap.size w5 W6 by rw [← hW6]; exact (Below.refl _ _).alloc (Nat.le_refl _) _); have R6 := Lib.hid (show RB W6 (some ⟨w5.heap.size, 0, none⟩) 64 zero64 by rw [← hW6]; exact rb_zero_new w5); rw [hW6]; have CW := dwriteW O6.out.pd 0 (some ⟨w5.heap.size, 0, none⟩) 64 64 zero64 R6.out (fun ad e _ hf => by cases e; have := O5.out.hlt _ hf; simp at this) (Nat.le_refl _) (by have := HPL.out; omega); refine CW.mono ?_; rintro e w7 ⟨rfl, p7, o7⟩; have O7 := Lib.hid (O6.out.step p7 o7); have NF := HFF.out; have S7 := Lib.hid o7.size; have t0_ := o7.cell (keep_below s0_ B6.out) NF; have t1_ := o7.cell (keep_below s1_ B6.out) NF; have t2_ := o7.cell (keep_below s2_ B6.out) NF; have t3_ := o7.cell (keep_below s3_ B6.out) NF; clear p7 o7 CW NF hW6))
            | (go_at_call 18; go_loud (have CP := pplan O7.out.pd 0 (by omega); refine CP.mono ?_; rintro e w8 ⟨rfl, p8, o8⟩; have O8 := Lib.hid (O7.out.step p8 o8); have NF := (show ¬ (fun j => Gr F W6 j ∧ j < w7.heap.size) wr.heap.size from fun hf => by
                rcases hf.1 with h | h
                · exact HFF.out h
                · have := B6.out.size; have := L5.out; omega); have S8 := Lib.hid o8.size; have u0_ := o8.cell t0_ NF; have u1_ := o8.cell t1_ NF; have u2_ := o8.cell t2_ NF; have u3_ := o8.cell t3_ NF; have NF8 := Lib.hid NF; clear p8 o8 CP NF))
            | (go_at_call 19; go_loud (have CY := dsync O8.out.pd (by have h1 := plan_pend (writeS S 0 zero64) 0; have h2 := write_pend S 0 zero64; have := HPL.out; omega); refine CY.mono ?_; rintro e w9 ⟨rfl, p9, o9⟩; have O9 := Lib.hid (O8.out.step p9 o9); have NF := (show ¬ (fun j => Gr (fun j => Gr F W6 j ∧ j < w7.heap.size) w7 j ∧ j < w8.heap.size) wr.heap.size from fun hf => by
                rcases hf.1 with h | h
                · exact NF8.out h
                · have := B6.out.size; have := L5.out; have := S7.out; omega); have v0_ := o9.cell u0_ NF; have v1_ := o9.cell u1_ NF; have v2_ := o9.cell u2_ NF; have v3_ := o9.cell u3_ NF; clear p9 o9 CY NF))
            | (go_at_call 20; go_loud (refine (lstep O9.out.bl (by have := HPL.out; omega) x HX.out).mono ?_; rintro e w10 ⟨rfl, F10, G10, m10⟩; have M10 := Lib.hid m10; clear m10)))
          go_roundw
          case rel => exact ⟨k + 1, d2, _, _, _, rfl, by go_num, HK.out, M10.out, Nat.le_trans (step_pend S x) (Nat.succ_le_succ HP.out)⟩
          case measure => have := HK.out; simp [intOf]; omega
        · have h9' : (x.do_ == 9) = false := by simpa using h9
          have CS := Lib.hid (lstep N1.out (by have := HPL.out; omega) x hxis)
          clear hrow hx hM hP q0 hxis hlt h9
          go_wp2_with (first
            | (with_reducible refine wpList_load_mid rfl 37 (.tmp 38) rfl b (o + k * 4) rfl [.int .i64 x.do_, .int .i64 x.n, .slice x.A1 x.n1 x.c1, .slice x.A2 x.n2 x.c2] _ HR.out Try.underlying37 rfl HI.out ?_)
            | (go_at_call 20; go_loud (refine CS.out.mono ?_; rintro e w6 ⟨rfl, F6, G6, m6⟩; have M6 := Lib.hid m6; clear m6 CS)))
          go_roundw
          case rel => exact ⟨k + 1, d, _, _, _, rfl, by go_num, HK.out, M6.out, Nat.le_trans (step_pend S x) (Nat.succ_le_succ HP.out)⟩
          case measure => have := HK.out; simp [intOf]; omega
      · obtain rfl : k = n1 := by omega
        have CI := Lib.hid (limages hM.bm (by omega))
        have HB := Lib.hid hM.b
        clear hM hP hlt
        go_wp2_with (go_at_call 21; go_loud (refine CI.out.mono ?_; rintro e w8 ⟨rfl, b8⟩; have B8 := Lib.hid (HB.out.trans (b8.mono HB.out.size)); clear b8))
        go_ret
        exact ⟨rfl, B8.out⟩
  · go_enter Try.func3, Try.ntmps3
    go_wp2_with (first
      | (go_at_call 14; go_loud (refine (dnew w a0 ha0).mono ?_; rintro e w2 (⟨-, rfl, rfl⟩ | ⟨h, -⟩); rotate_left; exact absurd h hin; skip))
      | (go_at_call 15; go_loud (refine (rnew_no _ a0 ha0 hin).mono ?_; rintro e w3 ⟨rfl, b3⟩; have B3 := Lib.hid b3; clear b3)))
    go_ret
    exact ⟨rfl, B3.out.alloc B3.out.size _⟩
end Go.Proofs.Ytapjgancaldgaaa
