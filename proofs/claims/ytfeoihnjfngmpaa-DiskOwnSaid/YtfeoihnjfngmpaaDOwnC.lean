/- What DiskOwn asks, over plain lists; its writes. -/
import Derived.Test.YtfeoihnjfngmpaaDOwnB
import Derived.Test.YtfeoihnjfngmpaaDiskLastsWalk
namespace Go.Proofs.Ytfeoihnjfngmpaa
open Go.RowKit

theorem LM.far {w wr wr' : World} {d : Nat} {S : St} {F G : Nat → Prop} (h : LM w wr d S F) (ho : Out G wr wr') (hG : ∀ j, G j → ¬ F j ∧ w.heap.size ≤ j) : LM w wr' d S F :=
  ⟨h.pd.out ho (fun k _ hf hg => (hG k hg).1 hf), fun j hj => ⟨(h.fs j hj).1, Nat.lt_of_lt_of_le (h.fs j hj).2 ho.size⟩, h.b.trans (ho.below h.b.size (fun i hi hg => by have := (hG i hg).2; omega))⟩
theorem LM.over {w wr wr' : World} {d : Nat} {S : St} {F : Nat → Prop} {B : Nat} (h : LM w wr d S F) (hb : Below B wr wr') (hF : ∀ j, F j → j < B) (hB : w.heap.size ≤ B) : LM w wr' d S F :=
  ⟨h.pd.stays (fun k _ hf => hb.block k (hF k hf)), fun j hj => ⟨(h.fs j hj).1, Nat.lt_of_lt_of_le (h.fs j hj).2 hb.size⟩, h.b.trans (hb.mono hB)⟩
theorem OB.far {base : Nat} {w : World} {v : Value} {zs : List Int} (h : OB base w v zs) : ∃ A c, v = .slice A zs.length c ∧ RB w A zs.length zs ∧ zs.length ≤ c ∧ ∀ ad, A = some ad → v.ownBlock = some ad.block := by
  obtain ⟨A, c, e, hr, hc, _⟩ := h.form
  refine ⟨A, c, e, hr, hc, fun ad ea => ?_⟩
  rcases h.own.2 with ⟨e2, _⟩ | ⟨g, cap, cur, e2, hb, _⟩
  · rw [e] at e2; injection e2 with e2; rw [e2] at ea; cases ea
  · rw [e] at e2; injection e2 with e2; rw [e2] at ea; cases ea; rw [e, e2]; rfl
structure OwnS (S : St) : Prop where
  off : S.off = false
  plan : S.plan = -1
  len : S.last.length = 2
  pend : S.pend.length ≤ 2
theorem own_write {w wr : World} {d : Nat} {S : St} {F : Nat → Prop} (M : LM w wr d S F) (hS : OwnS S) (hp : S.pend.length ≤ 1) (n : Nat) (hn : n < 2) (base : Nat) (v : Value) (zs : List Int) (ho : OB base wr v zs) (hb : ∀ k, v.ownBlock = some k → ¬ F k) :
    Calls Try.prog 13 #[.pointer (some ⟨d, 0, none⟩), .int .i64 (n : Int), v] wr fun e w' => e = .returned (.int .i64 (if zs.length = 64 then 0 else 21)) ∧ Out F wr w' ∧ ∃ S' F', LM w w' d S' F' ∧ OwnS S' ∧ S'.pend.length ≤ S.pend.length + 1 ∧ ∀ j, F' j → F j ∨ wr.heap.size ≤ j := by
  obtain ⟨A, c, rfl, hr, hc, hA⟩ := ho.far
  refine (dwriteW M.pd (n : Int) A zs.length c zs hr (fun ad e _ hf => hb _ (hA ad e) hf) hc (by omega)).mono ?_
  rintro e w' ⟨rfl, hp', ho'⟩
  have hl : 0 ≤ (n : Int) ∧ (n : Int) < (S.last.length : Int) := by rw [hS.len]; omega
  by_cases h64 : zs.length = 64
  · obtain ⟨e1, e2⟩ := writeS_ok (S := S) hS.off hS.plan hl h64
    rw [e1] at hp'
    rw [e2, if_pos h64]
    exact ⟨rfl, ho', _, _, M.step hp' ho', ⟨hS.off, hS.plan, hS.len, by simp; omega⟩, by simp, fun j hj => hj.1⟩
  · have e1 : writeS S (n : Int) zs = S := by unfold writeS; simp [hS.off, hl, h64]
    have e2 : writeE S (n : Int) zs.length = 21 := by unfold writeE; simp [hS.off, hl, h64]
    rw [e1] at hp'
    rw [e2, if_neg h64]
    exact ⟨rfl, ho', _, _, M.step hp' ho', hS, by omega, fun j hj => hj.1⟩

theorem own_new : OwnS (newS 2) := ⟨rfl, rfl, rfl, by simp [newS]⟩
theorem own_lay (z0 z1 : List Int) : layAll (newL 2) [⟨0, z0⟩, ⟨1, z1⟩] (ones 2) = [⟨z0, false⟩, ⟨z1, false⟩] := by
  simp [layAll, ones, settleL, newL, List.replicate]
theorem own_read0 (z0 z1 : List Int) (c s : Int) : readB ⟨newL 2, [⟨0, z0⟩, ⟨1, z1⟩], false, -1, c, s⟩ 0 = (z0, 0) := by
  simp [readB, lastW, newL]
theorem own_read1 (z0 z1 : List Int) (c s : Int) : readB ⟨newL 2, [⟨0, z0⟩, ⟨1, z1⟩], false, -1, c, s⟩ 1 = (z1, 0) := by
  simp [readB, lastW, newL]
theorem own_clean1 (z0 z1 : List Int) (c s : Int) : readB ⟨[⟨z0, false⟩, ⟨z1, false⟩], [], false, -1, c, s⟩ 1 = (z1, 0) := by
  simp [readB, lastW]
theorem own_img (z0 z1 : List Int) : imgB [⟨z0, false⟩, ⟨z1, false⟩] = z0 ++ z1 := by simp [imgB]
theorem own_good {z0 z1 : List Int} (h0 : z0.length = 64) (h1 : z1.length = 64) : loadGood (z0 ++ z1) [] := by
  unfold loadGood
  simp [h0, h1]
theorem own_load0 {z0 z1 : List Int} (h0 : z0.length = 64) (h1 : z1.length = 64) : readB (loadS (z0 ++ z1) []) 0 = (z0, 0) := by
  have e : (z0 ++ z1).length / 64 = 2 := by simp [h0, h1]
  have h : loadS (z0 ++ z1) [] = ⟨[⟨z0, false⟩, ⟨z1, false⟩], [], false, -1, 0, 0⟩ := by
    have p0 : part64 (z0 ++ z1) 0 = z0 := by unfold part64; simp [h0]
    have p1 : part64 (z0 ++ z1) 1 = z1 := by unfold part64; simp [h0, List.take_of_length_le (show z1.length ≤ 64 by omega)]
    unfold loadS
    rw [e]
    simp [tearAll, loadL, List.range_succ, p0, p1]
  rw [h]
  simp [readB, lastW]
theorem notGr {F : Nat → Prop} {w w' : World} {g : Nat} (h : ¬ F g) (hl : g < w.heap.size) : ¬ (Gr F w g ∧ g < w'.heap.size) := by
  rintro ⟨h1 | h1, _⟩
  · exact h h1
  · omega

set_option maxRecDepth 100000 in
set_option maxHeartbeats 2000000 in
/-- Not both are blocks. -/
theorem walk_DiskOwnNot (A0 : Option Addr) (n0 c0 : Nat) (z0 : List Int) (A1 : Option Addr) (n1 c1 : Nat) (z1 : List Int) (w : World) (h0 : RB w A0 n0 z0) (hn0 : n0 ≤ c0) (hc0 : c0 ≤ 140737488351232) (h1 : RB w A1 n1 z1) (hn1 : n1 ≤ c1) (hc1 : c1 ≤ 140737488351232) (hno : ¬ (n0 = 64 ∧ n1 = 64)) :
    Calls Try.prog 8 #[.slice A0 n0 c0, .slice A1 n1 c1] w fun e w' => e = .returned (.bool true) ∧ Below w.heap.size w w' := by
  have HL0 := Lib.hid h0.len
  have HL1 := Lib.hid h1.len
  have HNO := Lib.hid hno
  clear hno
  go_enter Try.func8, Try.ntmps8
  go_upto_region 4 with (go_at_call 10; refine (dnew w 2 (by omega)).mono ?_; rintro e w2 (⟨h, -, -⟩ | ⟨-, d, rfl, hp, b2⟩); exact absurd (by omega) h; have M2 := Lib.hid (show LM w w2 d (newS 2) (fun j => w.heap.size ≤ j ∧ j < w2.heap.size) from ⟨hp.shut, fun j hj => hj, b2⟩); clear hp b2)
  have hmk := run_make_bytes w2 0 ((n0 : Int) + 8) (by omega) (by omega) (by omega)
  have ho0 := ob_made w2 0 (n0 + 8) (by omega) (by omega)
  rw [show ((n0 : Int) + 8).toNat = n0 + 8 by omega] at hmk
  obtain ⟨W0, hW0⟩ : ∃ W, W = w2.alloc (.cells (madeCells #[.int .u8 0] (n0 + 8)) 5) := ⟨_, rfl⟩
  rw [← hW0] at hmk ho0
  have B0 := Lib.hid (show Below w2.heap.size w2 W0 by rw [hW0]; exact (Below.refl _ _).alloc (Nat.le_refl _) _)
  have O0 := Lib.hid ho0
  have M3 := Lib.hid (M2.out.below B0.out)
  have R0 := Lib.hid (h0.below' M3.out.b)
  clear hW0 ho0
  go_upto_region 5 with (at_builtin; refine ob_append rfl (.tmp 29) (.tmp 30) rfl w2.heap.size _ [] rfl O0.out A0 n0 c0 z0 rfl R0.out (by simp; omega) B0.out.size ?_; intro vx w4 hox bx gx; have OX := Lib.hid hox; have BX := Lib.hid bx; clear hox bx gx)
  have HS2 := Lib.hid (show w.heap.size ≤ w2.heap.size from M2.out.b.size)
  have M4 := Lib.hid (M3.out.over BX.out (fun j hj => hj.2) HS2.out)
  have R1 := Lib.hid (h1.below' M4.out.b)
  go_upto_region 6 with (at_builtin; refine ob_append rfl (.const (.slice none 0 0)) (.tmp 32) rfl w4.heap.size _ [] rfl (OB.nil _ _) A1 n1 c1 z1 rfl R1.out (by simp; omega) (Nat.le_refl _) ?_; intro vy w5 hoy by_ gy; have OY := Lib.hid hoy; have BY := Lib.hid by_; clear hoy by_ gy)
  have M5 := Lib.hid (M4.out.below BY.out)
  have OX5 := Lib.hid (show OB w2.heap.size w5 vx z0 by have := OX.out; rw [List.nil_append] at this; exact this.below BY.out)
  have OY5 := Lib.hid (show OB w4.heap.size w5 vy z1 by have := OY.out; rw [List.nil_append] at this; exact this)
  have W24 := Lib.hid (show w2.heap.size ≤ w4.heap.size from Nat.le_trans B0.out.size BX.out.size)
  have cw := own_write M5.out own_new (by simp [newS]) 0 (by omega) _ vx z0 OX5.out (fun k e hf => by have := (OX5.out.lt k e).1; have := hf.2; omega)
  rw [HL0.out] at cw
  obtain ⟨e1, he1⟩ : ∃ e1, e1 = (if n0 = 64 then 0 else 21 : Int) := ⟨_, rfl⟩
  obtain ⟨e2, he2⟩ : ∃ e2, e2 = (if n1 = 64 then 0 else 21 : Int) := ⟨_, rfl⟩
  rw [← he1] at cw
  have HE1 := Lib.hid he1
  have HE2 := Lib.hid he2
  clear he1 he2
  go_upto_region 7 with (first
    | (go_at_call 13; refine cw.mono ?_; rintro e w6 ⟨rfl, o6, S6, F6, m6, os6, op6, f6⟩; have M6 := Lib.hid m6; have OS6 := Lib.hid os6; have OY6 := Lib.hid (OY5.out.stays (w' := w6) (fun j e => o6.block j (OY5.out.lt j e).2 (fun hf => by have := (OY5.out.lt j e).1; have := hf.2; have := W24.out; omega))); have OP6 := Lib.hid op6; have FF6 := Lib.hid f6; clear m6 os6 op6 f6 o6 cw)
    | (go_at_call 13; have cw2 := own_write M6.out OS6.out (by have := OP6.out; simp [newS] at this; omega) 1 (by omega) _ vy z1 OY6.out (fun k e hf => by have h1 := OY5.out.lt k e; rcases FF6.out k hf with h2 | h2; have := h2.2; have := W24.out; omega; omega); rw [HL1.out, ← HE2.out] at cw2; refine cw2.mono ?_; rintro e w7 ⟨rfl, -, S7, F7, m7, -⟩; have M7 := Lib.hid m7; clear m7 cw2))
  by_cases ha : n0 = 64
  · have hb : ¬ n1 = 64 := fun h => HNO.out ⟨ha, h⟩
    have q1 : e1 = 0 := by rw [HE1.out, if_pos ha]
    have q2 : e2 = 21 := by rw [HE2.out, if_neg hb]
    subst q1
    subst q2
    subst ha
    have hb2 : ((n1 : Int) == 64) = false := by simp; omega
    clear hb
    go_wp2
    go_ret
    exact ⟨rfl, M7.out.b⟩
  · have q1 : e1 = 21 := by rw [HE1.out, if_neg ha]
    subst q1
    have ha2 : ((n0 : Int) == 64) = false := by simp; omega
    by_cases hb : n1 = 64
    · have q2 : e2 = 0 := by rw [HE2.out, if_pos hb]
      subst q2
      subst hb
      clear ha
      go_wp2
      go_ret
      exact ⟨rfl, M7.out.b⟩
    · have q2 : e2 = 21 := by rw [HE2.out, if_neg hb]
      subst q2
      have hb2 : ((n1 : Int) == 64) = false := by simp; omega
      clear ha hb
      go_wp2
      go_ret
      exact ⟨rfl, M7.out.b⟩
end Go.Proofs.Ytfeoihnjfngmpaa
