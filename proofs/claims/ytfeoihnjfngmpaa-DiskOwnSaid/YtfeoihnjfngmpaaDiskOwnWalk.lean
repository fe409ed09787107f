/- The walk of DiskOwn: true whatever comes in. -/
import Derived.Test.YtfeoihnjfngmpaaDOwnC
namespace Go.Proofs.Ytfeoihnjfngmpaa
open Go.RowKit

theorem prow2 {w : World} {g : Nat} {x0 x1 : Wr} {L : List (Value × Value)} {G : List Nat} (h : PRow w g 2 [x0, x1] 2 L G) (h0 : B64 x0.b) (h1 : B64 x1.b) :
    ∃ b0 b1, w.cell? ⟨g, 0, none⟩ = some (.int .i64 (x0.p : Int)) ∧ w.cell? ⟨g, 1, none⟩ = some (.slice (some ⟨b0, 0, none⟩) 64 64) ∧ w.cell? ⟨g, 3, none⟩ = some (.slice (some ⟨b1, 0, none⟩) 64 64) ∧
      RB w (some ⟨b0, 0, none⟩) 64 x0.b ∧ RB w (some ⟨b1, 0, none⟩) 64 x1.b ∧ U8Blk w b0 64 ∧ g < b0 ∧ g < b1 ∧ b0 ≠ b1 ∧ b0 < w.heap.size ∧ b1 < w.heap.size := by
  have hs : ∀ y ∈ L, (pc y).length = 2 := fun y _ => rfl
  obtain ⟨b0, e1, e2, e3⟩ := h.at_ 0 x0 (by omega) rfl
  obtain ⟨b1, q1, q2, q3⟩ := h.at_ 1 x1 (by omega) rfl
  have g0 := h.gt b0 (List.mem_of_getElem? e1)
  have g1 := h.gt b1 (List.mem_of_getElem? q1)
  have hn : b0 ≠ b1 := fun e => by
    subst e
    have hlt0 := (List.getElem?_eq_some_iff.1 e1).1
    have hlt1 := (List.getElem?_eq_some_iff.1 q1).1
    have := (List.getElem_inj h.nodup (h₀ := hlt0) (h₁ := hlt1)).1 (by rw [(List.getElem?_eq_some_iff.1 e1).2, (List.getElem?_eq_some_iff.1 q1).2])
    omega
  have r0 : RB w (some ⟨b0, 0, none⟩) 64 x0.b := by have := RB.block (w := w) (g := b0) h0.byte e3; rwa [h0.len] at this
  have r1 : RB w (some ⟨b1, 0, none⟩) 64 x1.b := by have := RB.block (w := w) (g := b1) h1.byte q3; rwa [h1.len] at this
  refine ⟨b0, b1, ?_, ?_, ?_, r0, r1, u8_block e3 h0.len, g0.1, g1.1, hn, g0.2, g1.2⟩
  · rw [h.own.cellAt 0 (by omega)]
    have := flat_get L hs 0 0 (by omega)
    simp only [Nat.zero_mul, Nat.zero_add] at this
    rw [this, e2]; rfl
  · rw [h.own.cellAt 1 (by omega)]
    have := flat_get L hs 0 1 (by omega)
    simp only [Nat.zero_mul, Nat.zero_add] at this
    rw [this, e2]; rfl
  · rw [h.own.cellAt 3 (by omega)]
    have := flat_get L hs 1 1 (by omega)
    simp only [Nat.one_mul] at this
    rw [this, q2]; rfl

theorem own_w0 {w wr : World} {d : Nat} {F : Nat → Prop} (M : LM w wr d (newS 2) F) (g c : Nat) (z0 : List Int) (hr : RB wr (some ⟨g, 0, none⟩) 64 z0) (hg : ¬ F g) (hc : 64 ≤ c) :
    Calls Try.prog 13 #[.pointer (some ⟨d, 0, none⟩), .int .i64 0, .slice (some ⟨g, 0, none⟩) 64 c] wr (Codes F wr d ⟨newL 2, [⟨0, z0⟩], false, -1, wrap64 (0 + 1), 0⟩ 0) := by
  have := dwriteW M.pd 0 (some ⟨g, 0, none⟩) 64 c z0 hr (fun ad e _ hf => by cases e; exact hg hf) hc (by simp [newS])
  obtain ⟨e1, e2⟩ := writeS_ok (S := newS 2) (n := 0) rfl rfl (by simp [newS, newL]) hr.len
  rw [e1, e2] at this
  exact this
theorem own_w1 {w wr : World} {d : Nat} {F : Nat → Prop} {z0 : List Int} {q : Int} (M : LM w wr d ⟨newL 2, [⟨0, z0⟩], false, -1, q, 0⟩ F) (g c : Nat) (z1 : List Int) (hr : RB wr (some ⟨g, 0, none⟩) 64 z1) (hg : ¬ F g) (hc : 64 ≤ c) :
    Calls Try.prog 13 #[.pointer (some ⟨d, 0, none⟩), .int .i64 1, .slice (some ⟨g, 0, none⟩) 64 c] wr (Codes F wr d ⟨newL 2, [⟨0, z0⟩, ⟨1, z1⟩], false, -1, wrap64 (q + 1), 0⟩ 0) := by
  have := dwriteW M.pd 1 (some ⟨g, 0, none⟩) 64 c z1 hr (fun ad e _ hf => by cases e; exact hg hf) hc (by simp)
  obtain ⟨e1, e2⟩ := writeS_ok (S := ⟨newL 2, [⟨0, z0⟩], false, -1, q, 0⟩) (n := 1) rfl rfl (by simp [newL]) hr.len
  rw [e1, e2] at this
  exact this
theorem own_spoil (g n c : Nat) {w wr : World} {d : Nat} {S : St} {F : Nat → Prop} (M : LM w wr d S F) (h : U8Blk wr g c) (hn : n ≤ c) (hc : c ≤ 9223372036854775807) (hg : ¬ F g) (hw : w.heap.size ≤ g) :
    Calls Try.prog 34 #[.slice (some ⟨g, 0, none⟩) n c] wr fun e w' => e = .returned (.tuple #[]) ∧ Out (fun k => k = g) wr w' ∧ LM w w' d S F := (lspoilW g n c wr h hn hc).mono (by
  rintro e w' ⟨rfl, o⟩
  exact ⟨rfl, o, M.far o (fun j e => by subst e; exact ⟨hg, hw⟩)⟩)

set_option maxRecDepth 100000 in
set_option maxHeartbeats 4000000 in
/-- Both are blocks. -/
theorem walk_DiskOwnBoth (A0 : Option Addr) (c0 : Nat) (z0 : List Int) (A1 : Option Addr) (c1 : Nat) (z1 : List Int) (w : World) (h0 : RB w A0 64 z0) (hn0 : 64 ≤ c0) (h1 : RB w A1 64 z1) (hn1 : 64 ≤ c1) :
    Calls Try.prog 8 #[.slice A0 64 c0, .slice A1 64 c1] w fun e w' => e = .returned (.bool true) ∧ Below w.heap.size w w' := by
  have Z0 := Lib.hid (show B64 z0 from ⟨h0.len, h0.byte⟩)
  have Z1 := Lib.hid (show B64 z1 from ⟨h1.len, h1.byte⟩)
  go_enter Try.func8, Try.ntmps8
  go_upto_region 4 with (go_at_call 10; refine (dnew w 2 (by omega)).mono ?_; rintro e w2 (⟨h, -, -⟩ | ⟨-, d, rfl, hp, b2⟩); exact absurd (by omega) h; have M2 := Lib.hid (show LM w w2 d (newS 2) (fun j => w.heap.size ≤ j ∧ j < w2.heap.size) from ⟨hp.shut, fun j hj => hj, b2⟩); clear hp b2)
  have hmk := run_make_bytes w2 0 72 (by omega) (by omega) (by omega)
  rw [show (72 : Int).toNat = 72 by rfl] at hmk
  obtain ⟨W0, hW0⟩ : ∃ W, W = w2.alloc (.cells (madeCells #[.int .u8 0] 72) 5) := ⟨_, rfl⟩
  have hg0 : W0.heap[w2.heap.size]? = some (.cells (madeCells #[.int .u8 0] 72) 5 (0, 0)) := by rw [hW0]; exact heap_alloc_new _ _
  rw [← hW0] at hmk
  have B0 := Lib.hid (show Below w2.heap.size w2 W0 by rw [hW0]; exact (Below.refl _ _).alloc (Nat.le_refl _) _)
  have G0 := Lib.hid hg0
  have S0 := Lib.hid (show w2.heap.size < W0.heap.size from (Array.getElem?_eq_some_iff.1 hg0).1)
  have M3 := Lib.hid (M2.out.below B0.out)
  have R0 := Lib.hid (h0.below' M3.out.b)
  have H2 := Lib.hid (show w.heap.size ≤ w2.heap.size from M2.out.b.size)
  clear hW0 hg0
  go_upto_region 5 with (at_builtin; refine made_append_u8 rfl (.tmp 29) (.tmp 30) rfl w2.heap.size 72 rfl G0.out A0 64 c0 z0 rfl R0.out (by decide) (by decide) ?_; intro w4 rx ux ox; have RX4 := Lib.hid rx; have UX4 := Lib.hid ux; have M4 := Lib.hid (M3.out.far ox (fun j e => by subst e; exact ⟨fun hf => by have := hf.2; omega, H2.out⟩)); have S4 := Lib.hid (show w2.heap.size < w4.heap.size from Nat.lt_of_lt_of_le S0.out ox.size); clear rx ux ox)
  have R1 := Lib.hid (h1.below' M4.out.b)
  go_upto_region 6 with (at_builtin; refine nil_append_u8 rfl (.const (.slice none 0 0)) (.tmp 32) rfl rfl A1 64 c1 z1 rfl R1.out (by decide) (by decide) ?_; intro cy w5 hcy1 hcy2 ry uy by_ ly; have RX5 := Lib.hid (RX4.out.below' by_); have UX5 := Lib.hid (UX4.out.below by_); have RY5 := Lib.hid ry; have UY5 := Lib.hid uy; have M5 := Lib.hid (M4.out.below by_); have S5 := Lib.hid ly; clear ry uy by_ ly)
  go_upto_region 7 with (first
    | (go_at_call_of 13 (Value.slice (some ⟨w2.heap.size, 0, none⟩) 64 72); go_loud (refine (own_w0 M5.out _ 72 z0 RX5.out (fun hf => by have := hf.2; omega) (by omega)).mono ?_; rintro e w6 ⟨rfl, p6, o6⟩; have S6 := Lib.hid o6.size; have M6 := Lib.hid (M5.out.step p6 o6); have UX6 := Lib.hid (UX5.out.out o6 (fun hf => by have := hf.2; omega)); have UY6 := Lib.hid (UY5.out.out o6 (fun hf => by have := hf.2; have := S4.out; omega)); have RY6 := Lib.hid (o6.rb RY5.out (fun ad e _ hf => by cases e; have h9 : w4.heap.size < w2.heap.size := hf.2; have := S4.out; omega)); clear p6 o6))
    | (go_at_call_of 13 (Value.slice (some ⟨w4.heap.size, 0, none⟩) 64 cy); go_loud (refine (own_w1 M6.out _ cy z1 RY6.out (notGr (fun hf => by have := hf.2; have := S4.out; omega) S5.out) hcy1).mono ?_; rintro e w7 ⟨rfl, p7, o7⟩; have S7 := Lib.hid o7.size; have M7 := Lib.hid (M6.out.step p7 o7); have UX7 := Lib.hid (UX6.out.out o7 (notGr (fun hf => by have := hf.2; omega) (by have := S4.out; have := S5.out; omega))); have UY7 := Lib.hid (UY6.out.out o7 (notGr (fun hf => by have := hf.2; have := S4.out; omega) S5.out)); clear p7 o7)))
  obtain ⟨q, hq⟩ : ∃ q, q = wrap64 (wrap64 (0 + 1) + 1) := ⟨_, rfl⟩
  obtain ⟨F, hF⟩ : ∃ F : Nat → Prop, F = (fun j => Gr (fun j => Gr (fun j => w.heap.size ≤ j ∧ j < w2.heap.size) w5 j ∧ j < w6.heap.size) w6 j ∧ j < w7.heap.size) := ⟨_, rfl⟩
  have NX := Lib.hid (show ¬ F w2.heap.size by rw [hF]; exact notGr (notGr (fun hf => by have := hf.2; omega) (by have := S4.out; have := S5.out; omega)) (by have := S4.out; have := S5.out; have := S6.out; omega))
  have NY := Lib.hid (show ¬ F w4.heap.size by rw [hF]; exact notGr (notGr (fun hf => by have := hf.2; have := S4.out; omega) S5.out) (by have := S5.out; have := S6.out; omega))
  have N7 := Lib.hid (show ∀ j, F j → j < w7.heap.size by rw [hF]; exact fun j hj => hj.2)
  have M7F := Lib.hid (show LM w w7 d ⟨newL 2, [⟨0, z0⟩, ⟨1, z1⟩], false, -1, q, 0⟩ F by rw [hq, hF]; exact M7.out)
  clear hq hF M7 M6 M5 M4 M3 M2
  go_upto_region 12 with (go_at_call 34; refine (own_spoil w2.heap.size 64 72 M7F.out UX7.out (by omega) (by omega) NX.out H2.out).mono ?_; rintro e w8 ⟨rfl, o8, m8⟩; have S8 := Lib.hid o8.size; have M8 := Lib.hid m8; have UY8 := Lib.hid (UY7.out.out o8 (fun e => by have := S4.out; omega)); clear o8 m8)
  go_upto_region 13 with (go_at_call 34; refine (own_spoil w4.heap.size 64 cy M8.out UY8.out hcy1 hcy2 NY.out (by have := H2.out; have := S4.out; omega)).mono ?_; rintro e w9 ⟨rfl, o9, m9⟩; have S9 := Lib.hid o9.size; have M9 := Lib.hid m9; clear o9 m9)
  have S79 := Lib.hid (show w7.heap.size ≤ w9.heap.size from Nat.le_trans S8.out S9.out)
  have W9 := Lib.hid (show w.heap.size ≤ w9.heap.size from M9.out.b.size)
  have cp := dpending M9.out.pd (by simp)
  go_upto_region 14 with (go_at_call 22; refine cp.mono ?_; rintro e w10 ⟨Lp, Gp, hE, pr, b10⟩; obtain rfl : e = .returned (.slice (some ⟨w9.heap.size, 0, none⟩) 2 2) := hE; have P10 := Lib.hid (show PRow w10 w9.heap.size 2 [⟨0, z0⟩, ⟨1, z1⟩] 2 Lp Gp from pr); have M10 := Lib.hid (M9.out.below b10); clear pr b10 cp)
  obtain ⟨b0, b1, p0, p1, p3, rb0, rb1, u0, gb0, gb1, hbn, lb0, lb1⟩ := prow2 P10.out Z0.out Z1.out
  have RB0 := Lib.hid rb0
  have RB1 := Lib.hid rb1
  have U0 := Lib.hid u0
  have HBN := Lib.hid hbn
  have R0a := Lib.hid (h0.below' M10.out.b)
  have R1a := Lib.hid (h1.below' M10.out.b)
  clear rb0 rb1 u0 hbn
  go_upto_region 16 with (first
    | (go_at_call_of 26 (Value.slice A0 64 c0); refine (lalike_same 64 c0 RB0.out R0a.out).mono ?_; rintro e w' ⟨rfl, hw⟩; have hw2 := hw.symm; subst hw2)
    | (go_at_call_of 26 (Value.slice A1 64 c1); refine (lalike_same 64 c1 RB1.out R1a.out).mono ?_; rintro e w' ⟨rfl, hw⟩; have hw2 := hw.symm; subst hw2))
  have hF0 := Lib.hid (show ¬ F b0 from fun hf => by have := N7.out _ hf; have := S79.out; omega)
  have GE := Lib.hid (show ∀ g, w9.heap.size ≤ g → ¬ F g ∧ w.heap.size ≤ g from fun g hg => ⟨fun hf => by have := N7.out _ hf; have := S79.out; omega, by have := W9.out; omega⟩)
  go_upto_region 17 with (go_at_call 34; refine (own_spoil b0 64 64 M10.out U0.out (by omega) (by omega) (GE.out _ (by omega)).1 (GE.out _ (by omega)).2).mono ?_; rintro e w11 ⟨rfl, o11, m11⟩; have S11 := Lib.hid o11.size; have M11 := Lib.hid m11; have P11 := Lib.hid (own_stays (w' := w11) P10.out.own (fun j e => o11.block j (P10.out.own.lt j e).2 (fun e2 => by have ej : w9.heap.size = j := (by simpa [Value.ownBlock] using e); omega))); have RB11 := Lib.hid (o11.rb RB1.out (fun ad e _ e2 => by cases e; exact HBN.out e2.symm)); have q0 := o11.cell p0 (fun e => by simp at e; omega); have q3 := o11.cell p3 (fun e => by simp at e; omega); clear o11 m11 p0 p1 p3)
  obtain ⟨W1, hW1⟩ : ∃ W, W = w11.alloc (.cells #[.int .u8 1, .int .u8 2, .int .u8 3] 5) := ⟨_, rfl⟩
  have rl : RB W1 (some ⟨w11.heap.size, 0, none⟩) 3 [1, 2, 3] := by rw [hW1]; exact RB.new w11 (zs := [1, 2, 3]) (e := 5) (fr := (0, 0)) (by simp)
  have bW1 : Below w11.heap.size w11 W1 := by rw [hW1]; exact (Below.refl _ _).alloc (Nat.le_refl _) _
  have hW1r := hW1.symm
  have RL := Lib.hid rl
  have RBW := Lib.hid (RB11.out.below' bW1)
  have MW := Lib.hid (M11.out.below bW1)
  have BW := Lib.hid bW1
  clear hW1 rl bW1
  go_upto_region 18 with (first
    | (at_builtin; refine grow_append_u8 rfl (.tmp 95) (.tmp 96) rfl b1 64 64 z1 rfl RBW.out (some ⟨w11.heap.size, 0, none⟩) 3 3 [1, 2, 3] rfl RL.out (by decide) (by decide) (by decide) ?_; intro c12 w12 hc1 hc2 u12 b12 l12; have U12 := Lib.hid u12; have M12 := Lib.hid (MW.out.below b12); have B12 := Lib.hid b12; have S12 := Lib.hid (show w9.heap.size ≤ W1.heap.size by have := S11.out; have := BW.out.size; omega); clear u12 b12)
    | (go_at_call 34; refine (own_spoil W1.heap.size 67 c12 M12.out U12.out hc1 hc2 (GE.out _ S12.out).1 (GE.out _ S12.out).2).mono ?_; rintro e w13 ⟨rfl, o13, m13⟩; have M13 := Lib.hid m13; have O13 := Lib.hid (show Below w11.heap.size w11 w13 from (BW.out.trans (B12.out.mono BW.out.size)).trans (o13.below (B := w11.heap.size) (by have := BW.out.size; have := B12.out.size; omega) (fun i hi e => by have := BW.out.size; omega))); clear o13 m13))
  have r0 := keep_below q0 O13.out
  have PG := own_stays (w' := w13) P11.out (fun j e => O13.out.block j (P11.out.lt j e).2)
  have fr := PG.frozenAt 0
  have M14 := Lib.hid (show LM w (w13.setCell ⟨w9.heap.size, 0, none⟩ (.int .i64 77)) d ⟨newL 2, [⟨0, z0⟩, ⟨1, z1⟩], false, -1, q, 0⟩ F from M13.out.far (G := fun k => k = w9.heap.size) ((Out.refl (fun k => k = w9.heap.size) w13).setCell (p := ⟨w9.heap.size, 0, none⟩) (.inl rfl) (.int .i64 77)) (fun j e => by subst e; exact GE.out _ (Nat.le_refl _)))
  clear PG q0 q3
  obtain ⟨w14, hw14⟩ : ∃ W, W = w13.setCell ⟨w9.heap.size, 0, none⟩ (.int .i64 77) := ⟨_, rfl⟩
  have M14L := Lib.hid (show LM w w14 d ⟨newL 2, [⟨0, z0⟩, ⟨1, z1⟩], false, -1, q, 0⟩ F by rw [hw14]; exact M14.out)
  have S14 := Lib.hid (show w9.heap.size ≤ w14.heap.size by rw [hw14]; have := M14.out; have h1 := O13.out.size; have h2 := S11.out; simp [World.setCell]; omega)
  go_upto_region 19 with fail
  rw [← hw14]
  clear hw14 M14 r0 fr
  have c0_ := dread M14L.out.pd 0 (by simp)
  rw [own_read0] at c0_
  go_upto_region 20 with (go_at_call 25; refine c0_.mono ?_; rintro e w15 (⟨hne, -, -, -⟩ | ⟨-, hb64, hE, hw⟩); exact absurd rfl hne; obtain rfl : e = .returned (.tuple #[.slice (some ⟨w14.heap.size, 0, none⟩) 64 64, .int .i64 0]) := hE; have hn15 : w15.heap[w14.heap.size]? = some (.cells (bc z0).toArray 78 (0, 0)) := (by rw [hw]; exact heap_alloc_new _ _); have bb : Below w14.heap.size w14 w15 := (by rw [hw]; exact (Below.refl _ _).alloc (Nat.le_refl _) _); have M15 := Lib.hid (M14L.out.below bb); have RR15 := Lib.hid (show RB w15 (some ⟨w14.heap.size, 0, none⟩) 64 z0 from rb_head (r := []) hb64 (by rw [List.append_nil]; exact hn15)); have UR15 := Lib.hid (u8_block hn15 hb64.len); have S15 := Lib.hid (show w14.heap.size < w15.heap.size by rw [hw]; simp); clear hw hn15 bb hb64 c0_)
  have c1_ := dread M15.out.pd 1 (by simp)
  rw [own_read1] at c1_
  go_upto_region 21 with (go_at_call 25; refine c1_.mono ?_; rintro e w16 (⟨hne, -, -, -⟩ | ⟨-, hb64, hE, hw⟩); exact absurd rfl hne; obtain rfl : e = .returned (.tuple #[.slice (some ⟨w15.heap.size, 0, none⟩) 64 64, .int .i64 0]) := hE; have hn16 : w16.heap[w15.heap.size]? = some (.cells (bc z1).toArray 78 (0, 0)) := (by rw [hw]; exact heap_alloc_new _ _); have bb : Below w15.heap.size w15 w16 := (by rw [hw]; exact (Below.refl _ _).alloc (Nat.le_refl _) _); have M16 := Lib.hid (M15.out.below bb); have RR16 := Lib.hid (RR15.out.below' bb); have UR16 := Lib.hid (UR15.out.below bb); have RS16 := Lib.hid (show RB w16 (some ⟨w15.heap.size, 0, none⟩) 64 z1 from rb_head (r := []) hb64 (by rw [List.append_nil]; exact hn16)); have S16 := Lib.hid (show w15.heap.size < w16.heap.size by rw [hw]; simp); clear hw hn16 bb hb64 c1_)
  have R0b := Lib.hid (h0.below' M16.out.b)
  have R1b := Lib.hid (h1.below' M16.out.b)
  have hrs : w14.heap.size < w15.heap.size := S15.out
  go_upto_region 23 with (first
    | (go_at_call_of 26 (Value.slice A0 64 c0); refine (lalike_same 64 c0 RR16.out R0b.out).mono ?_; rintro e w' ⟨rfl, hw⟩; have hw2 := hw.symm; subst hw2)
    | (go_at_call_of 26 (Value.slice A1 64 c1); refine (lalike_same 64 c1 RS16.out R1b.out).mono ?_; rintro e w' ⟨rfl, hw⟩; have hw2 := hw.symm; subst hw2))
  go_upto_region 24 with (go_at_call 34; refine (own_spoil w14.heap.size 64 64 M16.out UR16.out (by omega) (by omega) (GE.out _ S14.out).1 (GE.out _ S14.out).2).mono ?_; rintro e w17 ⟨rfl, o17, m17⟩; have M17 := Lib.hid m17; have RS17 := Lib.hid (o17.rb RS16.out (fun ad e _ e2 => by cases e; have e3 : w15.heap.size = w14.heap.size := e2; omega)); have S17 := Lib.hid o17.size; clear o17 m17)
  obtain ⟨W2, hW2⟩ : ∃ W, W = w17.alloc (.cells #[.int .u8 9] 5) := ⟨_, rfl⟩
  have rl2 : RB W2 (some ⟨w17.heap.size, 0, none⟩) 1 [9] := by rw [hW2]; exact RB.new w17 (zs := [9]) (e := 5) (fr := (0, 0)) (by simp)
  have bW2 : Below w17.heap.size w17 W2 := by rw [hW2]; exact (Below.refl _ _).alloc (Nat.le_refl _) _
  have hW2r := hW2.symm
  have RL2 := Lib.hid rl2
  have RSW := Lib.hid (RS17.out.below' bW2)
  have MW2 := Lib.hid (M17.out.below bW2)
  have S9W := Lib.hid (show w9.heap.size ≤ W2.heap.size by have h3 := bW2.size; have h4 := S17.out; have h5 := S16.out; have h6 := S14.out; omega)
  clear hW2 rl2 bW2 hrs
  go_upto_region 25 with (first
    | (at_builtin; refine grow_append_u8 rfl (.tmp 132) (.tmp 133) rfl w15.heap.size 64 64 z1 rfl RSW.out (some ⟨w17.heap.size, 0, none⟩) 1 1 [9] rfl RL2.out (by decide) (by decide) (by decide) ?_; intro c18 w18 hc3 hc4 u18 b18 l18; have U18 := Lib.hid u18; have M18 := Lib.hid (MW2.out.below b18); clear u18 b18)
    | (go_at_call 34; refine (own_spoil W2.heap.size 65 c18 M18.out U18.out hc3 hc4 (GE.out _ S9W.out).1 (GE.out _ S9W.out).2).mono ?_; rintro e w19 ⟨rfl, -, m19⟩; have M19 := Lib.hid m19; clear m19))
  have cs := dsync M19.out.pd (by simp)
  obtain ⟨e1, e2⟩ := sync_free (S := ⟨newL 2, [⟨0, z0⟩, ⟨1, z1⟩], false, -1, q, 0⟩) rfl rfl
  rw [e1, e2] at cs
  rw [show layAll ({ last := newL 2, pend := [⟨0, z0⟩, ⟨1, z1⟩], off := false, plan := -1, writes := q, syncs := 0 } : St).last ({ last := newL 2, pend := [⟨0, z0⟩, ⟨1, z1⟩], off := false, plan := -1, writes := q, syncs := 0 } : St).pend (ones ({ last := newL 2, pend := [⟨0, z0⟩, ⟨1, z1⟩], off := false, plan := -1, writes := q, syncs := 0 } : St).pend.length) = [⟨z0, false⟩, ⟨z1, false⟩] from own_lay z0 z1] at cs
  clear e1 e2
  go_upto_region 27 with (go_at_call 15; refine cs.mono ?_; rintro e w20 ⟨rfl, p20, o20⟩; have M20 := Lib.hid (show LM w w20 d ⟨[⟨z0, false⟩, ⟨z1, false⟩], [], false, -1, q, wrap64 (0 + 1)⟩ _ from M19.out.step p20 o20); clear p20 o20 cs)
  obtain ⟨F2, hF2⟩ : ∃ F2 : Nat → Prop, F2 = (fun j => Gr F w19 j ∧ j < w20.heap.size) := ⟨_, rfl⟩
  have M20F := Lib.hid (show LM w w20 d ⟨[⟨z0, false⟩, ⟨z1, false⟩], [], false, -1, q, wrap64 (0 + 1)⟩ F2 by rw [hF2]; exact M20.out)
  have GE2 := Lib.hid (show ∀ g, w20.heap.size ≤ g → ¬ F2 g ∧ w.heap.size ≤ g from fun g hg => ⟨fun hf => by rw [hF2] at hf; have := hf.2; omega, by have := M20F.out.b.size; omega⟩)
  clear hF2 M20
  have ci := dimageR M20F.out.pd
  go_upto_region 28 with (go_at_call 28; refine ci.mono ?_; rintro e w21 ⟨v5, hE, ho, b21⟩; obtain rfl : e = .returned (.tuple #[.slice (some ⟨w20.heap.size, 0, none⟩) 128 128, v5]) := hE; have M21 := Lib.hid (M20F.out.below b21); have I21 := Lib.hid (show OB w20.heap.size w21 (.slice (some ⟨w20.heap.size, 0, none⟩) 128 128) (z0 ++ z1) by rw [← own_img]; exact ho); have S21 := Lib.hid b21.size; clear ho b21 ci)
  have R0c := Lib.hid (h0.below' M21.out.b)
  have hzl : (z0 ++ z1).length = 128 := by rw [List.length_append, Z0.out.len, Z1.out.len]
  have HZL := Lib.hid hzl
  clear hzl
  have LI := Lib.hid (show w20.heap.size < w21.heap.size from (I21.out.own.lt _ rfl).2)
  go_upto_region 30 with (first
    | (go_at_call 26; refine (lalike_same 128 _ II23 rr23).mono ?_; rintro e w' ⟨rfl, hw⟩; have hw2 := hw.symm; subst hw2)
    | (at_builtin; refine ob_append rfl (.const (.slice none 0 0)) (.tmp 145) rfl w21.heap.size _ [] rfl (OB.nil _ _) A0 64 c0 z0 rfl R0c.out (by decide) (Nat.le_refl _) ?_; intro v1 w22 ho22 hb22 g22; have HO22 := Lib.hid ho22; have HB22 := Lib.hid hb22; have R1c := Lib.hid (h1.below' (M21.out.b.trans (hb22.mono M21.out.b.size))); have HZ0 := Lib.hid Z0.out.len; clear ho22 g22 hb22)
    | (at_builtin; refine ob_append rfl (.tmp 146) (.tmp 147) rfl w21.heap.size v1 ([] ++ z0) rfl HO22.out A1 64 c1 z1 rfl R1c.out (by rw [List.nil_append, HZ0.out]; decide) HB22.out.size ?_; intro v2 w23 ho23 hb23 g23; obtain ⟨A2, c2_, rfl, rr, -, -⟩ := ho23.form; rw [List.nil_append, HZL.out] at rr; rw [List.nil_append, HZL.out]; have B23 := (HB22.out.trans hb23); have I23 := Lib.hid (I21.out.stays (w' := w23) (fun j e => B23.block j (by have := (I21.out.own.lt j e).2; omega))); have II23 : RB w23 (some ⟨w20.heap.size, 0, none⟩) 128 (z0 ++ z1) := (by obtain ⟨A3, c3_, e3, r3, -, -⟩ := I23.out.form; injection e3 with e4 e5 e6; rw [HZL.out, ← e4] at r3; exact r3); have rr23 := rr; have M23 := Lib.hid (M21.out.below B23); clear ho23 hb23 g23 B23 rr))
  have UI := Lib.hid (u8_full I23.out HZL.out)
  clear II23 rr23
  go_upto_region 31 with (go_at_call 34; go_loud (refine (own_spoil w20.heap.size 128 128 M23.out UI.out (by omega) (by omega) (GE2.out _ (Nat.le_refl _)).1 (GE2.out _ (Nat.le_refl _)).2).mono ?_; rintro e w24 ⟨rfl, o24, m24⟩; have M24 := Lib.hid m24; have S24 := Lib.hid (show w20.heap.size ≤ w24.heap.size by have := S21.out; have := o24.size; have := M23.out; have h5 : w20.heap.size < w23.heap.size := (I23.out.own.lt w20.heap.size rfl).2; have h6 : w23.heap.size ≤ w24.heap.size := o24.size; omega); clear o24 m24))
  have ci2 := dimageR M24.out.pd
  go_upto_region 32 with (go_at_call 28; refine ci2.mono ?_; rintro e w25 ⟨v6, hE, ho, b25⟩; obtain rfl : e = .returned (.tuple #[.slice (some ⟨w24.heap.size, 0, none⟩) 128 128, v6]) := hE; have M25 := Lib.hid (M24.out.below b25); have I25 := Lib.hid (show OB w24.heap.size w25 (.slice (some ⟨w24.heap.size, 0, none⟩) 128 128) (z0 ++ z1) by rw [← own_img]; exact ho); clear ho b25 ci2)
  have rb25 : RB w25 (some ⟨w24.heap.size, 0, none⟩) 128 (z0 ++ z1) := by
    obtain ⟨A3, c3_, e3, r3, -, -⟩ := I25.out.form
    injection e3 with e4 e5 e6
    rw [HZL.out, ← e4] at r3
    exact r3
  have LI2 := Lib.hid (show w24.heap.size < w25.heap.size from (I25.out.own.lt _ rfl).2)
  have cl := dload w25 (some ⟨w24.heap.size, 0, none⟩) 128 128 (z0 ++ z1) rb25 (by omega) (by omega) none 0 0 [] ⟨rfl, by simp, fun h => absurd h (by omega)⟩ (by omega)
  have GOOD := Lib.hid (own_good Z0.out.len Z1.out.len)
  have UI2 := Lib.hid (u8_full I25.out HZL.out)
  clear rb25
  go_upto_region 35 with (go_at_call 18; refine cl.mono ?_; rintro e w26 (⟨h, -, -⟩ | ⟨-, d2, rfl, hp, b26⟩); exact absurd GOOD.out h; have M26 := Lib.hid (M25.out.below b26); have C26 := Lib.hid (show LM w w26 d2 (loadS (z0 ++ z1) []) (fun j => w25.heap.size ≤ j ∧ j < w26.heap.size) from ⟨hp.shut, fun j hj => ⟨Nat.le_trans M25.out.b.size hj.1, hj.2⟩, M25.out.b.trans (b26.mono M25.out.b.size)⟩); have UI3 := Lib.hid (UI2.out.below b26); clear hp b26 cl)
  go_upto_region 36 with (go_at_call 34; refine (own_spoil w24.heap.size 128 128 M26.out UI3.out (by omega) (by omega) (GE2.out _ S24.out).1 (GE2.out _ S24.out).2).mono ?_; rintro e w27 ⟨rfl, o27, m27⟩; have M27 := Lib.hid m27; have C27 := Lib.hid (C26.out.far o27 (fun j e => by subst e; exact ⟨fun hf => by have := hf.1; have := LI2.out; omega, (GE2.out _ S24.out).2⟩)); clear o27 m27)
  have cr0 := dread C27.out.pd 0 (by show 0 < _; omega)
  rw [own_load0 Z0.out.len Z1.out.len] at cr0
  go_upto_region 37 with (go_at_call 25; refine cr0.mono ?_; rintro e w28 (⟨hne, -, -, -⟩ | ⟨-, hb64, hE, hw⟩); exact absurd rfl hne; obtain rfl : e = .returned (.tuple #[.slice (some ⟨w27.heap.size, 0, none⟩) 64 64, .int .i64 0]) := hE; have bb : Below w27.heap.size w27 w28 := (by rw [hw]; exact (Below.refl _ _).alloc (Nat.le_refl _) _); have M28 := Lib.hid (M27.out.below bb); have RR28 := Lib.hid (show RB w28 (some ⟨w27.heap.size, 0, none⟩) 64 z0 by rw [hw]; exact rb_head (r := []) hb64 (by rw [List.append_nil]; exact heap_alloc_new _ _)); clear hw bb hb64 cr0)
  have cr1 := dread M28.out.pd 1 (by show 0 < _; omega)
  rw [own_clean1] at cr1
  go_upto_region 38 with (go_at_call 25; refine cr1.mono ?_; rintro e w29 (⟨hne, -, -, -⟩ | ⟨-, hb64, hE, hw⟩); exact absurd rfl hne; obtain rfl : e = .returned (.tuple #[.slice (some ⟨w28.heap.size, 0, none⟩) 64 64, .int .i64 0]) := hE; have bb : Below w28.heap.size w28 w29 := (by rw [hw]; exact (Below.refl _ _).alloc (Nat.le_refl _) _); have M29 := Lib.hid (M28.out.below bb); have RR29 := Lib.hid (RR28.out.below' bb); have RS29 := Lib.hid (show RB w29 (some ⟨w28.heap.size, 0, none⟩) 64 z1 by rw [hw]; exact rb_head (r := []) hb64 (by rw [List.append_nil]; exact heap_alloc_new _ _)); clear hw bb hb64 cr1)
  have R0d := Lib.hid (h0.below' M29.out.b)
  have R1d := Lib.hid (h1.below' M29.out.b)
  go_wp2_with (first
    | (go_at_call_of 26 (Value.slice A0 64 c0); refine (lalike_same 64 c0 RR29.out R0d.out).mono ?_; rintro e w' ⟨rfl, hw⟩; have hw2 := hw.symm; subst hw2)
    | (go_at_call_of 26 (Value.slice A1 64 c1); refine (lalike_same 64 c1 RS29.out R1d.out).mono ?_; rintro e w' ⟨rfl, hw⟩; have hw2 := hw.symm; subst hw2))
  go_ret
  exact ⟨rfl, M29.out.b⟩

theorem walk_DiskOwn (A0 : Option Addr) (n0 c0 : Nat) (z0 : List Int) (A1 : Option Addr) (n1 c1 : Nat) (z1 : List Int) (w : World) (h0 : RB w A0 n0 z0) (hn0 : n0 ≤ c0) (hc0 : c0 ≤ 140737488351232) (h1 : RB w A1 n1 z1) (hn1 : n1 ≤ c1) (hc1 : c1 ≤ 140737488351232) :
    Calls Try.prog 8 #[.slice A0 n0 c0, .slice A1 n1 c1] w fun e w' => e = .returned (.bool true) ∧ Below w.heap.size w w' := by
  by_cases h : n0 = 64 ∧ n1 = 64
  · obtain ⟨rfl, rfl⟩ := h
    exact walk_DiskOwnBoth A0 c0 z0 A1 c1 z1 w h0 hn0 h1 hn1
  · exact walk_DiskOwnNot A0 n0 c0 z0 A1 n1 c1 z1 w h0 hn0 hc0 h1 hn1 hc1 h
end Go.Proofs.Ytfeoihnjfngmpaa
