/- Layer 12: the reference's Ahead and Tokens. -/
import Derived.Test.YtagangneoibbcaaDoorLxR5
import Derived.Test.YtagangneoibbcaaDoorLxBg
set_option linter.unusedVariables false
namespace Go.Proofs.YtagangneoibbcaaDoor
set_option maxRecDepth 100000
set_option maxRecDepth 100000
open Go.RowKit

/-- What Ahead leaves. -/
def AheadIs (s : ByteArray) (w : World) (e : Ending) (w' : World) : Prop :=
  Below w.heap.size w w' ∧ ∃ v, e = .returned (.tuple #[v, .int .i64 ((toksP (strB s)).2.1 : Nat), .int .i64 (toksP (strB s)).2.2]) ∧ TL w.heap.size w' v (toksP (strB s)).1
set_option maxHeartbeats 2000000 in
theorem wrAheadLong (s : ByteArray) (w : World) (hs : 65536 < s.size) (hm : s.size ≤ 140737488351232) :
    Calls Tryd.prog 13 #[.string s] w fun e w' => e = .returned (.tuple #[.slice none 0 0, .int .i64 65536, .int .i64 3]) ∧ w = w' := by
  have h1 : (65536 : Int) < (s.size : Int) := by omega
  go_enter Tryd.func13, Tryd.ntmps13
  go_wp2
  go_ret3
  exact ⟨rfl, rfl⟩
theorem ROneIs.yes_ {o : One} {i : Nat} {w w' : World} {e : Ending} (h : ROneIs o i w e w') (h0 : o.e = 0) : Below w.heap.size w w' ∧ e = .returned (.tuple #[.agg #[.int .i64 o.tk.k, .string o.tk.t, .int .i64 o.tk.vk, .int .i64 o.tk.vi, .bool false, .string o.tk.vb, .complex .f64 0 0, .int .i64 (o.tk.a : Nat)], .int .i64 (i + o.n : Nat), .int .i64 0]) := by
  obtain ⟨h1, y, h2, h3⟩ := h
  rw [h3 h0, h0] at h2
  exact ⟨h1, h2⟩
set_option maxHeartbeats 16000000 in
theorem wrAhead (s : ByteArray) (w : World) (hs : s.size ≤ 65536) : Calls Tryd.prog 13 #[.string s] w (AheadIs s w) := by
  obtain ⟨L, hL⟩ : ∃ L, strB s = L := ⟨_, rfl⟩
  have HLS := Lib.hid hL.symm
  have HLL := Lib.hid (show L.length = s.size by rw [← hL]; exact strB_len s)
  have TI := Lib.hid (show ∀ e w' v p e0, toksP L = (p : List Tk × Nat × Int) → e = .returned (.tuple #[v, .int .i64 e0, .int .i64 p.2.2]) → e0 = ((p.2.1 : Nat) : Int) → Below w.heap.size w w' → TL w.heap.size w' v p.1 → AheadIs s w e w' from fun e w' v p e0 h h1 h2 h3 h4 => by
    unfold AheadIs
    rw [← HLS.out, h]
    exact ⟨h3, v, by rw [h1, h2], h4⟩)
  have h1 : ¬ (65536 : Int) < (s.size : Int) := by omega
  have CS := Lib.hid fun i (hi : i ≤ s.size) W => wrSkip s i W hi hs
  rw [← HLS.out] at CS
  have CS0 := Lib.hid (CS.out 0 (Nat.zero_le _))
  have hst := run_store_cx Tryd.prog
  clear hL
  go_enter Tryd.func13, Tryd.ntmps13
  go_wp2_with (go_at_call 28; go_loud (refine (CS0.out _).mono ?_; rintro e w1 ⟨rfl, rfl⟩))
  go_loopw [5, 6] (fun v va wr => ∃ (done : List Tk) (i : Nat), va = .int .i64 (i + skipN false (L.drop i) : Nat) ∧ TL w.heap.size wr v done ∧ Below w.heap.size w wr ∧ LeftT L done i) (fun _ va _ => s.size - (intOf va).toNat)
  case atStart => exact ⟨[], 0, by rw [List.drop_zero, Nat.zero_add], TL.nil _ _, Below.refl _ _, LeftT.start L⟩
  case round =>
    rename World => wr
    obtain ⟨done, i, rfl, hv, hb, hlf⟩ := hrel
    have HV := Lib.hid hv
    have HB := Lib.hid hb
    have HLE := Lib.hid (show done.length ≤ 65536 by have := hlf.1; have := hlf.2.1; have := HLL.out; omega)
    have hsl := skipN_le false (L.drop i)
    rw [List.length_drop] at hsl
    have hil := hlf.1
    obtain ⟨A, c, rfl, -, -⟩ := hv.form
    by_cases hend : i + skipN false (L.drop i) = L.length
    · have HT := Lib.hid (hlf.ends hend)
      have hge : ¬ ((i + skipN false (L.drop i) : Nat) : Int) < (s.size : Int) := by rw [hend, HLL.out]; omega
      obtain ⟨b, hbb⟩ : ∃ b, i + skipN false (L.drop i) = b := ⟨_, rfl⟩
      rw [hbb] at hge ⊢
      clear hv hb hlf hend hsl hil hbb
      go_wp2
      go_ret3
      exact TI.out _ _ _ _ _ HT.out rfl rfl HB.out HV.out
    · have OK := Lib.hid (fun h => hlf.ok hend h)
      have BAD := Lib.hid (fun h => hlf.bad hend h)
      obtain ⟨b, hbb⟩ : ∃ b, i + skipN false (L.drop i) = b := ⟨_, rfl⟩
      have hblt : b < s.size := by have := HLL.out; omega
      have HBI := Lib.hid (show i ≤ b by omega)
      rw [hbb] at OK BAD ⊢
      have CO := Lib.hid (wrOne (w := wr) hblt hs)
      rw [← HLS.out] at CO
      obtain ⟨o, hoo⟩ : ∃ o, oneP b (L.drop b) = o := ⟨_, rfl⟩
      rw [hoo] at CO OK BAD
      have hblz : (b : Int) < (s.size : Int) := by omega
      have HBL := Lib.hid hblt
      by_cases h0 : o.e = 0
      · have OK2 := Lib.hid (OK.out h0)
        have CO2 := Lib.hid (CO.out.mono fun e w' h => h.yes_ h0)
        obtain ⟨y, hy⟩ : ∃ y, o.tk = y := ⟨_, rfl⟩
        obtain ⟨q, hq⟩ : ∃ q, b + o.n = q := ⟨_, rfl⟩
        rw [hy, hq] at CO2 OK2
        have HQ := Lib.hid (show b < q by
          have h1 := one_lenL (L := L) b b (by rw [HLL.out]; exact hblt) (by rw [hoo]; exact h0)
          rw [hoo] at h1
          omega)
        have HI := Lib.hid (show (Tryd.prog.info? 36).map (·.size) = some [Value.int .i64 y.k, .string y.t, .int .i64 y.vk, .int .i64 y.vi, .bool false, .string y.vb, .complex .f64 0 0, .int .i64 (y.a : Nat)].length by rfl)
        clear hv hb hlf hend hsl hil hbb hoo h0 hy hq OK BAD CO hblt
        go_upto_region 7 with (go_at_call 29; go_loud (refine CO2.out.mono ?_; rintro e w1 ⟨b1, rfl⟩; have B1 := Lib.hid b1; clear b1))
        generalize hX : World.alloc w1 (.cells #[Value.int .i64 y.k, .string y.t, .int .i64 y.vk, .int .i64 y.vi, .bool false, .string y.vb, .complex .f64 0 0, .int .i64 (y.a : Nat)] 36) = X
        have RX := Lib.hid (show TkB X w1.heap.size y by rw [← hX]; exact heap_alloc_new w1 _)
        have BX := Lib.hid (show Below wr.heap.size wr X by rw [← hX]; exact B1.out.alloc B1.out.size _)
        have HRow := Lib.hid (show X.rangeAt w1.heap.size 0 [Value.int .i64 y.k, .string y.t, .int .i64 y.vk, .int .i64 y.vi, .bool false, .string y.vb, .complex .f64 0 0, .int .i64 (y.a : Nat)] from RX.out.row)
        obtain ⟨g7, hg7⟩ : ∃ g, w1.heap.size = g := ⟨_, rfl⟩
        rw [hg7] at HRow ⊢
        obtain ⟨X2, hX2⟩ : ∃ X2, X.alloc (.cells #[Value.int .i64 y.k, .string y.t, .int .i64 y.vk, .int .i64 y.vi, .bool false, .string y.vb, .complex .f64 0 0, .int .i64 (y.a : Nat)] 36) = X2 := ⟨_, rfl⟩
        have HX2 := Lib.hid hX2
        have SX := Lib.hid (show SB X2 (some ⟨X.heap.size, 0, none⟩) (seT.s * 1) (cellsE Tk.cells [y]) by rw [← hX2]; exact sb_tok X y)
        have BX2 := Lib.hid (show Below wr.heap.size wr X2 by rw [← hX2]; exact BX.out.alloc BX.out.size _)
        have VX := Lib.hid (HV.out.below BX2.out)
        have HB1 := Lib.hid (show w.heap.size ≤ X2.heap.size from Nat.le_trans HB.out.size BX2.out.size)
        have HCE := Lib.hid (show cellsE Tk.cells done ++ cellsE Tk.cells [y] = cellsE Tk.cells (done ++ [y]) from (cellsE_app _ _).symm)
        have CS1 := Lib.hid (CS.out q (by have := OK2.out.1.1; rw [← HLL.out]; exact this))
        have HLT2 := Lib.hid OK2.out
        clear hX hg7 hX2 hst
        go_upto_region 10 with (first
          | (with_reducible refine wpList_load_mid rfl 36 (.tmp 7) rfl g7 0 rfl [Value.int .i64 y.k, .string y.t, .int .i64 y.vk, .int .i64 y.vi, .bool false, .string y.vb, .complex .f64 0 0, .int .i64 (y.a : Nat)] _ HRow.out Tryd.underlying36 rfl HI.out ?_)
          | (at_builtin; go_loud (rw [HX2.out]; refine so_append seT_ok rfl (.tmp 31) (.tmp 33) rfl _ rfl VX.out _ 1 1 _ rfl SX.out (by have := HLE.out; omega) HB1.out ?_; intro v' w3 hv' hb3; have HV3 := Lib.hid (show TL w.heap.size w3 v' (done ++ [y]) from SO.base hv' (Nat.le_refl _) HCE.out (by simp)); have B3 := Lib.hid ((HB.out.trans (BX2.out.mono HB.out.size)).trans hb3); obtain ⟨A', c', hvv, -, -⟩ := HV3.out.form; rw [show (done ++ [y]).length = done.length + 1 by simp] at hvv; subst hvv; clear hv' hb3)))
        go_wp2_with (go_at_call 28; go_loud (refine (CS1.out _).mono ?_; rintro e w4 ⟨rfl, rfl⟩))
        go_roundw
        case rel => exact ⟨done ++ [y], q, rfl, HV3.out, B3.out, HLT2.out.1⟩
        case measure => have := HQ.out; have := HBL.out; simp [intOf]; omega
      · have BAD2 := Lib.hid (BAD.out h0)
        obtain ⟨e0, he0⟩ : ∃ e0, o.e = e0 := ⟨_, rfl⟩
        obtain ⟨q, hq⟩ : ∃ q, b + o.n = q := ⟨_, rfl⟩
        have CO2 := Lib.hid (CO.out.mono fun e w' h => (show Below wr.heap.size wr w' ∧ ∃ y : Tk, e = .returned (.tuple #[.agg #[.int .i64 y.k, .string y.t, .int .i64 y.vk, .int .i64 y.vi, .bool false, .string y.vb, .complex .f64 0 0, .int .i64 (y.a : Nat)], .int .i64 (q : Nat), .int .i64 e0]) from by obtain ⟨h1, y, h2, -⟩ := h; rw [hq, he0] at h2; exact ⟨h1, y, h2⟩))
        rw [he0, hq] at BAD2
        rw [he0] at h0
        have h0b : (e0 != 0) = true := by simpa using h0
        clear hv hb hlf hend hsl hil hbb hoo h0 he0 hq OK BAD CO hblt
        go_wp2_with (go_at_call 29; go_loud (refine CO2.out.mono ?_; rintro e w1 ⟨b1, y, rfl⟩; have B1 := Lib.hid b1; clear b1))
        go_ret3
        exact TI.out _ _ _ _ _ BAD2.out rfl rfl ((HB.out.trans (B1.out.mono HB.out.size)).alloc (Nat.le_trans HB.out.size B1.out.size) _) ((HV.out.below B1.out).below ((Below.refl _ _).alloc (Nat.le_refl _) _))
set_option maxHeartbeats 4000000 in
theorem wrTokens (s : ByteArray) (w : World) (hs : s.size ≤ 65536) : Calls Tryd.prog 10 #[.string s] w (TokensIs s w) := by
  have CA := Lib.hid (wrAhead s w hs)
  unfold AheadIs at CA
  have TI := Lib.hid (show ∀ e w', (Below w.heap.size w w' ∧ if (toksP (strB s)).2.2 = 0 then ∃ v, e = .returned (.tuple #[v, .int .i64 0, .int .i64 0]) ∧ TL w.heap.size w' v (toksP (strB s)).1 else e = .returned (.tuple #[.slice none 0 0, .int .i64 ((toksP (strB s)).2.1 : Nat), .int .i64 (toksP (strB s)).2.2]) ) → TokensIs s w e w' from fun e w' h => by
    unfold TokensIs
    rw [if_neg (by omega)]
    exact h)
  obtain ⟨T, hT⟩ : ∃ T, toksP (strB s) = T := ⟨_, rfl⟩
  rw [hT] at CA TI
  obtain ⟨l, q, e0⟩ := T
  dsimp only at CA TI
  clear hT hs
  by_cases h0 : e0 = 0
  · subst h0
    go_enter Tryd.func10, Tryd.ntmps10
    go_wp2_with (go_at_call 13; go_loud (refine CA.out.mono ?_; rintro e w1 ⟨b1, v, rfl, t1⟩; have B1 := Lib.hid b1; have T1 := Lib.hid t1; clear b1 t1))
    go_ret3
    exact TI.out _ _ ⟨B1.out, by first | (rw [if_pos trivial]; exact ⟨v, rfl, T1.out⟩) | (rw [if_pos rfl]; exact ⟨v, rfl, T1.out⟩)⟩
  · have h0b : (e0 != 0) = true := by simpa using h0
    have H0 := Lib.hid h0
    clear h0
    go_enter Tryd.func10, Tryd.ntmps10
    go_wp2_with (go_at_call 13; go_loud (refine CA.out.mono ?_; rintro e w1 ⟨b1, v, rfl, t1⟩; have B1 := Lib.hid b1; clear b1 t1))
    go_ret3
    exact TI.out _ _ ⟨B1.out, by rw [if_neg H0.out]; rfl⟩
set_option maxHeartbeats 4000000 in
theorem wrTokensLong (s : ByteArray) (w : World) (hs : 65536 < s.size) (hm : s.size ≤ 140737488351232) :
    Calls Tryd.prog 10 #[.string s] w fun e w' => e = .returned (.tuple #[.slice none 0 0, .int .i64 65536, .int .i64 3]) ∧ w = w' := by
  have CA := Lib.hid (wrAheadLong s w hs hm)
  clear hs hm
  go_enter Tryd.func10, Tryd.ntmps10
  go_wp2_with (go_at_call 13; go_loud (refine CA.out.mono ?_; rintro e w1 ⟨rfl, rfl⟩))
  go_ret3
  exact ⟨rfl, rfl⟩
end Go.Proofs.YtagangneoibbcaaDoor
