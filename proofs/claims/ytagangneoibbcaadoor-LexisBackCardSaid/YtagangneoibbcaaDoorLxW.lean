/- Layer 12: the walk of next (made by wip/gen/mklxn.py). -/
import Derived.Test.YtagangneoibbcaaDoorLxE3
set_option linter.unusedVariables false
namespace Go.Proofs.YtagangneoibbcaaDoor
set_option maxRecDepth 100000
set_option maxRecDepth 100000
open Go.RowKit

theorem takeWhile_is (q : Int → Bool) (L : List Int) (b i : Nat) (hb : b ≤ i) (hi : i ≤ L.length) (h1 : ∀ m, b ≤ m → m < i → q (chP L m) = true) (h2 : q (chP L i) = false) : (L.drop b).takeWhile q = (L.drop b).take (i - b) := by
  obtain ⟨d, rfl⟩ : ∃ d, i = b + d := ⟨i - b, by omega⟩
  rw [Nat.add_sub_cancel_left]
  clear hb
  induction d generalizing b with
  | zero =>
    rw [List.take_zero]
    rcases Nat.lt_or_ge b L.length with hlt | hge
    · rw [chP_in hlt, List.takeWhile_cons, if_neg (by rw [show chP L b = chP L (b + 0) from rfl, h2]; simp)]
    · rw [List.drop_eq_nil_of_le hge]; rfl
  | succ d ih =>
    have hlt : b < L.length := by omega
    rw [chP_in hlt, List.takeWhile_cons, if_pos (h1 b (Nat.le_refl _) (by omega)), List.take_succ_cons]
    rw [ih (b + 1) (by omega) (fun m h3 h4 => h1 m (by omega) (by omega)) (by rw [show b + 1 + d = b + (d + 1) by omega]; exact h2)]

theorem EndIs.form {g : Nat} {s : ByteArray} {x : Tk} {f p : Int} {w w' : World} {o : One} {b j : Nat} {e : Ending} (h : EndIs g s x f p w o b j e w') : ∃ q, e = .returned (.bool q) := by
  unfold EndIs at h
  by_cases h0 : o.e = 0
  · rw [if_pos h0] at h; exact ⟨true, h.2.1⟩
  · rw [if_neg h0] at h; exact ⟨false, h.2.1⟩
theorem EndIs.pre {g : Nat} {s : ByteArray} {x : Tk} {f p : Int} {w W w' : World} {o : One} {b j : Nat} {e : Ending} (h : EndIs g s x f p W o b j e w') (ho : Out (fun k => k = g) w W) : EndIs g s x f p w o b j e w' := ⟨ho.then h.1, h.2⟩
theorem EndIs.place {g : Nat} {s : ByteArray} {x : Tk} {f p : Int} {w w' : World} {o : One} {b : Nat} {e : Ending} (h : EndIs g s x f p w o b b e w') (hn : ¬ o.e = 0 → o.n = 0) : EndIs g s x f p w o b (b + o.n) e w' := by
  unfold EndIs at h ⊢
  by_cases h0 : o.e = 0
  · rw [if_pos h0] at h ⊢; exact h
  · rw [if_neg h0] at h ⊢; rw [hn h0]; exact h
theorem nameP_n (a : Nat) (R : List Int) (h : ¬ (nameP a R).e = 0) : (nameP a R).n = 0 := by
  unfold nameP at h ⊢; split at h
  · rw [if_pos ‹_›]
  · exact absurd rfl h
theorem intP_n (a : Nat) (R : List Int) (h : ¬ (intP a R).e = 0) : (intP a R).n = 0 := by
  unfold intP at h ⊢; split at h
  · rw [if_pos ‹_›]
  · exact absurd rfl h
theorem signP_n (a : Nat) (R : List Int) (h : ¬ (signP a R).e = 0) : (signP a R).n = 0 := by
  unfold signP at h ⊢; split at h
  · rw [if_pos ‹_›]
  · exact absurd rfl h

/-- What next leaves. -/
def NextIs (L : List Int) (i g : Nat) (s : ByteArray) (x : Tk) (f p : Int) (w : World) (e : Ending) (w' : World) : Prop :=
  if i + skipN false (L.drop i) = L.length then Out (fun k => k = g) w w' ∧ e = .returned (.bool false) ∧ Rd w' g s L.length x f p
  else EndIs g s x f p w (oneP (i + skipN false (L.drop i)) (L.drop (i + skipN false (L.drop i)))) (i + skipN false (L.drop i)) (i + skipN false (L.drop i) + (oneP (i + skipN false (L.drop i)) (L.drop (i + skipN false (L.drop i)))).n) e w'
def fnx (g : Nat) (c b : Value) (u : Nat → Value) : Act := { tmps := #[.pointer (some ⟨g, 0, none⟩), u 1, u 2, c, b, u 5, u 6, u 7, u 8, u 9, u 10, u 11, u 12, u 13, u 14, u 15, u 16, u 17, u 18, u 19, u 20, u 21, u 22, u 23, u 24, u 25, u 26, u 27, u 28, u 29, u 30, u 31, u 32, u 33, u 34, u 35, u 36, u 37, u 38, u 39, u 40, u 41, u 42, u 43, u 44, u 45, u 46, u 47, u 48, u 49, u 50, u 51, u 52, u 53, u 54, u 55, u 56, u 57, u 58, u 59, u 60, u 61, u 62, u 63, u 64, u 65, u 66, u 67, u 68, u 69, u 70, u 71, u 72, u 73, u 74, u 75, u 76, u 77, u 78, u 79, u 80, u 81, u 82, u 83, u 84, u 85, u 86, u 87, u 88, u 89, u 90, u 91, u 92, u 93, u 94, u 95, u 96, u 97, u 98, u 99, u 100, u 101, u 102, u 103, u 104, u 105, u 106, u 107, u 108, u 109], defers := [] }
/-- How far it has come: 0 between tokens, 1 in a remark, 2 in a name, 3 in a number, 4 at a sign; T: where the token begins. -/
def PhN (L : List Int) (T l j : Nat) (c b : Value) : Prop :=
  match l with
  | 0 => j ≤ L.length ∧ T = j + skipN false (L.drop j)
  | 1 => j < L.length ∧ T = j + 1 + skipN true (L.drop (j + 1))
  | 2 => j < L.length ∧ b = .int .i64 (T : Nat) ∧ T ≤ j ∧ lowB (chP L T) = true ∧ ∀ m, T ≤ m → m ≤ j → innB (chP L m) = true
  | 3 => j < L.length ∧ b = .int .i64 (T : Nat) ∧ T ≤ j ∧ lowB (chP L T) = false ∧ digB (chP L T) = true ∧ ∀ m, T ≤ m → m ≤ j → digB (chP L m) = true
  | 4 => j < L.length ∧ b = .int .i64 (T : Nat) ∧ c = .int .i32 (chP L T) ∧ j = T ∧ lowB (chP L T) = false ∧ digB (chP L T) = false ∧ chP L T ≠ 34
  | _ => False
def JN (L : List Int) (T g : Nat) (s : ByteArray) (x : Tk) (f p : Int) (w : World) (l : Nat) (a : Act) (W : World) : Prop :=
  ∃ (j : Nat) (c b : Value) (u : Nat → Value), a = fnx g c b u ∧ Rd W g s j x f p ∧ ErrAt W ∧ Out (fun k => k = g) w W ∧ PhN L T l j c b
theorem JN.mk' {L : List Int} {T g : Nat} {s : ByteArray} {x : Tk} {f p : Int} {w : World} {l : Nat} {a : Act} {W : World} (j : Nat) (c b : Value) (h : a = fnx g c b (fun k => a.tmps.getD k undef)) (r : Rd W g s j x f p) (er : ErrAt W) (o : Out (fun k => k = g) w W) (ph : PhN L T l j c b) : JN L T g s x f p w l a W := ⟨j, c, b, _, h, r, er, o, ph⟩
theorem JN.lt {L : List Int} {T g : Nat} {s : ByteArray} {x : Tk} {f p : Int} {w : World} {l : Nat} {a : Act} {W : World} (h : JN L T g s x f p w l a W) : l < 5 := by
  obtain ⟨j, c, b, u, -, -, -, -, ph⟩ := h
  match l, ph with
  | 0, _ => omega
  | 1, _ => omega
  | 2, _ => omega
  | 3, _ => omega
  | 4, _ => omega

section
variable {w : World} {g i : Nat} {s : ByteArray} {x : Tk} {f p : Int}
set_option maxHeartbeats 16000000 in
theorem wNext (h : Rd w g s i x f p) (he : ErrAt w) (hg : 3 < g) (hi : i ≤ s.size) (hs : s.size ≤ 65536) :
    Calls Tryd.prog 27 #[.pointer (some ⟨g, 0, none⟩)] w (NextIs (strB s) i g s x f p w) := by
  have hgE := Lib.hid hg
  obtain ⟨L, hL⟩ : ∃ L, strB s = L := ⟨_, rfl⟩
  have HLS := Lib.hid hL.symm
  have HLL := Lib.hid (show L.length = s.size by rw [← hL]; exact strB_len s)
  have HH := Lib.hid h
  have HER := Lib.hid he
  obtain ⟨T, hT⟩ : ∃ T, i + skipN false (L.drop i) = T := ⟨_, rfl⟩
  have HTT := Lib.hid hT
  rw [hL]
  clear hL h he hg hT
  go_enter Tryd.func27, Tryd.ntmps27
  go_wp2
  refine wp_scope_gotos5 rfl rfl rfl rfl rfl (JN L T g s x f p w) (fun l _ W => 2 * (s.size - posW W g) + if l = 0 then 1 else 0) (fun l a W h => h.lt) ?_ ?_ ?_ ?_ ?_ ?_
  case refine_1 =>
    go_wp2
    go_step3
    obtain ⟨j, hj0, R, ph⟩ : ∃ j, j = i ∧ Rd w g s j x f p ∧ (j ≤ L.length ∧ T = j + skipN false (L.drop j)) := ⟨i, rfl, HH.out, by rw [HLL.out]; exact hi, HTT.out.symm⟩
    have er : ErrAt w := HER.out
    have o : Out (fun k => k = g) w w := Out.refl _ _
    clear hj0
    obtain ⟨hjl, hT⟩ := ph
    have c1 : w.cell? ⟨g, 1, none⟩ = some (.int .i64 (j : Nat)) := R.cell 1
    have f1 := R.frozen 1
    have HSZ := Lib.hid (show L.length = s.size from HLL.out)
    have HQX := Lib.hid (show j ≤ s.size by rw [← HLL.out]; exact hjl)
    have CL := Lib.hid (wLook R (by rw [← HLL.out]; exact hjl) hs)
    rw [← HLS.out] at CL
    have b0 : (0 : Int) ≤ (j : Int) := by omega
    have b1 : (j : Int) ≤ 65536 := by have := HQX.out; omega
    have HR := Lib.hid R
    have HEA := Lib.hid er
    have HO := Lib.hid o
    have HPOS := Lib.hid R.pos
    have HJL := Lib.hid hjl
    clear R er o hjl
    by_cases hlt : j < L.length
    · obtain ⟨c, hc⟩ : ∃ c, chP L j = c := ⟨_, rfl⟩
      have hcb : 0 ≤ c := by
        have h2 := chP_at s j (by rw [← HLL.out]; exact hlt)
        rw [← HLS.out, hc] at h2; omega
      have HD := Lib.hid (show L.drop j = c :: L.drop (j + 1) by rw [← hc]; exact chP_in hlt)
      have HC := Lib.hid hc
      have HLT := Lib.hid hlt
      rw [hc] at CL
      have e0 : (c == -1) = false := by simp; omega
      have CG := Lib.hid fun W => wGap c W
      have CLe := Lib.hid fun W => wLetter c W
      have CD := Lib.hid fun W => wDigit c W
      have HT := Lib.hid hT
      clear hT hlt hc
      rcases hg : gapB c with _ | _
      · rw [hg] at CG
        by_cases h35 : c = 35
        · have e35 : (c == 35) = true := by simpa using h35
          have PH := Lib.hid (show PhN L T 1 j (.int .i32 c) (.int .i64 (j : Nat)) from ⟨HLT.out, by rw [HT.out, HD.out, h35, skip_hash]; omega⟩)
          clear h35 hg
          go_wp2_with (first | (go_at_call 38; go_loud (refine CL.out.mono ?_; rintro e w1 ⟨rfl, n1, hw1⟩; have R2 := Lib.hid (show Rd w1 g s j x f p by rw [hw1]; exact (HR.out).drewN n1); have E2 := Lib.hid (show ErrAt w1 by rw [hw1]; exact HEA.out); have O2 := Lib.hid (show Out (fun k => k = g) w w1 by rw [hw1]; exact (HO.out).drewN n1); have c2 : w1.cell? ⟨g, 1, none⟩ = some (.int .i64 (j : Nat)) := R2.out.cell 1; have f2 := R2.out.frozen 1; clear hw1)) | (go_at_call 41; go_loud (refine (CG.out _).mono ?_; rintro e wz ⟨rfl, rfl⟩)))
          go_step3
          first | exact ⟨JN.mk' (j) _ _ rfl (R2.out) (E2.out) (O2.out) (PH.out), by rw [(R2.out).pos, HPOS.out]; have := HSZ.out; have := HQX.out; simp <;> omega⟩ | exact JN.mk' (j) _ _ rfl (R2.out) (E2.out) (O2.out) (PH.out)
        have e35 : (c == 35) = false := by simpa using h35
        have HTJ := Lib.hid (show T = j by rw [HT.out, HD.out, skip_tok hg h35]; rfl)
        rcases hl : lowB c with _ | _
        · rw [hl] at CLe
          rcases hd : digB c with _ | _
          · rw [hd] at CD
            by_cases h34 : c = 34
            · have e34 : (c == 34) = true := by simpa using h34
              have CE := Lib.hid fun W (r : Rd W g s j x f p) => wEndText r (by rw [← HLL.out]; exact HLT.out) hs
              have HON := Lib.hid (show oneP j (L.drop j) = textP j (L.drop j) by unfold oneP; rw [HD.out, chP_0, hl, hd, if_neg (by simp), if_neg (by simp), if_pos h34])
              rw [← HLS.out] at CE
              clear h34 h35 hg hl hd
              go_wp2_with (first | (go_at_call 44; go_loud (refine (CE.out _ R2.out).mono ?_; rintro e w3 h3; obtain ⟨bb, rfl⟩ := h3.form; have HE3 := Lib.hid h3; clear h3)) | (go_at_call 38; go_loud (refine CL.out.mono ?_; rintro e w1 ⟨rfl, n1, hw1⟩; have R2 := Lib.hid (show Rd w1 g s j x f p by rw [hw1]; exact (HR.out).drewN n1); have E2 := Lib.hid (show ErrAt w1 by rw [hw1]; exact HEA.out); have O2 := Lib.hid (show Out (fun k => k = g) w w1 by rw [hw1]; exact (HO.out).drewN n1); have c2 : w1.cell? ⟨g, 1, none⟩ = some (.int .i64 (j : Nat)) := R2.out.cell 1; have f2 := R2.out.frozen 1; clear hw1)) | (go_at_call 41; go_loud (refine (CG.out _).mono ?_; rintro e wz ⟨rfl, rfl⟩)) | (go_at_call 42; go_loud (refine (CLe.out _).mono ?_; rintro e wz ⟨rfl, rfl⟩)) | (go_at_call 43; go_loud (refine (CD.out _).mono ?_; rintro e wz ⟨rfl, rfl⟩)))
              rw [ExJ_ret]
              go_ret
              unfold NextIs
              rw [HTT.out, HTJ.out, if_neg (by have := HLT.out; omega), HON.out]
              exact HE3.out.pre O2.out
            · have e34 : (c == 34) = false := by simpa using h34
              have PH := Lib.hid (show PhN L T 4 j (.int .i32 c) (.int .i64 (j : Nat)) from ⟨HLT.out, by rw [HTJ.out], by rw [HTJ.out, HC.out], HTJ.out.symm, by rw [HTJ.out, HC.out]; exact hl, by rw [HTJ.out, HC.out]; exact hd, by rw [HTJ.out, HC.out]; exact h34⟩)
              clear h34 h35 hg hl hd
              go_wp2_with (first | (go_at_call 38; go_loud (refine CL.out.mono ?_; rintro e w1 ⟨rfl, n1, hw1⟩; have R2 := Lib.hid (show Rd w1 g s j x f p by rw [hw1]; exact (HR.out).drewN n1); have E2 := Lib.hid (show ErrAt w1 by rw [hw1]; exact HEA.out); have O2 := Lib.hid (show Out (fun k => k = g) w w1 by rw [hw1]; exact (HO.out).drewN n1); have c2 : w1.cell? ⟨g, 1, none⟩ = some (.int .i64 (j : Nat)) := R2.out.cell 1; have f2 := R2.out.frozen 1; clear hw1)) | (go_at_call 41; go_loud (refine (CG.out _).mono ?_; rintro e wz ⟨rfl, rfl⟩)) | (go_at_call 42; go_loud (refine (CLe.out _).mono ?_; rintro e wz ⟨rfl, rfl⟩)) | (go_at_call 43; go_loud (refine (CD.out _).mono ?_; rintro e wz ⟨rfl, rfl⟩)))
              go_step3
              first | exact ⟨JN.mk' (j) _ _ rfl (R2.out) (E2.out) (O2.out) (PH.out), by rw [(R2.out).pos, HPOS.out]; have := HSZ.out; have := HQX.out; simp <;> omega⟩ | exact JN.mk' (j) _ _ rfl (R2.out) (E2.out) (O2.out) (PH.out)
          · rw [hd] at CD
            have PH := Lib.hid (show PhN L T 3 j (.int .i32 c) (.int .i64 (j : Nat)) from ⟨HLT.out, by rw [HTJ.out], by rw [HTJ.out]; exact Nat.le_refl _, by rw [HTJ.out, HC.out]; exact hl, by rw [HTJ.out, HC.out]; exact hd, fun m h1 h2 => by rw [HTJ.out] at h1; rw [show m = j by omega, HC.out]; exact hd⟩)
            clear h35 hg hl hd
            go_wp2_with (first | (go_at_call 38; go_loud (refine CL.out.mono ?_; rintro e w1 ⟨rfl, n1, hw1⟩; have R2 := Lib.hid (show Rd w1 g s j x f p by rw [hw1]; exact (HR.out).drewN n1); have E2 := Lib.hid (show ErrAt w1 by rw [hw1]; exact HEA.out); have O2 := Lib.hid (show Out (fun k => k = g) w w1 by rw [hw1]; exact (HO.out).drewN n1); have c2 : w1.cell? ⟨g, 1, none⟩ = some (.int .i64 (j : Nat)) := R2.out.cell 1; have f2 := R2.out.frozen 1; clear hw1)) | (go_at_call 41; go_loud (refine (CG.out _).mono ?_; rintro e wz ⟨rfl, rfl⟩)) | (go_at_call 42; go_loud (refine (CLe.out _).mono ?_; rintro e wz ⟨rfl, rfl⟩)) | (go_at_call 43; go_loud (refine (CD.out _).mono ?_; rintro e wz ⟨rfl, rfl⟩)))
            go_step3
            first | exact ⟨JN.mk' (j) _ _ rfl (R2.out) (E2.out) (O2.out) (PH.out), by rw [(R2.out).pos, HPOS.out]; have := HSZ.out; have := HQX.out; simp <;> omega⟩ | exact JN.mk' (j) _ _ rfl (R2.out) (E2.out) (O2.out) (PH.out)
        · rw [hl] at CLe
          have PH := Lib.hid (show PhN L T 2 j (.int .i32 c) (.int .i64 (j : Nat)) from ⟨HLT.out, by rw [HTJ.out], by rw [HTJ.out]; exact Nat.le_refl _, by rw [HTJ.out, HC.out]; exact hl, fun m h1 h2 => by rw [HTJ.out] at h1; rw [show m = j by omega, HC.out]; unfold innB; rw [hl]; rfl⟩)
          clear h35 hg hl
          go_wp2_with (first | (go_at_call 38; go_loud (refine CL.out.mono ?_; rintro e w1 ⟨rfl, n1, hw1⟩; have R2 := Lib.hid (show Rd w1 g s j x f p by rw [hw1]; exact (HR.out).drewN n1); have E2 := Lib.hid (show ErrAt w1 by rw [hw1]; exact HEA.out); have O2 := Lib.hid (show Out (fun k => k = g) w w1 by rw [hw1]; exact (HO.out).drewN n1); have c2 : w1.cell? ⟨g, 1, none⟩ = some (.int .i64 (j : Nat)) := R2.out.cell 1; have f2 := R2.out.frozen 1; clear hw1)) | (go_at_call 41; go_loud (refine (CG.out _).mono ?_; rintro e wz ⟨rfl, rfl⟩)) | (go_at_call 42; go_loud (refine (CLe.out _).mono ?_; rintro e wz ⟨rfl, rfl⟩)))
          go_step3
          first | exact ⟨JN.mk' (j) _ _ rfl (R2.out) (E2.out) (O2.out) (PH.out), by rw [(R2.out).pos, HPOS.out]; have := HSZ.out; have := HQX.out; simp <;> omega⟩ | exact JN.mk' (j) _ _ rfl (R2.out) (E2.out) (O2.out) (PH.out)
      · rw [hg] at CG
        have PH := Lib.hid (show PhN L T 0 (j + 1) (.int .i32 c) (.int .i64 (j : Nat)) from ⟨HLT.out, by rw [HT.out, HD.out, skip_gap hg]; omega⟩)
        clear hg
        go_wp2_with (first | (go_at_call 38; go_loud (refine CL.out.mono ?_; rintro e w1 ⟨rfl, n1, hw1⟩; have R2 := Lib.hid (show Rd w1 g s j x f p by rw [hw1]; exact (HR.out).drewN n1); have E2 := Lib.hid (show ErrAt w1 by rw [hw1]; exact HEA.out); have O2 := Lib.hid (show Out (fun k => k = g) w w1 by rw [hw1]; exact (HO.out).drewN n1); have c2 : w1.cell? ⟨g, 1, none⟩ = some (.int .i64 (j : Nat)) := R2.out.cell 1; have f2 := R2.out.frozen 1; clear hw1)) | (go_at_call 41; go_loud (refine (CG.out _).mono ?_; rintro e wz ⟨rfl, rfl⟩)))
        go_step3
        first | exact ⟨JN.mk' (j + 1) _ _ rfl (R2.out.inc) (E2.out.out (setCell_out _) hgE.out) (O2.out.then (setCell_out _)) (PH.out), by rw [(R2.out.inc).pos, HPOS.out]; have := HSZ.out; have := HQX.out; have := HLT.out; simp <;> omega⟩ | exact JN.mk' (j + 1) _ _ rfl (R2.out.inc) (E2.out.out (setCell_out _) hgE.out) (O2.out.then (setCell_out _)) (PH.out)
    · have hc : chP L j = -1 := chP_end L j (by omega)
      rw [hc] at CL
      have HJ := Lib.hid (show j = L.length by have := HJL.out; omega)
      have HTJ := Lib.hid (show T = L.length by rw [hT, List.drop_eq_nil_of_le (by omega), skip_nil, ← HJ.out]; rfl)
      clear hT hlt hc
      go_wp2_with (first | (go_at_call 38; go_loud (refine CL.out.mono ?_; rintro e w1 ⟨rfl, n1, hw1⟩; have R2 := Lib.hid (show Rd w1 g s j x f p by rw [hw1]; exact (HR.out).drewN n1); have E2 := Lib.hid (show ErrAt w1 by rw [hw1]; exact HEA.out); have O2 := Lib.hid (show Out (fun k => k = g) w w1 by rw [hw1]; exact (HO.out).drewN n1); have c2 : w1.cell? ⟨g, 1, none⟩ = some (.int .i64 (j : Nat)) := R2.out.cell 1; have f2 := R2.out.frozen 1; clear hw1)))
      rw [ExJ_ret]
      go_ret
      unfold NextIs
      rw [HTT.out, HTJ.out, if_pos rfl]
      exact ⟨O2.out, rfl, HJ.out ▸ R2.out⟩
  case refine_2 =>
    rintro _ W ⟨j, c, b, u, rfl, R, er, o, ph⟩
    unfold fnx
    obtain ⟨hjl, hT⟩ := ph
    have c1 : W.cell? ⟨g, 1, none⟩ = some (.int .i64 (j : Nat)) := R.cell 1
    have f1 := R.frozen 1
    have HSZ := Lib.hid (show L.length = s.size from HLL.out)
    have HQX := Lib.hid (show j ≤ s.size by rw [← HLL.out]; exact hjl)
    have CL := Lib.hid (wLook R (by rw [← HLL.out]; exact hjl) hs)
    rw [← HLS.out] at CL
    have b0 : (0 : Int) ≤ (j : Int) := by omega
    have b1 : (j : Int) ≤ 65536 := by have := HQX.out; omega
    have HR := Lib.hid R
    have HEA := Lib.hid er
    have HO := Lib.hid o
    have HPOS := Lib.hid R.pos
    have HJL := Lib.hid hjl
    clear R er o hjl
    by_cases hlt : j < L.length
    · obtain ⟨c, hc⟩ : ∃ c, chP L j = c := ⟨_, rfl⟩
      have hcb : 0 ≤ c := by
        have h2 := chP_at s j (by rw [← HLL.out]; exact hlt)
        rw [← HLS.out, hc] at h2; omega
      have HD := Lib.hid (show L.drop j = c :: L.drop (j + 1) by rw [← hc]; exact chP_in hlt)
      have HC := Lib.hid hc
      have HLT := Lib.hid hlt
      rw [hc] at CL
      have e0 : (c == -1) = false := by simp; omega
      have CG := Lib.hid fun W => wGap c W
      have CLe := Lib.hid fun W => wLetter c W
      have CD := Lib.hid fun W => wDigit c W
      have HT := Lib.hid hT
      clear hT hlt hc
      rcases hg : gapB c with _ | _
      · rw [hg] at CG
        by_cases h35 : c = 35
        · have e35 : (c == 35) = true := by simpa using h35
          have PH := Lib.hid (show PhN L T 1 j (.int .i32 c) (.int .i64 (j : Nat)) from ⟨HLT.out, by rw [HT.out, HD.out, h35, skip_hash]; omega⟩)
          clear h35 hg
          go_wp2_with (first | (go_at_call 38; go_loud (refine CL.out.mono ?_; rintro e w1 ⟨rfl, n1, hw1⟩; have R2 := Lib.hid (show Rd w1 g s j x f p by rw [hw1]; exact (HR.out).drewN n1); have E2 := Lib.hid (show ErrAt w1 by rw [hw1]; exact HEA.out); have O2 := Lib.hid (show Out (fun k => k = g) w w1 by rw [hw1]; exact (HO.out).drewN n1); have c2 : w1.cell? ⟨g, 1, none⟩ = some (.int .i64 (j : Nat)) := R2.out.cell 1; have f2 := R2.out.frozen 1; clear hw1)) | (go_at_call 41; go_loud (refine (CG.out _).mono ?_; rintro e wz ⟨rfl, rfl⟩)))
          go_step3
          first | exact ⟨JN.mk' (j) _ _ rfl (R2.out) (E2.out) (O2.out) (PH.out), by rw [(R2.out).pos, HPOS.out]; have := HSZ.out; have := HQX.out; simp <;> omega⟩ | exact JN.mk' (j) _ _ rfl (R2.out) (E2.out) (O2.out) (PH.out)
        have e35 : (c == 35) = false := by simpa using h35
        have HTJ := Lib.hid (show T = j by rw [HT.out, HD.out, skip_tok hg h35]; rfl)
        rcases hl : lowB c with _ | _
        · rw [hl] at CLe
          rcases hd : digB c with _ | _
          · rw [hd] at CD
            by_cases h34 : c = 34
            · have e34 : (c == 34) = true := by simpa using h34
              have CE := Lib.hid fun W (r : Rd W g s j x f p) => wEndText r (by rw [← HLL.out]; exact HLT.out) hs
              have HON := Lib.hid (show oneP j (L.drop j) = textP j (L.drop j) by unfold oneP; rw [HD.out, chP_0, hl, hd, if_neg (by simp), if_neg (by simp), if_pos h34])
              rw [← HLS.out] at CE
              clear h34 h35 hg hl hd
              go_wp2_with (first | (go_at_call 44; go_loud (refine (CE.out _ R2.out).mono ?_; rintro e w3 h3; obtain ⟨bb, rfl⟩ := h3.form; have HE3 := Lib.hid h3; clear h3)) | (go_at_call 38; go_loud (refine CL.out.mono ?_; rintro e w1 ⟨rfl, n1, hw1⟩; have R2 := Lib.hid (show Rd w1 g s j x f p by rw [hw1]; exact (HR.out).drewN n1); have E2 := Lib.hid (show ErrAt w1 by rw [hw1]; exact HEA.out); have O2 := Lib.hid (show Out (fun k => k = g) w w1 by rw [hw1]; exact (HO.out).drewN n1); have c2 : w1.cell? ⟨g, 1, none⟩ = some (.int .i64 (j : Nat)) := R2.out.cell 1; have f2 := R2.out.frozen 1; clear hw1)) | (go_at_call 41; go_loud (refine (CG.out _).mono ?_; rintro e wz ⟨rfl, rfl⟩)) | (go_at_call 42; go_loud (refine (CLe.out _).mono ?_; rintro e wz ⟨rfl, rfl⟩)) | (go_at_call 43; go_loud (refine (CD.out _).mono ?_; rintro e wz ⟨rfl, rfl⟩)))
              rw [ExJ_ret]
              go_ret
              unfold NextIs
              rw [HTT.out, HTJ.out, if_neg (by have := HLT.out; omega), HON.out]
              exact HE3.out.pre O2.out
            · have e34 : (c == 34) = false := by simpa using h34
              have PH := Lib.hid (show PhN L T 4 j (.int .i32 c) (.int .i64 (j : Nat)) from ⟨HLT.out, by rw [HTJ.out], by rw [HTJ.out, HC.out], HTJ.out.symm, by rw [HTJ.out, HC.out]; exact hl, by rw [HTJ.out, HC.out]; exact hd, by rw [HTJ.out, HC.out]; exact h34⟩)
              clear h34 h35 hg hl hd
              go_wp2_with (first | (go_at_call 38; go_loud (refine CL.out.mono ?_; rintro e w1 ⟨rfl, n1, hw1⟩; have R2 := Lib.hid (show Rd w1 g s j x f p by rw [hw1]; exact (HR.out).drewN n1); have E2 := Lib.hid (show ErrAt w1 by rw [hw1]; exact HEA.out); have O2 := Lib.hid (show Out (fun k => k = g) w w1 by rw [hw1]; exact (HO.out).drewN n1); have c2 : w1.cell? ⟨g, 1, none⟩ = some (.int .i64 (j : Nat)) := R2.out.cell 1; have f2 := R2.out.frozen 1; clear hw1)) | (go_at_call 41; go_loud (refine (CG.out _).mono ?_; rintro e wz ⟨rfl, rfl⟩)) | (go_at_call 42; go_loud (refine (CLe.out _).mono ?_; rintro e wz ⟨rfl, rfl⟩)) | (go_at_call 43; go_loud (refine (CD.out _).mono ?_; rintro e wz ⟨rfl, rfl⟩)))
              go_step3
              first | exact ⟨JN.mk' (j) _ _ rfl (R2.out) (E2.out) (O2.out) (PH.out), by rw [(R2.out).pos, HPOS.out]; have := HSZ.out; have := HQX.out; simp <;> omega⟩ | exact JN.mk' (j) _ _ rfl (R2.out) (E2.out) (O2.out) (PH.out)
          · rw [hd] at CD
            have PH := Lib.hid (show PhN L T 3 j (.int .i32 c) (.int .i64 (j : Nat)) from ⟨HLT.out, by rw [HTJ.out], by rw [HTJ.out]; exact Nat.le_refl _, by rw [HTJ.out, HC.out]; exact hl, by rw [HTJ.out, HC.out]; exact hd, fun m h1 h2 => by rw [HTJ.out] at h1; rw [show m = j by omega, HC.out]; exact hd⟩)
            clear h35 hg hl hd
            go_wp2_with (first | (go_at_call 38; go_loud (refine CL.out.mono ?_; rintro e w1 ⟨rfl, n1, hw1⟩; have R2 := Lib.hid (show Rd w1 g s j x f p by rw [hw1]; exact (HR.out).drewN n1); have E2 := Lib.hid (show ErrAt w1 by rw [hw1]; exact HEA.out); have O2 := Lib.hid (show Out (fun k => k = g) w w1 by rw [hw1]; exact (HO.out).drewN n1); have c2 : w1.cell? ⟨g, 1, none⟩ = some (.int .i64 (j : Nat)) := R2.out.cell 1; have f2 := R2.out.frozen 1; clear hw1)) | (go_at_call 41; go_loud (refine (CG.out _).mono ?_; rintro e wz ⟨rfl, rfl⟩)) | (go_at_call 42; go_loud (refine (CLe.out _).mono ?_; rintro e wz ⟨rfl, rfl⟩)) | (go_at_call 43; go_loud (refine (CD.out _).mono ?_; rintro e wz ⟨rfl, rfl⟩)))
            go_step3
            first | exact ⟨JN.mk' (j) _ _ rfl (R2.out) (E2.out) (O2.out) (PH.out), by rw [(R2.out).pos, HPOS.out]; have := HSZ.out; have := HQX.out; simp <;> omega⟩ | exact JN.mk' (j) _ _ rfl (R2.out) (E2.out) (O2.out) (PH.out)
        · rw [hl] at CLe
          have PH := Lib.hid (show PhN L T 2 j (.int .i32 c) (.int .i64 (j : Nat)) from ⟨HLT.out, by rw [HTJ.out], by rw [HTJ.out]; exact Nat.le_refl _, by rw [HTJ.out, HC.out]; exact hl, fun m h1 h2 => by rw [HTJ.out] at h1; rw [show m = j by omega, HC.out]; unfold innB; rw [hl]; rfl⟩)
          clear h35 hg hl
          go_wp2_with (first | (go_at_call 38; go_loud (refine CL.out.mono ?_; rintro e w1 ⟨rfl, n1, hw1⟩; have R2 := Lib.hid (show Rd w1 g s j x f p by rw [hw1]; exact (HR.out).drewN n1); have E2 := Lib.hid (show ErrAt w1 by rw [hw1]; exact HEA.out); have O2 := Lib.hid (show Out (fun k => k = g) w w1 by rw [hw1]; exact (HO.out).drewN n1); have c2 : w1.cell? ⟨g, 1, none⟩ = some (.int .i64 (j : Nat)) := R2.out.cell 1; have f2 := R2.out.frozen 1; clear hw1)) | (go_at_call 41; go_loud (refine (CG.out _).mono ?_; rintro e wz ⟨rfl, rfl⟩)) | (go_at_call 42; go_loud (refine (CLe.out _).mono ?_; rintro e wz ⟨rfl, rfl⟩)))
          go_step3
          first | exact ⟨JN.mk' (j) _ _ rfl (R2.out) (E2.out) (O2.out) (PH.out), by rw [(R2.out).pos, HPOS.out]; have := HSZ.out; have := HQX.out; simp <;> omega⟩ | exact JN.mk' (j) _ _ rfl (R2.out) (E2.out) (O2.out) (PH.out)
      · rw [hg] at CG
        have PH := Lib.hid (show PhN L T 0 (j + 1) (.int .i32 c) (.int .i64 (j : Nat)) from ⟨HLT.out, by rw [HT.out, HD.out, skip_gap hg]; omega⟩)
        clear hg
        go_wp2_with (first | (go_at_call 38; go_loud (refine CL.out.mono ?_; rintro e w1 ⟨rfl, n1, hw1⟩; have R2 := Lib.hid (show Rd w1 g s j x f p by rw [hw1]; exact (HR.out).drewN n1); have E2 := Lib.hid (show ErrAt w1 by rw [hw1]; exact HEA.out); have O2 := Lib.hid (show Out (fun k => k = g) w w1 by rw [hw1]; exact (HO.out).drewN n1); have c2 : w1.cell? ⟨g, 1, none⟩ = some (.int .i64 (j : Nat)) := R2.out.cell 1; have f2 := R2.out.frozen 1; clear hw1)) | (go_at_call 41; go_loud (refine (CG.out _).mono ?_; rintro e wz ⟨rfl, rfl⟩)))
        go_step3
        first | exact ⟨JN.mk' (j + 1) _ _ rfl (R2.out.inc) (E2.out.out (setCell_out _) hgE.out) (O2.out.then (setCell_out _)) (PH.out), by rw [(R2.out.inc).pos, HPOS.out]; have := HSZ.out; have := HQX.out; have := HLT.out; simp <;> omega⟩ | exact JN.mk' (j + 1) _ _ rfl (R2.out.inc) (E2.out.out (setCell_out _) hgE.out) (O2.out.then (setCell_out _)) (PH.out)
    · have hc : chP L j = -1 := chP_end L j (by omega)
      rw [hc] at CL
      have HJ := Lib.hid (show j = L.length by have := HJL.out; omega)
      have HTJ := Lib.hid (show T = L.length by rw [hT, List.drop_eq_nil_of_le (by omega), skip_nil, ← HJ.out]; rfl)
      clear hT hlt hc
      go_wp2_with (first | (go_at_call 38; go_loud (refine CL.out.mono ?_; rintro e w1 ⟨rfl, n1, hw1⟩; have R2 := Lib.hid (show Rd w1 g s j x f p by rw [hw1]; exact (HR.out).drewN n1); have E2 := Lib.hid (show ErrAt w1 by rw [hw1]; exact HEA.out); have O2 := Lib.hid (show Out (fun k => k = g) w w1 by rw [hw1]; exact (HO.out).drewN n1); have c2 : w1.cell? ⟨g, 1, none⟩ = some (.int .i64 (j : Nat)) := R2.out.cell 1; have f2 := R2.out.frozen 1; clear hw1)))
      rw [ExJ_ret]
      go_ret
      unfold NextIs
      rw [HTT.out, HTJ.out, if_pos rfl]
      exact ⟨O2.out, rfl, HJ.out ▸ R2.out⟩
  case refine_3 =>
    rintro _ W ⟨j, c, b, u, rfl, R, er, o, ph⟩
    unfold fnx
    obtain ⟨hjl, hT⟩ := ph
    have c1 : W.cell? ⟨g, 1, none⟩ = some (.int .i64 (j : Nat)) := R.cell 1
    have f1 := R.frozen 1
    obtain ⟨q, hq⟩ : ∃ q, j + 1 = q := ⟨_, rfl⟩
    have R1 := Lib.hid (R.inc)
    rw [hq] at R1
    have HQ := Lib.hid hq
    have E1 := Lib.hid (er.out (setCell_out (o := 1) (.int .i64 ((j : Int) + 1))) hgE.out)
    have O1 := Lib.hid (o.then (setCell_out (o := 1) (.int .i64 ((j : Int) + 1))))
    have hjs : j < s.size := by rw [← HLL.out]; exact hjl
    have HSZ := Lib.hid (show L.length = s.size from HLL.out)
    have HQX := Lib.hid (show j + 1 = q ∧ j < s.size from ⟨hq, hjs⟩)
    have CL := Lib.hid (wLook R1.out (by omega) hs)
    rw [← HLS.out] at CL
    obtain ⟨c, hc⟩ : ∃ c, chP L q = c := ⟨_, rfl⟩
    have HC := Lib.hid hc
    rw [hc] at CL
    have b0 : (0 : Int) ≤ (j : Int) := by omega
    have b1 : (j : Int) ≤ 65536 := by omega
    have bq0 : (0 : Int) ≤ (q : Int) := by omega
    have bq1 : (q : Int) ≤ 65537 := by omega
    have HQL := Lib.hid (show c ≠ -1 → q < L.length from fun h => by
      by_cases hlt : q < L.length
      · exact hlt
      · exact absurd (hc.symm.trans (chP_end L q (by omega))) h)
    have HR := Lib.hid R
    have HEA := Lib.hid er
    have HO := Lib.hid o
    have HPOS := Lib.hid R.pos
    have HE := Lib.hid (show c = -1 → L.drop q = [] from fun h => by
      by_cases hlt : q < L.length
      · exfalso
        have h2 := chP_at s q (by rw [← HLL.out]; exact hlt)
        rw [← HLS.out, hc, h] at h2; omega
      · exact List.drop_eq_nil_of_le (by omega))
    have HD := Lib.hid (show c ≠ -1 → L.drop q = c :: L.drop (q + 1) from fun h => by rw [← hc]; exact chP_in (HQL.out h))
    rw [hq] at hT
    have HT := Lib.hid hT
    have HJL := Lib.hid hjl
    clear R er o hjl hT hq hc
    by_cases he : c = -1
    · have PH := Lib.hid (show PhN L T 0 q (.int .i32 c) b from ⟨by have := HQ.out; have := HJL.out; omega, by rw [HT.out, HE.out he, skip_nil, skip_nil]⟩)
      have e0 : (c == -1) = true := by simpa using he
      clear he
      go_wp2_with (first | (go_at_call 38; go_loud (refine CL.out.mono ?_; rintro e w1 ⟨rfl, n1, hw1⟩; have R2 := Lib.hid (show Rd w1 g s q x f p by rw [hw1]; exact (R1.out).drewN n1); have E2 := Lib.hid (show ErrAt w1 by rw [hw1]; exact E1.out); have O2 := Lib.hid (show Out (fun k => k = g) w w1 by rw [hw1]; exact (O1.out).drewN n1); have c2 : w1.cell? ⟨g, 1, none⟩ = some (.int .i64 (q : Nat)) := R2.out.cell 1; have f2 := R2.out.frozen 1; clear hw1)))
      go_step3
      first | exact ⟨JN.mk' (q) _ _ rfl (R2.out) (E2.out) (O2.out) (PH.out), by rw [(R2.out).pos, HPOS.out]; have := HSZ.out; have := HQX.out; simp <;> omega⟩ | exact JN.mk' (q) _ _ rfl (R2.out) (E2.out) (O2.out) (PH.out)
    have e0 : (c == -1) = false := by simpa using he
    by_cases h10 : c = 10
    · have PH := Lib.hid (show PhN L T 0 q (.int .i32 c) b from ⟨by have := HQ.out; have := HJL.out; omega, by rw [HT.out, HD.out he, h10, skip_line]⟩)
      have e1 : (c == 10) = true := by simpa using h10
      clear he h10
      go_wp2_with (first | (go_at_call 38; go_loud (refine CL.out.mono ?_; rintro e w1 ⟨rfl, n1, hw1⟩; have R2 := Lib.hid (show Rd w1 g s q x f p by rw [hw1]; exact (R1.out).drewN n1); have E2 := Lib.hid (show ErrAt w1 by rw [hw1]; exact E1.out); have O2 := Lib.hid (show Out (fun k => k = g) w w1 by rw [hw1]; exact (O1.out).drewN n1); have c2 : w1.cell? ⟨g, 1, none⟩ = some (.int .i64 (q : Nat)) := R2.out.cell 1; have f2 := R2.out.frozen 1; clear hw1)))
      go_step3
      first | exact ⟨JN.mk' (q) _ _ rfl (R2.out) (E2.out) (O2.out) (PH.out), by rw [(R2.out).pos, HPOS.out]; have := HSZ.out; have := HQX.out; simp <;> omega⟩ | exact JN.mk' (q) _ _ rfl (R2.out) (E2.out) (O2.out) (PH.out)
    · have PH := Lib.hid (show PhN L T 1 q (.int .i32 c) b from ⟨HQL.out he, by rw [HT.out, HD.out he, skip_in h10]; omega⟩)
      have e1 : (c == 10) = false := by simpa using h10
      clear he h10
      go_wp2_with (first | (go_at_call 38; go_loud (refine CL.out.mono ?_; rintro e w1 ⟨rfl, n1, hw1⟩; have R2 := Lib.hid (show Rd w1 g s q x f p by rw [hw1]; exact (R1.out).drewN n1); have E2 := Lib.hid (show ErrAt w1 by rw [hw1]; exact E1.out); have O2 := Lib.hid (show Out (fun k => k = g) w w1 by rw [hw1]; exact (O1.out).drewN n1); have c2 : w1.cell? ⟨g, 1, none⟩ = some (.int .i64 (q : Nat)) := R2.out.cell 1; have f2 := R2.out.frozen 1; clear hw1)))
      go_step3
      first | exact ⟨JN.mk' (q) _ _ rfl (R2.out) (E2.out) (O2.out) (PH.out), by rw [(R2.out).pos, HPOS.out]; have := HSZ.out; have := HQX.out; simp <;> omega⟩ | exact JN.mk' (q) _ _ rfl (R2.out) (E2.out) (O2.out) (PH.out)
  case refine_4 =>
    rintro _ W ⟨j, c, b, u, rfl, R, er, o, ph⟩
    unfold fnx
    obtain ⟨hjl, rfl, hTj, hlow, hall⟩ := ph
    have c1 : W.cell? ⟨g, 1, none⟩ = some (.int .i64 (j : Nat)) := R.cell 1
    have f1 := R.frozen 1
    obtain ⟨q, hq⟩ : ∃ q, j + 1 = q := ⟨_, rfl⟩
    have R1 := Lib.hid (R.inc)
    rw [hq] at R1
    have HQ := Lib.hid hq
    have E1 := Lib.hid (er.out (setCell_out (o := 1) (.int .i64 ((j : Int) + 1))) hgE.out)
    have O1 := Lib.hid (o.then (setCell_out (o := 1) (.int .i64 ((j : Int) + 1))))
    have hjs : j < s.size := by rw [← HLL.out]; exact hjl
    have HSZ := Lib.hid (show L.length = s.size from HLL.out)
    have HQX := Lib.hid (show j + 1 = q ∧ j < s.size from ⟨hq, hjs⟩)
    have CL := Lib.hid (wLook R1.out (by omega) hs)
    rw [← HLS.out] at CL
    obtain ⟨c, hc⟩ : ∃ c, chP L q = c := ⟨_, rfl⟩
    have HC := Lib.hid hc
    rw [hc] at CL
    have b0 : (0 : Int) ≤ (j : Int) := by omega
    have b1 : (j : Int) ≤ 65536 := by omega
    have bq0 : (0 : Int) ≤ (q : Int) := by omega
    have bq1 : (q : Int) ≤ 65537 := by omega
    have HQL := Lib.hid (show c ≠ -1 → q < L.length from fun h => by
      by_cases hlt : q < L.length
      · exact hlt
      · exact absurd (hc.symm.trans (chP_end L q (by omega))) h)
    have HR := Lib.hid R
    have HEA := Lib.hid er
    have HO := Lib.hid o
    have HPOS := Lib.hid R.pos
    have CLe := Lib.hid fun W => wLetter c W
    have CD := Lib.hid fun W => wDigit c W
    have HJL := Lib.hid hjl
    have HTJ := Lib.hid hTj
    have HLOW := Lib.hid hlow
    have HALL := Lib.hid hall
    clear R er o hjl hTj hlow hall hq hc
    have NEXT := Lib.hid (show innB c = true → PhN L T 2 q (.int .i32 c) (.int .i64 (T : Nat)) from fun h => ⟨HQL.out (by rintro rfl; simp [innB, lowB, digB] at h), rfl, by have := HTJ.out; have := HQ.out; omega, HLOW.out, fun m h1 h2 => by
      by_cases hm : m = q
      · rw [hm, HC.out]; exact h
      · exact HALL.out m h1 (by have := HQ.out; omega)⟩)
    rcases hl : lowB c with _ | _
    · rw [hl] at CLe
      rcases hd : digB c with _ | _
      · rw [hd] at CD
        by_cases h95 : c = 95
        · have PH := Lib.hid (NEXT.out (by unfold innB; rw [hl, hd]; simpa using h95))
          have e1 : (c == 95) = true := by simpa using h95
          clear hl hd h95
          go_wp2_with (first | (go_at_call 38; go_loud (refine CL.out.mono ?_; rintro e w1 ⟨rfl, n1, hw1⟩; have R2 := Lib.hid (show Rd w1 g s q x f p by rw [hw1]; exact (R1.out).drewN n1); have E2 := Lib.hid (show ErrAt w1 by rw [hw1]; exact E1.out); have O2 := Lib.hid (show Out (fun k => k = g) w w1 by rw [hw1]; exact (O1.out).drewN n1); have c2 : w1.cell? ⟨g, 1, none⟩ = some (.int .i64 (q : Nat)) := R2.out.cell 1; have f2 := R2.out.frozen 1; clear hw1)) | (go_at_call 42; go_loud (refine (CLe.out _).mono ?_; rintro e wz ⟨rfl, rfl⟩)) | (go_at_call 43; go_loud (refine (CD.out _).mono ?_; rintro e wz ⟨rfl, rfl⟩)))
          go_step3
          first | exact ⟨JN.mk' (q) _ _ rfl (R2.out) (E2.out) (O2.out) (PH.out), by rw [(R2.out).pos, HPOS.out]; have := HSZ.out; have := HQX.out; simp <;> omega⟩ | exact JN.mk' (q) _ _ rfl (R2.out) (E2.out) (O2.out) (PH.out)
        · have hin : innB c = false := by unfold innB; rw [hl, hd]; simpa using h95
          have e1 : (c == 95) = false := by simpa using h95
          have htw := takeWhile_is innB L T q (by have := HTJ.out; have := HQ.out; omega) (by have := HJL.out; have := HQ.out; omega) (fun m h1 h2 => HALL.out m h1 (by have := HQ.out; omega)) (by rw [HC.out]; exact hin)
          have CE := Lib.hid fun W (r : Rd W g s q x f p) => wEndName r T (by have := HTJ.out; have := HQ.out; omega) (by rw [← HLL.out]; have := HJL.out; have := HQ.out; omega) hs (by rw [← HLS.out]; exact htw)
          rw [← HLS.out] at CE
          have HON := Lib.hid (show oneP T (L.drop T) = nameP T (L.drop T) by unfold oneP; rw [chP_drop, Nat.add_zero, HLOW.out, if_pos rfl])
          clear hl hd h95 hin htw
          go_wp2_with (first | (go_at_call 45; go_loud (refine (CE.out _ R2.out).mono ?_; rintro e w3 h3; obtain ⟨bb, rfl⟩ := h3.form; have HE3 := Lib.hid h3; clear h3)) | (go_at_call 38; go_loud (refine CL.out.mono ?_; rintro e w1 ⟨rfl, n1, hw1⟩; have R2 := Lib.hid (show Rd w1 g s q x f p by rw [hw1]; exact (R1.out).drewN n1); have E2 := Lib.hid (show ErrAt w1 by rw [hw1]; exact E1.out); have O2 := Lib.hid (show Out (fun k => k = g) w w1 by rw [hw1]; exact (O1.out).drewN n1); have c2 : w1.cell? ⟨g, 1, none⟩ = some (.int .i64 (q : Nat)) := R2.out.cell 1; have f2 := R2.out.frozen 1; clear hw1)) | (go_at_call 42; go_loud (refine (CLe.out _).mono ?_; rintro e wz ⟨rfl, rfl⟩)) | (go_at_call 43; go_loud (refine (CD.out _).mono ?_; rintro e wz ⟨rfl, rfl⟩)))
          rw [ExJ_ret]
          go_ret
          unfold NextIs
          rw [HTT.out, if_neg (by have := HJL.out; have := HTJ.out; omega), HON.out]
          exact (HE3.out.pre O2.out).place (nameP_n _ _)
      · rw [hd] at CD
        have PH := Lib.hid (NEXT.out (by unfold innB; rw [hd]; simp))
        clear hl hd
        go_wp2_with (first | (go_at_call 38; go_loud (refine CL.out.mono ?_; rintro e w1 ⟨rfl, n1, hw1⟩; have R2 := Lib.hid (show Rd w1 g s q x f p by rw [hw1]; exact (R1.out).drewN n1); have E2 := Lib.hid (show ErrAt w1 by rw [hw1]; exact E1.out); have O2 := Lib.hid (show Out (fun k => k = g) w w1 by rw [hw1]; exact (O1.out).drewN n1); have c2 : w1.cell? ⟨g, 1, none⟩ = some (.int .i64 (q : Nat)) := R2.out.cell 1; have f2 := R2.out.frozen 1; clear hw1)) | (go_at_call 42; go_loud (refine (CLe.out _).mono ?_; rintro e wz ⟨rfl, rfl⟩)) | (go_at_call 43; go_loud (refine (CD.out _).mono ?_; rintro e wz ⟨rfl, rfl⟩)))
        go_step3
        first | exact ⟨JN.mk' (q) _ _ rfl (R2.out) (E2.out) (O2.out) (PH.out), by rw [(R2.out).pos, HPOS.out]; have := HSZ.out; have := HQX.out; simp <;> omega⟩ | exact JN.mk' (q) _ _ rfl (R2.out) (E2.out) (O2.out) (PH.out)
    · rw [hl] at CLe
      have PH := Lib.hid (NEXT.out (by unfold innB; rw [hl]; simp))
      clear hl
      go_wp2_with (first | (go_at_call 38; go_loud (refine CL.out.mono ?_; rintro e w1 ⟨rfl, n1, hw1⟩; have R2 := Lib.hid (show Rd w1 g s q x f p by rw [hw1]; exact (R1.out).drewN n1); have E2 := Lib.hid (show ErrAt w1 by rw [hw1]; exact E1.out); have O2 := Lib.hid (show Out (fun k => k = g) w w1 by rw [hw1]; exact (O1.out).drewN n1); have c2 : w1.cell? ⟨g, 1, none⟩ = some (.int .i64 (q : Nat)) := R2.out.cell 1; have f2 := R2.out.frozen 1; clear hw1)) | (go_at_call 42; go_loud (refine (CLe.out _).mono ?_; rintro e wz ⟨rfl, rfl⟩)))
      go_step3
      first | exact ⟨JN.mk' (q) _ _ rfl (R2.out) (E2.out) (O2.out) (PH.out), by rw [(R2.out).pos, HPOS.out]; have := HSZ.out; have := HQX.out; simp <;> omega⟩ | exact JN.mk' (q) _ _ rfl (R2.out) (E2.out) (O2.out) (PH.out)
  case refine_5 =>
    rintro _ W ⟨j, c, b, u, rfl, R, er, o, ph⟩
    unfold fnx
    obtain ⟨hjl, rfl, hTj, hlow, hdig, hall⟩ := ph
    have c1 : W.cell? ⟨g, 1, none⟩ = some (.int .i64 (j : Nat)) := R.cell 1
    have f1 := R.frozen 1
    obtain ⟨q, hq⟩ : ∃ q, j + 1 = q := ⟨_, rfl⟩
    have R1 := Lib.hid (R.inc)
    rw [hq] at R1
    have HQ := Lib.hid hq
    have E1 := Lib.hid (er.out (setCell_out (o := 1) (.int .i64 ((j : Int) + 1))) hgE.out)
    have O1 := Lib.hid (o.then (setCell_out (o := 1) (.int .i64 ((j : Int) + 1))))
    have hjs : j < s.size := by rw [← HLL.out]; exact hjl
    have HSZ := Lib.hid (show L.length = s.size from HLL.out)
    have HQX := Lib.hid (show j + 1 = q ∧ j < s.size from ⟨hq, hjs⟩)
    have CL := Lib.hid (wLook R1.out (by omega) hs)
    rw [← HLS.out] at CL
    obtain ⟨c, hc⟩ : ∃ c, chP L q = c := ⟨_, rfl⟩
    have HC := Lib.hid hc
    rw [hc] at CL
    have b0 : (0 : Int) ≤ (j : Int) := by omega
    have b1 : (j : Int) ≤ 65536 := by omega
    have bq0 : (0 : Int) ≤ (q : Int) := by omega
    have bq1 : (q : Int) ≤ 65537 := by omega
    have HQL := Lib.hid (show c ≠ -1 → q < L.length from fun h => by
      by_cases hlt : q < L.length
      · exact hlt
      · exact absurd (hc.symm.trans (chP_end L q (by omega))) h)
    have HR := Lib.hid R
    have HEA := Lib.hid er
    have HO := Lib.hid o
    have HPOS := Lib.hid R.pos
    have CLe := Lib.hid fun W => wLetter c W
    have CD := Lib.hid fun W => wDigit c W
    have HJL := Lib.hid hjl
    have HTJ := Lib.hid hTj
    have HLOW := Lib.hid hlow
    have HDIG := Lib.hid hdig
    have HALL := Lib.hid hall
    clear R er o hjl hTj hlow hdig hall hq hc
    rcases hd : digB c with _ | _
    · rw [hd] at CD
      have htw := takeWhile_is digB L T q (by have := HTJ.out; have := HQ.out; omega) (by have := HJL.out; have := HQ.out; omega) (fun m h1 h2 => HALL.out m h1 (by have := HQ.out; omega)) (by rw [HC.out]; exact hd)
      rcases hl : lowB c with _ | _
      · rw [hl] at CLe
        by_cases h95 : c = 95
        · have e1 : (c == 95) = true := by simpa using h95
          have HON := Lib.hid (show oneP T (L.drop T) = ⟨Tk.zero, 0, 122⟩ by
            unfold oneP intP badN
            rw [chP_drop, Nat.add_zero, HLOW.out, HDIG.out, if_neg (by simp), if_pos rfl, htw, List.length_take, List.length_drop, show min (q - T) (L.length - T) = q - T by have := HJL.out; have := HQ.out; omega, chP_drop, show T + (q - T) = q by have := HTJ.out; have := HQ.out; omega, HC.out, if_pos (by simp [h95])])
          clear hl hd h95 htw
          go_wp2_with (first | (go_at_call 46; go_loud (refine (wWrong R2.out (T : Nat) 122).mono ?_; rintro e w3 ⟨rfl, r3, o3⟩; have R3 := Lib.hid r3; have O3 := Lib.hid o3; clear r3 o3)) | (go_at_call 38; go_loud (refine CL.out.mono ?_; rintro e w1 ⟨rfl, n1, hw1⟩; have R2 := Lib.hid (show Rd w1 g s q x f p by rw [hw1]; exact (R1.out).drewN n1); have E2 := Lib.hid (show ErrAt w1 by rw [hw1]; exact E1.out); have O2 := Lib.hid (show Out (fun k => k = g) w w1 by rw [hw1]; exact (O1.out).drewN n1); have c2 : w1.cell? ⟨g, 1, none⟩ = some (.int .i64 (q : Nat)) := R2.out.cell 1; have f2 := R2.out.frozen 1; clear hw1)) | (go_at_call 42; go_loud (refine (CLe.out _).mono ?_; rintro e wz ⟨rfl, rfl⟩)) | (go_at_call 43; go_loud (refine (CD.out _).mono ?_; rintro e wz ⟨rfl, rfl⟩)))
          rw [ExJ_ret]
          go_ret
          unfold NextIs
          rw [HTT.out, if_neg (by have := HJL.out; have := HTJ.out; omega), HON.out]
          exact EndIs.no (by decide) (O2.out.then O3.out) q R3.out
        · have e1 : (c == 95) = false := by simpa using h95
          have CE := Lib.hid fun W (r : Rd W g s q x f p) (er : ErrAt W) => wEndNumber r er T (by have := HTJ.out; have := HQ.out; omega) (by rw [← HLL.out]; have := HJL.out; have := HQ.out; omega) hs (by rw [← HLS.out]; exact htw) (by rw [← HLS.out, HC.out]; exact hl) (by rw [← HLS.out, HC.out]; exact h95)
          rw [← HLS.out] at CE
          have HON := Lib.hid (show oneP T (L.drop T) = intP T (L.drop T) by unfold oneP; rw [chP_drop, Nat.add_zero, HLOW.out, HDIG.out, if_neg (by simp), if_pos rfl])
          clear hl hd h95 htw
          go_wp2_with (first | (go_at_call 47; go_loud (refine (CE.out _ R2.out E2.out).mono ?_; rintro e w3 h3; obtain ⟨bb, rfl⟩ := h3.form; have HE3 := Lib.hid h3; clear h3)) | (go_at_call 38; go_loud (refine CL.out.mono ?_; rintro e w1 ⟨rfl, n1, hw1⟩; have R2 := Lib.hid (show Rd w1 g s q x f p by rw [hw1]; exact (R1.out).drewN n1); have E2 := Lib.hid (show ErrAt w1 by rw [hw1]; exact E1.out); have O2 := Lib.hid (show Out (fun k => k = g) w w1 by rw [hw1]; exact (O1.out).drewN n1); have c2 : w1.cell? ⟨g, 1, none⟩ = some (.int .i64 (q : Nat)) := R2.out.cell 1; have f2 := R2.out.frozen 1; clear hw1)) | (go_at_call 42; go_loud (refine (CLe.out _).mono ?_; rintro e wz ⟨rfl, rfl⟩)) | (go_at_call 43; go_loud (refine (CD.out _).mono ?_; rintro e wz ⟨rfl, rfl⟩)))
          rw [ExJ_ret]
          go_ret
          unfold NextIs
          rw [HTT.out, if_neg (by have := HJL.out; have := HTJ.out; omega), HON.out]
          exact (HE3.out.pre O2.out).place (intP_n _ _)
      · rw [hl] at CLe
        have HON := Lib.hid (show oneP T (L.drop T) = ⟨Tk.zero, 0, 122⟩ by
          unfold oneP intP badN
          rw [chP_drop, Nat.add_zero, HLOW.out, HDIG.out, if_neg (by simp), if_pos rfl, htw, List.length_take, List.length_drop, show min (q - T) (L.length - T) = q - T by have := HJL.out; have := HQ.out; omega, chP_drop, show T + (q - T) = q by have := HTJ.out; have := HQ.out; omega, HC.out, if_pos (by simp [hl])])
        clear hl hd htw
        go_wp2_with (first | (go_at_call 46; go_loud (refine (wWrong R2.out (T : Nat) 122).mono ?_; rintro e w3 ⟨rfl, r3, o3⟩; have R3 := Lib.hid r3; have O3 := Lib.hid o3; clear r3 o3)) | (go_at_call 38; go_loud (refine CL.out.mono ?_; rintro e w1 ⟨rfl, n1, hw1⟩; have R2 := Lib.hid (show Rd w1 g s q x f p by rw [hw1]; exact (R1.out).drewN n1); have E2 := Lib.hid (show ErrAt w1 by rw [hw1]; exact E1.out); have O2 := Lib.hid (show Out (fun k => k = g) w w1 by rw [hw1]; exact (O1.out).drewN n1); have c2 : w1.cell? ⟨g, 1, none⟩ = some (.int .i64 (q : Nat)) := R2.out.cell 1; have f2 := R2.out.frozen 1; clear hw1)) | (go_at_call 42; go_loud (refine (CLe.out _).mono ?_; rintro e wz ⟨rfl, rfl⟩)) | (go_at_call 43; go_loud (refine (CD.out _).mono ?_; rintro e wz ⟨rfl, rfl⟩)))
        rw [ExJ_ret]
        go_ret
        unfold NextIs
        rw [HTT.out, if_neg (by have := HJL.out; have := HTJ.out; omega), HON.out]
        exact EndIs.no (by decide) (O2.out.then O3.out) q R3.out
    · rw [hd] at CD
      have PH := Lib.hid (show PhN L T 3 q (.int .i32 c) (.int .i64 (T : Nat)) from ⟨HQL.out (by rintro rfl; simp [digB] at hd), rfl, by have := HTJ.out; have := HQ.out; omega, HLOW.out, HDIG.out, fun m h1 h2 => by
        by_cases hm : m = q
        · rw [hm, HC.out]; exact hd
        · exact HALL.out m h1 (by have := HQ.out; omega)⟩)
      clear hd
      go_wp2_with (first | (go_at_call 38; go_loud (refine CL.out.mono ?_; rintro e w1 ⟨rfl, n1, hw1⟩; have R2 := Lib.hid (show Rd w1 g s q x f p by rw [hw1]; exact (R1.out).drewN n1); have E2 := Lib.hid (show ErrAt w1 by rw [hw1]; exact E1.out); have O2 := Lib.hid (show Out (fun k => k = g) w w1 by rw [hw1]; exact (O1.out).drewN n1); have c2 : w1.cell? ⟨g, 1, none⟩ = some (.int .i64 (q : Nat)) := R2.out.cell 1; have f2 := R2.out.frozen 1; clear hw1)) | (go_at_call 43; go_loud (refine (CD.out _).mono ?_; rintro e wz ⟨rfl, rfl⟩)))
      go_step3
      first | exact ⟨JN.mk' (q) _ _ rfl (R2.out) (E2.out) (O2.out) (PH.out), by rw [(R2.out).pos, HPOS.out]; have := HSZ.out; have := HQX.out; simp <;> omega⟩ | exact JN.mk' (q) _ _ rfl (R2.out) (E2.out) (O2.out) (PH.out)
  case refine_6 =>
    rintro _ W ⟨j, c, b, u, rfl, R, er, o, ph⟩
    unfold fnx
    obtain ⟨hjl, rfl, rfl, rfl, hlow, hdig, h34⟩ := ph
    have c1 : W.cell? ⟨g, 1, none⟩ = some (.int .i64 (j : Nat)) := R.cell 1
    have f1 := R.frozen 1
    have CE := Lib.hid (wEndSign R.inc j rfl (by rw [← HLL.out]; exact hjl) hs)
    rw [← HLS.out] at CE
    have hjs : j < s.size := by rw [← HLL.out]; exact hjl
    have b0 : (0 : Int) ≤ (j : Int) := by omega
    have b1 : (j : Int) ≤ 65536 := by omega
    have HON := Lib.hid (show oneP j (L.drop j) = signP j (L.drop j) by unfold oneP; rw [chP_drop, Nat.add_zero, hlow, hdig, if_neg (by simp), if_neg (by simp), if_neg h34])
    have HO := Lib.hid o
    have HJL := Lib.hid hjl
    obtain ⟨c, hc⟩ : ∃ c, chP L j = c := ⟨_, rfl⟩
    rw [hc] at CE ⊢
    clear R er o hjl hlow hdig h34 hc
    go_wp2_with (first | (go_at_call 48; go_loud (refine CE.out.mono ?_; rintro e w3 h3; obtain ⟨bb, rfl⟩ := h3.form; have HE3 := Lib.hid h3; clear h3)))
    rw [ExJ_ret]
    go_ret
    unfold NextIs
    rw [HTT.out, if_neg (by have := HJL.out; omega), HON.out]
    exact ((HE3.out.pre (setCell_out _)).pre HO.out).place (signP_n _ _)
end
end Go.Proofs.YtagangneoibbcaaDoor
