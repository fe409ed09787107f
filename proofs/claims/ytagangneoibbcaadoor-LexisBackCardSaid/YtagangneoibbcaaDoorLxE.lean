/- Layer 12: the ends of names, texts and signs. -/
import Derived.Test.YtagangneoibbcaaDoorLxN
import Derived.Test.YtagangneoibbcaaDoorLxQ2
import Derived.Test.YtagangneoibbcaaDoorEqual
set_option linter.unusedVariables false
namespace Go.Proofs.YtagangneoibbcaaDoor
set_option maxRecDepth 100000
set_option maxRecDepth 100000
open Go.RowKit Go.Shelf

/-- What the end of a token leaves: the token, or the fault. -/
def EndIs (g : Nat) (s : ByteArray) (x : Tk) (f p : Int) (w : World) (o : One) (b j : Nat) (e : Ending) (w' : World) : Prop :=
  Out (fun k => k = g) w w' ∧ (if o.e = 0 then e = .returned (.bool true) ∧ Rd w' g s (b + o.n) o.tk f p else e = .returned (.bool false) ∧ ∃ i, Rd w' g s i x o.e (j : Nat))
section
variable {w : World} {g i : Nat} {s : ByteArray} {x : Tk} {f p : Int}
theorem EndIs.yes {o : One} {b j : Nat} {w' : World} (h : o.e = 0) (ho : Out (fun k => k = g) w w') (r : Rd w' g s (b + o.n) o.tk f p) : EndIs g s x f p w o b j (.returned (.bool true)) w' := by
  unfold EndIs
  rw [if_pos h]
  exact ⟨ho, rfl, r⟩
theorem EndIs.no {o : One} {b j : Nat} {w' : World} (h : ¬ o.e = 0) (ho : Out (fun k => k = g) w w') (i : Nat) (r : Rd w' g s i x o.e (j : Nat)) : EndIs g s x f p w o b j (.returned (.bool false)) w' := by
  unfold EndIs
  rw [if_neg h]
  exact ⟨ho, rfl, i, r⟩
set_option maxHeartbeats 8000000 in
theorem wEndName (h : Rd w g s i x f p) (b : Nat) (hb : b ≤ i) (hi : i ≤ s.size) (hs : s.size ≤ 65536) (hn : (((strB s).drop b).takeWhile innB) = ((strB s).drop b).take (i - b)) :
    Calls Tryd.prog 45 #[.pointer (some ⟨g, 0, none⟩), .int .i64 (b : Nat)] w (EndIs g s x f p w (nameP b ((strB s).drop b)) b b) := by
  have hl : (((strB s).drop b).take (i - b)).length = i - b := by rw [List.length_take, List.length_drop, strB_len]; omega
  have c1 : w.cell? ⟨g, 1, none⟩ = some (.int .i64 (i : Nat)) := h.cell 1
  have i1 : (b : Int) ≤ (i : Int) := by omega
  have i2 : (i : Int) ≤ 65536 := by omega
  have i0 : (0 : Int) ≤ (b : Int) := by omega
  by_cases hlt : 32 < i - b
  · have hq : nameP b ((strB s).drop b) = ⟨Tk.zero, 0, 121⟩ := by unfold nameP; rw [hn, hl, if_pos hlt]
    have CW := Lib.hid (wWrong h (b : Nat) 121)
    have hlt2 : (32 : Int) < (i : Int) - (b : Int) := by omega
    rw [hq]
    clear hq hn hl hlt h
    go_enter Tryd.func45, Tryd.ntmps45
    go_wp2_with (go_at_call 46; go_loud (refine CW.out.mono ?_; rintro e w1 ⟨rfl, r1, o1⟩; have R1 := Lib.hid r1; have O1 := Lib.hid o1; clear r1 o1))
    go_ret
    exact EndIs.no (by decide) O1.out i R1.out
  · have hq : nameP b ((strB s).drop b) = ⟨⟨1, s.extract b i, 0, 0, ⟨#[]⟩, b⟩, i - b, 0⟩ := by unfold nameP; rw [hn, hl, if_neg hlt, ← sub_nums]
    have CS := Lib.hid (wSince h b hb hi hs)
    have HR := Lib.hid h
    have hlt2 : ¬ (32 : Int) < (i : Int) - (b : Int) := by omega
    obtain ⟨t, ht⟩ : ∃ t, s.extract b i = t := ⟨_, rfl⟩
    rw [hq, ht]
    rw [ht] at CS
    have HBI := Lib.hid hb
    clear hq hn hl hlt h ht hb
    go_enter Tryd.func45, Tryd.ntmps45
    go_wp2_with (first
      | (go_at_call 61; go_loud (refine (wFound (HR.out.below B1.out) ⟨1, t, 0, 0, ⟨#[]⟩, b⟩).mono ?_; rintro e w2 ⟨rfl, r2, o2⟩; have R2 := Lib.hid r2; have O2 := Lib.hid o2; clear r2 o2))
      | (go_at_call 62; go_loud (refine CS.out.mono ?_; rintro e w1 ⟨rfl, b1⟩; have B1 := Lib.hid b1; clear b1)))
    go_ret
    exact EndIs.yes rfl ((Out.of_below B1.out _).then O2.out) ((show i = b + (i - b) by have := HBI.out; omega) ▸ R2.out)
set_option maxHeartbeats 8000000 in
theorem wEndSign (h : Rd w g s i x f p) (b : Nat) (hb : i = b + 1) (hi : i ≤ s.size) (hs : s.size ≤ 65536) :
    Calls Tryd.prog 48 #[.pointer (some ⟨g, 0, none⟩), .int .i64 (b : Nat), .int .i32 (chP (strB s) b)] w (EndIs g s x f p w (signP b ((strB s).drop b)) b b) := by
  have CL := Lib.hid (wLook h hi hs)
  have HR := Lib.hid h
  obtain ⟨c, hc⟩ : ∃ c, chP (strB s) b = c := ⟨_, rfl⟩
  obtain ⟨d, hd⟩ : ∃ d, chP (strB s) i = d := ⟨_, rfl⟩
  have hsp : signP b ((strB s).drop b) = if signN c d = 0 then ⟨Tk.zero, 0, 120⟩ else ⟨⟨4, strOfNums (((strB s).drop b).take (signN c d)), 0, 0, ⟨#[]⟩, b⟩, signN c d, 0⟩ := by
    unfold signP; rw [chP_drop, chP_drop, Nat.add_zero, ← hb, hc, hd]
  obtain ⟨n, hn⟩ : ∃ n, signN c d = n := ⟨_, rfl⟩
  have CZ := Lib.hid fun W => wSize c d W
  have hn2 : n ≤ 2 ∧ (n = 2 → d ≠ -1) := by
    rw [← hn]; unfold signN
    refine ⟨by (repeat' split) <;> omega, fun h2 => ?_⟩
    split at h2
    · omega
    · split at h2
      · split at h2
        · omega
        · omega
      · split at h2
        · split at h2
          · omega
          · omega
        · omega
  have hdl : d ≠ -1 → i < s.size := fun h => by
    by_cases hlt : i < s.size
    · exact hlt
    · exact absurd (hd.symm.trans (chP_end _ i (by rw [strB_len]; omega))) h
  rw [hn] at hsp CZ
  rw [hd] at CL
  rw [hc, hsp]
  have i0 : (0 : Int) ≤ (b : Int) := by omega
  have i2 : (b : Int) ≤ 65536 := by omega
  have HBI := Lib.hid hb
  have f1 := h.frozen 1
  have c1 : w.cell? ⟨g, 1, none⟩ = some (.int .i64 (i : Nat)) := h.cell 1
  by_cases h0 : n = 0
  · subst h0
    rw [if_pos rfl]
    clear hc hd hsp hn hb h hdl hn2
    have CW := Lib.hid fun W r => wWrong (w := W) (g := g) (s := s) (i := i) (x := x) (f := f) (p := p) r (b : Nat) 120
    go_enter Tryd.func48, Tryd.ntmps48
    go_wp2_with (first
      | (go_at_call 46; go_loud (refine (CW.out _ R1.out).mono ?_; rintro e w2 ⟨rfl, r2, o2⟩; have R2 := Lib.hid r2; have O2 := Lib.hid o2; clear r2 o2))
      | (go_at_call 64; go_loud (refine (CZ.out _).mono ?_; rintro e wz ⟨rfl, rfl⟩))
      | (go_at_call 38; go_loud (refine CL.out.mono ?_; rintro e w1 ⟨rfl, n1, hw1⟩; have R1 := Lib.hid (show Rd w1 g s i x f p by rw [hw1]; exact HR.out.drewN n1); have O1 := Lib.hid (show Out (fun k => k = g) w w1 by rw [hw1]; exact Out.drewN (Out.refl _ _) n1); clear hw1)))
    go_ret
    exact EndIs.no (by decide) (O1.out.then O2.out) i R2.out
  · rw [if_neg h0]
    have hbn : b + n ≤ s.size := by have := hn2.1; have := hn2.2; have := hdl; omega
    have hnn : (n : Int) ≤ 2 := by omega
    have hn1 : (0 : Int) ≤ (n : Int) := by omega
    have e0 : ((n : Int) == 0) = false := by simp; omega
    obtain ⟨q, hq⟩ : ∃ q, b + n = q := ⟨_, rfl⟩
    obtain ⟨t, ht⟩ : ∃ t, s.extract b q = t := ⟨_, rfl⟩
    have HT := Lib.hid (show strOfNums (((strB s).drop b).take n) = t by rw [← ht, sub_nums, ← hq]; congr 2; omega)
    have HQ := Lib.hid hq
    have CS := Lib.hid fun W (r : Rd W g s q x f p) => (ht ▸ wSince r b (by omega) (by omega) hs : Calls Tryd.prog 62 #[.pointer (some ⟨g, 0, none⟩), .int .i64 (b : Nat)] W fun e w' => e = .returned (.string t) ∧ Below W.heap.size W w')
    have RS := Lib.hid fun W (r : Rd W g s i x f p) => (show Rd (W.setCell ⟨g, 1, none⟩ (.int .i64 ((b : Int) + (n : Int)))) g s q x f p by have := r.set_at q; rwa [show ((q : Nat) : Int) = (b : Int) + (n : Int) by omega] at this)
    rw [HT.out]
    have bb : (b : Int) + (n : Int) ≤ 65536 := by omega
    clear hc hd hsp hn hb h hdl hn2 hbn hq ht h0
    go_enter Tryd.func48, Tryd.ntmps48
    go_wp2_with (first
      | (go_at_call 61; go_loud (refine (wFound ((RS.out _ R1.out).below B2.out) ⟨4, t, 0, 0, ⟨#[]⟩, b⟩).mono ?_; rintro e w3 ⟨rfl, r3, o3⟩; have R3 := Lib.hid r3; have O3 := Lib.hid o3; clear r3 o3))
      | (go_at_call 62; go_loud (refine (CS.out _ (RS.out _ R1.out)).mono ?_; rintro e w2 ⟨rfl, b2⟩; have B2 := Lib.hid b2; clear b2))
      | (go_at_call 64; go_loud (refine (CZ.out _).mono ?_; rintro e wz ⟨rfl, rfl⟩))
      | (go_at_call 38; go_loud (refine CL.out.mono ?_; rintro e w1 ⟨rfl, n1, hw1⟩; have R1 := Lib.hid (show Rd w1 g s i x f p by rw [hw1]; exact HR.out.drewN n1); have O1 := Lib.hid (show Out (fun k => k = g) w w1 by rw [hw1]; exact Out.drewN (Out.refl _ _) n1); have k1 := R1.out.frozen 1; have d1 : w1.cell? ⟨g, 1, none⟩ = some (.int .i64 (i : Nat)) := R1.out.cell 1; clear hw1)))
    go_ret
    exact EndIs.yes rfl (((O1.out.then (setCell_out _)).then (Out.of_below B2.out _)).then O3.out) (HQ.out.symm ▸ R3.out)
end
end Go.Proofs.YtagangneoibbcaaDoor
