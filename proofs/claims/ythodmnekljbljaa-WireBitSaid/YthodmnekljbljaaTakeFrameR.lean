/- The call of the reference's TakeFrame. -/
import Derived.Test.YthodmnekljbljaaTakeFrame
namespace Go.Proofs.Ythodmnekljbljaa
open Go.RowKit

set_option maxHeartbeats 400000 in
theorem rtf_place (A : Option Addr) (n c : Nat) (at_ : Int) (w : World) (hn : n ≤ 140737488355328) (hp : at_ < 0 ∨ n < at_) :
    Calls Try.prog 33 #[.slice A n c, .int .i64 at_] w (TakesF w ([], 0, 1)) := by
  rcases Int.lt_or_le at_ 0 with h1 | h1
  · clear hp
    go_enter Try.func33, Try.ntmps33
    go_wp2
    go_ret3
    exact takesF_err (Below.refl _ _)
  · have h2 : (n : Int) < at_ := by omega
    clear hp
    go_enter Try.func33, Try.ntmps33
    go_wp2
    go_ret3
    exact takesF_err (Below.refl _ _)

set_option maxHeartbeats 400000 in
theorem rtf_few (A : Option Addr) (n c p : Nat) (w : World) (hn : n ≤ 140737488355328) (hpn : p ≤ n) (h8 : n < p + 8) :
    Calls Try.prog 33 #[.slice A n c, .int .i64 p] w (TakesF w ([], 0, 10)) := by
  have hd2 : decide ((n : Int) < p) = false := by simp; omega
  have hd3 : decide (n < p) = false := by simp; omega
  have h8' : (n : Int) - p < 8 := by omega
  go_enter Try.func33, Try.ntmps33
  go_wp2
  go_ret3
  exact takesF_err (Below.refl _ _)

set_option maxHeartbeats 400000 in
theorem rtf_big (A : Option Addr) (n c p L : Nat) (w : World) (hn : n ≤ 140737488355328) (hpn : p + 8 ≤ n) (hL : L < 4294967296)
    (CU : Hid (Calls Try.prog 41 #[.slice A n c, .int .i64 p] w fun e w' => e = .returned (.int .u32 ((L : Nat) : Int)) ∧ Draws w w')) (hb2 : 1048576 < L) :
    Calls Try.prog 33 #[.slice A n c, .int .i64 p] w (TakesF w ([], 0, 10)) := by
  have hd2 : decide ((n : Int) < p) = false := by simp; omega
  have hd3 : decide (n < p) = false := by simp; omega
  have h8' : ¬ (n : Int) - p < 8 := by omega
  go_enter Try.func33, Try.ntmps33
  go_wp2_with fail
  refine CU.out.mono ?_
  rintro e w1 ⟨rfl, hdr⟩
  have hb1 := hdr.below w.heap.size
  clear hdr CU
  go_wp2
  go_ret3
  exact takesF_err hb1

set_option maxHeartbeats 400000 in
theorem rtf_wide (A : Option Addr) (n c p L : Nat) (w : World) (hn : n ≤ 140737488355328) (hpn : p + 8 ≤ n)
    (CU : Hid (Calls Try.prog 41 #[.slice A n c, .int .i64 p] w fun e w' => e = .returned (.int .u32 ((L : Nat) : Int)) ∧ Draws w w')) (hb2 : L ≤ 1048576) (hb3 : n < p + 8 + L) :
    Calls Try.prog 33 #[.slice A n c, .int .i64 p] w (TakesF w ([], 0, 10)) := by
  have hd2 : decide ((n : Int) < p) = false := by simp; omega
  have hd3 : decide (n < p) = false := by simp; omega
  have h8' : ¬ (n : Int) - p < 8 := by omega
  have hb4 : (n : Int) - p - 8 < L := by omega
  go_enter Try.func33, Try.ntmps33
  go_wp2_with fail
  refine CU.out.mono ?_
  rintro e w1 ⟨rfl, hdr⟩
  have hb1 := hdr.below w.heap.size
  clear hdr CU
  go_wp2
  go_ret3
  exact takesF_err hb1

set_option maxHeartbeats 400000 in
theorem rtf_rest (ad : Addr) (n c p L : Nat) (zs ct : List Int) (t : List Int × Nat × Nat) (w : World) (h : RB w (some ad) n zs) (hn : n ≤ 140737488355328) (hc : n ≤ c) (hpn : p + 8 + L ≤ n) (hLm : L ≤ 1048576)
    (CU : Hid (Calls Try.prog 41 #[.slice (some ad) n c, .int .i64 p] w fun e w' => e = .returned (.int .u32 ((L : Nat) : Int)) ∧ Draws w w'))
    (hct : Hid ((zs.drop (p + 8)).take L = ct)) (HTT : Hid (t = if Crc.sum ct ≠ w4 (zs.drop (p + 4)) then ([], 0, 10) else (ct, L + 8, 0))) :
    Calls Try.prog 33 #[.slice (some ad) n c, .int .i64 p] w (TakesF w t) := by
  have hd2 : decide ((n : Int) < p) = false := by simp; omega
  have hd3 : decide (n < p) = false := by simp; omega
  have h8' : ¬ (n : Int) - p < 8 := by omega
  have hb4 : ¬ (n : Int) - p - 8 < L := by omega
  go_enter Try.func33, Try.ntmps33
  go_wp2_with fail
  refine CU.out.mono ?_
  rintro e w1 ⟨rfl, hdr⟩
  have hb1 := hdr.below w.heap.size
  have h1 := h.below' hb1
  clear hdr CU h
  have R8 : Hid (RB w1 (some (ad.add (p + 8))) L ct) := by
    show RB w1 (some (ad.add (p + 8))) L ct
    rcases Nat.eq_zero_or_pos L with hL0 | hL0
    · rw [← hct.out, hL0]; exact RB.empty _ _
    · have r := h1.cut (k := p + 8) (by omega) c hc
      rw [if_neg (by omega)] at r
      rw [← hct.out]
      exact r.take (by omega)
  have R0 : Hid (c = p + 8 → RB w1 (some ad) L ct) := fun e => by
    obtain rfl : L = 0 := by omega
    rw [← hct.out]
    exact RB.empty _ _
  have CV := Lib.hid fun k0 => runword (some ad) n k0 zs (p + 4) w1 h1 (by omega) hn
  have hsub : p + 8 + L - (p + 8) = L := by omega
  have m1 : (p : Int) + 8 ≤ (p : Int) + 8 + L := by omega
  go_upto_region 8 with fail
  go_cut [0, 8] (fun s0 r wr => wr = w1 ∧ ∃ k0 R k, s0 = .slice (some ad) n k0 ∧ r = .slice R L k ∧ RB w1 R L ct)
  case first =>
    by_cases hc8 : c = p + 8
    · have R0' := Lib.hid (R0.out hc8)
      have hc9 : c ≤ p + 8 := by omega
      clear R0 hc8
      go_wp2_with fail
      go_meet
      exact ⟨rfl, _, some ad, c - (p + 8), rfl, by rw [hsub], R0'.out⟩
    · go_wp2_with fail
      go_meet
      exact ⟨rfl, _, some (ad.add (p + 8)), c - (p + 8), rfl, by rw [hsub], R8.out⟩
  case rest =>
    obtain ⟨rfl, k0, R, k, rfl, rfl, hR⟩ := hcut
    clear R8 R0 m1 hsub hct h8' hb4
    have HRL := Lib.hid hR.len
    have CS := Lib.hid (rsum R L k ct wc hR (by omega))
    have hq : (p : Int) + 4 = ((p + 4 : Nat) : Int) := by omega
    have CV' := Lib.hid (CV.out k0)
    clear CV
    have HB := Lib.hid hR.byte
    by_cases hsum : Crc.sum ct = w4 (zs.drop (p + 4))
    · have HF := Lib.hid (show t = (ct, L + 8, 0) by rw [HTT.out, if_neg (by simp [hsum])])
      have HS := Lib.hid hsum
      clear hsum HTT hq
      go_wp2_with fail
      refine CS.out.mono ?_
      rintro e w2 ⟨rfl, rfl⟩
      go_wp2_with fail
      refine CV'.out.mono ?_
      rintro e w3 ⟨rfl, hdr⟩
      have hb3 := below_next hb1 (hdr.below _)
      have hR3 := hR.below' (hdr.below _)
      rw [← HS.out]
      clear hdr CS CV' hR hb1 h1
      have hol : OB w3.heap.size (w3.alloc (.cells #[] 5)) (.slice (some ⟨w3.heap.size, 0, none⟩) 0 0) [] := by simpa using ob_lit w3 [] (by simp) (by simp)
      have hRl : RB (w3.alloc (.cells #[] 5)) R L ct := hR3.below' ((Below.refl _ _).alloc (Nat.le_refl _) _)
      have hb4 : Below w.heap.size w (w3.alloc (.cells #[] 5)) := hb3.alloc hb3.size _
      have hol' := hol.mono hb3.size
      clear hol hR3
      go_wp2_with (at_builtin; refine ob_append rfl (.tmp 54) (.tmp 55) rfl w.heap.size _ [] rfl hol' R L k ct rfl hRl (by simp; omega) hb4.size ?_; intro v w5 ho5 hb5 hg5)
      go_ret3
      rw [HF.out]
      exact ⟨v, by simp, ho5, hb4.trans hb5⟩
    · have HF := Lib.hid (show t = ([], 0, 10) by rw [HTT.out, if_pos hsum])
      have hne : (((Crc.sum ct : Nat) : Int) != ((w4 (zs.drop (p + 4)) : Nat) : Int)) = true := by simp; omega
      clear hsum HTT hq
      go_wp2_with fail
      refine CS.out.mono ?_
      rintro e w2 ⟨rfl, rfl⟩
      go_wp2_with fail
      refine CV'.out.mono ?_
      rintro e w3 ⟨rfl, hdr⟩
      have hb3 := below_next hb1 (hdr.below _)
      go_wp2
      go_ret3
      rw [HF.out]; exact takesF_err hb3

theorem rtakeFrame (A : Option Addr) (n c : Nat) (zs : List Int) (at_ : Int) (w : World) (h : RB w A n zs) (hn : n ≤ 140737488355328) (hc : n ≤ c) :
    Calls Try.prog 33 #[.slice A n c, .int .i64 at_] w (TakesF w (takeFrame zs at_)) := by
  have hl := h.len
  by_cases hp : at_ < 0 ∨ n < at_
  · have ht : takeFrame zs at_ = ([], 0, 1) := by unfold takeFrame; rw [if_pos (by omega)]
    rw [ht]
    exact rtf_place A n c at_ w hn hp
  · obtain ⟨p, rfl⟩ := Int.eq_ofNat_of_zero_le (show 0 ≤ at_ by omega)
    have HT : takeFrame zs p = if zs.length < p + 8 then ([], 0, 10)
      else if 1048576 < w4 (zs.drop p) ∨ zs.length < p + 8 + w4 (zs.drop p) then ([], 0, 10)
      else if Crc.sum ((zs.drop (p + 8)).take (w4 (zs.drop p))) ≠ w4 (zs.drop (p + 4)) then ([], 0, 10)
      else ((zs.drop (p + 8)).take (w4 (zs.drop p)), w4 (zs.drop p) + 8, 0) := by
      unfold takeFrame; rw [if_neg (by omega), Int.toNat_natCast]
    by_cases h8 : n < p + 8
    · rw [HT, if_pos (by omega)]
      exact rtf_few A n c p w hn (by omega) h8
    · have hg : ∀ k, 0 ≤ (zs.drop p).getD k 0 ∧ (zs.drop p).getD k 0 ≤ 255 := fun k => by
        have := h.getD (p + k)
        simpa [List.getD_eq_getElem?_getD, List.getElem?_drop] using this
      have hL := w4_lt (zs.drop p) hg
      have CU := Lib.hid (runword A n c zs p w h (by omega) hn)
      rw [if_neg (by omega)] at HT
      generalize hLe : w4 (zs.drop p) = L at HT hL CU
      by_cases hb : 1048576 < L
      · rw [HT, if_pos (.inl hb)]
        exact rtf_big A n c p L w hn (by omega) hL CU hb
      · by_cases hw : n < p + 8 + L
        · rw [HT, if_pos (.inr (by omega))]
          exact rtf_wide A n c p L w hn (by omega) CU (by omega) hw
        · obtain ⟨ad, rfl, _⟩ := h.cell (by omega)
          rw [if_neg (by omega)] at HT
          exact rtf_rest ad n c p L zs _ _ w h hn hc (by omega) (by omega) CU (Lib.hid rfl) (Lib.hid HT)
end Go.Proofs.Ythodmnekljbljaa
