/- slices.BinarySearch over texts. -/
import Derived.Test.YtlhpoliiojekeaaOrd
namespace Go.Proofs.Ytlhpoliiojekeaa
set_option maxRecDepth 100000
open Go.RowKit

theorem wisnanA (a : ByteArray) (w : World) : Calls Try.prog 64 #[.string a] w fun e w' => e = .returned (.bool false) ∧ w' = w := by
  go_enter Try.func64, Try.ntmps64
  go_wp2
  go_ret
  first | exact ⟨rfl, rfl⟩ | exact ⟨by simp, rfl⟩
theorem wisnanB (a : ByteArray) (w : World) : Calls Try.prog 72 #[.string a] w fun e w' => e = .returned (.bool false) ∧ w' = w := by
  go_enter Try.func72, Try.ntmps72
  go_wp2
  go_ret
  first | exact ⟨rfl, rfl⟩ | exact ⟨by simp, rfl⟩
theorem wless (a b : ByteArray) (w : World) : Calls Try.prog 63 #[.string a, .string b] w fun e w' => e = .returned (.bool (kl a b)) ∧ w' = w := by
  have N := Lib.hid wisnanB
  go_enter Try.func63, Try.ntmps63
  go_wp2_with (go_at_call 72; refine (N.out _ _).mono ?_; rintro e w1 ⟨rfl, rfl⟩)
  go_ret
  first | exact ⟨rfl, rfl⟩ | exact ⟨by simp [kl], rfl⟩

set_option maxHeartbeats 2000000 in
theorem wbin (w : World) (A : Option Addr) (n c : Nat) (ks : List ByteArray) (k : ByteArray) (hv : VB w A n (ks.map Value.string)) (hs : Rises ks) (hn : n ≤ 1048576) :
    Calls Try.prog 52 #[.slice A n c, .string k] w fun e w' => e = .returned (.tuple #[.int .i64 (rk ks k : Nat), .bool (has ks k)]) ∧ w' = w := by
  have HV := Lib.hid hv
  have HS := Lib.hid hs
  have hl : ks.length = n := by simpa using hv.len
  have HL := Lib.hid hl
  have LS := Lib.hid wless
  have NA := Lib.hid wisnanA
  clear hv hs hl
  go_enter Try.func52, Try.ntmps52
  go_upto_region 3 with fail
  go_loopw [7, 8] (fun s7 s8 wr => ∃ lo hi : Nat, s7 = .int .i64 (lo : Int) ∧ s8 = .int .i64 (hi : Int) ∧ lo ≤ hi ∧ hi ≤ n ∧ wr = w ∧ (∀ m a, m < lo → ks[m]? = some a → kl a k = true) ∧ (∀ m a, hi ≤ m → ks[m]? = some a → kl a k = false)) (fun s7 s8 _ => (intOf s8).toNat - (intOf s7).toNat)
  case atStart => exact ⟨0, n, rfl, rfl, Nat.zero_le _, Nat.le_refl _, rfl, fun m a h => absurd h (by omega), fun m a h ha => by rw [List.getElem?_eq_none (by have := HL.out; omega)] at ha; cases ha⟩
  case round =>
    obtain ⟨lo, hi, rfl, rfl, h1, h2, rfl, h3, h4⟩ := hrel
    have H3 := Lib.hid h3
    have H4 := Lib.hid h4
    clear h3 h4
    by_cases hlt : lo < hi
    · obtain ⟨h, hh⟩ : ∃ h, (lo + hi) / 2 = h := ⟨_, rfl⟩
      have hb1 : lo ≤ h := by omega
      have hb2 : h < hi := by omega
      obtain ⟨a, ha⟩ : ∃ a, ks[h]? = some a := ⟨_, List.getElem?_eq_getElem (by have := HL.out; omega)⟩
      obtain ⟨ad, rfl, c0⟩ := HV.out.at_ (k := h) (u := .string a) (by simp [ha])
      have HA := Lib.hid ha
      have i1 : (lo : Int) < (hi : Int) := by omega
      have e1 : IntKind.i64.wrap ((lo : Int) + (hi : Int)) = ((lo + hi : Nat) : Int) := by rw [IntKind.wrap_i64]; omega
      have e2 : IntKind.u64.wrap ((lo + hi : Nat) : Int) = ((lo + hi : Nat) : Int) := IntWalk.u64_in _ (by omega)
      have e3 : IntKind.i64.wrap (h : Int) = (h : Int) := by rw [IntKind.wrap_i64]; omega
      have i2 : (h : Int) < (n : Int) := by omega
      clear ha
      have CL := Lib.hid (fun W => LS.out a k W)
      cases hk : kl a k
      · rw [hk] at CL
        have HK := Lib.hid hk
        clear hk
        go_wp2_with (go_at_call 63; refine (CL.out _).mono ?_; rintro e w1 ⟨rfl, rfl⟩)
        go_roundw
        case rel => exact ⟨lo, h, by first | rfl | go_num, by first | rfl | go_num, hb1, by omega, by first | rfl | trivial, H3.out, fun m b hm hb => by
          rcases Nat.eq_or_lt_of_le hm with rfl | hm
          · rw [HA.out] at hb; cases hb; exact HK.out
          · cases hkb : kl b k
            · rfl
            · have := kl_trans (HS.out.at_ hm HA.out hb) hkb; rw [HK.out] at this; cases this⟩
        case measure => simp [intOf]; omega
      · rw [hk] at CL
        have HK := Lib.hid hk
        clear hk
        go_wp2_with (go_at_call 63; refine (CL.out _).mono ?_; rintro e w1 ⟨rfl, rfl⟩)
        go_roundw
        case rel => exact ⟨h + 1, hi, by first | rfl | go_num, by first | rfl | go_num, by omega, h2, by first | rfl | trivial, fun m b hm hb => by
          rcases Nat.eq_or_lt_of_le (Nat.le_of_lt_succ hm) with rfl | hm
          · rw [HA.out] at hb; cases hb; exact HK.out
          · exact kl_trans (HS.out.at_ hm hb HA.out) HK.out, H4.out⟩
        case measure => simp [intOf]; omega
    · obtain rfl : lo = hi := by omega
      have hrk : rk ks k = lo := rk_eq ks k lo (by have := HL.out; omega) H3.out (fun a ha => H4.out lo a (Nat.le_refl _) ha)
      by_cases hln : lo < n
      · obtain ⟨a, ha⟩ : ∃ a, ks[lo]? = some a := ⟨_, List.getElem?_eq_getElem (by have := HL.out; omega)⟩
        obtain ⟨ad, rfl, c0⟩ := HV.out.at_ (k := lo) (u := .string a) (by simp [ha])
        have hhas : has ks k = decide (a = k) := by unfold has; rw [hrk, ha]; simp
        have i1 : (lo : Int) < (n : Int) := by omega
        have CN := Lib.hid fun W => NA.out a W
        have CN2 := Lib.hid fun W => NA.out k W
        rw [← toList_beq] at hhas
        have HH := Lib.hid hhas
        have HR := Lib.hid hrk
        clear hhas hrk ha
        cases hb : (a.toList == k.toList)
        · go_wp2_with (go_at_call 64; refine (CN.out _).mono ?_; rintro e w1 ⟨rfl, rfl⟩)
          go_ret2
          exact ⟨by rw [HR.out, HH.out, hb]; first | done | rfl, rfl⟩
        · go_wp2_with (go_at_call 64; refine (CN.out _).mono ?_; rintro e w1 ⟨rfl, rfl⟩)
          go_ret2
          exact ⟨by rw [HR.out, HH.out, hb]; first | done | rfl, rfl⟩
      · obtain rfl : lo = n := by omega
        have hhas : has ks k = false := by unfold has; rw [hrk, List.getElem?_eq_none (by have := HL.out; omega)]; simp
        have HH := Lib.hid hhas
        have HR := Lib.hid hrk
        clear hhas hrk
        go_wp2_with (go_at_call 64; refine (NA.out _ _).mono ?_; rintro e w1 ⟨rfl, rfl⟩)
        go_ret2
        exact ⟨by rw [HR.out, HH.out]; first | done | rfl, rfl⟩
end Go.Proofs.Ytlhpoliiojekeaa
