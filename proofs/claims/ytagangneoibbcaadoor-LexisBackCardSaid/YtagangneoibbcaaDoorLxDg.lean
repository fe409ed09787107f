/- Layer 12: Digits of the reference of layer 4, written. -/
import Derived.Test.YtagangneoibbcaaDoorLxQt
set_option linter.unusedVariables false
namespace Go.Proofs.YtagangneoibbcaaDoor
set_option maxRecDepth 100000
open Go.RowKit

theorem strOf_app (a b : List Int) : strOfNums (a ++ b) = strOfNums a ++ strOfNums b := by
  apply ByteArray.ext
  rw [ByteArray.data_append]
  simp [strOfNums]
theorem digP_len : ∀ (k n : Nat), n < 10 ^ (k + 1) → (digP n).length ≤ k + 1
  | 0, n, h => by rw [digP_small (by simpa using h)]; simp
  | k + 1, n, h => by
    by_cases q : n < 10
    · rw [digP_small q]; simp
    · rw [digP_big q, List.length_append, List.length_singleton]
      have := digP_len k (n / 10) (by rw [Nat.pow_succ] at h; omega)
      omega
set_option maxHeartbeats 8000000 in
theorem wrDigits (n : Nat) (w : World) (hn : n < 9223372036854775808) :
    Calls Tryd.prog 40 #[.int .i64 (n : Nat)] w fun e w' => e = .returned (.string (strOfNums (digP n))) ∧ Below w.heap.size w w' := by
  induction n using Nat.strongRecOn generalizing w with
  | _ n ih =>
    have j2 : ((n : Int)).tmod 10 = ((n % 10 : Nat) : Int) := by rw [Int.tmod_eq_emod_of_nonneg (by omega)]; omega
    obtain ⟨m, hm⟩ : ∃ m, n % 10 = m := ⟨_, rfl⟩
    rw [hm] at j2
    have hm10 : m < 10 := by omega
    have hu8 : IntKind.u8.wrap (48 + (m : Int)) = 48 + (m : Int) := by simp only [IntKind.wrap, IntKind.bits, IntKind.signed]; simp; omega
    have R1 := Lib.hid (fun W : World => rb_one1 W (48 + (m : Int)) (by omega))
    by_cases h : n < 10
    · have hd : digP n = [48 + (m : Int)] := by rw [digP_small h]; congr 1; omega
      have HD := Lib.hid hd
      have h1 : ¬ (10 : Int) ≤ (n : Int) := by omega
      have hcv := rb_str (R1.out w) 1
      clear ih hd hm
      go_enter Tryd.func40, Tryd.ntmps40
      go_wp2
      go_ret
      exact ⟨by rw [HD.out]; rfl, (Below.refl _ _).alloc (Nat.le_refl _) _⟩
    · have HD := Lib.hid (show strOfNums (digP n) = strOfNums (digP (n / 10)) ++ strOfNums [48 + (m : Int)] by rw [digP_big h, strOf_app, hm])
      have HIH := Lib.hid (fun W => ih (n / 10) (by omega) W (by omega))
      have hsz : (strOfNums (digP (n / 10))).size ≤ 30 := by
        rw [strOf_sz]
        exact Nat.le_trans (digP_len 18 (n / 10) (by omega)) (by decide)
      have h1 : (10 : Int) ≤ (n : Int) := by omega
      obtain ⟨q, hq⟩ : ∃ q, n / 10 = q := ⟨_, rfl⟩
      have j1 : ((n : Int)).tdiv 10 = (q : Int) := by rw [Int.tdiv_eq_ediv_of_nonneg (by omega)]; omega
      rw [hq] at HIH HD hsz
      have w1 : IntKind.i64.wrap (q : Int) = (q : Int) := by rw [IntKind.wrap_i64]; omega
      have hcv := rb_str (R1.out w) 1
      obtain ⟨sq, hsq⟩ : ∃ s, strOfNums (digP q) = s := ⟨_, rfl⟩
      obtain ⟨sm, hsm⟩ : ∃ s, strOfNums [48 + (m : Int)] = s := ⟨_, rfl⟩
      have hsm1 : sm.size = 1 := by rw [← hsm, strOf_sz]; rfl
      rw [hsq, hsm] at HD
      rw [hsq] at HIH hsz
      rw [hsm] at hcv
      have hcat : ¬ 9223372036854775807 < sq.size + sm.size := by omega
      have hcat1 : ¬ 9223372036854775807 < sq.size + 1 := by omega
      clear ih hm hq hsq hsm
      go_enter Tryd.func40, Tryd.ntmps40
      go_wp2_with (go_at_call 40; go_loud (refine (HIH.out _).mono ?_; rintro e w2 ⟨rfl, b2⟩; have B2 := Lib.hid (below_next ((Below.refl _ _).alloc (Nat.le_refl _) _) b2); clear b2))
      go_ret
      exact ⟨by rw [HD.out]; rfl, B2.out⟩
theorem Good.num {x : Tk} (h : Good x) (hk : x.k = 2) : ∃ n : Nat, x.vi = (n : Int) ∧ n < 9223372036854775808 := by
  cases h with
  | name => (exfalso; dsimp only at hk; omega)
  | int h1 => exact ⟨_, rfl, h1⟩
  | text => (exfalso; dsimp only at hk; omega)
  | sign => (exfalso; dsimp only at hk; omega)
theorem Good.bytes {x : Tk} (h : Good x) (hk : x.k = 3) : x.vb.size ≤ 4096 := by
  cases h with
  | name => (exfalso; dsimp only at hk; omega)
  | int h1 => (exfalso; dsimp only at hk; omega)
  | text h1 h2 => show (strOfNums _).size ≤ 4096; rw [strOf_sz]; exact h2
  | sign => (exfalso; dsimp only at hk; omega)
theorem Good.len {x : Tk} (h : Good x) : (wrP x).length ≤ 16400 := by
  unfold wrP
  split
  · rename_i hk
    obtain ⟨n, e, hn⟩ := h.num hk
    rw [e, Int.toNat_natCast]
    exact Nat.le_trans (digP_len 18 n (by omega)) (by decide)
  · split
    · rename_i hk
      have := h.bytes hk
      have h2 := qs_len (strB x.vb)
      rw [strB_len] at h2
      unfold quoteP
      rw [List.length_cons, List.length_append, List.length_singleton]; omega
    · rw [strB_len]
      rename_i h2 h3
      cases h with
      | name h1 _ _ h4 => show (strOfNums _).size ≤ _; rw [strOf_sz]; omega
      | int => exact absurd rfl h2
      | text => exact absurd rfl h3
      | sign h1 => show (strOfNums _).size ≤ _; rw [strOf_sz]; have := Nat.le_trans (Nat.le_of_eq h1) (sign_le _ _); omega
set_option maxHeartbeats 8000000 in
theorem wWritten {x : Tk} (hg : Good x) (w : World) :
    Calls Tryd.prog 24 #[.agg #[Value.int .i64 x.k, .string x.t, .int .i64 x.vk, .int .i64 x.vi, .bool false, .string x.vb, .complex .f64 0 0, .int .i64 (x.a : Nat)]] w fun e w' => e = .returned (.tuple #[.string (strOfNums (wrP x)), .bool true]) ∧ Below w.heap.size w w' := by
  obtain ⟨k, t, vk, vi, vb, a⟩ := x
  dsimp only
  have hst := run_store_cx Tryd.prog
  have B0 := Lib.hid (show ∀ o, Below w.heap.size w (w.alloc o) from fun o => (Below.refl _ _).alloc (Nat.le_refl _) _)
  by_cases h2 : k = 2
  · obtain ⟨n, e, hn⟩ := hg.num h2
    dsimp only at e
    subst e
    have CD := Lib.hid (fun W => wrDigits n W hn)
    have HW := Lib.hid (show wrP ⟨k, t, vk, (n : Int), vb, a⟩ = digP n by unfold wrP; rw [if_pos h2]; rfl)
    subst h2
    clear hg
    go_enter Tryd.func24, Tryd.ntmps24
    go_wp2_with (go_at_call 40; go_loud (refine (CD.out _).mono ?_; rintro e w2 ⟨rfl, b2⟩; have B2 := Lib.hid (below_next (B0.out _) b2); clear b2))
    go_ret2
    exact ⟨by rw [HW.out]; rfl, B2.out⟩
  · have e2 : (k == 2) = false := by simpa using h2
    by_cases h3 : k = 3
    · have hb := hg.bytes h3
      have CQ := Lib.hid (fun W => wQuote vb W hb)
      have HW := Lib.hid (show wrP ⟨k, t, vk, vi, vb, a⟩ = quoteP (strB vb) by unfold wrP; rw [if_neg h2, if_pos h3])
      subst h3
      obtain ⟨sq, hsq⟩ : ∃ s, strOfNums (quoteP (strB vb)) = s := ⟨_, rfl⟩
      have HSQ := Lib.hid hsq
      rw [hsq] at CQ
      clear hg hb h2 hsq
      go_enter Tryd.func24, Tryd.ntmps24
      go_wp2_with (go_at_call 22; go_loud (refine (CQ.out _).mono ?_; rintro e w2 ⟨rfl, b2⟩; have B2 := Lib.hid (below_next (B0.out _) b2); clear b2))
      go_ret2
      exact ⟨by rw [HW.out, HSQ.out]; rfl, B2.out⟩
    · have e3 : (k == 3) = false := by simpa using h3
      have HW := Lib.hid (show strOfNums (wrP ⟨k, t, vk, vi, vb, a⟩) = t by unfold wrP; rw [if_neg h2, if_neg h3]; exact nums_strB12 t)
      clear hg h2 h3
      go_enter Tryd.func24, Tryd.ntmps24
      go_wp2
      go_ret2
      exact ⟨by rw [HW.out]; rfl, B0.out _⟩
end Go.Proofs.YtagangneoibbcaaDoor
