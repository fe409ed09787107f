/- Layer 12: the reference's whole and sign. -/
import Derived.Test.YtagangneoibbcaaDoorLxR
set_option linter.unusedVariables false
namespace Go.Proofs.YtagangneoibbcaaDoor
set_option maxRecDepth 100000
set_option maxRecDepth 100000
open Go.RowKit

/-- What whole has so far. -/
def WhI (d : List Int) (n : Int) (fits : Bool) : Prop := 0 ≤ n ∧ n < 18446744073709551616 ∧ fits = decide (numP d < 9223372036854775808) ∧ (fits = true → n = (numP d : Nat))
theorem WhI.step {d : List Int} {n c : Int} {fits : Bool} (h : WhI d n fits) (hc : 48 ≤ c ∧ c ≤ 57) :
    (922337203685477580 < n → WhI (d ++ [c]) ((n * 10 + (c - 48)) % 18446744073709551616) false) ∧
    (¬ 922337203685477580 < n → WhI (d ++ [c]) (n * 10 + (c - 48)) (fits && decide (n * 10 + (c - 48) < 9223372036854775808))) := by
  obtain ⟨h0, h1, h2, h3⟩ := h
  have hs : numP (d ++ [c]) = numP d * 10 + (c - 48).toNat := numF_snoc 0 d c
  refine ⟨fun hb => ⟨by omega, by omega, ?_, fun h => by cases h⟩, fun hb => ⟨by omega, by omega, ?_, fun h => ?_⟩⟩
  · symm
    rw [decide_eq_false_iff_not, hs]
    intro hlt
    cases hf : fits with
    | true => have := h3 hf; omega
    | false =>
      rw [hf] at h2
      have := of_decide_eq_false h2.symm
      omega
  · rw [hs]
    cases hf : fits with
    | true =>
      have := h3 hf
      rw [Bool.true_and]
      congr 1
      rw [eq_iff_iff]
      omega
    | false =>
      rw [hf] at h2
      have := of_decide_eq_false h2.symm
      rw [Bool.false_and]
      symm
      rw [decide_eq_false_iff_not]
      omega
  · rw [Bool.and_eq_true] at h
    have := h3 h.1
    rw [hs]
    omega
theorem WhI.nil : WhI [] 0 true := ⟨by decide, by decide, rfl, fun _ => rfl⟩
theorem ret3_eq {a b a' b' : Int} {q q' : Bool} (h1 : a = a') (h2 : b = b') (h3 : q = q') : Ending.returned (.tuple #[.int .i64 a, .int .i64 b, .bool q]) = .returned (.tuple #[.int .i64 a', .int .i64 b', .bool q']) := by rw [h1, h2, h3]

theorem u64_bd (z : Int) : 0 ≤ IntKind.u64.wrap z ∧ IntKind.u64.wrap z < 18446744073709551616 := by
  simp only [IntKind.wrap, IntKind.bits, IntKind.signed]; simp; omega
theorem WhI.over {d : List Int} {n c n' : Int} {fits : Bool} (h : WhI d n fits) (hc : 48 ≤ c ∧ c ≤ 57) (hb : 922337203685477580 < n) (h0 : 0 ≤ n') (h1 : n' < 18446744073709551616) : WhI (d ++ [c]) n' false := by
  obtain ⟨-, -, h2, -⟩ := (h.step hc).1 hb
  exact ⟨h0, h1, h2, fun h => by cases h⟩
/-- What whole leaves. -/
def WholeIs (R : List Int) (i : Nat) (w : World) (e : Ending) (w' : World) : Prop :=
  ∃ n, e = .returned (.tuple #[.int .i64 n, .int .i64 (i + (R.takeWhile digB).length : Nat), .bool (!badN R)]) ∧ (badN R = false → n = (numP (R.takeWhile digB) : Nat)) ∧ w = w'
theorem WholeIs.mk_ {R : List Int} {i : Nat} {w : World} {n m : Int} {b : Bool} {e : Ending} (he : e = .returned (.tuple #[.int .i64 n, .int .i64 m, .bool b])) (hj : m = (i + (R.takeWhile digB).length : Nat)) (hb : badN R = !b) (hn : b = true → n = (numP (R.takeWhile digB) : Nat)) : WholeIs R i w e w := by
  subst hj
  refine ⟨n, by rw [he, hb]; simp, fun h => hn ?_, rfl⟩
  rw [hb] at h
  simpa using h
set_option maxHeartbeats 16000000 in
theorem wrWhole (s : ByteArray) (i : Nat) (w : World) (hi : i < s.size) (hs : s.size ≤ 65536) (hd : digB (chP (strB s) i) = true) :
    Calls Tryd.prog 51 #[.string s, .int .i64 (i : Nat)] w (WholeIs ((strB s).drop i) i w) := by
  obtain ⟨L, hL⟩ : ∃ L, strB s = L := ⟨_, rfl⟩
  have HLL := Lib.hid (show L.length = s.size by rw [← hL]; exact strB_len s)
  have HC := Lib.hid (fun (j : Nat) (h : j < s.size) => (show chP L j = ((s[j]).toNat : Int) by rw [← hL, chP_at s j h]))
  have HD := Lib.hid hd
  rw [hL] at HD ⊢
  clear hL hd
  go_enter Tryd.func51, Tryd.ntmps51
  go_wp2
  go_loop [7, 8, 9] (fun vn vf ve => ∃ (j : Nat) (n : Int) (fits : Bool), vn = .int .u64 n ∧ vf = .bool fits ∧ ve = .int .i64 (j : Nat) ∧ i ≤ j ∧ j ≤ s.size ∧ WhI ((L.drop i).take (j - i)) n fits ∧ ∀ m, i ≤ m → m < j → digB (chP L m) = true) (fun _ _ ve => s.size - (intOf ve).toNat)
  case atStart => exact ⟨i, 0, true, rfl, rfl, rfl, Nat.le_refl _, Nat.le_of_lt hi, by rw [Nat.sub_self, List.take_zero]; exact WhI.nil, fun m h1 h2 => by omega⟩
  case round =>
    obtain ⟨j, n, fits, rfl, rfl, rfl, hij, hj, hW, hA⟩ := hrel
    have HW := Lib.hid hW
    have HA := Lib.hid hA
    obtain ⟨hn0, hn1, -, hnf⟩ := hW
    clear hA
    have CD := Lib.hid fun c W => wrDigit c W
    have CLo := Lib.hid fun c W => wrLow c W
    by_cases hgo : j < s.size ∧ digB (chP L j) = true
    · obtain ⟨hlt, hdj⟩ := hgo
      rw [HC.out j hlt] at hdj
      have CDj := Lib.hid fun W => CD.out ((s[j]).toNat : Int) W
      rw [hdj] at CDj
      have hcb : 48 ≤ ((s[j]).toNat : Int) ∧ ((s[j]).toNat : Int) ≤ 57 := by unfold digB at hdj; simpa using hdj
      have HTK := Lib.hid (show (L.drop i).take (j + 1 - i) = (L.drop i).take (j - i) ++ [((s[j]).toNat : Int)] by
        rw [show j + 1 - i = (j - i) + 1 by omega, List.take_succ_eq_append_getElem (by rw [List.length_drop, HLL.out]; omega)]
        congr 2
        rw [List.getElem_drop]
        have := HC.out j hlt
        unfold chP at this
        rw [List.getD_eq_getElem?_getD, List.getElem?_eq_getElem (by rw [HLL.out]; exact hlt), Option.getD_some] at this
        rw [← this]
        congr 1
        omega)
      have HA2 := Lib.hid (show ∀ m, i ≤ m → m < j + 1 → digB (chP L m) = true from fun m h1 h2 => by
        by_cases hm : m = j
        · rw [hm, HC.out j hlt]; exact hdj
        · exact HA.out m h1 (by omega))
      have HCB := Lib.hid hcb
      obtain ⟨hc0, hc1⟩ := hcb
      clear hdj hnf
      by_cases hbig : 922337203685477580 < n
      · have HOV := Lib.hid (fun n' h0 h1 => HW.out.over (n' := n') HCB.out hbig h0 h1)
        go_wp2_with (go_at_call 50; refine (CDj.out _).mono ?_; rintro e w1 ⟨rfl, rfl⟩)
        go_round
        case rel => exact ⟨j + 1, _, false, rfl, rfl, by go_num, by omega, by omega, by rw [HTK.out]; exact HOV.out _ (u64_bd _).1 (u64_bd _).2, HA2.out⟩
        case measure => simp [intOf]; omega
      · have HST := Lib.hid ((HW.out.step HCB.out).2 hbig)
        cases fits with
        | false =>
          go_wp2_with (go_at_call 50; refine (CDj.out _).mono ?_; rintro e w1 ⟨rfl, rfl⟩)
          go_round
          case rel => exact ⟨j + 1, _, _, rfl, rfl, by go_num, by omega, by omega, by rw [HTK.out]; exact HST.out, HA2.out⟩
          case measure => simp [intOf]; omega
        | true =>
          go_wp2_with (go_at_call 50; refine (CDj.out _).mono ?_; rintro e w1 ⟨rfl, rfl⟩)
          go_round
          case rel => exact ⟨j + 1, _, _, rfl, rfl, by go_num, by omega, by omega, by rw [HTK.out]; exact HST.out, HA2.out⟩
          case measure => simp [intOf]; omega
    · have hnd : digB (chP L j) = false := by
        rcases Nat.lt_or_ge j s.size with h | h
        · cases e : digB (chP L j) with
          | false => rfl
          | true => exact absurd ⟨h, e⟩ hgo
        · rw [chP_end L j (by rw [HLL.out]; exact h)]; decide
      have hij2 : i < j := by
        rcases Nat.lt_or_ge i j with h | h
        · exact h
        · have : i = j := by omega
          subst this
          rw [HD.out] at hnd; cases hnd
      have htw := takeWhile_is digB L i j hij (by rw [HLL.out]; exact hj) HA.out hnd
      have hlen : ((L.drop i).take (j - i)).length = j - i := by rw [List.length_take, List.length_drop, HLL.out]; omega
      have HJ := Lib.hid (show ((j : Nat) : Int) = (i + ((L.drop i).takeWhile digB).length : Nat) by rw [htw, hlen]; omega)
      have hbad : badN (L.drop i) = (lowB (chP L j) || decide (chP L j = 95) || !fits || (decide (((s[i]'hi).toNat : Int) = 48) && decide (1 < j - i))) := by
        unfold badN
        rw [htw, hlen, chP_drop, chP_drop, Nat.add_zero, show i + (j - i) = j by omega, HC.out i hi, HW.out.2.2.1]
        congr 2
        rw [← decide_not]
        congr 1
        rw [eq_iff_iff]
        omega
      have HN := Lib.hid (show fits = true → n = (numP ((L.drop i).takeWhile digB) : Nat) by rw [htw]; exact HW.out.2.2.2)
      have hb1 : fits = true → n < 9223372036854775808 := fun h => by
        have h2 := HW.out.2.2.1
        rw [h] at h2
        have := of_decide_eq_true h2.symm
        have := HW.out.2.2.2 h
        omega
      have e1 : decide (1 < j - i) = decide ((i : Int) + 1 < (j : Int)) := by
        congr 1
        rw [eq_iff_iff]
        omega
      rw [e1] at hbad
      clear hgo htw hlen hnf e1
      by_cases hlt : j < s.size
      · rcases h48 : (((s[i]'hi).toNat : Int) == 48) with _ | _
        all_goals rw [show decide (((s[i]'hi).toNat : Int) = 48) = _ from h48] at hbad
        all_goals by_cases hlong : (i : Int) + 1 < (j : Int)
        all_goals first | rw [show decide ((i : Int) + 1 < (j : Int)) = true by simpa using hlong] at hbad | rw [show decide ((i : Int) + 1 < (j : Int)) = false by simpa using hlong] at hbad
        all_goals rw [HC.out j hlt] at hbad hnd
        all_goals have CD2 := Lib.hid fun W => CD.out ((s[j]).toNat : Int) W
        all_goals rw [hnd] at CD2
        all_goals have CLo2 := Lib.hid fun W => CLo.out ((s[j]).toNat : Int) W
        all_goals rcases hl : lowB ((s[j]).toNat : Int) with _ | _
        all_goals rw [hl] at CLo2 hbad
        all_goals rcases h95 : (((s[j]).toNat : Int) == 95) with _ | _
        all_goals rw [show decide (((s[j]).toNat : Int) = 95) = _ from h95] at hbad
        all_goals rcases fits with _ | _
        all_goals simp only [Bool.not_true, Bool.not_false, Bool.or_true, Bool.true_or, Bool.or_false, Bool.false_or, Bool.and_true, Bool.true_and, Bool.and_false, Bool.false_and] at hbad
        all_goals have HB := Lib.hid hbad
        all_goals first | (have hb2 := hb1 rfl; clear hb1 hbad hl hnd) | clear hb1 hbad hl hnd
        all_goals
          go_wp2_with (first | (go_at_call 33; refine (CLo2.out _).mono ?_; rintro e w1 ⟨rfl, rfl⟩) | (go_at_call 50; refine (CD2.out _).mono ?_; rintro e w1 ⟨rfl, rfl⟩))
          go_ret3
          exact WholeIs.mk_ rfl HJ.out (by rw [HB.out]; rfl) (fun h => by first | exact HN.out (by trivial) | (exact absurd h (by decide)))
      · rcases h48 : (((s[i]'hi).toNat : Int) == 48) with _ | _
        all_goals rw [show decide (((s[i]'hi).toNat : Int) = 48) = _ from h48] at hbad
        all_goals by_cases hlong : (i : Int) + 1 < (j : Int)
        all_goals first | rw [show decide ((i : Int) + 1 < (j : Int)) = true by simpa using hlong] at hbad | rw [show decide ((i : Int) + 1 < (j : Int)) = false by simpa using hlong] at hbad
        all_goals rw [show chP L j = -1 from chP_end L j (by rw [HLL.out]; omega), show lowB (-1) = false from rfl, show decide ((-1 : Int) = 95) = false from rfl] at hbad
        all_goals rcases fits with _ | _
        all_goals simp only [Bool.not_true, Bool.not_false, Bool.or_true, Bool.true_or, Bool.or_false, Bool.false_or, Bool.and_true, Bool.true_and, Bool.and_false, Bool.false_and] at hbad
        all_goals have HB := Lib.hid hbad
        all_goals first | (have hb2 := hb1 rfl; clear hb1 hbad hnd) | clear hb1 hbad hnd
        all_goals
          go_wp2
          go_ret3
          exact WholeIs.mk_ rfl HJ.out (by rw [HB.out]; rfl) (fun h => by first | exact HN.out (by trivial) | (exact absurd h (by decide)))

/-- The sign at a place. -/
def signS (R : List Int) : ByteArray := strOfNums (R.take (signN (chP R 0) (chP R 1)))
end Go.Proofs.YtagangneoibbcaaDoor
