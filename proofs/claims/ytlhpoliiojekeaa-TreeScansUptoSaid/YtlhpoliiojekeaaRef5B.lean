/- The reference's Delete, Next, Scan. -/
import Derived.Test.YtlhpoliiojekeaaRef5
namespace Go.Proofs.Ytlhpoliiojekeaa
set_option maxRecDepth 100000
open Go.RowKit

set_option maxHeartbeats 8000000 in
theorem wrefDelete {w : World} {A : Option Addr} {n c : Nat} {ps : List Pr} (hr : PB w A n ps) (hn : n ≤ 4000000) (hc : n ≤ c) (k : ByteArray) :
    Calls Try.prog 27 #[.slice A n c, .string k] w fun e w' => ∃ B m d, e = .returned (.slice B m d) ∧ PB w' B m (delP ps k) ∧ m ≤ d ∧ Gw w w' := by
  have CH := Lib.hid (wrefHas (c := c) hr (by omega) k)
  have CR := Lib.hid (wrefRank (c := c) hr (by omega) k)
  have hrl := rk_has_le ps k
  have hl := hr.1
  obtain ⟨q, hq⟩ : ∃ q, rk (keys ps) k = q := ⟨_, rfl⟩
  rw [hq] at CR hrl
  cases hb : has (keys ps) k
  · rw [hb] at CH
    have HD := Lib.hid (show delP ps k = ps by simp [delP, hb])
    have HR := Lib.hid hr
    have HC := Lib.hid hc
    clear hr hl hb hq hrl hc
    go_enter Try.func27, Try.ntmps27
    go_wp2_with (go_at_call 18; refine CH.out.mono ?_; rintro e w1 ⟨rfl, hw⟩; replace hw := hw.symm; subst hw)
    go_ret
    exact ⟨_, _, _, rfl, by rw [HD.out]; exact HR.out, HC.out, Gw.refl _⟩
  · rw [hb] at CH hrl
    simp at hrl
    obtain ⟨r, hr'⟩ : ∃ r, q + 1 = r := ⟨_, rfl⟩
    rw [hr', hl] at hrl
    obtain ⟨A', hA'⟩ : ∃ A', (if c = r then A else A.map (·.add (r * 2))) = A' := ⟨_, rfl⟩
    have q1 : ∀ W, (Instr.slice 25 (.slice A n c) none (some (.int .i64 (q : Int))) none).run Try.prog W = .ok (.slice A q c) W := fun W => run_uptoP W A n c q (by omega)
    have q2 : ∀ W, (Instr.slice 25 (.slice A n c) (some (.int .i64 (r : Int))) none none).run Try.prog W = .ok (.slice A' (n - r) (c - r)) W := fun W => by rw [← hA']; exact run_fromP W A n c r hrl hc
    have P1 := Lib.hid fun W (hW : Gw w W) => (hr.gw hW).take (k := q) (by omega)
    have P2 := Lib.hid fun W (hW : Gw w W) => (show PB W A' (n - r) (ps.drop r) by rw [← hA']; exact (hr.gw hW).cut hrl hc)
    have HP := Lib.hid (show ([] : List Pr) ++ ps.take q ++ ps.drop r = delP ps k by simp [delP, hq, ← hr', hb])
    have L1 := Lib.hid (show (ps.take q).length = q by rw [List.length_take]; omega)
    have L2 := Lib.hid (show q ≤ 4000000 ∧ n - r ≤ 4000000 by omega)
    have er : IntKind.i64.wrap ((q : Int) + 1) = (r : Int) := by rw [IntKind.wrap_i64]; omega
    clear hr hq hr' hrl hl hA' hb hc
    go_enter Try.func27, Try.ntmps27
    go_upto_region 6 with (first
      | (go_at_call 18; refine CH.out.mono ?_; rintro e w1 ⟨rfl, hw⟩; replace hw := hw.symm; subst hw)
      | (go_at_call 33; refine CR.out.mono ?_; rintro e w1 ⟨rfl, hw⟩; replace hw := hw.symm; subst hw; clear CR)
      | (at_builtin; go_loud (refine po_append (by rfl) (.tmp 15) (.tmp 18) (by rfl) w.heap.size _ [] (by rfl) (PO.nil _ _) A q c (ps.take q) (by rfl) (P1.out w (Gw.refl _)) (by have := L2.out; simp; omega) (Nat.le_refl _) ?_; intro v3 w3 o3 b3; have O3 := Lib.hid o3; have B3 := Lib.hid (show Gw w w3 from b3); clear o3 b3)))
    go_wp2_with (at_builtin; go_loud (refine po_append (by rfl) (.tmp 20) (.tmp 24) (by rfl) w.heap.size _ ([] ++ ps.take q) (by rfl) O3.out A' (n - r) (c - r) (ps.drop r) (by rfl) (P2.out _ B3.out) (by have := L1.out; have := L2.out; simp; omega) (Below.size B3.out) ?_; intro v5 w5 o5 b5; have O5 := Lib.hid o5; have B5 := Lib.hid (show Gw w w5 from Below.trans B3.out b5); clear o5 b5))
    obtain ⟨B, d, rfl, p5, hd, -⟩ := PO.form O5.out
    go_ret
    exact ⟨B, _, d, rfl, by rw [← HP.out]; exact p5, hd, B5.out⟩

set_option maxHeartbeats 4000000 in
theorem wrefNext {w : World} {A : Option Addr} {n c : Nat} {ps : List Pr} (hr : PB w A n ps) (hn : n ≤ 4000000) (k : ByteArray) (b : Bool) :
    Calls Try.prog 30 #[.slice A n c, .string k, .bool b] w fun e w' => e = .returned (atV ps ((rk (keys ps) k + if b && has (keys ps) k then 1 else 0 : Nat) : Int)) ∧ ∃ j, w' = w.drewN j := by
  have CR := Lib.hid (wrefRank (c := c) hr (by omega) k)
  have CH := Lib.hid (wrefHas (c := c) hr (by omega) k)
  have CA := Lib.hid fun (i : Int) => wrefAt (c := c) hr (by omega) i
  have hrl := rk_le (keys ps) k
  rw [keys_len, hr.1] at hrl
  obtain ⟨q, hq⟩ : ∃ q, rk (keys ps) k = q := ⟨_, rfl⟩
  rw [hq] at CR hrl ⊢
  have aux : ∀ (r : Nat) (v : Value), atV ps (r : Int) = v → (∃ a b c, v = .tuple #[.string a, .int .i64 b, .bool c]) := fun r v hv => by
    rw [← hv]
    unfold atV
    rw [if_pos (by omega)]
    split <;> exact ⟨_, _, _, rfl⟩
  clear hr hq
  cases b
  · simp only [Bool.false_and, Bool.false_eq_true, if_false, Nat.add_zero]
    obtain ⟨v, hv⟩ : ∃ v, atV ps (q : Int) = v := ⟨_, rfl⟩
    obtain ⟨x, y, t, rfl⟩ := aux q v hv
    have CA2 := Lib.hid (CA.out (q : Int))
    rw [hv] at CA2 ⊢
    clear CA hv aux
    go_enter Try.func30, Try.ntmps30
    go_wp2_with (first | (go_at_call 33; refine CR.out.mono ?_; rintro e w1 ⟨rfl, hw⟩; replace hw := hw.symm; subst hw) | (go_at_call 18; refine CH.out.mono ?_; rintro e w1 ⟨rfl, hw⟩; replace hw := hw.symm; subst hw) | (go_at_call 34; refine CA2.out.mono ?_; rintro e w1 ⟨rfl, j, rfl⟩))
    go_ret3
    exact ⟨rfl, ⟨_, rfl⟩⟩
  · cases hb : has (keys ps) k
    · rw [hb] at CH
      simp only [Bool.and_false, Bool.false_eq_true, if_false, Nat.add_zero]
      obtain ⟨v, hv⟩ : ∃ v, atV ps (q : Int) = v := ⟨_, rfl⟩
      obtain ⟨x, y, t, rfl⟩ := aux q v hv
      have CA2 := Lib.hid (CA.out (q : Int))
      rw [hv] at CA2 ⊢
      clear CA hv aux hb
      go_enter Try.func30, Try.ntmps30
      go_wp2_with (first | (go_at_call 33; refine CR.out.mono ?_; rintro e w1 ⟨rfl, hw⟩; replace hw := hw.symm; subst hw) | (go_at_call 18; refine CH.out.mono ?_; rintro e w1 ⟨rfl, hw⟩; replace hw := hw.symm; subst hw) | (go_at_call 34; refine CA2.out.mono ?_; rintro e w1 ⟨rfl, j, rfl⟩))
      go_ret3
      exact ⟨rfl, ⟨_, rfl⟩⟩
    · rw [hb] at CH
      simp only [Bool.true_and, if_true]
      obtain ⟨v, hv⟩ : ∃ v, atV ps ((q + 1 : Nat) : Int) = v := ⟨_, rfl⟩
      obtain ⟨x, y, t, rfl⟩ := aux (q + 1) v hv
      have CA2 := Lib.hid (CA.out ((q : Int) + 1))
      have hcast : ((q + 1 : Nat) : Int) = (q : Int) + 1 := by omega
      rw [hv]
      rw [hcast] at hv
      rw [hv] at CA2
      clear CA hv aux hb hcast
      go_enter Try.func30, Try.ntmps30
      go_wp2_with (first | (go_at_call 33; refine CR.out.mono ?_; rintro e w1 ⟨rfl, hw⟩; replace hw := hw.symm; subst hw) | (go_at_call 18; refine CH.out.mono ?_; rintro e w1 ⟨rfl, hw⟩; replace hw := hw.symm; subst hw) | (go_at_call 34; refine CA2.out.mono ?_; rintro e w1 ⟨rfl, j, rfl⟩))
      go_ret3
      exact ⟨rfl, ⟨_, rfl⟩⟩
end Go.Proofs.Ytlhpoliiojekeaa
