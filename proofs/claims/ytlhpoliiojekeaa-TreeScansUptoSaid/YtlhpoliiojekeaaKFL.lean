import Derived.Test.YtlhpoliiojekeaaKND
import Derived.Test.YtlhpoliiojekeaaTNode
/- Flat, over plain lists: how many keys a node of a height holds at the least. -/
namespace Go.Proofs.Ytlhpoliiojekeaa
set_option maxRecDepth 100000
open Go.RowKit

theorem kidsP_least {kids : List Kid} {b : Nat} (h : ∀ x ∈ kids, b ≤ x.ps.length) : kids.length * b ≤ (kidsP kids).length := by
  induction kids with
  | nil => simp [kidsP]
  | cons x xs ih =>
    have h1 := h x (by simp)
    have h2 := ih fun y hy => h y (by simp [hy])
    have h3 : kidsP (x :: xs) = x.ps ++ kidsP xs := by simp [kidsP]
    rw [h3, List.length_append, List.length_cons, Nat.succ_mul]
    omega
theorem NodeAt.least {ord : Nat} (ho : 3 ≤ ord) {w : World} : ∀ {d : Nat} {v : Value} {ps : List Pr} {m : Nat}, NodeAt ord w d v ps m → Fit ord d m → ord / 2 * ((ord + 1) / 2) ^ d ≤ ps.length
  | 0, _, ps, m, ⟨g, _, _, hm⟩, hf => by
    have := hf.1
    unfold most at this
    rw [if_pos rfl] at this
    rw [Nat.pow_zero, Nat.mul_one]
    omega
  | d + 1, _, ps, m, ⟨g, ks, kids, _, hm, hC, hF⟩, hf => by
    have h1 := hf.1
    unfold most at h1
    rw [if_neg (by omega)] at h1
    have h2 := kidsP_least (b := ord / 2 * ((ord + 1) / 2) ^ d) fun x hx => (hC.is x hx).least ho (hF x hx)
    rw [hC.all, Nat.pow_succ, ← Nat.mul_assoc]
    have h3 : (ord + 1) / 2 * (ord / 2 * ((ord + 1) / 2) ^ d) ≤ kids.length * (ord / 2 * ((ord + 1) / 2) ^ d) := Nat.mul_le_mul_right _ (by omega)
    rw [Nat.mul_comm] at h3
    exact Nat.le_trans h3 h2
/-- What Flat asks of a whole tree's depth. -/
theorem NodeAt.flat {ord : Nat} (ho : 3 ≤ ord) {w : World} {d : Nat} {v : Value} {ps : List Pr} {m : Nat} (h : NodeAt ord w d v ps m) (h2 : 1 ≤ d → 2 ≤ m) : d + 1 ≤ 1 ∨ 2 * (ord / 2) * ((ord + 1) / 2) ^ (d + 1 - 2) ≤ ps.length := by
  rcases d with _ | d
  · exact Or.inl (by omega)
  · obtain ⟨g, ks, kids, _, hm, hC, hF⟩ := h
    have h3 := h2 (by omega)
    have h4 := kidsP_least (b := ord / 2 * ((ord + 1) / 2) ^ d) fun x hx => (hC.is x hx).least ho (hF x hx)
    refine Or.inr ?_
    rw [hC.all, show d + 1 + 1 - 2 = d by omega, Nat.mul_assoc]
    exact Nat.le_trans (Nat.mul_le_mul_right _ (by omega)) h4
end Go.Proofs.Ytlhpoliiojekeaa

/- Flat. -/
namespace Go.Proofs.Ytlhpoliiojekeaa
set_option maxRecDepth 100000
open Go.RowKit

set_option maxHeartbeats 4000000 in
theorem wflat (w : World) (ord depth n : Nat) (h3 : 3 ≤ ord) (h64 : ord ≤ 64) (hn : n ≤ 100000000) (hd : depth ≤ 1000) (hf : depth ≤ 1 ∨ 2 * (ord / 2) * ((ord + 1) / 2) ^ (depth - 2) ≤ n) :
    Calls Try.prog 35 #[.int .i64 (ord : Int), .int .i64 (depth : Int), .int .i64 (n : Int)] w fun e w' => e = .returned (.bool true) ∧ w' = w := by
  by_cases h1 : depth ≤ 1
  · have i1 : (depth : Int) ≤ 1 := by omega
    go_enter Try.func35, Try.ntmps35
    go_wp2
    go_ret
    exact ⟨by simp, rfl⟩
  have hf : 2 * (ord / 2) * ((ord + 1) / 2) ^ (depth - 2) ≤ n := hf.resolve_left h1
  obtain ⟨o1, ho1⟩ : ∃ o1, ord - 1 = o1 := ⟨_, rfl⟩
  have e1 : IntKind.i64.wrap ((ord : Int) - 1) = (o1 : Int) := by rw [IntKind.wrap_i64]; omega
  have CH1 := Lib.hid fun X => whalf X o1 (by omega)
  have CH := Lib.hid fun X => whalf X ord (by omega)
  obtain ⟨q1, hq1⟩ : ∃ q1, (o1 + 1) / 2 = q1 := ⟨_, rfl⟩
  obtain ⟨q, hq⟩ : ∃ q, (ord + 1) / 2 = q := ⟨_, rfl⟩
  have hq12 : ord / 2 = q1 := by omega
  rw [hq12, hq] at hf
  rw [hq1] at CH1
  rw [hq] at CH
  have b1 : q1 ≤ 32 := by omega
  have b2 : q ≤ 33 := by omega
  have b3 : 1 ≤ q := by omega
  by_cases h2 : depth = 2
  · subst h2
    have i1 : 2 * (q1 : Int) ≤ (n : Int) := by simp at hf; omega
    have i2 : (q1 : Int) ≤ 32 := by omega
    clear hf ho1 hq1 hq hq12
    go_enter Try.func35, Try.ntmps35
    go_wp2_with (go_at_call 51; refine (CH1.out _).mono ?_; rintro e w1 ⟨rfl, hw⟩; replace hw := hw.symm; subst hw)
    go_ret
    exact ⟨by simp, rfl⟩
  · obtain ⟨k, hk⟩ : ∃ k, depth = k + 3 := ⟨depth - 3, by omega⟩
    subst hk
    have hmono : ∀ i, i ≤ k + 1 → 2 * q1 * q ^ i ≤ n := fun i hi => Nat.le_trans (Nat.mul_le_mul_left _ (Nat.pow_le_pow_right b3 hi)) (by simpa using hf)
    have HM := Lib.hid hmono
    have i0 : ¬ ((k + 3 : Nat) : Int) ≤ 1 := by omega
    have i2 : (q1 : Int) ≤ 32 := by omega
    have i3 : (q : Int) ≤ 33 := by omega
    obtain ⟨D, hD⟩ : ∃ D, k + 3 = D := ⟨_, rfl⟩
    have hD2 : ¬ (D : Int) = 2 := by omega
    have hD1 : ¬ (D : Int) ≤ 1 := by omega
    have hDb : (D : Int) ≤ 1000 := by omega
    have HD := Lib.hid hD
    rw [hD]
    clear hf hmono ho1 hq1 hq hq12 i0 h1 h2 hd hD
    go_enter Try.func35, Try.ntmps35
    go_upto_region 7 with (go_at_call 51; refine (CH1.out _).mono ?_; rintro e w1 ⟨rfl, hw⟩; replace hw := hw.symm; subst hw)
    go_loopw [7, 8] (fun l i' wr => ∃ i v : Nat, i' = .int .i64 ((i + 2 : Nat) : Int) ∧ l = .int .i64 (v : Int) ∧ v = 2 * q1 * q ^ i ∧ i + 2 ≤ D ∧ wr = w) (fun _ i' _ => D - (intOf i').toNat)
    case atStart => exact ⟨0, 2 * q1, rfl, by first | rfl | simp, by simp, by have := HD.out; omega, by first | rfl | trivial⟩
    case round =>
      obtain ⟨i, v, rfl, rfl, hv, hi, rfl⟩ := hrel
      obtain ⟨i2', hi2⟩ : ∃ i2', i + 2 = i2' := ⟨_, rfl⟩
      rw [hi2] at hi ⊢
      have hvn : v ≤ n := by rw [hv]; exact HM.out i (by have := HD.out; omega)
      have vb : (v : Int) ≤ 100000000 := by omega
      by_cases hlt : i2' < D
      · obtain ⟨v2, hv2⟩ : ∃ v2, v * q = v2 := ⟨_, rfl⟩
        have hv2n : v2 ≤ n := by
          have := HM.out (i + 1) (by have := HD.out; omega)
          rw [Nat.pow_succ, ← Nat.mul_assoc, ← hv, hv2] at this
          exact this
        have em : IntKind.i64.wrap ((v : Int) * (q : Int)) = (v2 : Int) := by
          have : (v : Int) * (q : Int) = (v2 : Int) := by rw [← hv2]; simp
          rw [this, IntKind.wrap_i64]; omega
        have hm2 : (v : Int) * (q : Int) = (v2 : Int) := by rw [← hv2]; simp
        have i1 : (i2' : Int) < (D : Int) := by omega
        have j1 : ¬ (n : Int) < (v2 : Int) := by omega
        have j2 : (v2 : Int) ≤ 100000000 := by omega
        have HV := Lib.hid (show v2 = 2 * q1 * q ^ (i + 1) by rw [← hv2, hv, Nat.pow_succ, Nat.mul_assoc])
        have HI := Lib.hid hi2
        have HLT := Lib.hid hlt
        have ib : (i2' : Int) ≤ 1000 := by omega
        clear hv hvn hv2 hv2n hlt hi hi2 em
        go_wp2_with (go_at_call 51; refine (CH.out _).mono ?_; rintro e w1 ⟨rfl, hw⟩; replace hw := hw.symm; subst hw)
        go_roundw
        case rel => exact ⟨i + 1, v2, by rw [show i + 1 + 2 = i2' + 1 by have := HI.out; omega]; go_num, by first | rfl | go_num, HV.out, by have := HI.out; have := HLT.out; omega, by first | rfl | trivial⟩
        case measure => have := HLT.out; simp [intOf]; omega
      · have i1 : ¬ (i2' : Int) < (D : Int) := by omega
        have j1 : (v : Int) ≤ (n : Int) := by omega
        clear hv hvn hlt hi hi2
        go_wp2
        go_ret
        exact ⟨by simp, rfl⟩
end Go.Proofs.Ytlhpoliiojekeaa
