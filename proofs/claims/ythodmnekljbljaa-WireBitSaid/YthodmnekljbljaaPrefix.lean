/- No number's bytes and no text's bytes begin another's; the call of bytes.HasPrefix. -/
import Derived.Test.YthodmnekljbljaaEqual
import Derived.Test.YthodmnekljbljaaText
namespace Go.Proofs.Ythodmnekljbljaa
open Go.RowKit

theorem uintB_unique : ∀ (x y : Nat) (q r : List Int), uintB y ++ r = uintB x ++ q → y = x ∧ r = q := by
  intro x
  induction x using Nat.strongRecOn with
  | ind x ih =>
    intro y q r h
    by_cases hx : x < 128
    · by_cases hy : y < 128
      · rw [uintB_last x hx, uintB_last y hy] at h
        simp only [List.cons_append, List.nil_append, List.cons.injEq] at h
        exact ⟨by omega, h.2⟩
      · rw [uintB_last x hx, uintB_on' y hy] at h
        simp only [List.cons_append, List.nil_append, List.cons.injEq] at h
        omega
    · by_cases hy : y < 128
      · rw [uintB_on' x hx, uintB_last y hy] at h
        simp only [List.cons_append, List.nil_append, List.cons.injEq] at h
        omega
      · rw [uintB_on' x hx, uintB_on' y hy] at h
        simp only [List.cons_append, List.cons.injEq] at h
        obtain ⟨h1, h2⟩ := ih (x / 128) (by omega) (y / 128) q r h.2
        exact ⟨by omega, h2⟩

theorem uintB_head {x y : Nat} {r : List Int} (h : uintB y ++ r = uintB x) : y = x := (uintB_unique x y [] r (by simpa using h)).1

theorem strB_inj {s t : ByteArray} (h : strB s = strB t) : s = t := by
  have key : ∀ (a b : List UInt8), a.map (fun b => (b.toNat : Int)) = b.map (fun b => (b.toNat : Int)) → a = b := by
    intro a
    induction a with
    | nil => intro b hb; cases b with
      | nil => rfl
      | cons _ _ => simp at hb
    | cons x a ih => intro b hb; cases b with
      | nil => simp at hb
      | cons y b =>
        simp only [List.map_cons, List.cons.injEq] at hb
        rw [ih b hb.2]
        congr 1
        exact UInt8.toNat_inj.1 (by omega)
  have h2 := key _ _ h
  cases s with | mk d => cases t with | mk d' => congr 1; exact Array.toList_inj.1 h2

theorem textB_head {s t : ByteArray} {r : List Int} (h : textB t ++ r = textB s) : t = s := by
  unfold textB at h
  rw [List.append_assoc] at h
  obtain ⟨h1, h2⟩ := uintB_unique s.size t.size _ _ h
  have h3 : strB t = strB s := by
    have := congrArg (List.take t.size) h2
    rw [List.take_left' (strB_len t), h1, List.take_of_length_le (by rw [strB_len]; exact Nat.le_refl _)] at this
    exact this
  exact strB_inj h3

/-- bytes.HasPrefix: false where the second one begins the first one in no way. -/
theorem prefix_no (A B : Option Addr) (n m c d : Nat) (zs ys : List Int) (w : World) (h1 : RB w A n zs) (h2 : RB w B m ys) (hc : n ≤ c) (hcm : c ≤ 9223372036854775807) (hm : m ≤ 9223372036854775807) (hne : ∀ r, ys ++ r ≠ zs) :
    Calls Try.prog 35 #[.slice A n c, .slice B m d] w fun e w' => e = .returned (.bool false) ∧ w = w' := by
  by_cases hlt : n < m
  · have hd : decide (m ≤ n) = false := by simp; omega
    have hd2 : decide ((m : Int) ≤ (n : Int)) = false := by simp; omega
    go_enter Try.func35, Try.ntmps35
    go_wp2
    go_ret
    exact ⟨rfl, rfl⟩
  · have hd : decide (m ≤ n) = true := by simp; omega
    have hd2 : decide ((m : Int) ≤ (n : Int)) = true := by simp; omega
    have hmn : m ≤ n := by omega
    have ht := h1.take hmn
    have hz : zs.take m ≠ ys := by
      intro e
      exact hne (zs.drop m) (by rw [← e]; exact List.take_append_drop m zs)
    go_enter Try.func35, Try.ntmps35
    go_wp2_with fail
    refine (equal_other _ _ _ _ _ _ _ _ _ ht h2 hz).mono ?_
    rintro e w' ⟨rfl, rfl⟩
    go_wp2
    go_ret
    exact ⟨rfl, rfl⟩
end Go.Proofs.Ythodmnekljbljaa
