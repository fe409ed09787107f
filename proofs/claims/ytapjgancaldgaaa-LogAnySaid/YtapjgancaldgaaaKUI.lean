import Derived.WalkKit
import Derived.Test.YtapjgancaldgaaaOwnB
import Derived.Deep.DeepMust
import Derived.Test.YtapjgancaldgaaaEqual
/- The bytes of a number, on lists. No program is named here. -/
namespace Go.Proofs.Ytapjgancaldgaaa
set_option maxRecDepth 100000

def uintB (n : Nat) : List Int := if n < 128 then [(n : Int)] else ((n % 128 + 128 : Nat) : Int) :: uintB (n / 128)
termination_by n
decreasing_by omega

theorem uintB_last (n : Nat) (h : n < 128) : uintB n = [(n : Int)] := by rw [uintB, if_pos h]
theorem uintB_on (n : Nat) (h : ¬ n < 128) : uintB n = ((n % 128 + 128 : Nat) : Int) :: uintB (n / 128) := by rw [uintB, if_neg h]
theorem uintB_on' (n : Nat) (h : ¬ n < 128) : uintB n = ((n : Int) % 128 + 128) :: uintB (n / 128) := by rw [uintB_on n h]; congr 1
theorem uintB_byte (n : Nat) : ∀ z ∈ uintB n, 0 ≤ z ∧ z ≤ 255 := by
  induction n using Nat.strongRecOn with
  | ind n ih =>
    intro z hz
    by_cases h : n < 128
    · rw [uintB_last n h] at hz
      simp at hz; omega
    · rw [uintB_on n h] at hz
      rcases List.mem_cons.1 hz with rfl | hz
      · omega
      · exact ih (n / 128) (by omega) z hz
theorem room_step (m k u : Nat) (h : m * 2 ^ k ≤ u) : m / 128 * 2 ^ (k + 1) ≤ u := by
  have h1 : m / 128 * 2 ≤ m := by omega
  have h2 : m / 128 * 2 ^ (k + 1) = m / 128 * 2 * 2 ^ k := by rw [Nat.pow_succ, Nat.mul_comm (2 ^ k) 2, Nat.mul_assoc]
  rw [h2]
  exact Nat.le_trans (Nat.mul_le_mul_right _ h1) h
theorem room_len (m k u : Nat) (h : m * 2 ^ k ≤ u) (hm : 1 ≤ m) (hu : u < 18446744073709551616) : k < 64 := by
  rcases Nat.lt_or_ge k 64 with h64 | h64
  · exact h64
  · exfalso
    have h1 : 2 ^ 64 ≤ 2 ^ k := Nat.pow_le_pow_right (by omega) h64
    have h2 : 1 * 2 ^ k ≤ m * 2 ^ k := Nat.mul_le_mul_right _ hm
    omega
theorem uintB_len (n : Nat) (hu : n < 18446744073709551616) : (uintB n).length ≤ 10 := by
  have key : ∀ k n, n < 2 ^ (7 * k) → 1 ≤ k → (uintB n).length ≤ k := by
    intro k
    induction k with
    | zero => intro n _ h; omega
    | succ k ih =>
      intro n hn _
      by_cases h : n < 128
      · rw [uintB_last n h]; simp
      · rw [uintB_on n h]
        rcases Nat.eq_zero_or_pos k with rfl | hk
        · simp at hn; omega
        · have h7 : 2 ^ (7 * (k + 1)) = 128 * 2 ^ (7 * k) := by rw [show 7 * (k + 1) = 7 * k + 7 from by omega, Nat.pow_add]; omega
          have := ih (n / 128) (by rw [h7] at hn; omega) hk
          simp; omega
  exact key 10 n (by have : (2 : Nat) ^ (7 * 10) = 1180591620717411303424 := by decide
                     omega) (by omega)

end Go.Proofs.Ytapjgancaldgaaa

/- The calls of wire.Uint and of the reference's Uint: a new slice that holds the number's bytes. -/
namespace Go.Proofs.Ytapjgancaldgaaa
set_option maxRecDepth 100000
open Go.RowKit

/-- What a call that makes a slice of bytes leaves: the slice holds zs, it lies in new memory, what was there is as it was. -/
def Makes (w : World) (zs : List Int) (e : Ending) (w' : World) : Prop := ∃ v, e = .returned v ∧ OB w.heap.size w' v zs ∧ Below w.heap.size w w'

theorem rb_one (w : World) (z : Int) (h : 0 ≤ z ∧ z ≤ 255) : RB (w.alloc (.cells #[.int .u8 z] 5)) (some ⟨w.heap.size, 0, none⟩) 1 [z] := by
  have := RB.new w (zs := [z]) (e := 5) (fr := (0, 0)) (by simpa using h)
  simpa using this

theorem digit_u8 (m : Nat) : IntKind.u8.wrap (IntKind.u8.wrap ((m : Int) % 128) + 128) = ((m % 128 + 128 : Nat) : Int) := by
  rw [IntKind.wrap_u8, IntKind.wrap_u8]; omega

set_option maxHeartbeats 400000 in
theorem wuint (u : Nat) (w : World) (hu : u < 18446744073709551616) :
    Calls Try.prog 102 #[.int .u64 u] w (Makes w (uintB u)) := by
  have hmk := run_make_bytes w 0 10 (by omega) (by omega) (by omega)
  have hob := ob_made w 0 10 (by omega) (by omega)
  have HOB := Lib.hid hob
  clear hob
  go_enter Try.func102, Try.ntmps102
  go_wp2
  go_loopw [0, 3] (fun x v wr => ∃ (m : Nat) (acc : List Int), x = .int .u64 m ∧ m < 18446744073709551616 ∧ OB w.heap.size wr v acc ∧ Below w.heap.size w wr ∧ Hid (uintB u = acc ++ uintB m) ∧ Hid (m * 2 ^ acc.length ≤ u)) (fun x _ _ => (intOf x).toNat)
  case atStart => exact ⟨u, [], rfl, hu, HOB.out, (Below.refl _ _).alloc (Nat.le_refl _) _, rfl, Lib.hid (by simp)⟩
  case round =>
    obtain ⟨m, acc, rfl, hm, hown, hb, HU, hroom⟩ := hrel
    clear hmk HOB
    have hsz := hb.size
    by_cases hlt : m < 128
    · have HL := Lib.hid (uintB_last m hlt)
      have hle : acc.length + 1 ≤ 10 := by
        have := uintB_len u hu
        rw [HU.out, HL.out] at this
        simpa using this
      go_wp2_with (at_builtin; refine ob_append rfl (.tmp 16) (.tmp 19) rfl w.heap.size _ acc rfl (hown.alloc _) _ 1 1 [(m : Int)] rfl (rb_one wr m (by omega)) (by omega) (by simp; omega) ?_; intro v' w1 hown' hb1 hg1)
      go_ret
      exact ⟨v', rfl, by rw [HU.out, HL.out]; exact hown', (hb.alloc hsz _).trans hb1⟩
    · have HL := Lib.hid (uintB_on' m hlt)
      have hl := room_len m acc.length u hroom.out (by omega) hu
      have hr := Lib.hid (room_step m acc.length u hroom.out)
      go_wp2_with (at_builtin; refine ob_append rfl (.tmp 7) (.tmp 12) rfl w.heap.size _ acc rfl (hown.alloc _) _ 1 1 [(m : Int) % 128 + 128] rfl (rb_one wr _ (by omega)) (by omega) (by simp; omega) ?_; intro v' w1 hown' hb1 hg1)
      go_roundw
      case rel => exact ⟨m / 128, acc ++ [(m : Int) % 128 + 128], by go_num, by omega, hown', ((hb.alloc hsz _).trans hb1), Lib.hid (by rw [HU.out, HL.out]; simp), Lib.hid (by simpa using hr.out)⟩
      case measure => simp [intOf]; omega

end Go.Proofs.Ytapjgancaldgaaa

/- The calls of wire.Text and of the reference's Text. -/
namespace Go.Proofs.Ytapjgancaldgaaa
set_option maxRecDepth 100000
open Go.RowKit

def textB (s : ByteArray) : List Int := uintB s.size ++ strB s

set_option maxHeartbeats 400000 in
theorem wtext (s : ByteArray) (w : World) (hs : s.size ≤ 140737488351232) :
    Calls Try.prog 101 #[.string s] w (Makes w (textB s)) := by
  have hl := uintB_len s.size (by omega)
  go_enter Try.func101, Try.ntmps101
  go_wp2_with fail
  refine (wuint _ _ (by omega)).mono ?_
  rintro e w1 ⟨v, rfl, hown, hb⟩
  go_wp2_with (at_builtin; refine ob_append_str rfl (.tmp 6) (.tmp 7) rfl w.heap.size _ _ rfl hown s rfl (by omega) hb.size ?_; intro v' w2 hown' hb2 hg2)
  go_ret
  exact ⟨v', rfl, hown', hb.trans hb2⟩

end Go.Proofs.Ytapjgancaldgaaa

/- No number's bytes and no text's bytes begin another's; the call of bytes.HasPrefix. -/
namespace Go.Proofs.Ytapjgancaldgaaa
set_option maxRecDepth 100000
open Go.RowKit

theorem uintB_unique : ∀ (x y : Nat) (q r : List Int), uintB y ++ r = uintB x ++ q → y = x ∧ r = q := by
  intro x
  induction x using Nat.strongRecOn with
  | ind x ih =>
    intro y q r h
    by_cases hx : x < 128
    · by_cases hy : y < 128
      · rw [uintB_last x hx, uintB_last y hy] at h
        simp only [List.cons_append, List.nil_append, List.cons.injEq] at h
        exact ⟨by omega, h.2⟩
      · rw [uintB_last x hx, uintB_on' y hy] at h
        simp only [List.cons_append, List.nil_append, List.cons.injEq] at h
        omega
    · by_cases hy : y < 128
      · rw [uintB_on' x hx, uintB_last y hy] at h
        simp only [List.cons_append, List.nil_append, List.cons.injEq] at h
        omega
      · rw [uintB_on' x hx, uintB_on' y hy] at h
        simp only [List.cons_append, List.cons.injEq] at h
        obtain ⟨h1, h2⟩ := ih (x / 128) (by omega) (y / 128) q r h.2
        exact ⟨by omega, h2⟩

theorem uintB_head {x y : Nat} {r : List Int} (h : uintB y ++ r = uintB x) : y = x := (uintB_unique x y [] r (by simpa using h)).1

theorem strB_inj {s t : ByteArray} (h : strB s = strB t) : s = t := by
  have key : ∀ (a b : List UInt8), a.map (fun b => (b.toNat : Int)) = b.map (fun b => (b.toNat : Int)) → a = b := by
    intro a
    induction a with
    | nil => intro b hb; cases b with
      | nil => rfl
      | cons _ _ => simp at hb
    | cons x a ih => intro b hb; cases b with
      | nil => simp at hb
      | cons y b =>
        simp only [List.map_cons, List.cons.injEq] at hb
        rw [ih b hb.2]
        congr 1
        exact UInt8.toNat_inj.1 (by omega)
  have h2 := key _ _ h
  cases s with | mk d => cases t with | mk d' => congr 1; exact Array.toList_inj.1 h2

theorem textB_head {s t : ByteArray} {r : List Int} (h : textB t ++ r = textB s) : t = s := by
  unfold textB at h
  rw [List.append_assoc] at h
  obtain ⟨h1, h2⟩ := uintB_unique s.size t.size _ _ h
  have h3 : strB t = strB s := by
    have := congrArg (List.take t.size) h2
    rw [List.take_left' (strB_len t), h1, List.take_of_length_le (by rw [strB_len]; exact Nat.le_refl _)] at this
    exact this
  exact strB_inj h3

end Go.Proofs.Ytapjgancaldgaaa

/- The calls of wire.Int and of the reference's Int. -/
namespace Go.Proofs.Ytapjgancaldgaaa
set_option maxRecDepth 100000
open Go.RowKit

def intN (n : Int) : Nat := if n < 0 then (-2 * n - 1).toNat else (2 * n).toNat
theorem intN_lt (n : Int) (h : -9223372036854775808 ≤ n ∧ n ≤ 9223372036854775807) : intN n < 18446744073709551616 := by
  unfold intN; split <;> omega

theorem compl64 (a : Nat) (ha : a < 2 ^ 64) : (2 ^ 64 - 1) ^^^ a = 2 ^ 64 - 1 - a := by
  apply Nat.eq_of_testBit_eq
  intro i
  rw [Nat.testBit_xor, Nat.testBit_two_pow_sub_one, show 2 ^ 64 - 1 - a = 2 ^ 64 - (a + 1) by omega, Nat.testBit_two_pow_sub_succ ha]
  by_cases h : i < 64
  · simp [h]
  · have hb : a.testBit i = false := Nat.testBit_lt_two_pow (Nat.lt_of_lt_of_le ha (Nat.pow_le_pow_right (by omega) (by omega)))
    simp [h, hb]
theorem neg_u64 (n : Int) (h : -9223372036854775808 ≤ n ∧ n < 0) :
    IntKind.u64.wrap (IntKind.u64.wrap (Go.bits .xor .u64 IntKind.u64.max (IntKind.u64.wrap n) * 2) + 1) = -2 * n - 1 := by
  have h1 : IntKind.u64.wrap n = ((n + 18446744073709551616).toNat : Nat) := by rw [IntKind.wrap_u64]; omega
  have h2 : IntKind.u64.max = ((18446744073709551615 : Nat) : Int) := rfl
  have h3 : 18446744073709551615 ^^^ (n + 18446744073709551616).toNat = 18446744073709551615 - (n + 18446744073709551616).toNat := compl64 _ (by omega)
  rw [h1, h2, u64_xor_nat _ _ (by omega) (by omega), h3, IntWalk.u64_in (_ * 2) (by omega), IntWalk.u64_in _ (by omega)]
  omega

end Go.Proofs.Ytapjgancaldgaaa
