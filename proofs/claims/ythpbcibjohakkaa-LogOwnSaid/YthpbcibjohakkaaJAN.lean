import Derived.WalkKit
import Derived.Test.YthpbcibjohakkaaJAA
import Derived.Test.YthpbcibjohakkaaJAM
import Derived.Deep.DeepMust
import Derived.Laws.CopyOwn
/- CRC-32C on lists of bytes: the register, bit by bit. No program is named here. -/
namespace Go.Proofs.Ythpbcibjohakkaa.Crc
set_option maxRecDepth 100000

def bit (r : Nat) : Nat := if r % 2 = 1 then (r / 2) ^^^ 2197175160 else r / 2
def bits (r : Nat) : Nat → Nat
  | 0 => r
  | k + 1 => bit (bits r k)
def reg : List Int → Nat → Nat
  | [], r => r
  | z :: zs, r => reg zs (bits (r ^^^ z.toNat) 8)
def sum (zs : List Int) : Nat := 4294967295 ^^^ reg zs 4294967295

theorem bit_lt {r : Nat} (h : r < 4294967296) : bit r < 4294967296 := by
  unfold bit
  split
  · exact Nat.xor_lt_two_pow (n := 32) (by omega) (by omega)
  · omega
theorem bits_lt {r : Nat} (h : r < 4294967296) : ∀ k, bits r k < 4294967296
  | 0 => h
  | k + 1 => bit_lt (bits_lt h k)
theorem xor_lt {a b : Nat} (ha : a < 4294967296) (hb : b < 4294967296) : a ^^^ b < 4294967296 := Nat.xor_lt_two_pow (n := 32) ha hb
theorem reg_lt : ∀ (zs : List Int) (r : Nat), (∀ z ∈ zs, 0 ≤ z ∧ z ≤ 255) → r < 4294967296 → reg zs r < 4294967296
  | [], _, _, hr => hr
  | z :: zs, r, h, hr => by
    have hz := h z (by simp)
    exact reg_lt zs _ (fun x hx => h x (by simp [hx])) (bits_lt (xor_lt hr (by omega)) 8)
theorem sum_lt {zs : List Int} (h : ∀ z ∈ zs, 0 ≤ z ∧ z ≤ 255) : sum zs < 4294967296 := xor_lt (by omega) (reg_lt zs _ h (by omega))
theorem reg_append (xs ys : List Int) (r : Nat) : reg (xs ++ ys) r = reg ys (reg xs r) := by
  induction xs generalizing r with
  | nil => rfl
  | cons x xs ih => exact ih _
theorem reg_take (zs : List Int) (k : Nat) (hk : k < zs.length) (r : Nat) : reg (zs.take (k + 1)) r = bits (reg (zs.take k) r ^^^ (zs.getD k 0).toNat) 8 := by
  have h : zs.take (k + 1) = zs.take k ++ [zs.getD k 0] := by
    rw [List.take_succ_eq_append_getElem hk]; simp [List.getD_eq_getElem?_getD, List.getElem?_eq_getElem hk]
  rw [h, reg_append]; rfl

/-! the code's own form of the step: the shift, and the polynomial under a mask -/
theorem step_mask (r : Nat) (h : r < 4294967296) : (r / 2) ^^^ (2197175160 &&& ((4294967296 - r % 2) % 4294967296)) = bit r := by
  unfold bit
  have h2 : r % 2 = 0 ∨ r % 2 = 1 := by omega
  rcases h2 with h2 | h2
  · rw [h2, if_neg (by decide)]; simp
  · rw [h2, if_pos rfl]
    have : 2197175160 &&& ((4294967296 - 1) % 4294967296) = 2197175160 := by decide
    rw [this]

end Go.Proofs.Ythpbcibjohakkaa.Crc

/- The calls of wire.Uint and of the reference's Uint: a new slice that holds the number's bytes. -/
namespace Go.Proofs.Ythpbcibjohakkaa
set_option maxRecDepth 100000
open Go.RowKit

/-- What a call that makes a slice of bytes leaves: the slice holds zs, it lies in new memory, what was there is as it was. -/
def Makes (w : World) (zs : List Int) (e : Ending) (w' : World) : Prop := ∃ v, e = .returned v ∧ OB w.heap.size w' v zs ∧ Below w.heap.size w w'

theorem rb_one (w : World) (z : Int) (h : 0 ≤ z ∧ z ≤ 255) : RB (w.alloc (.cells #[.int .u8 z] 5)) (some ⟨w.heap.size, 0, none⟩) 1 [z] := by
  have := RB.new w (zs := [z]) (e := 5) (fr := (0, 0)) (by simpa using h)
  simpa using this

theorem digit_u8 (m : Nat) : IntKind.u8.wrap (IntKind.u8.wrap ((m : Int) % 128) + 128) = ((m % 128 + 128 : Nat) : Int) := by
  rw [IntKind.wrap_u8, IntKind.wrap_u8]; omega

set_option maxHeartbeats 400000 in
theorem wuint (u : Nat) (w : World) (hu : u < 18446744073709551616) :
    Calls Try.prog 71 #[.int .u64 u] w (Makes w (uintB u)) := by
  have hmk := run_make_bytes w 0 10 (by omega) (by omega) (by omega)
  have hob := ob_made w 0 10 (by omega) (by omega)
  have HOB := Lib.hid hob
  clear hob
  go_enter Try.func71, Try.ntmps71
  go_wp2
  go_loopw [0, 3] (fun x v wr => ∃ (m : Nat) (acc : List Int), x = .int .u64 m ∧ m < 18446744073709551616 ∧ OB w.heap.size wr v acc ∧ Below w.heap.size w wr ∧ Hid (uintB u = acc ++ uintB m) ∧ Hid (m * 2 ^ acc.length ≤ u)) (fun x _ _ => (intOf x).toNat)
  case atStart => exact ⟨u, [], rfl, hu, HOB.out, (Below.refl _ _).alloc (Nat.le_refl _) _, rfl, Lib.hid (by simp)⟩
  case round =>
    obtain ⟨m, acc, rfl, hm, hown, hb, HU, hroom⟩ := hrel
    clear hmk HOB
    have hsz := hb.size
    by_cases hlt : m < 128
    · have HL := Lib.hid (uintB_last m hlt)
      have hle : acc.length + 1 ≤ 10 := by
        have := uintB_len u hu
        rw [HU.out, HL.out] at this
        simpa using this
      go_wp2_with (at_builtin; refine ob_append rfl (.tmp 16) (.tmp 19) rfl w.heap.size _ acc rfl (hown.alloc _) _ 1 1 [(m : Int)] rfl (rb_one wr m (by omega)) (by omega) (by simp; omega) ?_; intro v' w1 hown' hb1 hg1)
      go_ret
      exact ⟨v', rfl, by rw [HU.out, HL.out]; exact hown', (hb.alloc hsz _).trans hb1⟩
    · have HL := Lib.hid (uintB_on' m hlt)
      have hl := room_len m acc.length u hroom.out (by omega) hu
      have hr := Lib.hid (room_step m acc.length u hroom.out)
      go_wp2_with (at_builtin; refine ob_append rfl (.tmp 7) (.tmp 12) rfl w.heap.size _ acc rfl (hown.alloc _) _ 1 1 [(m : Int) % 128 + 128] rfl (rb_one wr _ (by omega)) (by omega) (by simp; omega) ?_; intro v' w1 hown' hb1 hg1)
      go_roundw
      case rel => exact ⟨m / 128, acc ++ [(m : Int) % 128 + 128], by go_num, by omega, hown', ((hb.alloc hsz _).trans hb1), Lib.hid (by rw [HU.out, HL.out]; simp), Lib.hid (by simpa using hr.out)⟩
      case measure => simp [intOf]; omega

end Go.Proofs.Ythpbcibjohakkaa

/- The calls of wire.Text and of the reference's Text. -/
namespace Go.Proofs.Ythpbcibjohakkaa
set_option maxRecDepth 100000
open Go.RowKit

def textB (s : ByteArray) : List Int := uintB s.size ++ strB s

set_option maxHeartbeats 400000 in
theorem wtext (s : ByteArray) (w : World) (hs : s.size ≤ 140737488351232) :
    Calls Try.prog 70 #[.string s] w (Makes w (textB s)) := by
  have hl := uintB_len s.size (by omega)
  go_enter Try.func70, Try.ntmps70
  go_wp2_with fail
  refine (wuint _ _ (by omega)).mono ?_
  rintro e w1 ⟨v, rfl, hown, hb⟩
  go_wp2_with (at_builtin; refine ob_append_str rfl (.tmp 6) (.tmp 7) rfl w.heap.size _ _ rfl hown s rfl (by omega) hb.size ?_; intro v' w2 hown' hb2 hg2)
  go_ret
  exact ⟨v', rfl, hown', hb.trans hb2⟩

end Go.Proofs.Ythpbcibjohakkaa

/- No number's bytes and no text's bytes begin another's; the call of bytes.HasPrefix. -/
namespace Go.Proofs.Ythpbcibjohakkaa
set_option maxRecDepth 100000
open Go.RowKit

theorem uintB_unique : ∀ (x y : Nat) (q r : List Int), uintB y ++ r = uintB x ++ q → y = x ∧ r = q := by
  intro x
  induction x using Nat.strongRecOn with
  | ind x ih =>
    intro y q r h
    by_cases hx : x < 128
    · by_cases hy : y < 128
      · rw [uintB_last x hx, uintB_last y hy] at h
        simp only [List.cons_append, List.nil_append, List.cons.injEq] at h
        exact ⟨by omega, h.2⟩
      · rw [uintB_last x hx, uintB_on' y hy] at h
        simp only [List.cons_append, List.nil_append, List.cons.injEq] at h
        omega
    · by_cases hy : y < 128
      · rw [uintB_on' x hx, uintB_last y hy] at h
        simp only [List.cons_append, List.nil_append, List.cons.injEq] at h
        omega
      · rw [uintB_on' x hx, uintB_on' y hy] at h
        simp only [List.cons_append, List.cons.injEq] at h
        obtain ⟨h1, h2⟩ := ih (x / 128) (by omega) (y / 128) q r h.2
        exact ⟨by omega, h2⟩

theorem uintB_head {x y : Nat} {r : List Int} (h : uintB y ++ r = uintB x) : y = x := (uintB_unique x y [] r (by simpa using h)).1

theorem strB_inj {s t : ByteArray} (h : strB s = strB t) : s = t := by
  have key : ∀ (a b : List UInt8), a.map (fun b => (b.toNat : Int)) = b.map (fun b => (b.toNat : Int)) → a = b := by
    intro a
    induction a with
    | nil => intro b hb; cases b with
      | nil => rfl
      | cons _ _ => simp at hb
    | cons x a ih => intro b hb; cases b with
      | nil => simp at hb
      | cons y b =>
        simp only [List.map_cons, List.cons.injEq] at hb
        rw [ih b hb.2]
        congr 1
        exact UInt8.toNat_inj.1 (by omega)
  have h2 := key _ _ h
  cases s with | mk d => cases t with | mk d' => congr 1; exact Array.toList_inj.1 h2

theorem textB_head {s t : ByteArray} {r : List Int} (h : textB t ++ r = textB s) : t = s := by
  unfold textB at h
  rw [List.append_assoc] at h
  obtain ⟨h1, h2⟩ := uintB_unique s.size t.size _ _ h
  have h3 : strB t = strB s := by
    have := congrArg (List.take t.size) h2
    rw [List.take_left' (strB_len t), h1, List.take_of_length_le (by rw [strB_len]; exact Nat.le_refl _)] at this
    exact this
  exact strB_inj h3

end Go.Proofs.Ythpbcibjohakkaa

/- The calls of wire.Int and of the reference's Int. -/
namespace Go.Proofs.Ythpbcibjohakkaa
set_option maxRecDepth 100000
open Go.RowKit

def intN (n : Int) : Nat := if n < 0 then (-2 * n - 1).toNat else (2 * n).toNat
theorem intN_lt (n : Int) (h : -9223372036854775808 ≤ n ∧ n ≤ 9223372036854775807) : intN n < 18446744073709551616 := by
  unfold intN; split <;> omega

theorem compl64 (a : Nat) (ha : a < 2 ^ 64) : (2 ^ 64 - 1) ^^^ a = 2 ^ 64 - 1 - a := by
  apply Nat.eq_of_testBit_eq
  intro i
  rw [Nat.testBit_xor, Nat.testBit_two_pow_sub_one, show 2 ^ 64 - 1 - a = 2 ^ 64 - (a + 1) by omega, Nat.testBit_two_pow_sub_succ ha]
  by_cases h : i < 64
  · simp [h]
  · have hb : a.testBit i = false := Nat.testBit_lt_two_pow (Nat.lt_of_lt_of_le ha (Nat.pow_le_pow_right (by omega) (by omega)))
    simp [h, hb]
theorem neg_u64 (n : Int) (h : -9223372036854775808 ≤ n ∧ n < 0) :
    IntKind.u64.wrap (IntKind.u64.wrap (Go.bits .xor .u64 IntKind.u64.max (IntKind.u64.wrap n) * 2) + 1) = -2 * n - 1 := by
  have h1 : IntKind.u64.wrap n = ((n + 18446744073709551616).toNat : Nat) := by rw [IntKind.wrap_u64]; omega
  have h2 : IntKind.u64.max = ((18446744073709551615 : Nat) : Int) := rfl
  have h3 : 18446744073709551615 ^^^ (n + 18446744073709551616).toNat = 18446744073709551615 - (n + 18446744073709551616).toNat := compl64 _ (by omega)
  rw [h1, h2, u64_xor_nat _ _ (by omega) (by omega), h3, IntWalk.u64_in (_ * 2) (by omega), IntWalk.u64_in _ (by omega)]
  omega

end Go.Proofs.Ythpbcibjohakkaa

/- Frames on lists: four bytes of a number, a frame, what is taken at a place. No program is named here. -/
namespace Go.Proofs.Ythpbcibjohakkaa
set_option maxRecDepth 100000

def byteAt (v k : Nat) : Int := ((v / 256 ^ k % 256 : Nat) : Int)
def wordB (v : Nat) : List Int := [byteAt v 0, byteAt v 1, byteAt v 2, byteAt v 3]
/-- the first k of four bytes as a number, the lowest first -/
def part (zs : List Int) : Nat → Nat
  | 0 => 0
  | k + 1 => part zs k + (zs.getD k 0).toNat * 256 ^ k
def w4 (zs : List Int) : Nat := part zs 4
def frameB (zs : List Int) : List Int := wordB zs.length ++ (wordB (Crc.sum zs) ++ zs)

/-- What TakeFrame answers. -/
def takeFrame (zs : List Int) (at_ : Int) : List Int × Nat × Nat :=
  if at_ < 0 ∨ (zs.length : Int) < at_ then ([], 0, 1)
  else if zs.length < at_.toNat + 8 then ([], 0, 10)
  else if 1048576 < w4 (zs.drop at_.toNat) ∨ zs.length < at_.toNat + 8 + w4 (zs.drop at_.toNat) then ([], 0, 10)
  else if Crc.sum ((zs.drop (at_.toNat + 8)).take (w4 (zs.drop at_.toNat))) ≠ w4 (zs.drop (at_.toNat + 4)) then ([], 0, 10)
  else ((zs.drop (at_.toNat + 8)).take (w4 (zs.drop at_.toNat)), w4 (zs.drop at_.toNat) + 8, 0)

theorem byteAt_byte (v k : Nat) : 0 ≤ byteAt v k ∧ byteAt v k ≤ 255 := by unfold byteAt; omega
theorem wordB_byte (v : Nat) : ∀ z ∈ wordB v, 0 ≤ z ∧ z ≤ 255 := by
  intro z hz
  simp only [wordB, List.mem_cons, List.not_mem_nil, or_false] at hz
  rcases hz with rfl | rfl | rfl | rfl <;> exact byteAt_byte _ _
theorem wordB_len (v : Nat) : (wordB v).length = 4 := rfl
theorem wordB_getD (v k : Nat) (hk : k < 4) : (wordB v).getD k 0 = byteAt v k := by
  match k, hk with
  | 0, _ => rfl
  | 1, _ => rfl
  | 2, _ => rfl
  | 3, _ => rfl
theorem part_lt (zs : List Int) (h : ∀ k, 0 ≤ zs.getD k 0 ∧ zs.getD k 0 ≤ 255) : ∀ k, part zs k < 256 ^ k
  | 0 => by simp [part]
  | k + 1 => by
    have h1 := part_lt zs h k
    have h2 : (zs.getD k 0).toNat * 256 ^ k ≤ 255 * 256 ^ k := Nat.mul_le_mul_right _ (by have := h k; omega)
    rw [part, Nat.pow_succ]; omega
theorem w4_lt (zs : List Int) (h : ∀ k, 0 ≤ zs.getD k 0 ∧ zs.getD k 0 ≤ 255) : w4 zs < 4294967296 := part_lt zs h 4
theorem w4_word (v : Nat) (hv : v < 4294967296) (zs : List Int) : w4 (wordB v ++ zs) = v := by
  have hg : ∀ k, k < 4 → ((wordB v ++ zs).getD k 0).toNat = v / 256 ^ k % 256 := by
    intro k hk
    have : (wordB v ++ zs).getD k 0 = (wordB v).getD k 0 := by
      simp [List.getD_eq_getElem?_getD, List.getElem?_append_left (show k < (wordB v).length by rw [wordB_len]; exact hk)]
    rw [this, wordB_getD v k hk, byteAt, Int.toNat_natCast]
  simp only [w4, part, hg 0 (by omega), hg 1 (by omega), hg 2 (by omega), hg 3 (by omega)]
  omega
theorem frameB_len (zs : List Int) : (frameB zs).length = zs.length + 8 := by
  simp [frameB, wordB_len]; omega
theorem frameB_byte (zs : List Int) (h : ∀ z ∈ zs, 0 ≤ z ∧ z ≤ 255) : ∀ z ∈ frameB zs, 0 ≤ z ∧ z ≤ 255 := by
  intro z hz
  simp only [frameB, List.mem_append] at hz
  rcases hz with hz | hz | hz
  · exact wordB_byte _ z hz
  · exact wordB_byte _ z hz
  · exact h z hz
/-- What is laid over a list from a place on, one element further. -/
theorem splice_step {α : Type} (L : List α) (o k : Nat) (xs : List α) (d : α) (hk : k < xs.length) (hfit : o + xs.length ≤ L.length) :
    (splice L o (xs.take k)).set (o + k) (xs.getD k d) = splice L o (xs.take (k + 1)) := by
  have hx : xs.take (k + 1) = xs.take k ++ [xs.getD k d] := by
    rw [List.take_succ_eq_append_getElem hk]; simp [List.getD_eq_getElem?_getD, List.getElem?_eq_getElem hk]
  have hl : (xs.take k).length = k := by rw [List.length_take]; omega
  have hlo : (L.take o).length = o := by rw [List.length_take]; omega
  have hd : L.drop (o + k) = L[o + k]'(by omega) :: L.drop (o + k + 1) := List.drop_eq_getElem_cons (by omega)
  unfold splice
  rw [hx, List.length_append, hl, hd, List.set_append_right _ _ (by omega), hlo, List.set_append_right _ _ (by omega), hl]
  simp [Nat.add_assoc]
theorem splice_full {α : Type} (L : List α) (o : Nat) (xs : List α) : splice L o (xs.take xs.length) = splice L o xs := by rw [List.take_length]
theorem splice_byte {L xs : List Int} {o : Nat} (h1 : ∀ z ∈ L, 0 ≤ z ∧ z ≤ 255) (h2 : ∀ z ∈ xs, 0 ≤ z ∧ z ≤ 255) : ∀ z ∈ splice L o xs, 0 ≤ z ∧ z ≤ 255 := by
  intro z hz
  simp only [splice, List.mem_append] at hz
  rcases hz with hz | hz | hz
  · exact h1 z (List.mem_of_mem_take hz)
  · exact h2 z hz
  · exact h1 z (List.mem_of_mem_drop hz)

end Go.Proofs.Ythpbcibjohakkaa

/- What is taken is put as just the bytes that were there: on lists. -/
namespace Go.Proofs.Ythpbcibjohakkaa
set_option maxRecDepth 100000
open Go.RowKit

theorem dig_once : ∀ (zs : List Int) (i x n s : Nat), (∀ z ∈ zs, 0 ≤ z ∧ z ≤ 255) → dig zs i x = some (n, s) →
    ∃ m, n = x + m * 2 ^ (7 * i) ∧ i ≤ s ∧ uintB m = zs.take (s - i) ∧ (0 < i → 1 ≤ m)
  | [], _, _, _, _, _, h => by simp [dig] at h
  | z :: zs, i, x, n, s, hz, h => by
    have hzz := hz z (by simp)
    by_cases h9 : i = 9 ∧ 1 < z
    · rw [h9.1, dig_long _ _ _ h9.2] at h; simp at h
    · by_cases h128 : z < 128
      · by_cases h0 : z = 0 ∧ 0 < i
        · rw [h0.1, dig_zero _ _ _ h0.2] at h; simp at h
        · rw [dig_last _ _ _ _ h9 h128 h0] at h
          simp only [Option.some.injEq, Prod.mk.injEq] at h
          obtain ⟨rfl, rfl⟩ := h
          have e : (z % 128).toNat = z.toNat := by omega
          refine ⟨z.toNat, by rw [e], by omega, ?_, fun hi => by omega⟩
          rw [uintB_last _ (by omega), Nat.add_sub_cancel_left]
          simp; omega
      · rw [dig_on _ _ _ _ h9 h128] at h
        obtain ⟨m, hn, hi, hu, hm⟩ := dig_once zs (i + 1) _ n s (fun y hy => hz y (by simp [hy])) h
        have hm1 := hm (by omega)
        have hs : s - i = (s - (i + 1)) + 1 := by omega
        refine ⟨(z % 128).toNat + 128 * m, ?_, by omega, ?_, fun _ => by omega⟩
        · rw [hn, pow_step, Nat.add_mul, Nat.add_assoc]
          congr 2
          rw [Nat.mul_comm 128 m, Nat.mul_assoc]
        · rw [uintB_on' _ (by omega), hs, List.take_succ_cons]
          have e1 : ((z % 128).toNat + 128 * m) / 128 = m := by omega
          rw [e1, hu]
          congr 1
          omega

theorem takeUint_place_ok {zs : List Int} {at_ : Int} {u s : Nat} (h : takeUint zs at_ = (u, s, 0)) : 0 ≤ at_ ∧ at_.toNat ≤ zs.length ∧ dig (zs.drop at_.toNat) 0 0 = some (u, s) := by
  unfold takeUint at h
  split at h
  · simp at h
  · rename_i hp
    generalize hd : dig (zs.drop at_.toNat) 0 0 = o at h
    match o with
    | none => simp at h
    | some (a, b) =>
      simp only [Prod.mk.injEq, and_true] at h
      exact ⟨by omega, by omega, by rw [h.1, h.2]⟩

theorem uint_once {zs : List Int} {at_ : Int} {u s : Nat} (hz : ∀ z ∈ zs, 0 ≤ z ∧ z ≤ 255) (h : takeUint zs at_ = (u, s, 0)) : uintB u = (zs.drop at_.toNat).take s := by
  obtain ⟨_, _, hd⟩ := takeUint_place_ok h
  obtain ⟨m, hn, _, hu, _⟩ := dig_once _ 0 0 u s (fun z hzz => hz z (List.mem_of_mem_drop hzz)) hd
  have : u = m := by simpa using hn
  rw [this]
  simpa using hu

theorem takeUint_in {zs : List Int} {at_ : Int} {u s : Nat} (h : takeUint zs at_ = (u, s, 0)) : 0 ≤ at_ ∧ at_.toNat + s ≤ zs.length ∧ 1 ≤ s := by
  obtain ⟨h1, h2, hd⟩ := takeUint_place_ok h
  have hs := dig_size _ _ _ _ _ hd
  rw [List.length_drop] at hs
  refine ⟨h1, by omega, ?_⟩
  rcases Nat.eq_zero_or_pos s with h0 | h0
  · exfalso
    have : ∀ (ys : List Int) (i x n : Nat), dig ys i x ≠ some (n, 0) := by
      intro ys
      induction ys with
      | nil => intro i x n; simp [dig]
      | cons y ys ih =>
        intro i x n e
        unfold dig at e
        split at e
        · cases e
        · split at e
          · split at e
            · cases e
            · simp at e
          · exact ih _ _ _ e
    exact this _ _ _ _ (by rw [hd, h0])
  · exact h0

theorem takeInt_ok {zs : List Int} {at_ v : Int} {s : Nat} (h : takeInt zs at_ = (v, s, 0)) : ∃ u, takeUint zs at_ = (u, s, 0) ∧ intN v = u := by
  unfold takeInt at h
  generalize ht : takeUint zs at_ = t at h
  obtain ⟨u, s', e⟩ := t
  rcases Nat.eq_zero_or_pos e with rfl | he
  · simp only [Prod.mk.injEq, and_true] at h
    obtain ⟨h1, rfl⟩ := h
    refine ⟨u, rfl, ?_⟩
    rw [← h1]
    unfold intN
    by_cases h2 : u % 2 = 1
    · rw [if_pos h2, if_pos (by omega)]; omega
    · rw [if_neg h2, if_neg (by omega)]; omega
  · exfalso
    match e, he with
    | e + 1, _ => simp at h

theorem int_once {zs : List Int} {at_ v : Int} {s : Nat} (hz : ∀ z ∈ zs, 0 ≤ z ∧ z ≤ 255) (h : takeInt zs at_ = (v, s, 0)) : uintB (intN v) = (zs.drop at_.toNat).take s := by
  obtain ⟨u, hu, e⟩ := takeInt_ok h
  rw [e]; exact uint_once hz hu

theorem strB_nums (l : List Int) (h : ∀ z ∈ l, 0 ≤ z ∧ z ≤ 255) : strB (strOfNums l) = l := by
  unfold strB
  rw [strOfNums_data, List.map_map]
  conv => rhs; rw [← List.map_id l]
  apply List.map_congr_left
  intro z hz
  have := h z hz
  simp only [Function.comp_apply, UInt8.toNat_ofNat', id_eq]
  omega

theorem takeText_ok {zs : List Int} {at_ most : Int} {l : List Int} {s : Nat} (h : takeText zs at_ most = (l, s, 0)) :
    ∃ u k, takeUint zs at_ = (u, k, 0) ∧ s = k + u ∧ at_.toNat + k + u ≤ zs.length ∧ l = (zs.drop (at_.toNat + k)).take u := by
  unfold takeText at h
  split at h
  · simp at h
  · generalize ht : takeUint zs at_ = t at h
    obtain ⟨u, k, e⟩ := t
    rcases Nat.eq_zero_or_pos e with rfl | he
    · simp only at h
      split at h
      · simp at h
      · split at h
        · simp at h
        · simp only [Prod.mk.injEq, and_true] at h
          exact ⟨u, k, rfl, h.2.symm, by omega, h.1.symm⟩
    · exfalso
      match e, he with
      | e + 1, _ => simp at h

theorem text_once {zs : List Int} {at_ most : Int} {l : List Int} {s : Nat} (hz : ∀ z ∈ zs, 0 ≤ z ∧ z ≤ 255) (h : takeText zs at_ most = (l, s, 0)) : textB (strOfNums l) = (zs.drop at_.toNat).take s := by
  obtain ⟨u, k, hu, rfl, hfit, rfl⟩ := takeText_ok h
  have h1 := uint_once hz hu
  have hlen : ((zs.drop (at_.toNat + k)).take u).length = u := by rw [List.length_take, List.length_drop]; omega
  unfold textB
  rw [strOfNums_size, hlen, strB_nums _ (fun z hzz => hz z (List.mem_of_mem_drop (List.mem_of_mem_take hzz))), h1]
  rw [List.take_add, List.drop_drop]

theorem word_once (ys : List Int) (h : ∀ z ∈ ys, 0 ≤ z ∧ z ≤ 255) (h4 : 4 ≤ ys.length) : wordB (w4 ys) = ys.take 4 := by
  match ys, h4 with
  | a :: b :: c :: d :: r, _ =>
    have ha := h a (by simp)
    have hb := h b (by simp)
    have hc := h c (by simp)
    have hd := h d (by simp)
    simp [wordB, byteAt, w4, part]
    omega

theorem takeFrame_ok {zs : List Int} {at_ : Int} {l : List Int} {s : Nat} (h : takeFrame zs at_ = (l, s, 0)) :
    0 ≤ at_ ∧ s = l.length + 8 ∧ at_.toNat + s ≤ zs.length ∧ l.length ≤ 1048576 ∧ l = (zs.drop (at_.toNat + 8)).take l.length ∧ w4 (zs.drop at_.toNat) = l.length ∧ w4 (zs.drop (at_.toNat + 4)) = Crc.sum l := by
  unfold takeFrame at h
  split at h
  · simp at h
  · split at h
    · simp at h
    · split at h
      · simp at h
      · split at h
        · simp at h
        · rename_i h1 h2 h3 h4
          simp only [Prod.mk.injEq, and_true] at h
          obtain ⟨hl, hs⟩ := h
          have hlen : l.length = w4 (zs.drop at_.toNat) := by rw [← hl, List.length_take, List.length_drop]; omega
          refine ⟨by omega, by omega, by omega, by omega, by rw [hlen]; exact hl.symm, hlen.symm, ?_⟩
          rw [← hl]
          exact (Decidable.not_not.1 h4).symm

theorem frame_once {zs : List Int} {at_ : Int} {l : List Int} {s : Nat} (hz : ∀ z ∈ zs, 0 ≤ z ∧ z ≤ 255) (h : takeFrame zs at_ = (l, s, 0)) : frameB l = (zs.drop at_.toNat).take s := by
  obtain ⟨h1, hs, hfit, hlm, hl, hw, hsum⟩ := takeFrame_ok h
  generalize hp : at_.toNat = p at hl hw hsum hfit
  have e1 : wordB l.length = (zs.drop p).take 4 := by
    rw [← hw]; exact word_once _ (fun z hzz => hz z (List.mem_of_mem_drop hzz)) (by rw [List.length_drop]; omega)
  have e2 : wordB (Crc.sum l) = (zs.drop (p + 4)).take 4 := by
    rw [← hsum]; exact word_once _ (fun z hzz => hz z (List.mem_of_mem_drop hzz)) (by rw [List.length_drop]; omega)
  unfold frameB
  rw [e1, e2, hs, show l.length + 8 = 4 + (4 + l.length) from by omega, List.take_add, List.drop_drop, List.take_add, List.drop_drop]
  congr 2
end Go.Proofs.Ythpbcibjohakkaa
