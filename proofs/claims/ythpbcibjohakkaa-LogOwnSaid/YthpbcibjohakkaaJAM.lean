import Derived.WalkKit
import Derived.IntWalk
import Derived.Test.YthpbcibjohakkaaProg
import Derived.Test.YthpbcibjohakkaaJAA
import Derived.Laws.DeepNot64
import Derived.Shelf.Bytes.SlEqualAll
/- Numbers as bytes, on lists: what stands at the front of a list as a number. No program is named here. -/
namespace Go.Proofs.Ythpbcibjohakkaa
set_option maxRecDepth 100000

/-- The number that stands at the front of a list, behind i digits that came to x: the number, and how many bytes it has in all. -/
def dig : List Int → Nat → Nat → Option (Nat × Nat)
  | [], _, _ => none
  | z :: zs, i, x =>
    if i = 9 ∧ 1 < z then none
    else if z < 128 then (if z = 0 ∧ 0 < i then none else some (x + (z % 128).toNat * 2 ^ (7 * i), i + 1))
    else dig zs (i + 1) (x + (z % 128).toNat * 2 ^ (7 * i))

/-- What TakeUint answers: the number, its size, the error. -/
def takeUint (zs : List Int) (at_ : Int) : Nat × Nat × Nat :=
  if at_ < 0 ∨ (zs.length : Int) < at_ then (0, 0, 1)
  else match dig (zs.drop at_.toNat) 0 0 with
    | none => (0, 0, 10)
    | some (n, s) => (n, s, 0)

theorem pow_step (i : Nat) : 2 ^ (7 * (i + 1)) = 128 * 2 ^ (7 * i) := by
  rw [show 7 * (i + 1) = 7 * i + 7 from by omega, Nat.pow_add]; omega

theorem acc_lt {z : Int} {i x : Nat} (hx : x < 2 ^ (7 * i)) : x + (z % 128).toNat * 2 ^ (7 * i) < 2 ^ (7 * (i + 1)) := by
  have h1 : (z % 128).toNat ≤ 127 := by omega
  have h2 : (z % 128).toNat * 2 ^ (7 * i) ≤ 127 * 2 ^ (7 * i) := Nat.mul_le_mul_right _ h1
  rw [pow_step]; omega

theorem dig_end (i x : Nat) : dig [] i x = none := rfl
theorem dig_long (z : Int) (zs : List Int) (x : Nat) (h : 1 < z) : dig (z :: zs) 9 x = none := by
  unfold dig; rw [if_pos ⟨rfl, h⟩]
theorem dig_zero (zs : List Int) (i x : Nat) (hi : 0 < i) : dig (0 :: zs) i x = none := by
  unfold dig; rw [if_neg (by omega), if_pos (by omega), if_pos ⟨rfl, hi⟩]
theorem dig_last (z : Int) (zs : List Int) (i x : Nat) (h9 : ¬ (i = 9 ∧ 1 < z)) (h : z < 128) (h0 : ¬ (z = 0 ∧ 0 < i)) : dig (z :: zs) i x = some (x + (z % 128).toNat * 2 ^ (7 * i), i + 1) := by
  rw [dig, if_neg h9, if_pos h, if_neg h0]
theorem dig_on (z : Int) (zs : List Int) (i x : Nat) (h9 : ¬ (i = 9 ∧ 1 < z)) (h : ¬ z < 128) : dig (z :: zs) i x = dig zs (i + 1) (x + (z % 128).toNat * 2 ^ (7 * i)) := by
  rw [dig, if_neg h9, if_neg h]
def ofDig (o : Option (Nat × Nat)) : Nat × Nat × Nat := match o with | none => (0, 0, 10) | some (n, s) => (n, s, 0)
theorem takeUint_place (zs : List Int) (p : Nat) (h : p ≤ zs.length) : takeUint zs p = ofDig (dig (zs.drop p) 0 0) := by
  unfold takeUint; rw [if_neg (by omega), Int.toNat_natCast]; rfl
theorem or_u64 (X k : Nat) (z : Int) (hX : X < 2 ^ (7 * k)) (hz : 0 ≤ z ∧ z ≤ 255) (hk : k ≤ 9) (h9 : ¬ (k = 9 ∧ 1 < z)) :
    Go.bits .or .u64 (X : Int) (IntKind.u64.wrap (z % 128 * 2 ^ (k * 7))) = ((X + (z % 128).toNat * 2 ^ (7 * k) : Nat) : Int) := by
  have hd : (z % 128) = (((z % 128).toNat : Nat) : Int) := by omega
  have hd2 : (z % 128).toNat ≤ 127 := by omega
  have hm : (z % 128 * 2 ^ (k * 7) : Int) = (((z % 128).toNat * 2 ^ (7 * k) : Nat) : Int) := by
    rw [hd, Int.toNat_natCast, Nat.mul_comm k 7, Int.natCast_mul, Int.natCast_pow]; rfl
  have hlt : (z % 128).toNat * 2 ^ (7 * k) < 18446744073709551616 := by
    rcases Nat.lt_or_ge k 9 with h | h
    · have h1 : (z % 128).toNat * 2 ^ (7 * k) ≤ 127 * 2 ^ 56 := Nat.mul_le_mul hd2 (Nat.pow_le_pow_right (by omega) (by omega))
      omega
    · obtain rfl : k = 9 := by omega
      have h1 : (z % 128).toNat ≤ 1 := by omega
      have h2 : (z % 128).toNat * 2 ^ (7 * 9) ≤ 1 * 2 ^ 63 := Nat.mul_le_mul h1 (by decide)
      omega
  have hXlt : X < 18446744073709551616 := Nat.lt_of_lt_of_le hX (Nat.le_trans (Nat.pow_le_pow_right (n := 2) (by omega) (show 7 * k ≤ 63 by omega)) (by decide))
  rw [hm, IntWalk.u64_in _ (by omega), u64_or_nat _ _ hXlt hlt]
  congr 1
  rw [Nat.or_comm, nat_join (7 * k) _ _ (by rw [Nat.mul_comm]; exact Nat.mul_mod_right _ _) hX]
  omega
theorem add_u64 (X k : Nat) (z : Int) (hX : X < 2 ^ (7 * k)) (hz : 0 ≤ z ∧ z ≤ 255) (hk : k ≤ 9) (h9 : ¬ (k = 9 ∧ 1 < z)) :
    IntKind.u64.wrap ((X : Int) + IntKind.u64.wrap (z % 128 * 2 ^ (7 * k))) = ((X + (z % 128).toNat * 2 ^ (7 * k) : Nat) : Int) := by
  have hd : (z % 128) = (((z % 128).toNat : Nat) : Int) := by omega
  have hm : (z % 128 * 2 ^ (7 * k) : Int) = (((z % 128).toNat * 2 ^ (7 * k) : Nat) : Int) := by
    rw [hd, Int.toNat_natCast, Int.natCast_mul, Int.natCast_pow]; rfl
  have hl := acc_lt (z := z) hX
  have h70 : (z % 128).toNat * 2 ^ (7 * k) + X < 18446744073709551616 := by
    rcases Nat.lt_or_ge k 9 with h | h
    · have h1 : (z % 128).toNat * 2 ^ (7 * k) + X < 2 ^ (7 * (k + 1)) := by rw [Nat.add_comm]; exact hl
      exact Nat.lt_of_lt_of_le h1 (Nat.le_trans (Nat.pow_le_pow_right (n := 2) (by omega) (show 7 * (k + 1) ≤ 63 by omega)) (by decide))
    · obtain rfl : k = 9 := by omega
      have h1 : (z % 128).toNat ≤ 1 := by omega
      have h2 : (z % 128).toNat * 2 ^ (7 * 9) ≤ 1 * 2 ^ 63 := Nat.mul_le_mul h1 (by decide)
      omega
  have key : ∀ P : Nat, P + X < 18446744073709551616 → IntKind.u64.wrap ((X : Int) + IntKind.u64.wrap (P : Int)) = ((X + P : Nat) : Int) := by
    intro P hP
    rw [IntWalk.u64_in (P : Int) (by omega), IntWalk.u64_in _ (by omega)]
    omega
  rw [hm]
  exact key _ h70
theorem drop_cons {zs : List Int} {k : Nat} (hk : k < zs.length) : zs.drop k = zs.getD k 0 :: zs.drop (k + 1) := by
  rw [List.drop_eq_getElem_cons hk]; simp [List.getD_eq_getElem?_getD, List.getElem?_eq_getElem hk]

end Go.Proofs.Ythpbcibjohakkaa

/- The calls of wire.TakeUint and of the reference's TakeUint: both hand back 'takeUint' of the bytes, and write nothing. -/
namespace Go.Proofs.Ythpbcibjohakkaa
set_option maxRecDepth 100000
open Go.RowKit

theorem place_yes (A : Option Addr) (n c : Nat) (at_ : Int) (w : World) (h : 0 ≤ at_ ∧ at_ ≤ n) (hn : n ≤ 140737488355328) :
    Calls Try.prog 73 #[.slice A n c, .int .i64 at_] w fun e w' => e = .returned (.bool true) ∧ w = w' := by
  obtain ⟨h1, h2⟩ := h
  go_enter Try.func73, Try.ntmps73
  go_wp2
  go_ret
  exact ⟨rfl, rfl⟩

theorem place_no (A : Option Addr) (n c : Nat) (at_ : Int) (w : World) (h : at_ < 0 ∨ n < at_) (hn : n ≤ 140737488355328) :
    Calls Try.prog 73 #[.slice A n c, .int .i64 at_] w fun e w' => e = .returned (.bool false) ∧ w = w' := by
  rcases Int.lt_or_le at_ 0 with h1 | h1
  · clear h
    go_enter Try.func73, Try.ntmps73
    go_wp2
    go_ret
    exact ⟨rfl, rfl⟩
  · have h2 : n < at_ := by omega
    have h3 : decide (at_ ≤ (n : Int)) = false := by simp; omega
    clear h
    go_enter Try.func73, Try.ntmps73
    go_wp2
    go_ret
    exact ⟨rfl, rfl⟩

def Tuple3 (t : Nat × Nat × Nat) (e : Ending) : Prop := e = .returned (.tuple #[.int .u64 (t.1 : Nat), .int .i64 (t.2.1 : Nat), .int .i64 (t.2.2 : Nat)])

set_option maxHeartbeats 1000000 in
theorem wtakeUint (A : Option Addr) (n c : Nat) (zs : List Int) (at_ : Int) (w : World) (h : RB w A n zs) (hn : n ≤ 140737488355328) (hc : n ≤ c) :
    Calls Try.prog 77 #[.slice A n c, .int .i64 at_] w fun e w' => Tuple3 (takeUint zs at_) e ∧ w = w' := by
  by_cases hp : at_ < 0 ∨ n < at_
  · have ht : takeUint zs at_ = (0, 0, 1) := by unfold takeUint; rw [if_pos (by rw [h.len]; exact hp)]
    rw [ht]; clear ht
    go_enter Try.func77, Try.ntmps77
    go_wp2_with (go_at_call 73; refine (place_no _ _ _ _ _ hp hn).mono ?_; rintro e w' ⟨rfl, rfl⟩)
    go_ret3
    exact ⟨rfl, rfl⟩
  · obtain ⟨p, rfl⟩ := Int.eq_ofNat_of_zero_le (show 0 ≤ at_ by omega)
    have hpn : p ≤ n := by omega
    clear hp
    have HT := Lib.hid (takeUint_place zs p (by rw [h.len]; exact hpn))
    have hr := h.cut hpn c hc
    generalize zs.drop p = ys at hr HT
    generalize hA : (if c = p then A else A.map (·.add p)) = A2 at hr
    have hys := hr.len
    go_enter Try.func77, Try.ntmps77
    go_wp2_with (go_at_call 73; refine (place_yes _ _ _ _ _ ⟨by omega, by omega⟩ hn).mono ?_; rintro e w' ⟨rfl, rfl⟩)
    go_loop [7, 18] (fun x i => ∃ k X : Nat, k ≤ n - p ∧ k ≤ 9 ∧ X < 2 ^ (7 * k) ∧ i = .int .i64 k ∧ x = .int .u64 X ∧ Hid (dig ys 0 0 = dig (ys.drop k) k X)) (fun _ i => (n - p) - (intOf i).toNat)
    case atStart => exact ⟨0, 0, by omega, by omega, by omega, rfl, rfl, rfl⟩
    case round =>
      obtain ⟨k, X, hk, hk9, hX, rfl, rfl, HD⟩ := hrel
      by_cases hlt : k < n - p
      · obtain ⟨ad, hA2, hcell⟩ := hr.at_ hlt
        subst hA2
        have hz := hr.getD k
        have HDr := Lib.hid (drop_cons (zs := ys) (k := k) (by omega))
        generalize hzz : ys.getD k 0 = z at hcell hz HDr
        have HZ := Lib.hid hzz
        clear hzz hr
        have HO := Lib.hid (fun h9 => or_u64 X k z hX hz hk9 h9)
        by_cases hlong : k = 9 ∧ 1 < z
        · have HF := Lib.hid (show ofDig (dig ys 0 0) = (0, 0, 10) by rw [HD.out, HDr.out, hlong.1, dig_long _ _ _ hlong.2]; rfl)
          have h9 : ((k : Int) == 9) = true := by simp; omega
          have h1 := hlong.2
          clear hlong
          go_wp2
          go_ret3
          exact ⟨by rw [HT.out, HF.out]; rfl, rfl⟩
        · have HL := Lib.hid hlong
          by_cases hz128 : z < 128
          · by_cases hz0 : z = 0 ∧ 0 < k
            · have HF := Lib.hid (show ofDig (dig ys 0 0) = (0, 0, 10) by rw [HD.out, HDr.out, hz0.1, dig_zero _ _ _ hz0.2]; rfl)
              have h0 : (z == 0) = true := by simp [hz0.1]
              have hk0 := hz0.2
              have h1 : z ≤ 1 := by omega
              clear hlong hz0
              by_cases h9' : k = 9
              · have h9 : ((k : Int) == 9) = true := by simp; omega
                clear h9'
                go_wp2
                go_ret3
                exact ⟨by rw [HT.out, HF.out]; rfl, rfl⟩
              · have h9 : ((k : Int) == 9) = false := by simp; omega
                clear h9'
                go_wp2
                go_ret3
                exact ⟨by rw [HT.out, HF.out]; rfl, rfl⟩
            · have HF := Lib.hid (show ofDig (dig ys 0 0) = (X + (z % 128).toNat * 2 ^ (7 * k), k + 1, 0) by rw [HD.out, HDr.out, dig_last _ _ _ _ hlong hz128 hz0]; rfl)
              rcases Int.lt_or_le 0 z with hzp | hzp
              · have h0 : (z == 0) = false := by simp; omega
                by_cases h9' : k = 9
                · have h9 : ((k : Int) == 9) = true := by simp; omega
                  have h1 : z ≤ 1 := by omega
                  clear h9' hlong hz0
                  go_wp2
                  go_ret3
                  exact ⟨by rw [HT.out, HF.out]; simp only [Tuple3]; simp [HO.out HL.out], rfl⟩
                · have h9 : ((k : Int) == 9) = false := by simp; omega
                  clear h9' hlong hz0
                  go_wp2
                  go_ret3
                  exact ⟨by rw [HT.out, HF.out]; simp only [Tuple3]; simp [HO.out HL.out], rfl⟩
              · have h0 : (z == 0) = true := by simp; omega
                have hk0 : (k : Int) ≤ 0 := by omega
                have h9 : ((k : Int) == 9) = false := by simp; omega
                clear hlong hz0
                go_wp2
                go_ret3
                exact ⟨by rw [HT.out, HF.out]; simp only [Tuple3]; simp [HO.out HL.out], rfl⟩
          · have HF := Lib.hid (show dig ys 0 0 = dig (ys.drop (k + 1)) (k + 1) (X + (z % 128).toNat * 2 ^ (7 * k)) by rw [HD.out, HDr.out, dig_on _ _ _ _ hlong hz128])
            have h9 : ((k : Int) == 9) = false := by simp; omega
            have hk8 : k ≤ 8 := by omega
            clear hlong
            have HX := Lib.hid (acc_lt (z := z) hX)
            go_wp2
            go_round
            case rel => exact ⟨k + 1, _, by omega, by omega, HX.out, by go_num, by rw [HO.out HL.out], HF.out⟩
            case measure => simp [intOf]; omega
      · have HF := Lib.hid (show ofDig (dig ys 0 0) = (0, 0, 10) by rw [HD.out, List.drop_eq_nil_of_le (by omega)]; rfl)
        go_wp2
        go_ret3
        exact ⟨by rw [HT.out, HF.out]; rfl, rfl⟩

end Go.Proofs.Ythpbcibjohakkaa

/- The calls of wire.TakeInt and of the reference's TakeInt. -/
namespace Go.Proofs.Ythpbcibjohakkaa
set_option maxRecDepth 100000
open Go.RowKit

theorem dig_lt : ∀ (zs : List Int) (i x : Nat), (∀ z ∈ zs, 0 ≤ z ∧ z ≤ 255) → i ≤ 9 → x < 2 ^ (7 * i) → ∀ n s, dig zs i x = some (n, s) → n < 18446744073709551616 ∧ s ≤ 10
  | [], _, _, _, _, _, n, s, h => by simp [dig] at h
  | z :: zs, i, x, hz, hi, hx, n, s, h => by
    have hzz := hz z (by simp)
    by_cases h9 : i = 9 ∧ 1 < z
    · rw [h9.1, dig_long _ _ _ h9.2] at h; simp at h
    · by_cases h128 : z < 128
      · by_cases h0 : z = 0 ∧ 0 < i
        · rw [h0.1, dig_zero _ _ _ h0.2] at h; simp at h
        · rw [dig_last _ _ _ _ h9 h128 h0] at h
          simp only [Option.some.injEq, Prod.mk.injEq] at h
          obtain ⟨rfl, rfl⟩ := h
          refine ⟨?_, by omega⟩
          rcases Nat.lt_or_ge i 9 with hi9 | hi9
          · exact Nat.lt_of_lt_of_le (acc_lt hx) (Nat.le_trans (Nat.pow_le_pow_right (n := 2) (by omega) (show 7 * (i + 1) ≤ 63 by omega)) (by decide))
          · obtain rfl : i = 9 := by omega
            have h1 : (z % 128).toNat ≤ 1 := by omega
            have h2 : (z % 128).toNat * 2 ^ (7 * 9) ≤ 1 * 2 ^ 63 := Nat.mul_le_mul h1 (by decide)
            have h3 : x < 2 ^ 63 := by simpa using hx
            omega
      · have hi9 : i ≠ 9 := by intro e; exact h9 ⟨e, by omega⟩
        rw [dig_on _ _ _ _ h9 h128] at h
        exact dig_lt zs (i + 1) _ (fun y hy => hz y (by simp [hy])) (by omega) (acc_lt hx) n s h

theorem takeUint_lt (zs : List Int) (hz : ∀ z ∈ zs, 0 ≤ z ∧ z ≤ 255) (at_ : Int) : (takeUint zs at_).1 < 18446744073709551616 ∧ (takeUint zs at_).2.1 ≤ 10 := by
  unfold takeUint
  split
  · simp
  · have h := dig_lt (zs.drop at_.toNat) 0 0 (fun z hzz => hz z (List.mem_of_mem_drop hzz)) (by omega) (by simp)
    generalize dig (zs.drop at_.toNat) 0 0 = o at h
    match o, h with
    | none, _ => simp
    | some (n, s), h => exact h n s rfl

/-- What TakeInt answers. -/
def takeInt (zs : List Int) (at_ : Int) : Int × Nat × Nat :=
  match takeUint zs at_ with
  | (n, s, 0) => (if n % 2 = 1 then -((n / 2 : Nat) : Int) - 1 else ((n / 2 : Nat) : Int), s, 0)
  | (_, _, e) => (0, 0, e)

def Tuple3i (t : Int × Nat × Nat) (e : Ending) : Prop := e = .returned (.tuple #[.int .i64 t.1, .int .i64 (t.2.1 : Nat), .int .i64 (t.2.2 : Nat)])

theorem not_half (u : Nat) (hu : u < 18446744073709551616) : Go.bits .xor .i64 (-1) ((u : Int) / 2) = -((u : Int) / 2) - 1 := by
  rw [show (u : Int) / 2 = ((u / 2 : Nat) : Int) from by omega, i64_not _ (by omega)]
  omega

end Go.Proofs.Ythpbcibjohakkaa

/- The call of bytes.Equal. -/
namespace Go.Proofs.Ythpbcibjohakkaa
set_option maxRecDepth 100000
open Go.RowKit

theorem rb_in {w : World} {A : Option Addr} {n : Nat} {zs : List Int} (h : RB w A n zs) : Lib.BytesIn w A n zs := by
  rcases Nat.eq_zero_or_pos n with h0 | h0
  · subst h0; exact Lib.BytesIn.nil _ _ _
  · obtain ⟨ad, rfl, hc⟩ := h.cell h0
    exact Lib.BytesIn.of_cells hc

theorem rb_str {w : World} {A : Option Addr} {n : Nat} {zs : List Int} (h : RB w A n zs) (c : Nat) :
    (convert 33 9 (.slice A n c)).run Try.prog w = .ok (.string (strOfNums zs)) w :=
  (rb_in h).convert h.len c 33 5 9 Try.underlying33 Try.underlying5 Try.underlying9

theorem bytes_inj {zs ys : List Int} (hz : ∀ z ∈ zs, 0 ≤ z ∧ z ≤ 255) (hy : ∀ z ∈ ys, 0 ≤ z ∧ z ≤ 255) (h : Lib.bytesOf zs = Lib.bytesOf ys) : zs = ys := by
  have h1 : (zs.map fun n => UInt8.ofNat n.toNat) = ys.map fun n => UInt8.ofNat n.toNat := h
  clear h
  induction zs generalizing ys with
  | nil => cases ys with
    | nil => rfl
    | cons y ys => simp at h1
  | cons z zs ih => cases ys with
    | nil => simp at h1
    | cons y ys =>
      simp only [List.map_cons, List.cons.injEq] at h1
      have a := hz z (by simp)
      have b := hy y (by simp)
      have e : (UInt8.ofNat z.toNat).toNat = (UInt8.ofNat y.toNat).toNat := by rw [h1.1]
      simp only [UInt8.toNat_ofNat'] at e
      rw [ih (fun x hx => hz x (by simp [hx])) (fun x hx => hy x (by simp [hx])) h1.2]
      congr 1
      omega

end Go.Proofs.Ythpbcibjohakkaa

/- The calls of wire.TakeText and of the reference's TakeText. -/
namespace Go.Proofs.Ythpbcibjohakkaa
set_option maxRecDepth 100000
open Go.RowKit

/-- What TakeText answers: the text's bytes, how many bytes in all, the error. -/
def takeText (zs : List Int) (at_ most : Int) : List Int × Nat × Nat :=
  if at_ < 0 ∨ (zs.length : Int) < at_ ∨ most < 0 then ([], 0, 1)
  else match takeUint zs at_ with
    | (u, s, 0) => if most < (u : Int) then ([], 0, 3) else if zs.length < at_.toNat + s + u then ([], 0, 10) else ((zs.drop (at_.toNat + s)).take u, s + u, 0)
    | (_, _, e) => ([], 0, e)

def TupleT (t : List Int × Nat × Nat) (e : Ending) : Prop := e = .returned (.tuple #[.string (strOfNums t.1), .int .i64 (t.2.1 : Nat), .int .i64 (t.2.2 : Nat)])

theorem dig_size : ∀ (zs : List Int) (i x n s : Nat), dig zs i x = some (n, s) → s ≤ i + zs.length
  | [], _, _, _, _, h => by simp [dig] at h
  | z :: zs, i, x, n, s, h => by
    unfold dig at h
    split at h
    · cases h
    · split at h
      · split at h
        · cases h
        · simp only [Option.some.injEq, Prod.mk.injEq] at h
          simp; omega
      · have := dig_size zs _ _ _ _ h
        simp; omega

theorem takeUint_fits (zs : List Int) (p u s : Nat) (hp : p ≤ zs.length) (h : takeUint zs p = (u, s, 0)) : p + s ≤ zs.length := by
  rw [takeUint_place zs p hp] at h
  generalize hd : dig (zs.drop p) 0 0 = o at h
  match o, hd with
  | none, _ => simp [ofDig] at h
  | some (a, b), hd =>
    simp only [ofDig, Prod.mk.injEq] at h
    have := dig_size _ _ _ _ _ hd
    rw [List.length_drop] at this
    omega

set_option maxHeartbeats 1000000 in
theorem wtakeText (A : Option Addr) (n c : Nat) (zs : List Int) (at_ most : Int) (w : World) (h : RB w A n zs) (hn : n ≤ 140737488355328) (hc : n ≤ c)
    (hm : -9223372036854775808 ≤ most ∧ most ≤ 9223372036854775807) :
    Calls Try.prog 76 #[.slice A n c, .int .i64 at_, .int .i64 most] w fun e w' => TupleT (takeText zs at_ most) e ∧ w = w' := by
  have hl := h.len
  by_cases hp : at_ < 0 ∨ n < at_
  · have ht : takeText zs at_ most = ([], 0, 1) := by unfold takeText; rw [if_pos (by omega)]
    rw [ht]; clear ht
    go_enter Try.func76, Try.ntmps76
    go_wp2_with (go_at_call 73; refine (place_no _ _ _ _ _ hp hn).mono ?_; rintro e w' ⟨rfl, rfl⟩)
    go_ret3
    exact ⟨rfl, rfl⟩
  · obtain ⟨p, rfl⟩ := Int.eq_ofNat_of_zero_le (show 0 ≤ at_ by omega)
    have hpn : p ≤ n := by omega
    have CP := Lib.hid (place_yes A n c p w ⟨by omega, by omega⟩ hn)
    clear hp
    by_cases hm0 : most < 0
    · have ht : takeText zs p most = ([], 0, 1) := by unfold takeText; rw [if_pos (by omega)]
      rw [ht]; clear ht
      go_enter Try.func76, Try.ntmps76
      go_wp2_with (go_at_call 73; refine CP.out.mono ?_; rintro e w' ⟨rfl, rfl⟩)
      go_ret3
      exact ⟨rfl, rfl⟩
    · obtain ⟨q, rfl⟩ := Int.eq_ofNat_of_zero_le (show 0 ≤ most by omega)
      have hq : q ≤ 9223372036854775807 := by omega
      have HT : Hid (takeText zs p q = match takeUint zs p with
        | (u, s, 0) => if (q : Int) < (u : Int) then ([], 0, 3) else if zs.length < p + s + u then ([], 0, 10) else ((zs.drop (p + s)).take u, s + u, 0)
        | (_, _, e) => ([], 0, e)) := by
        show takeText zs p q = _
        unfold takeText; rw [if_neg (by omega), Int.toNat_natCast]
      clear hm hm0
      have hlt := takeUint_lt zs h.byte p
      have hfit := takeUint_fits zs p
      have CU := Lib.hid (wtakeUint A n c zs p w h hn hc)
      obtain ⟨u, s, e, ht⟩ : ∃ u s e, takeUint zs p = (u, s, e) := ⟨_, _, _, rfl⟩
      rw [ht] at hlt CU HT
      simp only at hlt
      obtain ⟨hu, hs⟩ := hlt
      rcases Nat.eq_zero_or_pos e with rfl | he
      · have hps : p + s ≤ n := by have := hfit u s (by omega) ht; omega
        clear hfit ht
        have HT' : Hid (takeText zs p q = if (q : Int) < (u : Int) then ([], 0, 3) else if zs.length < p + s + u then ([], 0, 10) else ((zs.drop (p + s)).take u, s + u, 0)) := HT.out
        clear HT
        by_cases hlong : (q : Int) < u
        · have HF := Lib.hid (show takeText zs p q = ([], 0, 3) by rw [HT'.out, if_pos hlong])
          clear HT'
          go_enter Try.func76, Try.ntmps76
          go_wp2_with (go_at_call 73; refine CP.out.mono ?_; rintro e w' ⟨rfl, rfl⟩)
          refine CU.out.mono ?_
          rintro e w' ⟨he, rfl⟩
          simp only [Tuple3] at he
          subst he
          go_wp2
          go_ret3
          exact ⟨by rw [HF.out]; rfl, rfl⟩
        · have hr := h.cut hps c hc
          generalize hA : (if c = p + s then A else A.map (·.add (p + s))) = A2 at hr
          by_cases hfew : n < p + s + u
          · have HF := Lib.hid (show takeText zs p q = ([], 0, 10) by rw [HT'.out, if_neg hlong, if_pos (by omega)])
            clear HT' hr
            go_enter Try.func76, Try.ntmps76
            go_wp2_with (go_at_call 73; refine CP.out.mono ?_; rintro e w' ⟨rfl, rfl⟩)
            refine CU.out.mono ?_
            rintro e w' ⟨he, rfl⟩
            simp only [Tuple3] at he
            subst he
            go_wp2
            all_goals
              go_ret3
              exact ⟨by rw [HF.out]; rfl, rfl⟩
          · have HF := Lib.hid (show takeText zs p q = ((zs.drop (p + s)).take u, s + u, 0) by rw [HT'.out, if_neg hlong, if_neg (by omega)])
            have hstr := rb_str (hr.take (k := u) (by omega)) (c - (p + s))
            clear HT' hr
            go_enter Try.func76, Try.ntmps76
            go_wp2_with (go_at_call 73; refine CP.out.mono ?_; rintro e w' ⟨rfl, rfl⟩)
            refine CU.out.mono ?_
            rintro e w' ⟨he, rfl⟩
            simp only [Tuple3] at he
            subst he
            go_wp2
            all_goals
              go_ret3
              exact ⟨by rw [HF.out]; rfl, rfl⟩
      · have HF : Hid (takeText zs p q = ([], 0, e)) := by
          show takeText zs p q = _
          rw [HT.out]
          split
          · rename_i hx; simp at hx; omega
          · rename_i hx; simp at hx; simp [hx]
        clear HT ht hfit
        have hb : ((e : Int) != 0) = true := by simp; omega
        go_enter Try.func76, Try.ntmps76
        go_wp2_with (go_at_call 73; refine CP.out.mono ?_; rintro e w' ⟨rfl, rfl⟩)
        refine CU.out.mono ?_
        rintro e w' ⟨he, rfl⟩
        simp only [Tuple3] at he
        subst he
        go_wp2
        go_ret3
        exact ⟨by rw [HF.out]; rfl, rfl⟩

end Go.Proofs.Ythpbcibjohakkaa

/- The bytes of a number, on lists. No program is named here. -/
namespace Go.Proofs.Ythpbcibjohakkaa
set_option maxRecDepth 100000

def uintB (n : Nat) : List Int := if n < 128 then [(n : Int)] else ((n % 128 + 128 : Nat) : Int) :: uintB (n / 128)
termination_by n
decreasing_by omega

theorem uintB_last (n : Nat) (h : n < 128) : uintB n = [(n : Int)] := by rw [uintB, if_pos h]
theorem uintB_on (n : Nat) (h : ¬ n < 128) : uintB n = ((n % 128 + 128 : Nat) : Int) :: uintB (n / 128) := by rw [uintB, if_neg h]
theorem uintB_on' (n : Nat) (h : ¬ n < 128) : uintB n = ((n : Int) % 128 + 128) :: uintB (n / 128) := by rw [uintB_on n h]; congr 1
theorem uintB_byte (n : Nat) : ∀ z ∈ uintB n, 0 ≤ z ∧ z ≤ 255 := by
  induction n using Nat.strongRecOn with
  | ind n ih =>
    intro z hz
    by_cases h : n < 128
    · rw [uintB_last n h] at hz
      simp at hz; omega
    · rw [uintB_on n h] at hz
      rcases List.mem_cons.1 hz with rfl | hz
      · omega
      · exact ih (n / 128) (by omega) z hz
theorem room_step (m k u : Nat) (h : m * 2 ^ k ≤ u) : m / 128 * 2 ^ (k + 1) ≤ u := by
  have h1 : m / 128 * 2 ≤ m := by omega
  have h2 : m / 128 * 2 ^ (k + 1) = m / 128 * 2 * 2 ^ k := by rw [Nat.pow_succ, Nat.mul_comm (2 ^ k) 2, Nat.mul_assoc]
  rw [h2]
  exact Nat.le_trans (Nat.mul_le_mul_right _ h1) h
theorem room_len (m k u : Nat) (h : m * 2 ^ k ≤ u) (hm : 1 ≤ m) (hu : u < 18446744073709551616) : k < 64 := by
  rcases Nat.lt_or_ge k 64 with h64 | h64
  · exact h64
  · exfalso
    have h1 : 2 ^ 64 ≤ 2 ^ k := Nat.pow_le_pow_right (by omega) h64
    have h2 : 1 * 2 ^ k ≤ m * 2 ^ k := Nat.mul_le_mul_right _ hm
    omega
theorem uintB_len (n : Nat) (hu : n < 18446744073709551616) : (uintB n).length ≤ 10 := by
  have key : ∀ k n, n < 2 ^ (7 * k) → 1 ≤ k → (uintB n).length ≤ k := by
    intro k
    induction k with
    | zero => intro n _ h; omega
    | succ k ih =>
      intro n hn _
      by_cases h : n < 128
      · rw [uintB_last n h]; simp
      · rw [uintB_on n h]
        rcases Nat.eq_zero_or_pos k with rfl | hk
        · simp at hn; omega
        · have h7 : 2 ^ (7 * (k + 1)) = 128 * 2 ^ (7 * k) := by rw [show 7 * (k + 1) = 7 * k + 7 from by omega, Nat.pow_add]; omega
          have := ih (n / 128) (by rw [h7] at hn; omega) hk
          simp; omega
  exact key 10 n (by have : (2 : Nat) ^ (7 * 10) = 1180591620717411303424 := by decide
                     omega) (by omega)

end Go.Proofs.Ythpbcibjohakkaa
