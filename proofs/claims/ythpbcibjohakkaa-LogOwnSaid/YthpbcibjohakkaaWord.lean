import Derived.Test.YthpbcibjohakkaaJAN
import Derived.BigQuiet
import Derived.Lib.SmallJoins
import Derived.Deep.QuietTactic
/- The calls that write and read four bytes of a number: word, putWord, and the reference's word and unword. -/
namespace Go.Proofs.Ythpbcibjohakkaa
set_option maxRecDepth 100000
open Go.RowKit

/-- The call only drew: memory is as it was. -/
def Draws (w w' : World) : Prop := ∃ k, w' = w.drewN k
theorem Draws.below {w w' : World} (h : Draws w w') (B : Nat) : Below B w w' := by
  obtain ⟨k, rfl⟩ := h
  exact Joins.below_draws B w k
theorem ret_int {k : IntKind} {a b : Int} (h : a = b) : Ending.returned (.int k a) = .returned (.int k b) := by rw [h]

theorem or_u32 (X k : Nat) (z : Int) (hX : X < 256 ^ k) (hz : 0 ≤ z ∧ z ≤ 255) (hk : k < 4) :
    Go.bits .or .u32 (X : Int) (z % 4294967296 * 2 ^ (8 * k) % 4294967296) = ((X + z.toNat * 256 ^ k : Nat) : Int) := by
  have hp : (2 : Nat) ^ (8 * k) = 256 ^ k := by rw [Nat.pow_mul]
  have hzn : z.toNat ≤ 255 := by omega
  have h1 : z.toNat * 256 ^ k ≤ 255 * 256 ^ 3 := Nat.mul_le_mul hzn (Nat.pow_le_pow_right (by omega) (by omega))
  have h2 : (256 : Nat) ^ k ≤ 256 ^ 3 := Nat.pow_le_pow_right (by omega) (by omega)
  have hm : (z % 4294967296 * 2 ^ (8 * k) : Int) = ((z.toNat * 256 ^ k : Nat) : Int) := by
    rw [show z % 4294967296 = ((z.toNat : Nat) : Int) from by omega, Int.natCast_mul, ← hp, Int.natCast_pow]; rfl
  have hlt : z.toNat * 256 ^ k < 4294967296 := Nat.lt_of_le_of_lt h1 (by decide)
  have hXl : X < 4294967296 := Nat.lt_of_lt_of_le hX (Nat.le_trans h2 (by decide))
  rw [hm]
  generalize hY : z.toNat * 256 ^ k = Y at hlt
  rw [show ((Y : Int) % 4294967296) = (Y : Int) from by omega, u32_or_nat _ _ hXl hlt]
  congr 1
  rw [Nat.or_comm, nat_join (8 * k) _ _ (by rw [hp, ← hY, Nat.mul_comm]; exact Nat.mul_mod_right _ _) (by rw [hp]; exact hX)]
  omega
theorem sum_u32 (a b c d : Int) (ha : 0 ≤ a ∧ a ≤ 255) (hb : 0 ≤ b ∧ b ≤ 255) (hc : 0 ≤ c ∧ c ≤ 255) (hd : 0 ≤ d ∧ d ≤ 255) (zs : List Int) (p : Nat)
    (ea : zs.getD p 0 = a) (eb : zs.getD (p + 1) 0 = b) (ec : zs.getD (p + 2) 0 = c) (ed : zs.getD (p + 3) 0 = d) : a + b * 256 + c * 65536 + d * 16777216 = ((w4 (zs.drop p) : Nat) : Int) := by
  have g : ∀ k, (zs.drop p).getD k 0 = zs.getD (p + k) 0 := fun k => by simp [List.getD_eq_getElem?_getD, List.getElem?_drop]
  simp only [w4, part, g, Nat.add_zero, ea, eb, ec, ed]
  omega

set_option maxHeartbeats 400000 in
theorem wword (A : Option Addr) (n c : Nat) (zs : List Int) (w : World) (h : RB w A n zs) (h4 : 4 ≤ n) (hn : n ≤ 140737490000000) :
    Calls Try.prog 74 #[.slice A n c] w fun e w' => e = .returned (.int .u32 ((w4 zs : Nat) : Int)) ∧ w = w' := by
  obtain ⟨ad, rfl, hc⟩ := h.cell (by omega)
  have hz := h.getD
  have HZ := Lib.hid hz
  have HC := Lib.hid hc
  clear hz hc h
  go_enter Try.func74, Try.ntmps74
  go_wp2
  go_loop [3, 5] (fun x i => ∃ k : Nat, k ≤ 4 ∧ i = .int .i64 k ∧ x = .int .u32 ((part zs k : Nat) : Int)) (fun _ i => 4 - (intOf i).toNat)
  case atStart => exact ⟨0, by omega, rfl, rfl⟩
  case round =>
    obtain ⟨k, hk, rfl, rfl⟩ := hrel
    by_cases hlt : k < 4
    · have hcell := HC.out k (by omega)
      have hb := HZ.out k
      have hp := part_lt zs HZ.out k
      have HO := Lib.hid (or_u32 (part zs k) k (zs[k]?.getD 0) hp (by simpa using hb) hlt)
      go_wp2
      go_round
      case rel => exact ⟨k + 1, by omega, by go_num, by rw [HO.out]; simp [part]⟩
      case measure => simp [intOf]; omega
    · obtain rfl : k = 4 := by omega
      go_wp2
      go_ret
      exact ⟨rfl, rfl⟩

theorem byte_of (v k : Nat) : (v : Int) / 2 ^ (8 * k) % 256 = byteAt v k := by
  have hp : (2 : Nat) ^ (8 * k) = 256 ^ k := by rw [Nat.pow_mul]
  unfold byteAt
  rw [← hp, Int.natCast_emod, Int.natCast_ediv, Int.natCast_pow]; rfl

/-- What putWord leaves: its four bytes laid over the row. -/
def Puts (w : World) (g : Nat) (zs : List Int) (e : Ending) (w' : World) : Prop := e = .returned (.tuple #[]) ∧ Row w' g zs ∧ w.grownBy w' (some g)

set_option maxHeartbeats 400000 in
theorem wputWord (g o n c v : Nat) (zs : List Int) (w : World) (h : Row w g zs) (ho : o + 4 ≤ zs.length) (h4 : 4 ≤ n) (hn : n ≤ 140737488355328) (hv : v < 4294967296) :
    Calls Try.prog 78 #[.slice (some ⟨g, o, none⟩) n c, .int .u32 v] w (Puts w g (splice zs o (wordB v))) := by
  go_enter Try.func78, Try.ntmps78
  go_wp2
  go_loopw [5] (fun i wr => ∃ k : Nat, k ≤ 4 ∧ i = .int .i64 k ∧ Row wr g (splice zs o ((wordB v).take k)) ∧ w.grownBy wr (some g)) (fun i _ => 4 - (intOf i).toNat)
  case atStart => exact ⟨0, by omega, rfl, by simpa [splice] using h, World.grownBy.refl _ _⟩
  case round =>
    obtain ⟨k, hk, rfl, hrow, hg⟩ := hrel
    by_cases hlt : k < 4
    · have hlen : (splice zs o ((wordB v).take k)).length = zs.length := length_splice _ _ _ (by rw [List.length_take, wordB_len]; omega)
      have hcell := hrow.cell (j := o + k) (by omega)
      have hfr := hrow.frozen (o + k)
      have HB := Lib.hid (byte_of v k)
      have hst : Row (wr.setCell ⟨g, o + k, none⟩ (.int .u8 (byteAt v k))) g (splice zs o ((wordB v).take (k + 1))) := by
        have h1 := hrow.set_ (o + k) (byteAt v k)
        rw [← wordB_getD v k hlt, splice_step zs o k (wordB v) 0 (by rw [wordB_len]; exact hlt) (by rw [wordB_len]; exact ho), wordB_getD v k hlt] at h1
        exact h1
      have hgr : w.grownBy (wr.setCell ⟨g, o + k, none⟩ (.int .u8 (byteAt v k))) (some g) :=
        ⟨hg.os, hg.tape, hg.output, by simpa [World.setCell] using hg.size, fun j hj hne => (Below.heap_setCell wr _ _ j (fun e => hne (by rw [e]))).trans (hg.block j hj hne)⟩
      have HST := Lib.hid hst
      have HGR := Lib.hid hgr
      clear hst hgr
      go_wp2
      go_roundw
      case rel => exact ⟨k + 1, by omega, by go_num, by rw [HB.out]; exact HST.out, by rw [HB.out]; exact HGR.out⟩
      case measure => simp [intOf]; omega
    · obtain rfl : k = 4 := by omega
      go_wp2
      go_end0
      exact ⟨rfl, hrow, hg⟩
end Go.Proofs.Ythpbcibjohakkaa
