/- The reference's call of Above; two lists that are alike. -/
import Derived.Test.YtiappioofagpgaaDoorKeyRef
import Derived.Test.YtiappioofagpgaaDoorAbove
namespace Go.Proofs.YtiappioofagpgaaDoor
open Go.RowKit

set_option maxHeartbeats 1000000 in
theorem rabove_none (s : ByteArray) (w : World) (hs : s.size ≤ 140737488351232) (hall : ∀ j (h : j < s.size), s[j] = 255) :
    Calls Tryd.prog 8 #[.string s] w fun e w' => e = .returned (.tuple #[.string ⟨#[]⟩, .bool false]) ∧ w = w' := by
  have HA := Lib.hid hall
  clear hall
  go_enter Tryd.func8, Tryd.ntmps8
  go_wp2
  go_loop [4] (fun n => ∃ z : Int, -1 ≤ z ∧ z < s.size ∧ n = .int .i64 z) (fun n => (intOf n + 1).toNat)
  case atStart => exact ⟨_, by omega, by omega, rfl⟩
  case round =>
    obtain ⟨z, hz1, hz2, rfl⟩ := hrel
    by_cases hz : 0 ≤ z
    · obtain ⟨j, rfl⟩ := Int.eq_ofNat_of_zero_le hz
      have hj : j < s.size := by omega
      have e2 : (((s[j]).toNat : Int) != 255) = false := by rw [HA.out j hj]; rfl
      go_wp2
      go_round
      case rel => exact ⟨(j : Int) - 1, by omega, by omega, rfl⟩
      case measure => simp [intOf]
    · go_wp2
      go_ret2
      exact ⟨rfl, rfl⟩

set_option maxHeartbeats 1000000 in
theorem rabove_some (s : ByteArray) (w : World) (hs : s.size ≤ 140737488351232) (j : Nat) (hj : j < s.size) (hc : s[j] ≠ 255) (hall : ∀ i (h : i < s.size), j < i → s[i] = 255) :
    Calls Tryd.prog 8 #[.string s] w fun e w' => e = .returned (.tuple #[.string ⟨(s.data.toList.take j ++ [s[j] + 1]).toArray⟩, .bool true]) ∧ Below w.heap.size w w' := by
  have HA := Lib.hid hall
  have hc1 : s[j].toNat ≠ 255 := fun e => hc (UInt8.toNat_inj.1 e)
  have hc2 := (s[j]).toNat_lt
  have hd : ((s[j] + 1 : UInt8).toNat : Int) = (s[j].toNat : Int) + 1 := by
    rw [UInt8.toNat_add]; simp; omega
  have hcv := Lib.run_convert_string_bytes (P := Tryd.prog) w 9 39 5 (s.extract 0 (j + 1)) Tryd.underlying9 Tryd.underlying39 Tryd.underlying5
  rw [extract_size _ _ (by omega)] at hcv
  have hcb := conv_back w s j hj (s[j] + 1)
  have c0 : (Lib.bytesWorld w 5 (s.extract 0 (j + 1))).cell? ⟨w.heap.size, j, none⟩ = some (.int .u8 (s[j].toNat)) := by
    rw [Lib.bytesWorld_cell w _ _ j (by rw [extract_size _ _ (by omega)]; omega)]
    rw [ext_getD s (j + 1) j (by omega) (by omega)]
  have f0 := freeze_frozen w (s.extract 0 (j + 1)) j (by rw [extract_size _ _ (by omega)]; omega)
  have hbel := (bytesWorld_below w (s.extract 0 (j + 1))).setCell (p := ⟨w.heap.size, j, none⟩) (Nat.le_refl _) (.int .u8 ((s[j] + 1 : UInt8).toNat : Int))
  rw [hd] at hcb hbel
  have hcap : j + 1 ≤ grownCap w (j + 1) 0 5 := grownCap_ge _ _ _ _
  generalize grownCap w (j + 1) 0 5 = cap at hcv hcb hcap
  generalize Lib.bytesWorld w 5 (s.extract 0 (j + 1)) = W1 at hcv hcb c0 f0 hbel
  have e3 : ((s[j].toNat : Int) != 255) = true := by simp; omega
  clear hall hc hd
  go_enter Tryd.func8, Tryd.ntmps8
  go_wp2
  go_loop [4] (fun n => ∃ k : Nat, k < s.size ∧ j ≤ k ∧ n = .int .i64 k) (fun n => (intOf n).toNat)
  case atStart => exact ⟨s.size - 1, by omega, by omega, congrArg (Value.int .i64) (by omega)⟩
  case round =>
    obtain ⟨i, hi, hji, rfl⟩ := hrel
    by_cases hij : i = j
    · subst hij
      go_wp2
      go_ret2
      exact ⟨rfl, hbel⟩
    · have e2 : (((s[i]).toNat : Int) != 255) = false := by rw [HA.out i hi (by omega)]; rfl
      clear hcv hcb c0 f0 e3
      go_wp2
      go_round
      case rel => exact ⟨i - 1, by omega, by omega, congrArg (Value.int .i64) (by omega)⟩
      case measure => simp [intOf]; omega

set_option maxHeartbeats 4000000 in
set_option maxRecDepth 100000 in
theorem lists_yes (v1 v2 : Value) (l : List KV) (b1 b2 : Nat) (w : World) (h1 : OV b1 w v1 l) (h2 : OV b2 w v2 l) (h16 : l.length ≤ 1000000) :
    Calls Tryd.prog 10 #[v1, v2] w fun e w' => e = .returned (.bool true) ∧ Below w.heap.size w w' := by
  have BY := Lib.hid fun k n y s W => bits_yes k n y s 0 0 W ok_zero.1 ok_zero.1 ok_zero.2 ok_zero.2
  unfold vA at BY
  obtain ⟨A1, p1, rfl, hc1, hm1⟩ := h1.form
  obtain ⟨A2, p2, rfl, hc2, hm2⟩ := h2.form
  have hm1' : p1 ≤ 9223372036854775807 := by simpa [maxLen] using hm1
  have hm2' : p2 ≤ 9223372036854775807 := by simpa [maxLen] using hm2
  clear hm1 hm2
  go_enter Tryd.func10, Tryd.ntmps10
  go_wp2
  go_loopw [13] (fun i wr => ∃ k : Nat, k ≤ l.length ∧ i = .int .i64 k ∧ Below w.heap.size w wr) (fun i _ => l.length - (intOf i).toNat)
  case atStart => exact ⟨0, by omega, rfl, Below.refl _ _⟩
  case round =>
    obtain ⟨k, hk, rfl, hb⟩ := hrel
    by_cases hlt : k < l.length
    · obtain ⟨x, hx⟩ : ∃ x, l[k]? = some x := ⟨_, List.getElem?_eq_getElem hlt⟩
      obtain ⟨g1, cap1, hv, hcap1, c0, c1, c2, c3, c4⟩ := (h1.below hb).at_ hx
      simp only [Value.slice.injEq] at hv
      obtain ⟨rfl, -, rfl⟩ := hv
      obtain ⟨g2, cap2, hv, hcap2, d0, d1, d2, d3, d4⟩ := (h2.below hb).at_ hx
      simp only [Value.slice.injEq] at hv
      obtain ⟨rfl, -, rfl⟩ := hv
      clear hx h1 h2
      have B : Below wr.heap.size wr wr.drew := (Below.refl _ _).drew
      go_wp2
      go_region_held3 (fun w' => w'.cell? ⟨g1, k * 5, none⟩ = some (.int .i64 x.k) ∧ w'.cell? ⟨g1, k * 5 + 1, none⟩ = some (.int .i64 x.n) ∧ w'.cell? ⟨g1, k * 5 + 2, none⟩ = some (.bool x.y) ∧ w'.cell? ⟨g1, k * 5 + 3, none⟩ = some (.string (strOfNums x.b)) ∧ w'.cell? ⟨g1, k * 5 + 4, none⟩ = some (.complex .f64 0 0) ∧ w'.cell? ⟨g2, k * 5, none⟩ = some (.int .i64 x.k) ∧ w'.cell? ⟨g2, k * 5 + 1, none⟩ = some (.int .i64 x.n) ∧ w'.cell? ⟨g2, k * 5 + 2, none⟩ = some (.bool x.y) ∧ w'.cell? ⟨g2, k * 5 + 3, none⟩ = some (.string (strOfNums x.b)) ∧ w'.cell? ⟨g2, k * 5 + 4, none⟩ = some (.complex .f64 0 0))
        (first | exact ⟨c0, c1, c2, c3, c4, d0, d1, d2, d3, d4⟩ | exact ⟨keep_below c0 B, keep_below c1 B, keep_below c2 B, keep_below c3 B, keep_below c4 B, keep_below d0 B, keep_below d1 B, keep_below d2 B, keep_below d3 B, keep_below d4 B⟩)
        (first
          | (go_at_call 18; refine (BY.out _ _ _ _ _).mono ?_; rintro e w9 ⟨rfl, hb9⟩; have B := below_next B hb9; clear hb9))
      all_goals
        go_wp2
        go_roundw
        case rel => exact ⟨k + 1, by omega, by go_num, below_next hb B⟩
        case measure => simp [intOf]; omega
    · go_wp2
      go_ret
      exact ⟨rfl, hb⟩
end Go.Proofs.YtiappioofagpgaaDoor
