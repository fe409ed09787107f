/- The calls of Above. -/
import Derived.Test.YtiappioofagpgaaDoorTText7
import Derived.Test.YtiappioofagpgaaDoorAboveP
import Derived.Lib.ConvBytes
import Derived.Laws.IdiomStrings
import Derived.LoopTactic
import Derived.Lib.UnsafeStr
namespace Go.Proofs.YtiappioofagpgaaDoor
open Go.RowKit

set_option maxHeartbeats 1000000 in
theorem above_none (s : ByteArray) (w : World) (hs : s.size ≤ 140737488351232) (hall : ∀ j (h : j < s.size), s[j] = 255) :
    Calls Tryd.prog 7 #[.string s] w fun e w' => e = .returned (.tuple #[.string ⟨#[]⟩, .bool false]) ∧ w = w' := by
  have HA := Lib.hid hall
  clear hall
  go_enter Tryd.func7, Tryd.ntmps7
  go_wp2
  go_loop [4] (fun n => ∃ k : Nat, k ≤ s.size ∧ n = .int .i64 k) (fun n => (intOf n).toNat)
  case atStart => exact ⟨s.size, Nat.le_refl _, rfl⟩
  case round =>
    obtain ⟨k, hk, rfl⟩ := hrel
    rcases k with _ | j
    · go_wp2
      go_ret2
      exact ⟨rfl, rfl⟩
    · have hj : j < s.size := by omega
      have e1 : ((j + 1 : Nat) : Int) = (j : Int) + 1 := by omega
      rw [e1]
      clear e1
      have e2 : (((s[j]).toNat : Int) == 255) = true := by rw [HA.out j hj]; rfl
      go_wp2
      go_round
      case rel => exact ⟨j, by omega, by go_num⟩
      case measure => simp [intOf]

theorem extract_size (s : ByteArray) (n : Nat) (h : n ≤ s.size) : (s.extract 0 n).size = n := by simp; omega

theorem ext_getD (s : ByteArray) (n j : Nat) (h : j < n) (hn : n ≤ s.size) : (s.extract 0 n).data.toList.getD j 0 = s[j]'(by omega) := by
  have hs : j < s.data.size := by have : s.size = s.data.size := rfl; omega
  simp [List.getD_eq_getElem?_getD, ByteArray.data_extract, h]
  rw [Array.getElem?_eq_getElem hs]
  rfl

/-- What string(b) answers behind []byte(t) and a store at the last byte. -/
theorem conv_back (w : World) (s : ByteArray) (j : Nat) (hj : j < s.size) (d : UInt8) :
    (convert 39 9 (.slice (some ⟨w.heap.size, 0, none⟩) (j + 1) (grownCap w (j + 1) 0 5))).run Tryd.prog ((Lib.bytesWorld w 5 (s.extract 0 (j + 1))).setCell ⟨w.heap.size, j, none⟩ (.int .u8 d.toNat))
      = .ok (.string ⟨(s.data.toList.take j ++ [d]).toArray⟩) ((Lib.bytesWorld w 5 (s.extract 0 (j + 1))).setCell ⟨w.heap.size, j, none⟩ (.int .u8 d.toNat)) := by
  have hsz : s.data.toList.length = s.size := by simp
  have hl : (s.data.toList.take j ++ [d]).length = j + 1 := by simp; omega
  have h := run_convert_bytes_back (P := Tryd.prog) ((Lib.bytesWorld w 5 (s.extract 0 (j + 1))).setCell ⟨w.heap.size, j, none⟩ (.int .u8 d.toNat)) 39 9 5 ⟨w.heap.size, 0, none⟩ (grownCap w (j + 1) 0 5) (s.data.toList.take j ++ [d]) Tryd.underlying39 Tryd.underlying5 Tryd.underlying9 ?_
  · rw [hl] at h; exact h
  · intro i hi
    have hadd : (⟨w.heap.size, 0, none⟩ : Addr).add i = ⟨w.heap.size, i, none⟩ := by unfold Addr.add; split <;> simp_all
    rw [hadd]
    rw [hl] at hi
    have hcell := Lib.bytesWorld_cell w 5 (s.extract 0 (j + 1)) i (by rw [extract_size _ _ (by omega)]; omega)
    by_cases e : i = j
    · subst e
      rw [World.cell?_setCell_same _ _ _ hcell, List.getElem_append_right (by simp; omega)]
      simp
    · rw [World.cell?_setCell_other _ _ _ _ (by simp <;> omega), hcell]
      have hij : i < j := by omega
      rw [ext_getD s (j + 1) i (by omega) (by omega), List.getElem_append_left (by simp; omega)]
      simp; rfl

theorem freeze_frozen (w : World) (s : ByteArray) (j : Nat) (hj : j < s.size) : (Lib.bytesWorld w 5 s).frozen? ⟨w.heap.size, j, none⟩ = false := by
  have h := Lib.bytesWorld_at_new w 5 s
  have hc : s.size ≤ (Lib.bytesCells w 5 s).size := by simp [Lib.bytesCells]
  simp [World.frozen?, h]
  omega
theorem bytesWorld_below (w : World) (s : ByteArray) : Below w.heap.size w (Lib.bytesWorld w 5 s) := by
  unfold Lib.bytesWorld
  exact Lib.below_freeze (((Below.refl _ _).drew).alloc (Nat.le_refl _) _) (Nat.le_refl _) 1

set_option maxHeartbeats 1000000 in
theorem above_some (s : ByteArray) (w : World) (hs : s.size ≤ 140737488351232) (j : Nat) (hj : j < s.size) (hc : s[j] ≠ 255) (hall : ∀ i (h : i < s.size), j < i → s[i] = 255) :
    Calls Tryd.prog 7 #[.string s] w fun e w' => e = .returned (.tuple #[.string ⟨(s.data.toList.take j ++ [s[j] + 1]).toArray⟩, .bool true]) ∧ Below w.heap.size w w' := by
  have HA := Lib.hid hall
  have hc1 : s[j].toNat ≠ 255 := fun e => hc (UInt8.toNat_inj.1 e)
  have hc2 := (s[j]).toNat_lt
  have hd : ((s[j] + 1 : UInt8).toNat : Int) = (s[j].toNat : Int) + 1 := by
    rw [UInt8.toNat_add]; simp; omega
  have hcv := Lib.run_convert_string_bytes (P := Tryd.prog) w 9 39 5 (s.extract 0 (j + 1)) Tryd.underlying9 Tryd.underlying39 Tryd.underlying5
  rw [extract_size _ _ (by omega)] at hcv
  have hcb := conv_back w s j hj (s[j] + 1)
  have c0 : (Lib.bytesWorld w 5 (s.extract 0 (j + 1))).cell? ⟨w.heap.size, j, none⟩ = some (.int .u8 (s[j].toNat)) := by
    rw [Lib.bytesWorld_cell w _ _ j (by rw [extract_size _ _ (by omega)]; omega)]
    rw [ext_getD s (j + 1) j (by omega) (by omega)]
  have f0 := freeze_frozen w (s.extract 0 (j + 1)) j (by rw [extract_size _ _ (by omega)]; omega)
  have hbel := (bytesWorld_below w (s.extract 0 (j + 1))).setCell (p := ⟨w.heap.size, j, none⟩) (Nat.le_refl _) (.int .u8 ((s[j] + 1 : UInt8).toNat : Int))
  rw [hd] at hcb hbel
  have hcap : j + 1 ≤ grownCap w (j + 1) 0 5 := grownCap_ge _ _ _ _
  generalize grownCap w (j + 1) 0 5 = cap at hcv hcb hcap
  generalize Lib.bytesWorld w 5 (s.extract 0 (j + 1)) = W1 at hcv hcb c0 f0 hbel
  have e3 : ((s[j].toNat : Int) == 255) = false := by simp; omega
  clear hall hc hd
  go_enter Tryd.func7, Tryd.ntmps7
  go_wp2
  go_loop [4] (fun n => ∃ k : Nat, k ≤ s.size ∧ j < k ∧ n = .int .i64 k) (fun n => (intOf n).toNat)
  case atStart => exact ⟨s.size, Nat.le_refl _, hj, rfl⟩
  case round =>
    obtain ⟨k, hk, hjk, rfl⟩ := hrel
    obtain ⟨i, rfl⟩ : ∃ i, k = i + 1 := ⟨k - 1, by omega⟩
    have hi : i < s.size := by omega
    have e1 : ((i + 1 : Nat) : Int) = (i : Int) + 1 := by omega
    rw [e1]
    clear e1
    by_cases hij : i = j
    · subst hij
      go_wp2
      go_ret2
      exact ⟨rfl, hbel⟩
    · have e2 : (((s[i]).toNat : Int) == 255) = true := by rw [HA.out i hi (by omega)]; rfl
      clear hcv hcb c0 f0 e3
      go_wp2
      go_round
      case rel => exact ⟨i, by omega, by omega, by go_num⟩
      case measure => simp [intOf]
end Go.Proofs.YtiappioofagpgaaDoor
