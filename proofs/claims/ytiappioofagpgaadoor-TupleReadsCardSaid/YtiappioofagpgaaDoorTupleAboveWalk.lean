/- The walk of TupleAbove: nothing lies between. -/
import Derived.Test.YtiappioofagpgaaDoorAbove
import Derived.Test.YtiappioofagpgaaDoorOpen
import Derived.WalkLawsBesides
namespace Go.Proofs.YtiappioofagpgaaDoor
open Go.RowKit

theorem toList_data (b : ByteArray) : b.toList = b.data.toList := Go.ByteArray.toList_eq b

set_option maxHeartbeats 1000000 in
set_option maxRecDepth 100000 in
theorem walk_above_none (a0 a1 a2 : ByteArray) (w : World) (hg : w.cell? ⟨1, 0, none⟩ = some (.int .u64 1)) (ha0 : a0.size ≤ 140737488351232) (hall : ∀ j (h : j < a0.size), a0[j] = 255) :
    Calls Tryd.prog 4 #[.string a0, .string a1, .string a2] w fun e w' => e = .returned (.bool true) ∧ Below w.heap.size w w' := by
  have B0 := Lib.hid (begun_yes w hg)
  have A0 := Lib.hid fun W => above_none a0 W ha0 hall
  have HA := Lib.hid hall
  clear hall hg
  go_enter Tryd.func4, Tryd.ntmps4
  go_wp2_with fail
  refine B0.out.mono ?_
  rintro e w1 ⟨rfl, hb1⟩
  go_wp2_with fail
  refine (A0.out _).mono ?_
  rintro e w2 ⟨rfl, rfl⟩
  go_wp2
  go_loop [9, 21] (fun f i => ∃ k : Nat, k ≤ a0.size ∧ f = .bool true ∧ i = .int .i64 k) (fun _ i => a0.size - (intOf i).toNat)
  case atStart => exact ⟨0, by omega, rfl, rfl⟩
  case round =>
    obtain ⟨k, hk, rfl, rfl⟩ := hrel
    by_cases hlt : k < a0.size
    · have e2 : (((a0[k]).toNat : Int) == 255) = true := by rw [HA.out k hlt]; rfl
      go_wp2
      go_round
      case rel => exact ⟨k + 1, by omega, rfl, by go_num⟩
      case measure => simp [intOf]; omega
    · go_wp2
      go_ret
      exact ⟨rfl, hb1⟩

theorem above_facts (s m o : ByteArray) (j : Nat) (hj : j < s.size) (hc : s[j] ≠ 255) (hall : ∀ i (h : i < s.size), j < i → s[i] = 255) :
    Op.bytesLess s.toList (ByteArray.mk (s.data.toList.take j ++ [s[j] + 1]).toArray).toList = true ∧
    Op.bytesLess (s ++ m).toList (ByteArray.mk (s.data.toList.take j ++ [s[j] + 1]).toArray).toList = true ∧
    ((Op.bytesLess s.toList o.toList || s.toList == o.toList) && Op.bytesLess o.toList (ByteArray.mk (s.data.toList.take j ++ [s[j] + 1]).toArray).toList) = (decide (s.size ≤ o.size) && ((o.extract 0 s.size).toList == s.toList)) := by
  have hs : s.data.toList = s.data.toList.take j ++ s[j] :: s.data.toList.drop (j + 1) := by
    have hj' : j < s.data.toList.length := by simpa using hj
    have h2 : s.data.toList[j] = s[j] := by simp; rfl
    rw [← h2, ← List.drop_eq_getElem_cons hj', List.take_append_drop]
  have hr : ∀ b ∈ s.data.toList.drop (j + 1), b = 255 := by
    intro b hb
    obtain ⟨i, hi, rfl⟩ := List.mem_iff_getElem.1 hb
    rw [List.getElem_drop]
    have hi1 := hi
    rw [List.length_drop] at hi1
    have hi2 : j + 1 + i < s.size := by have : s.data.toList.length = s.size := by simp
                                        omega
    have := hall (j + 1 + i) hi2 (by omega)
    rw [← this]
    simp
    rfl
  have hd : (s[j] + 1 : UInt8).toNat = s[j].toNat + 1 := by
    have hc1 : s[j].toNat ≠ 255 := fun e => hc (UInt8.toNat_inj.1 e)
    have hc2 := (s[j]).toNat_lt
    rw [UInt8.toNat_add]; simp; omega
  have hlen : s.size = s.data.toList.length := by simp
  simp only [toList_data]
  have e0 : (ByteArray.mk (s.data.toList.take j ++ [s[j] + 1]).toArray).data.toList = s.data.toList.take j ++ [s[j] + 1] := rfl
  have e1 : (s ++ m).data.toList = s.data.toList ++ m.data.toList := by simp
  have e2 : (o.extract 0 s.size).data.toList = o.data.toList.take s.data.toList.length := by simp [ByteArray.data_extract]
  rw [e1, e2]
  generalize s.data.toList.take j = p at *
  generalize s.data.toList.drop (j + 1) = r at *
  rw [hlen, hs]
  refine ⟨below_above p _ _ r hd, ?_, ?_⟩
  · rw [List.append_assoc, List.cons_append]
    exact below_above p _ _ (r ++ m.data.toList) hd
  · have hb := between p s[j] (s[j] + 1) r o.data.toList hd hr
    have ho : o.size = o.data.toList.length := by simp
    rw [ho]
    exact hb

set_option maxHeartbeats 4000000 in
set_option maxRecDepth 100000 in
theorem walk_above_some (a0 a1 a2 : ByteArray) (w : World) (hg : w.cell? ⟨1, 0, none⟩ = some (.int .u64 1)) (ha0 : a0.size ≤ 140737488351232) (ha1 : a1.size ≤ 140737488351232) (ha2 : a2.size ≤ 140737488351232)
    (j : Nat) (hj : j < a0.size) (hc : a0[j] ≠ 255) (hall : ∀ i (h : i < a0.size), j < i → a0[i] = 255) :
    Calls Tryd.prog 4 #[.string a0, .string a1, .string a2] w fun e w' => e = .returned (.bool true) ∧ Below w.heap.size w w' := by
  have B0 := Lib.hid (begun_yes w hg)
  have A0 := Lib.hid fun W => above_some a0 W ha0 j hj hc hall
  obtain ⟨l1, l2, l3⟩ := above_facts a0 a1 a2 j hj hc hall
  have hne : (((a0[j]).toNat : Int) == 255) = false := by
    have hc1 : a0[j].toNat ≠ 255 := fun e => hc (UInt8.toNat_inj.1 e)
    simp; omega
  have L1 := Lib.hid l1
  have L2 := Lib.hid l2
  have L3 := Lib.hid l3
  generalize ByteArray.mk (a0.data.toList.take j ++ [a0[j] + 1]).toArray = u at A0 L1 L2 L3
  have HN := Lib.hid hne
  clear hall hg hc l1 l2 l3 hne
  go_enter Tryd.func4, Tryd.ntmps4
  go_wp2_with fail
  refine B0.out.mono ?_
  rintro e w1 ⟨rfl, hb1⟩
  go_wp2_with fail
  refine (A0.out _).mono ?_
  rintro e w2 ⟨rfl, hb2⟩
  have hb3 := below_next hb1 hb2
  clear hb1 hb2
  go_wp2
  go_loop [9, 21] (fun f i => ∃ (k : Nat) (b : Bool), k ≤ a0.size ∧ (j < k → b = false) ∧ f = .bool b ∧ i = .int .i64 k) (fun _ i => a0.size - (intOf i).toNat)
  case atStart => exact ⟨0, true, by omega, fun h => by omega, rfl, rfl⟩
  case round =>
    obtain ⟨k, b, hk, hb, rfl, rfl⟩ := hrel
    by_cases hlt : k < a0.size
    · rcases b with _ | _
      · clear hb
        go_wp2
        go_round
        case rel => exact ⟨k + 1, false, by omega, fun _ => rfl, rfl, by go_num⟩
        case measure => simp [intOf]; omega
      · have hkj : k ≤ j := by
          rcases Nat.lt_or_ge j k with h | h
          · exact absurd (hb h) (by simp)
          · exact h
        clear hb
        rcases he : (((a0[k]).toNat : Int) == 255) with _ | _
        · go_wp2
          go_round
          case rel => exact ⟨k + 1, false, by omega, fun _ => rfl, rfl, by go_num⟩
          case measure => simp [intOf]; omega
        · have hne2 : k ≠ j := by
            rintro rfl
            rw [HN.out] at he
            cases he
          go_wp2
          go_round
          case rel => exact ⟨k + 1, true, by omega, fun _ => by omega, rfl, by go_num⟩
          case measure => simp [intOf]; omega
    · have hkk : k = a0.size := by omega
      subst hkk
      have hbf := hb hj
      subst hbf
      clear hb
      have l1 := L1.out
      have l2 := L2.out
      have l3 := L3.out
      clear L1 L2 L3
      rcases y1 : Op.bytesLess a0.toList a2.toList || a0.toList == a2.toList with _ | _ <;> rcases y2 : Op.bytesLess a2.toList u.toList with _ | _ <;> rcases x2 : (a2.extract 0 a0.size).toList == a0.toList with _ | _ <;>
        (by_cases x1 : a0.size ≤ a2.size) <;> (simp [y1, y2, x1, x2] at l3 <;> skip) <;> (clear l3; skip)
      all_goals
        go_wp2
        go_ret
        exact ⟨rfl, hb3⟩

theorem last_not (a : ByteArray) : ∀ n, n ≤ a.size → (∀ i (h : i < a.size), n ≤ i → a[i] = 255) → (∀ i (h : i < a.size), a[i] = 255) ∨ ∃ j, ∃ hj : j < a.size, a[j] ≠ 255 ∧ ∀ i (h : i < a.size), j < i → a[i] = 255
  | 0, _, h => .inl fun i hi => h i hi (Nat.zero_le _)
  | n + 1, hn, h => by
    by_cases e : a[n]'(by omega) = 255
    · exact last_not a n (by omega) fun i hi hni => by
        rcases Nat.eq_or_lt_of_le hni with rfl | hlt
        · exact e
        · exact h i hi hlt
    · exact .inr ⟨n, by omega, e, fun i hi hlt => h i hi hlt⟩

theorem walk_TupleAbove (a0 a1 a2 : ByteArray) (w : World) (hg : w.cell? ⟨1, 0, none⟩ = some (.int .u64 1)) (ha0 : a0.size ≤ 140737488351232) (ha1 : a1.size ≤ 140737488351232) (ha2 : a2.size ≤ 140737488351232) :
    Calls Tryd.prog 4 #[.string a0, .string a1, .string a2] w fun e w' => e = .returned (.bool true) ∧ Below w.heap.size w w' := by
  rcases last_not a0 a0.size (Nat.le_refl _) (fun i hi h => absurd hi (by omega)) with h | ⟨j, hj, hc, hall⟩
  · exact walk_above_none a0 a1 a2 w hg ha0 h
  · exact walk_above_some a0 a1 a2 w hg ha0 ha1 ha2 j hj hc hall
end Go.Proofs.YtiappioofagpgaaDoor
