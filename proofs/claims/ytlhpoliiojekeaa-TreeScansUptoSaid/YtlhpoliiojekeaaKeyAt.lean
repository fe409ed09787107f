/- keyAt: the key of a number below a node. -/
import Derived.Test.YtlhpoliiojekeaaRank
namespace Go.Proofs.Ytlhpoliiojekeaa
set_option maxRecDepth 100000
open Go.RowKit

theorem kidsP_take_all (kids : List Kid) : kidsP (kids.take kids.length) = kidsP kids := by rw [List.take_length]
theorem kidsP_at (kids : List Kid) (j : Nat) (y : Kid) (hy : kids[j]? = some y) (i : Nat) (h1 : (kidsP (kids.take j)).length ≤ i) (h2 : i < (kidsP (kids.take j)).length + y.ps.length) :
    (kidsP kids)[i]? = y.ps[i - (kidsP (kids.take j)).length]? := by
  rw [kidsP_cut kids j y hy, List.getElem?_append_right h1, List.getElem?_append_left (by omega)]

set_option maxHeartbeats 4000000 in
theorem wkeyAt (ord : Nat) (ho : ord ≤ 1000) : ∀ (d : Nat) (w : World) (v : Value) (ps : List Pr) (m i0 : Nat) (k : ByteArray) (z : Int), NodeAt ord w d v ps m → m ≤ 1000 → ps.length ≤ 1152921504606846976 → ps[i0]? = some (k, z) →
    Calls Try.prog 45 #[v, .int .i64 (i0 : Int)] w fun e w' => e = .returned (.tuple #[.string k, .int .i64 z, .bool true]) ∧ ∃ j, w' = w.drewN j := by
  intro d
  induction d with
  | zero =>
    intro w v ps m i0 k z h hm hp hi
    obtain ⟨g, rfl, ⟨A, c, B, e, h0, h1, h2, h3, h4⟩, rfl⟩ := h
    have c0 : w.cell? ⟨g, 0, none⟩ = some (.slice A ps.length c) := by rw [cell_of_row _ _ _ _ _ _ h0]; rfl
    have c1 : w.cell? ⟨g, 1, none⟩ = some (.slice B ps.length e) := by rw [cell_of_row _ _ _ _ _ _ h0]; rfl
    obtain ⟨ad, rfl, c2⟩ := h1.at_ (k := i0) (u := .string k) (by simp [keysV, hi])
    obtain ⟨ad2, rfl, c3⟩ := h3.at_ (k := i0) (u := .int .i64 z) (by simp [numsV, hi])
    have i1 : i0 < ps.length := (List.getElem?_eq_some_iff.1 hi).1
    have i2 : (i0 : Int) < (ps.length : Int) := by omega
    have t1 := ta_ll
    unfold lp
    clear h0 h1 h3 hi i1
    go_enter Try.func45, Try.ntmps45
    go_wp2
    go_quiet (fail)
    go_wp2
    go_ret3
    exact ⟨rfl, ⟨_, rfl⟩⟩
  | succ d ih =>
    intro w v ps m i0 k z h hm hp hi
    obtain ⟨g, ks, kids, rfl, rfl, hC, hF⟩ := h
    have hall := hC.all
    have hi1 : i0 < ps.length := (List.getElem?_eq_some_iff.1 hi).1
    have hpos : 0 < kids.length := by have := hC.num; omega
    obtain ⟨ad, e, c1, -, he⟩ := hC.cell_kid (List.getElem?_eq_getElem hpos)
    have hcells : ∀ (j : Nat) (y : Kid), kids[j]? = some y → w.cell? (ad.add j) = some y.v := by
      intro j y hy
      obtain ⟨ad', e', c1', c2', -⟩ := hC.cell_kid hy
      rw [c1] at c1'
      simp only [Option.some.injEq, Value.slice.injEq] at c1'
      rw [c1'.1]; exact c2'
    have HCE := Lib.hid hcells
    have HC := Lib.hid hC
    have HF := Lib.hid hF
    have HP := Lib.hid hp
    have HI := Lib.hid hi
    have HALL := Lib.hid hall
    have HI1 := Lib.hid hi1
    have IH := Lib.hid ih
    have t1 := ta_il
    have t2 := ta_ii
    unfold ip
    clear hcells hC hF hp hi hall ih hi1
    go_enter Try.func45, Try.ntmps45
    go_upto_region 8 with fail
    go_loopw [1, 9] (fun s i' wr => ∃ j : Nat, i' = .int .i64 (j : Nat) ∧ s = .int .i64 (i0 - (kidsP (kids.take j)).length : Nat) ∧ (kidsP (kids.take j)).length ≤ i0 ∧ j < kids.length ∧ wr = w) (fun _ i' _ => kids.length - (intOf i').toNat)
    case atStart => exact ⟨0, rfl, by simp [kidsP], by simp [kidsP], hpos, by first | rfl | trivial⟩
    case round =>
      obtain ⟨j, rfl, rfl, hoff, hj, rfl⟩ := hrel
      obtain ⟨y, hy⟩ : ∃ y, kids[j]? = some y := ⟨_, List.getElem?_eq_getElem hj⟩
      have c3 := HCE.out j y hy
      have hn := kidsP_snoc kids j y hy
      have hle := kidsP_take_le kids (j + 1)
      have hal : (kidsP kids).length = ps.length := by rw [← HALL.out]
      have hps := HP.out
      have hi1 := HI1.out
      have hat := kidsP_at kids j y hy i0 hoff
      rw [← HALL.out, HI.out] at hat
      have hlast : j + 1 = kids.length → i0 < (kidsP (kids.take (j + 1))).length := fun e => by rw [e, kidsP_take_all]; omega
      obtain ⟨u, hu⟩ : ∃ u, (kidsP (kids.take j)).length = u := ⟨_, rfl⟩
      rw [hu] at hn hoff hat ⊢
      have hji : (j : Int) < (kids.length : Int) := by omega
      have hym := List.mem_of_getElem? hy
      obtain ⟨r, hr⟩ : ∃ r, i0 - u = r := ⟨_, rfl⟩
      rw [hr] at hat ⊢
      by_cases hc : y.ps.length ≤ r
      · have hrel : ((r : Int) - (y.ps.length : Int)) = ((i0 - (kidsP (kids.take (j + 1))).length : Nat) : Int) := by omega
        have hj2 : j + 1 < kids.length := by
          rcases Nat.lt_or_ge (j + 1) kids.length with h | h
          · exact h
          · have := hlast (by omega); omega
        have HREL : Hid (((r : Int) - (y.ps.length : Int)) = ((i0 - (kidsP (kids.take (j + 1))).length : Nat) : Int) ∧ (kidsP (kids.take (j + 1))).length ≤ i0 ∧ j + 1 < kids.length) := Lib.hid ⟨hrel, by omega, hj2⟩
        have hc2 : (y.ps.length : Int) ≤ (r : Int) := by omega
        have hr2 : (r : Int) ≤ 1152921504606846976 := by omega
        have HJ := Lib.hid hj
        rcases wcount (HC.out.is y hym) with ⟨g', hv, hcc⟩ | ⟨g', hv, hcc⟩
        · rw [hv] at c3
          have CC := Lib.hid hcc
          unfold lp at c3
          clear hy hn hle hal hps hi1 hat hlast hu hym hr hrel hj2 hv hcc hoff
          go_wp2_with (go_at_call 95; refine CC.out.mono ?_; rintro e w1 ⟨rfl, hw⟩; replace hw := hw.symm; subst hw)
          go_roundw
          case rel => exact ⟨j + 1, by go_num, by rw [← HREL.out.1], HREL.out.2.1, HREL.out.2.2, by first | rfl | trivial⟩
          case measure => have := HJ.out; simp [intOf]; omega
        · rw [hv] at c3
          have CC := Lib.hid hcc
          unfold ip at c3
          clear hy hn hle hal hps hi1 hat hlast hu hym hr hrel hj2 hv hcc hoff
          go_wp2_with (go_at_call 96; refine CC.out.mono ?_; rintro e w1 ⟨rfl, hw⟩; replace hw := hw.symm; subst hw)
          go_roundw
          case rel => exact ⟨j + 1, by go_num, by rw [← HREL.out.1], HREL.out.2.1, HREL.out.2.2, by first | rfl | trivial⟩
          case measure => have := HJ.out; simp [intOf]; omega
      · have CG := Lib.hid (IH.out wr y.v y.ps y.m r k z (HC.out.is y hym) ((HF.out y hym).le ho) (by omega) (by rw [← hat (by omega)]))
        have hc2 : ¬ (y.ps.length : Int) ≤ (r : Int) := by omega
        have hc3 : (r : Int) < (y.ps.length : Int) := by omega
        rcases wcount (HC.out.is y hym) with ⟨g', hv, hcc⟩ | ⟨g', hv, hcc⟩
        · rw [hv] at c3 CG
          have CC := Lib.hid hcc
          unfold lp at c3 CG
          clear hy hn hle hal hps hi1 hat hlast hu hym hr hv hcc hoff
          go_wp2_with (first | (go_at_call 95; refine CC.out.mono ?_; rintro e w1 ⟨rfl, hw⟩; replace hw := hw.symm; subst hw) | (go_at_call 45; refine CG.out.mono ?_; rintro e w1 ⟨rfl, jj, rfl⟩))
          go_ret3
          exact ⟨rfl, ⟨_, rfl⟩⟩
        · rw [hv] at c3 CG
          have CC := Lib.hid hcc
          unfold ip at c3 CG
          clear hy hn hle hal hps hi1 hat hlast hu hym hr hv hcc hoff
          go_wp2_with (first | (go_at_call 96; refine CC.out.mono ?_; rintro e w1 ⟨rfl, hw⟩; replace hw := hw.symm; subst hw) | (go_at_call 45; refine CG.out.mono ?_; rintro e w1 ⟨rfl, jj, rfl⟩))
          go_ret3
          exact ⟨rfl, ⟨_, rfl⟩⟩
end Go.Proofs.Ytlhpoliiojekeaa
