/- Layer 9: the reference's coarsest. -/
import Derived.Test.YtcpifanhmkblmaaSiRef3
namespace Go.Proofs.Ytcpifanhmkblmaa
set_option maxRecDepth 100000
set_option maxRecDepth 100000
open Go.RowKit

def accP (L : List Nt) (j : Nat) : Option (Int × ByteArray) × Nat := (L.take j).foldl (coarsestStep L) (none, 1)
theorem acc_succ {L : List Nt} {j : Nat} {p : Nt} (hp : L[j]? = some p) : accP L (j + 1) = coarsestStep L (accP L j) p := by
  unfold accP
  rw [List.take_add_one, hp, Option.toList_some, List.foldl_append]
  rfl
/-- What the loop's two variables say. -/
def AccIs (L : List Nt) (acc : Option (Int × ByteArray) × Nat) (bv mv : Int) : Prop :=
  (acc = (none, 1) ∧ bv = -1 ∧ mv = 1) ∨ ∃ (b : Nat) (nb : Nt) (n : Nat), bv = (b : Int) ∧ L[b]? = some nb ∧ acc = (some (prP nb), n) ∧ mv = (n : Int) ∧ n ≤ L.length ∧ 2 ≤ n
theorem cntP_le (L : List Nt) (t : Int) (tb : ByteArray) : cntP L t tb ≤ L.length := by
  have := cnt_le L t tb L.length
  rwa [List.take_length] at this
theorem acc_new {L : List Nt} {acc : Option (Int × ByteArray) × Nat} {j : Nat} {p : Nt} (hp : L[j]? = some p) (h2 : ¬ cntP L p.1 p.2.tb < 2) (h3 : ¬ cntP L p.1 p.2.tb < acc.2) (h4 : acc.2 < cntP L p.1 p.2.tb ∨ (acc.1.elim false fun q => pairLt (p.1, p.2.tb) q) = true) :
    AccIs L (coarsestStep L acc p) (j : Int) (cntP L p.1 p.2.tb : Nat) := by
  unfold coarsestStep
  rw [if_neg (by omega), if_pos h4]
  exact .inr ⟨j, p, _, rfl, hp, rfl, rfl, cntP_le _ _ _, by omega⟩
theorem acc_skip {L : List Nt} {acc : Option (Int × ByteArray) × Nat} {p : Nt} (h : cntP L p.1 p.2.tb < 2 ∨ cntP L p.1 p.2.tb < acc.2) : coarsestStep L acc p = acc := by
  unfold coarsestStep
  rw [if_pos h]
theorem acc_keep {L : List Nt} {q : Int × ByteArray} {n : Nat} {p : Nt} (h3 : ¬ n < cntP L p.1 p.2.tb) (h4 : pairLt (p.1, p.2.tb) q = false) : coarsestStep L (some q, n) p = (some q, n) := by
  unfold coarsestStep
  split
  · rfl
  · rw [if_neg]
    rintro (h | h)
    · exact h3 h
    · simp only [Option.elim_some, h4] at h; cases h

/-- Which note coarsest tells. -/
def CoIs (L : List Nt) (bv : Int) : Prop := (coarsestP L = none ∧ bv = -1) ∨ ∃ (b : Nat) (nb : Nt), bv = (b : Int) ∧ L[b]? = some nb ∧ coarsestP L = some (prP nb)
set_option maxHeartbeats 32000000 in
theorem wrCoarsest {w : World} {A : Option Addr} {c : Nat} {L : List Nt} (h : SB w A (5 * L.length) (cellsT L)) (hn : L.length ≤ 4000000) :
    Calls Try.prog 39 #[.slice A L.length c] w fun e w' => (∃ bv : Int, e = .returned (.int .i64 bv) ∧ CoIs L bv) ∧ Below w.heap.size w w' := by
  have HS := Lib.hid h
  have HN := Lib.hid hn
  clear h hn
  go_enter Try.func39, Try.ntmps39
  go_upto_region 3 with fail
  go_loopw [3, 4, 5] (fun b' m' i' wr => ∃ (j : Nat) (bv mv : Int), i' = .int .i64 (j : Nat) ∧ j ≤ L.length ∧ b' = .int .i64 bv ∧ m' = .int .i64 mv ∧ AccIs L (accP L j) bv mv ∧ Below w.heap.size w wr) (fun _ _ i' _ => L.length - (intOf i').toNat)
  case atStart => exact ⟨0, -1, 1, rfl, Nat.zero_le _, rfl, rfl, .inl ⟨by simp [accP], rfl, rfl⟩, Below.refl _ _⟩
  case round =>
    rename World => wr
    obtain ⟨j, bv, mv, rfl, hj, rfl, rfl, hA, hb⟩ := hrel
    by_cases hlt : j < L.length
    · obtain ⟨p, hp⟩ : ∃ p, L[j]? = some p := ⟨_, List.getElem?_eq_getElem hlt⟩
      have HACC := acc_succ hp
      have HS2 := HS.out.gw hb
      have CC := Lib.hid (fun n => wrCount (c := c) (HS2.gw (below_drewN9 wr n)) HN.out p.1 p.2.tb)
      have NEW := Lib.hid (acc_new (acc := accP L j) hp)
      have SKIP := Lib.hid (acc_skip (L := L) (acc := accP L j) (p := p))
      have KEEP := Lib.hid (fun q n => acc_keep (L := L) (q := q) (n := n) (p := p))
      have CLE := cntP_le L p.1 p.2.tb
      obtain ⟨cn, hcn⟩ : ∃ cn, cntP L p.1 p.2.tb = cn := ⟨_, rfl⟩
      rw [hcn] at CC CLE NEW SKIP
      simp only [hcn] at KEEP
      obtain ⟨g, o, hAA, c0, c1, -, -, -⟩ := HS2.note hp
      subst hAA
      have HSB := Lib.hid HS2
      have i1 : (j : Int) < (L.length : Int) := by omega
      have l1 : (j : Int) ≤ 4000000 := by have := HN.out; omega
      have HLT := Lib.hid hlt
      have HB := Lib.hid hb
      have HAC := Lib.hid HACC
      clear hcn hp HS2 HACC hj hlt hb
      have k1 : (cn : Int) ≤ 4000000 := by have := HN.out; omega
      go_upto_region 5 with fail
      go_quiet ((go_at_call 59; (try simp only [World.drewN_drewN]); exact Calls.quiet_of_same (CC.out _)))
      by_cases h2 : cn < 2
      · have i2 : (cn : Int) < 2 := by omega
        go_wp2
        go_roundw
        case rel => exact ⟨j + 1, _, _, by go_num, HLT.out, rfl, rfl, by rw [HAC.out, SKIP.out (.inl h2)]; exact hA, below_next HB.out (below_drewN9 _ _)⟩
        case measure => have := HLT.out; simp [intOf]; omega
      · have i2 : ¬ (cn : Int) < 2 := by omega
        rcases hA with ⟨ha, rfl, rfl⟩ | ⟨b, nb, n, rfl, hnb, ha, rfl, hnl, hn2⟩
        · have i3 : ¬ (cn : Int) < 1 := by omega
          have i4 : (1 : Int) < (cn : Int) := by omega
          have HNX := Lib.hid (NEW.out h2 (by rw [ha]; simp; omega) (.inl (by rw [ha]; simp; omega)))
          clear ha NEW SKIP KEEP h2
          go_upto_region 7 with fail
          go_quiet (fail)
          go_wp2
          go_roundw
          case rel => exact ⟨j + 1, _, _, by go_num, HLT.out, rfl, rfl, by rw [HAC.out]; exact HNX.out, below_next HB.out (below_drewN9 _ _)⟩
          case measure => have := HLT.out; simp [intOf]; omega
        · have n1 : (n : Int) ≤ 4000000 := by have := HN.out; omega
          by_cases h3 : cn < n
          · have i3 : (cn : Int) < (n : Int) := by omega
            have HNX := Lib.hid (show AccIs L (accP L (j + 1)) (b : Int) (n : Int) by rw [HAC.out, SKIP.out (.inr (by rw [ha]; exact h3)), ha]; exact .inr ⟨b, nb, n, rfl, hnb, rfl, rfl, hnl, hn2⟩)
            clear ha NEW SKIP KEEP h2 h3 hnb
            go_wp2
            go_roundw
            case rel => exact ⟨j + 1, _, _, by go_num, HLT.out, rfl, rfl, HNX.out, below_next HB.out (below_drewN9 _ _)⟩
            case measure => have := HLT.out; simp [intOf]; omega
          · have i3 : ¬ (cn : Int) < (n : Int) := by omega
            by_cases h4 : n < cn
            · have i4 : (n : Int) < (cn : Int) := by omega
              have HNX := Lib.hid (NEW.out h2 (by rw [ha]; exact h3) (.inl (by rw [ha]; exact h4)))
              clear ha NEW SKIP KEEP h2 h3 h4 hnb
              go_upto_region 7 with fail
              go_quiet (fail)
              go_wp2
              go_roundw
              case rel => exact ⟨j + 1, _, _, by go_num, HLT.out, rfl, rfl, by rw [HAC.out]; exact HNX.out, below_next HB.out (below_drewN9 _ _)⟩
              case measure => have := HLT.out; simp [intOf]; omega
            · have i4 : ¬ (n : Int) < (cn : Int) := by omega
              obtain ⟨g2, o2, e2, d0, d1, -, -, -⟩ := HSB.out.note hnb
              cases e2
              have b1 : (b : Int) < (L.length : Int) := by have := (List.getElem?_eq_some_iff.1 hnb).1; omega
              have b2 : (b : Int) ≤ 4000000 := by have := HN.out; omega
              have b3 : 0 ≤ (b : Int) := by omega
              have HKN := Lib.hid (show pairLt (prP p) (prP nb) = false → AccIs L (accP L (j + 1)) (b : Int) (n : Int) from fun hlt' => by
                rw [HAC.out, ha, KEEP.out (prP nb) n h4 hlt']; exact .inr ⟨b, nb, n, rfl, hnb, rfl, rfl, hnl, hn2⟩)
              have HYN := Lib.hid (show pairLt (prP p) (prP nb) = true → AccIs L (accP L (j + 1)) (j : Int) (cn : Int) from fun hlt' => by
                rw [HAC.out]; exact NEW.out h2 (by rw [ha]; exact h3) (.inr (by rw [ha]; exact hlt')))
              clear ha NEW SKIP KEEP h2 h3 h4 hnb
              obtain ⟨pt, px⟩ := p
              obtain ⟨bt, bx⟩ := nb
              dsimp only at c0 c1 d0 d1
              unfold prP pairLt at HKN HYN
              dsimp only at HKN HYN
              by_cases h5 : pt < bt
              · have HNX := Lib.hid (HYN.out (by simp [h5]))
                clear HKN HYN
                go_upto_region 7 with fail
                go_quiet (fail)
                go_wp2
                go_roundw
                case rel => exact ⟨j + 1, _, _, by go_num, HLT.out, rfl, rfl, HNX.out, below_next HB.out (below_drewN9 _ _)⟩
                case measure => have := HLT.out; simp [intOf]; omega
              · by_cases h6 : pt = bt
                · subst h6
                  cases h7 : Op.bytesLess px.tb.toList bx.tb.toList
                  · have HNX := Lib.hid (HKN.out (by simp [show klB px.tb bx.tb = false from h7]))
                    clear HKN HYN
                    go_upto_region 7 with fail
                    go_quiet (fail)
                    go_wp2
                    go_roundw
                    case rel => exact ⟨j + 1, _, _, by go_num, HLT.out, rfl, rfl, HNX.out, below_next HB.out (below_drewN9 _ _)⟩
                    case measure => have := HLT.out; simp [intOf]; omega
                  · have HNX := Lib.hid (HYN.out (by simp [show klB px.tb bx.tb = true from h7]))
                    clear HKN HYN
                    go_upto_region 7 with fail
                    go_quiet (fail)
                    go_wp2
                    go_roundw
                    case rel => exact ⟨j + 1, _, _, by go_num, HLT.out, rfl, rfl, HNX.out, below_next HB.out (below_drewN9 _ _)⟩
                    case measure => have := HLT.out; simp [intOf]; omega
                · have h6' : (pt == bt) = false := by simpa using h6
                  have HNX := Lib.hid (HKN.out (by simp [h5, h6]))
                  clear HKN HYN
                  go_upto_region 7 with fail
                  go_quiet (fail)
                  go_wp2
                  go_roundw
                  case rel => exact ⟨j + 1, _, _, by go_num, HLT.out, rfl, rfl, HNX.out, below_next HB.out (below_drewN9 _ _)⟩
                  case measure => have := HLT.out; simp [intOf]; omega
    · obtain rfl : j = L.length := by omega
      have i1 : ¬ (L.length : Int) < (L.length : Int) := by omega
      have HB := Lib.hid hb
      have HE := Lib.hid (show CoIs L bv by
        have e : (accP L L.length).1 = coarsestP L := by unfold accP coarsestP; rw [List.take_length]
        rcases hA with ⟨ha, rfl, -⟩ | ⟨b, nb, n, rfl, hnb, ha, -⟩
        · exact .inl ⟨by rw [← e, ha], rfl⟩
        · exact .inr ⟨b, nb, rfl, hnb, by rw [← e, ha]⟩)
      clear hA hb hlt hj
      go_wp2
      go_ret
      exact ⟨⟨_, rfl, HE.out⟩, HB.out⟩
end Go.Proofs.Ytcpifanhmkblmaa
