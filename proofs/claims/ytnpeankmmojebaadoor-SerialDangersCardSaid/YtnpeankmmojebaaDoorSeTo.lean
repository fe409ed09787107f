/- Layer 11: the reference's Two. -/
import Derived.Test.YtnpeankmmojebaaDoorSeSs
import Derived.Laws.StructEq
set_option linter.unusedVariables false
namespace Go.Proofs.YtnpeankmmojebaaDoor
set_option maxRecDepth 100000
open Go.RowKit

section
variable {w : World} {A B oA : Option Addr} {n c m d on oc : Nat} {cs l : List Int} {ac : List Ac}
/-- At a place of a round, both dependencies can be antidependencies. -/
def TwoP (GR : List Dp) (l : List Int) (on i : Nat) : Prop := ∀ a b c, l[i]? = some a → l[(i + 1) % on]? = some b → l[(i + 2) % on]? = some c → (⟨a, b, 3⟩ : Dp) ∈ GR ∧ (⟨b, c, 3⟩ : Dp) ∈ GR
theorem mem_next {GR : List Dp} {j : Nat} {y z : Dp} (h : GR[j]? = some y) : z ∈ GR.take (j + 1) ↔ z ∈ GR.take j ∨ z = y := by
  rw [List.take_add_one, h, Option.toList_some, List.mem_append, List.mem_singleton]
set_option maxHeartbeats 64000000 in
theorem wrTwo (h : Hist w A n c B m d cs ac) (hR : Right cs ac) (hs : SB w oA on (numC l)) (hl : l.length = on) (hon : on ≤ 4096) {i0 : Nat} (hi0 : i0 < on) (hex : TwoP (graphP cs ac) l on i0) :
    Calls Tryd.prog 15 #[histV A n c B m d, .slice oA on oc] w fun e w' => e = .returned (.bool true) ∧ Below w.heap.size w w' := by
  obtain ⟨W0, hB⟩ := h.box
  have HB := Lib.hid hB
  have HW := Lib.hid hB.eq
  have x0 := hB.x0
  have x1 := hB.x1
  have hn : n ≤ 4096 := by rw [← h.cl]; exact hR.lc
  have hm : m ≤ 4096 := by rw [← h.al]; exact hR.la
  have CG := Lib.hid (wrGraph hB.h hn hm)
  have HGL := Lib.hid (show (graphP cs ac).length ≤ 8192 by
    have h1 := graph_len cs ac ac []
    have h2 := hR.la
    simp only [List.length_nil] at h1
    unfold graphP; omega)
  obtain ⟨GR, hGR⟩ : ∃ g, graphP cs ac = g := ⟨_, rfl⟩
  rw [hGR] at CG HGL hex
  have HS := Lib.hid (hs.gw hB.below)
  have HL := Lib.hid hl
  have HON := Lib.hid hon
  have HEX := Lib.hid (And.intro hi0 hex)
  unfold histV at CG ⊢
  clear h hB hR hn hm hs hl hon hi0 hex hGR
  go_enter Tryd.func15, Tryd.ntmps15
  go_upto_region 1 with fail
  rw [HW.out]
  go_upto_region 2 with (go_at_call 29; go_loud (refine CG.out.mono ?_; rintro e w1 ⟨v1, rfl, dl1, b1⟩; have B1 := Lib.hid b1; have DL1 := Lib.hid dl1; clear b1 dl1))
  clear x0 x1
  obtain ⟨gA, gc, rfl, hg, -, -⟩ := DL1.out
  have HG := Lib.hid hg
  obtain ⟨q, hq⟩ : ∃ q, GR.length = q := ⟨_, rfl⟩
  have HQ := Lib.hid hq
  rw [hq] at HGL
  simp only [hq]
  clear hg hq DL1
  go_upto_region 4 with fail
  go_loopw [7] (fun i wr => ∃ j : Nat, i = .int .i64 (j : Nat) ∧ j ≤ on ∧ j ≤ i0 ∧ Below w1.heap.size w1 wr) (fun i _ => on - (intOf i).toNat)
  case atStart => exact ⟨0, rfl, Nat.zero_le _, Nat.zero_le _, Below.refl _ _⟩
  case round =>
    rename World => wr
    obtain ⟨j, rfl, hj, hji, hb⟩ := hrel
    have hlt : j < on := by have := HEX.out.1; omega
    have HBL := Lib.hid hb
    have HSW := Lib.hid ((HS.out.gw B1.out).gw hb)
    have on4 : (on : Int) ≤ 4096 := by have := HON.out; omega
    have i1 : (j : Int) < (on : Int) := by omega
    obtain ⟨p1, hp1⟩ : ∃ p, (j + 1) % on = p := ⟨_, rfl⟩
    obtain ⟨p2, hp2⟩ : ∃ p, (j + 2) % on = p := ⟨_, rfl⟩
    have hp1l : p1 < on := by rw [← hp1]; exact Nat.mod_lt _ (by omega)
    have hp2l : p2 < on := by rw [← hp2]; exact Nat.mod_lt _ (by omega)
    obtain ⟨a, ha⟩ : ∃ x, l[j]? = some x := ⟨_, List.getElem?_eq_getElem (by rw [HL.out]; exact hlt)⟩
    obtain ⟨b, hb1⟩ : ∃ x, l[p1]? = some x := ⟨_, List.getElem?_eq_getElem (by rw [HL.out]; exact hp1l)⟩
    obtain ⟨c', hc1⟩ : ∃ x, l[p2]? = some x := ⟨_, List.getElem?_eq_getElem (by rw [HL.out]; exact hp2l)⟩
    obtain ⟨g, o, rfl, u0⟩ := HSW.out.num ha
    obtain ⟨g', o', e1, u1⟩ := HSW.out.num hb1
    cases e1
    obtain ⟨g', o', e2, u2⟩ := HSW.out.num hc1
    cases e2
    have ep1 : ((j : Int) + 1) % (on : Int) = (p1 : Int) := by rw [← hp1, Int.natCast_emod, Int.natCast_add]; rfl
    have ep2 : ((j : Int) + 2) % (on : Int) = (p2 : Int) := by rw [← hp2, Int.natCast_emod, Int.natCast_add]; rfl
    have q1 : (p1 : Int) < (on : Int) := by omega
    have q2 : (p2 : Int) < (on : Int) := by omega
    have i0' : ¬ (on : Int) = 0 := by omega
    have HIJ := Lib.hid (show ¬ ((⟨a, b, 3⟩ : Dp) ∈ GR ∧ (⟨b, c', 3⟩ : Dp) ∈ GR) → j + 1 ≤ i0 from fun hno => by
      refine Nat.lt_of_le_of_ne hji fun e => hno ?_
      subst e
      exact HEX.out.2 a b c' ha (by rw [hp1]; exact hb1) (by rw [hp2]; exact hc1))
    have HLT := Lib.hid hlt
    clear hj hji hb hlt hp1 hp2 hp1l hp2l ha hb1 hc1
    go_upto_region 6 with fail
    go_region
    clear u0 u1 u2 ep1 ep2
    go_upto_region 9 with fail
    go_loopw [11, 12, 13] (fun f s i wy => ∃ k : Nat, i = .int .i64 (k : Nat) ∧ f = .bool (decide ((⟨a, b, 3⟩ : Dp) ∈ GR.take k)) ∧ s = .bool (decide ((⟨b, c', 3⟩ : Dp) ∈ GR.take k)) ∧ k ≤ q ∧ wy = wr.drew) (fun _ _ i _ => q - (intOf i).toNat)
    case atStart => exact ⟨0, rfl, by simp, by simp, Nat.zero_le _, rfl⟩
    case round =>
      rename World => wy
      obtain ⟨k, rfl, rfl, rfl, hk, rfl⟩ := hrel
      by_cases hlk : k < q
      · obtain ⟨y, hy⟩ : ∃ y, GR[k]? = some y := ⟨_, List.getElem?_eq_getElem (by rw [HQ.out]; exact hlk)⟩
        obtain ⟨g3, o3, rfl, c0, c1', c2⟩ := DL.at_ (HG.out.gw (HBL.out.trans ((below_drew11 wr).mono HBL.out.size))) hy
        have j1 : (k : Int) < (q : Int) := by omega
        have j2 : (k : Int) ≤ 8192 := by have := HGL.out; omega
        have HKQ := Lib.hid hlk
        obtain ⟨yf, yt, yk⟩ := y
        have HY := Lib.hid hy
        dsimp only at c0 c1' c2
        clear hk hlk hy
        go_upto_region 11 with fail
        go_cut [11] (fun v wx => v = .bool (decide ((⟨a, b, 3⟩ : Dp) ∈ GR.take (k + 1))) ∧ wx = wr.drew)
        case first =>
          cases hm : decide ((⟨a, b, 3⟩ : Dp) ∈ GR.take k) with
          | true =>
            have HN := Lib.hid (show decide ((⟨a, b, 3⟩ : Dp) ∈ GR.take (k + 1)) = true by
              rw [decide_eq_true_eq] at hm ⊢
              exact (mem_next HY.out).2 (.inl hm))
            clear hm
            go_wp2
            go_meet
            exact ⟨by rw [HN.out], rfl⟩
          | false =>
            by_cases f1 : yf = a
            · by_cases f2 : yt = b
              · by_cases f3 : yk = 3
                · have HN := Lib.hid (show decide ((⟨a, b, 3⟩ : Dp) ∈ GR.take (k + 1)) = true by
                    rw [decide_eq_true_eq]
                    exact (mem_next HY.out).2 (.inr (by rw [f1, f2, f3])))
                  subst f1 f2 f3
                  clear hm
                  go_wp2
                  go_meet
                  exact ⟨by rw [HN.out], rfl⟩
                · have HN := Lib.hid (show decide ((⟨a, b, 3⟩ : Dp) ∈ GR.take (k + 1)) = false by
                    rw [decide_eq_false_iff_not] at hm ⊢
                    intro k
                    rcases (mem_next HY.out).1 k with k | k
                    · exact hm k
                    · cases k; exact f3 rfl)
                  have e3 : (yk == 3) = false := by simpa using f3
                  subst f1 f2
                  clear hm
                  go_wp2
                  go_meet
                  exact ⟨by rw [HN.out], rfl⟩
              · have HN := Lib.hid (show decide ((⟨a, b, 3⟩ : Dp) ∈ GR.take (k + 1)) = false by
                  rw [decide_eq_false_iff_not] at hm ⊢
                  intro k
                  rcases (mem_next HY.out).1 k with k | k
                  · exact hm k
                  · cases k; exact f2 rfl)
                have e2 : (yt == b) = false := by simpa using f2
                subst f1
                clear hm
                go_wp2
                go_meet
                exact ⟨by rw [HN.out], rfl⟩
            · have HN := Lib.hid (show decide ((⟨a, b, 3⟩ : Dp) ∈ GR.take (k + 1)) = false by
                rw [decide_eq_false_iff_not] at hm ⊢
                intro k
                rcases (mem_next HY.out).1 k with k | k
                · exact hm k
                · cases k; exact f1 rfl)
              have e1 : (yf == a) = false := by simpa using f1
              clear hm
              go_wp2
              go_meet
              exact ⟨by rw [HN.out], rfl⟩
        case rest =>
          obtain ⟨hv, rfl⟩ := hcut
          obtain ⟨v1, hv1⟩ : ∃ v, decide ((⟨a, b, 3⟩ : Dp) ∈ GR.take (k + 1)) = v := ⟨_, rfl⟩
          rw [hv1] at hv
          subst hv
          have HV := Lib.hid hv1
          clear hv1
          cases hm : decide ((⟨b, c', 3⟩ : Dp) ∈ GR.take k) with
          | true =>
            have HN := Lib.hid (show decide ((⟨b, c', 3⟩ : Dp) ∈ GR.take (k + 1)) = true by
              rw [decide_eq_true_eq] at hm ⊢
              exact (mem_next HY.out).2 (.inl hm))
            clear hm
            go_wp2
            go_roundw
            case rel => exact ⟨k + 1, by go_num, by rw [HV.out], by rw [HN.out], HKQ.out, by first | rfl | trivial⟩
            case measure => have := HKQ.out; simp [intOf]; omega
          | false =>
            by_cases f1 : yf = b
            · by_cases f2 : yt = c'
              · by_cases f3 : yk = 3
                · have HN := Lib.hid (show decide ((⟨b, c', 3⟩ : Dp) ∈ GR.take (k + 1)) = true by
                    rw [decide_eq_true_eq]
                    exact (mem_next HY.out).2 (.inr (by rw [f1, f2, f3])))
                  subst f1 f2 f3
                  clear hm
                  go_wp2
                  go_roundw
                  case rel => exact ⟨k + 1, by go_num, by rw [HV.out], by rw [HN.out], HKQ.out, by first | rfl | trivial⟩
                  case measure => have := HKQ.out; simp [intOf]; omega
                · have HN := Lib.hid (show decide ((⟨b, c', 3⟩ : Dp) ∈ GR.take (k + 1)) = false by
                    rw [decide_eq_false_iff_not] at hm ⊢
                    intro k
                    rcases (mem_next HY.out).1 k with k | k
                    · exact hm k
                    · cases k; exact f3 rfl)
                  have e3 : (yk == 3) = false := by simpa using f3
                  subst f1 f2
                  clear hm
                  go_wp2
                  go_roundw
                  case rel => exact ⟨k + 1, by go_num, by rw [HV.out], by rw [HN.out], HKQ.out, by first | rfl | trivial⟩
                  case measure => have := HKQ.out; simp [intOf]; omega
              · have HN := Lib.hid (show decide ((⟨b, c', 3⟩ : Dp) ∈ GR.take (k + 1)) = false by
                  rw [decide_eq_false_iff_not] at hm ⊢
                  intro k
                  rcases (mem_next HY.out).1 k with k | k
                  · exact hm k
                  · cases k; exact f2 rfl)
                have e2 : (yt == c') = false := by simpa using f2
                subst f1
                clear hm
                go_wp2
                go_roundw
                case rel => exact ⟨k + 1, by go_num, by rw [HV.out], by rw [HN.out], HKQ.out, by first | rfl | trivial⟩
                case measure => have := HKQ.out; simp [intOf]; omega
            · have HN := Lib.hid (show decide ((⟨b, c', 3⟩ : Dp) ∈ GR.take (k + 1)) = false by
                rw [decide_eq_false_iff_not] at hm ⊢
                intro k
                rcases (mem_next HY.out).1 k with k | k
                · exact hm k
                · cases k; exact f1 rfl)
              have e1 : (yf == b) = false := by simpa using f1
              clear hm
              go_wp2
              go_roundw
              case rel => exact ⟨k + 1, by go_num, by rw [HV.out], by rw [HN.out], HKQ.out, by first | rfl | trivial⟩
              case measure => have := HKQ.out; simp [intOf]; omega
      · obtain rfl : k = q := by omega
        have j1 : ¬ (k : Int) < (k : Int) := by omega
        have HT : GR.take k = GR := by rw [← HQ.out, List.take_length]
        rw [HT]
        have BD := Lib.hid (HBL.out.trans ((below_drew11 wr).mono HBL.out.size))
        cases m1 : decide ((⟨a, b, 3⟩ : Dp) ∈ GR) with
        | true =>
          cases m2 : decide ((⟨b, c', 3⟩ : Dp) ∈ GR) with
          | true =>
            clear hk hlk HT m1 m2
            go_wp2
            go_ret
            exact ⟨rfl, below_next (below_next HB.out.below B1.out) BD.out⟩
          | false =>
            have HI := Lib.hid (HIJ.out fun k => by rw [decide_eq_false_iff_not] at m2; exact m2 k.2)
            clear hk hlk HT m1 m2
            go_wp2
            go_roundw
            case rel => exact ⟨j + 1, by go_num, HLT.out, HI.out, BD.out⟩
            case measure => have := HLT.out; simp [intOf]; omega
        | false =>
          have HI := Lib.hid (HIJ.out fun k => by rw [decide_eq_false_iff_not] at m1; exact m1 k.1)
          clear hk hlk HT m1
          go_wp2
          go_roundw
          case rel => exact ⟨j + 1, by go_num, HLT.out, HI.out, BD.out⟩
          case measure => have := HLT.out; simp [intOf]; omega
end
end Go.Proofs.YtnpeankmmojebaaDoor
