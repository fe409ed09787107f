/- The reference's Read. -/
import Derived.Test.YtapjgancaldgaaaRCrash
namespace Go.Proofs.Ytapjgancaldgaaa
set_option maxRecDepth 100000
open Go.RowKit

/-- What the reference's Read leaves. -/
def RReadIs (w : World) (r : List Int × Int) (e : Ending) (w' : World) : Prop :=
  (r.2 ≠ 0 ∧ r.1 = [] ∧ e = .returned (.tuple #[.slice none 0 0, .int .i64 r.2]) ∧ w = w') ∨
  (r.2 = 0 ∧ ∃ cap, e = .returned (.tuple #[.slice (some ⟨w.heap.size, 0, none⟩) 64 cap, .int .i64 0]) ∧ 64 ≤ cap ∧ RB w' (some ⟨w.heap.size, 0, none⟩) 64 r.1 ∧ Below w.heap.size w w')

set_option maxHeartbeats 2000000 in
theorem rread {F : Nat → Prop} {w : World} {p : Nat} {S : St} (h : RD F w p S) (n : Int) (hm : S.pend.length < 2199023255552) :
    Calls Try.prog 60 #[.pointer (some ⟨p, 0, none⟩), .int .i64 n] w (RReadIs w (readB S n)) := by
  obtain ⟨vs, gd, cd, gt, ct, vw, h⟩ := h
  have c0 := h.cell 0
  have c1 := h.cell 1
  have c3 := h.cell 3
  have c4 := h.cell 4
  have c5 := h.cell 5
  obtain ⟨Ap, capp, rfl⟩ := h.wait.form
  by_cases ho : S.off = true
  · have hr : readB S n = ([], 22) := by unfold readB; rw [if_pos ho]
    rw [hr]
    rw [ho] at c1
    clear h ho hr
    go_enter Try.func60, Try.ntmps60
    go_wp2
    go_ret2
    exact .inl ⟨by decide, rfl, rfl, rfl⟩
  · have ho2 : S.off = false := by simpa using ho
    rw [ho2] at c1
    clear ho2
    by_cases hp : 0 ≤ n ∧ n < (S.last.length : Int)
    · obtain ⟨k, rfl⟩ := Int.eq_ofNat_of_zero_le hp.1
      have hk : k < S.last.length := by omega
      obtain ⟨cc, hcc⟩ : ∃ cc, S.last[k]? = some cc := ⟨_, List.getElem?_eq_getElem hk⟩
      have hb : readB S (k : Int) = (match lastW S.pend k with | some zs => (zs, 0) | none => if cc.t then ([], 23) else (cc.b, 0)) := by
        unfold readB
        rw [if_neg ho, if_neg (not_not_intro hp), Int.toNat_natCast, hcc]
        cases lastW S.pend k <;> rfl
      obtain ⟨t1, t2⟩ := h.tornAt hcc
      obtain ⟨gb, capb, hv, hcapb, rbb, -, -, -⟩ := h.at_ k cc hcc
      obtain ⟨v1, v2⟩ := h.dataAt hv
      have HB := Lib.hid hb
      have H := Lib.hid h
      have RBB := Lib.hid rbb
      have hki : (k : Int) < (S.last.length : Int) := by omega
      have hkd : decide ((S.last.length : Int) ≤ (k : Int)) = false := by simp; omega
      clear h ho hp hb hcc hv rbb t2 v2
      go_enter Try.func60, Try.ntmps60
      go_wp2
      go_loopw [6] (fun i wr => ∃ j : Nat, i = .int .i64 ((j : Int) - 1) ∧ j ≤ S.pend.length ∧ w = wr ∧ ∀ (q : Nat) (y : Wr), j ≤ q → S.pend[q]? = some y → y.p ≠ k) (fun i _ => (intOf i + 1).toNat)
      case atStart => exact ⟨S.pend.length, rfl, Nat.le_refl _, rfl, fun q y hq hy => by have := (List.getElem?_eq_some_iff.1 hy).1; omega⟩
      case round =>
        obtain ⟨j, rfl, hj, rfl, hno⟩ := hrel
        by_cases hj0 : 0 < j
        · obtain ⟨x, hx⟩ : ∃ x, S.pend[j - 1]? = some x := ⟨_, List.getElem?_eq_getElem (by omega)⟩
          obtain ⟨g, cap, hgv, hgl, hgF, -, -, -, hrow⟩ := H.out.wait.row (by intro e; rw [e] at hj; simp at hj; omega)
          injection hgv with hg1 hg2 hg3
          subst hg1
          subst hg3
          obtain ⟨bx, cb, p1, p2, hcb, rb, -, -, -, -, -⟩ := hrow (j - 1) x hx
          obtain ⟨i, rfl⟩ : ∃ i, j = i + 1 := ⟨j - 1, by omega⟩
          rw [Nat.add_sub_cancel] at p1 p2 hx
          have e1 : ((i + 1 : Nat) : Int) - 1 = (i : Int) := by omega
          have hii : (i : Int) < (S.pend.length : Int) := by omega
          rw [e1]
          have HNO := Lib.hid hno
          have HX := Lib.hid hx
          have RBX := Lib.hid rb
          clear hno hx hrow rb e1
          by_cases hpk : x.p = k
          · have hbr : readB S (k : Int) = (x.b, 0) := by
              rw [HB.out, lastW_some HX.out hpk (fun q y hq hy => HNO.out q y (by omega) hy)]
            have HBR := Lib.hid hbr
            rw [hpk] at p1
            clear hpk hbr
            go_wp2_with (go_at_call 70; refine (rcopied w _ cb x.b RBX.out).mono ?_; rintro e w3 ⟨cap3, rfl, hc3, rb3, b3, -⟩; have RB3 := Lib.hid rb3; have B3 := Lib.hid b3; clear rb3 b3)
            go_ret2
            rw [HBR.out]
            exact .inr ⟨rfl, cap3, rfl, hc3, RB3.out, B3.out⟩
          · have HPK := Lib.hid hpk
            have hpk2 : ((x.p : Int) == (k : Int)) = false := by simpa using (show ¬ (x.p : Int) = (k : Int) by omega)
            clear hpk
            go_wp2
            go_roundw
            case rel => exact ⟨i, by go_num, by omega, by first | rfl | trivial, fun q y hq hy => by
              rcases Nat.lt_or_ge i q with h1 | h1
              · exact HNO.out q y (by omega) hy
              · have : q = i := by omega
                subst this
                rw [HX.out] at hy
                cases hy
                exact HPK.out⟩
            case measure => simp [intOf]
        · obtain rfl : j = 0 := by omega
          have hl : lastW S.pend k = none := lastW_none (fun y hy => by
            obtain ⟨q, hq⟩ := List.getElem?_of_mem hy
            exact hno q y (Nat.zero_le _) hq)
          have hb2 := HB.out
          rw [hl] at hb2
          simp only at hb2
          have HB2 := Lib.hid hb2
          clear hb2 hl hno
          rw [show ((0 : Nat) : Int) - 1 = -1 by rfl]
          cases htc : cc.t with
          | true =>
            rw [htc] at t1
            have HT := Lib.hid htc
            clear htc
            go_wp2
            go_ret2
            rw [HB2.out, HT.out]
            exact .inl ⟨by simp, rfl, rfl, rfl⟩
          | false =>
            rw [htc] at t1
            have HT := Lib.hid htc
            clear htc
            go_wp2_with (go_at_call 70; refine (rcopied w _ capb cc.b RBB.out).mono ?_; rintro e w3 ⟨cap3, rfl, hc3, rb3, b3, -⟩; have RB3 := Lib.hid rb3; have B3 := Lib.hid b3; clear rb3 b3)
            go_ret2
            rw [HB2.out, HT.out]
            exact .inr ⟨rfl, cap3, rfl, hc3, RB3.out, B3.out⟩
    · have hr : readB S n = ([], 20) := by unfold readB; rw [if_neg ho, if_pos hp]
      rw [hr]
      clear h ho hr
      have hrest : n < 0 ∨ (¬ n < 0 ∧ (S.last.length : Int) ≤ n) := by omega
      go_enter Try.func60, Try.ntmps60
      rcases hrest with h1 | ⟨h1, h2⟩
      · clear hp
        go_wp2
        go_ret2
        exact .inl ⟨by decide, rfl, rfl, rfl⟩
      · have h3 : decide (n < 0) = false := by simp; omega
        clear hp
        go_wp2
        go_ret2
        exact .inl ⟨by decide, rfl, rfl, rfl⟩
end Go.Proofs.Ytapjgancaldgaaa
