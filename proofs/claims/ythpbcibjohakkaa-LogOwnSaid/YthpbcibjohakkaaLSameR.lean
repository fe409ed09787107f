/- The reference's Same, of equal records that lie anywhere. -/
import Derived.Test.YthpbcibjohakkaaLScrib
import Derived.Test.YthpbcibjohakkaaLRecOpen
namespace Go.Proofs.Ythpbcibjohakkaa
set_option maxRecDepth 100000
set_option maxRecDepth 100000
open Go.RowKit

/-- Records that can be read from an address on. -/
structure RecR (w : World) (A : Option Addr) (rs : List (List Int)) : Prop where
  spot : 0 < rs.length → ∃ b o, A = some ⟨b, o, none⟩
  at_ : ∀ (b o i : Nat) (r : List Int), A = some ⟨b, o, none⟩ → rs[i]? = some r → ∃ B c, w.cell? ⟨b, o + i, none⟩ = some (.slice B r.length c) ∧ RB w B r.length r
theorem RecR.drewN {w : World} {A : Option Addr} {rs : List (List Int)} (h : RecR w A rs) (m : Nat) : RecR (w.drewN m) A rs := ⟨h.spot, fun b o i r e hr => by
  obtain ⟨B, c, h1, h2⟩ := h.at_ b o i r e hr
  exact ⟨B, c, h1, h2.drewN m⟩⟩
theorem Recs.recR {G : Nat → Prop} {w : World} {base : Nat} {A : Option Addr} {cap : Nat} {rs : List (List Int)} {vs : List Value} (h : Recs G w base (.slice A rs.length cap) rs vs) : RecR w A rs := by
  refine ⟨fun hp => ?_, fun b o i r e hr => ?_⟩
  · obtain ⟨A', c', hf, hA⟩ := h.form
    injection hf with e1
    subst e1
    obtain ⟨g, rfl⟩ := hA hp
    exact ⟨g, 0, rfl⟩
  · subst e
    have hi := (List.getElem?_eq_some_iff.1 hr).1
    obtain ⟨A', c', hf, hA⟩ := h.form
    injection hf with e1
    subst e1
    obtain ⟨g, e2⟩ := hA (by omega)
    injection e2 with e2
    injection e2 with e3 e4
    subst e3
    subst e4
    obtain ⟨B, c, e5, -, -, hrb, -⟩ := h.at_ i r hr
    exact ⟨B, c, by rw [Nat.zero_add, h.own.cellAt i (by omega)]; exact e5, hrb⟩
/-- From a place on. -/
theorem RecR.drop {w : World} {b o : Nat} {rs : List (List Int)} (h : RecR w (some ⟨b, o, none⟩) rs) (k : Nat) : RecR w (some ⟨b, o + k, none⟩) (rs.drop k) := by
  refine ⟨fun _ => ⟨b, o + k, rfl⟩, fun b' o' i r e hr => ?_⟩
  injection e with e
  injection e with e1 e2
  subst e1
  subst e2
  rw [List.getElem?_drop] at hr
  obtain ⟨B, c, h1, h2⟩ := h.at_ b o (k + i) r rfl hr
  exact ⟨B, c, by rw [Nat.add_assoc]; exact h1, h2⟩
theorem RecR.nil (w : World) (A : Option Addr) : RecR w A [] := ⟨fun h => by simp at h, fun _ _ i r _ hr => by simp at hr⟩

set_option maxHeartbeats 2000000 in
theorem rsameR (w : World) {A B : Option Addr} {rs : List (List Int)} (n ca cb : Nat) (h1 : RecR w A rs) (h2 : RecR w B rs) (hl : rs.length = n) (hn : n ≤ 140737488355328) :
    Calls Try.prog 27 #[.slice A n ca, .slice B n cb] w fun e w' => e = .returned (.bool true) ∧ ∃ m, w' = w.drewN m := by
  have H1 := Lib.hid h1
  have H2 := Lib.hid h2
  have HN := Lib.hid hl
  clear h1 h2 hl
  go_enter Try.func27, Try.ntmps27
  go_wp2
  go_loopw [5] (fun i wr => ∃ k m : Nat, i = .int .i64 (k : Nat) ∧ k ≤ n ∧ wr = w.drewN m) (fun i _ => n - (intOf i).toNat)
  case atStart => exact ⟨0, 0, rfl, Nat.zero_le _, rfl⟩
  case round =>
    obtain ⟨k, m, rfl, hk, hm⟩ := hrel
    by_cases hlt : k < n
    · obtain ⟨r, hr⟩ : ∃ r, rs[k]? = some r := ⟨_, List.getElem?_eq_getElem (by rw [HN.out]; exact hlt)⟩
      obtain ⟨b1, o1, rfl⟩ := H1.out.spot (by rw [HN.out]; omega)
      obtain ⟨b2, o2, rfl⟩ := H2.out.spot (by rw [HN.out]; omega)
      have R1 := H1.out.drewN m
      have R2 := H2.out.drewN m
      rw [← hm] at R1 R2
      obtain ⟨X, cx, c1, rb1⟩ := R1.at_ b1 o1 k r rfl hr
      obtain ⟨Y, cy, c2, rb2⟩ := R2.at_ b2 o2 k r rfl hr
      have s1 := fun m => rb_str (rb1.drewN m) cx
      have s2 := fun m => rb_str (rb2.drewN m) cy
      have hki : (k : Int) < (n : Int) := by omega
      have HM := Lib.hid hm
      have HLT := Lib.hid hlt
      clear R1 R2 rb1 rb2 hm hr hlt
      go_wp2
      go_quiet (fail)
      go_wp2
      go_roundw
      case rel => exact ⟨k + 1, _, by go_num, HLT.out, by rw [HM.out, World.drewN_drewN]⟩
      case measure => have := HLT.out; simp [intOf]; omega
    · obtain rfl : k = n := by omega
      have HM := Lib.hid hm
      clear hm
      go_wp2
      go_ret
      exact ⟨rfl, m, HM.out⟩
end Go.Proofs.Ythpbcibjohakkaa
