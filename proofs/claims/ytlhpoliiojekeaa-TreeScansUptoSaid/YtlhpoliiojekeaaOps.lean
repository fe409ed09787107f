/- The tree's calls. -/
import Derived.Test.YtlhpoliiojekeaaChange
import Derived.Test.YtlhpoliiojekeaaKeyAt
namespace Go.Proofs.Ytlhpoliiojekeaa
set_option maxRecDepth 100000
open Go.RowKit

theorem neq_nil_iface (W : World) (t : TypeId) (a : Option Addr) : (binOp .neq 80 (.iface t (.pointer a)) .nilIface).run Try.prog W = .ok (.bool true) W := by kernel_rfl
theorem neq_nil_nil (W : World) : (binOp .neq 80 .nilIface .nilIface).run Try.prog W = .ok (.bool false) W := by kernel_rfl
theorem TreeAt.form {w : World} {T ord : Nat} {ps : List Pr} (h : TreeAt w T ord ps) : ∃ tt g, w.cell? ⟨T, 1, none⟩ = some (.iface tt (.pointer (some ⟨g, 0, none⟩))) := by
  obtain ⟨v, d, m, h1, h2, -⟩ := h
  obtain ⟨tt, g, hv⟩ := h2.form
  exact ⟨tt, g, by rw [h1.c1, hv]⟩

theorem wmade {w : World} {T ord : Nat} {ps : List Pr} (h : TreeAt w T ord ps) : Calls Try.prog 36 #[.pointer (some ⟨T, 0, none⟩)] w fun e w' => e = .returned (.bool true) ∧ w' = w := by
  obtain ⟨tt, g, c1⟩ := h.form
  have q1 := neq_nil_iface
  clear h
  go_enter Try.func36, Try.ntmps36
  go_wp2
  go_ret
  exact ⟨rfl, rfl⟩
theorem wmade_nil (w : World) : Calls Try.prog 36 #[.pointer none] w fun e w' => e = .returned (.bool false) ∧ w' = w := by
  go_enter Try.func36, Try.ntmps36
  go_wp2
  go_ret
  exact ⟨rfl, rfl⟩
theorem wmade_zero {w : World} {T : Nat} (c1 : w.cell? ⟨T, 1, none⟩ = some .nilIface) : Calls Try.prog 36 #[.pointer (some ⟨T, 0, none⟩)] w fun e w' => e = .returned (.bool false) ∧ w' = w := by
  have q1 := neq_nil_nil
  go_enter Try.func36, Try.ntmps36
  go_wp2
  go_ret
  exact ⟨rfl, rfl⟩

set_option maxHeartbeats 2000000 in
theorem wlen {w : World} {T ord : Nat} {ps : List Pr} (h : TreeAt w T ord ps) : Calls Try.prog 21 #[.pointer (some ⟨T, 0, none⟩)] w fun e w' => e = .returned (.int .i64 (ps.length : Nat)) ∧ w' = w := by
  have CM := Lib.hid (wmade h)
  obtain ⟨v, d, m, h1, h2, -⟩ := h
  have c1 := h1.c1
  rcases wcount h2 with ⟨g, rfl, hc⟩ | ⟨g, rfl, hc⟩
  · have CC := Lib.hid hc
    unfold lp at c1
    clear h1 h2 hc
    go_enter Try.func21, Try.ntmps21
    go_wp2_with (first | (go_at_call 36; refine CM.out.mono ?_; rintro e w1 ⟨rfl, hw⟩; replace hw := hw.symm; subst hw) | (go_at_call 95; refine CC.out.mono ?_; rintro e w1 ⟨rfl, hw⟩; replace hw := hw.symm; subst hw))
    go_ret
    exact ⟨rfl, rfl⟩
  · have CC := Lib.hid hc
    unfold ip at c1
    clear h1 h2 hc
    go_enter Try.func21, Try.ntmps21
    go_wp2_with (first | (go_at_call 36; refine CM.out.mono ?_; rintro e w1 ⟨rfl, hw⟩; replace hw := hw.symm; subst hw) | (go_at_call 96; refine CC.out.mono ?_; rintro e w1 ⟨rfl, hw⟩; replace hw := hw.symm; subst hw))
    go_ret
    exact ⟨rfl, rfl⟩

set_option maxHeartbeats 2000000 in
theorem wnewT (w : World) (ord : Nat) (h3 : 3 ≤ ord) (h64 : ord ≤ 64) : Calls Try.prog 25 #[.int .i64 (ord : Nat)] w fun e w' => ∃ T, e = .returned (.tuple #[.pointer (some ⟨T, 0, none⟩), .int .i64 0]) ∧ TreeAt w' T ord [] ∧ w.heap.size ≤ T ∧ Gw w w' := by
  have i1 : ¬ (ord : Int) < 3 := by omega
  have i2 : ¬ (64 : Int) < (ord : Int) := by omega
  have i3 : (ord : Int) ≤ 64 := by omega
  have i4 : (3 : Int) ≤ (ord : Int) := by omega
  go_enter Try.func25, Try.ntmps25
  go_wp2
  go_ret2
  refine ⟨_, rfl, ⟨lp w.heap.size, 0, 0, ⟨?_⟩, ⟨w.heap.size, rfl, ⟨none, 0, none, 0, ?_, VB.empty _ _, Nat.le_refl _, VB.empty _ _, Nat.le_refl _⟩, rfl⟩, List.Pairwise.nil, Nat.zero_le _, fun h => absurd h (by omega), h3, h64⟩, ?_, ?_⟩
  · have h1 := heap_alloc_new (w.alloc (.cells #[.slice none 0 0, .slice none 0 0] 101)) (.cells #[.int .i64 (ord : Nat), .iface 85 (.pointer (some ⟨w.heap.size, 0, none⟩))] 82)
    rw [show (w.alloc (.cells #[.slice none 0 0, .slice none 0 0] 101)).heap.size = w.heap.size + 1 by simp] at h1
    exact h1
  · have h1 := heap_alloc_new w (.cells #[.slice none 0 0, .slice none 0 0] 101)
    exact (Below.block (show Below (w.alloc (.cells #[.slice none 0 0, .slice none 0 0] 101)).heap.size _ _ from (Below.refl _ _).alloc (Nat.le_refl _) _) _ (by simp)).trans h1
  · simp
  · exact ((Gw.refl w).alloc _).alloc _

set_option maxHeartbeats 4000000 in
theorem wgetT {w : World} {T ord : Nat} {ps : List Pr} (h : TreeAt w T ord ps) (k : ByteArray) :
    Calls Try.prog 28 #[.pointer (some ⟨T, 0, none⟩), .string k] w fun e w' => e = .returned (.tuple #[.int .i64 (getP ps k).1, .bool (getP ps k).2]) ∧ ∃ j, w' = w.drewN j := by
  have CM := Lib.hid (wmade h)
  obtain ⟨v, d, m, h1, h2, hr, hm, -, ho, ho2⟩ := h
  have c1 := h1.c1
  have CG := Lib.hid (wget ord (by omega) k d w v ps m h2 hr (by unfold most at hm; split at hm <;> omega))
  clear h1 h2 hr
  go_enter Try.func28, Try.ntmps28
  go_wp2_with (first | (go_at_call 36; refine CM.out.mono ?_; rintro e w1 ⟨rfl, hw⟩; replace hw := hw.symm; subst hw) | (go_at_call 49; refine CG.out.mono ?_; rintro e w1 ⟨rfl, j, rfl⟩))
  go_ret2
  exact ⟨rfl, ⟨_, rfl⟩⟩

set_option maxHeartbeats 4000000 in
theorem wrankT {w : World} {T ord : Nat} {ps : List Pr} (h : TreeAt w T ord ps) (hp : ps.length ≤ 1000000000000000000) (k : ByteArray) :
    Calls Try.prog 32 #[.pointer (some ⟨T, 0, none⟩), .string k] w fun e w' => e = .returned (.int .i64 (rk (keys ps) k : Nat)) ∧ ∃ j, w' = w.drewN j := by
  have CM := Lib.hid (wmade h)
  obtain ⟨v, d, m, h1, h2, hr, hm, -, ho, ho2⟩ := h
  have c1 := h1.c1
  have CG := Lib.hid (wrank ord (by omega) k d w v ps m h2 hr (by unfold most at hm; split at hm <;> omega) (by omega))
  clear h1 h2 hr
  go_enter Try.func32, Try.ntmps32
  go_wp2_with (first | (go_at_call 36; refine CM.out.mono ?_; rintro e w1 ⟨rfl, hw⟩; replace hw := hw.symm; subst hw) | (go_at_call 50; refine CG.out.mono ?_; rintro e w1 ⟨rfl, j, rfl⟩))
  go_ret
  exact ⟨rfl, ⟨_, rfl⟩⟩

/-- The answer of At. -/
def atV (ps : List Pr) (i : Int) : Value :=
  if 0 ≤ i then (match ps[i.toNat]? with | some p => .tuple #[.string p.1, .int .i64 p.2, .bool true] | none => .tuple #[.string ⟨#[]⟩, .int .i64 0, .bool false]) else .tuple #[.string ⟨#[]⟩, .int .i64 0, .bool false]

set_option maxHeartbeats 4000000 in
theorem watT {w : World} {T ord : Nat} {ps : List Pr} (h : TreeAt w T ord ps) (hp : ps.length ≤ 1000000000000000000) (i : Int) :
    Calls Try.prog 20 #[.pointer (some ⟨T, 0, none⟩), .int .i64 i] w fun e w' => e = .returned (atV ps i) ∧ ∃ j, w' = w.drewN j := by
  have CL := Lib.hid (wlen h)
  obtain ⟨v, d, m, h1, h2, hr, hm, -, ho, ho2⟩ := h
  have c1 := h1.c1
  by_cases h0 : i < 0
  · have HV := Lib.hid (show atV ps i = .tuple #[.string ⟨#[]⟩, .int .i64 0, .bool false] by unfold atV; rw [if_neg (by omega)])
    clear h1 h2 hr c1
    go_enter Try.func20, Try.ntmps20
    go_wp2
    go_ret3
    exact ⟨by rw [HV.out]; first | done | rfl, ⟨0, rfl⟩⟩
  · obtain ⟨n, rfl⟩ : ∃ n : Nat, i = (n : Int) := ⟨i.toNat, by omega⟩
    by_cases hl : n < ps.length
    · obtain ⟨p, hpn⟩ : ∃ p, ps[n]? = some p := ⟨_, List.getElem?_eq_getElem hl⟩
      obtain ⟨k, z⟩ := p
      have HV := Lib.hid (show atV ps (n : Int) = .tuple #[.string k, .int .i64 z, .bool true] by unfold atV; rw [if_pos (by omega)]; simp [hpn])
      have CG := Lib.hid (wkeyAt ord (by omega) d w v ps m n k z h2 (by unfold most at hm; split at hm <;> omega) (by omega) hpn)
      have i1 : ¬ (ps.length : Int) ≤ (n : Int) := by omega
      have i2 : (n : Int) < (ps.length : Int) := by omega
      clear h1 h2 hr hpn
      go_enter Try.func20, Try.ntmps20
      go_wp2_with (first | (go_at_call 21; refine CL.out.mono ?_; rintro e w1 ⟨rfl, hw⟩; replace hw := hw.symm; subst hw) | (go_at_call 45; refine CG.out.mono ?_; rintro e w1 ⟨rfl, j, rfl⟩))
      go_ret3
      exact ⟨by rw [HV.out]; first | done | rfl, ⟨_, rfl⟩⟩
    · have HV := Lib.hid (show atV ps (n : Int) = .tuple #[.string ⟨#[]⟩, .int .i64 0, .bool false] by unfold atV; rw [if_pos (by omega)]; simp [List.getElem?_eq_none (by omega : ps.length ≤ n)])
      have i1 : (ps.length : Int) ≤ (n : Int) := by omega
      clear h1 h2 hr c1
      go_enter Try.func20, Try.ntmps20
      go_wp2_with (first | (go_at_call 21; refine CL.out.mono ?_; rintro e w1 ⟨rfl, hw⟩; replace hw := hw.symm; subst hw))
      go_ret3
      exact ⟨by rw [HV.out]; first | done | rfl, ⟨0, rfl⟩⟩
end Go.Proofs.Ytlhpoliiojekeaa
