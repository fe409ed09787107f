/- get, rank: below any node. -/
import Derived.Test.YtlhpoliiojekeaaFill
namespace Go.Proofs.Ytlhpoliiojekeaa
set_option maxRecDepth 100000
open Go.RowKit

theorem below_drewN (w : World) (k : Nat) : Below w.heap.size w (w.drewN k) :=
  have h := Below.refl w.heap.size w
  ⟨h.os, h.tape, h.output, h.size, h.block⟩
theorem NodeAt.drewN {ord : Nat} {w : World} {d : Nat} {v : Value} {ps : List Pr} {m : Nat} (h : NodeAt ord w d v ps m) (k : Nat) : NodeAt ord (w.drewN k) d v ps m := h.below (below_drewN w k)
theorem InC.drewN {ord d : Nat} {w : World} {g : Nat} {ps : List Pr} {ks : List ByteArray} {kids : List Kid} (h : InC (NodeAt ord w d) w g ps ks kids) (k : Nat) : InC (NodeAt ord (w.drewN k) d) (w.drewN k) g ps ks kids :=
  h.move (below_drewN w k) fun _ _ _ h => h.drewN k
theorem InC.cell_kid {N : Value → List Pr → Nat → Prop} {w : World} {g : Nat} {ps : List Pr} {ks : List ByteArray} {kids : List Kid} (h : InC N w g ps ks kids) {i : Nat} {x : Kid} (hx : kids[i]? = some x) :
    ∃ ad e, w.cell? ⟨g, 1, none⟩ = some (.slice (some ad) kids.length e) ∧ w.cell? (ad.add i) = some x.v ∧ kids.length ≤ e := by
  obtain ⟨A, c, B, e, h0, -, -, h3, h4⟩ := h.row
  obtain ⟨ad, rfl, hc⟩ := h3.at_ (k := i) (u := x.v) (by simp [hx])
  exact ⟨ad, e, by rw [cell_of_row _ _ _ _ _ _ h0]; rfl, hc, h4⟩
theorem Fit.le {ord d m : Nat} (h : Fit ord d m) (ho : ord ≤ 1000) : m ≤ 1000 := by
  have := h.2
  unfold most at this
  split at this <;> omega

set_option maxHeartbeats 4000000 in
theorem wget (ord : Nat) (ho : ord ≤ 1000) (k : ByteArray) : ∀ (d : Nat) (w : World) (v : Value) (ps : List Pr) (m : Nat), NodeAt ord w d v ps m → Rises (keys ps) → m ≤ 1000 →
    Calls Try.prog 49 #[v, .string k] w fun e w' => e = .returned (.tuple #[.int .i64 (getP ps k).1, .bool (getP ps k).2]) ∧ ∃ j, w' = w.drewN j := by
  intro d
  induction d with
  | zero =>
    intro w v ps m h hr hm
    obtain ⟨g, rfl, ⟨A, c, B, e, h0, h1, h2, h3, h4⟩, rfl⟩ := h
    have c0 : w.cell? ⟨g, 0, none⟩ = some (.slice A ps.length c) := by rw [cell_of_row _ _ _ _ _ _ h0]; rfl
    have c1 : w.cell? ⟨g, 1, none⟩ = some (.slice B ps.length e) := by rw [cell_of_row _ _ _ _ _ _ h0]; rfl
    rw [keysV_eq] at h1
    have CB := Lib.hid (wbin w A ps.length c (keys ps) k h1 hr (by omega))
    have t1 := ta_ll
    cases hb : has (keys ps) k
    · have HG := Lib.hid (getP_no hb)
      rw [hb] at CB
      unfold lp
      clear h0 h1 h3 hr hb
      go_enter Try.func49, Try.ntmps49
      go_wp2_with (go_at_call 52; refine CB.out.mono ?_; rintro e w1 ⟨rfl, rfl⟩)
      go_ret2
      exact ⟨by rw [HG.out]; rfl, ⟨0, rfl⟩⟩
    · obtain ⟨z, hz, hg⟩ := getP_yes hb
      have HG := Lib.hid hg
      rw [hb] at CB
      obtain ⟨q, hq⟩ : ∃ q, rk (keys ps) k = q := ⟨_, rfl⟩
      rw [hq] at hz CB
      have i1 : q < ps.length := (List.getElem?_eq_some_iff.1 hz).1
      have i2 : (q : Int) < (ps.length : Int) := by omega
      obtain ⟨ad, rfl, c3⟩ := h3.at_ (k := q) (u := .int .i64 z) (by simp [numsV, hz])
      unfold lp
      clear h0 h1 h3 hr hb hz hg hq i1
      go_enter Try.func49, Try.ntmps49
      go_wp2_with (go_at_call 52; refine CB.out.mono ?_; rintro e w1 ⟨rfl, rfl⟩)
      go_ret2
      exact ⟨by rw [HG.out]; rfl, ⟨0, rfl⟩⟩
  | succ d ih =>
    intro w v ps m h hr hm
    obtain ⟨g, ks, kids, rfl, rfl, hC, hF⟩ := h
    obtain ⟨x, hx⟩ := hC.kid k
    have hps : ps = kidsP (kids.take (pl ks k)) ++ (x.ps ++ kidsP (kids.drop (pl ks k + 1))) := hC.all.trans (kidsP_cut kids _ x hx)
    have hg : getP ps k = getP x.ps k := by
      rw [hps]; exact getP_mid (hC.front k) (hC.back k)
    have hxm := List.mem_of_getElem? hx
    have CG := Lib.hid fun n => ih (w.drewN n) x.v x.ps x.m ((hC.is x hxm).drewN n) (rises_mid (by rw [← hps]; exact hr)) ((hF x hxm).le ho)
    have CP := Lib.hid fun n => wplace (hC.drewN n) (by have := hC.num; omega) k
    obtain ⟨ad, e, c1, c2, -⟩ := hC.cell_kid hx
    have i1 : pl ks k < kids.length := (List.getElem?_eq_some_iff.1 hx).1
    obtain ⟨i, hi⟩ : ∃ i, pl ks k = i := ⟨_, rfl⟩
    rw [hi] at CP c2 i1
    have i2 : (i : Int) < (kids.length : Int) := by omega
    have HG := Lib.hid hg
    have t1 := ta_il
    have t2 := ta_ii
    unfold ip
    clear hps hg hx hxm hC hF hr i1 hi ih
    go_enter Try.func49, Try.ntmps49
    go_wp2
    go_quiet (first | (go_at_call 53; exact Calls.quiet_of_same (CP.out _)) | (go_at_call 49; exact Calls.quiet_of (CG.out _)))
    go_wp2
    go_ret2
    exact ⟨by rw [HG.out]; rfl, ⟨_, rfl⟩⟩
end Go.Proofs.Ytlhpoliiojekeaa
