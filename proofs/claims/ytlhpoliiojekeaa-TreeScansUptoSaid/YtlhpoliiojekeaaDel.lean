/- Delete, Clone. -/
import Derived.Test.YtlhpoliiojekeaaPut
namespace Go.Proofs.Ytlhpoliiojekeaa
set_option maxRecDepth 100000
open Go.RowKit

theorem changed_del {ord T b1 : Nat} {W0 : World} {root : Value} {k : ByteArray} (ho : 3 ≤ ord) (ho2 : ord ≤ 64) (hT : TrAt W0 T ord root) (c1 : W0.cell? ⟨b1, 0, none⟩ = some (.string k)) (d : Nat) :
    ChangedAll ord T (.func (.func 43) #[] #[.pointer (some ⟨b1, 0, none⟩)]) k (delP · k) W0 d := by
  induction d with
  | zero => exact wchanged_del c1
  | succ d ih => exact wchanged_step ho (by omega) hT (chg_del k) ih
theorem delP_no {ps : List Pr} {k : ByteArray} (h : has (keys ps) k = false) : delP ps k = ps := by simp [delP, h]

set_option maxHeartbeats 4000000 in
theorem wdelT {w : World} {T ord : Nat} {ps : List Pr} (h : TreeAt w T ord ps) (hp : ps.length ≤ 10000000000000000) (k : ByteArray) :
    Calls Try.prog 19 #[.pointer (some ⟨T, 0, none⟩), .string k] w fun e w' => e = .returned (.tuple #[.bool (has (keys ps) k), .int .i64 0]) ∧ TreeAt w' T ord (delP ps k) ∧ Xt T w w' := by
  obtain ⟨W, hW⟩ : ∃ W, w.alloc (.cells #[.string k] 9) = W := ⟨_, rfl⟩
  have g1 : Gw w W := by rw [← hW]; exact (Gw.refl w).alloc _
  have c1 : W.cell? ⟨w.heap.size, 0, none⟩ = some (.string k) := by rw [← hW]; simp
  have h' := h.below g1
  have CM := Lib.hid (wmade h')
  have CG := Lib.hid (wgetT h' k)
  rw [getP_has] at CG
  have HG := Lib.hid g1
  have HT := Lib.hid h'
  have hmf : ∀ (fn : Fn) (first cap : Array Value) (w : World), (Instr.makeFunc fn first cap).run Try.prog w = .ok (.func fn first cap) w := fun _ _ _ _ => rfl
  cases hb : has (keys ps) k
  · rw [hb] at CG
    have HD := Lib.hid (delP_no hb)
    clear h h' g1 hb
    go_enter Try.func19, Try.ntmps19
    go_wp2_with (first
      | (go_at_call 36; refine CM.out.mono ?_; rintro e w1 ⟨rfl, hw⟩; replace hw := hw.symm; subst hw; clear CM)
      | (go_at_call 28; go_loud (refine CG.out.mono ?_; rintro e w1 ⟨rfl, j, rfl⟩)))
    go_ret2
    exact ⟨rfl, by rw [HD.out]; exact HT.out.below ((Gw.refl _).drewN _), (HG.out.drewN _).xt T⟩
  · rw [hb] at CG
    have CC := Lib.hid fun n => (show Calls Try.prog 40 #[.pointer (some ⟨T, 0, none⟩), .string k, .func (.func 43) #[] #[.pointer (some ⟨w.heap.size, 0, none⟩)]] (W.drewN n) (ChangeIs T ord (W.drewN n) (delP ps k)) by
      have c1' : (W.drewN n).cell? ⟨w.heap.size, 0, none⟩ = some (.string k) := c1
      obtain ⟨v, d, m, q1, q2, hr, hm, h2m, ho, ho2⟩ := h'.below ((Gw.refl W).drewN n)
      exact wchange (F := (delP · k)) ho ho2 q1 (chg_del k) (changed_del ho ho2 q1 c1' d) q2 hr hm h2m (by omega))
    clear h h' g1 hb
    go_enter Try.func19, Try.ntmps19
    go_wp2_with (first
      | (go_at_call 36; refine CM.out.mono ?_; rintro e w1 ⟨rfl, hw⟩; replace hw := hw.symm; subst hw; clear CM)
      | (go_at_call 28; go_loud (refine CG.out.mono ?_; rintro e w1 ⟨rfl, j, rfl⟩))
      | (go_at_call 40; go_loud (refine (CC.out _).mono ?_; rintro e w5 ⟨rfl, t5, x5⟩; have T5 := Lib.hid t5; have X5 := Lib.hid x5; clear t5 x5 CC)))
    go_ret2
    exact ⟨rfl, T5.out, ((HG.out.drewN _).xt T).trans X5.out⟩

set_option maxHeartbeats 4000000 in
theorem wcloneT {w : World} {T ord : Nat} {ps : List Pr} (h : TreeAt w T ord ps) :
    Calls Try.prog 24 #[.pointer (some ⟨T, 0, none⟩)] w fun e w' => ∃ T', e = .returned (.pointer (some ⟨T', 0, none⟩)) ∧ TreeAt w' T' ord ps ∧ w.heap.size ≤ T' ∧ Gw w w' := by
  have CM := Lib.hid (wmade h)
  obtain ⟨v, d, m, h1, h2, h3⟩ := h
  have c0 := h1.c0
  have c1 := h1.c1
  obtain ⟨tt, g, hv⟩ := h2.form
  subst hv
  have H2 := Lib.hid h2
  have H3 := Lib.hid h3
  clear h1 h2 h3
  go_enter Try.func24, Try.ntmps24
  go_wp2_with (go_at_call 36; refine CM.out.mono ?_; rintro e w1 ⟨rfl, hw⟩; replace hw := hw.symm; subst hw; clear CM)
  go_ret
  refine ⟨_, rfl, ⟨_, d, m, ⟨heap_alloc_new w _⟩, H2.out.below ((Below.refl _ _).alloc (Nat.le_refl _) _), H3.out⟩, Nat.le_refl _, (Gw.refl _).alloc _⟩
end Go.Proofs.Ytlhpoliiojekeaa
