/- Put. -/
import Derived.Test.YtlhpoliiojekeaaOps
namespace Go.Proofs.Ytlhpoliiojekeaa
set_option maxRecDepth 100000
open Go.RowKit

theorem changed_put {ord T b1 b2 : Nat} {W0 : World} {root : Value} {k : ByteArray} {z : Int} (ho : 3 ≤ ord) (ho2 : ord ≤ 64) (hT : TrAt W0 T ord root) (c1 : W0.cell? ⟨b1, 0, none⟩ = some (.string k)) (c2 : W0.cell? ⟨b2, 0, none⟩ = some (.int .i64 z)) (d : Nat) :
    ChangedAll ord T (.func (.func 41) #[] #[.pointer (some ⟨b1, 0, none⟩), .pointer (some ⟨b2, 0, none⟩)]) k (putP · k z) W0 d := by
  induction d with
  | zero => exact wchanged_put c1 c2
  | succ d ih => exact wchanged_step ho (by omega) hT (chg_put k z) ih

set_option maxHeartbeats 4000000 in
theorem wputT {w : World} {T ord : Nat} {ps : List Pr} (h : TreeAt w T ord ps) (hp : ps.length ≤ 10000000000000000) (k : ByteArray) (z : Int) :
    Calls Try.prog 17 #[.pointer (some ⟨T, 0, none⟩), .string k, .int .i64 z] w fun e w' => e = .returned (.tuple #[.bool (!has (keys ps) k), .int .i64 0]) ∧ TreeAt w' T ord (putP ps k z) ∧ Xt T w w' := by
  obtain ⟨W, hW⟩ : ∃ W, (w.alloc (.cells #[.string k] 9)).alloc (.cells #[.int .i64 z] 2) = W := ⟨_, rfl⟩
  have g1 : Gw w W := by rw [← hW]; exact ((Gw.refl w).alloc _).alloc _
  have c1 : W.cell? ⟨w.heap.size, 0, none⟩ = some (.string k) := by rw [← hW]; simp
  have c2 : W.cell? ⟨w.heap.size + 1, 0, none⟩ = some (.int .i64 z) := by
    rw [← hW]
    rw [show w.heap.size + 1 = (w.alloc (.cells #[.string k] 9)).heap.size by simp]
    rw [cell_of_row _ _ _ _ _ _ (heap_alloc_new _ _)]; rfl
  have h' := h.below g1
  have CM := Lib.hid (wmade h')
  have CL := Lib.hid (wlen h')
  have CL2 := Lib.hid fun w (h : TreeAt w T ord (putP ps k z)) => wlen h
  have hlen := putP_len ps k z
  obtain ⟨v, d, m, q1, q2, hr, hm, h2m, ho, ho2⟩ := h'
  have CC := Lib.hid (wchange ho ho2 q1 (chg_put k z) (changed_put ho ho2 q1 c1 c2 d) q2 hr hm h2m (by omega))
  have HB := Lib.hid (show (decide (ps.length < (putP ps k z).length)) = !has (keys ps) k by
    cases hb : has (keys ps) k
    · rw [hb] at hlen; simp at hlen; simp; omega
    · rw [hb] at hlen; simp at hlen; simp; omega)
  have HG := Lib.hid g1
  obtain ⟨N, hN⟩ : ∃ N, (putP ps k z).length = N := ⟨_, rfl⟩
  rw [hN] at HB CL2
  have hmf : ∀ (fn : Fn) (first cap : Array Value) (w : World), (Instr.makeFunc fn first cap).run Try.prog w = .ok (.func fn first cap) w := fun _ _ _ _ => rfl
  clear h q1 q2 hr hm h2m g1 hlen c2 hN
  go_enter Try.func17, Try.ntmps17
  go_wp2_with (first
    | (go_at_call 36; refine CM.out.mono ?_; rintro e w1 ⟨rfl, hw⟩; replace hw := hw.symm; subst hw; clear CM)
    | (go_at_call 21; first | (refine CL.out.mono ?_; rintro e w1 ⟨rfl, hw⟩; replace hw := hw.symm; subst hw; clear CL) | (refine (CL2.out _ T5.out).mono ?_; rintro e w1 ⟨rfl, hw⟩; replace hw := hw.symm; subst hw))
    | (go_at_call 40; go_loud (refine CC.out.mono ?_; rintro e w5 ⟨rfl, t5, x5⟩; have T5 := Lib.hid t5; have X5 := Lib.hid x5; clear t5 x5 CC)))
  go_ret2
  exact ⟨by rw [← HB.out]; first | done | rfl, T5.out, (HG.out.xt T).trans X5.out⟩
end Go.Proofs.Ytlhpoliiojekeaa
