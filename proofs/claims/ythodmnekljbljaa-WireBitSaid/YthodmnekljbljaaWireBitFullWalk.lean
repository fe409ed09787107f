/- The walk of WireBit: a frame with one bit turned over is no frame of that length. -/
import Derived.Test.YthodmnekljbljaaBit
import Derived.Test.YthodmnekljbljaaOwnRow
import Derived.Test.YthodmnekljbljaaWide
import Derived.Test.YthodmnekljbljaaWireFramesWalk
namespace Go.Proofs.Ythodmnekljbljaa
open Go.RowKit

set_option maxHeartbeats 1000000 in
set_option maxRecDepth 100000 in
theorem walk_WireBit (A0 : Option Addr) (n0 c0 : Nat) (z0 : List Int) (A1 : Option Addr) (n1 c1 : Nat) (z1 : List Int) (a2 : Int) (w : World) (h0 : RB w A0 n0 z0) (hn0 : n0 ≤ c0) (hc0 : c0 ≤ 140737488351232) (h1 : RB w A1 n1 z1) (hn1 : n1 ≤ c1) (hc1 : c1 ≤ 140737488351232) (ha2 : 0 ≤ a2 ∧ a2 ≤ 18446744073709551615) :
    Calls Try.prog 12 #[.slice A0 n0 c0, .slice A1 n1 c1, .int .u64 a2] w fun e w' => e = .returned (.bool true) ∧ Below w.heap.size w w' := by
  obtain ⟨a, rfl⟩ := Int.eq_ofNat_of_zero_le ha2.1
  have ha : a < 18446744073709551616 := by omega
  clear ha2
  by_cases hlong : 1048576 < n0
  · go_enter Try.func12, Try.ntmps12
    go_wp2_with fail
    refine (wframe_long _ _ _ _ hlong (by omega)).mono ?_
    rintro e w1 ⟨rfl, rfl⟩
    go_wp2_with fail
    refine (live_true _).mono ?_
    rintro e w2 ⟨rfl, hb2⟩
    go_wp2_with fail
    refine (live_true _).mono ?_
    rintro e w3 ⟨rfl, hb3⟩
    have hb4 := below_next hb2 hb3
    have hdl : decide ((1048576 : Int) < (n0 : Int)) = true := decide_eq_true (by omega)
    go_wp2
    go_ret
    exact ⟨rfl, hb4⟩
  have hshort : n0 ≤ 1048576 := by omega
  clear hlong
  have HL0 := Lib.hid h0.len
  have HL1 := Lib.hid h1.len
  have HB0 := Lib.hid h0.byte
  have HB1 := Lib.hid h1.byte
  go_enter Try.func12, Try.ntmps12
  go_wp2_with fail
  refine (wframe _ _ _ z0 _ h0 (by omega)).mono ?_
  rintro e w1 ⟨v1, rfl, ho1, hb1⟩
  have g1 := h1.below' hb1
  go_wp2_with fail
  refine (live_true _).mono ?_
  rintro e w2 ⟨rfl, hb2⟩
  have g2 := g1.below' hb2
  have ho2 := ho1.below hb2
  have B2 := below_next hb1 hb2
  clear g1 ho1 hb1 hb2 h0 h1
  obtain ⟨S, hS⟩ : ∃ S, S = (frameB z0).length := ⟨_, rfl⟩
  have hS1 : S = n0 + 8 := by rw [hS, frameB_len, HL0.out]
  have HS1 := Lib.hid hS1
  have hS2 : S ≤ 1048584 := by omega
  have hS3 : 8 ≤ S := by omega
  obtain ⟨Af, cf, rfl, hrf, hcf, -⟩ := ho2.form
  rw [← hS] at hcf ho2 hrf ⊢
  clear hS1
  have sz2 := B2.size
  obtain ⟨K, hK⟩ : ∃ K, K = a % (8 * S) := ⟨_, rfl⟩
  have hKlt : K < 8 * S := by rw [hK]; exact Nat.mod_lt _ (by omega)
  have hKe : ((a : Int) % (8 * (S : Int))) = (K : Int) := by rw [hK, Int.natCast_emod, Int.natCast_mul]; rfl
  have HS := Lib.hid hS
  clear hK hS hrf
  have hNl : (frameB z0 ++ z1).length = S + n1 := by rw [List.length_append, ← HS.out, HL1.out]
  have HNL := Lib.hid hNl
  clear hNl
  obtain ⟨G, hG⟩ : ∃ G, G = frameB z0 ++ z1 := ⟨_, rfl⟩
  have HG := Lib.hid hG
  have hq : K / 8 < S := by omega
  have hqi : (K : Int) / 8 < ((S + n1 : Nat) : Int) := by omega
  go_wp2_with (at_builtin; refine ob_append_wide rfl (.tmp 32) (.tmp 33) rfl w.heap.size _ _ rfl ho2 _ _ _ _ rfl g2 (by rw [← HS.out]; omega) sz2 ?_; intro v' w3 ho3 hb3 hg3; rw [← HG.out] at ho3; obtain ⟨g, cap, rfl, hgb, hcap⟩ := ho3.row (by rw [HG.out, HNL.out]; omega); have hgl : G.length = S + n1 := (by rw [HG.out]; exact HNL.out); have hcell := ho3.cellAt (j := K / 8) (by rw [hgl]; omega); have hfr := ho3.frozenAt (K / 8); clear hg3 hG; obtain ⟨x, hx, hx255⟩ : ∃ x : Nat, G.getD (K / 8) 0 = (x : Int) ∧ x ≤ 255 := (by have hxx := RB.getD (w := w3) (A := some ⟨g, 0, none⟩) (n := G.length) (zs := G) (by obtain ⟨_, _, e, hr, _, _⟩ := ho3.form; injection e with e1; rw [← e1] at hr; exact hr) (K / 8); exact ⟨(G.getD (K / 8) 0).toNat, by omega, by omega⟩); rw [hx] at hcell; have HX := Lib.hid hx; clear hx)
  have ht8 : K % 8 < 8 := Nat.mod_lt _ (by omega)
  obtain ⟨hy1, hy2⟩ := turned_byte x (K % 8) hx255 ht8
  have hbits : Go.bits .xor .u8 (x : Int) (2 ^ (K % 8) % 256) = ((x ^^^ 2 ^ (K % 8) : Nat) : Int) := by
    have hlt : (2 : Nat) ^ (K % 8) < 256 := Nat.lt_of_lt_of_le (Nat.pow_lt_pow_right (by omega) ht8) (by decide)
    have e : ((2 : Int) ^ (K % 8) % 256) = ((2 ^ (K % 8) : Nat) : Int) := by
      rw [show ((2 : Int) ^ (K % 8)) = ((2 ^ (K % 8) : Nat) : Int) from by rw [Int.natCast_pow]; rfl]
      exact Int.emod_eq_of_lt (Int.natCast_nonneg _) (Int.ofNat_lt.2 hlt)
    rw [e, u8_xor_nat _ _ (by omega) hlt]
  rw [hbits]
  clear hbits
  generalize x ^^^ 2 ^ (K % 8) = y at hy1 hy2 ⊢
  have hst := ho3.stored (K / 8) (y : Int) (by omega)
  obtain ⟨Ag, cg, e, hrg, hcg, -⟩ := hst.form
  injection e with e1 e2 e3
  rw [← e1] at hrg
  rw [List.length_set, hgl] at hrg hcg
  have hcg' : S + n1 ≤ cap := by rw [← hgl]; exact hcap
  have hturn := frame_turned z0 z1 (K / 8) (y : Int) HB0.out HB1.out (by rw [HL0.out]; omega) (by omega) (by rw [HL0.out]; have := HS1.out; omega) (by rw [← HG.out, HX.out]; omega)
  rw [← HG.out, HL0.out, ← HS1.out] at hturn
  have B3 : Below w.heap.size w (w3.setCell ⟨g, K / 8, none⟩ (.int .u8 (y : Int))) := (B2.trans hb3).setCell hgb _
  clear ho3 hst hcell hfr hb3 B2 e1 e2 e3 ho2 g2 hcg hcap hgl HX HG HNL HS hKe hKlt hq hqi
  refine (wtakeFrame _ _ _ _ 0 _ hrg (by omega) hcg').mono ?_
  obtain ⟨l, s, e, ht⟩ : ∃ l s e, takeFrame (G.set (K / 8) (y : Int)) 0 = (l, s, e) := ⟨_, _, _, rfl⟩
  rw [ht] at hturn ⊢
  intro e' w4 hm
  obtain ⟨A5, c5, rfl, -, hb5⟩ := takesF_form hm
  have B5 := below_next B3 hb5
  clear hm hb5 B3 hrg ht
  simp only at hturn
  by_cases he : e = 10
  · have hb : ((e : Int) == 10) = true := by simp; omega
    clear hturn he
    go_wp2
    go_ret
    exact ⟨rfl, B5⟩
  · have hb : ((e : Int) == 10) = false := by simp; omega
    have hs : ((s : Int) != (S : Int)) = true := by
      have : s ≠ S := by rcases hturn with h | h; exact absurd h he; exact h
      simp; omega
    clear hturn he
    go_wp2
    go_ret
    exact ⟨rfl, B5⟩
end Go.Proofs.Ythodmnekljbljaa
