/- What Nodes hands back has the form; asks of the kind Nodes. -/
import Derived.Test.YtlhpoliiojekeaaKFM
import Derived.Test.YtlhpoliiojekeaaKFL
import Derived.Test.YtlhpoliiojekeaaFilled
import Derived.Test.YtlhpoliiojekeaaOps
import Derived.Test.YtlhpoliiojekeaaNextT
namespace Go.Proofs.Ytlhpoliiojekeaa
set_option maxRecDepth 100000
open Go.RowKit

theorem NodeAt.depth {ord : Nat} (ho : 3 ≤ ord) {w : World} {d : Nat} {v : Value} {ps : List Pr} {m : Nat} (h : NodeAt ord w d v ps m) (h2 : 1 ≤ d → 2 ≤ m) (hp : ps.length ≤ 1048576) : d ≤ 900 := by
  rcases Nat.lt_or_ge d 30 with hlt | hge
  · omega
  · exfalso
    rcases h.flat ho h2 with h1 | h1
    · omega
    · have q1 : 1 ≤ ord / 2 := by omega
      have q2 : 2 ≤ (ord + 1) / 2 := by omega
      have q3 : 2 ^ 28 ≤ ((ord + 1) / 2) ^ (d + 1 - 2) := Nat.le_trans (Nat.pow_le_pow_left q2 28) (Nat.pow_le_pow_right (by omega) (by omega))
      have q4 : 1 * ((ord + 1) / 2) ^ (d + 1 - 2) ≤ 2 * (ord / 2) * ((ord + 1) / 2) ^ (d + 1 - 2) := Nat.mul_le_mul_right _ (by omega)
      have q5 : (2 : Nat) ^ 28 = 268435456 := by decide
      omega
/-- What is told of a tree, and what Form and Flat say of it. -/
theorem NodesIs.look {w w' : World} {T ord : Nat} {ps : List Pr} {e : Ending} (h : NodesIs w ord ps e w') (ht : TreeAt w T ord ps) (hp : ps.length ≤ 1048576) :
    ∃ A n c D, e = .returned (.slice A n c) ∧ Gw w w' ∧ n ≤ 4000000 ∧ (D ≤ 1 ∨ 2 * (ord / 2) * ((ord + 1) / 2) ^ (D - 2) ≤ ps.length) ∧ D ≤ 901 ∧ 3 ≤ ord ∧ ord ≤ 64 ∧ (∃ L : List Tt, TO w.heap.size w' (.slice A n c) L ∧ L.length = n) ∧
      ∀ X B m e', Gw w' X → PB X B m ps → Calls Try.prog 23 #[.slice A n c, .int .i64 (ord : Nat), .slice B m e'] X fun e X' => e = .returned (.tuple #[.bool true, .int .i64 (D : Nat)]) ∧ Gw X X' := by
  obtain ⟨v, L, R, root, rfl, hTO, hlen, hI, hps, hmm, hb⟩ := h
  obtain ⟨A, c, rfl, hNL, hc⟩ := hTO.form
  have hrise := ht.rises
  obtain ⟨-, -, -, -, -, -, -, -, h3, h64⟩ := ht
  have hroot := hI.root
  obtain ⟨hna, hm990, h2m⟩ := hI.node root (List.mem_of_getElem? hroot)
  have hpot := hI.pot
  have hR0 := (List.getElem?_eq_some_iff.1 hroot).1
  have hml : (L.map Tt.t).length = L.length := List.length_map ..
  rw [hps] at hna
  have hd := hna.depth h3 h2m hp
  have hfl := hna.flat h3 h2m
  refine ⟨A, L.length, c, root.1 + 1, rfl, hb, by omega, hfl, by omega, h3, h64, ⟨L, hTO, rfl⟩, fun X B m e' hX hP => ?_⟩
  rw [← hps] at hP
  have hFT : FT ord X A L.length (L.map Tt.t) R := ⟨hNL.gw hX, by rw [hml]; exact hlen, fun j x t hx hl => hI.told j x t hx hl, h3, h64, by omega⟩
  exact wform hFT (hI.ordered (by rw [hml]; exact hlen)) (by omega) hroot hmm h2m (by rw [hps]; exact hrise) hd hP (by have := hP.1; rw [hps] at this; omega)

set_option maxHeartbeats 16000000 in
theorem wasksN {w : World} {u T ord m e : Nat} {B : Option Addr} {ps : List Pr} (hO : OneAt w u T (.slice B m e)) (hT : TreeAt w T ord ps) (hP : PB w B m ps) (hp : ps.length ≤ 1048576) (o1 : Bool) (k k2 : ByteArray) (z : Int) (i : Int) (bey : Bool) :
    Calls Try.prog 12 #[.pointer (some ⟨u, 0, none⟩), .agg #[.int .i64 8, .bool o1, .string k, .string k2, .int .i64 z, .int .i64 i, .bool bey], .int .i64 (ord : Nat)] w fun e w' => e = .returned (.bool true) ∧ Gw w w' := by
  obtain ⟨W, hW⟩ : ∃ W, w.alloc (.cells #[.int .i64 8, .bool o1, .string k, .string k2, .int .i64 z, .int .i64 i, .bool bey] 33) = W := ⟨_, rfl⟩
  have ha := heap_alloc_new w (.cells #[.int .i64 8, .bool o1, .string k, .string k2, .int .i64 z, .int .i64 i, .bool bey] 33)
  rw [hW] at ha
  have hG := Lib.hid (show Gw w W by rw [← hW]; exact (Gw.refl _).alloc _)
  have c0 : W.cell? ⟨w.heap.size, 0, none⟩ = some (.int .i64 8) := by rw [cell_of_row _ _ _ _ _ _ ha]; rfl
  have hOW := hO.gw hG.out
  have u0 : W.cell? ⟨u, 0, none⟩ = some (.pointer (some ⟨T, 0, none⟩)) := by rw [cell_of_row _ _ _ _ _ _ hOW]; rfl
  have u1 : W.cell? ⟨u, 1, none⟩ = some (.slice B m e) := by rw [cell_of_row _ _ _ _ _ _ hOW]; rfl
  have HT := Lib.hid (hT.below (hG.out.drew))
  have HP := Lib.hid (show PB W B m ps from ⟨hP.1, hP.2.gw hG.out⟩)
  have HPL := Lib.hid hp
  have HML := Lib.hid hP.1
  have CN := Lib.hid (wnodes HT.out (by omega))
  have KS := Lib.hid (show ∀ X, Gw W X → X.cell? ⟨u, 0, none⟩ = some (.pointer (some ⟨T, 0, none⟩)) ∧ X.cell? ⟨u, 1, none⟩ = some (.slice B m e) from fun X hX => ⟨keep_below u0 hX, keep_below u1 hX⟩)
  clear ha hO hT hP hp hOW u0 u1
  go_enter Try.func12, Try.ntmps12
  go_upto_region 19 with fail
  clear hW
  have hS0 := KS.out _ (Gw.refl W)
  go_region_held3 (fun w' => w'.cell? ⟨u, 0, none⟩ = some (.pointer (some ⟨T, 0, none⟩)) ∧ w'.cell? ⟨u, 1, none⟩ = some (.slice B m e)) (first | exact hS0 | exact KS.out _ B3.out | exact KS.out _ B4.out)
    (first
      | ((go_at_call 22; go_loud (refine CN.out.mono ?_; rintro e w3 h3; obtain ⟨A, n, c, D, rfl, g3, n4, fl, d9, o3, o64, -, CF⟩ := h3.look HT.out HPL.out; have B3 := Lib.hid (show Gw W w3 from ((Gw.refl W).drew).trans g3); have FL := Lib.hid fl; have HD := Lib.hid (And.intro d9 (And.intro o3 o64)); have CF := Lib.hid CF; clear h3 g3 n4 fl d9 o3 o64 CN)))
      | ((go_at_call 23; go_loud (refine (CF.out _ B m e (Gw.refl _) ⟨HP.out.1, HP.out.2.gw B3.out⟩).mono ?_; rintro e w4 ⟨rfl, g4⟩; have B4 := Lib.hid (B3.out.trans g4); clear g4 CF))))
  go_upto_region 20 with fail
  have u1 := (KS.out _ B4.out).2
  have CFL := Lib.hid (fun X => wflat X ord D m HD.out.2.1 HD.out.2.2 (by have := HML.out; have := HPL.out; omega) (by have := HD.out.1; omega) (by rw [← HML.out]; exact FL.out))
  go_wp2_with (go_at_call 35; go_loud (refine (CFL.out _).mono ?_; rintro e w5 ⟨rfl, hw⟩; replace hw := hw.symm; subst hw))

  go_ret
  exact ⟨rfl, hG.out.trans B4.out⟩
end Go.Proofs.Ytlhpoliiojekeaa
