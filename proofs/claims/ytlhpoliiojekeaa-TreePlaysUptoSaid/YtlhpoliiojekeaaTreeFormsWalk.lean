/- TreeForms: behind each step the tree has the form. -/
import Derived.Test.YtlhpoliiojekeaaAsks
import Derived.Test.YtlhpoliiojekeaaOpenO
import Derived.Test.YtlhpoliiojekeaaLive
namespace Go.Proofs.Ytlhpoliiojekeaa
set_option maxRecDepth 100000
open Go.RowKit

/-- Two trees beside each other in a block of their own. -/
theorem On.start {w U : World} {T0 T1 ord : Nat} (h0 : TreeAt w T0 ord []) (h1 : TreeAt w T1 ord []) (g : Gw w U) (hr : U.heap[w.heap.size]? = some (.cells #[.pointer (some ⟨T0, 0, none⟩), .slice none 0 0, .pointer (some ⟨T1, 0, none⟩), .slice none 0 0] 28 (0, 0))) :
    On U w.heap.size 0 T0 ord none 0 0 [] ∧ On U w.heap.size 2 T1 ord none 0 0 [] := by
  obtain ⟨q0, q1, q2, q3, fr⟩ := bx_cells hr
  have fo : Fo U w.heap.size := ⟨_, _, _, hr, by decide, by decide, by decide⟩
  have l0 := h0.lt
  have l1 := h1.lt
  exact ⟨⟨q0, q1, fr 1, fo, h0.below g, ⟨rfl, VB.empty _ _⟩, Nat.le_refl _, by omega⟩, ⟨q2, q3, fr 3, fo, h1.below g, ⟨rfl, VB.empty _ _⟩, Nat.le_refl _, by omega⟩⟩

set_option maxHeartbeats 16000000 in
theorem walk_TreeForms (a : Int) (A : Option Addr) (n c : Nat) (os : List OpT) (w : World) (ha : -9223372036854775808 ≤ a ∧ a ≤ 9223372036854775807) (h : RT w A n os) (hnc : n ≤ c) (hc : c ≤ 1048576) :
    Calls Try.prog 4 #[.int .i64 a, .slice A n c] w fun e w' => e = .returned (.bool true) ∧ Below w.heap.size w w' := by
  have hn : n ≤ 1048576 := Nat.le_trans hnc hc
  clear hnc hc
  have LV := Lib.hid wlive
  by_cases hbad : a < 3 ∨ 64 < a
  · have CB := Lib.hid (wbegunBad w a hbad)
    clear h hn hbad
    go_enter Try.func4, Try.ntmps4
    go_upto_region 2 with (go_at_call 9; go_loud (refine CB.out.mono ?_; rintro e w1 ⟨rfl, b1⟩; have B1 := Lib.hid b1; clear b1))
    generalize hU : World.alloc w1 _ = U
    have BU := Lib.hid (show Gw w U by rw [← hU]; exact B1.out.alloc _)
    clear hU
    go_wp2_with (go_at_call 10; go_loud (refine (LV.out _).mono ?_; rintro e w3 ⟨rfl, b3⟩; have B3 := Lib.hid (BU.out.trans b3); clear b3))
    go_ret
    exact ⟨rfl, B3.out⟩
  obtain ⟨ord, rfl⟩ : ∃ ord : Nat, a = (ord : Int) := ⟨a.toNat, by omega⟩
  have CB := Lib.hid (wbegun w ord (by omega) (by omega))
  have HRT := Lib.hid h
  have HL := Lib.hid h.len
  have HN := Lib.hid hn
  have nb : (n : Int) ≤ 1048576 := by omega
  clear h hn hbad ha
  go_enter Try.func4, Try.ntmps4
  go_upto_region 2 with (go_at_call 9; go_loud (refine CB.out.mono ?_; rintro e w1 ⟨T0, T1, rfl, t0, t1, l0, l01, b1⟩; have B1 := Lib.hid (show Gw w w1 from b1); have T0H := Lib.hid t0; have T1H := Lib.hid t1; have L0 := Lib.hid l0; clear t0 t1 l0 l01 b1 CB))
  generalize hU : World.alloc w1 _ = U
  have rU : U.heap[w1.heap.size]? = some (.cells #[.pointer (some ⟨T0, 0, none⟩), .slice none 0 0, .pointer (some ⟨T1, 0, none⟩), .slice none 0 0] 28 (0, 0)) := by rw [← hU]; exact heap_alloc_new _ _
  have gU : Gw w1 U := by rw [← hU]; exact (Gw.refl _).alloc _
  have ON0 := Lib.hid (On.start T0H.out T1H.out gU rU).1
  have BU := Lib.hid (show Gw w U from B1.out.trans gU)
  have LU := Lib.hid (show w.heap.size ≤ w1.heap.size from Below.size B1.out)
  obtain ⟨u5, hu5⟩ : ∃ u5, w1.heap.size = u5 := ⟨_, rfl⟩
  rw [hu5] at ON0 LU ⊢
  clear hU rU gU hu5 T0H T1H B1
  go_upto_region 7 with (go_at_call 10; go_loud (refine (LV.out _).mono ?_; rintro e w3 ⟨rfl, b3⟩; have O3 := Lib.hid (ON0.out.gw b3); have B3 := Lib.hid (BU.out.trans b3); clear b3))
  go_loopw [26] (fun j' wr => ∃ (j m d : Nat) (B : Option Addr) (P : List Pr), j' = .int .i64 (j : Nat) ∧ j ≤ n ∧ On wr u5 0 T0 ord B m d P ∧ P.length ≤ j ∧ Gw w wr) (fun j' _ => n - (intOf j').toNat)
  case atStart => exact ⟨0, 0, 0, none, [], rfl, Nat.zero_le _, O3.out, Nat.le_refl _, B3.out⟩
  case round =>
    rename World => wr
    obtain ⟨j, m, d, B, P, rfl, hj, hO, hpl, hG⟩ := hrel
    by_cases hlt : j < n
    · obtain ⟨x, hx⟩ : ∃ x, os[j]? = some x := ⟨_, List.getElem?_eq_getElem (by have := HL.out; omega)⟩
      obtain ⟨b, o, rfl, q0, q1, q2, q3, q4, q5, q6⟩ := (HRT.out.below hG).at_ hx
      obtain ⟨kind, oth, k, k2, v, ii, bey⟩ := x
      dsimp only at q0 q1 q2 q3 q4 q5 q6
      have i1 : (j : Int) < (n : Int) := by omega
      have jb : (j : Int) ≤ 1048576 := by omega
      have HLT := Lib.hid hlt
      obtain ⟨Y, hY⟩ : ∃ Y, wr.alloc (.cells #[.int .i64 kind, .bool oth, .string k, .string k2, .int .i64 v, .int .i64 ii, .bool bey] 33) = Y := ⟨_, rfl⟩
      have rY := heap_alloc_new wr (.cells #[.int .i64 kind, .bool oth, .string k, .string k2, .int .i64 v, .int .i64 ii, .bool bey] 33)
      rw [hY] at rY
      have gY : Gw wr Y := by rw [← hY]; exact (Gw.refl _).alloc _
      have y0 : Y.cell? ⟨wr.heap.size, 0, none⟩ = some (.int .i64 kind) := by rw [cell_of_row _ _ _ _ _ _ rY]; rfl
      have y1 : Y.cell? ⟨wr.heap.size, 1, none⟩ = some (.bool oth) := by rw [cell_of_row _ _ _ _ _ _ rY]; rfl
      have y2 : Y.cell? ⟨wr.heap.size, 2, none⟩ = some (.string k) := by rw [cell_of_row _ _ _ _ _ _ rY]; rfl
      have y3 : Y.cell? ⟨wr.heap.size, 3, none⟩ = some (.string k2) := by rw [cell_of_row _ _ _ _ _ _ rY]; rfl
      have y4 : Y.cell? ⟨wr.heap.size, 4, none⟩ = some (.int .i64 v) := by rw [cell_of_row _ _ _ _ _ _ rY]; rfl
      have y5 : Y.cell? ⟨wr.heap.size, 5, none⟩ = some (.int .i64 ii) := by rw [cell_of_row _ _ _ _ _ _ rY]; rfl
      have y6 : Y.cell? ⟨wr.heap.size, 6, none⟩ = some (.bool bey) := by rw [cell_of_row _ _ _ _ _ _ rY]; rfl
      have HOY := Lib.hid (hO.gw gY)
      have HGY := Lib.hid (hG.trans gY)
      have HPL := Lib.hid (show P.length ≤ 1048575 by have := HN.out; omega)
      have HPJ := Lib.hid hpl
      have CC := Lib.hid (wchanges HOY.out (by have := HPL.out; omega) ⟨kind, oth, k, k2, v, ii, bey⟩)
      unfold OpT.val at CC
      have hcl := chP_len ⟨kind, oth, k, k2, v, ii, bey⟩ P
      obtain ⟨Q, hQ⟩ : ∃ Q, chP ⟨kind, oth, k, k2, v, ii, bey⟩ P = Q := ⟨_, rfl⟩
      rw [hQ] at CC hcl
      have HCL := Lib.hid hcl
      clear hQ hcl
      dsimp only at CC
      have CA := Lib.hid fun X B' m' d' Q (hX : On X u5 0 T0 ord B' m' d' Q) (hq : Q.length ≤ 1048576) => wasksF hX hq false ⟨#[]⟩ ⟨#[]⟩ 0 0 false
      have HB2 := Lib.hid (show ∀ X, X2 T0 u5 Y X → Gw w X from fun X hX => X2.below HGY.out hX L0.out LU.out)
      clear rY gY hO hG hx hlt hj hpl
      by_cases k0 : kind = 0
      · subst k0
        go_wp2_with (first
          | (go_at_call 11; go_loud (refine CC.out.mono ?_; rintro e w6 ⟨rfl, B6, m6, d6, o6, x6, -⟩; have O6 := Lib.hid o6; have G6 := Lib.hid (HB2.out _ x6); clear o6 x6 CC))
          | (go_at_call 12; go_loud (refine (CA.out w6 B6 m6 d6 Q O6.out (by have := HPL.out; have := HCL.out; omega)).mono ?_; rintro e w7 ⟨rfl, g7⟩; have O7 := Lib.hid (O6.out.gw g7); have G7 := Lib.hid (G6.out.trans g7); clear g7 CA)))
        go_roundw
        case rel => exact ⟨j + 1, m6, d6, B6, Q, by go_num, HLT.out, O7.out, by have := HPJ.out; have := HCL.out; omega, G7.out⟩
        case measure => have := HLT.out; simp [intOf]; omega
      · by_cases k1 : kind = 1
        · subst k1
          go_wp2_with (first
            | (go_at_call 11; go_loud (refine CC.out.mono ?_; rintro e w6 ⟨rfl, B6, m6, d6, o6, x6, -⟩; have O6 := Lib.hid o6; have G6 := Lib.hid (HB2.out _ x6); clear o6 x6 CC))
            | (go_at_call 12; go_loud (refine (CA.out w6 B6 m6 d6 Q O6.out (by have := HPL.out; have := HCL.out; omega)).mono ?_; rintro e w7 ⟨rfl, g7⟩; have O7 := Lib.hid (O6.out.gw g7); have G7 := Lib.hid (G6.out.trans g7); clear g7 CA)))
          go_roundw
          case rel => exact ⟨j + 1, m6, d6, B6, Q, by go_num, HLT.out, O7.out, by have := HPJ.out; have := HCL.out; omega, G7.out⟩
          case measure => have := HLT.out; simp [intOf]; omega
        · have HOZ := Lib.hid (show ∃ B' m' d', On Y u5 0 T0 ord B' m' d' P from ⟨B, m, d, HOY.out⟩)
          clear CC HB2
          go_wp2_with (go_at_call 12; go_loud (refine (CA.out Y B m d P HOY.out (by have := HPL.out; omega)).mono ?_; rintro e w7 ⟨rfl, g7⟩; have O7 := Lib.hid (HOY.out.gw g7); have G7 := Lib.hid (HGY.out.trans g7); clear g7 CA))
          go_roundw
          case rel => exact ⟨j + 1, m, d, B, P, by go_num, HLT.out, O7.out, by have := HPJ.out; omega, G7.out⟩
          case measure => have := HLT.out; simp [intOf]; omega
    · obtain rfl : j = n := by omega
      have i1 : ¬ (j : Int) < (j : Int) := by omega
      have HG := Lib.hid hG
      clear hO hG hlt hj hpl
      go_wp2
      go_ret
      exact ⟨rfl, HG.out⟩
end Go.Proofs.Ytlhpoliiojekeaa
