/- asks of the kind Nodes, wherever the struct lies; begun. -/
import Derived.Test.YtlhpoliiojekeaaChanges
namespace Go.Proofs.Ytlhpoliiojekeaa
set_option maxRecDepth 100000
open Go.RowKit

set_option maxHeartbeats 16000000 in
theorem wasksF {w : World} {u f T ord m e : Nat} {B : Option Addr} {ps : List Pr} (hO : On w u f T ord B m e ps) (hp : ps.length ≤ 1048576) (o1 : Bool) (k k2 : ByteArray) (z : Int) (i : Int) (bey : Bool) :
    Calls Try.prog 12 #[.pointer (some ⟨u, f, none⟩), .agg #[.int .i64 8, .bool o1, .string k, .string k2, .int .i64 z, .int .i64 i, .bool bey], .int .i64 (ord : Nat)] w fun e w' => e = .returned (.bool true) ∧ Gw w w' := by
  obtain ⟨W, hW⟩ : ∃ W, w.alloc (.cells #[.int .i64 8, .bool o1, .string k, .string k2, .int .i64 z, .int .i64 i, .bool bey] 33) = W := ⟨_, rfl⟩
  have ha := heap_alloc_new w (.cells #[.int .i64 8, .bool o1, .string k, .string k2, .int .i64 z, .int .i64 i, .bool bey] 33)
  rw [hW] at ha
  have hG := Lib.hid (show Gw w W by rw [← hW]; exact (Gw.refl _).alloc _)
  have c0 : W.cell? ⟨w.heap.size, 0, none⟩ = some (.int .i64 8) := by rw [cell_of_row _ _ _ _ _ _ ha]; rfl
  have hT := hO.tr
  have hP := hO.pb
  have hOW := hO.gw hG.out
  have u0 := hOW.c0
  have u1 := hOW.c1
  have HT := Lib.hid (hT.below (hG.out.drew))
  have HP := Lib.hid (show PB W B m ps from ⟨hP.1, hP.2.gw hG.out⟩)
  have HPL := Lib.hid hp
  have HML := Lib.hid hP.1
  have CN := Lib.hid (wnodes HT.out (by omega))
  have KS := Lib.hid (show ∀ X, Gw W X → X.cell? ⟨u, f, none⟩ = some (.pointer (some ⟨T, 0, none⟩)) ∧ X.cell? ⟨u, f + 1, none⟩ = some (.slice B m e) from fun X hX => ⟨keep_below u0 hX, keep_below u1 hX⟩)
  clear ha hO hT hP hp hOW u0 u1
  go_enter Try.func12, Try.ntmps12
  go_upto_region 19 with fail
  clear hW
  have hS0 := KS.out _ (Gw.refl W)
  go_region_held3 (fun w' => w'.cell? ⟨u, f, none⟩ = some (.pointer (some ⟨T, 0, none⟩)) ∧ w'.cell? ⟨u, f + 1, none⟩ = some (.slice B m e)) (first | exact hS0 | exact KS.out _ B3.out | exact KS.out _ B4.out)
    (first
      | ((go_at_call 22; go_loud (refine CN.out.mono ?_; rintro e w3 h3; obtain ⟨A, n, c, D, rfl, g3, n4, fl, d9, o3, o64, -, CF⟩ := h3.look HT.out HPL.out; have B3 := Lib.hid (show Gw W w3 from ((Gw.refl W).drew).trans g3); have FL := Lib.hid fl; have HD := Lib.hid (And.intro d9 (And.intro o3 o64)); have CF := Lib.hid CF; clear h3 g3 n4 fl d9 o3 o64 CN)))
      | ((go_at_call 23; go_loud (refine (CF.out _ B m e (Gw.refl _) ⟨HP.out.1, HP.out.2.gw B3.out⟩).mono ?_; rintro e w4 ⟨rfl, g4⟩; have B4 := Lib.hid (B3.out.trans g4); clear g4 CF))))
  go_upto_region 20 with fail
  have u1 := (KS.out _ B4.out).2
  have CFL := Lib.hid (fun X => wflat X ord D m HD.out.2.1 HD.out.2.2 (by have := HML.out; have := HPL.out; omega) (by have := HD.out.1; omega) (by rw [← HML.out]; exact FL.out))
  go_wp2_with (go_at_call 35; go_loud (refine (CFL.out _).mono ?_; rintro e w5 ⟨rfl, hw⟩; replace hw := hw.symm; subst hw))

  go_ret
  exact ⟨rfl, hG.out.trans B4.out⟩

theorem wnewBad (w : World) (a : Int) (h : a < 3 ∨ 64 < a) : Calls Try.prog 25 #[.int .i64 a] w fun e w' => e = .returned (.tuple #[.pointer none, .int .i64 1]) ∧ Gw w w' := by
  rcases h with h | h
  · go_enter Try.func25, Try.ntmps25
    go_wp2
    go_ret2
    exact ⟨rfl, Gw.refl _⟩
  · have h2 : ¬ a < 3 := by omega
    go_enter Try.func25, Try.ntmps25
    go_wp2
    go_ret2
    exact ⟨rfl, Gw.refl _⟩

/-- A block of four cells is written whole. -/
theorem set4 {w0 w : World} {g : Nat} {a b c d : Value} {e : TypeId} (g0 : Gw w0 w) (hg : w0.heap.size ≤ g) (h : w.heap[g]? = some (.cells #[a, b, c, d] e (0, 0))) (v0 v1 v2 v3 : Value) :
    ((((w.setCell ⟨g, 0, none⟩ v0).setCell ⟨g, 1, none⟩ v1).setCell ⟨g, 2, none⟩ v2).setCell ⟨g, 3, none⟩ v3).heap[g]? = some (.cells #[v0, v1, v2, v3] e (0, 0)) ∧ Gw w0 ((((w.setCell ⟨g, 0, none⟩ v0).setCell ⟨g, 1, none⟩ v1).setCell ⟨g, 2, none⟩ v2).setCell ⟨g, 3, none⟩ v3) ∧ Xt g w ((((w.setCell ⟨g, 0, none⟩ v0).setCell ⟨g, 1, none⟩ v1).setCell ⟨g, 2, none⟩ v2).setCell ⟨g, 3, none⟩ v3) := by
  obtain ⟨r0, g1⟩ := bx0 g0 hg h v0
  obtain ⟨r1, g2⟩ := bx1 g1 hg r0 v1
  obtain ⟨r2, g3⟩ := bx2 g2 hg r1 v2
  obtain ⟨r3, g4⟩ := bx3 g3 hg r2 v3
  exact ⟨r3, g4, (((Xt.set (Gw.refl _) 0 v0).trans (Xt.set (Gw.refl _) 1 v1)).trans (Xt.set (Gw.refl _) 2 v2)).trans (Xt.set (Gw.refl _) 3 v3)⟩

set_option maxHeartbeats 8000000 in
theorem wbegunBad (w : World) (a : Int) (h : a < 3 ∨ 64 < a) : Calls Try.prog 9 #[.int .i64 a] w fun e w' => e = .returned (.tuple #[.agg #[.pointer none, .slice none 0 0, .pointer none, .slice none 0 0], .bool false, .bool true]) ∧ Gw w w' := by
  have CB := Lib.hid fun X => wnewBad X a h
  have ZR := heap_alloc_new w (.cells #[.pointer none, .slice none 0 0, .pointer none, .slice none 0 0] 28)
  have ZU := heap_alloc_new (w.alloc (.cells #[.pointer none, .slice none 0 0, .pointer none, .slice none 0 0] 28)) (.cells #[.pointer none, .slice none 0 0, .pointer none, .slice none 0 0] 28)
  have hsz : (w.alloc (.cells #[.pointer none, .slice none 0 0, .pointer none, .slice none 0 0] 28)).heap.size = w.heap.size + 1 := by simp
  rw [hsz] at ZU
  obtain ⟨W0, hW0⟩ : ∃ W0, (w.alloc (.cells #[.pointer none, .slice none 0 0, .pointer none, .slice none 0 0] 28)).alloc (.cells #[.pointer none, .slice none 0 0, .pointer none, .slice none 0 0] 28) = W0 := ⟨_, rfl⟩
  have G0 := Lib.hid (show Gw w W0 by rw [← hW0]; exact ((Gw.refl _).alloc _).alloc _)
  have R0 := Lib.hid (show W0.heap[w.heap.size]? = some (((.cells #[.pointer none, .slice none 0 0, .pointer none, .slice none 0 0] 28) : Obj)) by rw [← hW0]; exact (Below.block (show Gw (w.alloc (.cells #[.pointer none, .slice none 0 0, .pointer none, .slice none 0 0] 28)) _ from (Gw.refl _).alloc _) w.heap.size (by simp)).trans ZR)
  rw [hW0] at ZU
  have U0 := Lib.hid ZU
  have S0 := Lib.hid (show W0.heap.size = w.heap.size + 2 by rw [← hW0]; simp)
  clear ZR ZU hsz
  rcases h with h | h
  · go_enter Try.func9, Try.ntmps9
    go_upto_region 3 with fail
    clear hW0
    go_loopw [9] (fun r' wr => r' = .int .i64 0 ∧ wr = W0) (fun r' _ => 2 - (intOf r').toNat)
    case atStart => exact ⟨rfl, rfl⟩
    case round =>
      obtain ⟨rfl, rfl⟩ := hrel
      go_upto_region 7 with (go_at_call 25; go_loud (refine (CB.out _).mono ?_; rintro e w3 ⟨rfl, g3⟩; have G3 := Lib.hid g3; clear g3 CB))
      have rw3 := (Below.block G3.out _ (Array.getElem?_eq_some_iff.1 U0.out).1).trans U0.out
      have rr3 := (Below.block G3.out _ (Array.getElem?_eq_some_iff.1 R0.out).1).trans R0.out
      obtain ⟨q0, q1, q2, q3, -⟩ := bx_cells rw3
      obtain ⟨p0, p1, p2, p3, fr⟩ := bx_cells rr3
      have H4 := set4 (G0.out.trans G3.out) (Nat.le_refl _) rr3 (.pointer none) (.slice none 0 0) (.pointer none) (.slice none 0 0)
      have f0 := fr 0
      have f1 := fr 1
      have f2 := fr 2
      have f3 := fr 3
      have HH := Lib.hid H4
      clear rw3 rr3 fr H4
      go_wp2
      obtain ⟨E0, E1, E2, E3, -⟩ := bx_cells HH.out.1
      exact bodyPost_ret (v := .tuple #[.agg #[.pointer none, .slice none 0 0, .pointer none, .slice none 0 0], .bool false, .bool true]) (by simp [results, Try.results9, go_sem, E0, E1, E2, E3]) rfl ⟨rfl, HH.out.2.1⟩
  · have h2 : ¬ a < 3 := by omega
    go_enter Try.func9, Try.ntmps9
    go_upto_region 3 with fail
    clear hW0
    go_loopw [9] (fun r' wr => r' = .int .i64 0 ∧ wr = W0) (fun r' _ => 2 - (intOf r').toNat)
    case atStart => exact ⟨rfl, rfl⟩
    case round =>
      obtain ⟨rfl, rfl⟩ := hrel
      go_upto_region 7 with (go_at_call 25; go_loud (refine (CB.out _).mono ?_; rintro e w3 ⟨rfl, g3⟩; have G3 := Lib.hid g3; clear g3 CB))
      have rw3 := (Below.block G3.out _ (Array.getElem?_eq_some_iff.1 U0.out).1).trans U0.out
      have rr3 := (Below.block G3.out _ (Array.getElem?_eq_some_iff.1 R0.out).1).trans R0.out
      obtain ⟨q0, q1, q2, q3, -⟩ := bx_cells rw3
      obtain ⟨p0, p1, p2, p3, fr⟩ := bx_cells rr3
      have H4 := set4 (G0.out.trans G3.out) (Nat.le_refl _) rr3 (.pointer none) (.slice none 0 0) (.pointer none) (.slice none 0 0)
      have f0 := fr 0
      have f1 := fr 1
      have f2 := fr 2
      have f3 := fr 3
      have HH := Lib.hid H4
      clear rw3 rr3 fr H4
      go_wp2
      obtain ⟨E0, E1, E2, E3, -⟩ := bx_cells HH.out.1
      exact bodyPost_ret (v := .tuple #[.agg #[.pointer none, .slice none 0 0, .pointer none, .slice none 0 0], .bool false, .bool true]) (by simp [results, Try.results9, go_sem, E0, E1, E2, E3]) rfl ⟨rfl, HH.out.2.1⟩

set_option maxHeartbeats 16000000 in
theorem wbegun (w : World) (ord : Nat) (h3 : 3 ≤ ord) (h64 : ord ≤ 64) : Calls Try.prog 9 #[.int .i64 (ord : Nat)] w fun e w' => ∃ T0 T1, e = .returned (.tuple #[.agg #[.pointer (some ⟨T0, 0, none⟩), .slice none 0 0, .pointer (some ⟨T1, 0, none⟩), .slice none 0 0], .bool true, .bool true]) ∧ TreeAt w' T0 ord [] ∧ TreeAt w' T1 ord [] ∧ w.heap.size ≤ T0 ∧ T0 < T1 ∧ Gw w w' := by
  have CN := Lib.hid fun X => wnewT X ord h3 h64
  have h3' : ¬ (ord : Int) < 3 := by omega
  have h64' : ¬ (64 : Int) < (ord : Int) := by omega
  have ZR := heap_alloc_new w (.cells #[.pointer none, .slice none 0 0, .pointer none, .slice none 0 0] 28)
  have ZU := heap_alloc_new (w.alloc (.cells #[.pointer none, .slice none 0 0, .pointer none, .slice none 0 0] 28)) (.cells #[.pointer none, .slice none 0 0, .pointer none, .slice none 0 0] 28)
  have hsz : (w.alloc (.cells #[.pointer none, .slice none 0 0, .pointer none, .slice none 0 0] 28)).heap.size = w.heap.size + 1 := by simp
  rw [hsz] at ZU
  obtain ⟨W0, hW0⟩ : ∃ W0, (w.alloc (.cells #[.pointer none, .slice none 0 0, .pointer none, .slice none 0 0] 28)).alloc (.cells #[.pointer none, .slice none 0 0, .pointer none, .slice none 0 0] 28) = W0 := ⟨_, rfl⟩
  have G0 := Lib.hid (show Gw w W0 by rw [← hW0]; exact ((Gw.refl _).alloc _).alloc _)
  have R0 := Lib.hid (show W0.heap[w.heap.size]? = some (((.cells #[.pointer none, .slice none 0 0, .pointer none, .slice none 0 0] 28) : Obj)) by rw [← hW0]; exact (Below.block (show Gw (w.alloc (.cells #[.pointer none, .slice none 0 0, .pointer none, .slice none 0 0] 28)) _ from (Gw.refl _).alloc _) w.heap.size (by simp)).trans ZR)
  rw [hW0] at ZU
  have U0 := Lib.hid ZU
  have S0 := Lib.hid (show W0.heap.size = w.heap.size + 2 by rw [← hW0]; simp)
  clear ZR ZU hsz
  go_enter Try.func9, Try.ntmps9
  go_upto_region 3 with fail
  clear hW0
  have hr0 := R0.out
  go_loopw [9] (fun r' wr => (r' = .int .i64 0 ∧ wr = W0) ∨ (∃ T0, r' = .int .i64 1 ∧ wr.heap[w.heap.size + 1]? = some (.cells #[.pointer (some ⟨T0, 0, none⟩), .slice none 0 0, .pointer none, .slice none 0 0] 28 (0, 0)) ∧ wr.heap[w.heap.size]? = some (.cells #[.pointer none, .slice none 0 0, .pointer none, .slice none 0 0] 28 (0, 0)) ∧ TreeAt wr T0 ord [] ∧ w.heap.size + 2 ≤ T0 ∧ Gw w wr) ∨
      (∃ T0 T1, r' = .int .i64 2 ∧ wr.heap[w.heap.size + 1]? = some (.cells #[.pointer (some ⟨T0, 0, none⟩), .slice none 0 0, .pointer (some ⟨T1, 0, none⟩), .slice none 0 0] 28 (0, 0)) ∧ wr.heap[w.heap.size]? = some (.cells #[.pointer none, .slice none 0 0, .pointer none, .slice none 0 0] 28 (0, 0)) ∧ TreeAt wr T0 ord [] ∧ TreeAt wr T1 ord [] ∧ w.heap.size + 2 ≤ T0 ∧ T0 < T1 ∧ Gw w wr)) (fun r' _ => 2 - (intOf r').toNat)
  case atStart => exact .inl ⟨rfl, rfl⟩
  case round =>
    clear hr0
    rcases hrel with ⟨rfl, rfl⟩ | ⟨T0, rfl, hu, hr, ht, hl, hg⟩ | ⟨T0, T1, rfl, hu, hr, ht, ht1, hl, hlt, hg⟩
    · go_upto_region 10 with (go_at_call 25; go_loud (refine (CN.out _).mono ?_; rintro e w3 ⟨T, rfl, t3, l3, g3⟩; have T3 := Lib.hid t3; have L3 := Lib.hid l3; have G3 := Lib.hid g3; clear t3 l3 g3))
      have rw3 := (Below.block G3.out _ (Array.getElem?_eq_some_iff.1 U0.out).1).trans U0.out
      have rr3 := (Below.block G3.out _ (Array.getElem?_eq_some_iff.1 R0.out).1).trans R0.out
      obtain ⟨q0, -, -, -, fr⟩ := bx_cells rw3
      have f0 := fr 0
      have hl3 := L3.out
      rw [S0.out] at hl3
      have fo : Fo w3 (w.heap.size + 1) := ⟨_, _, _, rw3, by decide, by decide, by decide⟩
      have NX := Lib.hid (show ∀ v, v = Value.pointer (some ⟨T, 0, none⟩) → let X := w3.setCell ⟨w.heap.size + 1, 0, none⟩ v; X.heap[w.heap.size + 1]? = some (.cells #[.pointer (some ⟨T, 0, none⟩), .slice none 0 0, .pointer none, .slice none 0 0] 28 (0, 0)) ∧ X.heap[w.heap.size]? = some (.cells #[.pointer none, .slice none 0 0, .pointer none, .slice none 0 0] 28 (0, 0)) ∧ TreeAt X T ord [] ∧ w.heap.size + 2 ≤ T ∧ Gw w X from fun v hv => by
        subst hv
        have xs : Xt (w.heap.size + 1) w3 (w3.setCell ⟨w.heap.size + 1, 0, none⟩ (.pointer (some ⟨T, 0, none⟩))) := Xt.set (Gw.refl _) 0 _
        have b0 := bx0 (G0.out.trans G3.out) (Nat.le_succ _) rw3 (.pointer (some ⟨T, 0, none⟩))
        exact ⟨b0.1, (xs.block _ (Array.getElem?_eq_some_iff.1 rr3).1 (by omega)).trans rr3, T3.out.xt xs fo (by omega), hl3, b0.2⟩)
      clear rw3 rr3 fr hl3 fo
      go_wp2
      go_roundw
      case rel => obtain ⟨n1, n2, n3, n4, n5⟩ := NX.out _ rfl; exact .inr (.inl ⟨T, by first | rfl | go_num, n1, n2, n3, n4, n5⟩)
      case measure => simp [intOf]
    · have HG := Lib.hid hg
      have HT := Lib.hid ht
      have HU := Lib.hid hu
      have HR := Lib.hid hr
      have HL := Lib.hid hl
      clear hg ht hu hr hl
      rename World => wr
      go_upto_region 10 with (go_at_call 25; go_loud (refine (CN.out _).mono ?_; rintro e w3 ⟨T, rfl, t3, l3, g3⟩; have T3 := Lib.hid t3; have L3 := Lib.hid l3; have G3 := Lib.hid (show Gw wr w3 from g3); clear t3 l3 g3))
      have rw3 := (Below.block G3.out _ (Array.getElem?_eq_some_iff.1 HU.out).1).trans HU.out
      have rr3 := (Below.block G3.out _ (Array.getElem?_eq_some_iff.1 HR.out).1).trans HR.out
      obtain ⟨-, -, q2, -, fr⟩ := bx_cells rw3
      have f2 := fr 2
      have hl3 := L3.out
      have hT0 := HT.out.lt
      have hl := HL.out
      have fo : Fo w3 (w.heap.size + 1) := ⟨_, _, _, rw3, by decide, by decide, by decide⟩
      have NX := Lib.hid (show ∀ v, v = Value.pointer (some ⟨T, 0, none⟩) → let X := w3.setCell ⟨w.heap.size + 1, 2, none⟩ v; X.heap[w.heap.size + 1]? = some (.cells #[.pointer (some ⟨T0, 0, none⟩), .slice none 0 0, .pointer (some ⟨T, 0, none⟩), .slice none 0 0] 28 (0, 0)) ∧ X.heap[w.heap.size]? = some (.cells #[.pointer none, .slice none 0 0, .pointer none, .slice none 0 0] 28 (0, 0)) ∧ TreeAt X T0 ord [] ∧ TreeAt X T ord [] ∧ w.heap.size + 2 ≤ T0 ∧ T0 < T ∧ Gw w X from fun v hv => by
        subst hv
        have xs : Xt (w.heap.size + 1) w3 (w3.setCell ⟨w.heap.size + 1, 2, none⟩ (.pointer (some ⟨T, 0, none⟩))) := Xt.set (Gw.refl _) 2 _
        have b0 := bx2 (HG.out.trans G3.out) (Nat.le_succ _) rw3 (.pointer (some ⟨T, 0, none⟩))
        exact ⟨b0.1, (xs.block _ (Array.getElem?_eq_some_iff.1 rr3).1 (by omega)).trans rr3, (HT.out.below G3.out).xt xs fo (by omega), T3.out.xt xs fo (by omega), hl, by omega, b0.2⟩)
      clear rw3 rr3 fr hl3 fo hT0 hl
      go_wp2
      go_roundw
      case rel => obtain ⟨n1, n2, n3, n4, n5, n6, n7⟩ := NX.out _ rfl; exact .inr (.inr ⟨T0, T, by first | rfl | go_num, n1, n2, n3, n4, n5, n6, n7⟩)
      case measure => simp [intOf]
    · rename World => wrr
      have H4 := set4 hg (Nat.le_refl _) hr (.pointer (some ⟨T0, 0, none⟩)) (.slice none 0 0) (.pointer (some ⟨T1, 0, none⟩)) (.slice none 0 0)
      have fo : Fo wrr w.heap.size := ⟨_, _, _, hr, by decide, by decide, by decide⟩
      obtain ⟨q0, q1, q2, q3, -⟩ := bx_cells hu
      obtain ⟨p0, p1, p2, p3, fr⟩ := bx_cells hr
      have FIN := Lib.hid (And.intro H4.1 (And.intro (ht.xt H4.2.2 fo (by omega)) (And.intro (ht1.xt H4.2.2 fo (by omega)) (And.intro (show w.heap.size ≤ T0 by omega) (And.intro hlt H4.2.1)))))
      have f0 := fr 0
      have f1 := fr 1
      have f2 := fr 2
      have f3 := fr 3
      clear hg ht ht1 hu hr hl hlt H4 fo fr
      go_wp2
      obtain ⟨E0, E1, E2, E3, -⟩ := bx_cells FIN.out.1
      exact bodyPost_ret (v := .tuple #[.agg #[.pointer (some ⟨T0, 0, none⟩), .slice none 0 0, .pointer (some ⟨T1, 0, none⟩), .slice none 0 0], .bool true, .bool true]) (by simp [results, Try.results9, go_sem, E0, E1, E2, E3]) rfl ⟨T0, T1, rfl, FIN.out.2⟩
end Go.Proofs.Ytlhpoliiojekeaa
