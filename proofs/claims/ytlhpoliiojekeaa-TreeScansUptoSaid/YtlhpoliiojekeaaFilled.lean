/- filled: a tree with keys. -/
import Derived.Test.YtlhpoliiojekeaaRefPut
import Derived.Test.YtlhpoliiojekeaaPut
namespace Go.Proofs.Ytlhpoliiojekeaa
set_option maxRecDepth 100000
open Go.RowKit

/-- Texts that a slice in memory leads to. -/
def SA (w : World) (A : Option Addr) (n : Nat) (ks : List ByteArray) : Prop := ks.length = n ∧ (0 < n → ∃ ad, A = some ad ∧ ∀ (j : Nat) k, ks[j]? = some k → w.cell? (ad.add j) = some (.string k))
theorem SA.below {w w' : World} {A : Option Addr} {n : Nat} {ks : List ByteArray} (h : SA w A n ks) (hb : Below w.heap.size w w') : SA w' A n ks :=
  ⟨h.1, fun hn => by
    obtain ⟨ad, e, hc⟩ := h.2 hn
    exact ⟨ad, e, fun j k hk => keep_below (hc j k hk) hb⟩⟩
theorem SA.at_ {w : World} {A : Option Addr} {n j : Nat} {ks : List ByteArray} {k : ByteArray} (h : SA w A n ks) (hk : ks[j]? = some k) : ∃ ad, A = some ad ∧ w.cell? (ad.add j) = some (.string k) := by
  have hlt := (List.getElem?_eq_some_iff.1 hk).1
  obtain ⟨ad, e, hc⟩ := h.2 (by have := h.1; omega)
  exact ⟨ad, e, hc j k hk⟩
/-- The pairs behind the first j keys. -/
def fillN (ks : List ByteArray) : Nat → List Pr
  | 0 => []
  | j + 1 => match ks[j]? with
    | some k => putP (fillN ks j) k (j : Int)
    | none => fillN ks j
theorem fillN_succ {ks : List ByteArray} {j : Nat} {k : ByteArray} (h : ks[j]? = some k) : fillN ks (j + 1) = putP (fillN ks j) k (j : Int) := by simp [fillN, h]
theorem fillN_len (ks : List ByteArray) : ∀ j, (fillN ks j).length ≤ j
  | 0 => Nat.le_refl _
  | j + 1 => by
    have := fillN_len ks j
    unfold fillN
    split
    · rename_i k _
      have := putP_len (fillN ks j) k (j : Int)
      split at this <;> omega
    · omega
theorem Xt.pb {w w' : World} {T : Nat} (h : Xt T w w') (hFo : Fo w T) {A : Option Addr} {n : Nat} {ps : List Pr} (hv : PB w A n ps) : PB w' A n ps := ⟨hv.1, h.vb hFo hv.2⟩
/-- The struct of a tree and what it must have, in block u. -/
def OneAt (w : World) (u T : Nat) (lv : Value) : Prop := w.heap[u]? = some (.cells #[.pointer (some ⟨T, 0, none⟩), lv] 27 (0, 0))
theorem OneAt.fo {w : World} {u T : Nat} {lv : Value} (h : OneAt w u T lv) : Fo w u := ⟨_, _, _, h, by decide, by decide, by decide⟩
theorem OneAt.gw {w w' : World} {u T : Nat} {lv : Value} (h : OneAt w u T lv) (g : Gw w w') : OneAt w' u T lv := (Below.block g u (Array.getElem?_eq_some_iff.1 h).1).trans h
theorem OneAt.xt {w w' : World} {u T U : Nat} {lv : Value} (h : OneAt w u T lv) (g : Xt U w w') (hne : u ≠ U) : OneAt w' u T lv := (g.block u (Array.getElem?_eq_some_iff.1 h).1 hne).trans h
theorem OneAt.set {w : World} {u T : Nat} {lv : Value} (h : OneAt w u T lv) (v : Value) : OneAt (w.setCell ⟨u, 1, none⟩ v) u T v := by
  unfold OneAt at h ⊢
  simp [World.setCell, Array.getElem?_modify, h]

set_option maxHeartbeats 8000000 in
theorem wfilled {w : World} {A : Option Addr} {n c : Nat} {ks : List ByteArray} (h : SA w A n ks) (hn : n ≤ 1048576) (ord : Nat) (h3 : 3 ≤ ord) (h64 : ord ≤ 64) :
    Calls Try.prog 13 #[.int .i64 (ord : Nat), .slice A n c] w fun e w' => ∃ T B m d, e = .returned (.agg #[.pointer (some ⟨T, 0, none⟩), .slice B m d]) ∧ TreeAt w' T ord (fillN ks n) ∧ PB w' B m (fillN ks n) ∧ m ≤ d ∧ Below w.heap.size w w' ∧ w.heap.size ≤ T := by
  have H := Lib.hid h
  have HL := Lib.hid h.1
  have HN := Lib.hid hn
  have CN := Lib.hid fun W => wnewT W ord h3 h64
  clear h hn
  have ZR := heap_alloc_new w (.cells #[.pointer none, .slice none 0 0] 27)
  have ZU := heap_alloc_new (w.alloc (.cells #[.pointer none, .slice none 0 0] 27)) (.cells #[.pointer none, .slice none 0 0] 27)
  have hsz : (w.alloc (.cells #[.pointer none, .slice none 0 0] 27)).heap.size = w.heap.size + 1 := by simp
  rw [hsz] at ZU
  have HZR := Lib.hid ((Below.block (show Below (w.alloc (.cells #[.pointer none, .slice none 0 0] 27)).heap.size _ ((w.alloc (.cells #[.pointer none, .slice none 0 0] 27)).alloc (.cells #[.pointer none, .slice none 0 0] 27)) from (Below.refl _ _).alloc (Nat.le_refl _) _) w.heap.size (by simp)).trans ZR)
  have HZU := Lib.hid ZU
  have HB0 := Lib.hid (show Gw w ((w.alloc (.cells #[.pointer none, .slice none 0 0] 27)).alloc (.cells #[.pointer none, .slice none 0 0] 27)) from ((Gw.refl _).alloc _).alloc _)
  have HS0 := Lib.hid (show ((w.alloc (.cells #[.pointer none, .slice none 0 0] 27)).alloc (.cells #[.pointer none, .slice none 0 0] 27)).heap.size = w.heap.size + 2 by simp)
  clear ZR ZU hsz
  go_enter Try.func13, Try.ntmps13
  go_upto_region 4 with (go_at_call 25; go_loud (refine (CN.out _).mono ?_; rintro e w2 ⟨T, rfl, t2, l2, g2⟩; have u2 : w2.heap[w.heap.size + 1]? = some (.cells #[.pointer none, .slice none 0 0] 27 (0, 0)) := (Below.block g2 _ (by rw [HS0.out]; omega)).trans HZU.out; have r2 : w2.heap[w.heap.size]? = some (.cells #[.pointer none, .slice none 0 0] 27 (0, 0)) := (Below.block g2 _ (by rw [HS0.out]; omega)).trans HZR.out; have d0 : w2.cell? ⟨w.heap.size + 1, 0, none⟩ = some (.pointer none) := (by rw [cell_of_row _ _ _ _ _ _ u2]; rfl); have f0 : w2.frozen? ⟨w.heap.size + 1, 0, none⟩ = false := (by simp [World.frozen?, u2]); have T2 := Lib.hid t2; have L2 := Lib.hid l2; have G2 := Lib.hid g2; have U2 := Lib.hid u2; have R2 := Lib.hid r2; clear t2 l2 g2 CN u2 r2))
  obtain ⟨X0, hX0⟩ : ∃ X0, w2.setCell ⟨w.heap.size + 1, 0, none⟩ (.pointer (some ⟨T, 0, none⟩)) = X0 := ⟨_, rfl⟩
  have hTl : w.heap.size + 2 ≤ T := by have := L2.out; rw [HS0.out] at this; exact this
  have fo2 : Fo w2 (w.heap.size + 1) := ⟨_, _, _, U2.out, by decide, by decide, by decide⟩
  have xt0 : Xt (w.heap.size + 1) w2 X0 := by rw [← hX0]; exact Xt.set (Gw.refl _) 0 _
  have ON0 := Lib.hid (show OneAt X0 (w.heap.size + 1) T (.slice none 0 0) by rw [← hX0]; unfold OneAt; simp [World.setCell, Array.getElem?_modify, U2.out])
  have TR0 := Lib.hid (T2.out.xt xt0 fo2 (by omega))
  have RR0 := Lib.hid ((xt0.block _ (Array.getElem?_eq_some_iff.1 R2.out).1 (by omega)).trans R2.out)
  have BE0 := Lib.hid (Xt.below (HB0.out.trans G2.out) xt0 (by omega))
  rw [hX0]
  clear hX0 d0 f0 fo2 xt0 HZR HZU HB0 HS0 U2 R2 G2 T2
  have HTL := Lib.hid hTl
  obtain ⟨u, hu⟩ : ∃ u, w.heap.size + 1 = u := ⟨_, rfl⟩
  have hru : w.heap.size ≠ u := by omega
  have hru2 : u ≠ w.heap.size := by omega
  rw [hu] at ON0 ⊢
  have HU := Lib.hid hu
  clear hTl hu
  go_loopw [17] (fun i' wr => ∃ (j : Nat) (B : Option Addr) (m d : Nat), i' = .int .i64 (j : Nat) ∧ j ≤ n ∧ OneAt wr u T (.slice B m d) ∧ TreeAt wr T ord (fillN ks j) ∧ PB wr B m (fillN ks j) ∧ m ≤ d ∧ Below w.heap.size w wr ∧ wr.heap[w.heap.size]? = some (.cells #[.pointer none, .slice none 0 0] 27 (0, 0))) (fun i' _ => n - (intOf i').toNat)
  case atStart => exact ⟨0, none, 0, 0, rfl, Nat.zero_le _, ON0.out, TR0.out, ⟨rfl, VB.empty _ _⟩, Nat.le_refl _, BE0.out, RR0.out⟩
  case round =>
    rename World => wr
    obtain ⟨j, B, m, d, rfl, hj, hO, hT, hP, hmd, hB, hR⟩ := hrel
    have c0 : wr.cell? ⟨u, 0, none⟩ = some (.pointer (some ⟨T, 0, none⟩)) := by rw [cell_of_row _ _ _ _ _ _ hO]; rfl
    have c1 : wr.cell? ⟨u, 1, none⟩ = some (.slice B m d) := by rw [cell_of_row _ _ _ _ _ _ hO]; rfl
    have hTu : T ≠ u := by have := HTL.out; have := HU.out; omega
    by_cases hlt : j < n
    · obtain ⟨k, hk⟩ : ∃ k, ks[j]? = some k := ⟨_, List.getElem?_eq_getElem (by have := HL.out; omega)⟩
      obtain ⟨ad, hA, ck⟩ := (H.out.below hB).at_ hk
      subst hA
      have hjl := fillN_len ks j
      have hns := fillN_succ hk
      have hpl := hP.1
      have hn' := HN.out
      have i1 : (j : Int) < (n : Int) := by omega
      have CP := Lib.hid (wputT hT (by omega) k (j : Int))
      have CRP := Lib.hid fun W (h : PB W B m (fillN ks j)) => wrefPut (c := d) h (by omega) hmd k (j : Int)
      rw [← hns] at CP CRP
      have KK := Lib.hid (show ∀ w5 w6 v, Xt T wr w5 → TreeAt w5 T ord (fillN ks (j + 1)) → Gw w5 w6 → PO w5.heap.size w6 v (fillN ks (j + 1)) → ∃ (B' : Option Addr) (m' d' : Nat), v = .slice B' m' d' ∧ OneAt (w6.setCell ⟨u, 1, none⟩ v) u T (.slice B' m' d') ∧ TreeAt (w6.setCell ⟨u, 1, none⟩ v) T ord (fillN ks (j + 1)) ∧ PB (w6.setCell ⟨u, 1, none⟩ v) B' m' (fillN ks (j + 1)) ∧ m' ≤ d' ∧ Below w.heap.size w (w6.setCell ⟨u, 1, none⟩ v) ∧ (w6.setCell ⟨u, 1, none⟩ v).heap[w.heap.size]? = some (.cells #[.pointer none, .slice none 0 0] 27 (0, 0)) from fun w5 w6 v x5 t5 g6 o6 => by
        obtain ⟨B', d', rfl, p6, hd, -⟩ := o6.form
        have on6 := (hO.xt x5 hTu.symm).gw g6
        have xs : Xt u w6 (w6.setCell ⟨u, 1, none⟩ (.slice B' (fillN ks (j + 1)).length d')) := Xt.set (Gw.refl _) 1 _
        have b6 : Below w.heap.size w w6 := (Xt.below hB x5 (by have := HTL.out; omega)).trans (Below.mono g6 (Nat.le_trans hB.size x5.size))
        have r6 := ((x5.block _ (Array.getElem?_eq_some_iff.1 hR).1 (by have := HTL.out; omega)).trans hR)
        have r6 := (Below.block g6 _ (Array.getElem?_eq_some_iff.1 r6).1).trans r6
        exact ⟨B', _, d', rfl, on6.set _, (t5.below g6).xt xs on6.fo hTu, xs.pb on6.fo p6, hd, Xt.below b6 xs (by have := HU.out; omega), (xs.block _ (Array.getElem?_eq_some_iff.1 r6).1 hru).trans r6⟩)
      have CX := Lib.hid (show ∀ w5, Xt T wr w5 → w5.cell? ⟨u, 0, none⟩ = some (.pointer (some ⟨T, 0, none⟩)) ∧ w5.cell? ⟨u, 1, none⟩ = some (.slice B m d) ∧ PB w5 B m (fillN ks j) from fun w5 x5 => ⟨x5.cell c0 hTu.symm, x5.cell c1 hTu.symm, x5.pb hT.fo hP⟩)
      have FX := Lib.hid (show ∀ w5 w6, Xt T wr w5 → Gw w5 w6 → w6.cell? ⟨u, 1, none⟩ = some (.slice B m d) ∧ w6.frozen? ⟨u, 1, none⟩ = false from fun w5 w6 x5 g6 => by
        have on6 := (hO.xt x5 hTu.symm).gw g6
        exact ⟨by rw [cell_of_row _ _ _ _ _ _ on6]; rfl, by unfold OneAt at on6; simp [World.frozen?, on6]⟩)
      have HLT := Lib.hid hlt
      have hjb : (j : Int) ≤ 1048576 := by omega
      clear hk hjl hns hpl hlt hj hO hT hP hmd hB hR hTu hn'
      go_wp2_with (first
        | (go_at_call 17; go_loud (refine CP.out.mono ?_; rintro e w5 ⟨rfl, t5, x5⟩; obtain ⟨c05, c15, p5⟩ := CX.out w5 x5; have T5 := Lib.hid t5; have X5 := Lib.hid x5; have P5 := Lib.hid p5; clear t5 x5 p5 CP))
        | (go_at_call 26; go_loud (refine (CRP.out _ P5.out).mono ?_; rintro e w6 ⟨v6, rfl, o6, g6⟩; obtain ⟨B', m', d', hv, k1, k2, k3, k4, k5, k6⟩ := KK.out _ _ _ X5.out T5.out g6 o6; obtain ⟨c16, f16⟩ := FX.out _ _ X5.out g6; subst hv; have K1 := Lib.hid k1; have K2 := Lib.hid k2; have K3 := Lib.hid k3; have K4 := Lib.hid k4; have K5 := Lib.hid k5; have K6 := Lib.hid k6; clear o6 g6 k1 k2 k3 k4 k5 k6 CRP)))
      go_roundw
      case rel => exact ⟨j + 1, B', m', d', by go_num, HLT.out, K1.out, K2.out, K3.out, K4.out, K5.out, K6.out⟩
      case measure => have := HLT.out; simp [intOf]; omega
    · obtain rfl : j = n := by omega
      have i1 : ¬ (j : Int) < (j : Int) := by omega
      have r0 : wr.cell? ⟨w.heap.size, 0, none⟩ = some (.pointer none) := by rw [cell_of_row _ _ _ _ _ _ hR]; rfl
      have r1 : wr.cell? ⟨w.heap.size, 1, none⟩ = some (.slice none 0 0) := by rw [cell_of_row _ _ _ _ _ _ hR]; rfl
      have fr0 : wr.frozen? ⟨w.heap.size, 0, none⟩ = false := by simp [World.frozen?, hR]
      have fr1 : wr.frozen? ⟨w.heap.size, 1, none⟩ = false := by simp [World.frozen?, hR]
      have foR : Fo wr w.heap.size := ⟨_, _, _, hR, by decide, by decide, by decide⟩
      have FIN := Lib.hid (show ∀ v v', TreeAt ((wr.setCell ⟨w.heap.size, 0, none⟩ v).setCell ⟨w.heap.size, 1, none⟩ v') T ord (fillN ks j) ∧ PB ((wr.setCell ⟨w.heap.size, 0, none⟩ v).setCell ⟨w.heap.size, 1, none⟩ v') B m (fillN ks j) ∧ Below w.heap.size w ((wr.setCell ⟨w.heap.size, 0, none⟩ v).setCell ⟨w.heap.size, 1, none⟩ v') from fun v v' => by
        have x1 : Xt w.heap.size wr (wr.setCell ⟨w.heap.size, 0, none⟩ v) := Xt.set (Gw.refl _) 0 _
        have x2 : Xt w.heap.size (wr.setCell ⟨w.heap.size, 0, none⟩ v) ((wr.setCell ⟨w.heap.size, 0, none⟩ v).setCell ⟨w.heap.size, 1, none⟩ v') := Xt.set (Gw.refl _) 1 _
        have x := x1.trans x2
        exact ⟨hT.xt x foR (by have := HTL.out; omega), x.pb foR hP, Xt.below hB x (Nat.le_refl _)⟩)
      have HMD := Lib.hid hmd
      have HCE := Lib.hid (show ∀ v v', ((wr.setCell ⟨w.heap.size, 0, none⟩ v).setCell ⟨w.heap.size, 1, none⟩ v').cell? ⟨w.heap.size, 0, none⟩ = some v ∧ ((wr.setCell ⟨w.heap.size, 0, none⟩ v).setCell ⟨w.heap.size, 1, none⟩ v').cell? ⟨w.heap.size, 1, none⟩ = some v' from fun v v' => by
        have hR' : ((wr.setCell ⟨w.heap.size, 0, none⟩ v).setCell ⟨w.heap.size, 1, none⟩ v').heap[w.heap.size]? = some (.cells #[v, v'] 27 (0, 0)) := by simp [World.setCell, Array.getElem?_modify, hR]
        exact ⟨by rw [cell_of_row _ _ _ _ _ _ hR']; rfl, by rw [cell_of_row _ _ _ _ _ _ hR']; rfl⟩)
      clear hO hT hP hmd hB hR hTu hj hlt foR
      go_wp2
      have E0 := Lib.hid (HCE.out (.pointer (some ⟨T, 0, none⟩)) (.slice B m d))
      obtain ⟨f1, f2, f3⟩ := FIN.out (.pointer (some ⟨T, 0, none⟩)) (.slice B m d)
      refine bodyPost_ret (v := .agg #[.pointer (some ⟨T, 0, none⟩), .slice B m d]) (by simp [results, Try.results13, go_sem, E0.out.1, E0.out.2]) rfl ⟨T, B, m, d, rfl, f1, f2, HMD.out, f3, by have := HTL.out; omega⟩
end Go.Proofs.Ytlhpoliiojekeaa
