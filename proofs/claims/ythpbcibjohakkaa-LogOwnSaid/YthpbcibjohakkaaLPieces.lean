/- The call readPieces. -/
import Derived.Test.YthpbcibjohakkaaLFind
namespace Go.Proofs.Ythpbcibjohakkaa
set_option maxRecDepth 100000
set_option maxRecDepth 100000
open Go.RowKit

/-- A piece, and where its bytes lie. -/
structure PV where
  p : Pc
  A : Option Addr
  n : Nat
  c : Nat
def PV.cells (x : PV) : List Value := [.int .u64 (x.p.stamp : Int), .int .i64 (x.p.len : Int), .int .i64 (x.p.num : Int), .slice x.A x.n x.c]
def pv0 : PV := ⟨Pc.no, none, 0, 0⟩
theorem PV.len4 (x : PV) : x.cells.length = 4 := rfl
theorem PV.one (x : PV) : ∀ v ∈ x.cells, v.oneCell' = true := fun v hv => by
  simp [PV.cells] at hv
  rcases hv with rfl | rfl | rfl | rfl <;> rfl
/-- A row of pieces. -/
structure PcsAt (w : World) (base g K : Nat) (xs : List PV) : Prop where
  own : w.ownsRow base 86 4 (.slice (some ⟨g, 0, none⟩) K K) K (xs.flatMap PV.cells)
  len : xs.length = K
  is : ∀ x ∈ xs, PcIs w x.p x.A x.n x.c
theorem pcis_below {w w' : World} {p : Pc} {A : Option Addr} {n c : Nat} (h : PcIs w p A n c) (hb : Below w.heap.size w w') : PcIs w' p A n c := ⟨h.1.below' hb, h.2⟩
theorem PcsAt.below {w w' : World} {base g K : Nat} {xs : List PV} (h : PcsAt w base g K xs) (hb : Below w.heap.size w w') : PcsAt w' base g K xs :=
  ⟨own_stays h.own fun k e => hb.block k (h.own.lt k e).2, h.len, fun x hx => pcis_below (h.is x hx) hb⟩
theorem PcsAt.drew {w : World} {base g K : Nat} {xs : List PV} (h : PcsAt w base g K xs) : PcsAt w.drew base g K xs := h.below ⟨rfl, rfl, rfl, Nat.le_refl _, fun _ _ => rfl⟩
/-- Bytes lie in no row of pieces. -/
theorem PcsAt.far {w : World} {base g K : Nat} {xs : List PV} (h : PcsAt w base g K xs) {A : Option Addr} {n : Nat} {zs : List Int} (hr : RB w A n zs) : ∀ ad, A = some ad → 0 < n → ad.block ≠ g := fun ad e hn he => by
  subst e
  obtain ⟨b, o, rfl⟩ := spot_add (w := w) (rb_spot hr hn).1
  simp only at he
  subst he
  obtain ⟨ad, e, hc⟩ := hr.cell hn
  cases e
  have hc0 := hc 0 hn
  rw [Addr.add_mid, Nat.add_zero] at hc0
  rcases h.own.2 with ⟨h0, _⟩ | ⟨g', cap, cur, hv, _, hh, _, _, hcs, htake⟩
  · cases h0
  · injection hv with e1 e2 e3
    injection e1 with e1
    injection e1 with e1 _ _
    subst e1
    rw [cell_of_row _ _ _ _ _ _ hh] at hc0
    have hl : xs.flatMap PV.cells = cur.toList := by rw [← htake, List.take_of_length_le (by rw [Array.length_toList, hcs, ← e3]; exact Nat.le_refl _)]
    have hm : Value.int .u8 (zs.getD 0 0) ∈ xs.flatMap PV.cells := by
      rw [hl]
      exact Array.mem_toList_iff.2 (Array.mem_of_getElem? hc0)
    obtain ⟨x, _, hx⟩ := List.mem_flatMap.1 hm
    simp [PV.cells] at hx
/-- One piece anew. -/
theorem PcsAt.set {w : World} {base g K : Nat} {xs : List PV} (h : PcsAt w base g K xs) (i : Nat) (hi : i < K) (x : PV) (hx : PcIs w x.p x.A x.n x.c) :
    PcsAt (w.setCells g (i * 4) x.cells) base g K (xs.set i x) := by
  have h1 := own_setCells x.cells (i * 4) h.own
  rw [flat_put xs (fun y _ => PV.len4 y) i (by rw [h.len]; exact hi) x (PV.len4 x)] at h1
  have keep : ∀ (y : PV), PcIs w y.p y.A y.n y.c → PcIs (w.setCells g (i * 4) x.cells) y.p y.A y.n y.c := fun y hy =>
    ⟨⟨hy.1.len, hy.1.byte, fun hn => by
      obtain ⟨ad, e, hc⟩ := hy.1.cell hn
      exact ⟨ad, e, fun j hj => (World.cell?_of_block (by rw [block_add]; exact heap_setCells g _ _ _ _ (h.far hy.1 ad e hn))).trans (hc j hj)⟩⟩, hy.2⟩
  refine ⟨h1, by simpa using h.len, fun y hy => ?_⟩
  rcases List.mem_or_eq_of_mem_set hy with hy | rfl
  · exact keep y (h.is y hy)
  · exact keep _ hx
theorem PcsAt.at_ {w : World} {base g K : Nat} {xs : List PV} (h : PcsAt w base g K xs) {i : Nat} {x : PV} (hx : xs[i]? = some x) : ∀ j, j < 4 → w.cell? ⟨g, i * 4 + j, none⟩ = x.cells[j]? := fun j hj => by
  have hi : i < K := by have := (List.getElem?_eq_some_iff.1 hx).1; rw [h.len] at this; exact this
  rw [h.own.cellAt (i * 4 + j) (by omega), flat_get xs (fun y _ => PV.len4 y) i j hj, hx]
  rfl

theorem infoPc : (Try.prog.info? 86).map (fun i => (i.zero, i.size, i.bytes)) = some (some (.agg #[.int .u64 0, .int .i64 0, .int .i64 0, .slice none 0 0]), 4, 48) := by kernel_rfl
theorem run_makePc (w : World) (n : Nat) (h : n ≤ 32768) : (Instr.makeSlice 82 (.int .i64 (n : Int)) (.int .i64 (n : Int))).run Try.prog w = .ok (.slice (some ⟨w.heap.size, 0, none⟩) n n) (w.alloc (.cells ((List.replicate n pv0).flatMap PV.cells).toArray 86)) := by
  obtain ⟨i0, hi, hz0, hz1, hz2⟩ := info_parts infoPc
  have h1 := run_make (P := Try.prog) w 82 86 i0 (.agg #[.int .u64 0, .int .i64 0, .int .i64 0, .slice none 0 0]) Try.underlying82 hi hz0 .i64 .i64 n n (by omega) (by omega) (by rw [hz2]; omega) (by omega)
  rw [hz1] at h1
  simp only [Int.toNat_natCast] at h1
  rw [h1]
  congr 3
  exact made_flat PV.cells pv0 4 rfl (by omega) #[.int .u64 0, .int .i64 0, .int .i64 0, .slice none 0 0] rfl n
theorem pcs_new (w : World) (n : Nat) (h : n ≤ 32768) : PcsAt (w.alloc (.cells ((List.replicate n pv0).flatMap PV.cells).toArray 86)) w.heap.size w.heap.size n (List.replicate n pv0) := by
  have hfl : ((List.replicate n pv0).flatMap PV.cells).length = n * 4 := by rw [flat_len' _ (fun y _ => PV.len4 y)]; simp
  refine ⟨⟨hfl, .inr ⟨w.heap.size, n, _, rfl, Nat.le_refl _, heap_alloc_new _ _, Nat.le_refl _, by simp only [maxLen]; omega, by simpa using hfl, by rw [List.take_of_length_le (by simp [hfl])]⟩⟩, by simp, fun x hx => ?_⟩
  rw [List.eq_of_mem_replicate hx]; exact ⟨RB.empty _ _, Nat.le_refl _, by simp [pv0]⟩

/-- The pieces of all blocks behind the marks. -/
def PiecesIs (w : World) (L : List Cn) (K : Nat) (e : Ending) (w' : World) : Prop :=
  ∃ g xs, e = .returned (.tuple #[.slice (some ⟨g, 0, none⟩) K K, .int .i64 0]) ∧ PcsAt w' w.heap.size g K xs ∧ xs.map PV.p = piecesOf L K ∧ Below w.heap.size w w'

theorem pieces_snoc (L : List Cn) (k : Nat) : piecesOf L (k + 1) = piecesOf L k ++ [pieceAt L k] := by simp [piecesOf, List.range_succ]
theorem pieces_len (L : List Cn) (k : Nat) : (piecesOf L k).length = k := by simp [piecesOf]

set_option maxHeartbeats 4000000 in
theorem wreadPieces {F : Nat → Prop} {w : World} {d : Nat} {S : St} (h : PD F w d S) (ho : S.off = false) (hp : S.pend = []) {Lg size slot : Nat} {m : Mk} {stamp used count : Nat} {over : Bool} (hL : LgAt w Lg d size slot m stamp used count over) (hsz : 2 * size + 2 ≤ S.last.length) :
    Calls Try.prog 43 #[.pointer (some ⟨Lg, 0, none⟩)] w (PiecesIs w S.last (2 * size)) := by
  have c1 := hL.c1
  have hhi := h.wf.hi
  have HD := Lib.hid h
  have HO := Lib.hid ho
  have HP := Lib.hid hp
  have HL := Lib.hid hL
  have HSZ := Lib.hid hsz
  have HWF := Lib.hid h.wf
  obtain ⟨K, hK⟩ : ∃ K, K = 2 * size := ⟨_, rfl⟩
  have hki : 2 * (size : Int) = (K : Int) := by omega
  have hmk := run_makePc w K (by omega)
  have HK := Lib.hid hK
  obtain ⟨W1, hW1⟩ : ∃ W, W = w.alloc (.cells ((List.replicate K pv0).flatMap PV.cells).toArray 86) := ⟨_, rfl⟩
  rw [← hW1] at hmk
  have P0 := Lib.hid (show PcsAt W1 w.heap.size w.heap.size K (List.replicate K pv0) by rw [hW1]; exact pcs_new w K (by omega))
  have B0 := Lib.hid (show Below w.heap.size w W1 by rw [hW1]; exact (Below.refl _ _).alloc (Nat.le_refl _) _)
  have hK4 : (K : Int) ≤ 32768 := by omega
  rw [← hK]
  clear h ho hp hL hsz hhi hK hW1
  go_enter Try.func43, Try.ntmps43
  go_wp2
  clear hki hmk c1
  go_loopw [16] (fun i wr => ∃ (k : Nat) (xs : List PV), i = .int .i64 (k : Nat) ∧ k ≤ K ∧ PcsAt wr w.heap.size w.heap.size K xs ∧ xs.map PV.p = piecesOf S.last k ++ List.replicate (K - k) Pc.no ∧ Below w.heap.size w wr) (fun i _ => K - (intOf i).toNat)
  case atStart => exact ⟨0, _, rfl, Nat.zero_le _, P0.out, by simp [piecesOf, pv0], B0.out⟩
  case round =>
    obtain ⟨k, xs, rfl, hk, hP, hM, hB⟩ := hrel
    by_cases hlt : k < K
    · obtain ⟨c, hc⟩ : ∃ c, S.last[2 + k]? = some c := ⟨_, List.getElem?_eq_getElem (by have := HSZ.out; have := HK.out; omega)⟩
      have CR := Lib.hid (show Calls Try.prog 49 #[.pointer (some ⟨d, 0, none⟩), .int .i64 (2 + (k : Int))] wr (BlockIs wr (blockC c)) by
        have := wreadBlock (HD.out.below hB) HO.out HP.out (2 + k) c hc
        rw [show ((2 + k : Nat) : Int) = 2 + (k : Int) by omega] at this
        exact this)
      have HPC := Lib.hid (show pieceAt S.last k = takePiece (blockC c) by unfold pieceAt; rw [List.getD_eq_getElem?_getD, hc]; rfl)
      have l0 := LgAt.c0 (show LgAt wr Lg d size slot m stamp used count over from (hB.block _ HL.out.lt).trans HL.out)
      have hki : (k : Int) < (K : Int) := by omega
      have HK2 := Lib.hid hlt
      have HP := Lib.hid hP
      have HM := Lib.hid hM
      have HB := Lib.hid hB
      have hks : 2 + (k : Int) ≤ 9223372036854775807 := by omega
      clear hP hM hB hc hlt
      go_upto_region 8 with (go_at_call 49; go_loud (refine CR.out.mono ?_; rintro e w2 ⟨A2, n2, c2, rfl, r2, hn2, hc2, b2⟩; have R2 := Lib.hid r2; have HN2 := Lib.hid hn2; have HC2 := Lib.hid hc2; have B2 := Lib.hid b2; clear r2 hn2 hc2 b2 CR))
      go_upto_region 9 with (go_at_call 59; go_loud (refine (wtakePiece w2 A2 n2 c2 _ R2.out HN2.out HC2.out).mono ?_; rintro e w3 ⟨A3, n3, c3, rfl, p3, b3⟩; obtain ⟨q, hq⟩ : ∃ q, q = takePiece (blockC c) := ⟨_, rfl⟩; rw [← hq] at p3 ⊢; have HQ := Lib.hid hq; have P3 := Lib.hid p3; have B3 := Lib.hid (HB.out.trans ((B2.out.trans (b3.mono B2.out.size)).mono HB.out.size)); have X3 := Lib.hid ((HP.out.below B2.out).below b3); obtain ⟨xk, hxk⟩ : ∃ xk, xs[k]? = some xk := ⟨_, List.getElem?_eq_getElem (by have := HP.out.len; have := HK2.out; omega)⟩; have e0 := X3.out.at_ hxk 0 (by decide); have e1 := X3.out.at_ hxk 1 (by decide); have e2 := X3.out.at_ hxk 2 (by decide); have e3 := X3.out.at_ hxk 3 (by decide); rw [Nat.add_zero] at e0; have f0 := X3.out.own.frozenAt (k * 4); have f1 := X3.out.own.frozenAt (k * 4 + 1); have f2 := X3.out.own.frozenAt (k * 4 + 2); have f3 := X3.out.own.frozenAt (k * 4 + 3); simp only [PV.cells, List.getElem?_cons_zero, List.getElem?_cons_succ] at e0 e1 e2 e3; clear p3 b3 hxk hq))
      have HNX := Lib.hid (X3.out.set k HK2.out ⟨q, A3, n3, c3⟩ P3.out)
      have HBX := Lib.hid ((((B3.out.setCell (p := ⟨w.heap.size, k * 4, none⟩) (Nat.le_refl _) (.int .u64 (q.stamp : Int))).setCell (p := ⟨w.heap.size, k * 4 + 1, none⟩) (Nat.le_refl _) (.int .i64 (q.len : Int))).setCell (p := ⟨w.heap.size, k * 4 + 2, none⟩) (Nat.le_refl _) (.int .i64 (q.num : Int))).setCell (p := ⟨w.heap.size, k * 4 + 3, none⟩) (Nat.le_refl _) (.slice A3 n3 c3))
      have HMX := Lib.hid (show (xs.set k ⟨q, A3, n3, c3⟩).map PV.p = piecesOf S.last (k + 1) ++ List.replicate (K - (k + 1)) Pc.no by
        have hkk := HK2.out
        rw [List.map_set, HM.out, List.set_append_right _ _ (by rw [pieces_len]; exact Nat.le_refl _), pieces_len, Nat.sub_self, show K - k = (K - (k + 1)) + 1 by omega, List.replicate_succ, List.set_cons_zero, pieces_snoc, HPC.out, ← HQ.out, List.append_assoc]
        rfl)
      clear e0 e1 e2 e3 f0 f1 f2 f3
      go_wp2
      go_roundw
      case rel => exact ⟨k + 1, _, by go_num, HK2.out, HNX.out, HMX.out, HBX.out⟩
      case measure => have := HK2.out; simp [intOf]; omega
    · obtain rfl : k = K := by omega
      have HPP := Lib.hid hP
      have HMM := Lib.hid (show xs.map PV.p = piecesOf S.last k by rw [hM]; simp)
      have HB := Lib.hid hB
      clear hP hM hB hlt
      go_wp2
      go_ret2
      exact ⟨w.heap.size, xs, rfl, HPP.out, HMM.out, HB.out⟩
end Go.Proofs.Ythpbcibjohakkaa
