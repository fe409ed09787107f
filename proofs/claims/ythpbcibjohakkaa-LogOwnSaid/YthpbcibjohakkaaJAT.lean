import Derived.Test.YthpbcibjohakkaaLRead
import Derived.Test.YthpbcibjohakkaaJAK
import Derived.Test.YthpbcibjohakkaaJAO
import Derived.Test.YthpbcibjohakkaaJAL
import Derived.Test.YthpbcibjohakkaaJAN
import Derived.Deep.RegionHeld3
import Derived.Test.YthpbcibjohakkaaJAE
import Derived.Test.YthpbcibjohakkaaDWrite
/- place, readBlock: how a log reads its disk. -/
namespace Go.Proofs.Ythpbcibjohakkaa
set_option maxRecDepth 100000
set_option maxRecDepth 100000
open Go.RowKit

theorem readB_plain {S : St} (ho : S.off = false) (hp : S.pend = []) (n : Nat) (c : Cn) (hc : S.last[n]? = some c) : readB S (n : Int) = if c.t then ([], 23) else (c.b, 0) := by
  have hl := (List.getElem?_eq_some_iff.1 hc).1
  unfold readB
  have he := (List.getElem?_eq_some_iff.1 hc).2
  simp [ho, hp, lastW, hl, he]
/-- What readBlock leaves: the block's content, in new memory. -/
def BlockIs (w : World) (zs : List Int) (e : Ending) (w' : World) : Prop :=
  ∃ A n c, e = .returned (.tuple #[.slice A n c, .int .i64 0]) ∧ RB w' A n zs ∧ n ≤ c ∧ (n ≤ 1048576 ∧ c ≤ 9223372036854775807) ∧ Below w.heap.size w w'

theorem wreadBlock {F : Nat → Prop} {w : World} {d : Nat} {S : St} (h : PD F w d S) (ho : S.off = false) (hp : S.pend = []) (n : Nat) (c : Cn) (hc : S.last[n]? = some c) :
    Calls Try.prog 49 #[.pointer (some ⟨d, 0, none⟩), .int .i64 (n : Int)] w (BlockIs w (blockC c)) := by
  have cr := dread h (n : Int) (by rw [hp]; simp)
  rw [readB_plain ho hp n c hc] at cr
  have hcb := h.wf.lb c (List.mem_of_getElem? hc)
  unfold blockC
  by_cases ht : c.t = true
  · rw [if_pos ht] at cr ⊢
    have CR := Lib.hid cr
    clear cr h hc hcb ht
    go_enter Try.func49, Try.ntmps49
    go_wp2_with (go_at_call 62; go_loud (refine CR.out.mono ?_; rintro e w5 (⟨-, -, rfl, rfl⟩ | ⟨h, -⟩); rotate_left; exact absurd h (by decide); skip))
    go_ret2
    exact ⟨none, 0, 0, rfl, RB.empty _ _, Nat.le_refl _, by omega, Below.refl _ _⟩
  · rw [if_neg ht] at cr ⊢
    have CR := Lib.hid cr
    have HCB := Lib.hid hcb
    have HLen := Lib.hid (show (takeFrame c.b 0).1.length ≤ 64 by have := blockC_len c hcb; unfold blockC at this; rw [if_neg ht] at this; exact this)
    clear cr h hc hcb ht
    go_enter Try.func49, Try.ntmps49
    go_wp2_with (first
      | (go_at_call 62; go_loud (refine CR.out.mono ?_; rintro e w5 (⟨h, -⟩ | ⟨-, hb, rfl, hw5⟩); exact absurd rfl h; have B5 := Lib.hid (show Below w.heap.size w w5 by rw [hw5]; exact (Below.refl _ _).alloc (Nat.le_refl _) _); have R5 := Lib.hid (show RB w5 (some ⟨w.heap.size, 0, none⟩) 64 c.b by have := RB.new w (e := 70) (fr := (0, 0)) hb.byte; rw [hb.len] at this; rw [hw5]; exact this); clear hb hw5 CR))
      | (go_at_call 63; go_loud (refine (wtakeFrame _ 64 64 c.b 0 w5 R5.out (by omega) (Nat.le_refl _)).mono ?_; rintro e w6 ⟨v, rfl, hob, hb6⟩; obtain ⟨A6, c6, rfl, hr6, hc6, hm6⟩ := hob.form; have HR6 := Lib.hid hr6; have HC6 := Lib.hid hc6; have HM6 := Lib.hid (show c6 ≤ 9223372036854775807 by simp only [maxLen] at hm6; omega); have HB6 := Lib.hid hb6; have HOB := Lib.hid hob; clear hob hr6 hb6)))
    go_ret2
    exact ⟨A6, _, c6, rfl, HR6.out, HC6.out, ⟨by have := HLen.out; omega, HM6.out⟩, B5.out.trans (HB6.out.mono B5.out.size)⟩
end Go.Proofs.Ythpbcibjohakkaa

/- writeBlock: a content as a block of the disk. -/
namespace Go.Proofs.Ythpbcibjohakkaa
set_option maxRecDepth 100000
set_option maxRecDepth 100000
open Go.RowKit

/-- A content's frame, with noughts up to a whole block. -/
def blockOf (zs : List Int) : List Int := splice (List.replicate 64 0) 0 (frameB zs)
theorem blockOf_len (zs : List Int) (h : zs.length ≤ 56) : (blockOf zs).length = 64 := by
  unfold blockOf
  rw [length_splice _ _ _ (by rw [frameB_len]; simp; omega)]
  simp
theorem blockOf_byte (zs : List Int) (hf : ∀ z ∈ frameB zs, 0 ≤ z ∧ z ≤ 255) : ∀ z ∈ blockOf zs, 0 ≤ z ∧ z ≤ 255 :=
  splice_byte (fun z hz => by have := List.eq_of_mem_replicate hz; omega) hf

set_option maxHeartbeats 4000000 in
theorem wwriteBlock {F : Nat → Prop} {w : World} {d : Nat} {S : St} (h : PD F w d S) (n : Nat) (A : Option Addr) (m c : Nat) (zs : List Int) (hr : RB w A m zs) (hm : m ≤ 56) (hp : S.pend.length < 2199023255552) :
    Calls Try.prog 56 #[.pointer (some ⟨d, 0, none⟩), .int .i64 (n : Int), .slice A m c] w (Codes F w d (writeS S (n : Int) (blockOf zs)) (writeE S (n : Int) 64)) := by
  have CF := Lib.hid (wframe A m c zs w hr (by omega))
  have HD := Lib.hid h.shut
  have HP := Lib.hid hp
  have HM := Lib.hid (show zs.length ≤ 56 by rw [hr.len]; exact hm)
  clear h hr hp hm
  unfold MakesF at CF
  go_enter Try.func56, Try.ntmps56
  go_upto_region 2 with (go_at_call 68; go_loud (refine CF.out.mono ?_; rintro e w1 ⟨v, rfl, ob, b1⟩; obtain ⟨A1, c1, rfl, r1, hc1, hm1⟩ := ob.form; have R1 := Lib.hid r1; have B1 := Lib.hid b1; clear ob r1 hc1 hm1 b1 CF))
  obtain ⟨W2, hW2⟩ : ∃ W, W = w1.alloc (.cells (madeCells #[.int .u8 0] 64) 5) := ⟨_, rfl⟩
  have hmk : (Instr.makeSlice 33 (.int .i64 64) (.int .i64 64)).run Try.prog w1 = .ok (.slice (some ⟨w1.heap.size, 0, none⟩) 64 64) (w1.alloc (.cells (madeCells #[.int .u8 0] 64) 5)) := run_make_bytes w1 64 64 (by omega) (by omega) (by omega)
  rw [← hW2] at hmk
  have B2 := Lib.hid (show Below w1.heap.size w1 W2 by rw [hW2]; exact (Below.refl _ _).alloc (Nat.le_refl _) _)
  have R2 := Lib.hid (show Row W2 w1.heap.size (List.replicate 64 0) by rw [hW2]; exact row_made w1 64)
  have T2 := Lib.hid (R1.out.below' B2.out)
  have HL := Lib.hid (frameB_len zs)
  obtain ⟨k, hk⟩ : ∃ k, (frameB zs).length = k := ⟨_, rfl⟩
  rw [hk] at T2 R1 HL ⊢
  have HK := Lib.hid (show k ≤ 64 by have := HL.out; have := HM.out; omega)
  have HMIN := Lib.hid (show Nat.min k 64 = k from Nat.min_eq_left HK.out)
  clear hW2 hk
  go_upto_region 5 with fail
  clear hmk
  go_upto_region 6 with (with_reducible refine row_copy rfl (.tmp 19) (.tmp 20) rfl (some ⟨w1.heap.size, 0, none⟩) A1 64 64 k c1 k rfl rfl w1.heap.size 0 _ R2.out (frameB zs) T2.out HMIN.out (fun _ => rfl) (by have := HK.out; simp; omega) ?_; intro w3 h3 b3; have R3 := Lib.hid h3; have B3 := Lib.hid b3; clear h3 b3)
  have hw1 := B1.out.size
  have BW3 := Lib.hid (show Below w.heap.size w w3 from (B1.out.trans (B2.out.mono hw1)).trans (B3.out.mono hw1))
  have hl64 := blockOf_len zs HM.out
  have RB3 := Lib.hid (show RB w3 (some ⟨w1.heap.size, 0, none⟩) 64 (blockOf zs) by
    have h1 := Row.rb (show Row w3 w1.heap.size (blockOf zs) from R3.out) (blockOf_byte zs R1.out.byte)
    rw [hl64] at h1
    exact h1)
  have cw := dwriteW (HD.out.below BW3.out) (n : Int) (some ⟨w1.heap.size, 0, none⟩) 64 64 (blockOf zs) RB3.out (far_new hw1) (Nat.le_refl _) HP.out
  rw [hl64] at cw
  have CW := Lib.hid cw
  clear cw hl64 hw1
  go_wp2_with (go_at_call 52; go_loud (refine CW.out.mono ?_; rintro e w4 ⟨rfl, p4, o4⟩; have P4 := Lib.hid p4; have O4 := Lib.hid o4; clear p4 o4 CW))
  go_ret
  refine ⟨rfl, P4.out.mono fun k' _ hk => ?_, ⟨O4.out.os.trans BW3.out.os, O4.out.tape.trans BW3.out.tape, O4.out.output.trans BW3.out.output, Nat.le_trans BW3.out.size O4.out.size, fun k' hk hf => ?_⟩⟩
  · rcases hk with hk | hk
    · exact .inl hk.1
    · exact .inr (Nat.le_trans BW3.out.size hk)
  · exact (O4.out.block k' (Nat.lt_of_lt_of_le hk BW3.out.size) (fun h => hf h.1)).trans (BW3.out.block k' hk)
end Go.Proofs.Ythpbcibjohakkaa

/- What a log writes is what it reads: over plain lists. -/
namespace Go.Proofs.Ythpbcibjohakkaa
set_option maxRecDepth 100000
set_option maxRecDepth 100000
open Go.RowKit

theorem rdNum_back (most u : Nat) (r : List Int) (bad : Bool) (hu : u ≤ most) (hm : most < 18446744073709551616) : rdNum most ⟨uintB u ++ r, bad⟩ = (u, ⟨r, bad⟩) := by
  unfold rdNum
  simp only [takeUint_back u (by omega) r]
  rw [if_neg (by omega), List.drop_left]
/-- A piece as a content. -/
def pieceB (p : Pc) : List Int := uintB p.stamp ++ (uintB p.len ++ (uintB p.num ++ p.bytes))
/-- A piece that stands for itself. -/
structure PcOk (p : Pc) : Prop where
  stamp : p.stamp ≤ maxSt
  len : p.len ≤ 65536
  num : p.num ≤ 16384
  bytes : (p.bytes.length : Int) = pieceLen p.num p.len
theorem takePiece_back (p : Pc) (h : PcOk p) : takePiece (pieceB p) = p := by
  unfold takePiece pieceB
  simp only [rdNum_back maxSt p.stamp _ false h.stamp (by unfold maxSt; omega), rdNum_back 65536 p.len _ false h.len (by omega), rdNum_back 16384 p.num _ false h.num (by omega)]
  rw [if_neg (by rintro (h1 | h1); cases h1; exact h1 h.bytes)]
theorem blockOf_eq (zs : List Int) (h : zs.length ≤ 56) : blockOf zs = frameB zs ++ List.replicate (56 - zs.length) 0 := by
  unfold blockOf splice
  rw [frameB_len, List.take_zero, List.drop_replicate, List.nil_append]
  congr 2
  omega
theorem blockC_back (zs : List Int) (hb : ∀ z ∈ zs, 0 ≤ z ∧ z ≤ 255) (h : zs.length ≤ 56) : blockC ⟨blockOf zs, false⟩ = zs := by
  unfold blockC
  simp only [Bool.false_eq_true, if_false]
  rw [blockOf_eq zs h, takeFrame_back zs _ hb (by omega)]
end Go.Proofs.Ythpbcibjohakkaa

/- What a log writes of a piece, and of a mark. -/
namespace Go.Proofs.Ythpbcibjohakkaa
set_option maxRecDepth 100000
set_option maxRecDepth 100000
open Go.RowKit

/-- Parts that are there. -/
def AccAt (w : World) (ps : List Part) : Prop := ∀ p ∈ ps, RB w p.A p.n p.z
theorem AccAt.below {w w' : World} {ps : List Part} (h : AccAt w ps) (hb : Below w.heap.size w w') : AccAt w' ps := fun p hp => (h p hp).below' hb
theorem AccAt.push {w : World} {ps : List Part} (h : AccAt w ps) {A : Option Addr} {n : Nat} {zs : List Int} (c : Nat) (hr : RB w A n zs) : AccAt w (ps ++ [⟨A, n, c, zs⟩]) := fun p hp => by
  rcases List.mem_append.1 hp with hp | hp
  · exact h p hp
  · simp at hp; subst hp; exact hr
theorem AccAt.four {w : World} {p q r s : Part} (h : AccAt w [s, p, q, r]) (W : World) (hW : W = w.alloc (.cells #[p.v, q.v, r.v, s.v] 33)) : PartsAt W w.heap.size [p, q, r, s] := by
  subst hW
  refine ⟨heap_alloc_new w _, fun x hx => ?_⟩
  have hx' : x ∈ [s, p, q, r] := by simp at hx ⊢; rcases hx with h | h | h | h <;> simp [h]
  exact (h x hx').below' ((Below.refl _ _).alloc (Nat.le_refl _) _)
theorem makes_got {w : World} {zs : List Int} {e : Ending} {w' : World} (h : Makes w zs e w') : ∃ A c, e = .returned (.slice A zs.length c) ∧ RB w' A zs.length zs ∧ Below w.heap.size w w' := by
  obtain ⟨v, rfl, ho, hb⟩ := h
  obtain ⟨A, c, rfl, hr, -, -⟩ := ho.form
  exact ⟨A, c, rfl, hr, hb⟩
theorem MadeB.up {w w' W : World} {zs : List Int} {e : Ending} (hb : Below w.heap.size w w') (h : MadeB w' zs e W) : MadeB w zs e W := by
  obtain ⟨v, rfl, ho, hb2⟩ := h
  exact ⟨v, rfl, ho.mono hb.size, below_next hb hb2⟩

theorem concat4 {w : World} {p q r s : Part} (h : AccAt w [s, p, q, r]) (hs : p.n + (q.n + (r.n + s.n)) ≤ 1048576) :
    Calls Try.prog 69 #[.slice (some ⟨w.heap.size, 0, none⟩) 4 4] (w.alloc (.cells #[p.v, q.v, r.v, s.v] 33)) (fun e w' => ∃ v, e = .returned v ∧ OB w.heap.size w' v (p.z ++ (q.z ++ (r.z ++ s.z))) ∧ Below w.heap.size w w') := by
  refine (wconcat _ _ [p, q, r, s] 4 (h.four _ rfl) rfl (by omega) (by simp [sumN]; omega)).mono fun e w' ⟨v, he, ho, hb⟩ => ⟨v, he, ?_, below_next ((Below.refl _ _).alloc (Nat.le_refl _) _) hb⟩
  have := ho.mono (base' := w.heap.size) (by simp)
  simpa using this

set_option maxHeartbeats 4000000 in
theorem wpieceContent (p : Pc) (A : Option Addr) (n c : Nat) (w : World) (hr : RB w A n p.bytes) (hn : n ≤ 40) (h1 : p.stamp ≤ maxSt) (h2 : p.len ≤ 65536) (h3 : p.num ≤ 16384) :
    Calls Try.prog 61 #[.agg #[.int .u64 (p.stamp : Int), .int .i64 (p.len : Int), .int .i64 (p.num : Int), .slice A n c]] w (MadeB w (pieceB p)) := by
  obtain ⟨st, ln, nm, bs⟩ := p
  simp only at hr h1 h2 h3
  have UI := Lib.hid fun u W (h : u < 18446744073709551616) => wuint u W h
  have CC := Lib.hid wconcat
  have HR := Lib.hid hr
  have HS : Hid (st < 18446744073709551616 ∧ ln < 18446744073709551616 ∧ nm < 18446744073709551616) := Lib.hid ⟨by unfold maxSt at h1; omega, by omega, by omega⟩
  have HBY := Lib.hid hn
  have q1 : IntKind.u64.wrap (ln : Int) = (ln : Int) := IntWalk.u64_in _ (by omega)
  have q2 : IntKind.u64.wrap (nm : Int) = (nm : Int) := IntWalk.u64_in _ (by omega)
  have HSUM : Hid ((uintB st).length + ((uintB ln).length + ((uintB nm).length + n)) ≤ 1048576) := Lib.hid (by
    have a1 := uintB_len st HS.out.1
    have a2 := uintB_len ln HS.out.2.1
    have a3 := uintB_len nm HS.out.2.2
    have a4 := HBY.out
    omega)
  clear hr hn h1 h2 h3
  go_enter Try.func61, Try.ntmps61
  go_wp2
  generalize hW : w.alloc (.cells #[.int .u64 (st : Int), .int .i64 (ln : Int), .int .i64 (nm : Int), .slice A n c] 86) = W
  have c0 : W.cell? ⟨w.heap.size, 0, none⟩ = some (.int .u64 (st : Int)) := by subst hW; simp
  have c1 : W.cell? ⟨w.heap.size, 1, none⟩ = some (.int .i64 (ln : Int)) := by subst hW; simp
  have c2 : W.cell? ⟨w.heap.size, 2, none⟩ = some (.int .i64 (nm : Int)) := by subst hW; simp
  have c3 : W.cell? ⟨w.heap.size, 3, none⟩ = some (.slice A n c) := by subst hW; simp
  have HW : Below w.heap.size w W := by subst hW; exact (Below.refl _ _).alloc (Nat.le_refl _) _
  have ACC : AccAt W.drew ([] ++ [⟨A, n, c, bs⟩]) := AccAt.push (fun _ h => by cases h) c ((HR.out.below' HW).drew)
  have B : Below W.heap.size W W.drew := (Below.refl _ _).drew
  clear hW
  go_region_held3 (fun w' => w'.cell? ⟨w.heap.size, 0, none⟩ = some (.int .u64 (st : Int)) ∧ w'.cell? ⟨w.heap.size, 1, none⟩ = some (.int .i64 (ln : Int)) ∧ w'.cell? ⟨w.heap.size, 2, none⟩ = some (.int .i64 (nm : Int)) ∧ w'.cell? ⟨w.heap.size, 3, none⟩ = some (.slice A n c))
    (first | exact ⟨c0, c1, c2, c3⟩ | exact ⟨keep_below c0 B, keep_below c1 B, keep_below c2 B, keep_below c3 B⟩ | exact ⟨keep_below c0 (B.alloc B.size _), keep_below c1 (B.alloc B.size _), keep_below c2 (B.alloc B.size _), keep_below c3 (B.alloc B.size _)⟩)
    (first
      | (go_at_call 71; refine (UI.out _ _ (by first | exact HS.out.1 | exact HS.out.2.1 | exact HS.out.2.2)).mono ?_; intro e w9 hm; obtain ⟨A9, c9, rfl, hr9, hb9⟩ := makes_got hm; replace ACC := (ACC.below hb9).push c9 hr9; replace B := below_next B hb9; clear hm hb9 hr9)
      | (go_at_call 69; simp only [List.nil_append, List.cons_append] at ACC; refine (concat4 ACC HSUM.out).mono ?_; intro e w8 hm; obtain ⟨v8, rfl, ob8, hb8⟩ := hm; have OB8 := (ob8.mono (Nat.le_trans HW.size B.size)); replace B := below_next B hb8; clear ob8 hb8))
  all_goals
    go_wp2
    go_ret
    exact ⟨_, rfl, by simpa [pieceB] using OB8, below_next HW B⟩

theorem AccAt.five {w : World} {p q r s u : Part} (h : AccAt w [p, q, r, s, u]) (W : World) (hW : W = w.alloc (.cells #[p.v, q.v, r.v, s.v, u.v] 33)) : PartsAt W w.heap.size [p, q, r, s, u] := by
  subst hW
  exact ⟨heap_alloc_new w _, fun x hx => (h x hx).below' ((Below.refl _ _).alloc (Nat.le_refl _) _)⟩
theorem concat5 {w : World} {p q r s u : Part} (h : AccAt w [p, q, r, s, u]) (hs : p.n + (q.n + (r.n + (s.n + u.n))) ≤ 1048576) :
    Calls Try.prog 69 #[.slice (some ⟨w.heap.size, 0, none⟩) 5 5] (w.alloc (.cells #[p.v, q.v, r.v, s.v, u.v] 33)) (fun e w' => ∃ v, e = .returned v ∧ OB w.heap.size w' v (p.z ++ (q.z ++ (r.z ++ (s.z ++ u.z)))) ∧ Below w.heap.size w w') := by
  refine (wconcat _ _ [p, q, r, s, u] 5 (h.five _ rfl) rfl (by omega) (by simp [sumN]; omega)).mono fun e w' ⟨v, he, ho, hb⟩ => ⟨v, he, ?_, below_next ((Below.refl _ _).alloc (Nat.le_refl _) _) hb⟩
  have := ho.mono (base' := w.heap.size) (by simp)
  simpa using this

def titleS : ByteArray := ⟨#[107, 101, 121, 115, 116, 111, 110, 101, 32, 108, 111, 103]⟩
def markB (m : Mk) (size : Nat) : List Int := textB titleS ++ (uintB size ++ (uintB m.turn ++ (uintB m.area ++ uintB m.since)))

set_option maxHeartbeats 4000000 in
theorem wmarkContent (m : Mk) (size : Nat) (w : World) (h0 : size ≤ 16384) (h1 : m.turn ≤ 2) (h2 : m.area ≤ 1) (h3 : m.since ≤ maxSt) :
    Calls Try.prog 57 #[.agg #[.int .i64 (m.turn : Int), .int .i64 (m.area : Int), .int .u64 (m.since : Int)], .int .i64 (size : Int)] w (MadeB w (markB m size)) := by
  obtain ⟨tn, ar, si⟩ := m
  simp only at h1 h2 h3
  have TI := Lib.hid fun W => wtext titleS W (by decide)
  have UI := Lib.hid fun u W (h : u < 18446744073709551616) => wuint u W h
  have HS : Hid (size < 18446744073709551616 ∧ tn < 18446744073709551616 ∧ ar < 18446744073709551616 ∧ si < 18446744073709551616) := Lib.hid ⟨by omega, by omega, by omega, by unfold maxSt at h3; omega⟩
  have q0 : IntKind.u64.wrap (size : Int) = (size : Int) := IntWalk.u64_in _ (by omega)
  have q1 : IntKind.u64.wrap (tn : Int) = (tn : Int) := IntWalk.u64_in _ (by omega)
  have q2 : IntKind.u64.wrap (ar : Int) = (ar : Int) := IntWalk.u64_in _ (by omega)
  have HSUM : Hid ((textB titleS).length + ((uintB size).length + ((uintB tn).length + ((uintB ar).length + (uintB si).length))) ≤ 1048576) := Lib.hid (by
    have a0 : (textB titleS).length ≤ 100 := by
      unfold textB
      rw [List.length_append, strB_len]
      have := uintB_len titleS.size (by decide)
      have : titleS.size = 12 := rfl
      omega
    have a1 := uintB_len size HS.out.1
    have a2 := uintB_len tn HS.out.2.1
    have a3 := uintB_len ar HS.out.2.2.1
    have a4 := uintB_len si HS.out.2.2.2
    omega)
  unfold titleS at TI
  clear h0 h1 h2 h3
  go_enter Try.func57, Try.ntmps57
  go_wp2
  generalize hW : w.alloc (.cells #[.int .i64 (tn : Int), .int .i64 (ar : Int), .int .u64 (si : Int)] 76) = W
  have c0 : W.cell? ⟨w.heap.size, 0, none⟩ = some (.int .i64 (tn : Int)) := by subst hW; simp
  have c1 : W.cell? ⟨w.heap.size, 1, none⟩ = some (.int .i64 (ar : Int)) := by subst hW; simp
  have c2 : W.cell? ⟨w.heap.size, 2, none⟩ = some (.int .u64 (si : Int)) := by subst hW; simp
  have HW : Below w.heap.size w W := by subst hW; exact (Below.refl _ _).alloc (Nat.le_refl _) _
  have ACC : AccAt W.drew [] := fun _ h => by cases h
  have B : Below W.heap.size W W.drew := (Below.refl _ _).drew
  clear hW
  go_region_held3 (fun w' => w'.cell? ⟨w.heap.size, 0, none⟩ = some (.int .i64 (tn : Int)) ∧ w'.cell? ⟨w.heap.size, 1, none⟩ = some (.int .i64 (ar : Int)) ∧ w'.cell? ⟨w.heap.size, 2, none⟩ = some (.int .u64 (si : Int)))
    (first | exact ⟨c0, c1, c2⟩ | exact ⟨keep_below c0 B, keep_below c1 B, keep_below c2 B⟩ | exact ⟨keep_below c0 (B.alloc B.size _), keep_below c1 (B.alloc B.size _), keep_below c2 (B.alloc B.size _)⟩)
    (first
      | (go_at_call 70; refine (TI.out _).mono ?_; intro e w9 hm; obtain ⟨A9, c9, rfl, hr9, hb9⟩ := makes_got hm; replace ACC := (ACC.below hb9).push c9 hr9; replace B := below_next B hb9; clear hm hb9 hr9)
      | (go_at_call 71; refine (UI.out _ _ (by first | exact HS.out.1 | exact HS.out.2.1 | exact HS.out.2.2.1 | exact HS.out.2.2.2)).mono ?_; intro e w9 hm; obtain ⟨A9, c9, rfl, hr9, hb9⟩ := makes_got hm; replace ACC := (ACC.below hb9).push c9 hr9; replace B := below_next B hb9; clear hm hb9 hr9)
      | (go_at_call 69; simp only [List.nil_append, List.cons_append] at ACC; refine (concat5 ACC HSUM.out).mono ?_; intro e w8 hm; obtain ⟨v8, rfl, ob8, hb8⟩ := hm; have OB8 := (ob8.mono (Nat.le_trans HW.size B.size)); replace B := below_next B hb8; clear ob8 hb8))
  all_goals
    go_wp2
    go_ret
    exact ⟨_, rfl, by simpa [markB, titleS] using OB8, below_next HW B⟩
end Go.Proofs.Ythpbcibjohakkaa

/- Writes one behind the other, and a record's: over plain states. -/
namespace Go.Proofs.Ythpbcibjohakkaa
set_option maxRecDepth 100000
set_option maxRecDepth 100000
open Go.RowKit

/-- Writes one behind the other, up to the first that fails. -/
def runW (S : St) : List (Nat × List Int) → St × Int
  | [] => (S, 0)
  | x :: r => if writeE S (x.1 : Int) 64 = 0 then runW (writeS S (x.1 : Int) x.2) r else (writeS S (x.1 : Int) x.2, writeE S (x.1 : Int) 64)
/-- The same, and a sync behind them. -/
def runWS (S : St) (ws : List (Nat × List Int)) : St × Int := if (runW S ws).2 = 0 then (syncS (runW S ws).1, syncE (runW S ws).1) else runW S ws

theorem runW_app (S : St) (a b : List (Nat × List Int)) : runW S (a ++ b) = if (runW S a).2 = 0 then runW (runW S a).1 b else runW S a := by
  induction a generalizing S with
  | nil => simp [runW]
  | cons x a ih =>
    simp only [List.cons_append, runW]
    split
    · exact ih _
    · rename_i h; first | rfl | rw [if_neg h]
theorem runW_take (S : St) (ws : List (Nat × List Int)) (k : Nat) (hk : k < ws.length) (h0 : (runW S (ws.take k)).2 = 0) :
    runW S (ws.take (k + 1)) = (writeS (runW S (ws.take k)).1 ((ws.getD k (0, [])).1 : Int) (ws.getD k (0, [])).2, writeE (runW S (ws.take k)).1 ((ws.getD k (0, [])).1 : Int) 64) := by
  have e : ws.take (k + 1) = ws.take k ++ [ws.getD k (0, [])] := by
    rw [List.take_succ_eq_append_getElem hk]
    simp [List.getD_eq_getElem?_getD, List.getElem?_eq_getElem hk]
  rw [e, runW_app, if_pos h0]
  simp only [runW]
  split
  · rename_i h; rw [h]
  · rfl
theorem runW_stop (S : St) (ws : List (Nat × List Int)) (k : Nat) (h : (runW S (ws.take k)).2 ≠ 0) : runW S ws = runW S (ws.take k) := by
  have e : ws = ws.take k ++ ws.drop k := (List.take_append_drop k ws).symm
  conv => lhs; rw [e]
  rw [runW_app, if_neg h]
theorem writeS_pend (S : St) (n : Int) (b : List Int) : (writeS S n b).pend.length ≤ S.pend.length + 1 := by
  unfold writeS
  split
  · omega
  · split
    · omega
    · split
      · omega
      · split
        · rw [spendS_pend]; omega
        · simp

/-- What is written of a record: each of its pieces at its place. -/
def layW (zs : List Int) (stamp size a at_ : Nat) : List (Nat × List Int) :=
  (List.range (nblocks zs.length)).map fun i => (2 + a * size + (at_ + i), blockOf (pieceB ⟨stamp, zs.length, i, (zs.drop (i * 40)).take (min (i * 40 + 40) zs.length - i * 40)⟩))
theorem layW_len (zs : List Int) (stamp size a at_ : Nat) : (layW zs stamp size a at_).length = nblocks zs.length := by simp [layW]
theorem layW_get (zs : List Int) (stamp size a at_ k : Nat) (hk : k < nblocks zs.length) : (layW zs stamp size a at_).getD k (0, []) =
    (2 + a * size + (at_ + k), blockOf (pieceB ⟨stamp, zs.length, k, (zs.drop (k * 40)).take (min (k * 40 + 40) zs.length - k * 40)⟩)) := by
  unfold layW
  rw [List.getD_eq_getElem?_getD, List.getElem?_map, List.getElem?_range hk]
  rfl
/-- What is written to make an area noughts. -/
def wipeW (size a : Nat) : List (Nat × List Int) := (List.range size).map fun i => (2 + a * size + i, zero64)
theorem wipeW_len (size a : Nat) : (wipeW size a).length = size := by simp [wipeW]
theorem wipeW_get (size a k : Nat) (hk : k < size) : (wipeW size a).getD k (0, []) = (2 + a * size + k, zero64) := by
  unfold wipeW
  rw [List.getD_eq_getElem?_getD, List.getElem?_map, List.getElem?_range hk]
  rfl
theorem nblocks_lt (n k : Nat) (h : k < nblocks n) : k * 40 ≤ n := by unfold nblocks at h; split at h <;> omega
theorem RB.mid {w : World} {A : Option Addr} {n c : Nat} {zs : List Int} (h : RB w A n zs) (f t : Nat) (hf : f ≤ t) (ht : t ≤ n) (hn : n ≤ c) :
    RB w (if c = f then A else A.map (·.add f)) (t - f) ((zs.drop f).take (t - f)) :=
  (h.cut (k := f) (by omega) c hn).take (by omega)

theorem uintB_short : ∀ (j u : Nat), u < 128 ^ (j + 1) → (uintB u).length ≤ j + 1
  | j, u, h => by
    by_cases hu : u < 128
    · rw [uintB_last u hu]; simp
    · rw [uintB_on' u hu]
      match j, h with
      | 0, h => omega
      | j + 1, h =>
        have := uintB_short j (u / 128) (by rw [Nat.div_lt_iff_lt_mul (by omega)]; rw [Nat.pow_succ] at h; exact h)
        simp; omega
theorem pieceB_len (p : Pc) (h1 : p.stamp ≤ maxSt) (h2 : p.len ≤ 65536) (h3 : p.num ≤ 16383) (h4 : p.bytes.length ≤ 40) : (pieceB p).length ≤ 56 := by
  have a1 := uintB_short 8 p.stamp (by unfold maxSt at h1; omega)
  have a2 := uintB_short 2 p.len (by omega)
  have a3 := uintB_short 1 p.num (by omega)
  unfold pieceB
  simp only [List.length_append]
  omega
end Go.Proofs.Ythpbcibjohakkaa
