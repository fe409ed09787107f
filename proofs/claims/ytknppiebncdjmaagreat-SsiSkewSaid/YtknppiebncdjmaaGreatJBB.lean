import Derived.Test.YtknppiebncdjmaaGreatJBA
set_option linter.unusedVariables false
namespace Go.Proofs.YtknppiebncdjmaaGreat
set_option maxRecDepth 100000
open Go.RowKit

theorem zeroMap (w : World) : (zeroValue 160).run Tryz.prog w = .ok (.map none) w := by kernel_rfl
theorem zeroNotes (w : World) : (zeroValue 162).run Tryz.prog w = .ok (.slice none 0 0) w := by kernel_rfl
theorem MapM.lookTop {w : World} {mb : Nat} {hs : List (Int × Value)} (h : MapM KI w mb hs) {t : Int} (ht : (Lit.int .i64 t).wf = true) : (Instr.lookup 153 (.map (some mb)) (.int .i64 t) false).run Tryz.prog w = .ok ((getM hs t).getD (.map none)) w :=
  h.look Tryz.underlying153 (zeroMap w) (x := t) ht
theorem MapM.lookTab {w : World} {b : Nat} {hs : List (ByteArray × Value)} (h : MapM KS w b hs) {tb : ByteArray} (ht : tb.size ≤ maxLen) : (Instr.lookup 160 (.map (some b)) (.string tb) false).run Tryz.prog w = .ok ((getM hs tb).getD (.slice none 0 0)) w :=
  h.look Tryz.underlying160 (zeroNotes w) (x := tb) ht
theorem lookTabNil {w : World} {tb : ByteArray} (ht : tb.size ≤ maxLen) : (Instr.lookup 160 (.map none) (.string tb) false).run Tryz.prog w = .ok (.slice none 0 0) w :=
  look_nil (T := KS) Tryz.underlying160 (zeroNotes w) (x := tb) ht
theorem eqMapSome (b : Nat) (w : World) : (binOp .eql 160 (.map (some b)) (.map none)).run Tryz.prog w = .ok (.bool false) w := by kernel_rfl
theorem eqMapNil (w : World) : (binOp .eql 160 (.map none) (.map none)).run Tryz.prog w = .ok (.bool true) w := by kernel_rfl
def RBlk (w : World) (r mb most : Nat) (cnt : Int) : Prop := w.heap[r]? = some (.cells #[.int .i64 (most : Nat), .int .i64 cnt, .map (some mb)] 155 (0, 0))
theorem RBlk.cells {w : World} {r mb most : Nat} {cnt : Int} (h : RBlk w r mb most cnt) : w.cell? ⟨r, 0, none⟩ = some (.int .i64 (most : Nat)) ∧ w.cell? ⟨r, 1, none⟩ = some (.int .i64 cnt) ∧ w.cell? ⟨r, 2, none⟩ = some (.map (some mb)) ∧ w.frozen? ⟨r, 1, none⟩ = false :=
  ⟨cell_of_row _ _ 0 _ _ _ h, cell_of_row _ _ 1 _ _ _ h, cell_of_row _ _ 2 _ _ _ h, frozen_of_row _ _ _ _ _ h⟩
theorem RBlk.lt {w : World} {r mb most : Nat} {cnt : Int} (h : RBlk w r mb most cnt) : r < w.heap.size := (Array.getElem?_eq_some_iff.1 h).1
theorem RBlk.block {w w' : World} {r mb most : Nat} {cnt : Int} (h : RBlk w r mb most cnt) (hb : w'.heap[r]? = w.heap[r]?) : RBlk w' r mb most cnt := hb.trans h
theorem RBlk.put {w : World} {r mb most : Nat} {cnt : Int} (h : RBlk w r mb most cnt) (c : Int) : RBlk (w.setCell ⟨r, 1, none⟩ (.int .i64 c)) r mb most c := by
  have := heap_setCell_same w r 1 _ _ (.int .i64 c) h
  unfold RBlk
  rw [this]
  rfl
set_option maxHeartbeats 4000000 in
theorem wpPutIn {w : World} {r mb most : Nat} {cnt : Int} (h : RBlk w r mb most cnt) {top : List (Int × Value)} (hT : MapM KI w mb top) {t : Int} (ht : (Lit.int .i64 t).wf = true) {b : Nat} (hb : getM top t = some (.map (some b))) {hs : List (ByteArray × Value)} (hS : MapM KS w b hs) {tb : ByteArray} (htb : tb.size ≤ maxLen) (hsl : hs.length < 4000000)
    {A0 : Option Addr} {n0 c0 : Nat} (h0 : (getM hs tb).getD (.slice none 0 0) = .slice A0 n0 c0) {A : Option Addr} {n c : Nat} (hn : n ≤ 4000000) (hn0 : n0 ≤ 4000000) (hcnt : 0 ≤ cnt ∧ cnt ≤ 4000000) :
    Calls Tryz.prog 98 #[.pointer (some ⟨r, 0, none⟩), .agg #[.int .i64 t, .string tb], .slice A n c] w fun e w' => e = .returned (.tuple #[]) ∧ RBlk w' r mb most (cnt + (n - n0)) ∧ MapM KS w' b (putM hs tb (.slice A n c)) ∧ Out (fun k => k = r ∨ k = b) w w' := by
  obtain ⟨W, hW⟩ : ∃ W, w.alloc (.cells #[.int .i64 t, .string tb] 171) = W := ⟨_, rfl⟩
  have HW := Lib.hid hW
  have hB : Below w.heap.size w W := by rw [← hW]; exact below_alloc9 _ _
  have HB := Lib.hid hB
  have q0 : W.heap[w.heap.size]? = some (.cells #[.int .i64 t, .string tb] 171 (0, 0)) := by rw [← hW]; exact heap_alloc_new _ _
  have x0 : W.cell? ⟨w.heap.size, 0, none⟩ = some (.int .i64 t) := cell_of_row _ _ 0 _ _ _ q0
  have x1 : W.cell? ⟨w.heap.size, 1, none⟩ = some (.string tb) := cell_of_row _ _ 1 _ _ _ q0
  have hR := h.block (hB.block r h.lt)
  obtain ⟨-, r1, r2, f1⟩ := hR.cells
  have hT2 := hT.block (hB.block mb hT.lt)
  have hS2 := hS.block (hB.block b hS.lt)
  have qT := (show MapM KI W.drew mb top from hT2.block rfl).lookTop ht
  rw [hb] at qT
  simp only [Option.getD_some] at qT
  obtain ⟨W2, hW2⟩ : ∃ W2, W.drew = W2 := ⟨_, rfl⟩
  have HW2 := Lib.hid hW2
  have qS := (show MapM KS W2.drew b hs by rw [← hW2]; exact hS2.block rfl).lookTab htb
  rw [h0] at qS
  have p1 : W2.cell? ⟨r, 1, none⟩ = some (.int .i64 cnt) := by rw [← hW2]; exact r1
  have pf : W2.frozen? ⟨r, 1, none⟩ = false := by rw [← hW2]; exact f1
  have px : W2.cell? ⟨w.heap.size, 1, none⟩ = some (.string tb) := by rw [← hW2]; exact x1
  have hrb : r ≠ b := hS.no h
  have qE := eqMapSome b
  have i1 : IntKind.i64.wrap ((n : Int) - (n0 : Int)) = (n : Int) - n0 := by rw [IntKind.wrap_i64]; omega
  have i2 : IntKind.i64.wrap (cnt + ((n : Int) - (n0 : Int))) = cnt + (n - n0) := by rw [IntKind.wrap_i64]; omega
  obtain ⟨V, hV⟩ : ∃ V, (W2.setCell ⟨r, 1, none⟩ (.int .i64 (cnt + (n - n0)))).drew = V := ⟨_, rfl⟩
  have HV := Lib.hid hV
  have BV := Lib.hid (show Out (fun k => k = r ∨ k = b) w V by rw [← hV, ← hW2]; exact ((Out.of_below hB _).drew.setCell (.inl (.inl rfl)) _).drew)
  have RV := Lib.hid (show RBlk V r mb most (cnt + (n - n0)) by rw [← hV, ← hW2]; exact ((show RBlk W.drew r mb most cnt from hR.block rfl).put _).block rfl)
  have hbo : ∀ k, k ≠ r → V.heap[k]? = W.heap[k]? := fun k hk => by rw [← hV, ← hW2]; exact (Below.heap_setCell W.drew ⟨r, 1, none⟩ _ k hk : (W.drew.setCell _ _).heap[k]? = _)
  have SV := Lib.hid (hS2.block (hbo b (Ne.symm hrb)))
  have v1 : V.cell? ⟨w.heap.size, 1, none⟩ = some (.string tb) := (World.cell?_of_block (w := W) (hbo _ (by have := h.lt; show w.heap.size ≠ r; omega))).trans x1
  have HL := Lib.hid hsl
  have HTB := Lib.hid htb
  have HNE := Lib.hid hrb
  clear h hT hS hb q0 hR hT2 hS2 h0 hV hbo hW hB hrb hsl htb ht hW2
  go_enter Tryz.func98, Tryz.ntmps98
  go_upto_region 1 with fail
  rw [HW.out]
  go_region
  rw [HW2.out]
  clear x0 x1 r1 r2 f1 qT
  go_upto_region 5 with fail
  go_still_tail 15, (by kernel_rfl)
  go_upto_region 6 with fail
  rw [HV.out]
  clear p1 pf px qS
  go_wp2_with (at_mapUpdate; go_loud (refine wp_putM KS (by rfl) (.tmp 39) (.tmp 41) (.tmp 42) (by rfl) (by rfl) SV.out Tryz.underlying160 tb HTB.out (by rfl) HL.out ?_; intro w5 m5 g5 s5; have M5 := Lib.hid m5; have G5 := Lib.hid g5; clear m5 g5 s5))
  go_end0
  refine ⟨rfl, RV.out.block (G5.out.block r RV.out.lt (fun e => HNE.out (Option.some.inj e))), M5.out, BV.out.grown G5.out fun k e => .inl (.inr (Option.some.inj e).symm)⟩
set_option maxHeartbeats 4000000 in
theorem wpPutNew {w : World} {r mb most : Nat} {cnt : Int} (h : RBlk w r mb most cnt) {top : List (Int × Value)} (hT : MapM KI w mb top) {t : Int} (ht : (Lit.int .i64 t).wf = true) (hb : getM top t = none) (htl : top.length < 4000000) {tb : ByteArray} (htb : tb.size ≤ maxLen)
    {A : Option Addr} {n c : Nat} (hn : n ≤ 4000000) (hcnt : 0 ≤ cnt ∧ cnt ≤ 4000000) :
    Calls Tryz.prog 98 #[.pointer (some ⟨r, 0, none⟩), .agg #[.int .i64 t, .string tb], .slice A n c] w fun e w' => e = .returned (.tuple #[]) ∧ ∃ b, w.heap.size ≤ b ∧ RBlk w' r mb most (cnt + n) ∧ MapM KI w' mb (putM top t (.map (some b))) ∧ MapM KS w' b [(tb, .slice A n c)] ∧ Out (fun k => k = r ∨ k = mb) w w' := by
  obtain ⟨W, hW⟩ : ∃ W, w.alloc (.cells #[.int .i64 t, .string tb] 171) = W := ⟨_, rfl⟩
  have HW := Lib.hid hW
  have hB : Below w.heap.size w W := by rw [← hW]; exact below_alloc9 _ _
  have q0 : W.heap[w.heap.size]? = some (.cells #[.int .i64 t, .string tb] 171 (0, 0)) := by rw [← hW]; exact heap_alloc_new _ _
  have hR := h.block (hB.block r h.lt)
  have x0 : W.cell? ⟨w.heap.size, 0, none⟩ = some (.int .i64 t) := cell_of_row _ _ 0 _ _ _ q0
  have r2 := hR.cells.2.2.1
  have hT2 := hT.block (hB.block mb hT.lt)
  have qT := (show MapM KI W.drew mb top from hT2.block rfl).lookTop ht
  rw [hb] at qT
  simp only [Option.getD_none] at qT
  have qE := eqMapNil
  have hmm := @run_makeMap Tryz.prog
  obtain ⟨b, hbs⟩ : ∃ b, W.heap.size = b := ⟨_, rfl⟩
  obtain ⟨V, hV⟩ : ∃ V, (W.alloc (.map #[] 0)).drew = V := ⟨_, rfl⟩
  have HV := Lib.hid hV
  have hWs : w.heap.size < W.heap.size := by rw [← hW]; simp
  have hbb : W.heap.size = b := hbs
  have bv : Below W.heap.size W V := by rw [← hV]; exact ((Below.refl _ _).alloc (Nat.le_refl _) _).drew
  have BV := Lib.hid (below_next hB bv)
  have mv : MapM KS V b [] := by rw [← hV, ← hbs]; exact (MapM.new KS W).block rfl
  have RV := hR.block (bv.block r hR.lt)
  have TV := hT2.block (bv.block mb hT2.lt)
  have y0 : V.cell? ⟨w.heap.size, 0, none⟩ = some (.int .i64 t) := keep_below x0 bv
  have z0 := (cell_of_row _ _ 1 _ _ _ ((bv.block _ hWs).trans q0) : V.cell? ⟨w.heap.size, 1, none⟩ = some (.string tb))
  have r3 := RV.cells.2.2.1
  have TD := Lib.hid (show MapM KI V.drew mb top from TV.block rfl)
  have MV := Lib.hid mv
  have HR := Lib.hid RV
  have Z0 := Lib.hid z0
  have HTL := Lib.hid htl
  have HT := Lib.hid ht
  have HTB := Lib.hid htb
  have HRM := Lib.hid (hT.no h)
  have HL := Lib.hid (And.intro h.lt (And.intro hT.lt (show w.heap.size < b by omega)))
  have i1 : IntKind.i64.wrap ((n : Int) - (0 : Int)) = (n : Int) := by rw [IntKind.wrap_i64]; omega
  have i1b : IntKind.i64.wrap (n : Int) = (n : Int) := by rw [IntKind.wrap_i64]; omega
  have i2 : IntKind.i64.wrap (cnt + (n : Int)) = cnt + n := by rw [IntKind.wrap_i64]; omega
  clear h hT hb q0 hR hT2 hV hW hB htl htb ht mv RV TV bv hWs
  go_enter Tryz.func98, Tryz.ntmps98
  go_upto_region 1 with fail
  rw [HW.out]
  go_region
  go_upto_region 4 with fail
  rw [HV.out]
  clear x0 r2 qT
  go_still_tail 7, (by kernel_rfl)
  go_upto_region 5 with (at_mapUpdate; go_loud (refine wp_putM KI (by rfl) (.tmp 20) (.tmp 22) (.tmp 23) (by rfl) (by rfl) TD.out Tryz.underlying153 t HT.out (by rfl) HTL.out ?_; intro w5 m5 g5 s5; have M5 := Lib.hid m5; have G5 := Lib.hid g5; have S5 := Lib.hid s5; clear m5 g5 s5))
  have hmb := HRM.out
  have gr := G5.out.block r HR.out.lt (fun e => hmb (Option.some.inj e))
  have R5 := HR.out.block gr
  have S5b := (MV.out.block (G5.out.block b MV.out.lt (fun e => by have := Option.some.inj e; have := HL.out; omega)) : MapM KS w5 b [])
  obtain ⟨-, p1, -, pf⟩ := R5.cells
  have px : w5.cell? ⟨w.heap.size, 1, none⟩ = some (.string tb) := (World.cell?_of_block (w := V) (G5.out.block w.heap.size (by show w.heap.size < V.heap.size; have := MV.out.lt; have := HL.out; omega) (fun e => by have := Option.some.inj e; have := HL.out; omega))).trans Z0.out
  have qS := (show MapM KS w5.drew b [] from S5b.block rfl).lookTab HTB.out
  simp only [getM, List.find?_nil, Option.map_none, Option.getD_none] at qS
  obtain ⟨V2, hV2⟩ : ∃ V2, (w5.setCell ⟨r, 1, none⟩ (.int .i64 (cnt + n))).drew = V2 := ⟨_, rfl⟩
  have HV2 := Lib.hid hV2
  have hbo : ∀ k, k ≠ r → V2.heap[k]? = w5.heap[k]? := fun k hk => by rw [← hV2]; exact (Below.heap_setCell w5 ⟨r, 1, none⟩ _ k hk : (w5.setCell _ _).heap[k]? = _)
  have RV2 := Lib.hid (show RBlk V2 r mb most (cnt + n) by rw [← hV2]; exact (R5.put _).block rfl)
  have SV2 := Lib.hid (S5b.block (hbo b (by have := HL.out; omega)))
  have TV2 := Lib.hid (M5.out.block (hbo mb (Ne.symm hmb)))
  have OV2 := Lib.hid (show Out (fun k => k = r ∨ k = mb) w V2 by rw [← hV2]; exact (((Out.of_below BV.out _).drew.grown G5.out fun k e => .inl (.inr (Option.some.inj e).symm)).setCell (.inl (.inl rfl)) _).drew)
  have v1 : V2.cell? ⟨w.heap.size, 1, none⟩ = some (.string tb) := (World.cell?_of_block (w := w5) (hbo _ (by have := HL.out; show w.heap.size ≠ r; omega))).trans px
  clear hV2 hbo gr R5 S5b hmb
  simp only [Act.put]
  go_still_tail 15, (by kernel_rfl)
  go_upto_region 6 with fail
  rw [HV2.out]
  clear p1 pf px qS
  go_wp2_with (at_mapUpdate; go_loud (refine wp_putM KS (by rfl) (.tmp 39) (.tmp 41) (.tmp 42) (by rfl) (by rfl) SV2.out Tryz.underlying160 tb HTB.out (by rfl) (by simp) ?_; intro w6 m6 g6 s6; have M6 := Lib.hid m6; have G6 := Lib.hid g6; clear m6 g6 s6))
  go_end0
  refine ⟨rfl, b, by have := HL.out; omega, RV2.out.block (G6.out.block r RV2.out.lt (fun e => by have := Option.some.inj e; have := HL.out; omega)), TV2.out.block (G6.out.block mb TV2.out.lt (fun e => by have := Option.some.inj e; have := HL.out; omega)), M6.out, OV2.out.grown G6.out fun k e => .inr (by have := Option.some.inj e; have := HL.out; omega)⟩
end Go.Proofs.YtknppiebncdjmaaGreat

namespace Go.Proofs.YtknppiebncdjmaaGreat
set_option maxRecDepth 100000
open Go.RowKit

theorem RangeM.len {κ : Type} [DecidableEq κ] {k : TypeId} {T : KT κ k} {w : World} {r it : Nat} {hs left : List (κ × Value)} (hM : RangeM T w r it hs left) {t e : TypeId} (ht : Tryz.prog.underlying t = some (.map k e)) (ty : TypeId) : (Builtin.len_ #[t] ty #[.map (some r)]).run Tryz.prog w = .ok (.int .i64 (hs.length : Nat)) w := hM.map.len ht ty
set_option maxHeartbeats 8000000 in
theorem wpTake {w : World} {r mb most : Nat} {cnt : Int} (h : RBlk w r mb most cnt) {top : List (Int × Value)} (hT : MapM KI w mb top) {t : Int} (ht : (Lit.int .i64 t).wf = true) {b : Nat} (hb : getM top t = some (.map (some b))) (hbm : b ≠ mb) {hs : List (ByteArray × Value)} (hS : MapM KS w b hs) {tb : ByteArray} (htb : tb.size ≤ maxLen)
    {A0 : Option Addr} {n0 c0 : Nat} (h0 : (getM hs tb).getD (.slice none 0 0) = .slice A0 n0 c0) (hn0 : n0 ≤ 4000000) (hcnt : 0 ≤ cnt ∧ cnt ≤ 4000000) :
    Calls Tryz.prog 101 #[.pointer (some ⟨r, 0, none⟩), .agg #[.int .i64 t, .string tb]] w fun e w' => e = .returned (.tuple #[]) ∧ RBlk w' r mb most (cnt - n0) ∧ MapM KI w' mb (if (delM hs tb).length = 0 then delM top t else top) ∧ MapM KS w' b (delM hs tb) ∧ Out (fun k => k = r ∨ k = b ∨ k = mb) w w' := by
  obtain ⟨W, hW⟩ : ∃ W, w.alloc (.cells #[.int .i64 t, .string tb] 171) = W := ⟨_, rfl⟩
  have HW := Lib.hid hW
  obtain ⟨tp, htp⟩ : ∃ tp, (if (delM hs tb).length = 0 then delM top t else top) = tp := ⟨_, rfl⟩
  rw [htp]
  have HTP := Lib.hid htp
  clear htp
  have hB : Below w.heap.size w W := by rw [← hW]; exact below_alloc9 _ _
  have q0 : W.heap[w.heap.size]? = some (.cells #[.int .i64 t, .string tb] 171 (0, 0)) := by rw [← hW]; exact heap_alloc_new _ _
  have x0 : W.cell? ⟨w.heap.size, 0, none⟩ = some (.int .i64 t) := cell_of_row _ _ 0 _ _ _ q0
  have hR := h.block (hB.block r h.lt)
  have r2 := hR.cells.2.2.1
  have hT2 := hT.block (hB.block mb hT.lt)
  have hS2 : MapM KS W b hs := hS.block (hB.block b (hS).lt)
  have qT := (show MapM KI W.drew mb top from hT2.block rfl).lookTop ht
  rw [hb] at qT
  simp only [Option.getD_some] at qT
  obtain ⟨W2, hW2⟩ : ∃ W2, W.drew = W2 := ⟨_, rfl⟩
  have HW2 := Lib.hid hW2
  have hh2 : W2.heap = W.heap := by rw [← hW2]; rfl
  have qS := ((hS2).block (by show W2.drew.heap[b]? = _; exact congrArg (fun h => h[b]?) hh2) : MapM KS W2.drew b hs).lookTab htb
  rw [h0] at qS
  have hrb : r ≠ b := (hS).no h
  have hrm : r ≠ mb := hT.no h
  have hR2 : RBlk W2 r mb most cnt := hR.block (by rw [hh2])
  obtain ⟨-, p1, -, pf⟩ := hR2.cells
  have px : W2.cell? ⟨w.heap.size, 1, none⟩ = some (.string tb) := (World.cell?_of_block (w := W) (by rw [hh2])).trans (cell_of_row _ _ 1 _ _ _ q0)
  have i1 : IntKind.i64.wrap (cnt - (n0 : Int)) = cnt - n0 := by rw [IntKind.wrap_i64]; omega
  obtain ⟨V, hV⟩ : ∃ V, (W2.setCell ⟨r, 1, none⟩ (.int .i64 (cnt - n0))).drew = V := ⟨_, rfl⟩
  have HV := Lib.hid hV
  have BV := Lib.hid (show Out (fun k => k = r ∨ k = b ∨ k = mb) w V by rw [← hV, ← hW2]; exact (((Out.of_below hB _).drew).setCell (.inl (.inl rfl)) _).drew)
  have RV := Lib.hid (show RBlk V r mb most (cnt - n0) by rw [← hV]; exact (hR2.put _).block rfl)
  have hbo : ∀ k, k ≠ r → V.heap[k]? = W.heap[k]? := fun k hk => by rw [← hV, ← hW2]; exact (Below.heap_setCell W.drew ⟨r, 1, none⟩ _ k hk : (W.drew.setCell _ _).heap[k]? = _)
  have SV : MapM KS V b hs := hS2.block (hbo b (Ne.symm hrb))
  have HSV := Lib.hid SV
  have TV := Lib.hid (hT2.block (hbo mb (Ne.symm hrm)))
  have VS := Lib.hid (show w.heap.size < V.heap.size by rw [← hV, ← hW2]; show w.heap.size < (W.drew.setCell _ _).heap.size; simp [World.setCell]; rw [← hW]; simp)
  have Q0 := Lib.hid ((hbo w.heap.size (by have := h.lt; omega)).trans q0)
  have v1 : V.cell? ⟨w.heap.size, 1, none⟩ = some (.string tb) := cell_of_row _ _ 1 _ _ _ Q0.out
  have HTB := Lib.hid htb
  have HT := Lib.hid ht
  have HNE := Lib.hid (And.intro hrb (And.intro hrm hbm))
  have HLT := Lib.hid (And.intro h.lt (And.intro (hS).lt hT.lt))
  clear h hT hS hb q0 hR hT2 hS2 h0 hV hbo hW hB hrb htb ht hW2 hh2 hR2 SV hbm hrm
  go_enter Tryz.func101, Tryz.ntmps101
  go_upto_region 1 with fail
  rw [HW.out]
  go_region
  rw [HW2.out]
  clear x0 r2 qT
  go_upto_region 2 with fail
  go_still_tail 12, (by kernel_rfl)
  go_upto_region 3 with fail
  rw [HV.out]
  clear p1 pf px qS
  go_upto_region 4 with (at_delete; go_loud (refine wp_delM KS (by rfl) (.tmp 24) (.tmp 26) (by rfl) (by rfl) HSV.out Tryz.underlying160 tb HTB.out (by rfl) ?_; intro w5 m5 g5 s5; have M5 := Lib.hid m5; have G5 := Lib.hid g5; clear m5 g5 s5))
  have gr := G5.out.block r RV.out.lt (fun e => HNE.out.1 (Option.some.inj e))
  have RV5 := Lib.hid (RV.out.block gr)
  have TV5 := Lib.hid (TV.out.block (G5.out.block mb TV.out.lt (fun e => HNE.out.2.2 (Option.some.inj e).symm)))
  have BV5 := Lib.hid (BV.out.grown G5.out fun k e => .inl (.inr (.inl (Option.some.inj e).symm)))
  have Q5 := (G5.out.block w.heap.size VS.out (fun e => by have := Option.some.inj e; have := HLT.out; omega)).trans Q0.out
  have u0 : w5.cell? ⟨w.heap.size, 0, none⟩ = some (.int .i64 t) := cell_of_row _ _ 0 _ _ _ Q5
  have ur := RV5.out.cells.2.2.1
  have qN := fun ty => M5.out.len Tryz.underlying160 ty
  clear gr v1 Q5
  by_cases hz : (delM hs tb).length = 0
  · rw [hz] at qN
    have HTQ := Lib.hid (show delM top t = tp by rw [← HTP.out, if_pos hz])
    clear hz
    go_upto_region 5 with fail
    go_still_tail 6, (by kernel_rfl)
    go_wp2_with (at_delete; go_loud (refine wp_delM KI (by rfl) (.tmp 33) (.tmp 35) (by rfl) (by rfl) (show MapM KI w5.drew mb top from TV5.out.block rfl) Tryz.underlying153 t HT.out (by rfl) ?_; intro w6 m6 g6 s6; have M6 := Lib.hid m6; have G6 := Lib.hid g6; clear m6 g6 s6))
    go_end0
    exact ⟨rfl, RV5.out.block (G6.out.block r RV5.out.lt (fun e => HNE.out.2.1 (Option.some.inj e))), by rw [← HTQ.out]; exact M6.out, M5.out.block (G6.out.block b M5.out.lt (fun e => HNE.out.2.2 (Option.some.inj e))), BV5.out.drew.grown G6.out fun k e => .inl (.inr (.inr (Option.some.inj e).symm))⟩
  · have hz2 : ¬ ((delM hs tb).length : Int) = 0 := by omega
    have HTQ := Lib.hid (show top = tp by rw [← HTP.out, if_neg hz])
    generalize (delM hs tb).length = nn at qN hz2
    clear hz
    go_wp2
    go_end0
    exact ⟨rfl, RV5.out, by rw [← HTQ.out]; exact TV5.out, M5.out, BV5.out⟩
set_option maxHeartbeats 8000000 in
theorem wpTakeR {w : World} {r mb most : Nat} {cnt : Int} (h : RBlk w r mb most cnt) {top : List (Int × Value)} (hT : MapM KI w mb top) {t : Int} (ht : (Lit.int .i64 t).wf = true) {b : Nat} (hb : getM top t = some (.map (some b))) (hbm : b ≠ mb) {hs : List (ByteArray × Value)} {it : Nat} {left : List (ByteArray × Value)} (hS : RangeM KS w b it hs left) {tb : ByteArray} (htb : tb.size ≤ maxLen) (hnl : getM left tb = none)
    {A0 : Option Addr} {n0 c0 : Nat} (h0 : (getM hs tb).getD (.slice none 0 0) = .slice A0 n0 c0) (hn0 : n0 ≤ 4000000) (hcnt : 0 ≤ cnt ∧ cnt ≤ 4000000) (hits : it ≠ r ∧ it ≠ b ∧ it ≠ mb) :
    Calls Tryz.prog 101 #[.pointer (some ⟨r, 0, none⟩), .agg #[.int .i64 t, .string tb]] w fun e w' => e = .returned (.tuple #[]) ∧ RBlk w' r mb most (cnt - n0) ∧ MapM KI w' mb (if (delM hs tb).length = 0 then delM top t else top) ∧ RangeM KS w' b it (delM hs tb) left ∧ Out (fun k => k = r ∨ k = b ∨ k = mb) w w' ∧ w'.heap[it]? = w.heap[it]? ∧ w'.rangeLeft b it ≤ w.rangeLeft b it := by
  obtain ⟨W, hW⟩ : ∃ W, w.alloc (.cells #[.int .i64 t, .string tb] 171) = W := ⟨_, rfl⟩
  have HW := Lib.hid hW
  obtain ⟨tp, htp⟩ : ∃ tp, (if (delM hs tb).length = 0 then delM top t else top) = tp := ⟨_, rfl⟩
  rw [htp]
  have HTP := Lib.hid htp
  clear htp
  have hB : Below w.heap.size w W := by rw [← hW]; exact below_alloc9 _ _
  have q0 : W.heap[w.heap.size]? = some (.cells #[.int .i64 t, .string tb] 171 (0, 0)) := by rw [← hW]; exact heap_alloc_new _ _
  have x0 : W.cell? ⟨w.heap.size, 0, none⟩ = some (.int .i64 t) := cell_of_row _ _ 0 _ _ _ q0
  have hR := h.block (hB.block r h.lt)
  have r2 := hR.cells.2.2.1
  have hT2 := hT.block (hB.block mb hT.lt)
  have hS2 : RangeM KS W b it hs left := hS.kept (hB.block b (hS.map).lt) (hB.block it (RangeM.it_lt hS))
  have qT := (show MapM KI W.drew mb top from hT2.block rfl).lookTop ht
  rw [hb] at qT
  simp only [Option.getD_some] at qT
  obtain ⟨W2, hW2⟩ : ∃ W2, W.drew = W2 := ⟨_, rfl⟩
  have HW2 := Lib.hid hW2
  have hh2 : W2.heap = W.heap := by rw [← hW2]; rfl
  have qS := ((hS2.map).block (by show W2.drew.heap[b]? = _; exact congrArg (fun h => h[b]?) hh2) : MapM KS W2.drew b hs).lookTab htb
  rw [h0] at qS
  have hrb : r ≠ b := (hS.map).no h
  have hrm : r ≠ mb := hT.no h
  have hR2 : RBlk W2 r mb most cnt := hR.block (by rw [hh2])
  obtain ⟨-, p1, -, pf⟩ := hR2.cells
  have px : W2.cell? ⟨w.heap.size, 1, none⟩ = some (.string tb) := (World.cell?_of_block (w := W) (by rw [hh2])).trans (cell_of_row _ _ 1 _ _ _ q0)
  have i1 : IntKind.i64.wrap (cnt - (n0 : Int)) = cnt - n0 := by rw [IntKind.wrap_i64]; omega
  obtain ⟨V, hV⟩ : ∃ V, (W2.setCell ⟨r, 1, none⟩ (.int .i64 (cnt - n0))).drew = V := ⟨_, rfl⟩
  have HV := Lib.hid hV
  have BV := Lib.hid (show Out (fun k => k = r ∨ k = b ∨ k = mb) w V by rw [← hV, ← hW2]; exact (((Out.of_below hB _).drew).setCell (.inl (.inl rfl)) _).drew)
  have RV := Lib.hid (show RBlk V r mb most (cnt - n0) by rw [← hV]; exact (hR2.put _).block rfl)
  have hbo : ∀ k, k ≠ r → V.heap[k]? = W.heap[k]? := fun k hk => by rw [← hV, ← hW2]; exact (Below.heap_setCell W.drew ⟨r, 1, none⟩ _ k hk : (W.drew.setCell _ _).heap[k]? = _)
  have SV : RangeM KS V b it hs left := hS2.kept (hbo b (Ne.symm hrb)) (hbo it (hits.1))
  have HSV := Lib.hid SV
  have TV := Lib.hid (hT2.block (hbo mb (Ne.symm hrm)))
  have VS := Lib.hid (show w.heap.size < V.heap.size by rw [← hV, ← hW2]; show w.heap.size < (W.drew.setCell _ _).heap.size; simp [World.setCell]; rw [← hW]; simp)
  have Q0 := Lib.hid ((hbo w.heap.size (by have := h.lt; omega)).trans q0)
  have v1 : V.cell? ⟨w.heap.size, 1, none⟩ = some (.string tb) := cell_of_row _ _ 1 _ _ _ Q0.out
  have HTB := Lib.hid htb
  have HT := Lib.hid ht
  have HNE := Lib.hid (And.intro hrb (And.intro hrm hbm))
  have HLT := Lib.hid (And.intro h.lt (And.intro (hS.map).lt hT.lt))
  have HIT := Lib.hid (And.intro hits (show V.heap[it]? = w.heap[it]? from (hbo it (hits.1)).trans (hB.block it (RangeM.it_lt hS))))
  have HLE := Lib.hid (show V.rangeLeft b it = w.rangeLeft b it from left_kept ((hbo b (Ne.symm hrb)).trans (hB.block b hS.map.lt)) ((hbo it (hits.1)).trans (hB.block it (RangeM.it_lt hS))))
  have HNL := Lib.hid hnl
  clear hits hnl
  clear h hT hS hb q0 hR hT2 hS2 h0 hV hbo hW hB hrb htb ht hW2 hh2 hR2 SV hbm hrm
  go_enter Tryz.func101, Tryz.ntmps101
  go_upto_region 1 with fail
  rw [HW.out]
  go_region
  rw [HW2.out]
  clear x0 r2 qT
  go_upto_region 2 with fail
  go_still_tail 12, (by kernel_rfl)
  go_upto_region 3 with fail
  rw [HV.out]
  clear p1 pf px qS
  go_upto_region 4 with (at_delete; go_loud (refine wp_rdelM KS (by rfl) (.tmp 24) (.tmp 26) (by rfl) (by rfl) it left HSV.out Tryz.underlying160 tb HTB.out (by rfl) HNL.out ?_; intro w5 m5 g5 s5 l5; have M5 := Lib.hid m5; have G5 := Lib.hid g5; have L5 := Lib.hid l5; clear m5 g5 s5 l5))
  have gr := G5.out.block r RV.out.lt (fun e => HNE.out.1 (Option.some.inj e))
  have RV5 := Lib.hid (RV.out.block gr)
  have TV5 := Lib.hid (TV.out.block (G5.out.block mb TV.out.lt (fun e => HNE.out.2.2 (Option.some.inj e).symm)))
  have BV5 := Lib.hid (BV.out.grown G5.out fun k e => .inl (.inr (.inl (Option.some.inj e).symm)))
  have Q5 := (G5.out.block w.heap.size VS.out (fun e => by have := Option.some.inj e; have := HLT.out; omega)).trans Q0.out
  have u0 : w5.cell? ⟨w.heap.size, 0, none⟩ = some (.int .i64 t) := cell_of_row _ _ 0 _ _ _ Q5
  have ur := RV5.out.cells.2.2.1
  have qN := fun ty => M5.out.len Tryz.underlying160 ty
  clear gr v1 Q5
  by_cases hz : (delM hs tb).length = 0
  · rw [hz] at qN
    have HTQ := Lib.hid (show delM top t = tp by rw [← HTP.out, if_pos hz])
    clear hz
    go_upto_region 5 with fail
    go_still_tail 6, (by kernel_rfl)
    go_wp2_with (at_delete; go_loud (refine wp_delM KI (by rfl) (.tmp 33) (.tmp 35) (by rfl) (by rfl) (show MapM KI w5.drew mb top from TV5.out.block rfl) Tryz.underlying153 t HT.out (by rfl) ?_; intro w6 m6 g6 s6; have M6 := Lib.hid m6; have G6 := Lib.hid g6; clear m6 g6 s6))
    go_end0
    exact ⟨rfl, RV5.out.block (G6.out.block r RV5.out.lt (fun e => HNE.out.2.1 (Option.some.inj e))), by rw [← HTQ.out]; exact M6.out, M5.out.kept ((G6.out.block b M5.out.map.lt (fun e => HNE.out.2.2 (Option.some.inj e)))) ((G6.out.block it (RangeM.it_lt M5.out) (fun e => HIT.out.1.2.2 (Option.some.inj e)))), BV5.out.drew.grown G6.out fun k e => .inl (.inr (.inr (Option.some.inj e).symm)), (G6.out.block it (RangeM.it_lt M5.out) (fun e => HIT.out.1.2.2 (Option.some.inj e))).trans ((G5.out.block it (RangeM.it_lt HSV.out) (fun e => HIT.out.1.2.1 (Option.some.inj e))).trans HIT.out.2), by rw [left_kept (w := w5) (G6.out.block b M5.out.map.lt (fun e => HNE.out.2.2 (Option.some.inj e))) (G6.out.block it (RangeM.it_lt M5.out) (fun e => HIT.out.1.2.2 (Option.some.inj e)))]; exact Nat.le_trans L5.out (Nat.le_of_eq HLE.out)⟩
  · have hz2 : ¬ ((delM hs tb).length : Int) = 0 := by omega
    have HTQ := Lib.hid (show top = tp by rw [← HTP.out, if_neg hz])
    generalize (delM hs tb).length = nn at qN hz2
    clear hz
    go_wp2
    go_end0
    exact ⟨rfl, RV5.out, by rw [← HTQ.out]; exact TV5.out, M5.out, BV5.out, (G5.out.block it (RangeM.it_lt HSV.out) (fun e => HIT.out.1.2.1 (Option.some.inj e))).trans HIT.out.2, Nat.le_trans L5.out (Nat.le_of_eq HLE.out)⟩
end Go.Proofs.YtknppiebncdjmaaGreat

namespace Go.Proofs.YtknppiebncdjmaaGreat
set_option maxRecDepth 100000

def Bst (S : (Int × ByteArray) → Nat → Prop) (p : Int × ByteArray) (n : Nat) : Prop := (n = 0 ∧ ∀ q m, ¬ S q m) ∨ (S p n ∧ ∀ q m, S q m → m ≤ n ∧ (m = n → pairLt q p = false))
theorem Bst.congr {S S' : (Int × ByteArray) → Nat → Prop} {p : Int × ByteArray} {n : Nat} (h : Bst S p n) (hS : ∀ q m, S' q m ↔ S q m) : Bst S' p n := by
  rcases h with ⟨h1, h2⟩ | ⟨h1, h2⟩
  · exact .inl ⟨h1, fun q m hq => h2 q m ((hS q m).1 hq)⟩
  · exact .inr ⟨(hS _ _).2 h1, fun q m hq => h2 q m ((hS q m).1 hq)⟩
theorem Bst.take {S S' : (Int × ByteArray) → Nat → Prop} {p p2 : Int × ByteArray} {n n2 : Nat} (h : Bst S p n) (h0 : 0 < n2) (hS : ∀ q m, S' q m ↔ S q m ∨ (q = p2 ∧ m = n2)) (hb : n < n2 ∨ (n2 = n ∧ pairLt p2 p = true)) : Bst S' p2 n2 := by
  refine .inr ⟨(hS _ _).2 (.inr ⟨rfl, rfl⟩), fun q m hq => ?_⟩
  rcases (hS q m).1 hq with h1 | ⟨rfl, rfl⟩
  · rcases h with ⟨h2, h3⟩ | ⟨h2, h3⟩
    · exact absurd h1 (h3 q m)
    · obtain ⟨h4, h5⟩ := h3 q m h1
      rcases hb with hb | ⟨rfl, hb⟩
      · exact ⟨by omega, fun e => by omega⟩
      · refine ⟨h4, fun e => ?_⟩
        cases h6 : pairLt q p2 with
        | false => rfl
        | true =>
          have := h5 e
          rw [pairLt_tr h6 hb] at this
          cases this
  · exact ⟨Nat.le_refl _, fun _ => pairLt_irr _⟩
theorem Bst.leave {S S' : (Int × ByteArray) → Nat → Prop} {p p2 : Int × ByteArray} {n n2 : Nat} (h : Bst S p n) (h0 : 0 < n2) (hS : ∀ q m, S' q m ↔ S q m ∨ (q = p2 ∧ m = n2)) (hb : ¬ n < n2 ∧ (n2 = n → pairLt p2 p = false)) : Bst S' p n := by
  rcases h with ⟨h2, h3⟩ | ⟨h2, h3⟩
  · omega
  · refine .inr ⟨(hS _ _).2 (.inl h2), fun q m hq => ?_⟩
    rcases (hS q m).1 hq with h1 | ⟨rfl, rfl⟩
    · exact h3 q m h1
    · exact ⟨by omega, hb.2⟩
def AllP (X : List Tx9) (p : Int × ByteArray) (n : Nat) : Prop := ∃ e ∈ X, ∃ q ∈ e.2.2, p = (e.1, q.1) ∧ n = q.2.2.length
def VisO (X : List Tx9) (left : List (Int × Value)) (p : Int × ByteArray) (n : Nat) : Prop := ∃ e ∈ X, (∀ v, (e.1, v) ∉ left) ∧ ∃ q ∈ e.2.2, p = (e.1, q.1) ∧ n = q.2.2.length
def VisI (X : List Tx9) (left : List (Int × Value)) (t : Int) (T : List Tb9) (leftT : List (ByteArray × Value)) (p : Int × ByteArray) (n : Nat) : Prop := (VisO X left p n ∧ p.1 ≠ t) ∨ ∃ q ∈ T, (∀ v, (q.1, v) ∉ leftT) ∧ p = (t, q.1) ∧ n = q.2.2.length
theorem visO_start (X : List Tx9) (p : Int × ByteArray) (n : Nat) : ¬ VisO X (topX X) p n := by
  rintro ⟨e, he, h, -⟩
  exact h _ (List.mem_map.2 ⟨e, he, rfl⟩)
theorem visO_end (X : List Tx9) (p : Int × ByteArray) (n : Nat) : VisO X [] p n ↔ AllP X p n := by
  unfold VisO AllP
  simp
theorem tx_eq {X : List Tx9} (h : (X.map (·.1)).Nodup) {e f : Tx9} (he : e ∈ X) (hf : f ∈ X) (e1 : e.1 = f.1) : e = f := by
  induction X with
  | nil => cases he
  | cons x X ih =>
    obtain ⟨n1, n2⟩ := List.nodup_cons.1 (show (x.1 :: X.map (·.1)).Nodup from h)
    rcases List.mem_cons.1 he with rfl | he <;> rcases List.mem_cons.1 hf with rfl | hf
    · rfl
    · exact (n1 (List.mem_map.2 ⟨f, by assumption, e1.symm⟩)).elim
    · exact (n1 (List.mem_map.2 ⟨e, by assumption, e1⟩)).elim
    · exact ih n2 he hf
theorem visI_start {X : List Tx9} (h : (X.map (·.1)).Nodup) {left : List (Int × Value)} {t : Int} {b : Nat} {T : List Tb9} (hm : (t, b, T) ∈ X) {v : Value} (hl : (t, v) ∈ left) (p : Int × ByteArray) (n : Nat) : VisI X (delM left t) t T (tabT T) p n ↔ VisO X left p n := by
  constructor
  · rintro (⟨⟨e, he, h1, q, hq, rfl, rfl⟩, hne⟩ | ⟨q, hq, h1, -, -⟩)
    · exact ⟨e, he, fun u hu => h1 u (mem_delM.2 ⟨hu, hne⟩), q, hq, rfl, rfl⟩
    · exact absurd (List.mem_map.2 ⟨q, hq, rfl⟩) (h1 q.2.1)
  · rintro ⟨e, he, h1, q, hq, rfl, rfl⟩
    have hne : e.1 ≠ t := fun e2 => h1 v (by rw [e2]; exact hl)
    exact .inl ⟨⟨e, he, fun u hu => h1 u (mem_delM.1 hu).1, q, hq, rfl, rfl⟩, hne⟩
theorem visI_end {X : List Tx9} (h : (X.map (·.1)).Nodup) {left : List (Int × Value)} (ho : OnceM left) {t : Int} {b : Nat} {T : List Tb9} (hm : (t, b, T) ∈ X) (p : Int × ByteArray) (n : Nat) : VisO X (delM left t) p n ↔ VisI X (delM left t) t T [] p n := by
  constructor
  · rintro ⟨e, he, h1, q, hq, rfl, rfl⟩
    by_cases hne : e.1 = t
    · have := tx_eq h he hm hne
      subst this
      exact .inr ⟨q, hq, by simp, rfl, rfl⟩
    · exact .inl ⟨⟨e, he, h1, q, hq, rfl, rfl⟩, hne⟩
  · rintro (⟨h1, -⟩ | ⟨q, hq, -, rfl, rfl⟩)
    · exact h1
    · exact ⟨(t, b, T), hm, fun u hu => (mem_delM.1 hu).2 rfl, q, hq, rfl, rfl⟩
theorem tb_eq {T : List Tb9} (h : (T.map (·.1)).Nodup) {e f : Tb9} (he : e ∈ T) (hf : f ∈ T) (e1 : e.1 = f.1) : e = f := by
  induction T with
  | nil => cases he
  | cons x T ih =>
    obtain ⟨n1, n2⟩ := List.nodup_cons.1 (show (x.1 :: T.map (·.1)).Nodup from h)
    rcases List.mem_cons.1 he with rfl | he <;> rcases List.mem_cons.1 hf with rfl | hf
    · rfl
    · exact (n1 (List.mem_map.2 ⟨f, by assumption, e1.symm⟩)).elim
    · exact (n1 (List.mem_map.2 ⟨e, by assumption, e1⟩)).elim
    · exact ih n2 he hf
theorem visI_step {X : List Tx9} {left : List (Int × Value)} {t : Int} {T : List Tb9} (hT : (T.map (·.1)).Nodup) {leftT : List (ByteArray × Value)} {q : Tb9} (hq : q ∈ T) {v : Value} (hl : (q.1, v) ∈ leftT) (p : Int × ByteArray) (n : Nat) :
    VisI X left t T (delM leftT q.1) p n ↔ VisI X left t T leftT p n ∨ (p = (t, q.1) ∧ n = q.2.2.length) := by
  constructor
  · rintro (h1 | ⟨q2, hq2, h1, rfl, rfl⟩)
    · exact .inl (.inl h1)
    · by_cases e : q2.1 = q.1
      · have := tb_eq hT hq2 hq e
        subst this
        exact .inr ⟨rfl, rfl⟩
      · exact .inl (.inr ⟨q2, hq2, fun u hu => h1 u (mem_delM.2 ⟨hu, e⟩), rfl, rfl⟩)
  · rintro ((h1 | ⟨q2, hq2, h1, rfl, rfl⟩) | ⟨rfl, rfl⟩)
    · exact .inl h1
    · exact .inr ⟨q2, hq2, fun u hu => h1 u (mem_delM.1 hu).1, rfl, rfl⟩
    · exact .inr ⟨q, hq, fun u hu => (mem_delM.1 hu).2 rfl, rfl, rfl⟩
section
variable {w : World} {ops : Array Oper} {rest : List Oper} {o : Oper} {a : Act} {Q : Exit → Act → World → Prop} {r : Nat}
theorem wp_nextI {hs : List (Int × Value)} (hg : o.guard = none) (p : Operand) (hop : o.op = Op.next p false) (it : Nat) (left : List (Int × Value)) (hp : a.eval p = .pointer (some ⟨it, 0, none⟩)) (hR : RangeM KI w r it hs left)
    (hDone : left = [] → wpList Tryz.prog ops Q rest (a.put o.dst (.tuple #[.bool false])) w)
    (hMore : ∀ (x : Int) (v : Value) (w' : World), (x, v) ∈ left → (Lit.int .i64 x).wf = true → RangeM KI w' r it hs (delM left x) → w.grownBy w' (some it) → w'.heap.size = w.heap.size → w'.rangeLeft r it < w.rangeLeft r it →
      (Instr.entry (.pointer (some ⟨it, 0, none⟩))).run Tryz.prog w' = .ok (.tuple #[.int .i64 x, v]) w' → wpList Tryz.prog ops Q rest (a.put o.dst (.tuple #[.bool true, .int .i64 x, v])) w') :
    wpList Tryz.prog ops Q (o :: rest) a w := wp_nextM KI hg p hop it left hp hR hDone hMore
theorem wp_nextS {hs : List (ByteArray × Value)} (hg : o.guard = none) (p : Operand) (hop : o.op = Op.next p false) (it : Nat) (left : List (ByteArray × Value)) (hp : a.eval p = .pointer (some ⟨it, 0, none⟩)) (hR : RangeM KS w r it hs left)
    (hDone : left = [] → wpList Tryz.prog ops Q rest (a.put o.dst (.tuple #[.bool false])) w)
    (hMore : ∀ (x : ByteArray) (v : Value) (w' : World), (x, v) ∈ left → x.size ≤ maxLen → RangeM KS w' r it hs (delM left x) → w.grownBy w' (some it) → w'.heap.size = w.heap.size → w'.rangeLeft r it < w.rangeLeft r it →
      (Instr.entry (.pointer (some ⟨it, 0, none⟩))).run Tryz.prog w' = .ok (.tuple #[.string x, v]) w' → wpList Tryz.prog ops Q rest (a.put o.dst (.tuple #[.bool true, .string x, v])) w') :
    wpList Tryz.prog ops Q (o :: rest) a w := wp_nextM KS hg p hop it left hp hR hDone hMore
end
theorem grown_below {B : Nat} {w w' : World} {k : Nat} (h : w.grownBy w' (some k)) (hB : B ≤ w.heap.size) (hk : B ≤ k) : RowKit.Below B w w' := ⟨h.os, h.tape, h.output, h.size, fun i hi => h.block i (Nat.lt_of_lt_of_le hi hB) (fun e => by have := Option.some.inj e; omega)⟩
theorem grown_none {B : Nat} {w w' : World} (h : w.grownBy w' none) (hB : B ≤ w.heap.size) : RowKit.Below B w w' := ⟨h.os, h.tape, h.output, h.size, fun i hi => h.block i (Nat.lt_of_lt_of_le hi hB) (by simp)⟩
end Go.Proofs.YtknppiebncdjmaaGreat

namespace Go.Proofs.YtknppiebncdjmaaGreat
set_option maxRecDepth 100000
open Go.RowKit

def notP (t : Int) (tb : ByteArray) (n : Nt) : Bool := !(decide (n.1 = t) && (n.2.tb.toList == tb.toList))
theorem mem_flatX {X : List Tx9} {n : Nt} : n ∈ flatX X ↔ ∃ e ∈ X, ∃ q ∈ e.2.2, ∃ z ∈ q.2.2, n = (e.1, z.2) := by
  unfold flatX flatT
  simp only [List.mem_flatMap, List.mem_map]
  constructor
  · rintro ⟨e, he, q, hq, z, hz, rfl⟩; exact ⟨e, he, q, hq, z, hz, rfl⟩
  · rintro ⟨e, he, q, hq, z, hz, rfl⟩; exact ⟨e, he, q, hq, z, hz, rfl⟩
theorem flatX_cons (e : Tx9) (X : List Tx9) : flatX (e :: X) = flatT e.1 e.2.2 ++ flatX X := by unfold flatX; rw [List.flatMap_cons]
theorem flatT_cons (t : Int) (q : Tb9) (T : List Tb9) : flatT t (q :: T) = (q.2.2.map fun z => (t, z.2)) ++ flatT t T := by unfold flatT; rw [List.flatMap_cons]
theorem tbOk_tb {t : Int} {q : Tb9} (h : TbOk t q) : ∀ z ∈ q.2.2, z.2.tb = q.1 := fun z hz => (h.ord.may z.2 (List.mem_map.2 ⟨z, hz, rfl⟩)).2
theorem filter_other {X : List Tx9} {t : Int} {tb : ByteArray} (h : ∀ e ∈ X, e.1 ≠ t) : (flatX X).filter (notP t tb) = flatX X := List.filter_eq_self.2 fun n hn => by
  obtain ⟨e, he, q, hq, z, hz, rfl⟩ := mem_flatX.1 hn
  unfold notP
  simp [h e he]
theorem filter_tabs {t : Int} {T : List Tb9} {tb : ByteArray} (hok : ∀ q ∈ T, TbOk t q) (h : ∀ q ∈ T, q.1 ≠ tb) : (flatT t T).filter (notP t tb) = flatT t T := List.filter_eq_self.2 fun n hn => by
  unfold flatT at hn
  simp only [List.mem_flatMap, List.mem_map] at hn
  obtain ⟨q, hq, z, hz, rfl⟩ := hn
  have h1 := tbOk_tb (hok q hq) z hz
  unfold notP
  rw [toList_beq8, h1]
  simp [h q hq]
theorem filter_own {t : Int} {q : Tb9} (hok : TbOk t q) : (q.2.2.map fun z => ((t, z.2) : Nt)).filter (notP t q.1) = [] := List.filter_eq_nil_iff.2 fun n hn => by
  obtain ⟨z, hz, rfl⟩ := List.mem_map.1 hn
  unfold notP
  rw [toList_beq8, tbOk_tb hok z hz]
  simp
theorem len_tx {X : List Tx9} (h : ∀ e ∈ X, e.2.2 ≠ [] ∧ ∀ q ∈ e.2.2, q.2.2 ≠ []) : X.length ≤ (flatX X).length := by
  induction X with
  | nil => simp [flatX]
  | cons e X ih =>
    rw [flatX_cons, List.length_append, List.length_cons]
    have h1 := ih fun e he => h e (List.mem_cons_of_mem _ he)
    obtain ⟨h2, h3⟩ := h e (List.mem_cons_self ..)
    obtain ⟨q, hq⟩ := List.exists_mem_of_ne_nil _ h2
    obtain ⟨z, hz⟩ := List.exists_mem_of_ne_nil _ (h3 q hq)
    have : 0 < (flatT e.1 e.2.2).length := List.length_pos_of_mem (a := (e.1, z.2)) (by unfold flatT; simp only [List.mem_flatMap, List.mem_map]; exact ⟨q, hq, z, hz, rfl⟩)
    omega
theorem len_tb {t : Int} {T : List Tb9} (h : ∀ q ∈ T, q.2.2 ≠ []) : T.length ≤ (flatT t T).length := by
  induction T with
  | nil => simp [flatT]
  | cons q T ih =>
    rw [flatT_cons, List.length_append, List.length_cons]
    have h1 := ih fun e he => h e (List.mem_cons_of_mem _ he)
    have h2 := List.length_pos_iff.2 (h q (List.mem_cons_self ..))
    rw [List.length_map]
    omega
theorem len_in {X : List Tx9} {e : Tx9} (he : e ∈ X) : (flatT e.1 e.2.2).length ≤ (flatX X).length := by
  obtain ⟨l1, l2, rfl⟩ := List.append_of_mem he
  unfold flatX
  simp
  omega
theorem len_own {t : Int} {T : List Tb9} {q : Tb9} (hq : q ∈ T) : q.2.2.length ≤ (flatT t T).length := by
  obtain ⟨l1, l2, rfl⟩ := List.append_of_mem hq
  unfold flatT
  simp
  omega
theorem getM_top {X : List Tx9} {t : Int} (h : OnceM (topX X)) {b : Nat} {T : List Tb9} (he : (t, b, T) ∈ X) : getM (topX X) t = some (.map (some b)) := (getM_some h).2 (List.mem_map.2 ⟨_, he, rfl⟩)
theorem getM_topN {X : List Tx9} {t : Int} (h : ∀ e ∈ X, e.1 ≠ t) : getM (topX X) t = none := getM_none.2 fun v hv => by
  obtain ⟨e, he, e1⟩ := List.mem_map.1 hv
  exact h e he (congrArg Prod.fst e1)
theorem getM_tab {T : List Tb9} (h : OnceM (tabT T)) {q : Tb9} (hq : q ∈ T) : getM (tabT T) q.1 = some q.2.1 := (getM_some h).2 (List.mem_map.2 ⟨_, hq, rfl⟩)
theorem getM_tabN {T : List Tb9} {tb : ByteArray} (h : ∀ q ∈ T, q.1 ≠ tb) : getM (tabT T) tb = none := getM_none.2 fun v hv => by
  obtain ⟨e, he, e1⟩ := List.mem_map.1 hv
  exact h e he (congrArg Prod.fst e1)
theorem delM_tab {T : List Tb9} {tb : ByteArray} (h : ∀ q ∈ T, q.1 ≠ tb) : delM (tabT T) tb = tabT T := del_none (getM_tabN h)
theorem delM_tab_cons {T : List Tb9} {tb : ByteArray} {v : Value} {ls : List (Nat × Rd)} (h : ∀ q ∈ T, q.1 ≠ tb) : delM (tabT ((tb, v, ls) :: T)) tb = tabT T := by
  have := delM_tab h
  unfold tabT delM at *
  rw [List.map_cons, List.filter_cons_of_neg (by simp)]
  exact this
theorem delM_top_cons {X : List Tx9} {t : Int} {b : Nat} {T : List Tb9} (h : ∀ e ∈ X, e.1 ≠ t) : delM (topX ((t, b, T) :: X)) t = topX X := by
  have := del_none (getM_topN h)
  unfold topX delM at *
  rw [List.map_cons, List.filter_cons_of_neg (by simp)]
  exact this
section
variable {E : Int → ByteArray → Prop} {w w' : World} {r mb most : Nat} {cnt : Int} {X Y : List Tx9} {t : Int} {b : Nat} {tb : ByteArray}
theorem Mem9.turn {T U : List Tb9} (h : Mem9 E w r mb most cnt ((t, b, T) :: Y)) {c : Int} (h1 : RBlk w' r mb most c) (h2 : MapM KS w' b (tabT U)) (hne : U ≠ []) (hok : ∀ q ∈ U, TbOk t q) (hl : ∀ q ∈ U, NL w' q.2.1 q.2.2)
    (hE : ∀ e ∈ Y, ∀ q ∈ e.2.2, ¬ E e.1 q.1) (hk : ∀ k, (k = mb ∨ ∃ e ∈ Y, k = e.2.1 ∨ ∃ q ∈ e.2.2, q.2.1.ownBlock = some k ∨ ∃ z ∈ q.2.2, k = z.1) → w'.heap[k]? = w.heap[k]?) (hrow : (U.map (·.2.1.ownBlock) ++ rowsX Y).Nodup) :
    Mem9 NoE w' r mb most c ((t, b, U) :: Y) := by
  have hm : ∀ e ∈ Y, e ∈ (t, b, T) :: Y := fun e he => List.mem_cons_of_mem _ he
  refine ⟨h1, h.top.block (hk mb (.inl rfl)), fun e he => ?_, fun e he => ?_, fun e he q hq => ?_, fun e he q hq _ => ?_, h.mbs, ?_⟩
  · rcases List.mem_cons.1 he with rfl | he
    · exact h2
    · exact (h.tab e (hm e he)).block (hk _ (.inr ⟨e, he, .inl rfl⟩))
  · rcases List.mem_cons.1 he with rfl | he
    · exact ⟨hne, (h.ne (t, b, T) (List.mem_cons_self ..)).2⟩
    · exact h.ne e (hm e he)
  · rcases List.mem_cons.1 he with rfl | he
    · exact hok q hq
    · exact h.ok e (hm e he) q hq
  · rcases List.mem_cons.1 he with rfl | he
    · exact hl q hq
    · exact (h.lst e (hm e he) q hq (hE e he q hq)).kept (fun k hk2 => hk k (.inr ⟨e, he, .inr ⟨q, hq, .inl hk2⟩⟩)) fun z hz => hk _ (.inr ⟨e, he, .inr ⟨q, hq, .inr ⟨z, hz, rfl⟩⟩⟩)
  · unfold rowsX at hrow ⊢
    rw [List.flatMap_cons]
    exact hrow
end
end Go.Proofs.YtknppiebncdjmaaGreat
