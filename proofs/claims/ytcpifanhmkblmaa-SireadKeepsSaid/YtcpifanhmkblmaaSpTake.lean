/- Layer 9: take: what it does to the block of the notes and to the two maps, while the tables are ranged over, too. -/
import Derived.Test.YtcpifanhmkblmaaJAY
namespace Go.Proofs.Ytcpifanhmkblmaa
set_option maxRecDepth 100000
set_option maxRecDepth 100000
open Go.RowKit

theorem RangeM.len {κ : Type} [DecidableEq κ] {k : TypeId} {T : KT κ k} {w : World} {r it : Nat} {hs left : List (κ × Value)} (hM : RangeM T w r it hs left) {t e : TypeId} (ht : Try.prog.underlying t = some (.map k e)) (ty : TypeId) : (Builtin.len_ #[t] ty #[.map (some r)]).run Try.prog w = .ok (.int .i64 (hs.length : Nat)) w := hM.map.len ht ty
set_option maxHeartbeats 8000000 in
theorem wpTake {w : World} {r mb most : Nat} {cnt : Int} (h : RBlk w r mb most cnt) {top : List (Int × Value)} (hT : MapM KI w mb top) {t : Int} (ht : (Lit.int .i64 t).wf = true) {b : Nat} (hb : getM top t = some (.map (some b))) (hbm : b ≠ mb) {hs : List (ByteArray × Value)} (hS : MapM KS w b hs) {tb : ByteArray} (htb : tb.size ≤ maxLen)
    {A0 : Option Addr} {n0 c0 : Nat} (h0 : (getM hs tb).getD (.slice none 0 0) = .slice A0 n0 c0) (hn0 : n0 ≤ 4000000) (hcnt : 0 ≤ cnt ∧ cnt ≤ 4000000) :
    Calls Try.prog 38 #[.pointer (some ⟨r, 0, none⟩), .agg #[.int .i64 t, .string tb]] w fun e w' => e = .returned (.tuple #[]) ∧ RBlk w' r mb most (cnt - n0) ∧ MapM KI w' mb (if (delM hs tb).length = 0 then delM top t else top) ∧ MapM KS w' b (delM hs tb) ∧ Out (fun k => k = r ∨ k = b ∨ k = mb) w w' := by
  obtain ⟨W, hW⟩ : ∃ W, w.alloc (.cells #[.int .i64 t, .string tb] 65) = W := ⟨_, rfl⟩
  have HW := Lib.hid hW
  obtain ⟨tp, htp⟩ : ∃ tp, (if (delM hs tb).length = 0 then delM top t else top) = tp := ⟨_, rfl⟩
  rw [htp]
  have HTP := Lib.hid htp
  clear htp
  have hB : Below w.heap.size w W := by rw [← hW]; exact below_alloc9 _ _
  have q0 : W.heap[w.heap.size]? = some (.cells #[.int .i64 t, .string tb] 65 (0, 0)) := by rw [← hW]; exact heap_alloc_new _ _
  have x0 : W.cell? ⟨w.heap.size, 0, none⟩ = some (.int .i64 t) := cell_of_row _ _ 0 _ _ _ q0
  have hR := h.block (hB.block r h.lt)
  have r2 := hR.cells.2.2.1
  have hT2 := hT.block (hB.block mb hT.lt)
  have hS2 : MapM KS W b hs := hS.block (hB.block b (hS).lt)
  have qT := (show MapM KI W.drew mb top from hT2.block rfl).lookTop ht
  rw [hb] at qT
  simp only [Option.getD_some] at qT
  obtain ⟨W2, hW2⟩ : ∃ W2, W.drew = W2 := ⟨_, rfl⟩
  have HW2 := Lib.hid hW2
  have hh2 : W2.heap = W.heap := by rw [← hW2]; rfl
  have qS := ((hS2).block (by show W2.drew.heap[b]? = _; exact congrArg (fun h => h[b]?) hh2) : MapM KS W2.drew b hs).lookTab htb
  rw [h0] at qS
  have hrb : r ≠ b := (hS).no h
  have hrm : r ≠ mb := hT.no h
  have hR2 : RBlk W2 r mb most cnt := hR.block (by rw [hh2])
  obtain ⟨-, p1, -, pf⟩ := hR2.cells
  have px : W2.cell? ⟨w.heap.size, 1, none⟩ = some (.string tb) := (World.cell?_of_block (w := W) (by rw [hh2])).trans (cell_of_row _ _ 1 _ _ _ q0)
  have i1 : IntKind.i64.wrap (cnt - (n0 : Int)) = cnt - n0 := by rw [IntKind.wrap_i64]; omega
  obtain ⟨V, hV⟩ : ∃ V, (W2.setCell ⟨r, 1, none⟩ (.int .i64 (cnt - n0))).drew = V := ⟨_, rfl⟩
  have HV := Lib.hid hV
  have BV := Lib.hid (show Out (fun k => k = r ∨ k = b ∨ k = mb) w V by rw [← hV, ← hW2]; exact (((Out.of_below hB _).drew).setCell (.inl (.inl rfl)) _).drew)
  have RV := Lib.hid (show RBlk V r mb most (cnt - n0) by rw [← hV]; exact (hR2.put _).block rfl)
  have hbo : ∀ k, k ≠ r → V.heap[k]? = W.heap[k]? := fun k hk => by rw [← hV, ← hW2]; exact (Below.heap_setCell W.drew ⟨r, 1, none⟩ _ k hk : (W.drew.setCell _ _).heap[k]? = _)
  have SV : MapM KS V b hs := hS2.block (hbo b (Ne.symm hrb))
  have HSV := Lib.hid SV
  have TV := Lib.hid (hT2.block (hbo mb (Ne.symm hrm)))
  have VS := Lib.hid (show w.heap.size < V.heap.size by rw [← hV, ← hW2]; show w.heap.size < (W.drew.setCell _ _).heap.size; simp [World.setCell]; rw [← hW]; simp)
  have Q0 := Lib.hid ((hbo w.heap.size (by have := h.lt; omega)).trans q0)
  have v1 : V.cell? ⟨w.heap.size, 1, none⟩ = some (.string tb) := cell_of_row _ _ 1 _ _ _ Q0.out
  have HTB := Lib.hid htb
  have HT := Lib.hid ht
  have HNE := Lib.hid (And.intro hrb (And.intro hrm hbm))
  have HLT := Lib.hid (And.intro h.lt (And.intro (hS).lt hT.lt))
  clear h hT hS hb q0 hR hT2 hS2 h0 hV hbo hW hB hrb htb ht hW2 hh2 hR2 SV hbm hrm
  go_enter Try.func38, Try.ntmps38
  go_upto_region 1 with fail
  rw [HW.out]
  go_region
  rw [HW2.out]
  clear x0 r2 qT
  go_upto_region 2 with fail
  go_still_tail 12, (by kernel_rfl)
  go_upto_region 3 with fail
  rw [HV.out]
  clear p1 pf px qS
  go_upto_region 4 with (at_delete; go_loud (refine wp_delM KS (by rfl) (.tmp 24) (.tmp 26) (by rfl) (by rfl) HSV.out Try.underlying68 tb HTB.out (by rfl) ?_; intro w5 m5 g5 s5; have M5 := Lib.hid m5; have G5 := Lib.hid g5; clear m5 g5 s5))
  have gr := G5.out.block r RV.out.lt (fun e => HNE.out.1 (Option.some.inj e))
  have RV5 := Lib.hid (RV.out.block gr)
  have TV5 := Lib.hid (TV.out.block (G5.out.block mb TV.out.lt (fun e => HNE.out.2.2 (Option.some.inj e).symm)))
  have BV5 := Lib.hid (BV.out.grown G5.out fun k e => .inl (.inr (.inl (Option.some.inj e).symm)))
  have Q5 := (G5.out.block w.heap.size VS.out (fun e => by have := Option.some.inj e; have := HLT.out; omega)).trans Q0.out
  have u0 : w5.cell? ⟨w.heap.size, 0, none⟩ = some (.int .i64 t) := cell_of_row _ _ 0 _ _ _ Q5
  have ur := RV5.out.cells.2.2.1
  have qN := fun ty => M5.out.len Try.underlying68 ty
  clear gr v1 Q5
  by_cases hz : (delM hs tb).length = 0
  · rw [hz] at qN
    have HTQ := Lib.hid (show delM top t = tp by rw [← HTP.out, if_pos hz])
    clear hz
    go_upto_region 5 with fail
    go_still_tail 6, (by kernel_rfl)
    go_wp2_with (at_delete; go_loud (refine wp_delM KI (by rfl) (.tmp 33) (.tmp 35) (by rfl) (by rfl) (show MapM KI w5.drew mb top from TV5.out.block rfl) Try.underlying55 t HT.out (by rfl) ?_; intro w6 m6 g6 s6; have M6 := Lib.hid m6; have G6 := Lib.hid g6; clear m6 g6 s6))
    go_end0
    exact ⟨rfl, RV5.out.block (G6.out.block r RV5.out.lt (fun e => HNE.out.2.1 (Option.some.inj e))), by rw [← HTQ.out]; exact M6.out, M5.out.block (G6.out.block b M5.out.lt (fun e => HNE.out.2.2 (Option.some.inj e))), BV5.out.drew.grown G6.out fun k e => .inl (.inr (.inr (Option.some.inj e).symm))⟩
  · have hz2 : ¬ ((delM hs tb).length : Int) = 0 := by omega
    have HTQ := Lib.hid (show top = tp by rw [← HTP.out, if_neg hz])
    generalize (delM hs tb).length = nn at qN hz2
    clear hz
    go_wp2
    go_end0
    exact ⟨rfl, RV5.out, by rw [← HTQ.out]; exact TV5.out, M5.out, BV5.out⟩
set_option maxHeartbeats 8000000 in
theorem wpTakeR {w : World} {r mb most : Nat} {cnt : Int} (h : RBlk w r mb most cnt) {top : List (Int × Value)} (hT : MapM KI w mb top) {t : Int} (ht : (Lit.int .i64 t).wf = true) {b : Nat} (hb : getM top t = some (.map (some b))) (hbm : b ≠ mb) {hs : List (ByteArray × Value)} {it : Nat} {left : List (ByteArray × Value)} (hS : RangeM KS w b it hs left) {tb : ByteArray} (htb : tb.size ≤ maxLen) (hnl : getM left tb = none)
    {A0 : Option Addr} {n0 c0 : Nat} (h0 : (getM hs tb).getD (.slice none 0 0) = .slice A0 n0 c0) (hn0 : n0 ≤ 4000000) (hcnt : 0 ≤ cnt ∧ cnt ≤ 4000000) (hits : it ≠ r ∧ it ≠ b ∧ it ≠ mb) :
    Calls Try.prog 38 #[.pointer (some ⟨r, 0, none⟩), .agg #[.int .i64 t, .string tb]] w fun e w' => e = .returned (.tuple #[]) ∧ RBlk w' r mb most (cnt - n0) ∧ MapM KI w' mb (if (delM hs tb).length = 0 then delM top t else top) ∧ RangeM KS w' b it (delM hs tb) left ∧ Out (fun k => k = r ∨ k = b ∨ k = mb) w w' ∧ w'.heap[it]? = w.heap[it]? ∧ w'.rangeLeft b it ≤ w.rangeLeft b it := by
  obtain ⟨W, hW⟩ : ∃ W, w.alloc (.cells #[.int .i64 t, .string tb] 65) = W := ⟨_, rfl⟩
  have HW := Lib.hid hW
  obtain ⟨tp, htp⟩ : ∃ tp, (if (delM hs tb).length = 0 then delM top t else top) = tp := ⟨_, rfl⟩
  rw [htp]
  have HTP := Lib.hid htp
  clear htp
  have hB : Below w.heap.size w W := by rw [← hW]; exact below_alloc9 _ _
  have q0 : W.heap[w.heap.size]? = some (.cells #[.int .i64 t, .string tb] 65 (0, 0)) := by rw [← hW]; exact heap_alloc_new _ _
  have x0 : W.cell? ⟨w.heap.size, 0, none⟩ = some (.int .i64 t) := cell_of_row _ _ 0 _ _ _ q0
  have hR := h.block (hB.block r h.lt)
  have r2 := hR.cells.2.2.1
  have hT2 := hT.block (hB.block mb hT.lt)
  have hS2 : RangeM KS W b it hs left := hS.kept (hB.block b (hS.map).lt) (hB.block it (RangeM.it_lt hS))
  have qT := (show MapM KI W.drew mb top from hT2.block rfl).lookTop ht
  rw [hb] at qT
  simp only [Option.getD_some] at qT
  obtain ⟨W2, hW2⟩ : ∃ W2, W.drew = W2 := ⟨_, rfl⟩
  have HW2 := Lib.hid hW2
  have hh2 : W2.heap = W.heap := by rw [← hW2]; rfl
  have qS := ((hS2.map).block (by show W2.drew.heap[b]? = _; exact congrArg (fun h => h[b]?) hh2) : MapM KS W2.drew b hs).lookTab htb
  rw [h0] at qS
  have hrb : r ≠ b := (hS.map).no h
  have hrm : r ≠ mb := hT.no h
  have hR2 : RBlk W2 r mb most cnt := hR.block (by rw [hh2])
  obtain ⟨-, p1, -, pf⟩ := hR2.cells
  have px : W2.cell? ⟨w.heap.size, 1, none⟩ = some (.string tb) := (World.cell?_of_block (w := W) (by rw [hh2])).trans (cell_of_row _ _ 1 _ _ _ q0)
  have i1 : IntKind.i64.wrap (cnt - (n0 : Int)) = cnt - n0 := by rw [IntKind.wrap_i64]; omega
  obtain ⟨V, hV⟩ : ∃ V, (W2.setCell ⟨r, 1, none⟩ (.int .i64 (cnt - n0))).drew = V := ⟨_, rfl⟩
  have HV := Lib.hid hV
  have BV := Lib.hid (show Out (fun k => k = r ∨ k = b ∨ k = mb) w V by rw [← hV, ← hW2]; exact (((Out.of_below hB _).drew).setCell (.inl (.inl rfl)) _).drew)
  have RV := Lib.hid (show RBlk V r mb most (cnt - n0) by rw [← hV]; exact (hR2.put _).block rfl)
  have hbo : ∀ k, k ≠ r → V.heap[k]? = W.heap[k]? := fun k hk => by rw [← hV, ← hW2]; exact (Below.heap_setCell W.drew ⟨r, 1, none⟩ _ k hk : (W.drew.setCell _ _).heap[k]? = _)
  have SV : RangeM KS V b it hs left := hS2.kept (hbo b (Ne.symm hrb)) (hbo it (hits.1))
  have HSV := Lib.hid SV
  have TV := Lib.hid (hT2.block (hbo mb (Ne.symm hrm)))
  have VS := Lib.hid (show w.heap.size < V.heap.size by rw [← hV, ← hW2]; show w.heap.size < (W.drew.setCell _ _).heap.size; simp [World.setCell]; rw [← hW]; simp)
  have Q0 := Lib.hid ((hbo w.heap.size (by have := h.lt; omega)).trans q0)
  have v1 : V.cell? ⟨w.heap.size, 1, none⟩ = some (.string tb) := cell_of_row _ _ 1 _ _ _ Q0.out
  have HTB := Lib.hid htb
  have HT := Lib.hid ht
  have HNE := Lib.hid (And.intro hrb (And.intro hrm hbm))
  have HLT := Lib.hid (And.intro h.lt (And.intro (hS.map).lt hT.lt))
  have HIT := Lib.hid (And.intro hits (show V.heap[it]? = w.heap[it]? from (hbo it (hits.1)).trans (hB.block it (RangeM.it_lt hS))))
  have HLE := Lib.hid (show V.rangeLeft b it = w.rangeLeft b it from left_kept ((hbo b (Ne.symm hrb)).trans (hB.block b hS.map.lt)) ((hbo it (hits.1)).trans (hB.block it (RangeM.it_lt hS))))
  have HNL := Lib.hid hnl
  clear hits hnl
  clear h hT hS hb q0 hR hT2 hS2 h0 hV hbo hW hB hrb htb ht hW2 hh2 hR2 SV hbm hrm
  go_enter Try.func38, Try.ntmps38
  go_upto_region 1 with fail
  rw [HW.out]
  go_region
  rw [HW2.out]
  clear x0 r2 qT
  go_upto_region 2 with fail
  go_still_tail 12, (by kernel_rfl)
  go_upto_region 3 with fail
  rw [HV.out]
  clear p1 pf px qS
  go_upto_region 4 with (at_delete; go_loud (refine wp_rdelM KS (by rfl) (.tmp 24) (.tmp 26) (by rfl) (by rfl) it left HSV.out Try.underlying68 tb HTB.out (by rfl) HNL.out ?_; intro w5 m5 g5 s5 l5; have M5 := Lib.hid m5; have G5 := Lib.hid g5; have L5 := Lib.hid l5; clear m5 g5 s5 l5))
  have gr := G5.out.block r RV.out.lt (fun e => HNE.out.1 (Option.some.inj e))
  have RV5 := Lib.hid (RV.out.block gr)
  have TV5 := Lib.hid (TV.out.block (G5.out.block mb TV.out.lt (fun e => HNE.out.2.2 (Option.some.inj e).symm)))
  have BV5 := Lib.hid (BV.out.grown G5.out fun k e => .inl (.inr (.inl (Option.some.inj e).symm)))
  have Q5 := (G5.out.block w.heap.size VS.out (fun e => by have := Option.some.inj e; have := HLT.out; omega)).trans Q0.out
  have u0 : w5.cell? ⟨w.heap.size, 0, none⟩ = some (.int .i64 t) := cell_of_row _ _ 0 _ _ _ Q5
  have ur := RV5.out.cells.2.2.1
  have qN := fun ty => M5.out.len Try.underlying68 ty
  clear gr v1 Q5
  by_cases hz : (delM hs tb).length = 0
  · rw [hz] at qN
    have HTQ := Lib.hid (show delM top t = tp by rw [← HTP.out, if_pos hz])
    clear hz
    go_upto_region 5 with fail
    go_still_tail 6, (by kernel_rfl)
    go_wp2_with (at_delete; go_loud (refine wp_delM KI (by rfl) (.tmp 33) (.tmp 35) (by rfl) (by rfl) (show MapM KI w5.drew mb top from TV5.out.block rfl) Try.underlying55 t HT.out (by rfl) ?_; intro w6 m6 g6 s6; have M6 := Lib.hid m6; have G6 := Lib.hid g6; clear m6 g6 s6))
    go_end0
    exact ⟨rfl, RV5.out.block (G6.out.block r RV5.out.lt (fun e => HNE.out.2.1 (Option.some.inj e))), by rw [← HTQ.out]; exact M6.out, M5.out.kept ((G6.out.block b M5.out.map.lt (fun e => HNE.out.2.2 (Option.some.inj e)))) ((G6.out.block it (RangeM.it_lt M5.out) (fun e => HIT.out.1.2.2 (Option.some.inj e)))), BV5.out.drew.grown G6.out fun k e => .inl (.inr (.inr (Option.some.inj e).symm)), (G6.out.block it (RangeM.it_lt M5.out) (fun e => HIT.out.1.2.2 (Option.some.inj e))).trans ((G5.out.block it (RangeM.it_lt HSV.out) (fun e => HIT.out.1.2.1 (Option.some.inj e))).trans HIT.out.2), by rw [left_kept (w := w5) (G6.out.block b M5.out.map.lt (fun e => HNE.out.2.2 (Option.some.inj e))) (G6.out.block it (RangeM.it_lt M5.out) (fun e => HIT.out.1.2.2 (Option.some.inj e)))]; exact Nat.le_trans L5.out (Nat.le_of_eq HLE.out)⟩
  · have hz2 : ¬ ((delM hs tb).length : Int) = 0 := by omega
    have HTQ := Lib.hid (show top = tp by rw [← HTP.out, if_neg hz])
    generalize (delM hs tb).length = nn at qN hz2
    clear hz
    go_wp2
    go_end0
    exact ⟨rfl, RV5.out, by rw [← HTQ.out]; exact TV5.out, M5.out, BV5.out, (G5.out.block it (RangeM.it_lt HSV.out) (fun e => HIT.out.1.2.1 (Option.some.inj e))).trans HIT.out.2, Nat.le_trans L5.out (Nat.le_of_eq HLE.out)⟩
end Go.Proofs.Ytcpifanhmkblmaa
