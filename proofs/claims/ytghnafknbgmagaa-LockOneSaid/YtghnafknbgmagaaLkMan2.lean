/- Layer 8: a manager's New, Take. -/
import Derived.Test.YtghnafknbgmagaaLkMan
namespace Go.Proofs.Ytghnafknbgmagaa
set_option maxRecDepth 100000
set_option maxRecDepth 100000
open Go.RowKit Go.Maps Go.ChangeMaps Go.MapKept

set_option maxHeartbeats 1000000 in
theorem wkNew_no {w : World} {most : Int} (h : most < 1 ∨ 4096 < most) :
    Calls Try.prog 8 #[.int .i64 most] w fun e w' => e = .returned (.tuple #[.pointer none, .int .i64 1]) ∧ w' = w := by
  by_cases i1 : most < 1
  · clear h
    go_enter Try.func8, Try.ntmps8
    go_wp2
    refine bodyPost_ret (v := .tuple #[.pointer none, .int .i64 1]) (by simp [results, Try.results8, go_sem]) rfl ⟨rfl, rfl⟩
  · have i2 : 4096 < most := by omega
    clear h
    go_enter Try.func8, Try.ntmps8
    go_wp2
    refine bodyPost_ret (v := .tuple #[.pointer none, .int .i64 1]) (by simp [results, Try.results8, go_sem]) rfl ⟨rfl, rfl⟩
set_option maxHeartbeats 1000000 in
theorem wkNew {w : World} {most : Int} (h : ¬ (most < 1 ∨ 4096 < most)) :
    Calls Try.prog 8 #[.int .i64 most] w fun e w' => e = .returned (.tuple #[.pointer (some ⟨w.heap.size + 1, 0, none⟩), .int .i64 0]) ∧ MG w' (w.heap.size + 1) w.heap.size most [] ∧ Below w.heap.size w w' := by
  have i1 : ¬ most < 1 := by omega
  have i2 : ¬ 4096 < most := by omega
  have hmm := @run_makeMap Try.prog
  have HM := Lib.hid (show 1 ≤ most ∧ most ≤ 4096 by omega)
  obtain ⟨W1, hW1⟩ : ∃ W, w.alloc (.map #[] 0) = W := ⟨_, rfl⟩
  have HW1 := Lib.hid hW1
  have HS := Lib.hid (show W1.heap.size = w.heap.size + 1 by rw [← hW1]; simp)
  have B1 := Lib.hid (show Below w.heap.size w W1 by rw [← hW1]; exact (Below.refl _ _).alloc (Nat.le_refl _) _)
  have M1 := Lib.hid (show MapAt W1 w.heap.size [] by rw [← hW1]; exact MapAt.new w)
  clear h hW1
  go_enter Try.func8, Try.ntmps8
  go_wp2
  refine bodyPost_ret (v := .tuple #[.pointer (some ⟨w.heap.size + 1, 0, none⟩), .int .i64 0]) (by simp [results, Try.results8, go_sem]) rfl ⟨rfl, ?_, ?_⟩
  · rw [HW1.out]
    refine ⟨by rw [← HS.out]; exact heap_alloc_new W1 _, M1.out.block (((Below.refl W1.heap.size W1).alloc (Nat.le_refl _) _).block _ M1.out.lt), HM.out.1, HM.out.2, by simp; omega⟩
  · rw [HW1.out]
    exact B1.out.alloc B1.out.size _

set_option maxHeartbeats 8000000 in
theorem wkTake {w : World} {b r : Nat} {most : Int} {hs : List Hd} (h : MG w b r most hs) {l : Lk} (hl : Sz l) (tx snap last : Int) (ht : (Lit.int .i64 tx).wf = true) :
    Calls Try.prog 12 #[.pointer (some ⟨b, 0, none⟩), .int .i64 tx, .int .i64 snap, .int .i64 last, lkV l] w fun e w' => e = .returned (.int .i64 (takeP most hs tx snap last l).1) ∧ MG w' b r most (takeP most hs tx snap last l).2 ∧ Out (fun k => k = r) w w' := by
  obtain ⟨W, hW⟩ : ∃ W, w.alloc (.cells #[.string l.1, .string l.2] 34) = W := ⟨_, rfl⟩
  have HB := Lib.hid (show Below w.heap.size w W by rw [← hW]; exact (Below.refl _ _).alloc (Nat.le_refl _) _)
  have q0 : W.heap[w.heap.size]? = some (.cells #[.string l.1, .string l.2] 34 (0, 0)) := by rw [← hW]; exact heap_alloc_new _ _
  have q1 : W.cell? ⟨w.heap.size, 0, none⟩ = some (.string l.1) := cell_of_row _ _ 0 _ _ _ q0
  have q2 : W.cell? ⟨w.heap.size, 1, none⟩ = some (.string l.2) := cell_of_row _ _ 1 _ _ _ q0
  have h2 := h.below HB.out
  have c0 : W.cell? ⟨b, 0, none⟩ = some (.int .i64 most) := cell_of_row _ _ 0 _ _ _ h2.blk
  have c1 : W.cell? ⟨b, 1, none⟩ = some (.map (some r)) := cell_of_row _ _ 1 _ _ _ h2.blk
  have CM := Lib.hid (wkMade h2)
  have HW := Lib.hid hW
  have HM := Lib.hid h2
  have HL := Lib.hid hl
  have HT0 := Lib.hid ht
  obtain ⟨ho, hh⟩ : ∃ q, holderP hs l = q := ⟨_, rfl⟩
  have HH := Lib.hid hh
  have qL := (show MapAt W.drew r hs from h2.map.block rfl).look hl
  have qN := fun ty => (show MapAt W.drew.drew r hs from h2.map.block rfl).len ty
  rw [hh] at qL
  clear h h2 hW q0 hl ht
  unfold lkV
  go_enter Try.func12, Try.ntmps12
  go_upto_region 1 with fail
  rw [HW.out]
  go_upto_region 3 with (go_at_call 23; go_loud (refine CM.out.mono ?_; rintro e w1 ⟨rfl, hw⟩; replace hw := hw.symm; subst hw))
  by_cases i1 : tx < 1
  · have HT := Lib.hid (show takeP most hs tx snap last l = (1, hs) by unfold takeP; rw [if_pos (.inl i1)])
    clear hh
    go_wp2
    go_ret
    exact ⟨by rw [HT.out] <;> rfl, by rw [HT.out]; exact HM.out, Out.of_below HB.out _⟩
  · by_cases i2 : snap < 0
    · have HT := Lib.hid (show takeP most hs tx snap last l = (1, hs) by unfold takeP; rw [if_pos (.inr (.inl i2))])
      clear hh
      go_wp2
      go_ret
      exact ⟨by rw [HT.out] <;> rfl, by rw [HT.out]; exact HM.out, Out.of_below HB.out _⟩
    · by_cases i3 : last < 0
      · have HT := Lib.hid (show takeP most hs tx snap last l = (1, hs) by unfold takeP; rw [if_pos (.inr (.inr i3))])
        clear hh
        go_wp2
        go_ret
        exact ⟨by rw [HT.out] <;> rfl, by rw [HT.out]; exact HM.out, Out.of_below HB.out _⟩
      · have hng : ¬ (tx < 1 ∨ snap < 0 ∨ last < 0) := by omega
        cases ho with
        | some x =>
          have ht : takeP most hs tx snap last l = if x = tx then (0, hs) else (80, hs) := by unfold takeP; rw [if_neg hng, hh]
          simp only [Option.getD_some, Option.isSome_some] at qL
          by_cases ix : x = tx
          · rw [if_pos ix] at ht
            have HT := Lib.hid ht
            clear ht hng hh
            go_upto_region 5 with fail
            go_region
            go_wp2
            go_ret
            exact ⟨by rw [HT.out] <;> rfl, by rw [HT.out]; exact HM.out.below (Below.refl _ _).drew, Out.of_below HB.out.drew _⟩
          · rw [if_neg ix] at ht
            have HT := Lib.hid ht
            clear ht hng hh
            go_upto_region 5 with fail
            go_region
            go_wp2
            go_ret
            exact ⟨by rw [HT.out] <;> rfl, by rw [HT.out]; exact HM.out.below (Below.refl _ _).drew, Out.of_below HB.out.drew _⟩
        | none =>
          have ht : takeP most hs tx snap last l = if snap < last then (81, hs) else if most ≤ hs.length then (4, hs) else (0, hs ++ [(l, tx)]) := by unfold takeP; rw [if_neg hng, hh]
          simp only [Option.getD_none, Option.isSome_none] at qL
          by_cases il : snap < last
          · rw [if_pos il] at ht
            have HT := Lib.hid ht
            clear ht hng hh
            go_upto_region 5 with fail
            go_region
            go_wp2
            go_ret
            exact ⟨by rw [HT.out] <;> rfl, by rw [HT.out]; exact HM.out.below (Below.refl _ _).drew, Out.of_below HB.out.drew _⟩
          · rw [if_neg il] at ht
            by_cases im : most ≤ (hs.length : Int)
            · rw [if_pos im] at ht
              have HT := Lib.hid ht
              clear ht hng hh
              go_upto_region 5 with fail
              go_region
              go_upto_region 12 with fail
              go_region
              go_wp2
              go_ret
              exact ⟨by rw [HT.out] <;> rfl, by rw [HT.out]; exact HM.out.below (Below.refl _ _).drew.drew, Out.of_below HB.out.drew.drew _⟩
            · rw [if_neg im] at ht
              have HT := Lib.hid ht
              have HI := Lib.hid im
              obtain ⟨V, hV⟩ : ∃ V, W.drew.drew = V := ⟨_, rfl⟩
              have HV := Lib.hid hV
              have v1 : V.cell? ⟨w.heap.size, 0, none⟩ = some (.string l.1) := by rw [← hV]; exact q1
              have v2 : V.cell? ⟨w.heap.size, 1, none⟩ = some (.string l.2) := by rw [← hV]; exact q2
              have v3 : V.cell? ⟨b, 1, none⟩ = some (.map (some r)) := by rw [← hV]; exact c1
              have BV := Lib.hid (show Below w.heap.size w V by rw [← hV]; exact HB.out.drew.drew)
              have HD := Lib.hid (show MG V.drew b r most hs by rw [← hV]; exact HM.out.below (Below.refl _ _).drew.drew.drew)
              clear ht hng hh hV
              go_upto_region 5 with fail
              go_region
              go_upto_region 12 with fail
              go_region
              go_upto_region 14 with fail
              rw [HV.out]
              clear q1 q2 c0 c1 qL qN
              go_still_tail 6, (by kernel_rfl)
              go_wp2_with (at_mapUpdate; go_loud (refine map_put (hs := hs) (by rfl) (.tmp 62) (.tmp 63) (.tmp 64) (by rfl) (by rfl) HD.out.map l HL.out (by rfl) tx HT0.out (by rfl) HH.out (by have := HM.out.len; have := HM.out.m2; omega) ?_; intro w5 m5 g5; have M5 := Lib.hid m5; have G5 := Lib.hid g5; clear m5 g5))
              go_ret
              have hbr : b ≠ r := HD.out.map.no HD.out.blk
              refine ⟨by rw [HT.out] <;> rfl, ?_, ?_⟩
              · rw [HT.out]
                refine ⟨?_, M5.out, HM.out.m1, HM.out.m2, by have := HI.out; simp; omega⟩
                exact (G5.out.block b (Array.getElem?_eq_some_iff.1 HD.out.blk).1 (fun e => hbr (Option.some.inj e))).trans HD.out.blk
              · exact (Out.of_below (F := fun k => k = r) BV.out.drew).grown G5.out (fun k e => .inl (Option.some.inj e).symm)
end Go.Proofs.Ytghnafknbgmagaa
