/- Layer 8: a manager (most, holders map[api.Lock]int64): made, all, Len, Holder. -/
import Derived.Test.YtghnafknbgmagaaLkOps
import Derived.StillTailTactics
import Derived.BigQuiet
namespace Go.Proofs.Ytghnafknbgmagaa
set_option maxRecDepth 100000
set_option maxRecDepth 100000
open Go.RowKit Go.Maps Go.ChangeMaps Go.MapKept

theorem below_drewN8 (w : World) (n : Nat) : Below w.heap.size w (w.drewN n) := ⟨rfl, rfl, rfl, Nat.le_refl _, fun _ _ => rfl⟩
/-- A manager lies in block b: its map in block r. -/
structure MG (w : World) (b r : Nat) (most : Int) (hs : List Hd) : Prop where
  blk : w.heap[b]? = some (.cells #[.int .i64 most, .map (some r)] 56 (0, 0))
  map : MapAt w r hs
  m1 : 1 ≤ most
  m2 : most ≤ 4096
  len : (hs.length : Int) ≤ most
theorem MG.below {w w' : World} {b r : Nat} {most : Int} {hs : List Hd} (h : MG w b r most hs) (g : Below w.heap.size w w') : MG w' b r most hs :=
  ⟨(g.block b (Array.getElem?_eq_some_iff.1 h.blk).1).trans h.blk, h.map.block (g.block r h.map.lt), h.m1, h.m2, h.len⟩

set_option maxHeartbeats 1000000 in
theorem wkMade {w : World} {b r : Nat} {most : Int} {hs : List Hd} (h : MG w b r most hs) :
    Calls Try.prog 23 #[.pointer (some ⟨b, 0, none⟩)] w fun e w' => e = .returned (.bool true) ∧ w' = w := by
  have c0 : w.cell? ⟨b, 0, none⟩ = some (.int .i64 most) := cell_of_row _ _ 0 _ _ _ h.blk
  have i1 : ¬ most = 0 := by have := h.m1; omega
  clear h
  go_enter Try.func23, Try.ntmps23
  go_wp2
  go_ret
  exact ⟨by simp [i1], rfl⟩
set_option maxHeartbeats 1000000 in
theorem wkAll {w : World} {b r : Nat} {most : Int} {hs : List Hd} (h : MG w b r most hs) :
    Calls Try.prog 26 #[.pointer (some ⟨b, 0, none⟩)] w fun e w' => e = .returned (.map (some r)) ∧ w' = w := by
  have c1 : w.cell? ⟨b, 1, none⟩ = some (.map (some r)) := cell_of_row _ _ 1 _ _ _ h.blk
  have CM := Lib.hid (wkMade h)
  clear h
  go_enter Try.func26, Try.ntmps26
  go_wp2_with (go_at_call 23; go_loud (refine CM.out.mono ?_; rintro e w1 ⟨rfl, hw⟩; replace hw := hw.symm; subst hw))
  go_ret
  exact ⟨rfl, rfl⟩
set_option maxHeartbeats 1000000 in
theorem wkLen {w : World} {b r : Nat} {most : Int} {hs : List Hd} (h : MG w b r most hs) :
    Calls Try.prog 15 #[.pointer (some ⟨b, 0, none⟩)] w fun e w' => e = .returned (.int .i64 (hs.length : Nat)) ∧ w' = w := by
  have CM := Lib.hid (wkAll h)
  have HM := Lib.hid h.map
  clear h
  go_enter Try.func15, Try.ntmps15
  go_wp2_with (first
    | (go_at_call 26; go_loud (refine CM.out.mono ?_; rintro e w1 ⟨rfl, hw⟩; replace hw := hw.symm; subst hw))
    | (at_len; go_loud (refine map_len (by rfl) (.tmp 4) (by rfl) (by rfl) HM.out ?_)))
  go_ret
  exact ⟨rfl, rfl⟩
set_option maxHeartbeats 2000000 in
theorem wkHolder {w : World} {b r : Nat} {most : Int} {hs : List Hd} (h : MG w b r most hs) {l : Lk} (hl : Sz l) :
    Calls Try.prog 16 #[.pointer (some ⟨b, 0, none⟩), lkV l] w fun e w' => e = .returned (.tuple #[.int .i64 ((holderP hs l).getD 0), .bool (holderP hs l).isSome]) ∧ Below w.heap.size w w' := by
  obtain ⟨W, hW⟩ : ∃ W, w.alloc (.cells #[.string l.1, .string l.2] 34) = W := ⟨_, rfl⟩
  have HB := Lib.hid (show Below w.heap.size w W by rw [← hW]; exact (Below.refl _ _).alloc (Nat.le_refl _) _)
  have q0 : W.heap[w.heap.size]? = some (.cells #[.string l.1, .string l.2] 34 (0, 0)) := by rw [← hW]; exact heap_alloc_new _ _
  have q1 : W.cell? ⟨w.heap.size, 0, none⟩ = some (.string l.1) := cell_of_row _ _ 0 _ _ _ q0
  have q2 : W.cell? ⟨w.heap.size, 1, none⟩ = some (.string l.2) := cell_of_row _ _ 1 _ _ _ q0
  have h2 := h.below HB.out
  have CM := Lib.hid (fun n => wkAll (h2.below (below_drewN8 W n)))
  have HW := Lib.hid hW
  have qL := fun n => (show MapAt (W.drewN n) r hs from h2.map.block rfl).look hl
  clear h h2 hW q0 hl
  unfold lkV
  go_enter Try.func16, Try.ntmps16
  go_upto_region 1 with fail
  rw [HW.out]
  go_quiet ((go_at_call 26; (try simp only [World.drewN_drewN]); exact Calls.quiet_of_same (CM.out _)))
  go_wp2
  refine bodyPost_ret (v := .tuple #[.int .i64 ((holderP hs l).getD 0), .bool (holderP hs l).isSome]) (by simp [results, Try.results16, go_sem]) rfl ⟨rfl, below_next HB.out (below_drewN8 W _)⟩
end Go.Proofs.Ytghnafknbgmagaa
