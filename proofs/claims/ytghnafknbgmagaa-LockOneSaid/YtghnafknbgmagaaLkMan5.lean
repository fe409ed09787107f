/- Layer 8: a manager's Held. -/
import Derived.Test.YtghnafknbgmagaaLkMan4
import Derived.Test.YtghnafknbgmagaaLkSortL
namespace Go.Proofs.Ytghnafknbgmagaa
set_option maxRecDepth 100000
set_option maxRecDepth 100000
open Go.RowKit Go.Maps Go.ChangeMaps Go.MapKept

/-- Locks gathered over a map: left is still to come. -/
structure ColL (hs : List Hd) (tx : Int) (ls : List Lk) (left : List Hd) : Prop where
  mem : ∀ y, y ∈ ls ↔ (y, tx) ∈ hs ∧ (y, tx) ∉ left
  nd : ls.Nodup
  len : ls.length + left.length ≤ hs.length
  sub : ∀ h ∈ left, h ∈ hs
  ol : Once left
theorem ColL.start {hs : List Hd} (h : Once hs) (tx : Int) : ColL hs tx [] hs := ⟨fun y => by simp, List.nodup_nil, by simp, fun _ h => h, h⟩
theorem ColL.skip {hs left : List Hd} {tx : Int} {ls : List Lk} {l : Lk} {t : Int} (ho : Once hs) (h : ColL hs tx ls left) (hl : (l, t) ∈ left) (ht : t ≠ tx) : ColL hs tx ls (left.filter fun h => !decide (h.1 = l)) := by
  refine ⟨fun y => ?_, h.nd, ?_, fun y hy => h.sub y (List.mem_filter.1 hy).1, List.Nodup.sublist (List.Sublist.map _ List.filter_sublist) h.ol⟩
  · rw [h.mem, not_left]
    refine and_congr_right fun h1 => ⟨.inl, fun h2 => h2.elim id fun e => ?_⟩
    have := ho.eq h1 (h.sub _ hl) e
    exact absurd (congrArg Prod.snd this).symm ht
  · have h1 := but_len h.ol hl
    have h2 := h.len
    omega
theorem ColL.take {hs left : List Hd} {tx : Int} {ls : List Lk} {l : Lk} (ho : Once hs) (h : ColL hs tx ls left) (hl : (l, tx) ∈ left) : ColL hs tx (ls ++ [l]) (left.filter fun h => !decide (h.1 = l)) := by
  refine ⟨fun y => ?_, ?_, ?_, fun y hy => h.sub y (List.mem_filter.1 hy).1, List.Nodup.sublist (List.Sublist.map _ List.filter_sublist) h.ol⟩
  · rw [List.mem_append, h.mem, List.mem_singleton, not_left]
    constructor
    · rintro (⟨h1, h2⟩ | rfl)
      · exact ⟨h1, .inl h2⟩
      · exact ⟨h.sub _ hl, .inr rfl⟩
    · rintro ⟨h1, h2 | h2⟩
      · exact .inl ⟨h1, h2⟩
      · exact .inr h2
  · refine List.nodup_append.2 ⟨h.nd, by simp, fun a ha b hb => ?_⟩
    rw [List.mem_singleton.1 hb]
    rintro rfl
    exact ((h.mem _).1 ha).2 hl
  · have h1 := but_len h.ol hl
    have h2 := h.len
    simp only [List.length_append, List.length_singleton]
    omega
theorem ColL.ends {hs : List Hd} {tx : Int} {ls ms : List Lk} (ho : Once hs) (h : ColL hs tx ls []) (hm : ∀ y, y ∈ ms ↔ y ∈ ls) (hp : ms.Pairwise (lessB · · = true)) : ms = heldP hs tx :=
  held_unique ho hp fun y => by rw [hm, h.mem]; simp

set_option maxHeartbeats 16000000 in
theorem wkHeld {w : World} {b r : Nat} {most : Int} {hs : List Hd} (h : MG w b r most hs) (tx : Int) :
    Calls Try.prog 17 #[.pointer (some ⟨b, 0, none⟩), .int .i64 tx] w fun e w' => ∃ v, e = .returned v ∧ SO seL w.heap.size w' v (heldP hs tx).length (cellsL (heldP hs tx)) ∧ Below w.heap.size w w' := by
  have CM := Lib.hid (wkAll h)
  have HM := Lib.hid h
  have HLT := Lib.hid (show b < w.heap.size ∧ r < w.heap.size from ⟨(Array.getElem?_eq_some_iff.1 h.blk).1, h.map.lt⟩)
  clear h
  go_enter Try.func17, Try.ntmps17
  go_upto_region 3 with (first
    | (go_at_call 26; go_loud (refine CM.out.mono ?_; rintro e w1 ⟨rfl, hw⟩; replace hw := hw.symm; subst hw))
    | (at_range; go_loud (refine map_range (by rfl) (.tmp 9) (by rfl) (by rfl) HM.out.map ?_; intro w2 r2 g2; have R2 := Lib.hid r2; have B2 := Lib.hid (show Below w.heap.size w w2 from (Below.refl _ _).grown g2 (Nat.le_refl _) (fun k e => by cases e)); clear r2 g2)))
  try go_frame
  go_loopw [5] (fun lv wr => ∃ (zs : List Lk) (left : List Hd), SO seL (w.heap.size + 1) wr lv zs.length (cellsL zs) ∧ ColL hs tx zs left ∧ RangeAt wr r w.heap.size hs left ∧ Below w.heap.size w wr) (fun _ wr => wr.rangeLeft r w.heap.size)
  case atStart => exact ⟨[], hs, SO.nil _ _ _, ColL.start HM.out.map.once _, R2.out, B2.out⟩
  case round =>
    rename World => wr
    obtain ⟨zs, left, ho, hI, hR, hB⟩ := hrel
    have HO := Lib.hid ho
    have HI := Lib.hid hI
    have HR := Lib.hid hR
    have HB := Lib.hid hB
    have HH4 := Lib.hid (show (hs.length : Int) ≤ 4096 by have := HM.out.len; have := HM.out.m2; omega)
    clear ho hI hR hB
    go_wp2_with (at_next; go_loud (refine map_next (by rfl) (.tmp 10) (by rfl) w.heap.size left (by rfl) HR.out ?_ ?_))
    · intro hnil
      subst hnil
      have ZL := Lib.hid (show zs.length ≤ 4000000 by have := HI.out.len; have := HH4.out; omega)
      have CS := Lib.hid (wsortL HO.out ZL.out HI.out.nd)
      go_wp2_with (go_at_call 31; go_loud (refine CS.out.mono ?_; rintro e w5 ⟨rfl, ⟨ms, n5, m5, p5, o5⟩, g5⟩; have O5 := Lib.hid o5; have N5 := Lib.hid n5; have E5 := Lib.hid (HI.out.ends HM.out.map.once m5 p5); have B5 := Lib.hid (HB.out.trans (g5.mono (Nat.le_succ _))); clear o5 g5 n5 m5 p5))
      go_ret
      exact ⟨_, rfl, by rw [← E5.out, N5.out]; exact O5.out.base (Nat.le_succ _) rfl rfl, B5.out⟩
    · intro k1 k2 t wn hin hsz hwf hr2 hg2 hlt hen
      obtain ⟨X, hX⟩ : ∃ X, wn.alloc (.cells #[.string k1, .string k2] 34) = X := ⟨_, rfl⟩
      have HXX := Lib.hid hX
      have BX : Below wn.heap.size wn X := by rw [← hX]; exact (Below.refl _ _).alloc (Nat.le_refl _) _
      have n0 : X.heap[wn.heap.size]? = some (.cells #[.string k1, .string k2] 34 (0, 0)) := by rw [← hX]; exact heap_alloc_new _ _
      have x1 : X.cell? ⟨wn.heap.size, 0, none⟩ = some (.string k1) := cell_of_row _ _ 0 _ _ _ n0
      have x2 : X.cell? ⟨wn.heap.size, 1, none⟩ = some (.string k2) := cell_of_row _ _ 1 _ _ _ n0
      have RX := Lib.hid (show RangeAt X r w.heap.size hs (left.filter fun h => !decide (h.1 = (k1, k2))) by rw [← hX]; exact hr2.kept (World.grownBy_alloc _ _ none) (by simp) (by simp))
      have LX := Lib.hid (show X.rangeLeft r w.heap.size < wr.rangeLeft r w.heap.size by
        have e : X.rangeLeft r w.heap.size = wn.rangeLeft r w.heap.size := by
          obtain ⟨D, f, cnt, h1, -⟩ := hr2
          have h2 : X.ranges Try.prog 34 (plainElem Try.prog 2) r w.heap.size hs.length D f cnt := by rw [← hX]; exact h1.alloc _
          rw [h1.left_eq, h2.left_eq]
        rw [e]; exact hlt)
      have hbn : Below w.heap.size w wn := HB.out.grown hg2 HB.out.size (fun k e => by rw [← Option.some.inj e]; exact Nat.le_refl _)
      have BXw := Lib.hid (below_next hbn BX)
      have OX := Lib.hid (show SO seL (w.heap.size + 1) X _ zs.length (cellsL zs) from (show SO seL (w.heap.size + 1) wn _ zs.length (cellsL zs) from ⟨own_stays HO.out.own fun k e => hg2.block k (HO.out.own.lt k e).2 (fun e2 => by obtain ⟨cs, t, fr, hk⟩ := HO.out.cells e; exact HR.out.no hk (Option.some.inj e2).symm), HO.out.len, HO.out.one⟩).below BX)
      have HIN := Lib.hid hin
      have ZL := Lib.hid (show zs.length ≤ 4000000 by have := HI.out.len; have := HH4.out; omega)
      clear hin hsz hwf hr2 hg2 hlt BX n0 hbn
      have HSB := Lib.hid (show SB (X.alloc (.cells #[.string k1, .string k2] 34)) (some ⟨X.heap.size, 0, none⟩) (seL.s * 1) (cellsL [(k1, k2)]) from ⟨by rfl, cellsL_one _, fun _ => ⟨X.heap.size, 0, rfl, fun j u hj => by
        match j, hj with
        | 0, hj => cases hj; exact cell_of_row _ _ 0 _ _ _ (heap_alloc_new X _)
        | 1, hj => cases hj; exact cell_of_row _ _ 1 _ _ _ (heap_alloc_new X _)⟩⟩)
      go_upto_region 5 with fail
      clear hen hX
      by_cases ht : t = tx
      · subst ht
        go_wp2_with (at_builtin; go_loud (refine so_append seL_ok (by rfl) (.tmp 19) (.tmp 21) (by rfl) _ (by rfl) (OX.out.alloc _) (some ⟨X.heap.size, 0, none⟩) 1 1 (cellsL [(k1, k2)]) (by rfl) HSB.out (by have := ZL.out; omega) (by have := RX.out.itlt; simp; omega) ?_; intro v3 w3 o3 b3; have O3 := Lib.hid o3; have B3 := Lib.hid ((BXw.out.alloc BXw.out.size _).trans (b3.mono (Nat.le_succ _))); have R3 := Lib.hid (RX.out.over ((Below.refl _ _).alloc (by have := RX.out.itlt; omega) _ |>.trans b3) (by have := HLT.out.2; omega) (Nat.lt_succ_self _)); clear o3 b3))
        go_roundw
        case rel => exact ⟨_, _, O3.out.base (Nat.le_refl _) (by simp [cellsL]) (by simp), HI.out.take HM.out.map.once HIN.out, R3.out.1, B3.out⟩
        case measure => rw [R3.out.2]; exact LX.out
      · have HT := Lib.hid ht
        go_wp2
        go_roundw
        case rel => exact ⟨_, _, OX.out, HI.out.skip HM.out.map.once HIN.out HT.out, RX.out, BXw.out⟩
        case measure => exact LX.out
end Go.Proofs.Ytghnafknbgmagaa
