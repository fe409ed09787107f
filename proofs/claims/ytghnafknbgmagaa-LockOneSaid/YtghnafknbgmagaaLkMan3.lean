/- Layer 8: a manager's Release; maps.DeleteFunc as it calls it. -/
import Derived.Test.YtghnafknbgmagaaLkMan2
import Derived.Shelf.Abstract
namespace Go.Proofs.Ytghnafknbgmagaa
set_option maxRecDepth 100000
set_option maxRecDepth 100000
open Go.RowKit Go.Maps Go.ChangeMaps Go.MapKept

theorem Once.eq {hs : List Hd} (h : Once hs) {x y : Hd} (hx : x ∈ hs) (hy : y ∈ hs) (e : x.1 = y.1) : x = y := by
  have h1 := (holder_some h (l := x.1) (tx := x.2)).2 hx
  have h2 := (holder_some h (l := x.1) (tx := y.2)).2 (by rw [e]; exact hy)
  rw [h1] at h2
  exact Prod.ext e (Option.some.inj h2)
theorem Once.nodup {hs : List Hd} (h : Once hs) : hs.Nodup := (List.pairwise_map.1 h).imp fun hne e => hne (by rw [e])
theorem no_map0 {w : World} {p : Addr} {v : Value} (h : w.cell? p = some v) {es : Array MapEntry} {c : Nat} : w.heap[p.block]? ≠ some (.map es c) := by
  intro e
  unfold World.cell? at h
  rw [e] at h
  simp at h
/-- Release under way: cur is held yet, left is still to come. -/
structure RelI (hs : List Hd) (tx : Int) (cur left : List Hd) : Prop where
  oc : Once cur
  ol : Once left
  mem : ∀ x, x ∈ cur ↔ x ∈ hs ∧ (x.2 ≠ tx ∨ x ∈ left)
  sub : ∀ x ∈ left, x ∈ cur
theorem RelI.start {hs : List Hd} (h : Once hs) (tx : Int) : RelI hs tx hs hs := ⟨h, h, fun x => ⟨fun hx => ⟨hx, .inr hx⟩, fun hx => hx.1⟩, fun _ h => h⟩
theorem RelI.skip {hs cur left : List Hd} {tx t : Int} {l : Lk} (h : RelI hs tx cur left) (hl : (l, t) ∈ left) (ht : t ≠ tx) : RelI hs tx cur (left.filter fun h => !decide (h.1 = l)) := by
  refine ⟨h.oc, List.Nodup.sublist (List.Sublist.map _ List.filter_sublist) h.ol, fun x => ?_, fun x hx => h.sub x (List.mem_filter.1 hx).1⟩
  rw [h.mem]
  refine and_congr_right fun _ => ⟨fun hx => ?_, fun hx => ?_⟩
  · by_cases e : x.2 = tx
    · rcases hx with hx | hx
      · exact .inl hx
      · refine .inr (List.mem_filter.2 ⟨hx, ?_⟩)
        by_cases e2 : x.1 = l
        · have := h.ol.eq hx hl e2
          rw [this] at e
          exact absurd e ht
        · simpa using e2
    · exact .inl e
  · exact hx.imp id fun hx => (List.mem_filter.1 hx).1
theorem RelI.drop {hs cur left : List Hd} {tx : Int} {l : Lk} (ho : Once hs) (h : RelI hs tx cur left) (hl : (l, tx) ∈ left) : RelI hs tx (cur.filter fun h => !decide (h.1 = l)) (left.filter fun h => !decide (h.1 = l)) := by
  refine ⟨List.Nodup.sublist (List.Sublist.map _ List.filter_sublist) h.oc, List.Nodup.sublist (List.Sublist.map _ List.filter_sublist) h.ol, fun x => ?_, fun x hx => ?_⟩
  · rw [List.mem_filter, h.mem]
    have hlh : (l, tx) ∈ hs := ((h.mem _).1 (h.sub _ hl)).1
    constructor
    · rintro ⟨⟨h1, h2⟩, h3⟩
      exact ⟨h1, h2.imp id fun h2 => List.mem_filter.2 ⟨h2, h3⟩⟩
    · rintro ⟨h1, h2 | h2⟩
      · refine ⟨⟨h1, .inl h2⟩, ?_⟩
        by_cases e : x.1 = l
        · have := ho.eq h1 hlh e
          rw [this] at h2
          exact absurd rfl h2
        · simpa using e
      · obtain ⟨h3, h4⟩ := List.mem_filter.1 h2
        exact ⟨⟨h1, .inr h3⟩, h4⟩
  · obtain ⟨h1, h2⟩ := List.mem_filter.1 hx
    exact List.mem_filter.2 ⟨h.sub x h1, h2⟩
theorem RelI.ends {hs cur : List Hd} {tx : Int} (ho : Once hs) (h : RelI hs tx cur []) : (∀ x, x ∈ releaseP hs tx ↔ x ∈ cur) ∧ (releaseP hs tx).length = cur.length := by
  have hm : ∀ x, x ∈ releaseP hs tx ↔ x ∈ cur := fun x => by
    rw [h.mem]
    unfold releaseP
    rw [List.mem_filter]
    simp
  refine ⟨hm, ?_⟩
  have n1 : (releaseP hs tx).Nodup := (ho.release tx).nodup
  have n2 : cur.Nodup := h.oc.nodup
  exact ((List.perm_ext_iff_of_nodup n1 n2).2 hm).length_eq

theorem MapAt.perm {w : World} {r : Nat} {hs hs2 : List Hd} (h : MapAt w r hs) (h2 : Once hs2) (hm : ∀ x, x ∈ hs2 ↔ x ∈ hs) (hl : hs2.length = hs.length) : MapAt w r hs2 := by
  obtain ⟨D, h1, hv⟩ := h
  exact ⟨D, by rw [hl]; exact h1, hv.perm h2 hm hl⟩
theorem MapAt.once {w : World} {r : Nat} {hs : List Hd} (h : MapAt w r hs) : Once hs := by
  obtain ⟨D, -, hv⟩ := h
  exact hv.once

theorem RangeAt.drewR {w : World} {r it : Nat} {hs left : List Hd} (h : RangeAt w r it hs left) : RangeAt w.drew r it hs left := h
theorem RangeAt.no {w : World} {r it : Nat} {hs left : List Hd} (h : RangeAt w r it hs left) {k : Nat} {cs : Array Value} {t : TypeId} {fr : Nat × Nat} (hk : w.heap[k]? = some (.cells cs t fr)) : it ≠ k := by
  rintro rfl
  obtain ⟨D, f, cnt, ⟨es, clock, since, seen, c0, -, -, -, -, h1, -⟩, -⟩ := h
  rw [hk] at h1; cases h1
theorem RangeAt.itlt {w : World} {r it : Nat} {hs left : List Hd} (h : RangeAt w r it hs left) : it < w.heap.size := by
  obtain ⟨D, f, cnt, h1, -⟩ := h
  exact h1.lt
theorem RangeAt.over {w w' : World} {r it B : Nat} {hs left : List Hd} (h : RangeAt w r it hs left) (hb : Below B w w') (h1 : r < B) (h2 : it < B) : RangeAt w' r it hs left ∧ w'.rangeLeft r it = w.rangeLeft r it := by
  refine ⟨?_, by unfold World.rangeLeft; rw [hb.block r h1, hb.block it h2]⟩
  obtain ⟨D, f, cnt, ⟨es, clock, since, seen, c0, e1, e2, e3, e4, e5, e6⟩, h4⟩ := h
  exact ⟨D, f, cnt, ⟨es, clock, since, seen, c0, (hb.block r h1).trans e1, e2, e3, e4, (hb.block it h2).trans e5, e6⟩, h4⟩

set_option maxHeartbeats 2000000 in
theorem wkDelFn {w : World} {x : Nat} {tx : Int} (c : w.cell? ⟨x, 0, none⟩ = some (.int .i64 tx)) (k1 k2 : ByteArray) (t : Int) :
    Calls Try.prog 27 #[.agg #[.string k1, .string k2], .int .i64 t, .pointer (some ⟨x, 0, none⟩)] w fun e w' => e = .returned (.bool (decide (t = tx))) ∧ Below w.heap.size w w' := by
  obtain ⟨W, hW⟩ : ∃ W, w.alloc (.cells #[.string k1, .string k2] 34) = W := ⟨_, rfl⟩
  have HW := Lib.hid hW
  have hB : Below w.heap.size w W := by rw [← hW]; exact (Below.refl _ _).alloc (Nat.le_refl _) _
  have HB := Lib.hid hB
  have c2 : W.cell? ⟨x, 0, none⟩ = some (.int .i64 tx) := keep_below c hB
  clear c hW hB
  go_enter Try.func27, Try.ntmps27
  go_upto_region 1 with fail
  rw [HW.out]
  go_wp2
  go_ret
  exact ⟨by by_cases e : t = tx <;> simp [e], HB.out⟩

set_option maxHeartbeats 8000000 in
theorem wkDelete {w : World} {r x : Nat} {hs : List Hd} (h : MapAt w r hs) {tx : Int} (c : w.cell? ⟨x, 0, none⟩ = some (.int .i64 tx)) :
    Calls Try.prog 25 #[.map (some r), .func (.func 27) #[] #[.pointer (some ⟨x, 0, none⟩)]] w fun e w' => e = .returned (.tuple #[]) ∧ MapAt w' r (releaseP hs tx) ∧ Out (fun k => k = r) w w' := by
  have hxr : ¬ x = r := fun e => by
    obtain ⟨D, ⟨es, cl, hr, -⟩, -⟩ := h
    exact no_map0 c (by rw [e]; exact hr)
  have HXR := Lib.hid hxr
  have HC := Lib.hid c
  have HM := Lib.hid h
  have HLT := Lib.hid h.lt
  clear h c hxr
  go_enter Try.func25, Try.ntmps25
  go_wp2_with (at_range; go_loud (refine map_range (by rfl) (.tmp 6) (by rfl) (by rfl) HM.out ?_; intro w2 r2 g2; have R2 := Lib.hid r2; have G2 := Lib.hid g2; clear r2 g2))
  try go_frame
  go_loopw [8] (fun _ wr => ∃ (cur left : List Hd), RelI hs tx cur left ∧ RangeAt wr r w.heap.size cur left ∧ Out (fun k => k = r) w wr) (fun _ wr => wr.rangeLeft r w.heap.size)
  case atStart =>
    exact ⟨hs, hs, RelI.start HM.out.once tx, R2.out, (Out.refl _ w).grown G2.out (fun k e => by cases e)⟩
  case round =>
    rename World => wr
    obtain ⟨cur, left, hI, hR, hO⟩ := hrel
    have HI := Lib.hid hI
    have HR := Lib.hid hR
    have HO := Lib.hid hO
    clear hI hR hO
    go_wp2_with (at_next; go_loud (refine map_next (by rfl) (.tmp 7) (by rfl) w.heap.size left (by rfl) HR.out ?_ ?_))
    · intro hnil
      subst hnil
      obtain ⟨e1, e2⟩ := HI.out.ends HM.out.once
      have E1 := Lib.hid e1
      have E2 := Lib.hid e2
      clear e1 e2
      go_wp2
      go_end0
      exact ⟨rfl, HR.out.map.perm (HM.out.once.release tx) E1.out E2.out, HO.out⟩
    · intro k1 k2 t wn hin hsz hwf hr2 hg2 hlt hen
      obtain ⟨X, hX⟩ : ∃ X, wn.alloc (.cells #[.string k1, .string k2] 34) = X := ⟨_, rfl⟩
      have BX : Below wn.heap.size wn X := by rw [← hX]; exact (Below.refl _ _).alloc (Nat.le_refl _) _
      have n0 : X.heap[wn.heap.size]? = some (.cells #[.string k1, .string k2] 34 (0, 0)) := by rw [← hX]; exact heap_alloc_new _ _
      have x1 : X.cell? ⟨wn.heap.size, 0, none⟩ = some (.string k1) := cell_of_row _ _ 0 _ _ _ n0
      have x2 : X.cell? ⟨wn.heap.size, 1, none⟩ = some (.string k2) := cell_of_row _ _ 1 _ _ _ n0
      have hrx : RangeAt X r w.heap.size cur (left.filter fun h => !decide (h.1 = (k1, k2))) := by rw [← hX]; exact hr2.kept (World.grownBy_alloc _ _ none) (by simp) (by simp)
      have RX := Lib.hid hrx
      have LX := Lib.hid (show X.rangeLeft r w.heap.size < wr.rangeLeft r w.heap.size by
        have e : X.rangeLeft r w.heap.size = wn.rangeLeft r w.heap.size := by
          obtain ⟨D, f, cnt, h1, -⟩ := hr2
          have h2 : X.ranges Try.prog 34 (plainElem Try.prog 2) r w.heap.size cur.length D f cnt := by rw [← hX]; exact h1.alloc _
          rw [h1.left_eq, h2.left_eq]
        rw [e]; exact hlt)
      have OX := Lib.hid (show Out (fun k => k = r) w X from ((HO.out.grown hg2 (fun k e => .inr (by rw [← Option.some.inj e]; exact Nat.le_refl _))).then (Out.of_below BX _)))
      have HIN := Lib.hid hin
      have HSZ := Lib.hid hsz
      have HX := Lib.hid hX
      have CD := Lib.hid (wkDelFn (OX.out.cell HC.out HXR.out) k1 k2 t)
      clear hin hsz hwf hr2 hg2 hlt BX n0 hrx
      go_upto_region 3 with fail
      clear hen hX
      by_cases ht : t = tx
      · subst ht
        have CD2 := Lib.hid (show Calls Try.prog 27 #[.agg #[.string k1, .string k2], .int .i64 t, .pointer (some ⟨x, 0, none⟩)] X fun e w' => e = .returned (.bool true) ∧ Below X.heap.size X w' from CD.out.mono fun e w' h => by simpa using h)
        go_wp2_with (first
          | (go_at_call 27; go_loud (refine CD2.out.mono ?_; rintro e w3 ⟨rfl, b3⟩; have B3 := Lib.hid b3; have R3 := Lib.hid (RX.out.over b3 RX.out.map.lt RX.out.itlt); have z1 : w3.cell? ⟨wn.heap.size, 0, none⟩ = some (.string k1) := keep_below x1 b3; have z2 : w3.cell? ⟨wn.heap.size, 1, none⟩ = some (.string k2) := keep_below x2 b3; clear b3))
          | (at_delete; go_loud (refine map_rdel (hs := cur) (by rfl) (.tmp 17) (.tmp 18) (by rfl) (by rfl) w.heap.size _ R3.out.1 (k1, k2) HSZ.out (by rfl) t (HI.out.sub _ HIN.out) (fun h hh => by simpa using (List.mem_filter.1 hh).2) ?_; intro w5 r5 g5 l5; have R5 := Lib.hid r5; have G5 := Lib.hid g5; have L5 := Lib.hid l5; clear r5 g5 l5; go_frame)))
        go_roundw
        case rel => exact ⟨_, _, HI.out.drop HM.out.once HIN.out, R5.out, (OX.out.then (Out.of_below B3.out _)).grown G5.out (fun k e => .inl (Option.some.inj e).symm)⟩
        case measure =>
          have h1 := L5.out
          have h2 := LX.out
          rw [R3.out.2] at h1
          exact Nat.lt_of_le_of_lt h1 h2
      · have HT := Lib.hid ht
        have CD2 := Lib.hid (show Calls Try.prog 27 #[.agg #[.string k1, .string k2], .int .i64 t, .pointer (some ⟨x, 0, none⟩)] X fun e w' => e = .returned (.bool false) ∧ Below X.heap.size X w' from CD.out.mono fun e w' h => by simpa [ht] using h)
        clear ht
        go_wp2_with (go_at_call 27; go_loud (refine CD2.out.mono ?_; rintro e w3 ⟨rfl, b3⟩; have B3 := Lib.hid b3; have R3 := Lib.hid (RX.out.over b3 RX.out.map.lt RX.out.itlt); clear b3))
        go_roundw
        case rel => exact ⟨_, _, HI.out.skip HIN.out HT.out, R3.out.1, OX.out.then (Out.of_below B3.out _)⟩
        case measure => rw [R3.out.2]; exact LX.out

set_option maxHeartbeats 4000000 in
theorem wkRelease {w : World} {b r : Nat} {most : Int} {hs : List Hd} (h : MG w b r most hs) (tx : Int) :
    Calls Try.prog 13 #[.pointer (some ⟨b, 0, none⟩), .int .i64 tx] w fun e w' => e = .returned (.int .i64 ((hs.length : Int) - ((releaseP hs tx).length : Int))) ∧ MG w' b r most (releaseP hs tx) ∧ Out (fun k => k = r) w w' := by
  have hbr : b ≠ r := h.map.no h.blk
  obtain ⟨W, hW⟩ : ∃ W, w.alloc (.cells #[.int .i64 tx] 2) = W := ⟨_, rfl⟩
  have HW := Lib.hid hW
  have hB : Below w.heap.size w W := by rw [← hW]; exact (Below.refl _ _).alloc (Nat.le_refl _) _
  have HB := Lib.hid hB
  have q0 : W.cell? ⟨w.heap.size, 0, none⟩ = some (.int .i64 tx) := by rw [← hW]; exact cell_of_row _ _ 0 _ _ _ (heap_alloc_new _ _)
  have h2 := h.below hB
  have CL := Lib.hid (wkLen h2)
  have CA := Lib.hid (wkAll h2)
  have CD := Lib.hid (wkDelete h2.map q0)
  have HM := Lib.hid h2
  have HBR := Lib.hid hbr
  obtain ⟨n1, hn1⟩ : ∃ n : Int, ((hs.length : Nat) : Int) = n := ⟨_, rfl⟩
  obtain ⟨n2, hn2⟩ : ∃ n : Int, (((releaseP hs tx).length : Nat) : Int) = n := ⟨_, rfl⟩
  have b1 : 0 ≤ n1 ∧ n1 ≤ 4096 := by have := h.len; have := h.m2; omega
  have b2 : 0 ≤ n2 ∧ n2 ≤ 4096 := by have := release_len tx h.len; have := h.m2; omega
  obtain ⟨b11, b12⟩ := b1
  obtain ⟨b21, b22⟩ := b2
  have CL2 := Lib.hid (fun w2 (M : MG w2 b r most (releaseP hs tx)) => wkLen M)
  rw [hn1] at CL
  rw [hn2] at CL2
  rw [hn1, hn2]
  have HLR := Lib.hid (show ((releaseP hs tx).length : Int) ≤ most from release_len tx h.len)
  clear h hW hB q0 h2 hbr hn1 hn2
  go_enter Try.func13, Try.ntmps13
  go_upto_region 1 with fail
  rw [HW.out]
  go_upto_region 2 with (go_at_call 15; go_loud (refine CL.out.mono ?_; rintro e w1 ⟨rfl, hw⟩; replace hw := hw.symm; subst hw))
  clear CL
  go_wp2_with (first
    | (go_at_call 26; go_loud (refine CA.out.mono ?_; rintro e w1 ⟨rfl, hw⟩; replace hw := hw.symm; subst hw))
    | (go_at_call 25; go_loud (refine CD.out.mono ?_; rintro e w3 ⟨rfl, m3, o3⟩; have O3 := Lib.hid o3; have M3 := Lib.hid (show MG w3 b r most (releaseP hs tx) from ⟨(o3.block b (Array.getElem?_eq_some_iff.1 HM.out.blk).1 HBR.out).trans HM.out.blk, m3, HM.out.m1, HM.out.m2, HLR.out⟩); clear m3 o3))
    | (go_at_call 15; go_loud (refine (CL2.out _ M3.out).mono ?_; rintro e w1 ⟨rfl, hw⟩; replace hw := hw.symm; subst hw)))
  go_ret
  exact ⟨by first | rfl | simp, M3.out, (Out.of_below HB.out _).then O3.out⟩
end Go.Proofs.Ytghnafknbgmagaa
