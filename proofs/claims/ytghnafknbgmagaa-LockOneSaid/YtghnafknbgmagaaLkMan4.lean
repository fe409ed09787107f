/- Layer 8: a manager's Holders. -/
import Derived.Test.YtghnafknbgmagaaLkCompact
namespace Go.Proofs.Ytghnafknbgmagaa
set_option maxRecDepth 100000
set_option maxRecDepth 100000
open Go.RowKit Go.Maps Go.ChangeMaps Go.MapKept

/-- Numbers gathered over a map: left is still to come. -/
structure ColI (hs : List Hd) (f : Hd → Bool) (zs : List Int) (left : List Hd) : Prop where
  mem : ∀ x, x ∈ zs ↔ ∃ h, h ∈ hs ∧ h ∉ left ∧ f h = true ∧ h.2 = x
  len : zs.length + left.length ≤ hs.length
  sub : ∀ h ∈ left, h ∈ hs
  ol : Once left
theorem ColI.start {hs : List Hd} (h : Once hs) (f : Hd → Bool) : ColI hs f [] hs := ⟨fun x => Iff.intro (fun h => absurd h (by simp)) (fun h => by obtain ⟨y, h1, h2, -⟩ := h; exact absurd h1 h2), by simp, fun _ h => h, h⟩
theorem not_left {left : List Hd} {l : Lk} (h : Hd) : h ∉ (left.filter fun h => !decide (h.1 = l)) ↔ h ∉ left ∨ h.1 = l := by
  rw [List.mem_filter]
  by_cases e : h.1 = l <;> simp [e]
theorem ColI.skip {hs left : List Hd} {f : Hd → Bool} {zs : List Int} {l : Lk} {t : Int} (ho : Once hs) (h : ColI hs f zs left) (hl : (l, t) ∈ left) (hf : f (l, t) = false) : ColI hs f zs (left.filter fun h => !decide (h.1 = l)) := by
  refine ⟨fun x => ?_, ?_, fun y hy => h.sub y (List.mem_filter.1 hy).1, List.Nodup.sublist (List.Sublist.map _ List.filter_sublist) h.ol⟩
  · rw [h.mem]
    constructor
    · rintro ⟨y, h1, h2, h3⟩; exact ⟨y, h1, (not_left y).2 (.inl h2), h3⟩
    · rintro ⟨y, h1, h2, h3, h4⟩
      rcases (not_left y).1 h2 with h5 | h5
      · exact ⟨y, h1, h5, h3, h4⟩
      · have := ho.eq h1 (h.sub _ hl) h5
        rw [this, hf] at h3; cases h3
  · have h1 := but_len h.ol hl
    have h2 := h.len
    omega
theorem ColI.take {hs left : List Hd} {f : Hd → Bool} {zs : List Int} {l : Lk} {t : Int} (ho : Once hs) (h : ColI hs f zs left) (hl : (l, t) ∈ left) (hf : f (l, t) = true) : ColI hs f (zs ++ [t]) (left.filter fun h => !decide (h.1 = l)) := by
  refine ⟨fun x => ?_, ?_, fun y hy => h.sub y (List.mem_filter.1 hy).1, List.Nodup.sublist (List.Sublist.map _ List.filter_sublist) h.ol⟩
  · rw [List.mem_append, h.mem, List.mem_singleton]
    constructor
    · rintro (⟨y, h1, h2, h3⟩ | rfl)
      · exact ⟨y, h1, (not_left y).2 (.inl h2), h3⟩
      · exact ⟨(l, x), h.sub _ hl, (not_left _).2 (.inr rfl), hf, rfl⟩
    · rintro ⟨y, h1, h2, h3, h4⟩
      rcases (not_left y).1 h2 with h5 | h5
      · exact .inl ⟨y, h1, h5, h3, h4⟩
      · have := ho.eq h1 (h.sub _ hl) h5
        rw [this] at h4
        exact .inr h4.symm
  · have h1 := but_len h.ol hl
    have h2 := h.len
    simp only [List.length_append, List.length_singleton]
    omega
theorem ColI.ends {hs : List Hd} {table lo hi : ByteArray} {zs : List Int} (h : ColI hs (inH table lo hi) zs []) : ∀ x, x ∈ zs ↔ x ∈ whoP hs table lo hi := fun x => by
  rw [h.mem]
  unfold whoP
  rw [List.mem_map]
  constructor
  · rintro ⟨y, h1, -, h3, h4⟩; exact ⟨y, List.mem_filter.2 ⟨h1, h3⟩, h4⟩
  · rintro ⟨y, h1, h4⟩; obtain ⟨h2, h3⟩ := List.mem_filter.1 h1; exact ⟨y, h2, by simp, h3, h4⟩

theorem SO.cells {E : SEl} {base n : Nat} {w : World} {v : Value} {vs : List Value} (h : SO E base w v n vs) {k : Nat} (e : v.ownBlock = some k) : ∃ cs t fr, w.heap[k]? = some (.cells cs t fr) := by
  rcases h.own.2 with ⟨rfl, -⟩ | ⟨g, cap, cur, rfl, -, hh, -⟩
  · simp [Value.ownBlock] at e
  · have e : g = k := by simpa [Value.ownBlock] using e
    subst e
    exact ⟨_, _, _, hh⟩
theorem bl_le8 (a b : ByteArray) : klB b a = !(Op.bytesLess a.toList b.toList || a.toList == b.toList) := by
  show klB b a = !(klB a b || a.toList == b.toList)
  rw [toList_beq8]
  by_cases e : a = b
  · subst e; simp [klB_irrefl]
  · cases h1 : klB a b with
    | true => simp [klB_asymm h1]
    | false =>
      cases h2 : klB b a with
      | true => simp [e]
      | false => exact absurd (klB_tri h1 h2) e
set_option maxHeartbeats 2000000 in
theorem wkIsIn (w : World) (key lo hi : ByteArray) :
    Calls Try.prog 34 #[.string key, .string lo, .string hi] w fun e w' => e = .returned (.bool (withinB key lo hi)) ∧ w' = w := by
  cases h1 : Op.bytesLess lo.toList key.toList <;> cases h4 : (lo.toList == key.toList) <;> cases h2 : (hi.toList == []) <;> cases h3 : klB key hi
  all_goals
    have HE := Lib.hid (show withinB key lo hi = _ by unfold withinB; rw [bl_le8 lo key, h1, h4, h2, h3])
    unfold klB at h3
    go_enter Try.func34, Try.ntmps34
    go_wp2
    go_ret
    exact ⟨by rw [HE.out] <;> rfl, rfl⟩
set_option maxHeartbeats 16000000 in
theorem wkHolders {w : World} {b r : Nat} {most : Int} {hs : List Hd} (h : MG w b r most hs) (table lo hi : ByteArray) :
    Calls Try.prog 20 #[.pointer (some ⟨b, 0, none⟩), .string table, .string lo, .string hi] w fun e w' => ∃ v, e = .returned v ∧ SO seN w.heap.size w' v (riseP (whoP hs table lo hi)).length (numC (riseP (whoP hs table lo hi))) ∧ Below w.heap.size w w' := by
  have CM := Lib.hid (wkAll h)
  have HM := Lib.hid h
  have HLT := Lib.hid (show b < w.heap.size ∧ r < w.heap.size from ⟨(Array.getElem?_eq_some_iff.1 h.blk).1, h.map.lt⟩)
  clear h
  go_enter Try.func20, Try.ntmps20
  go_upto_region 3 with (first
    | (go_at_call 26; go_loud (refine CM.out.mono ?_; rintro e w1 ⟨rfl, hw⟩; replace hw := hw.symm; subst hw))
    | (at_range; go_loud (refine map_range (by rfl) (.tmp 13) (by rfl) (by rfl) HM.out.map ?_; intro w2 r2 g2; have R2 := Lib.hid r2; have B2 := Lib.hid (show Below w.heap.size w w2 from (Below.refl _ _).grown g2 (Nat.le_refl _) (fun k e => by cases e)); clear r2 g2)))
  try go_frame
  go_loopw [9] (fun lv wr => ∃ (zs : List Int) (left : List Hd), SO seN (w.heap.size + 1) wr lv zs.length (numC zs) ∧ ColI hs (inH table lo hi) zs left ∧ RangeAt wr r w.heap.size hs left ∧ Below w.heap.size w wr) (fun _ wr => wr.rangeLeft r w.heap.size)
  case atStart => exact ⟨[], hs, SO.nil _ _ _, ColI.start HM.out.map.once _, R2.out, B2.out⟩
  case round =>
    rename World => wr
    obtain ⟨zs, left, ho, hI, hR, hB⟩ := hrel
    have HO := Lib.hid ho
    have HI := Lib.hid hI
    have HR := Lib.hid hR
    have HB := Lib.hid hB
    have HH4 := Lib.hid (show (hs.length : Int) ≤ 4096 by have := HM.out.len; have := HM.out.m2; omega)
    clear ho hI hR hB
    go_wp2_with (at_next; go_loud (refine map_next (by rfl) (.tmp 14) (by rfl) w.heap.size left (by rfl) HR.out ?_ ?_))
    · intro hnil
      subst hnil
      have ZL := Lib.hid (show zs.length ≤ 4000000 by have := HI.out.len; have := HH4.out; omega)
      have CS := Lib.hid (wsortN HO.out ZL.out)
      have SR := Lib.hid (sort_rise HI.out.ends)
      have CC := Lib.hid (fun (v2 : Value) (w2 : World) (O2 : SO seN (w.heap.size + 1) w2 v2 zs.length (numC (zs.mergeSort fun x y => decide (x ≤ y)))) => wcompactN (zs := zs.mergeSort fun x y => decide (x ≤ y)) (by rw [List.length_mergeSort]; exact O2) (by rw [List.length_mergeSort]; exact ZL.out))
      go_wp2_with (first
        | (go_at_call 35; go_loud (refine CS.out.mono ?_; rintro e w5 ⟨rfl, o5, g5⟩; have O5 := Lib.hid o5; have B5 := Lib.hid (HB.out.trans (g5.mono (Nat.le_succ _))); clear o5 g5))
        | (go_at_call 36; go_loud (refine (CC.out _ _ O5.out).mono ?_; rintro e w6 ⟨v6, rfl, o6, g6⟩; have O6 := Lib.hid o6; have B6 := Lib.hid (B5.out.trans (g6.mono (Nat.le_succ _))); clear o6 g6)))
      go_ret
      exact ⟨_, rfl, by rw [← SR.out]; exact O6.out.base (Nat.le_succ _) rfl rfl, B6.out⟩
    · intro k1 k2 t wn hin hsz hwf hr2 hg2 hlt hen
      obtain ⟨X, hX⟩ : ∃ X, wn.alloc (.cells #[.string k1, .string k2] 34) = X := ⟨_, rfl⟩
      have HXX := Lib.hid hX
      have BX : Below wn.heap.size wn X := by rw [← hX]; exact (Below.refl _ _).alloc (Nat.le_refl _) _
      have n0 : X.heap[wn.heap.size]? = some (.cells #[.string k1, .string k2] 34 (0, 0)) := by rw [← hX]; exact heap_alloc_new _ _
      have x1 : X.cell? ⟨wn.heap.size, 0, none⟩ = some (.string k1) := cell_of_row _ _ 0 _ _ _ n0
      have x2 : X.cell? ⟨wn.heap.size, 1, none⟩ = some (.string k2) := cell_of_row _ _ 1 _ _ _ n0
      have RX := Lib.hid (show RangeAt X r w.heap.size hs (left.filter fun h => !decide (h.1 = (k1, k2))) by rw [← hX]; exact hr2.kept (World.grownBy_alloc _ _ none) (by simp) (by simp))
      have LX := Lib.hid (show X.rangeLeft r w.heap.size < wr.rangeLeft r w.heap.size by
        have e : X.rangeLeft r w.heap.size = wn.rangeLeft r w.heap.size := by
          obtain ⟨D, f, cnt, h1, -⟩ := hr2
          have h2 : X.ranges Try.prog 34 (plainElem Try.prog 2) r w.heap.size hs.length D f cnt := by rw [← hX]; exact h1.alloc _
          rw [h1.left_eq, h2.left_eq]
        rw [e]; exact hlt)
      have hbn : Below w.heap.size w wn := HB.out.grown hg2 HB.out.size (fun k e => by rw [← Option.some.inj e]; exact Nat.le_refl _)
      have BXw := Lib.hid (below_next hbn BX)
      have OX := Lib.hid (show SO seN (w.heap.size + 1) X _ zs.length (numC zs) from (show SO seN (w.heap.size + 1) wn _ zs.length (numC zs) from ⟨own_stays HO.out.own fun k e => hg2.block k (HO.out.own.lt k e).2 (fun e2 => by obtain ⟨cs, t, fr, hk⟩ := HO.out.cells e; exact HR.out.no hk (Option.some.inj e2).symm), HO.out.len, HO.out.one⟩).below BX)
      have HIN := Lib.hid hin
      have ZL := Lib.hid (show zs.length ≤ 4000000 by have := HI.out.len; have := HH4.out; omega)
      clear hin hsz hwf hr2 hg2 hlt BX n0 hbn
      have CI := Lib.hid (wkIsIn X k2 lo hi)
      obtain ⟨q, hq⟩ : ∃ q, withinB k2 lo hi = q := ⟨_, rfl⟩
      rw [hq] at CI
      go_upto_region 5 with fail
      clear hen hX
      cases ht : (k1.toList == table.toList) <;> cases q
      all_goals
        have HE := Lib.hid (show inH table lo hi ((k1, k2), t) = _ by unfold inH; rw [ht, hq])
        clear hq
        go_wp2_with (first
          | (go_at_call 34; go_loud (refine CI.out.mono ?_; rintro e w7 ⟨rfl, hw⟩; replace hw := hw.symm; subst hw))
          | (at_builtin; go_loud (refine so_append seN_ok (by rfl) (.tmp 31) (.tmp 33) (by rfl) _ (by rfl) (OX.out.alloc _) (some ⟨X.heap.size, 0, none⟩) 1 1 (numC [t]) (by rfl) (sb_num X t) (by have := ZL.out; omega) (by have := RX.out.itlt; simp; omega) ?_; intro v3 w3 o3 b3; have O3 := Lib.hid o3; have B3 := Lib.hid ((BXw.out.alloc BXw.out.size _).trans (b3.mono (Nat.le_succ _))); have R3 := Lib.hid (RX.out.over ((Below.refl _ _).alloc (by have := RX.out.itlt; omega) _ |>.trans b3) (by have := HLT.out.2; omega) (Nat.lt_succ_self _)); clear o3 b3)))
        go_roundw
        case rel => first
          | exact ⟨_, _, OX.out, HI.out.skip HM.out.map.once HIN.out HE.out, RX.out, BXw.out⟩
          | exact ⟨_, _, O3.out.base (Nat.le_refl _) (by simp [numC]) (by simp), HI.out.take HM.out.map.once HIN.out HE.out, R3.out.1, B3.out⟩
        case measure => first | exact LX.out | (rw [R3.out.2]; exact LX.out)
end Go.Proofs.Ytghnafknbgmagaa
