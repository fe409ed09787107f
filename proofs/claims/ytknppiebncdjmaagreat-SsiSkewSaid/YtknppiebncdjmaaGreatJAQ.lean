import Derived.Test.YtknppiebncdjmaaGreatJAP
import Derived.Deep.RegionWith
import Derived.Deep.RegionHeld3
import Derived.Test.YtknppiebncdjmaaGreatProg
import Derived.Shelf.SlGeneric
import Derived.Shelf.SortM.Plain
import Derived.Shelf.SortM.SortNone
import Derived.Ground.SlgmProg
import Derived.Test.YtknppiebncdjmaaGreatJAC
set_option linter.unusedVariables false
namespace Go.Proofs.YtknppiebncdjmaaGreat
set_option maxRecDepth 100000
open Go.RowKit Go.Maps Go.ChangeMaps Go.MapKept


end Go.Proofs.YtknppiebncdjmaaGreat

namespace Go.Proofs.YtknppiebncdjmaaGreat
set_option maxRecDepth 100000
open Go.RowKit Go.Maps Go.ChangeMaps Go.MapKept

theorem Out.fresh {a b c : World} {r n : Nat} (h : Below n a b) (hr : n ≤ r) (o : Out (fun k => k = r) b c) (hn : n ≤ b.heap.size) : Below n a c :=
  h.trans (o.below hn fun i hi e => by omega)

end Go.Proofs.YtknppiebncdjmaaGreat

namespace Go.Proofs.YtknppiebncdjmaaGreat
set_option maxRecDepth 100000
open Go.RowKit Go.Maps Go.ChangeMaps Go.MapKept

end Go.Proofs.YtknppiebncdjmaaGreat

namespace Go.Proofs
set_option maxRecDepth 100000
open Go.Shelf
def Tryz.sortN_ren : Go.Shelf.Ren := ⟨fun | 5 => 89 | 8 => 137 | 7 => 136 | 19 => 168 | 20 => 169 | 10 => 159 | 11 => 160 | 12 => 161 | 13 => 162 | 14 => 163 | 15 => 164 | 16 => 165 | 17 => 166 | 18 => 167 | 30 => 200 | 31 => 201 | 32 => 202 | 33 => 203 | 34 => 204 | 35 => 205 | 40 => 216 | n => n, fun | 23 => 75 | 25 => 2 | 3 => 3 | 32 => 206 | 22 => 75 | 0 => 0 | 44 => 237 | 46 => 239 | 4 => 4 | 36 => 230 | 35 => 229 | 41 => 234 | 5 => 5 | 9 => 9 | 53 => 259 | 57 => 263 | 63 => 273 | 64 => 180 | n => n, fun | n => n⟩
theorem Tryz.sortN : Go.Proofs.SlLaysM.n5 Tryz.prog Tryz.sortN_ren := {
  mixed := by kernel_rfl
  f5 := ⟨Tryz.f89.name, by decide, Tryz.func89.trans (congrArg some (by kernel_rfl))⟩
  f7 := ⟨Tryz.f136.name, by decide, Tryz.func136.trans (congrArg some (by kernel_rfl))⟩
  f8 := Tryz.func137.trans (congrArg some (by kernel_rfl))
  f10 := ⟨Tryz.f159.name, by decide, Tryz.func159.trans (congrArg some (by kernel_rfl))⟩
  f11 := ⟨Tryz.f160.name, by decide, Tryz.func160.trans (congrArg some (by kernel_rfl))⟩
  f12 := ⟨Tryz.f161.name, by decide, Tryz.func161.trans (congrArg some (by kernel_rfl))⟩
  f13 := ⟨Tryz.f162.name, by decide, Tryz.func162.trans (congrArg some (by kernel_rfl))⟩
  f14 := ⟨Tryz.f163.name, by decide, Tryz.func163.trans (congrArg some (by kernel_rfl))⟩
  f15 := ⟨Tryz.f164.name, by decide, Tryz.func164.trans (congrArg some (by kernel_rfl))⟩
  f16 := ⟨Tryz.f165.name, by decide, Tryz.func165.trans (congrArg some (by kernel_rfl))⟩
  f17 := ⟨Tryz.f166.name, by decide, Tryz.func166.trans (congrArg some (by kernel_rfl))⟩
  f18 := ⟨Tryz.f167.name, by decide, Tryz.func167.trans (congrArg some (by kernel_rfl))⟩
  f19 := Tryz.func168.trans (congrArg some (by kernel_rfl))
  f20 := Tryz.func169.trans (congrArg some (by kernel_rfl))
  f30 := ⟨Tryz.f200.name, by decide, Tryz.func200.trans (congrArg some (by kernel_rfl))⟩
  f31 := Tryz.func201.trans (congrArg some (by kernel_rfl))
  f32 := Tryz.func202.trans (congrArg some (by kernel_rfl))
  f33 := ⟨Tryz.f203.name, by decide, Tryz.func203.trans (congrArg some (by kernel_rfl))⟩
  f34 := ⟨Tryz.f204.name, by decide, Tryz.func204.trans (congrArg some (by kernel_rfl))⟩
  f35 := ⟨Tryz.f205.name, by decide, Tryz.func205.trans (congrArg some (by kernel_rfl))⟩
  f40 := ⟨Tryz.f216.name, by decide, Tryz.func216.trans (congrArg some (by kernel_rfl))⟩
  t0 := Tryz.underlying0
  a0 := Tryz.isAgg0
  z0 := Tryz.sizeOf0
  v0 := Tryz.zeroValue0
  t3 := Tryz.underlying3
  a3 := Tryz.isAgg3
  z3 := Tryz.sizeOf3
  v3 := Tryz.zeroValue3
  t4 := Tryz.underlying4
  a4 := Tryz.isAgg4
  z4 := Tryz.sizeOf4
  v4 := Tryz.zeroValue4
  t5 := Tryz.underlying5
  a5 := Tryz.isAgg5
  z5 := Tryz.sizeOf5
  v5 := Tryz.zeroValue5
  t9 := Tryz.underlying9
  a9 := Tryz.isAgg9
  z9 := Tryz.sizeOf9
  v9 := Tryz.zeroValue9
  t22 := Tryz.underlying75
  a22 := Tryz.isAgg75
  z22 := Tryz.sizeOf75
  v22 := Tryz.zeroValue75
  t23 := Tryz.underlying75
  a23 := Tryz.isAgg75
  z23 := Tryz.sizeOf75
  v23 := Tryz.zeroValue75
  t25 := Tryz.underlying2
  a25 := Tryz.isAgg2
  z25 := Tryz.sizeOf2
  v25 := Tryz.zeroValue2
  t32 := Tryz.underlying206
  a32 := Tryz.isAgg206
  z32 := Tryz.sizeOf206
  v32 := Tryz.zeroValue206
  t35 := Tryz.underlying229
  a35 := Tryz.isAgg229
  z35 := Tryz.sizeOf229
  v35 := Tryz.zeroValue229
  t36 := Tryz.underlying230
  a36 := Tryz.isAgg230
  z36 := Tryz.sizeOf230
  v36 := Tryz.zeroValue230
  t41 := Tryz.underlying234
  a41 := Tryz.isAgg234
  z41 := Tryz.sizeOf234
  v41 := Tryz.zeroValue234
  t44 := Tryz.underlying237
  a44 := Tryz.isAgg237
  z44 := Tryz.sizeOf237
  v44 := Tryz.zeroValue237
  t46 := Tryz.underlying239
  a46 := Tryz.isAgg239
  z46 := Tryz.sizeOf239
  v46 := Tryz.zeroValue239
  t53 := Tryz.underlying259
  a53 := Tryz.isAgg259
  z53 := Tryz.sizeOf259
  v53 := Tryz.zeroValue259
  t57 := Tryz.underlying263
  a57 := Tryz.isAgg263
  z57 := Tryz.sizeOf263
  v57 := Tryz.zeroValue263
  t63 := Tryz.underlying273
  a63 := Tryz.isAgg273
  z63 := Tryz.sizeOf273
  v63 := Tryz.zeroValue273
  t64 := Tryz.underlying180
  a64 := Tryz.isAgg180
  z64 := Tryz.sizeOf180
  v64 := Tryz.zeroValue180 }
end Go.Proofs

namespace Go.Proofs.YtknppiebncdjmaaGreat
set_option maxRecDepth 100000
open Go.RowKit

theorem sorted_heap (w : World) (m g : Nat) (ys : Array Int) (os : Array Obj) (k : Nat) (hk : k < w.heap.size) :
    (Sort.grow (Sort.putRow (Value.int .i64) (Sort.ahead w m) g 0 ys) os).heap[k]? = if k = g then (w.heap[k]?).map (Sort.onCells (Sort.putCells (Value.int .i64) 0 ys)) else w.heap[k]? := by
  unfold Sort.grow Sort.putRow Sort.mapBlock Sort.ahead
  simp only
  rw [Array.getElem?_append_left (by simpa using hk), Array.getElem?_modify]
  by_cases e : g = k
  · subst e; simp
  · rw [if_neg e, if_neg (Ne.symm e)]
theorem so_sorted {base n c g m : Nat} {w : World} {zs ys : List Int} {os : Array Obj} (h : SO seN base w (.slice (some ⟨g, 0, none⟩) n c) n (numC zs)) (hl : ys.length = n) :
    SO seN base (Sort.grow (Sort.putRow (Value.int .i64) (Sort.ahead w m) g 0 ys.toArray) os) (.slice (some ⟨g, 0, none⟩) n c) n (numC ys) := by
  rcases h.own.2 with ⟨hv, -⟩ | ⟨g', cap, cur, hv, hb, hh, hc, hm, hsz, ht⟩
  · cases hv
  · obtain ⟨rfl, rfl⟩ : g = g' ∧ c = cap := by simpa using hv
    refine ⟨⟨by rw [numC_len, hl]; show n = n * 1; omega, .inr ⟨g, c, Sort.putCells (Value.int .i64) 0 ys.toArray cur, rfl, hb, ?_, hc, hm, by simpa [Sort.putCells] using hsz, ?_⟩⟩, by rw [numC_len, hl]; show n = 1 * n; omega, numC_one _⟩
    · rw [sorted_heap _ _ _ _ _ _ (Array.getElem?_eq_some_iff.1 hh).1, if_pos rfl, hh]; rfl
    · have hcs : cur.size = c * 1 := hsz
      apply List.ext_getElem?
      intro k
      show (List.take (n * 1) _)[k]? = _
      rw [List.getElem?_take, Nat.mul_one]
      by_cases hk : k < n
      · rw [if_pos hk]
        have h1 : k < cur.size := by omega
        have h2 : k < ys.length := by omega
        simp [Sort.putCells, numC, h1, h2]
      · rw [if_neg hk, List.getElem?_eq_none (by rw [numC_len]; omega)]
theorem so_sorted_out {g m : Nat} {w : World} {ys : List Int} {os : Array Obj} : Out (fun k => k = g) w (Sort.grow (Sort.putRow (Value.int .i64) (Sort.ahead w m) g 0 ys.toArray) os) :=
  ⟨rfl, rfl, rfl, by simp [Sort.grow, Sort.putRow, Sort.mapBlock, Sort.ahead], fun k hk hn => by
    rw [sorted_heap _ _ _ _ _ _ hk, if_neg hn]⟩
theorem wsortN {base : Nat} {w : World} {v : Value} {zs : List Int} (h : SO seN base w v zs.length (numC zs)) (hn : zs.length ≤ 4000000) :
    Calls Tryz.prog 89 #[v] w fun e w' => e = .returned (.tuple #[]) ∧ SO seN base w' v zs.length (numC (zs.mergeSort fun x y => decide (x ≤ y))) ∧ Below base w w' := by
  rcases h.own.2 with ⟨rfl, h0⟩ | ⟨g, cap, cur, rfl, hb, hh, -⟩
  · have hz : zs = [] := List.eq_nil_of_length_eq_zero h0
    subst hz
    have hcon := AnyM.slices_Sort_int_none Tryz.sortN none 0 w
    change Calls Tryz.prog 89 _ _ _ at hcon
    refine hcon.mono ?_
    rintro e w' ⟨h1, rfl⟩
    exact ⟨h1, by simpa using h, Below.refl _ _⟩
  · obtain ⟨A, c, e1, hsb, -⟩ := h.form
    obtain ⟨rfl, rfl⟩ : A = some ⟨g, 0, none⟩ ∧ c = cap := by
      simp at e1; exact ⟨e1.1.symm, e1.2.symm⟩
    rw [show seN.s * zs.length = zs.length from Nat.one_mul _] at hsb
    have hH : Sort.Holds (Value.int .i64) w g 0 zs.toArray := fun j hj => by
      have hj' : j < zs.length := by simpa using hj
      obtain ⟨x, hx⟩ : ∃ x, zs[j]? = some x := ⟨_, List.getElem?_eq_getElem hj'⟩
      obtain ⟨g1, o1, e2, hc⟩ := hsb.at_ (numC_at hx)
      cases e2
      refine ⟨?_, frozen_of_row _ _ _ _ _ hh⟩
      rw [hc]
      simp [getElem!_pos, hj']
      rw [List.getElem?_eq_getElem hj'] at hx
      exact (Option.some.inj hx).symm
    have hlt := (Array.getElem?_eq_some_iff.1 hh).1
    have hcon := AnyM.slices_Sort_int Tryz.sortN g 0 c zs w hH hlt (by omega)
    change Calls Tryz.prog 89 _ _ _ at hcon
    refine hcon.mono ?_
    rintro e w' ⟨h1, m, os, rfl⟩
    exact ⟨h1, so_sorted h (List.length_mergeSort _), so_sorted_out.below (by omega) fun i hi e => by omega⟩
end Go.Proofs.YtknppiebncdjmaaGreat

namespace Go.Proofs.YtknppiebncdjmaaGreat
set_option maxRecDepth 100000
end Go.Proofs.YtknppiebncdjmaaGreat

namespace Go.Proofs.YtknppiebncdjmaaGreat
set_option maxRecDepth 100000
open Go.RowKit

theorem compact_len8 (zs : List Int) : (Lib.compact zs).length ≤ zs.length := by
  unfold Lib.compact Lib.compactUpTo
  rw [List.length_map]
  have := List.length_filter_le (Lib.keeps zs.toArray) (List.range zs.length)
  simpa using this
theorem compact_is {ys : List Int} (h : ys.Pairwise (· ≤ ·)) : (Lib.compact ys).Pairwise (ltN · · = true) ∧ ∀ x, x ∈ Lib.compact ys ↔ x ∈ ys := by
  have hd : ∀ j, j < ys.length → ys.toArray[j]! = ys[j]! := fun j hj => by simp [getElem!_pos, hj]
  have key : ∀ m, m ≤ ys.length → (Lib.compactUpTo ys.toArray m).Pairwise (ltN · · = true) ∧ (∀ x, x ∈ Lib.compactUpTo ys.toArray m ↔ ∃ j, j < m ∧ ys[j]? = some x) := by
    intro m
    induction m with
    | zero => intro _; exact ⟨by simp [Lib.compactUpTo], by simp [Lib.compactUpTo]⟩
    | succ m ih =>
      intro hm
      obtain ⟨i1, i2⟩ := ih (by omega)
      obtain ⟨y, hy⟩ : ∃ y, ys[m]? = some y := ⟨_, List.getElem?_eq_getElem (by omega)⟩
      have hym : ys.toArray[m]! = y := by rw [hd m (by omega)]; simp [hy]
      rw [Lib.compactUpTo_succ, hym]
      by_cases hk : Lib.keeps ys.toArray m = true
      · rw [if_pos hk]
        refine ⟨List.pairwise_append.2 ⟨i1, List.pairwise_singleton .., fun a ha b hb => ?_⟩, fun x => ?_⟩
        · rw [List.mem_singleton.1 hb]
          obtain ⟨j, hj, hja⟩ := (i2 a).1 ha
          have hm0 : m ≠ 0 := by omega
          obtain ⟨z, hz⟩ : ∃ z, ys[m - 1]? = some z := ⟨_, List.getElem?_eq_getElem (by omega)⟩
          have hzm : ys.toArray[m - 1]! = z := by rw [hd (m - 1) (by omega)]; simp [hz]
          unfold Lib.keeps at hk
          rw [hym, hzm] at hk
          have hne : y ≠ z := by simpa [hm0] using hk
          have h1 : z ≤ y := by
            have := List.pairwise_iff_getElem.1 h (m - 1) m (by omega) (by omega) (by omega)
            rw [List.getElem?_eq_getElem (by omega)] at hz hy
            rw [Option.some.inj hz, Option.some.inj hy] at this
            exact this
          have h2 : a ≤ z := by
            rcases Nat.lt_or_ge j (m - 1) with h3 | h3
            · have := List.pairwise_iff_getElem.1 h j (m - 1) (by omega) (by omega) h3
              rw [List.getElem?_eq_getElem (by omega)] at hz hja
              rw [Option.some.inj hz, Option.some.inj hja] at this
              exact this
            · have : j = m - 1 := by omega
              subst this
              rw [hz] at hja
              rw [Option.some.inj hja]; exact Int.le_refl _
          unfold ltN
          simp only [decide_eq_true_eq]
          omega
        · rw [List.mem_append, i2, List.mem_singleton]
          constructor
          · rintro (⟨j, h1, h2⟩ | rfl)
            · exact ⟨j, by omega, h2⟩
            · exact ⟨m, by omega, hy⟩
          · rintro ⟨j, h1, h2⟩
            rcases Nat.lt_or_ge j m with h3 | h3
            · exact .inl ⟨j, h3, h2⟩
            · have : j = m := by omega
              subst this
              rw [hy] at h2
              exact .inr (Option.some.inj h2).symm
      · rw [if_neg hk, List.append_nil]
        refine ⟨i1, fun x => ?_⟩
        rw [i2]
        constructor
        · rintro ⟨j, h1, h2⟩; exact ⟨j, by omega, h2⟩
        · rintro ⟨j, h1, h2⟩
          rcases Nat.lt_or_ge j m with h3 | h3
          · exact ⟨j, h3, h2⟩
          · have : j = m := by omega
            subst this
            unfold Lib.keeps at hk
            have hm0 : j ≠ 0 := fun e => hk (by simp [e])
            obtain ⟨z, hz⟩ : ∃ z, ys[j - 1]? = some z := ⟨_, List.getElem?_eq_getElem (by omega)⟩
            have hzm : ys.toArray[j - 1]! = z := by rw [hd (j - 1) (by omega)]; simp [hz]
            rw [hym, hzm] at hk
            have hyz : y = z := by simpa [hm0] using hk
            rw [hy] at h2
            exact ⟨j - 1, by omega, by rw [hz, ← hyz]; exact h2⟩
  obtain ⟨h1, h2⟩ := key ys.length (Nat.le_refl _)
  refine ⟨h1, fun x => (h2 x).trans ⟨fun ⟨j, _, hj⟩ => List.mem_of_getElem? hj, fun hx => ?_⟩⟩
  obtain ⟨j, hj⟩ := List.mem_iff_getElem?.1 hx
  exact ⟨j, (List.getElem?_eq_some_iff.1 hj).1, hj⟩
theorem sort_rise {zs l : List Int} (h : ∀ x, x ∈ zs ↔ x ∈ l) : Lib.compact (zs.mergeSort fun x y => decide (x ≤ y)) = riseP l := by
  have hs : (zs.mergeSort fun x y => decide (x ≤ y)).Pairwise (· ≤ ·) := by
    have := List.pairwise_mergeSort (le := fun x y : Int => decide (x ≤ y)) (fun a b c h1 h2 => by simp at *; omega) (fun a b => by simp; omega) zs
    exact this.imp fun h => by simpa using h
  obtain ⟨h1, h2⟩ := compact_is hs
  exact rise_unique h1 fun y => (h2 y).trans ((List.mem_mergeSort).trans (h y))
theorem SO.shrink {base n n2 c g : Nat} {w : World} {zs : List Int} (h : SO seN base w (.slice (some ⟨g, 0, none⟩) n c) n (numC zs)) (hn : n2 ≤ n) : SO seN base w (.slice (some ⟨g, 0, none⟩) n2 c) n2 (numC (zs.take n2)) := by
  have hl := h.len
  rw [numC_len, show seN.s * n = n from Nat.one_mul _] at hl
  rcases h.own.2 with ⟨hv, -⟩ | ⟨g', cap, cur, hv, hb, hh, hc, hm, hsz, ht⟩
  · cases hv
  · obtain ⟨rfl, rfl⟩ : g = g' ∧ c = cap := by simpa using hv
    refine ⟨⟨by rw [numC_len, List.length_take]; show _ = n2 * 1; omega, .inr ⟨g, c, cur, rfl, hb, hh, Nat.le_trans hn hc, hm, hsz, ?_⟩⟩, by rw [numC_len, List.length_take]; show _ = 1 * n2; omega, numC_one _⟩
    have e : cur.toList.take (n2 * seN.s) = (cur.toList.take (n * seN.s)).take n2 := by
      rw [List.take_take, show n * seN.s = n from Nat.mul_one _, show n2 * seN.s = n2 from Nat.mul_one _, Nat.min_eq_left hn]
    rw [e, ht]
    simp [numC]
theorem wcompactN {base : Nat} {w : World} {v : Value} {zs : List Int} (h : SO seN base w v zs.length (numC zs)) (hn : zs.length ≤ 4000000) :
    Calls Tryz.prog 135 #[v] w fun e w' => ∃ v', e = .returned v' ∧ SO seN base w' v' (Lib.compact zs).length (numC (Lib.compact zs)) ∧ Below base w w' := by
  have hle := compact_len8 zs
  rcases h.own.2 with ⟨rfl, h0⟩ | ⟨g, cap, cur, rfl, hb, hh, hc, -⟩
  · have hz : zs = [] := List.eq_nil_of_length_eq_zero h0
    subst hz
    have hcon := AnyG.slices_Compact_int_empty Tryz.compactN none 0 w
    change Calls Tryz.prog 135 _ _ _ at hcon
    refine hcon.mono ?_
    rintro e w' ⟨h1, rfl⟩
    exact ⟨_, h1, SO.nil _ _ _, Below.refl _ _⟩
  · obtain ⟨A, c, e1, hsb, -⟩ := h.form
    obtain ⟨rfl, rfl⟩ : A = some ⟨g, 0, none⟩ ∧ c = cap := by
      simp at e1; exact ⟨e1.1.symm, e1.2.symm⟩
    rw [show seN.s * zs.length = zs.length from Nat.one_mul _] at hsb
    have hH : Sort.Holds (Value.int .i64) w g 0 zs.toArray := fun j hj => by
      have hj' : j < zs.length := by simpa using hj
      obtain ⟨x, hx⟩ : ∃ x, zs[j]? = some x := ⟨_, List.getElem?_eq_getElem hj'⟩
      obtain ⟨g1, o1, e2, hc⟩ := hsb.at_ (numC_at hx)
      cases e2
      refine ⟨?_, frozen_of_row _ _ _ _ _ hh⟩
      rw [hc]
      simp [getElem!_pos, hj']
      rw [List.getElem?_eq_getElem hj'] at hx
      exact (Option.some.inj hx).symm
    have hlt := (Array.getElem?_eq_some_iff.1 hh).1
    have hcon := AnyG.slices_Compact_int Tryz.compactN g 0 c zs w hH (by omega) hc
    change Calls Tryz.prog 135 _ _ _ at hcon
    refine hcon.mono ?_
    rintro e w' ⟨h1, q, rfl⟩
    refine ⟨_, h1, ?_, ?_⟩
    · have h2 := so_sorted (m := q) (os := #[]) (ys := Lib.compact zs ++ List.replicate (zs.length - (Lib.compact zs).length) 0) h (by simp; omega)
      rw [Sort.grow_empty] at h2
      have h3 := h2.shrink (n2 := (Lib.compact zs).length) hle
      rw [List.take_left' rfl] at h3
      exact h3
    · have h2 := so_sorted_out (g := g) (m := q) (w := w) (ys := Lib.compact zs ++ List.replicate (zs.length - (Lib.compact zs).length) 0) (os := #[])
      rw [Sort.grow_empty] at h2
      exact h2.below (by omega) fun i hi e => by omega
end Go.Proofs.YtknppiebncdjmaaGreat

namespace Go.Proofs.YtknppiebncdjmaaGreat
set_option maxRecDepth 100000
open Go.RowKit Go.Maps Go.ChangeMaps Go.MapKept

structure ColI (hs : List Hd) (f : Hd → Bool) (zs : List Int) (left : List Hd) : Prop where
  mem : ∀ x, x ∈ zs ↔ ∃ h, h ∈ hs ∧ h ∉ left ∧ f h = true ∧ h.2 = x
  len : zs.length + left.length ≤ hs.length
  sub : ∀ h ∈ left, h ∈ hs
  ol : Once left
theorem ColI.start {hs : List Hd} (h : Once hs) (f : Hd → Bool) : ColI hs f [] hs := ⟨fun x => Iff.intro (fun h => absurd h (by simp)) (fun h => by obtain ⟨y, h1, h2, -⟩ := h; exact absurd h1 h2), by simp, fun _ h => h, h⟩
theorem not_left {left : List Hd} {l : Lk} (h : Hd) : h ∉ (left.filter fun h => !decide (h.1 = l)) ↔ h ∉ left ∨ h.1 = l := by
  rw [List.mem_filter]
  by_cases e : h.1 = l <;> simp [e]
theorem ColI.skip {hs left : List Hd} {f : Hd → Bool} {zs : List Int} {l : Lk} {t : Int} (ho : Once hs) (h : ColI hs f zs left) (hl : (l, t) ∈ left) (hf : f (l, t) = false) : ColI hs f zs (left.filter fun h => !decide (h.1 = l)) := by
  refine ⟨fun x => ?_, ?_, fun y hy => h.sub y (List.mem_filter.1 hy).1, List.Nodup.sublist (List.Sublist.map _ List.filter_sublist) h.ol⟩
  · rw [h.mem]
    constructor
    · rintro ⟨y, h1, h2, h3⟩; exact ⟨y, h1, (not_left y).2 (.inl h2), h3⟩
    · rintro ⟨y, h1, h2, h3, h4⟩
      rcases (not_left y).1 h2 with h5 | h5
      · exact ⟨y, h1, h5, h3, h4⟩
      · have := ho.eq h1 (h.sub _ hl) h5
        rw [this, hf] at h3; cases h3
  · have h1 := but_len h.ol hl
    have h2 := h.len
    omega
theorem ColI.take {hs left : List Hd} {f : Hd → Bool} {zs : List Int} {l : Lk} {t : Int} (ho : Once hs) (h : ColI hs f zs left) (hl : (l, t) ∈ left) (hf : f (l, t) = true) : ColI hs f (zs ++ [t]) (left.filter fun h => !decide (h.1 = l)) := by
  refine ⟨fun x => ?_, ?_, fun y hy => h.sub y (List.mem_filter.1 hy).1, List.Nodup.sublist (List.Sublist.map _ List.filter_sublist) h.ol⟩
  · rw [List.mem_append, h.mem, List.mem_singleton]
    constructor
    · rintro (⟨y, h1, h2, h3⟩ | rfl)
      · exact ⟨y, h1, (not_left y).2 (.inl h2), h3⟩
      · exact ⟨(l, x), h.sub _ hl, (not_left _).2 (.inr rfl), hf, rfl⟩
    · rintro ⟨y, h1, h2, h3, h4⟩
      rcases (not_left y).1 h2 with h5 | h5
      · exact .inl ⟨y, h1, h5, h3, h4⟩
      · have := ho.eq h1 (h.sub _ hl) h5
        rw [this] at h4
        exact .inr h4.symm
  · have h1 := but_len h.ol hl
    have h2 := h.len
    simp only [List.length_append, List.length_singleton]
    omega
theorem ColI.ends {hs : List Hd} {table lo hi : ByteArray} {zs : List Int} (h : ColI hs (inH table lo hi) zs []) : ∀ x, x ∈ zs ↔ x ∈ whoP hs table lo hi := fun x => by
  rw [h.mem]
  unfold whoP
  rw [List.mem_map]
  constructor
  · rintro ⟨y, h1, -, h3, h4⟩; exact ⟨y, List.mem_filter.2 ⟨h1, h3⟩, h4⟩
  · rintro ⟨y, h1, h4⟩; obtain ⟨h2, h3⟩ := List.mem_filter.1 h1; exact ⟨y, h2, by simp, h3, h4⟩

theorem SO.cells {E : SEl} {base n : Nat} {w : World} {v : Value} {vs : List Value} (h : SO E base w v n vs) {k : Nat} (e : v.ownBlock = some k) : ∃ cs t fr, w.heap[k]? = some (.cells cs t fr) := by
  rcases h.own.2 with ⟨rfl, -⟩ | ⟨g, cap, cur, rfl, -, hh, -⟩
  · simp [Value.ownBlock] at e
  · have e : g = k := by simpa [Value.ownBlock] using e
    subst e
    exact ⟨_, _, _, hh⟩
set_option maxHeartbeats 2000000 in
theorem wkIsIn (w : World) (key lo hi : ByteArray) :
    Calls Tryz.prog 134 #[.string key, .string lo, .string hi] w fun e w' => e = .returned (.bool (withinB key lo hi)) ∧ w' = w := by
  cases h1 : Op.bytesLess lo.toList key.toList <;> cases h4 : (lo.toList == key.toList) <;> cases h2 : (hi.toList == []) <;> cases h3 : klB key hi
  all_goals
    have HE := Lib.hid (show withinB key lo hi = _ by unfold withinB; rw [bl_le8 lo key, h1, h4, h2, h3])
    unfold klB at h3
    go_enter Tryz.func134, Tryz.ntmps134
    go_wp2
    go_ret
    exact ⟨by rw [HE.out] <;> rfl, rfl⟩
set_option maxHeartbeats 16000000 in
theorem wkHolders {w : World} {b r : Nat} {most : Int} {hs : List Hd} (h : MG w b r most hs) (table lo hi : ByteArray) :
    Calls Tryz.prog 84 #[.pointer (some ⟨b, 0, none⟩), .string table, .string lo, .string hi] w fun e w' => ∃ v, e = .returned v ∧ SO seN w.heap.size w' v (riseP (whoP hs table lo hi)).length (numC (riseP (whoP hs table lo hi))) ∧ Below w.heap.size w w' := by
  have CM := Lib.hid (wkAll h)
  have HM := Lib.hid h
  have HLT := Lib.hid (show b < w.heap.size ∧ r < w.heap.size from ⟨(Array.getElem?_eq_some_iff.1 h.blk).1, h.map.lt⟩)
  clear h
  go_enter Tryz.func84, Tryz.ntmps84
  go_upto_region 3 with (first
    | (go_at_call 121; go_loud (refine CM.out.mono ?_; rintro e w1 ⟨rfl, hw⟩; replace hw := hw.symm; subst hw))
    | (at_range; go_loud (refine map_range (by rfl) (.tmp 13) (by rfl) (by rfl) HM.out.map ?_; intro w2 r2 g2; have R2 := Lib.hid r2; have B2 := Lib.hid (show Below w.heap.size w w2 from (Below.refl _ _).grown g2 (Nat.le_refl _) (fun k e => by cases e)); clear r2 g2)))
  try go_frame
  go_loopw [9] (fun lv wr => ∃ (zs : List Int) (left : List Hd), SO seN (w.heap.size + 1) wr lv zs.length (numC zs) ∧ ColI hs (inH table lo hi) zs left ∧ RangeAt wr r w.heap.size hs left ∧ Below w.heap.size w wr) (fun _ wr => wr.rangeLeft r w.heap.size)
  case atStart => exact ⟨[], hs, SO.nil _ _ _, ColI.start HM.out.map.once _, R2.out, B2.out⟩
  case round =>
    rename World => wr
    obtain ⟨zs, left, ho, hI, hR, hB⟩ := hrel
    have HO := Lib.hid ho
    have HI := Lib.hid hI
    have HR := Lib.hid hR
    have HB := Lib.hid hB
    have HH4 := Lib.hid (show (hs.length : Int) ≤ 4096 by have := HM.out.len; have := HM.out.m2; omega)
    clear ho hI hR hB
    go_wp2_with (at_next; go_loud (refine map_next (by rfl) (.tmp 14) (by rfl) w.heap.size left (by rfl) HR.out ?_ ?_))
    · intro hnil
      subst hnil
      have ZL := Lib.hid (show zs.length ≤ 4000000 by have := HI.out.len; have := HH4.out; omega)
      have CS := Lib.hid (wsortN HO.out ZL.out)
      have SR := Lib.hid (sort_rise HI.out.ends)
      have CC := Lib.hid (fun (v2 : Value) (w2 : World) (O2 : SO seN (w.heap.size + 1) w2 v2 zs.length (numC (zs.mergeSort fun x y => decide (x ≤ y)))) => wcompactN (zs := zs.mergeSort fun x y => decide (x ≤ y)) (by rw [List.length_mergeSort]; exact O2) (by rw [List.length_mergeSort]; exact ZL.out))
      go_wp2_with (first
        | (go_at_call 89; go_loud (refine CS.out.mono ?_; rintro e w5 ⟨rfl, o5, g5⟩; have O5 := Lib.hid o5; have B5 := Lib.hid (HB.out.trans (g5.mono (Nat.le_succ _))); clear o5 g5))
        | (go_at_call 135; go_loud (refine (CC.out _ _ O5.out).mono ?_; rintro e w6 ⟨v6, rfl, o6, g6⟩; have O6 := Lib.hid o6; have B6 := Lib.hid (B5.out.trans (g6.mono (Nat.le_succ _))); clear o6 g6)))
      go_ret
      exact ⟨_, rfl, by rw [← SR.out]; exact O6.out.base (Nat.le_succ _) rfl rfl, B6.out⟩
    · intro k1 k2 t wn hin hsz hwf hr2 hg2 hlt hen
      obtain ⟨X, hX⟩ : ∃ X, wn.alloc (.cells #[.string k1, .string k2] 42) = X := ⟨_, rfl⟩
      have HXX := Lib.hid hX
      have BX : Below wn.heap.size wn X := by rw [← hX]; exact (Below.refl _ _).alloc (Nat.le_refl _) _
      have n0 : X.heap[wn.heap.size]? = some (.cells #[.string k1, .string k2] 42 (0, 0)) := by rw [← hX]; exact heap_alloc_new _ _
      have x1 : X.cell? ⟨wn.heap.size, 0, none⟩ = some (.string k1) := cell_of_row _ _ 0 _ _ _ n0
      have x2 : X.cell? ⟨wn.heap.size, 1, none⟩ = some (.string k2) := cell_of_row _ _ 1 _ _ _ n0
      have RX := Lib.hid (show RangeAt X r w.heap.size hs (left.filter fun h => !decide (h.1 = (k1, k2))) by rw [← hX]; exact hr2.kept (World.grownBy_alloc _ _ none) (by simp) (by simp))
      have LX := Lib.hid (show X.rangeLeft r w.heap.size < wr.rangeLeft r w.heap.size by
        have e : X.rangeLeft r w.heap.size = wn.rangeLeft r w.heap.size := by
          obtain ⟨D, f, cnt, h1, -⟩ := hr2
          have h2 : X.ranges Tryz.prog 42 (plainElem Tryz.prog 2) r w.heap.size hs.length D f cnt := by rw [← hX]; exact h1.alloc _
          rw [h1.left_eq, h2.left_eq]
        rw [e]; exact hlt)
      have hbn : Below w.heap.size w wn := HB.out.grown hg2 HB.out.size (fun k e => by rw [← Option.some.inj e]; exact Nat.le_refl _)
      have BXw := Lib.hid (below_next hbn BX)
      have OX := Lib.hid (show SO seN (w.heap.size + 1) X _ zs.length (numC zs) from (show SO seN (w.heap.size + 1) wn _ zs.length (numC zs) from ⟨own_stays HO.out.own fun k e => hg2.block k (HO.out.own.lt k e).2 (fun e2 => by obtain ⟨cs, t, fr, hk⟩ := HO.out.cells e; exact HR.out.no hk (Option.some.inj e2).symm), HO.out.len, HO.out.one⟩).below BX)
      have HIN := Lib.hid hin
      have ZL := Lib.hid (show zs.length ≤ 4000000 by have := HI.out.len; have := HH4.out; omega)
      clear hin hsz hwf hr2 hg2 hlt BX n0 hbn
      have CI := Lib.hid (wkIsIn X k2 lo hi)
      obtain ⟨q, hq⟩ : ∃ q, withinB k2 lo hi = q := ⟨_, rfl⟩
      rw [hq] at CI
      go_upto_region 5 with fail
      clear hen hX
      cases ht : (k1.toList == table.toList) <;> cases q
      all_goals
        have HE := Lib.hid (show inH table lo hi ((k1, k2), t) = _ by unfold inH; rw [ht, hq])
        clear hq
        go_wp2_with (first
          | (go_at_call 134; go_loud (refine CI.out.mono ?_; rintro e w7 ⟨rfl, hw⟩; replace hw := hw.symm; subst hw))
          | (at_builtin; go_loud (refine so_append seN_ok (by rfl) (.tmp 31) (.tmp 33) (by rfl) _ (by rfl) (OX.out.alloc _) (some ⟨X.heap.size, 0, none⟩) 1 1 (numC [t]) (by rfl) (sb_num X t) (by have := ZL.out; omega) (by have := RX.out.itlt; simp; omega) ?_; intro v3 w3 o3 b3; have O3 := Lib.hid o3; have B3 := Lib.hid ((BXw.out.alloc BXw.out.size _).trans (b3.mono (Nat.le_succ _))); have R3 := Lib.hid (RX.out.over ((Below.refl _ _).alloc (by have := RX.out.itlt; omega) _ |>.trans b3) (by have := HLT.out.2; omega) (Nat.lt_succ_self _)); clear o3 b3)))
        go_roundw
        case rel => first
          | exact ⟨_, _, OX.out, HI.out.skip HM.out.map.once HIN.out HE.out, RX.out, BXw.out⟩
          | exact ⟨_, _, O3.out.base (Nat.le_refl _) (by simp [numC]) (by simp), HI.out.take HM.out.map.once HIN.out HE.out, R3.out.1, B3.out⟩
        case measure => first | exact LX.out | (rw [R3.out.2]; exact LX.out)
end Go.Proofs.YtknppiebncdjmaaGreat
