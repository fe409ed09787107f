import Derived.Test.YtknppiebncdjmaaGreatJAO
import Derived.Test.YtknppiebncdjmaaGreatJAE
import Derived.Test.YtknppiebncdjmaaGreatJAH
import Derived.Laws.Cover1
import Derived.Test.YtknppiebncdjmaaGreatProg
import Derived.Shelf.SlGeneric
import Derived.Shelf.SlMaps.Clone
import Derived.Ground.SlmcProg
import Derived.Shelf.SlicesG.CompactI
import Derived.Ground.SlgnProg
import Derived.Shelf.SlSortCmp.WholeK
import Derived.Shelf.SlSortCmp.NoneTotal
import Derived.Ground.SlsfProg
import Derived.Test.YtknppiebncdjmaaGreatJAM
import Derived.Shelf.Abstract
import Derived.Test.YtknppiebncdjmaaGreatJAD
import Derived.Test.YtknppiebncdjmaaGreatJAC
import Derived.Deep.Slices
import Derived.Deep.RegionHeld3
set_option linter.unusedVariables false
namespace Go.Proofs.YtknppiebncdjmaaGreat
set_option maxRecDepth 100000
open Go.RowKit Go.Sort

theorem grow_one (w : World) (o : Obj) : grow w #[o] = w.alloc o := by
  unfold grow World.alloc
  congr 1
theorem drewN_zero (w : World) : w.drewN 0 = w := by
  unfold World.drewN
  simp
def geL (l : Lk) (t : ByteArray × ByteArray) : Bool := !lessB l t
def geAt (ls : List Lk) (t : Lk) (i : Nat) : Bool := (ls[i]?).elim true fun l => geL l t
theorem geAt_range : ∀ (ls : List Lk) (t : Lk), (List.range ls.length).countP (fun i => !geAt ls t i) = ls.countP (fun l => lessB l t)
  | [], t => rfl
  | x :: xs, t => by
    have ih := geAt_range xs t
    rw [List.length_cons, List.range_succ_eq_map, List.countP_cons, List.countP_map, List.countP_cons, ← ih]
    have : (!geAt (x :: xs) t 0) = lessB x t := by unfold geAt geL; simp
    rw [this]
    rfl
theorem geAt_mono {ls : List Lk} (h : ls.Pairwise (lessB · · = true)) (t : Lk) (a b : Nat) (hab : a ≤ b) (hb : b < ls.length) (ha : geAt ls t a = true) : geAt ls t b = true := by
  unfold geAt at *
  rw [List.getElem?_eq_getElem (by omega)] at ha
  rw [List.getElem?_eq_getElem hb]
  simp only [Option.elim_some] at ha ⊢
  rcases Nat.eq_or_lt_of_le hab with rfl | hlt
  · exact ha
  · have h1 := List.pairwise_iff_getElem.1 h a b (by omega) hb hlt
    unfold geL at ha ⊢
    cases h2 : lessB ls[b] t with
    | false => rfl
    | true => rw [lessB_tr _ _ _ h1 h2] at ha; cases ha
def wroteB (ls : List Lk) (tb lo hi : ByteArray) : Bool := ls.any fun l => (l.1.toList == tb.toList) && withinB l.2 lo hi
theorem wrote_at {ls : List Lk} (h : ls.Pairwise (lessB · · = true)) (tb lo hi : ByteArray) : wroteB ls tb lo hi = (ls[ls.countP (fun l => lessB l (tb, lo))]?).elim false fun l => (l.1.toList == tb.toList) && ((hi.toList == []) || klB l.2 hi) := by
  induction ls with
  | nil => rfl
  | cons x xs ih =>
    obtain ⟨h1, h2⟩ := List.pairwise_cons.1 h
    cases hx : lessB x (tb, lo) with
    | true =>
      rw [List.countP_cons_of_pos (p := fun l => lessB l (tb, lo)) hx]
      show _ = ((x :: xs)[_ + 1]?).elim _ _
      rw [List.getElem?_cons_succ, ← ih h2]
      unfold wroteB
      rw [List.any_cons]
      have : ((x.1.toList == tb.toList) && withinB x.2 lo hi) = false := by
        rcases (lessB_is _ _).1 hx with h3 | ⟨h3, h4⟩
        · have : (x.1.toList == tb.toList) = false := by
            rw [toList_beq8]
            simp only [decide_eq_false_iff_not]
            intro e
            rw [e] at h3
            rw [klB_irrefl] at h3; cases h3
          rw [this]; rfl
        · have h4 : klB x.2 lo = true := h4
          unfold withinB
          rw [h4]; simp
      rw [this]; rfl
    | false =>
      have hz : xs.countP (fun l => lessB l (tb, lo)) = 0 := by
        rw [List.countP_eq_zero]
        intro y hy h3
        have := lessB_tr _ _ _ (h1 y hy) h3
        rw [hx] at this; cases this
      rw [List.countP_cons_of_neg (p := fun l => lessB l (tb, lo)) (by simp [hx]), hz]
      show _ = ((x.1.toList == tb.toList) && ((hi.toList == []) || klB x.2 hi))
      have hge : geL x (tb, lo) = true := by unfold geL; rw [hx]; rfl
      have hlo : (x.1.toList == tb.toList) = true → klB x.2 lo = false := fun e => by
        cases h3 : klB x.2 lo with
        | false => rfl
        | true =>
          rw [toList_beq8] at e
          have : lessB x (tb, lo) = true := (lessB_is _ _).2 (.inr ⟨by simpa using e, h3⟩)
          rw [hx] at this; cases this
      unfold wroteB
      rw [List.any_cons]
      have hrest : ∀ y ∈ xs, ((y.1.toList == tb.toList) && withinB y.2 lo hi) = true → ((x.1.toList == tb.toList) && ((hi.toList == []) || klB x.2 hi)) = true ∨ (x.1.toList == tb.toList) = false := fun y hy e => by
        cases h4 : (x.1.toList == tb.toList) with
        | false => exact .inr rfl
        | true =>
          refine .inl ?_
          rw [Bool.and_eq_true] at e
          obtain ⟨e1, e2⟩ := e
          unfold withinB at e2
          rw [Bool.and_eq_true, Bool.or_eq_true] at e2
          rw [Bool.true_and, Bool.or_eq_true]
          rcases e2.2 with e3 | e3
          · exact .inl e3
          · refine .inr ?_
            rcases (lessB_is _ _).1 (h1 y hy) with h5 | ⟨h5, h6⟩
            · rw [toList_beq8] at h4 e1
              have a1 : x.1 = tb := by simpa using h4
              have a2 : y.1 = tb := by simpa using e1
              rw [a1, a2, klB_irrefl] at h5; cases h5
            · exact klB_trans h6 e3
      cases h4 : (x.1.toList == tb.toList) with
      | false =>
        rw [Bool.false_and, Bool.false_or, Bool.false_and]
        rw [List.any_eq_false]
        intro y hy e
        rw [Bool.and_eq_true] at e
        have e1 : y.1 = tb := by have := e.1; rw [toList_beq8] at this; simpa using this
        have hk : klB x.1 tb = false := by
          cases h5 : klB x.1 tb with
          | false => rfl
          | true =>
            have : lessB x (tb, lo) = true := (lessB_is _ _).2 (.inl h5)
            rw [hx] at this; cases this
        rcases (lessB_is _ _).1 (h1 y hy) with h5 | ⟨h5, h6⟩
        · rw [e1, hk] at h5; cases h5
        · rw [toList_beq8] at h4
          rw [h5, e1] at h4; simp at h4
      | true =>
        have hl := hlo h4
        have hwi : withinB x.2 lo hi = ((hi.toList == []) || klB x.2 hi) := by unfold withinB; rw [hl]; rfl
        rw [hwi, Bool.true_and]
        cases h5 : ((hi.toList == []) || klB x.2 hi) with
        | true => rfl
        | false =>
          rw [Bool.false_or, List.any_eq_false]
          intro y hy e
          rcases hrest y hy e with h6 | h6
          · rw [h4, h5] at h6; cases h6
          · rw [h4] at h6; cases h6

set_option maxHeartbeats 2000000 in
theorem wxAt {w : World} {bp bt bl : Nat} {A : Option Addr} {n d : Nat} {ls : List Lk} (hA : SB w A (2 * n) (cellsL ls)) (hn : ls.length = n) (hd : n ≤ d) (hm : d ≤ maxLen) {tb lo : ByteArray} (c0 : w.cell? ⟨bp, 0, none⟩ = some (.slice A n d)) (c1 : w.cell? ⟨bt, 0, none⟩ = some (.string tb)) (c2 : w.cell? ⟨bl, 0, none⟩ = some (.string lo)) {i : Nat} (hi : i < n) :
    Calls Tryz.prog 158 #[.int .i64 (i : Nat), .pointer (some ⟨bp, 0, none⟩), .pointer (some ⟨bt, 0, none⟩), .pointer (some ⟨bl, 0, none⟩)] w fun e w' => e = .returned (.bool (geAt ls (tb, lo) i)) ∧ ∃ q os', w' = grow (w.drewN q) os' := by
  obtain ⟨l, hl⟩ : ∃ l, ls[i]? = some l := ⟨_, List.getElem?_eq_getElem (by omega)⟩
  have hg : geAt ls (tb, lo) i = !(Op.bytesLess l.1.toList tb.toList || ((l.1.toList == tb.toList) && Op.bytesLess l.2.toList lo.toList)) := by
    unfold geAt
    rw [hl]
    rfl
  have hno : Op.bytesLess l.1.toList tb.toList = true → (l.1.toList == tb.toList) = true → False := fun h1 h2 => by
    rw [toList_beq8] at h2
    have h3 : l.1 = tb := by simpa using h2
    rw [h3] at h1
    have := klB_irrefl tb
    unfold klB at this
    rw [h1] at this; cases this
  obtain ⟨g, o, rfl, x0⟩ := hA.at_ (cellsL_at _ _ _ hl).1
  obtain ⟨g1, o1, e1, x1⟩ := hA.at_ (cellsL_at _ _ _ hl).2
  cases e1
  rw [Nat.mul_comm] at x0 x1
  rw [← Nat.add_assoc] at x1
  obtain ⟨W, hW⟩ : ∃ W, w.alloc (.cells #[.string l.1, .string l.2] 42) = W := ⟨_, rfl⟩
  have hB : Below w.heap.size w W := by rw [← hW]; exact (Below.refl _ _).alloc (Nat.le_refl _) _
  have n0 : W.heap[w.heap.size]? = some (.cells #[.string l.1, .string l.2] 42 (0, 0)) := by rw [← hW]; exact heap_alloc_new _ _
  have y0 : W.cell? ⟨w.heap.size, 0, none⟩ = some (.string l.1) := cell_of_row _ _ 0 _ _ _ n0
  have y1 : W.cell? ⟨w.heap.size, 1, none⟩ = some (.string l.2) := cell_of_row _ _ 1 _ _ _ n0
  have d1 := keep_below c1 hB
  have d2 := keep_below c2 hB
  have HE := Lib.hid (show ∃ q os', W = grow (w.drewN q) os' from ⟨0, #[.cells #[.string l.1, .string l.2] 42 (0, 0)], by rw [drewN_zero, grow_one, ← hW]⟩)
  have i1 : (i : Int) < (n : Int) := by omega
  have HW := Lib.hid hW
  clear hA hl hB n0 hn hi hW
  cases e1 : Op.bytesLess l.1.toList tb.toList <;> cases e2 : (l.1.toList == tb.toList) <;> cases e3 : Op.bytesLess l.2.toList lo.toList
  all_goals first | exact (hno e1 e2).elim | skip
  all_goals
    clear hno
    have HM := Lib.hid (show geAt ls (tb, lo) i = _ by rw [hg, e1, e2, e3])
    clear hg
    go_enter Tryz.func158, Tryz.ntmps158
    go_upto_region 2 with fail
    rw [HW.out]
    go_wp2
    go_ret
    exact ⟨by rw [HM.out] <;> rfl, HE.out⟩
set_option maxHeartbeats 8000000 in
theorem wxWrote {w : World} {A : Option Addr} {n d : Nat} {ls : List Lk} (hA : SB w A (2 * n) (cellsL ls)) (hn : ls.length = n) (hd : n ≤ d) (hm : d ≤ maxLen) (hle : n ≤ 4096) (hs : ls.Pairwise (lessB · · = true)) (u : Int) (tb lo hi : ByteArray) :
    Calls Tryz.prog 133 #[.agg #[.slice A n d, .int .i64 u], .string tb, .string lo, .string hi] w fun e w' => e = .returned (.bool (wroteB ls tb lo hi)) ∧ Below w.heap.size w w' := by
  obtain ⟨W1, hW1⟩ : ∃ W, w.alloc (.cells #[.slice A n d, .int .i64 u] 108) = W := ⟨_, rfl⟩
  have s1 : W1.heap.size = w.heap.size + 1 := by rw [← hW1]; simp
  have b1 : Below w.heap.size w W1 := by rw [← hW1]; exact (Below.refl _ _).alloc (Nat.le_refl _) _
  have q1 : W1.cell? ⟨w.heap.size, 0, none⟩ = some (.slice A n d) := by rw [← hW1]; exact cell_of_row _ _ 0 _ _ _ (heap_alloc_new _ _)
  obtain ⟨W2, hW2⟩ : ∃ W, W1.alloc (.cells #[.string tb] 9) = W := ⟨_, rfl⟩
  have s2 : W2.heap.size = w.heap.size + 1 + 1 := by rw [← hW2]; simp [s1]
  have b2 : Below W1.heap.size W1 W2 := by rw [← hW2]; exact (Below.refl _ _).alloc (Nat.le_refl _) _
  have q2 : W2.cell? ⟨w.heap.size + 1, 0, none⟩ = some (.string tb) := by rw [← hW2, ← s1]; exact cell_of_row _ _ 0 _ _ _ (heap_alloc_new _ _)
  obtain ⟨W3, hW3⟩ : ∃ W, W2.alloc (.cells #[.string lo] 9) = W := ⟨_, rfl⟩
  have b3 : Below W2.heap.size W2 W3 := by rw [← hW3]; exact (Below.refl _ _).alloc (Nat.le_refl _) _
  have q3 : W3.cell? ⟨w.heap.size + 1 + 1, 0, none⟩ = some (.string lo) := by rw [← hW3, ← s2]; exact cell_of_row _ _ 0 _ _ _ (heap_alloc_new _ _)
  have k1 : W3.cell? ⟨w.heap.size, 0, none⟩ = some (.slice A n d) := keep_below (keep_below q1 b2) b3
  have k2 : W3.cell? ⟨w.heap.size + 1, 0, none⟩ = some (.string tb) := keep_below q2 b3
  have B3 : Below w.heap.size w W3 := (b1.trans (b2.mono (by omega))).trans (b3.mono (by omega))
  have hA3 := hA.gw B3
  have eg : ∀ args w, (callFunc 158 args).run Tryz.prog w = .ok (.enter 158 args) w := enters_of Tryz.func158 (by kernel_rfl) rfl
  have hcon := Any.sort_Search Tryz.searchL 158 #[.pointer (some ⟨w.heap.size, 0, none⟩), .pointer (some ⟨w.heap.size + 1, 0, none⟩), .pointer (some ⟨w.heap.size + 1 + 1, 0, none⟩)] n (geAt ls (tb, lo)) W3 eg (by omega)
    (fun m os i hi => by
      have hb := below_grown_sl W3.heap.size W3 m os (Nat.le_refl _)
      exact wxAt (hA3.gw hb) hn hd hm (keep_below k1 hb) (keep_below k2 hb) (keep_below q3 hb) hi)
    (fun a b hab hb ha => geAt_mono hs (tb, lo) a b hab (by omega) ha)
  change Calls Tryz.prog 157 _ _ _ at hcon
  rw [← hn, geAt_range, hn] at hcon
  have hw := wrote_at hs tb lo hi
  have hik : ls.countP (fun l => lessB l (tb, lo)) ≤ n := by rw [← hn]; exact List.countP_le_length
  obtain ⟨i, hi0⟩ : ∃ i, ls.countP (fun l => lessB l (tb, lo)) = i := ⟨_, rfl⟩
  rw [hi0] at hcon hw hik
  have HC := Lib.hid hcon
  have HB := Lib.hid B3
  have HA := Lib.hid hA3
  have HW1 := Lib.hid hW1
  have HW2 := Lib.hid hW2
  have HW3 := Lib.hid hW3
  have HN := Lib.hid hn
  have i2 : (n : Int) ≤ 4096 := by omega
  have i3 : (i : Int) ≤ 4096 := by omega
  clear hcon hA hA3 hW1 hW2 hW3 b1 b2 b3 q1 q2 s1 s2 B3 eg hi0 hs
  go_enter Tryz.func133, Tryz.ntmps133
  go_upto_region 1 with fail
  rw [HW1.out, HW2.out, HW3.out]
  go_upto_region 2 with (go_at_call 157; go_loud (refine HC.out.mono ?_; rintro e w1 ⟨rfl, q, os, rfl⟩))
  obtain ⟨V, hV⟩ : ∃ V, grow (W3.drewN q) os = V := ⟨_, rfl⟩
  have bV : Below W3.heap.size W3 V := by rw [← hV]; exact below_grown_sl _ _ _ _ (Nat.le_refl _)
  have v1 := keep_below k1 bV
  have v2 := keep_below k2 bV
  have HA2 := Lib.hid (HA.out.gw bV)
  have BV := Lib.hid (below_next HB.out bV)
  rw [hV]
  clear hV bV k1 k2 q3
  rcases Nat.lt_or_ge i n with hlt | hge
  · obtain ⟨l, hl⟩ : ∃ l, ls[i]? = some l := ⟨_, List.getElem?_eq_getElem (by have := HN.out; omega)⟩
    rw [hl] at hw
    obtain ⟨g, o, rfl, x0⟩ := HA2.out.at_ (cellsL_at _ _ _ hl).1
    obtain ⟨g1, o1, e1, x1⟩ := HA2.out.at_ (cellsL_at _ _ _ hl).2
    cases e1
    rw [Nat.mul_comm] at x0 x1
    rw [← Nat.add_assoc] at x1
    have i1 : (i : Int) < (n : Int) := by omega
    have hw2 : wroteB ls tb lo hi = ((l.1.toList == tb.toList) && ((hi.toList == []) || Op.bytesLess l.2.toList hi.toList)) := hw
    clear hw hl hlt hik
    cases e1 : (l.1.toList == tb.toList) <;> cases e2 : (hi.toList == []) <;> cases e3 : Op.bytesLess l.2.toList hi.toList
    all_goals
      have HM := Lib.hid (show wroteB ls tb lo hi = _ by rw [hw2, e1, e2, e3])
      clear hw2
      go_quiet (fail)
      go_wp2
      go_ret
      exact ⟨by rw [HM.out] <;> rfl, below_next BV.out (below_drewN8 _ _)⟩
  · rw [List.getElem?_eq_none (by have := HN.out; omega)] at hw
    have i1 : ¬ (i : Int) < (n : Int) := by omega
    have HM := Lib.hid (show wroteB ls tb lo hi = false from hw)
    clear hw hge hik
    go_quiet (fail)
    go_wp2
    go_ret
    exact ⟨by rw [HM.out] <;> rfl, below_next BV.out (below_drewN8 _ _)⟩
end Go.Proofs.YtknppiebncdjmaaGreat

namespace Go.Proofs
set_option maxRecDepth 100000
open Go.Shelf
def Tryz.compactN_ren : Go.Shelf.Ren := ⟨fun | 43 => 135 | n => n, fun | 22 => 75 | 23 => 2 | 3 => 3 | 4 => 4 | 0 => 0 | n => n, fun | n => n⟩
theorem Tryz.compactN : Go.Proofs.SlLaysN.n43 Tryz.prog Tryz.compactN_ren := {
  mixed := by kernel_rfl
  f43 := ⟨Tryz.f135.name, by decide, Tryz.func135.trans (congrArg some (by kernel_rfl))⟩
  t0 := Tryz.underlying0
  a0 := Tryz.isAgg0
  z0 := Tryz.sizeOf0
  v0 := Tryz.zeroValue0
  t3 := Tryz.underlying3
  a3 := Tryz.isAgg3
  z3 := Tryz.sizeOf3
  v3 := Tryz.zeroValue3
  t4 := Tryz.underlying4
  a4 := Tryz.isAgg4
  z4 := Tryz.sizeOf4
  v4 := Tryz.zeroValue4
  t22 := Tryz.underlying75
  a22 := Tryz.isAgg75
  z22 := Tryz.sizeOf75
  v22 := Tryz.zeroValue75
  t23 := Tryz.underlying2
  a23 := Tryz.isAgg2
  z23 := Tryz.sizeOf2
  v23 := Tryz.zeroValue2
  i23 := by kernel_rfl }
def Tryz.sortL_ren : Go.Shelf.Ren := ⟨fun | 6 => 124 | 15 => 137 | 14 => 156 | 28 => 168 | 29 => 169 | 20 => 192 | 21 => 193 | 22 => 194 | 23 => 195 | 24 => 196 | 25 => 197 | 26 => 198 | 27 => 199 | 46 => 213 | 47 => 201 | 48 => 202 | 49 => 214 | 50 => 215 | 57 => 219 | n => n, fun | 22 => 59 | 24 => 42 | 25 => 195 | 3 => 3 | 39 => 206 | 0 => 0 | 53 => 237 | 55 => 239 | 4 => 4 | 46 => 230 | 45 => 229 | 50 => 234 | 5 => 5 | 9 => 9 | 66 => 259 | 70 => 263 | 76 => 273 | 77 => 180 | n => n, fun | n => n⟩
theorem Tryz.sortL : Go.Proofs.SlLaysF0.n6 Tryz.prog Tryz.sortL_ren := {
  mixed := by kernel_rfl
  f6 := ⟨Tryz.f124.name, by decide, Tryz.func124.trans (congrArg some (by kernel_rfl))⟩
  f14 := ⟨Tryz.f156.name, by decide, Tryz.func156.trans (congrArg some (by kernel_rfl))⟩
  f15 := Tryz.func137.trans (congrArg some (by kernel_rfl))
  f20 := ⟨Tryz.f192.name, by decide, Tryz.func192.trans (congrArg some (by kernel_rfl))⟩
  f21 := ⟨Tryz.f193.name, by decide, Tryz.func193.trans (congrArg some (by kernel_rfl))⟩
  f22 := ⟨Tryz.f194.name, by decide, Tryz.func194.trans (congrArg some (by kernel_rfl))⟩
  f23 := ⟨Tryz.f195.name, by decide, Tryz.func195.trans (congrArg some (by kernel_rfl))⟩
  f24 := ⟨Tryz.f196.name, by decide, Tryz.func196.trans (congrArg some (by kernel_rfl))⟩
  f25 := ⟨Tryz.f197.name, by decide, Tryz.func197.trans (congrArg some (by kernel_rfl))⟩
  f26 := ⟨Tryz.f198.name, by decide, Tryz.func198.trans (congrArg some (by kernel_rfl))⟩
  f27 := ⟨Tryz.f199.name, by decide, Tryz.func199.trans (congrArg some (by kernel_rfl))⟩
  f28 := Tryz.func168.trans (congrArg some (by kernel_rfl))
  f29 := Tryz.func169.trans (congrArg some (by kernel_rfl))
  f46 := ⟨Tryz.f213.name, by decide, Tryz.func213.trans (congrArg some (by kernel_rfl))⟩
  f47 := Tryz.func201.trans (congrArg some (by kernel_rfl))
  f48 := Tryz.func202.trans (congrArg some (by kernel_rfl))
  f49 := ⟨Tryz.f214.name, by decide, Tryz.func214.trans (congrArg some (by kernel_rfl))⟩
  f50 := ⟨Tryz.f215.name, by decide, Tryz.func215.trans (congrArg some (by kernel_rfl))⟩
  f57 := ⟨Tryz.f219.name, by decide, Tryz.func219.trans (congrArg some (by kernel_rfl))⟩
  t0 := Tryz.underlying0
  a0 := Tryz.isAgg0
  z0 := Tryz.sizeOf0
  v0 := Tryz.zeroValue0
  t3 := Tryz.underlying3
  a3 := Tryz.isAgg3
  z3 := Tryz.sizeOf3
  v3 := Tryz.zeroValue3
  t4 := Tryz.underlying4
  a4 := Tryz.isAgg4
  z4 := Tryz.sizeOf4
  v4 := Tryz.zeroValue4
  t5 := Tryz.underlying5
  a5 := Tryz.isAgg5
  z5 := Tryz.sizeOf5
  v5 := Tryz.zeroValue5
  t9 := Tryz.underlying9
  a9 := Tryz.isAgg9
  z9 := Tryz.sizeOf9
  v9 := Tryz.zeroValue9
  t22 := Tryz.underlying59
  a22 := Tryz.isAgg59
  z22 := Tryz.sizeOf59
  v22 := Tryz.zeroValue59
  t25 := Tryz.underlying195
  a25 := Tryz.isAgg195
  z25 := Tryz.sizeOf195
  v25 := Tryz.zeroValue195
  t39 := Tryz.underlying206
  a39 := Tryz.isAgg206
  z39 := Tryz.sizeOf206
  v39 := Tryz.zeroValue206
  t45 := Tryz.underlying229
  a45 := Tryz.isAgg229
  z45 := Tryz.sizeOf229
  v45 := Tryz.zeroValue229
  t46 := Tryz.underlying230
  a46 := Tryz.isAgg230
  z46 := Tryz.sizeOf230
  v46 := Tryz.zeroValue230
  t50 := Tryz.underlying234
  a50 := Tryz.isAgg234
  z50 := Tryz.sizeOf234
  v50 := Tryz.zeroValue234
  t53 := Tryz.underlying237
  a53 := Tryz.isAgg237
  z53 := Tryz.sizeOf237
  v53 := Tryz.zeroValue237
  t55 := Tryz.underlying239
  a55 := Tryz.isAgg239
  z55 := Tryz.sizeOf239
  v55 := Tryz.zeroValue239
  t66 := Tryz.underlying259
  a66 := Tryz.isAgg259
  z66 := Tryz.sizeOf259
  v66 := Tryz.zeroValue259
  t70 := Tryz.underlying263
  a70 := Tryz.isAgg263
  z70 := Tryz.sizeOf263
  v70 := Tryz.zeroValue263
  t76 := Tryz.underlying273
  a76 := Tryz.isAgg273
  z76 := Tryz.sizeOf273
  v76 := Tryz.zeroValue273
  t77 := Tryz.underlying180
  a77 := Tryz.isAgg180
  z77 := Tryz.sizeOf180
  v77 := Tryz.zeroValue180 }
end Go.Proofs

namespace Go.Proofs.YtknppiebncdjmaaGreat
set_option maxRecDepth 100000
open Go.RowKit Go.Maps Go.ChangeMaps Go.MapKept

theorem Once.eq {hs : List Hd} (h : Once hs) {x y : Hd} (hx : x ∈ hs) (hy : y ∈ hs) (e : x.1 = y.1) : x = y := by
  have h1 := (holder_some h (l := x.1) (tx := x.2)).2 hx
  have h2 := (holder_some h (l := x.1) (tx := y.2)).2 (by rw [e]; exact hy)
  rw [h1] at h2
  exact Prod.ext e (Option.some.inj h2)
theorem Once.nodup {hs : List Hd} (h : Once hs) : hs.Nodup := (List.pairwise_map.1 h).imp fun hne e => hne (by rw [e])
theorem no_map0 {w : World} {p : Addr} {v : Value} (h : w.cell? p = some v) {es : Array MapEntry} {c : Nat} : w.heap[p.block]? ≠ some (.map es c) := by
  intro e
  unfold World.cell? at h
  rw [e] at h
  simp at h
structure RelI (hs : List Hd) (tx : Int) (cur left : List Hd) : Prop where
  oc : Once cur
  ol : Once left
  mem : ∀ x, x ∈ cur ↔ x ∈ hs ∧ (x.2 ≠ tx ∨ x ∈ left)
  sub : ∀ x ∈ left, x ∈ cur
theorem RelI.start {hs : List Hd} (h : Once hs) (tx : Int) : RelI hs tx hs hs := ⟨h, h, fun x => ⟨fun hx => ⟨hx, .inr hx⟩, fun hx => hx.1⟩, fun _ h => h⟩
theorem RelI.skip {hs cur left : List Hd} {tx t : Int} {l : Lk} (h : RelI hs tx cur left) (hl : (l, t) ∈ left) (ht : t ≠ tx) : RelI hs tx cur (left.filter fun h => !decide (h.1 = l)) := by
  refine ⟨h.oc, List.Nodup.sublist (List.Sublist.map _ List.filter_sublist) h.ol, fun x => ?_, fun x hx => h.sub x (List.mem_filter.1 hx).1⟩
  rw [h.mem]
  refine and_congr_right fun _ => ⟨fun hx => ?_, fun hx => ?_⟩
  · by_cases e : x.2 = tx
    · rcases hx with hx | hx
      · exact .inl hx
      · refine .inr (List.mem_filter.2 ⟨hx, ?_⟩)
        by_cases e2 : x.1 = l
        · have := h.ol.eq hx hl e2
          rw [this] at e
          exact absurd e ht
        · simpa using e2
    · exact .inl e
  · exact hx.imp id fun hx => (List.mem_filter.1 hx).1
theorem RelI.drop {hs cur left : List Hd} {tx : Int} {l : Lk} (ho : Once hs) (h : RelI hs tx cur left) (hl : (l, tx) ∈ left) : RelI hs tx (cur.filter fun h => !decide (h.1 = l)) (left.filter fun h => !decide (h.1 = l)) := by
  refine ⟨List.Nodup.sublist (List.Sublist.map _ List.filter_sublist) h.oc, List.Nodup.sublist (List.Sublist.map _ List.filter_sublist) h.ol, fun x => ?_, fun x hx => ?_⟩
  · rw [List.mem_filter, h.mem]
    have hlh : (l, tx) ∈ hs := ((h.mem _).1 (h.sub _ hl)).1
    constructor
    · rintro ⟨⟨h1, h2⟩, h3⟩
      exact ⟨h1, h2.imp id fun h2 => List.mem_filter.2 ⟨h2, h3⟩⟩
    · rintro ⟨h1, h2 | h2⟩
      · refine ⟨⟨h1, .inl h2⟩, ?_⟩
        by_cases e : x.1 = l
        · have := ho.eq h1 hlh e
          rw [this] at h2
          exact absurd rfl h2
        · simpa using e
      · obtain ⟨h3, h4⟩ := List.mem_filter.1 h2
        exact ⟨⟨h1, .inr h3⟩, h4⟩
  · obtain ⟨h1, h2⟩ := List.mem_filter.1 hx
    exact List.mem_filter.2 ⟨h.sub x h1, h2⟩
theorem RelI.ends {hs cur : List Hd} {tx : Int} (ho : Once hs) (h : RelI hs tx cur []) : (∀ x, x ∈ releaseP hs tx ↔ x ∈ cur) ∧ (releaseP hs tx).length = cur.length := by
  have hm : ∀ x, x ∈ releaseP hs tx ↔ x ∈ cur := fun x => by
    rw [h.mem]
    unfold releaseP
    rw [List.mem_filter]
    simp
  refine ⟨hm, ?_⟩
  have n1 : (releaseP hs tx).Nodup := (ho.release tx).nodup
  have n2 : cur.Nodup := h.oc.nodup
  exact ((List.perm_ext_iff_of_nodup n1 n2).2 hm).length_eq

theorem MapAt.perm {w : World} {r : Nat} {hs hs2 : List Hd} (h : MapAt w r hs) (h2 : Once hs2) (hm : ∀ x, x ∈ hs2 ↔ x ∈ hs) (hl : hs2.length = hs.length) : MapAt w r hs2 := by
  obtain ⟨D, h1, hv⟩ := h
  exact ⟨D, by rw [hl]; exact h1, hv.perm h2 hm hl⟩
theorem MapAt.once {w : World} {r : Nat} {hs : List Hd} (h : MapAt w r hs) : Once hs := by
  obtain ⟨D, -, hv⟩ := h
  exact hv.once

theorem RangeAt.no {w : World} {r it : Nat} {hs left : List Hd} (h : RangeAt w r it hs left) {k : Nat} {cs : Array Value} {t : TypeId} {fr : Nat × Nat} (hk : w.heap[k]? = some (.cells cs t fr)) : it ≠ k := by
  rintro rfl
  obtain ⟨D, f, cnt, ⟨es, clock, since, seen, c0, -, -, -, -, h1, -⟩, -⟩ := h
  rw [hk] at h1; cases h1
theorem RangeAt.itlt {w : World} {r it : Nat} {hs left : List Hd} (h : RangeAt w r it hs left) : it < w.heap.size := by
  obtain ⟨D, f, cnt, h1, -⟩ := h
  exact h1.lt
theorem RangeAt.over {w w' : World} {r it B : Nat} {hs left : List Hd} (h : RangeAt w r it hs left) (hb : Below B w w') (h1 : r < B) (h2 : it < B) : RangeAt w' r it hs left ∧ w'.rangeLeft r it = w.rangeLeft r it := by
  refine ⟨?_, by unfold World.rangeLeft; rw [hb.block r h1, hb.block it h2]⟩
  obtain ⟨D, f, cnt, ⟨es, clock, since, seen, c0, e1, e2, e3, e4, e5, e6⟩, h4⟩ := h
  exact ⟨D, f, cnt, ⟨es, clock, since, seen, c0, (hb.block r h1).trans e1, e2, e3, e4, (hb.block it h2).trans e5, e6⟩, h4⟩

set_option maxHeartbeats 2000000 in
theorem wkDelFn {w : World} {x : Nat} {tx : Int} (c : w.cell? ⟨x, 0, none⟩ = some (.int .i64 tx)) (k1 k2 : ByteArray) (t : Int) :
    Calls Tryz.prog 128 #[.agg #[.string k1, .string k2], .int .i64 t, .pointer (some ⟨x, 0, none⟩)] w fun e w' => e = .returned (.bool (decide (t = tx))) ∧ Below w.heap.size w w' := by
  obtain ⟨W, hW⟩ : ∃ W, w.alloc (.cells #[.string k1, .string k2] 42) = W := ⟨_, rfl⟩
  have HW := Lib.hid hW
  have hB : Below w.heap.size w W := by rw [← hW]; exact (Below.refl _ _).alloc (Nat.le_refl _) _
  have HB := Lib.hid hB
  have c2 : W.cell? ⟨x, 0, none⟩ = some (.int .i64 tx) := keep_below c hB
  clear c hW hB
  go_enter Tryz.func128, Tryz.ntmps128
  go_upto_region 1 with fail
  rw [HW.out]
  go_wp2
  go_ret
  exact ⟨by by_cases e : t = tx <;> simp [e], HB.out⟩

set_option maxHeartbeats 8000000 in
theorem wkDelete {w : World} {r x : Nat} {hs : List Hd} (h : MapAt w r hs) {tx : Int} (c : w.cell? ⟨x, 0, none⟩ = some (.int .i64 tx)) :
    Calls Tryz.prog 127 #[.map (some r), .func (.func 128) #[] #[.pointer (some ⟨x, 0, none⟩)]] w fun e w' => e = .returned (.tuple #[]) ∧ MapAt w' r (releaseP hs tx) ∧ Out (fun k => k = r) w w' := by
  have hxr : ¬ x = r := fun e => by
    obtain ⟨D, ⟨es, cl, hr, -⟩, -⟩ := h
    exact no_map0 c (by rw [e]; exact hr)
  have HXR := Lib.hid hxr
  have HC := Lib.hid c
  have HM := Lib.hid h
  have HLT := Lib.hid h.lt
  clear h c hxr
  go_enter Tryz.func127, Tryz.ntmps127
  go_wp2_with (at_range; go_loud (refine map_range (by rfl) (.tmp 6) (by rfl) (by rfl) HM.out ?_; intro w2 r2 g2; have R2 := Lib.hid r2; have G2 := Lib.hid g2; clear r2 g2))
  try go_frame
  go_loopw [8] (fun _ wr => ∃ (cur left : List Hd), RelI hs tx cur left ∧ RangeAt wr r w.heap.size cur left ∧ Out (fun k => k = r) w wr) (fun _ wr => wr.rangeLeft r w.heap.size)
  case atStart =>
    exact ⟨hs, hs, RelI.start HM.out.once tx, R2.out, (Out.refl _ w).grown G2.out (fun k e => by cases e)⟩
  case round =>
    rename World => wr
    obtain ⟨cur, left, hI, hR, hO⟩ := hrel
    have HI := Lib.hid hI
    have HR := Lib.hid hR
    have HO := Lib.hid hO
    clear hI hR hO
    go_wp2_with (at_next; go_loud (refine map_next (by rfl) (.tmp 7) (by rfl) w.heap.size left (by rfl) HR.out ?_ ?_))
    · intro hnil
      subst hnil
      obtain ⟨e1, e2⟩ := HI.out.ends HM.out.once
      have E1 := Lib.hid e1
      have E2 := Lib.hid e2
      clear e1 e2
      go_wp2
      go_end0
      exact ⟨rfl, HR.out.map.perm (HM.out.once.release tx) E1.out E2.out, HO.out⟩
    · intro k1 k2 t wn hin hsz hwf hr2 hg2 hlt hen
      obtain ⟨X, hX⟩ : ∃ X, wn.alloc (.cells #[.string k1, .string k2] 42) = X := ⟨_, rfl⟩
      have BX : Below wn.heap.size wn X := by rw [← hX]; exact (Below.refl _ _).alloc (Nat.le_refl _) _
      have n0 : X.heap[wn.heap.size]? = some (.cells #[.string k1, .string k2] 42 (0, 0)) := by rw [← hX]; exact heap_alloc_new _ _
      have x1 : X.cell? ⟨wn.heap.size, 0, none⟩ = some (.string k1) := cell_of_row _ _ 0 _ _ _ n0
      have x2 : X.cell? ⟨wn.heap.size, 1, none⟩ = some (.string k2) := cell_of_row _ _ 1 _ _ _ n0
      have hrx : RangeAt X r w.heap.size cur (left.filter fun h => !decide (h.1 = (k1, k2))) := by rw [← hX]; exact hr2.kept (World.grownBy_alloc _ _ none) (by simp) (by simp)
      have RX := Lib.hid hrx
      have LX := Lib.hid (show X.rangeLeft r w.heap.size < wr.rangeLeft r w.heap.size by
        have e : X.rangeLeft r w.heap.size = wn.rangeLeft r w.heap.size := by
          obtain ⟨D, f, cnt, h1, -⟩ := hr2
          have h2 : X.ranges Tryz.prog 42 (plainElem Tryz.prog 2) r w.heap.size cur.length D f cnt := by rw [← hX]; exact h1.alloc _
          rw [h1.left_eq, h2.left_eq]
        rw [e]; exact hlt)
      have OX := Lib.hid (show Out (fun k => k = r) w X from ((HO.out.grown hg2 (fun k e => .inr (by rw [← Option.some.inj e]; exact Nat.le_refl _))).then (Out.of_below BX _)))
      have HIN := Lib.hid hin
      have HSZ := Lib.hid hsz
      have HX := Lib.hid hX
      have CD := Lib.hid (wkDelFn (OX.out.cell HC.out HXR.out) k1 k2 t)
      clear hin hsz hwf hr2 hg2 hlt BX n0 hrx
      go_upto_region 3 with fail
      clear hen hX
      by_cases ht : t = tx
      · subst ht
        have CD2 := Lib.hid (show Calls Tryz.prog 128 #[.agg #[.string k1, .string k2], .int .i64 t, .pointer (some ⟨x, 0, none⟩)] X fun e w' => e = .returned (.bool true) ∧ Below X.heap.size X w' from CD.out.mono fun e w' h => by simpa using h)
        go_wp2_with (first
          | (go_at_call 128; go_loud (refine CD2.out.mono ?_; rintro e w3 ⟨rfl, b3⟩; have B3 := Lib.hid b3; have R3 := Lib.hid (RX.out.over b3 RX.out.map.lt RX.out.itlt); have z1 : w3.cell? ⟨wn.heap.size, 0, none⟩ = some (.string k1) := keep_below x1 b3; have z2 : w3.cell? ⟨wn.heap.size, 1, none⟩ = some (.string k2) := keep_below x2 b3; clear b3))
          | (at_delete; go_loud (refine map_rdel (hs := cur) (by rfl) (.tmp 17) (.tmp 18) (by rfl) (by rfl) w.heap.size _ R3.out.1 (k1, k2) HSZ.out (by rfl) t (HI.out.sub _ HIN.out) (fun h hh => by simpa using (List.mem_filter.1 hh).2) ?_; intro w5 r5 g5 l5; have R5 := Lib.hid r5; have G5 := Lib.hid g5; have L5 := Lib.hid l5; clear r5 g5 l5; go_frame)))
        go_roundw
        case rel => exact ⟨_, _, HI.out.drop HM.out.once HIN.out, R5.out, (OX.out.then (Out.of_below B3.out _)).grown G5.out (fun k e => .inl (Option.some.inj e).symm)⟩
        case measure =>
          have h1 := L5.out
          have h2 := LX.out
          rw [R3.out.2] at h1
          exact Nat.lt_of_le_of_lt h1 h2
      · have HT := Lib.hid ht
        have CD2 := Lib.hid (show Calls Tryz.prog 128 #[.agg #[.string k1, .string k2], .int .i64 t, .pointer (some ⟨x, 0, none⟩)] X fun e w' => e = .returned (.bool false) ∧ Below X.heap.size X w' from CD.out.mono fun e w' h => by simpa [ht] using h)
        clear ht
        go_wp2_with (go_at_call 128; go_loud (refine CD2.out.mono ?_; rintro e w3 ⟨rfl, b3⟩; have B3 := Lib.hid b3; have R3 := Lib.hid (RX.out.over b3 RX.out.map.lt RX.out.itlt); clear b3))
        go_roundw
        case rel => exact ⟨_, _, HI.out.skip HIN.out HT.out, R3.out.1, OX.out.then (Out.of_below B3.out _)⟩
        case measure => rw [R3.out.2]; exact LX.out

set_option maxHeartbeats 4000000 in
theorem wkRelease {w : World} {b r : Nat} {most : Int} {hs : List Hd} (h : MG w b r most hs) (tx : Int) :
    Calls Tryz.prog 80 #[.pointer (some ⟨b, 0, none⟩), .int .i64 tx] w fun e w' => e = .returned (.int .i64 ((hs.length : Int) - ((releaseP hs tx).length : Int))) ∧ MG w' b r most (releaseP hs tx) ∧ Out (fun k => k = r) w w' := by
  have hbr : b ≠ r := h.map.no h.blk
  obtain ⟨W, hW⟩ : ∃ W, w.alloc (.cells #[.int .i64 tx] 2) = W := ⟨_, rfl⟩
  have HW := Lib.hid hW
  have hB : Below w.heap.size w W := by rw [← hW]; exact (Below.refl _ _).alloc (Nat.le_refl _) _
  have HB := Lib.hid hB
  have q0 : W.cell? ⟨w.heap.size, 0, none⟩ = some (.int .i64 tx) := by rw [← hW]; exact cell_of_row _ _ 0 _ _ _ (heap_alloc_new _ _)
  have h2 := h.below hB
  have CL := Lib.hid (wkLen h2)
  have CA := Lib.hid (wkAll h2)
  have CD := Lib.hid (wkDelete h2.map q0)
  have HM := Lib.hid h2
  have HBR := Lib.hid hbr
  obtain ⟨n1, hn1⟩ : ∃ n : Int, ((hs.length : Nat) : Int) = n := ⟨_, rfl⟩
  obtain ⟨n2, hn2⟩ : ∃ n : Int, (((releaseP hs tx).length : Nat) : Int) = n := ⟨_, rfl⟩
  have b1 : 0 ≤ n1 ∧ n1 ≤ 4096 := by have := h.len; have := h.m2; omega
  have b2 : 0 ≤ n2 ∧ n2 ≤ 4096 := by have := release_len tx h.len; have := h.m2; omega
  obtain ⟨b11, b12⟩ := b1
  obtain ⟨b21, b22⟩ := b2
  have CL2 := Lib.hid (fun w2 (M : MG w2 b r most (releaseP hs tx)) => wkLen M)
  rw [hn1] at CL
  rw [hn2] at CL2
  rw [hn1, hn2]
  have HLR := Lib.hid (show ((releaseP hs tx).length : Int) ≤ most from release_len tx h.len)
  clear h hW hB q0 h2 hbr hn1 hn2
  go_enter Tryz.func80, Tryz.ntmps80
  go_upto_region 1 with fail
  rw [HW.out]
  go_upto_region 2 with (go_at_call 72; go_loud (refine CL.out.mono ?_; rintro e w1 ⟨rfl, hw⟩; replace hw := hw.symm; subst hw))
  clear CL
  go_wp2_with (first
    | (go_at_call 121; go_loud (refine CA.out.mono ?_; rintro e w1 ⟨rfl, hw⟩; replace hw := hw.symm; subst hw))
    | (go_at_call 127; go_loud (refine CD.out.mono ?_; rintro e w3 ⟨rfl, m3, o3⟩; have O3 := Lib.hid o3; have M3 := Lib.hid (show MG w3 b r most (releaseP hs tx) from ⟨(o3.block b (Array.getElem?_eq_some_iff.1 HM.out.blk).1 HBR.out).trans HM.out.blk, m3, HM.out.m1, HM.out.m2, HLR.out⟩); clear m3 o3))
    | (go_at_call 72; go_loud (refine (CL2.out _ M3.out).mono ?_; rintro e w1 ⟨rfl, hw⟩; replace hw := hw.symm; subst hw)))
  go_ret
  exact ⟨by first | rfl | simp, M3.out, (Out.of_below HB.out _).then O3.out⟩
end Go.Proofs.YtknppiebncdjmaaGreat

namespace Go.Proofs.YtknppiebncdjmaaGreat
set_option maxRecDepth 100000
open Go.RowKit

end Go.Proofs.YtknppiebncdjmaaGreat

namespace Go.Proofs.YtknppiebncdjmaaGreat
set_option maxRecDepth 100000
open Go.Joins Go.Deep Go.ChangeShapes Go.WideShapes Go.ChangeAt Go.RowKit

structure OpK where
  kind : Int
  tx : Int
  snap : Int
  last : Int
  at_ : Lk
  hi : ByteArray
def OpK.cells (o : OpK) : List Value := [.int .i64 o.kind, .int .i64 o.tx, .int .i64 o.snap, .int .i64 o.last, .string o.at_.1, .string o.at_.2, .string o.hi]
section
variable {H : Type} {enc : TypeId × Value → H} {P : Program} {w : World} {held : Bool}
end
instance : Inhabited OpK := ⟨⟨0, 0, 0, 0, (⟨#[]⟩, ⟨#[]⟩), ⟨#[]⟩⟩⟩
end Go.Proofs.YtknppiebncdjmaaGreat

namespace Go.Proofs.YtknppiebncdjmaaGreat
set_option maxRecDepth 100000
open Go.RowKit Go.Maps Go.ChangeMaps Go.MapKept

end Go.Proofs.YtknppiebncdjmaaGreat
