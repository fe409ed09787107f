import Derived.Test.YtknppiebncdjmaaGreatJAU
import Derived.Test.YtknppiebncdjmaaGreatJAE
import Derived.Test.YtknppiebncdjmaaGreatJAH
import Derived.Test.YtknppiebncdjmaaGreatJAQ
import Derived.Test.YtknppiebncdjmaaGreatJAP
import Derived.Test.YtknppiebncdjmaaGreatJAD
set_option linter.unusedVariables false
namespace Go.Proofs.YtknppiebncdjmaaGreat
set_option maxRecDepth 100000
open Go.RowKit

def cmpPr (a b : Int × ByteArray) : Int := orP [cmpI a.1 b.1, cmpS a.2 b.2]
theorem cmpPr_lt (a b : Int × ByteArray) : decide (cmpPr a b < 0) = pairLt a b := by
  unfold cmpPr orP pairLt
  by_cases h : a.1 = b.1
  · have h0 := (cmpI_zero a.1 b.1).2 h
    rw [List.find?_cons_of_neg (by simpa using h0)]
    by_cases h2 : a.2 = b.2
    · have h3 := (cmpS_zero a.2 b.2).2 h2
      rw [List.find?_cons_of_neg (by simpa using h3)]
      rw [h2, klB_irrefl]
      simp [h]
    · have h3 : ¬ cmpS a.2 b.2 = 0 := fun e => h2 ((cmpS_zero _ _).1 e)
      rw [List.find?_cons_of_pos (by simpa using h3)]
      simp only [Option.getD_some]
      rw [cmpS_lt]
      simp [h]
  · have h0 : ¬ cmpI a.1 b.1 = 0 := fun e => h ((cmpI_zero _ _).1 e)
    rw [List.find?_cons_of_pos (by simpa using h0)]
    simp only [Option.getD_some]
    rw [cmpI_lt]
    simp [h]
theorem row_at {w : World} {g : Nat} {vs : Array Value} {e : TypeId} {xs : List Int} (h : w.heap[g]? = some (.cells vs e (0, 0))) (hv : vs.toList = numV xs) : ∀ j x, xs[j]? = some x → w.cell? ⟨g, j, none⟩ = some (.int .i64 x) := fun j x hx => by
  have := cell_of_row w g j _ _ _ h
  rw [this]
  have h2 : vs.toList[j]? = some (.int .i64 x) := by rw [hv]; simp [numV, hx]
  rw [Array.getElem?_toList] at h2
  exact h2
set_option maxHeartbeats 8000000 in
theorem wpComparePairs (a b : Int × ByteArray) (w : World) : Calls Tryz.prog 144 #[.agg #[.int .i64 a.1, .string a.2], .agg #[.int .i64 b.1, .string b.2]] w fun e w' => e = .returned (.int .i64 (cmpPr a b)) ∧ Gs w w' := by
  obtain ⟨W1, hW1⟩ : ∃ W, w.alloc (.cells #[.int .i64 a.1, .string a.2] 171) = W := ⟨_, rfl⟩
  obtain ⟨W2, hW2⟩ : ∃ W, W1.alloc (.cells #[.int .i64 b.1, .string b.2] 171) = W := ⟨_, rfl⟩
  have g1 : Gs w W1 := by rw [← hW1]; exact (Gs.refl w).alloc _
  have GG := Lib.hid (show Gs w W2 by rw [← hW2]; exact g1.alloc _)
  have q0 : W2.heap[w.heap.size]? = some (.cells #[.int .i64 a.1, .string a.2] 171 (0, 0)) := by
    rw [← hW2, Below.heap_alloc _ _ _ (by rw [← hW1]; simp), ← hW1]; exact heap_alloc_new _ _
  have q1 : W2.heap[w.heap.size + 1]? = some (.cells #[.int .i64 b.1, .string b.2] 171 (0, 0)) := by
    rw [show w.heap.size + 1 = W1.heap.size by rw [← hW1]; simp, ← hW2]; exact heap_alloc_new _ _
  have S0 : W2.cell? ⟨w.heap.size, 0, none⟩ = some (.int .i64 a.1) ∧ W2.cell? ⟨w.heap.size, 1, none⟩ = some (.string a.2) ∧ W2.cell? ⟨w.heap.size + 1, 0, none⟩ = some (.int .i64 b.1) ∧ W2.cell? ⟨w.heap.size + 1, 1, none⟩ = some (.string b.2) :=
    ⟨cell_of_row _ _ 0 _ _ _ q0, cell_of_row _ _ 1 _ _ _ q0, cell_of_row _ _ 0 _ _ _ q1, cell_of_row _ _ 1 _ _ _ q1⟩
  have S1 : ∀ o, (W2.alloc o).cell? ⟨w.heap.size, 0, none⟩ = some (.int .i64 a.1) ∧ (W2.alloc o).cell? ⟨w.heap.size, 1, none⟩ = some (.string a.2) ∧ (W2.alloc o).cell? ⟨w.heap.size + 1, 0, none⟩ = some (.int .i64 b.1) ∧ (W2.alloc o).cell? ⟨w.heap.size + 1, 1, none⟩ = some (.string b.2) := fun o => by
    have hb : Below W2.heap.size W2 (W2.alloc o) := (Below.refl _ _).alloc (Nat.le_refl _) o
    exact ⟨keep_below S0.1 hb, keep_below S0.2.1 hb, keep_below S0.2.2.1 hb, keep_below S0.2.2.2 hb⟩
  obtain ⟨x, hx⟩ : ∃ x, cmpI a.1 b.1 = x := ⟨_, rfl⟩
  obtain ⟨y, hy⟩ : ∃ y, cmpS a.2 b.2 = y := ⟨_, rfl⟩
  have C1 := Lib.hid (fun W => wcmp_int64 a.1 b.1 W)
  have C2 := Lib.hid (fun W => wstrCmp a.2 b.2 W)
  rw [hx] at C1
  rw [hy] at C2
  have HW1 := Lib.hid hW1
  have HW2 := Lib.hid hW2
  have HE := Lib.hid (show cmpPr a b = orP [x, y] by unfold cmpPr; rw [hx, hy])
  rw [HE.out]
  have C3 := Lib.hid (fun (W : World) (o : Nat) (h : W.heap[o]? = some (.cells #[.int .i64 x, .int .i64 y] 3 (0, 0))) => wcmpOrL (n := 2) (xs := [x, y]) rfl (by omega) (row_at h rfl))
  generalize orP [x, y] = z at C3 ⊢
  clear hW1 hW2 g1 q0 q1 hx hy HE
  go_enter Tryz.func144, Tryz.ntmps144
  go_upto_region 1 with fail
  rw [HW1.out, HW2.out]
  go_region_held3 (fun w' => w'.cell? ⟨w.heap.size, 0, none⟩ = some (.int .i64 a.1) ∧ w'.cell? ⟨w.heap.size, 1, none⟩ = some (.string a.2) ∧ w'.cell? ⟨w.heap.size + 1, 0, none⟩ = some (.int .i64 b.1) ∧ w'.cell? ⟨w.heap.size + 1, 1, none⟩ = some (.string b.2))
    (first | exact S0 | exact S1 _)
    (first
      | (go_at_call 185; go_loud (refine (C1.out _).mono ?_; rintro e w1 ⟨rfl, hw⟩; replace hw := hw.symm; subst hw))
      | (go_at_call 93; go_loud (refine (C2.out _).mono ?_; rintro e w1 ⟨rfl, hw⟩; replace hw := hw.symm; subst hw))
      | (go_at_call 92; go_loud (refine (C3.out _ _ (by exact heap_alloc_new W2 _)).mono ?_; rintro e w3 ⟨rfl, hw⟩; replace hw := hw.symm; subst hw)))
  all_goals
    go_wp2
    go_ret
    exact ⟨rfl, by first | exact GG.out.alloc _ | exact GG.out.drew.alloc _⟩
end Go.Proofs.YtknppiebncdjmaaGreat

namespace Go.Proofs.YtknppiebncdjmaaGreat
set_option maxRecDepth 100000
open Go.RowKit

def cmpR (a b : Rd) : Int := orP [cmpS a.tb b.tb, cmpI a.kd b.kd, cmpS a.lo b.lo, cmpS a.hi b.hi]
theorem orP_cons (x : Int) (xs : List Int) : orP (x :: xs) = if x = 0 then orP xs else x := by
  unfold orP
  by_cases h : x = 0
  · rw [List.find?_cons_of_neg (by simpa using h), if_pos h]
  · rw [List.find?_cons_of_pos (by simpa using h), if_neg h]; rfl
theorem ltOf_cmpR (a b : Rd) : ltOf cmpR a b = aheadP a b := by
  unfold ltOf cmpR aheadP
  rw [toList_beq8, toList_beq8]
  by_cases h1 : a.tb = b.tb
  · rw [orP_cons, if_pos ((cmpS_zero _ _).2 h1), if_pos (by simpa using h1)]
    by_cases h2 : a.kd = b.kd
    · rw [orP_cons, if_pos ((cmpI_zero _ _).2 h2), if_pos (by simpa using h2)]
      by_cases h3 : a.lo = b.lo
      · rw [orP_cons, if_pos ((cmpS_zero _ _).2 h3), if_pos (by simpa using h3), orP_cons]
        by_cases h4 : a.hi = b.hi
        · rw [if_pos ((cmpS_zero _ _).2 h4), h4, klB_irrefl]; rfl
        · rw [if_neg (fun e => h4 ((cmpS_zero _ _).1 e)), cmpS_lt]
      · rw [orP_cons, if_neg (fun e => h3 ((cmpS_zero _ _).1 e)), if_neg (by simpa using h3), cmpS_lt]
    · rw [orP_cons, if_neg (fun e => h2 ((cmpI_zero _ _).1 e)), if_neg (by simpa using h2), cmpI_lt]
  · rw [orP_cons, if_neg (fun e => h1 ((cmpS_zero _ _).1 e)), if_neg (by simpa using h1), cmpS_lt]
theorem swo_cmpR : Sort.SWO (ltOf cmpR) where
  irrefl x := by rw [ltOf_cmpR]; exact ahead_irr x
  trans x y z h1 h2 := by rw [ltOf_cmpR] at *; exact ahead_tr _ _ _ h1 h2
  ntrans x y z h1 h2 := by
    rw [ltOf_cmpR] at *
    cases h3 : aheadP x z with
    | false => rfl
    | true =>
      cases h4 : aheadP y x with
      | true => rw [ahead_tr _ _ _ h4 h3] at h2; cases h2
      | false => rw [ahead_tri _ _ h1 h4] at h3; rw [h2] at h3; cases h3
set_option maxHeartbeats 16000000 in
theorem wpCmpR (a b : Rd) (w : World) : Calls Tryz.prog 91 #[rdV a, rdV b] w fun e w' => e = .returned (.int .i64 (cmpR a b)) ∧ Gs w w' := by
  obtain ⟨W1, hW1⟩ : ∃ W, w.alloc (.cells #[.string a.tb, .int .i64 a.kd, .string a.lo, .string a.hi] 114) = W := ⟨_, rfl⟩
  obtain ⟨W2, hW2⟩ : ∃ W, W1.alloc (.cells #[.string b.tb, .int .i64 b.kd, .string b.lo, .string b.hi] 114) = W := ⟨_, rfl⟩
  have g1 : Gs w W1 := by rw [← hW1]; exact (Gs.refl w).alloc _
  have GG := Lib.hid (show Gs w W2 by rw [← hW2]; exact g1.alloc _)
  have q0 : W2.heap[w.heap.size]? = some (.cells #[.string a.tb, .int .i64 a.kd, .string a.lo, .string a.hi] 114 (0, 0)) := by
    rw [← hW2, Below.heap_alloc _ _ _ (by rw [← hW1]; simp), ← hW1]; exact heap_alloc_new _ _
  have q1 : W2.heap[w.heap.size + 1]? = some (.cells #[.string b.tb, .int .i64 b.kd, .string b.lo, .string b.hi] 114 (0, 0)) := by
    rw [show w.heap.size + 1 = W1.heap.size by rw [← hW1]; simp, ← hW2]; exact heap_alloc_new _ _
  have S0 : W2.cell? ⟨w.heap.size, 0, none⟩ = some (.string a.tb) ∧ W2.cell? ⟨w.heap.size, 1, none⟩ = some (.int .i64 a.kd) ∧ W2.cell? ⟨w.heap.size, 2, none⟩ = some (.string a.lo) ∧ W2.cell? ⟨w.heap.size, 3, none⟩ = some (.string a.hi) ∧ W2.cell? ⟨w.heap.size + 1, 0, none⟩ = some (.string b.tb) ∧ W2.cell? ⟨w.heap.size + 1, 1, none⟩ = some (.int .i64 b.kd) ∧ W2.cell? ⟨w.heap.size + 1, 2, none⟩ = some (.string b.lo) ∧ W2.cell? ⟨w.heap.size + 1, 3, none⟩ = some (.string b.hi) :=
    ⟨cell_of_row _ _ 0 _ _ _ q0, cell_of_row _ _ 1 _ _ _ q0, cell_of_row _ _ 2 _ _ _ q0, cell_of_row _ _ 3 _ _ _ q0, cell_of_row _ _ 0 _ _ _ q1, cell_of_row _ _ 1 _ _ _ q1, cell_of_row _ _ 2 _ _ _ q1, cell_of_row _ _ 3 _ _ _ q1⟩
  have S1 : ∀ o, (W2.alloc o).cell? ⟨w.heap.size, 0, none⟩ = some (.string a.tb) ∧ (W2.alloc o).cell? ⟨w.heap.size, 1, none⟩ = some (.int .i64 a.kd) ∧ (W2.alloc o).cell? ⟨w.heap.size, 2, none⟩ = some (.string a.lo) ∧ (W2.alloc o).cell? ⟨w.heap.size, 3, none⟩ = some (.string a.hi) ∧ (W2.alloc o).cell? ⟨w.heap.size + 1, 0, none⟩ = some (.string b.tb) ∧ (W2.alloc o).cell? ⟨w.heap.size + 1, 1, none⟩ = some (.int .i64 b.kd) ∧ (W2.alloc o).cell? ⟨w.heap.size + 1, 2, none⟩ = some (.string b.lo) ∧ (W2.alloc o).cell? ⟨w.heap.size + 1, 3, none⟩ = some (.string b.hi) := fun o => by
    have hb : Below W2.heap.size W2 (W2.alloc o) := (Below.refl _ _).alloc (Nat.le_refl _) o
    exact ⟨keep_below S0.1 hb, keep_below S0.2.1 hb, keep_below S0.2.2.1 hb, keep_below S0.2.2.2.1 hb, keep_below S0.2.2.2.2.1 hb, keep_below S0.2.2.2.2.2.1 hb, keep_below S0.2.2.2.2.2.2.1 hb, keep_below S0.2.2.2.2.2.2.2 hb⟩
  obtain ⟨x, hx⟩ : ∃ x, cmpS a.tb b.tb = x := ⟨_, rfl⟩
  obtain ⟨y, hy⟩ : ∃ y, cmpI a.kd b.kd = y := ⟨_, rfl⟩
  obtain ⟨u, hu⟩ : ∃ u, cmpS a.lo b.lo = u := ⟨_, rfl⟩
  obtain ⟨v, hv⟩ : ∃ v, cmpS a.hi b.hi = v := ⟨_, rfl⟩
  have C1 := Lib.hid (fun W => wstrCmp a.tb b.tb W)
  have C2 := Lib.hid (fun W => wcmp_int a.kd b.kd W)
  have C3 := Lib.hid (fun W => wstrCmp a.lo b.lo W)
  have C4 := Lib.hid (fun W => wstrCmp a.hi b.hi W)
  rw [hx] at C1
  rw [hy] at C2
  rw [hu] at C3
  rw [hv] at C4
  have HW1 := Lib.hid hW1
  have HW2 := Lib.hid hW2
  have HE := Lib.hid (show cmpR a b = orP [x, y, u, v] by unfold cmpR; rw [hx, hy, hu, hv])
  rw [HE.out]
  have C5 := Lib.hid (fun (W : World) (o : Nat) (h : W.heap[o]? = some (.cells #[.int .i64 x, .int .i64 y, .int .i64 u, .int .i64 v] 3 (0, 0))) => wcmpOrL (n := 4) (xs := [x, y, u, v]) rfl (by omega) (row_at h rfl))
  generalize orP [x, y, u, v] = z at C5 ⊢
  clear hW1 hW2 g1 q0 q1 hx hy hu hv HE
  unfold rdV
  go_enter Tryz.func91, Tryz.ntmps91
  go_upto_region 1 with fail
  rw [HW1.out, HW2.out]
  go_region_held3 (fun w' => w'.cell? ⟨w.heap.size, 0, none⟩ = some (.string a.tb) ∧ w'.cell? ⟨w.heap.size, 1, none⟩ = some (.int .i64 a.kd) ∧ w'.cell? ⟨w.heap.size, 2, none⟩ = some (.string a.lo) ∧ w'.cell? ⟨w.heap.size, 3, none⟩ = some (.string a.hi) ∧ w'.cell? ⟨w.heap.size + 1, 0, none⟩ = some (.string b.tb) ∧ w'.cell? ⟨w.heap.size + 1, 1, none⟩ = some (.int .i64 b.kd) ∧ w'.cell? ⟨w.heap.size + 1, 2, none⟩ = some (.string b.lo) ∧ w'.cell? ⟨w.heap.size + 1, 3, none⟩ = some (.string b.hi))
    (first | exact S0 | exact S1 _)
    (first
      | (go_at_call 94; go_loud (refine (C2.out _).mono ?_; rintro e w1 ⟨rfl, hw⟩; replace hw := hw.symm; subst hw))
      | (go_at_call_of 93 (Value.string a.tb); go_loud (refine (C1.out _).mono ?_; rintro e w1 ⟨rfl, hw⟩; replace hw := hw.symm; subst hw))
      | (go_at_call_of 93 (Value.string a.lo); go_loud (refine (C3.out _).mono ?_; rintro e w1 ⟨rfl, hw⟩; replace hw := hw.symm; subst hw))
      | (go_at_call_of 93 (Value.string a.hi); go_loud (refine (C4.out _).mono ?_; rintro e w1 ⟨rfl, hw⟩; replace hw := hw.symm; subst hw))
      | (go_at_call 92; go_loud (refine (C5.out _ _ (by exact heap_alloc_new W2 _)).mono ?_; rintro e w3 ⟨rfl, hw⟩; replace hw := hw.symm; subst hw)))
  all_goals
    go_wp2
    go_ret
    exact ⟨rfl, by first | exact GG.out.alloc _ | exact GG.out.drew.alloc _⟩
end Go.Proofs.YtknppiebncdjmaaGreat

namespace Go.Proofs.YtknppiebncdjmaaGreat
set_option maxRecDepth 100000
open Go.RowKit

theorem flat_cellsR (d : Array Rd) : (Sort.flatK rdC 4 d).toList = cellsR d.toList := by
  apply List.ext_getElem?
  intro t
  have hlen : (cellsR d.toList).length = 4 * d.size := by rw [cellsR_len]; simp
  by_cases ht : t < d.size * 4
  · have hj : t / 4 < d.size := by omega
    have h1 : (Sort.flatK rdC 4 d)[t]! = (rdC d[t / 4]!)[t % 4]! := Sort.get_flatK _ _ _ _ ht
    have h2 : (Sort.flatK rdC 4 d).toList[t]? = some ((rdC d[t / 4]!)[t % 4]!) := by
      rw [← h1, Array.getElem?_toList, Array.getElem?_eq_getElem (by simpa using ht), getElem!_pos]
    have h3 : d.toList[t / 4]? = some d[t / 4]! := by
      rw [Array.getElem?_toList, Array.getElem?_eq_getElem hj, getElem!_pos]
    obtain ⟨a1, a2, a3, a4⟩ := cellsR_at d.toList (t / 4) _ h3
    rw [h2]
    have hm : t % 4 = 0 ∨ t % 4 = 1 ∨ t % 4 = 2 ∨ t % 4 = 3 := by omega
    rcases hm with hm | hm | hm | hm
    · rw [hm, show t = 4 * (t / 4) by omega, a1, show 4 * (t / 4) / 4 = t / 4 by omega]; rfl
    · rw [hm, show t = 4 * (t / 4) + 1 by omega, a2, show (4 * (t / 4) + 1) / 4 = t / 4 by omega]; rfl
    · rw [hm, show t = 4 * (t / 4) + 2 by omega, a3, show (4 * (t / 4) + 2) / 4 = t / 4 by omega]; rfl
    · rw [hm, show t = 4 * (t / 4) + 3 by omega, a4, show (4 * (t / 4) + 3) / 4 = t / 4 by omega]; rfl
  · rw [List.getElem?_eq_none (by simp; omega), List.getElem?_eq_none (by rw [hlen]; omega)]
theorem sortedF_heap (w : World) (m g : Nat) (F : Array Value) (os : Array Obj) (k : Nat) (hk : k < w.heap.size) :
    (Sort.grow (Sort.putRow id (Sort.ahead w m) g 0 F) os).heap[k]? = if k = g then (w.heap[k]?).map (Sort.onCells (Sort.putCells id 0 F)) else w.heap[k]? := by
  unfold Sort.grow Sort.putRow Sort.mapBlock Sort.ahead
  simp only
  rw [Array.getElem?_append_left (by simpa using hk), Array.getElem?_modify]
  by_cases e : g = k
  · subst e; simp
  · rw [if_neg e, if_neg (Ne.symm e)]
theorem so_sortedR {base n c g m : Nat} {w : World} {vs us : List Value} {os : Array Obj} (h : SO seR base w (.slice (some ⟨g, 0, none⟩) n c) n vs) (hl : us.length = 4 * n) (h1 : ∀ u ∈ us, u.oneCell' = true) :
    SO seR base (Sort.grow (Sort.putRow id (Sort.ahead w m) g 0 us.toArray) os) (.slice (some ⟨g, 0, none⟩) n c) n us := by
  rcases h.own.2 with ⟨hv, -⟩ | ⟨g', cap, cur, hv, hb, hh, hc, hm, hsz, ht⟩
  · cases hv
  · obtain ⟨rfl, rfl⟩ : g = g' ∧ c = cap := by simpa using hv
    refine ⟨⟨by rw [hl]; show 4 * n = n * 4; omega, .inr ⟨g, c, Sort.putCells id 0 us.toArray cur, rfl, hb, ?_, hc, hm, by simpa [Sort.putCells] using hsz, ?_⟩⟩, by rw [hl]; rfl, h1⟩
    · rw [sortedF_heap _ _ _ _ _ _ (Array.getElem?_eq_some_iff.1 hh).1, if_pos rfl, hh]; rfl
    · have hcs : cur.size = c * 4 := hsz
      apply List.ext_getElem?
      intro k
      show (List.take (n * 4) _)[k]? = _
      rw [List.getElem?_take]
      by_cases hk : k < n * 4
      · rw [if_pos hk]
        have h1 : k < cur.size := by omega
        have h2 : k < us.length := by omega
        simp [Sort.putCells, h1, h2]
      · rw [if_neg hk, List.getElem?_eq_none (by omega)]
theorem so_sortedR_out {g m : Nat} {w : World} {F : Array Value} {os : Array Obj} : Out (fun k => k = g) w (Sort.grow (Sort.putRow id (Sort.ahead w m) g 0 F) os) :=
  ⟨rfl, rfl, rfl, by simp [Sort.grow, Sort.putRow, Sort.mapBlock, Sort.ahead], fun k hk hn => by
    rw [sortedF_heap _ _ _ _ _ _ hk, if_neg hn]⟩
theorem cmpLays9 (blk off size : Nat) (w : World) : CmpLays Tryz.prog 91 #[] rdC 4 cmpR blk off size w := fun _ _ _ _ x y => wpCmpR x y _
theorem sortedR_strict {d d' : Array Rd} (hp : Sort.PermIn 0 d.size d d') (hs : Sort.SortedIn (ltOf cmpR) 0 d.size d') (hd : d.toList.Nodup) : d'.toList.length = d.size ∧ (∀ y, y ∈ d'.toList ↔ y ∈ d.toList) ∧ d'.toList.Pairwise (aheadP · · = true) := by
  obtain ⟨e1, -, e3⟩ := hp
  have e4 : d'.toList.Perm d.toList := by
    have a1 : d'.extract 0 d.size = d' := by rw [← e1]; simp
    have a2 : d.extract 0 d.size = d := by simp
    rwa [a1, a2] at e3
  refine ⟨by simpa using e1, fun y => e4.mem_iff, ?_⟩
  rw [List.pairwise_iff_getElem]
  intro i j hi hj hij
  have hi' : i < d'.size := by simpa using hi
  have hj' : j < d'.size := by simpa using hj
  have h1 := hs i j (Nat.zero_le _) hij (by rw [← e1]; exact hj')
  rw [ltOf_cmpR, getElem!_pos d' i hi', getElem!_pos d' j hj'] at h1
  have hnd : d'.toList.Nodup := e4.nodup_iff.2 hd
  cases h2 : aheadP d'[i] d'[j] with
  | true => simpa using h2
  | false =>
    have h3 := ahead_tri _ _ h2 h1
    have h4 := (List.nodup_iff_pairwise_ne.1 hnd)
    rw [List.pairwise_iff_getElem] at h4
    exact absurd (by simpa using h3) (h4 i j hi hj hij)
theorem wsortR {base : Nat} {w : World} {v : Value} {ls : List Rd} (h : SO seR base w v ls.length (cellsR ls)) (hn : ls.length ≤ 4000000) (hd : ls.Nodup) :
    Calls Tryz.prog 90 #[v, .func (.func 91) #[] #[]] w fun e w' => e = .returned (.tuple #[]) ∧ (∃ ms : List Rd, ms.length = ls.length ∧ (∀ y, y ∈ ms ↔ y ∈ ls) ∧ ms.Pairwise (aheadP · · = true) ∧ SO seR base w' v ls.length (cellsR ms)) ∧ Below base w w' := by
  rcases h.own.2 with ⟨rfl, h0⟩ | ⟨g, cap, cur, rfl, hb, hh, -⟩
  · have hz : ls = [] := List.eq_nil_of_length_eq_zero h0
    subst hz
    have hcon := AnyF.slices_SortFunc_none Tryz.sortR none 0 (.func (.func 91) #[] #[]) w
    change Calls Tryz.prog 90 _ _ _ at hcon
    refine hcon.mono ?_
    rintro e w' ⟨h1, rfl⟩
    exact ⟨h1, ⟨[], rfl, fun y => Iff.rfl, List.Pairwise.nil, h⟩, Below.refl _ _⟩
  · obtain ⟨A, c, e1, hsb, -⟩ := h.form
    obtain ⟨rfl, rfl⟩ : A = some ⟨g, 0, none⟩ ∧ c = cap := by
      simp at e1; exact ⟨e1.1.symm, e1.2.symm⟩
    rw [show seR.s * ls.length = 4 * ls.length from rfl] at hsb
    have hF : (Sort.flatK rdC 4 ls.toArray).toList = cellsR ls := flat_cellsR ls.toArray
    have hH : Sort.HoldsK rdC 4 w g 0 ls.toArray := fun j hj => by
      have hj' : j < (cellsR ls).length := by rw [← hF]; simpa using hj
      obtain ⟨x, hx⟩ : ∃ x, (cellsR ls)[j]? = some x := ⟨_, List.getElem?_eq_getElem hj'⟩
      obtain ⟨g1, o1, e2, hc⟩ := hsb.at_ hx
      cases e2
      refine ⟨?_, frozen_of_row _ _ _ _ _ hh⟩
      rw [hc, getElem!_pos (Sort.flatK rdC 4 ls.toArray) j hj]
      rw [← hF, Array.getElem?_toList, Array.getElem?_eq_getElem hj] at hx
      exact congrArg some (Option.some.inj hx).symm
    have hlt := (Array.getElem?_eq_some_iff.1 hh).1
    have eg : ∀ args w, (callFunc 91 args).run Tryz.prog w = .ok (.enter 91 args) w := enters_of Tryz.func91 (by kernel_rfl) rfl
    have hcon := AnyQ.slices_SortFunc Tryz.sortR 4 Tryz.isAgg114 Tryz.sizeOf114 rdC (fun _ => rfl) (fun x v hv => by simp [rdC] at hv; rcases hv with rfl | rfl | rfl | rfl <;> rfl) cmpR swo_cmpR 91 #[] g 0 c ls.toArray w eg (cmpLays9 _ _ _ _) hH hlt (by simp; omega)
    change Calls Tryz.prog 90 _ _ _ at hcon
    refine hcon.mono ?_
    rintro e w' ⟨h1, d', m, os, hp, hs, rfl⟩
    obtain ⟨s1, s2, s3⟩ := sortedR_strict hp hs hd
    have hFd : Sort.flatK rdC 4 d' = (cellsR d'.toList).toArray := by rw [← flat_cellsR]
    refine ⟨h1, ⟨d'.toList, by simpa using s1, s2, s3, ?_⟩, ?_⟩
    · unfold sortWorldK Sort.putRowK
      rw [hFd]
      exact so_sortedR h (by rw [cellsR_len, s1]; simp) (cellsR_one _)
    · exact so_sortedR_out.below (by omega) fun i hi e => by omega
end Go.Proofs.YtknppiebncdjmaaGreat

namespace Go.Proofs.YtknppiebncdjmaaGreat
set_option maxRecDepth 100000
open Go.RowKit

def encL (l : Lk) : List Value := [.string l.1, .string l.2]
theorem flat_cellsL (d : Array Lk) : (Sort.flatK encL 2 d).toList = cellsL d.toList := by
  apply List.ext_getElem?
  intro t
  have hlen : (cellsL d.toList).length = 2 * d.size := by rw [cellsL_len]; simp
  by_cases ht : t < d.size * 2
  · have hj : t / 2 < d.size := by omega
    have h1 : (Sort.flatK encL 2 d)[t]! = (encL d[t / 2]!)[t % 2]! := Sort.get_flatK _ _ _ _ ht
    have h2 : (Sort.flatK encL 2 d).toList[t]? = some ((encL d[t / 2]!)[t % 2]!) := by
      rw [← h1, Array.getElem?_toList, Array.getElem?_eq_getElem (by simpa using ht), getElem!_pos]
    have h3 : d.toList[t / 2]? = some d[t / 2]! := by
      rw [Array.getElem?_toList, Array.getElem?_eq_getElem hj, getElem!_pos]
    obtain ⟨a1, a2⟩ := cellsL_at d.toList (t / 2) _ h3
    rw [h2]
    rcases Nat.mod_two_eq_zero_or_one t with hm | hm
    · rw [hm, show t = 2 * (t / 2) by omega, a1, show 2 * (t / 2) / 2 = t / 2 by omega]; rfl
    · rw [hm, show t = 2 * (t / 2) + 1 by omega, a2, show (2 * (t / 2) + 1) / 2 = t / 2 by omega]; rfl
  · rw [List.getElem?_eq_none (by simp; omega), List.getElem?_eq_none (by rw [hlen]; omega)]
theorem so_sortedL {base n c g m : Nat} {w : World} {vs us : List Value} {os : Array Obj} (h : SO seL base w (.slice (some ⟨g, 0, none⟩) n c) n vs) (hl : us.length = 2 * n) (h1 : ∀ u ∈ us, u.oneCell' = true) :
    SO seL base (Sort.grow (Sort.putRow id (Sort.ahead w m) g 0 us.toArray) os) (.slice (some ⟨g, 0, none⟩) n c) n us := by
  rcases h.own.2 with ⟨hv, -⟩ | ⟨g', cap, cur, hv, hb, hh, hc, hm, hsz, ht⟩
  · cases hv
  · obtain ⟨rfl, rfl⟩ : g = g' ∧ c = cap := by simpa using hv
    refine ⟨⟨by rw [hl]; show 2 * n = n * 2; omega, .inr ⟨g, c, Sort.putCells id 0 us.toArray cur, rfl, hb, ?_, hc, hm, by simpa [Sort.putCells] using hsz, ?_⟩⟩, by rw [hl]; rfl, h1⟩
    · rw [sortedF_heap _ _ _ _ _ _ (Array.getElem?_eq_some_iff.1 hh).1, if_pos rfl, hh]; rfl
    · have hcs : cur.size = c * 2 := hsz
      apply List.ext_getElem?
      intro k
      show (List.take (n * 2) _)[k]? = _
      rw [List.getElem?_take]
      by_cases hk : k < n * 2
      · rw [if_pos hk]
        have h1 : k < cur.size := by omega
        have h2 : k < us.length := by omega
        simp [Sort.putCells, h1, h2]
      · rw [if_neg hk, List.getElem?_eq_none (by omega)]
theorem so_sortedL_out {g m : Nat} {w : World} {F : Array Value} {os : Array Obj} : Out (fun k => k = g) w (Sort.grow (Sort.putRow id (Sort.ahead w m) g 0 F) os) :=
  ⟨rfl, rfl, rfl, by simp [Sort.grow, Sort.putRow, Sort.mapBlock, Sort.ahead], fun k hk hn => by
    rw [sortedF_heap _ _ _ _ _ _ hk, if_neg hn]⟩
theorem cmpLays8 (blk off size : Nat) (w : World) : CmpLays Tryz.prog 125 #[] encL 2 cmpB blk off size w := fun _ _ _ _ x y => wkCompare x y _
theorem sorted_strict {d d' : Array Lk} (hp : Sort.PermIn 0 d.size d d') (hs : Sort.SortedIn (ltOf cmpB) 0 d.size d') (hd : d.toList.Nodup) : d'.toList.length = d.size ∧ (∀ y, y ∈ d'.toList ↔ y ∈ d.toList) ∧ d'.toList.Pairwise (lessB · · = true) := by
  obtain ⟨e1, -, e3⟩ := hp
  have e4 : d'.toList.Perm d.toList := by
    have a1 : d'.extract 0 d.size = d' := by rw [← e1]; simp
    have a2 : d.extract 0 d.size = d := by simp
    rwa [a1, a2] at e3
  refine ⟨by simpa using e1, fun y => e4.mem_iff, ?_⟩
  rw [List.pairwise_iff_getElem]
  intro i j hi hj hij
  have hi' : i < d'.size := by simpa using hi
  have hj' : j < d'.size := by simpa using hj
  have h1 := hs i j (Nat.zero_le _) hij (by rw [← e1]; exact hj')
  rw [ltOf_cmpB, getElem!_pos d' i hi', getElem!_pos d' j hj'] at h1
  have hnd : d'.toList.Nodup := e4.nodup_iff.2 hd
  cases h2 : lessB d'[i] d'[j] with
  | true => simpa using h2
  | false =>
    have h3 := lessB_tri _ _ h2 h1
    have h4 := (List.nodup_iff_pairwise_ne.1 hnd)
    rw [List.pairwise_iff_getElem] at h4
    exact absurd (by simpa using h3) (h4 i j hi hj hij)
theorem wsortL {base : Nat} {w : World} {v : Value} {ls : List Lk} (h : SO seL base w v ls.length (cellsL ls)) (hn : ls.length ≤ 4000000) (hd : ls.Nodup) :
    Calls Tryz.prog 124 #[v, .func (.func 125) #[] #[]] w fun e w' => e = .returned (.tuple #[]) ∧ (∃ ms : List Lk, ms.length = ls.length ∧ (∀ y, y ∈ ms ↔ y ∈ ls) ∧ ms.Pairwise (lessB · · = true) ∧ SO seL base w' v ls.length (cellsL ms)) ∧ Below base w w' := by
  rcases h.own.2 with ⟨rfl, h0⟩ | ⟨g, cap, cur, rfl, hb, hh, -⟩
  · have hz : ls = [] := List.eq_nil_of_length_eq_zero h0
    subst hz
    have hcon := AnyF.slices_SortFunc_none Tryz.sortL none 0 (.func (.func 125) #[] #[]) w
    change Calls Tryz.prog 124 _ _ _ at hcon
    refine hcon.mono ?_
    rintro e w' ⟨h1, rfl⟩
    exact ⟨h1, ⟨[], rfl, fun y => Iff.rfl, List.Pairwise.nil, h⟩, Below.refl _ _⟩
  · obtain ⟨A, c, e1, hsb, -⟩ := h.form
    obtain ⟨rfl, rfl⟩ : A = some ⟨g, 0, none⟩ ∧ c = cap := by
      simp at e1; exact ⟨e1.1.symm, e1.2.symm⟩
    rw [show seL.s * ls.length = 2 * ls.length from rfl] at hsb
    have hF : (Sort.flatK encL 2 ls.toArray).toList = cellsL ls := flat_cellsL ls.toArray
    have hH : Sort.HoldsK encL 2 w g 0 ls.toArray := fun j hj => by
      have hj' : j < (cellsL ls).length := by rw [← hF]; simpa using hj
      obtain ⟨x, hx⟩ : ∃ x, (cellsL ls)[j]? = some x := ⟨_, List.getElem?_eq_getElem hj'⟩
      obtain ⟨g1, o1, e2, hc⟩ := hsb.at_ hx
      cases e2
      refine ⟨?_, frozen_of_row _ _ _ _ _ hh⟩
      rw [hc, getElem!_pos (Sort.flatK encL 2 ls.toArray) j hj]
      rw [← hF, Array.getElem?_toList, Array.getElem?_eq_getElem hj] at hx
      exact congrArg some (Option.some.inj hx).symm
    have hlt := (Array.getElem?_eq_some_iff.1 hh).1
    have eg : ∀ args w, (callFunc 125 args).run Tryz.prog w = .ok (.enter 125 args) w := enters_of Tryz.func125 (by kernel_rfl) rfl
    have hcon := AnyQ.slices_SortFunc Tryz.sortL 2 Tryz.isAgg42 Tryz.sizeOf42 encL (fun _ => rfl) (fun x v hv => by simp [encL] at hv; rcases hv with rfl | rfl <;> rfl) cmpB swo_cmpB 125 #[] g 0 c ls.toArray w eg (cmpLays8 _ _ _ _) hH hlt (by simp; omega)
    change Calls Tryz.prog 124 _ _ _ at hcon
    refine hcon.mono ?_
    rintro e w' ⟨h1, d', m, os, hp, hs, rfl⟩
    obtain ⟨s1, s2, s3⟩ := sorted_strict hp hs hd
    have hFd : Sort.flatK encL 2 d' = (cellsL d'.toList).toArray := by rw [← flat_cellsL]
    refine ⟨h1, ⟨d'.toList, by simpa using s1, s2, s3, ?_⟩, ?_⟩
    · unfold sortWorldK Sort.putRowK
      rw [hFd]
      exact so_sortedL h (by rw [cellsL_len, s1]; simp) (cellsL_one _)
    · exact so_sortedL_out.below (by omega) fun i hi e => by omega
end Go.Proofs.YtknppiebncdjmaaGreat

namespace Go.Proofs.YtknppiebncdjmaaGreat
set_option maxRecDepth 100000
open Go.RowKit Go.Maps Go.ChangeMaps Go.MapKept

structure ColL (hs : List Hd) (tx : Int) (ls : List Lk) (left : List Hd) : Prop where
  mem : ∀ y, y ∈ ls ↔ (y, tx) ∈ hs ∧ (y, tx) ∉ left
  nd : ls.Nodup
  len : ls.length + left.length ≤ hs.length
  sub : ∀ h ∈ left, h ∈ hs
  ol : Once left
theorem ColL.start {hs : List Hd} (h : Once hs) (tx : Int) : ColL hs tx [] hs := ⟨fun y => by simp, List.nodup_nil, by simp, fun _ h => h, h⟩
theorem ColL.skip {hs left : List Hd} {tx : Int} {ls : List Lk} {l : Lk} {t : Int} (ho : Once hs) (h : ColL hs tx ls left) (hl : (l, t) ∈ left) (ht : t ≠ tx) : ColL hs tx ls (left.filter fun h => !decide (h.1 = l)) := by
  refine ⟨fun y => ?_, h.nd, ?_, fun y hy => h.sub y (List.mem_filter.1 hy).1, List.Nodup.sublist (List.Sublist.map _ List.filter_sublist) h.ol⟩
  · rw [h.mem, not_left]
    refine and_congr_right fun h1 => ⟨.inl, fun h2 => h2.elim id fun e => ?_⟩
    have := ho.eq h1 (h.sub _ hl) e
    exact absurd (congrArg Prod.snd this).symm ht
  · have h1 := but_len h.ol hl
    have h2 := h.len
    omega
theorem ColL.take {hs left : List Hd} {tx : Int} {ls : List Lk} {l : Lk} (ho : Once hs) (h : ColL hs tx ls left) (hl : (l, tx) ∈ left) : ColL hs tx (ls ++ [l]) (left.filter fun h => !decide (h.1 = l)) := by
  refine ⟨fun y => ?_, ?_, ?_, fun y hy => h.sub y (List.mem_filter.1 hy).1, List.Nodup.sublist (List.Sublist.map _ List.filter_sublist) h.ol⟩
  · rw [List.mem_append, h.mem, List.mem_singleton, not_left]
    constructor
    · rintro (⟨h1, h2⟩ | rfl)
      · exact ⟨h1, .inl h2⟩
      · exact ⟨h.sub _ hl, .inr rfl⟩
    · rintro ⟨h1, h2 | h2⟩
      · exact .inl ⟨h1, h2⟩
      · exact .inr h2
  · refine List.nodup_append.2 ⟨h.nd, by simp, fun a ha b hb => ?_⟩
    rw [List.mem_singleton.1 hb]
    rintro rfl
    exact ((h.mem _).1 ha).2 hl
  · have h1 := but_len h.ol hl
    have h2 := h.len
    simp only [List.length_append, List.length_singleton]
    omega
theorem ColL.ends {hs : List Hd} {tx : Int} {ls ms : List Lk} (ho : Once hs) (h : ColL hs tx ls []) (hm : ∀ y, y ∈ ms ↔ y ∈ ls) (hp : ms.Pairwise (lessB · · = true)) : ms = heldP hs tx :=
  held_unique ho hp fun y => by rw [hm, h.mem]; simp

set_option maxHeartbeats 16000000 in
theorem wkHeld {w : World} {b r : Nat} {most : Int} {hs : List Hd} (h : MG w b r most hs) (tx : Int) :
    Calls Tryz.prog 77 #[.pointer (some ⟨b, 0, none⟩), .int .i64 tx] w fun e w' => ∃ v, e = .returned v ∧ SO seL w.heap.size w' v (heldP hs tx).length (cellsL (heldP hs tx)) ∧ Below w.heap.size w w' := by
  have CM := Lib.hid (wkAll h)
  have HM := Lib.hid h
  have HLT := Lib.hid (show b < w.heap.size ∧ r < w.heap.size from ⟨(Array.getElem?_eq_some_iff.1 h.blk).1, h.map.lt⟩)
  clear h
  go_enter Tryz.func77, Tryz.ntmps77
  go_upto_region 3 with (first
    | (go_at_call 121; go_loud (refine CM.out.mono ?_; rintro e w1 ⟨rfl, hw⟩; replace hw := hw.symm; subst hw))
    | (at_range; go_loud (refine map_range (by rfl) (.tmp 9) (by rfl) (by rfl) HM.out.map ?_; intro w2 r2 g2; have R2 := Lib.hid r2; have B2 := Lib.hid (show Below w.heap.size w w2 from (Below.refl _ _).grown g2 (Nat.le_refl _) (fun k e => by cases e)); clear r2 g2)))
  try go_frame
  go_loopw [5] (fun lv wr => ∃ (zs : List Lk) (left : List Hd), SO seL (w.heap.size + 1) wr lv zs.length (cellsL zs) ∧ ColL hs tx zs left ∧ RangeAt wr r w.heap.size hs left ∧ Below w.heap.size w wr) (fun _ wr => wr.rangeLeft r w.heap.size)
  case atStart => exact ⟨[], hs, SO.nil _ _ _, ColL.start HM.out.map.once _, R2.out, B2.out⟩
  case round =>
    rename World => wr
    obtain ⟨zs, left, ho, hI, hR, hB⟩ := hrel
    have HO := Lib.hid ho
    have HI := Lib.hid hI
    have HR := Lib.hid hR
    have HB := Lib.hid hB
    have HH4 := Lib.hid (show (hs.length : Int) ≤ 4096 by have := HM.out.len; have := HM.out.m2; omega)
    clear ho hI hR hB
    go_wp2_with (at_next; go_loud (refine map_next (by rfl) (.tmp 10) (by rfl) w.heap.size left (by rfl) HR.out ?_ ?_))
    · intro hnil
      subst hnil
      have ZL := Lib.hid (show zs.length ≤ 4000000 by have := HI.out.len; have := HH4.out; omega)
      have CS := Lib.hid (wsortL HO.out ZL.out HI.out.nd)
      go_wp2_with (go_at_call 124; go_loud (refine CS.out.mono ?_; rintro e w5 ⟨rfl, ⟨ms, n5, m5, p5, o5⟩, g5⟩; have O5 := Lib.hid o5; have N5 := Lib.hid n5; have E5 := Lib.hid (HI.out.ends HM.out.map.once m5 p5); have B5 := Lib.hid (HB.out.trans (g5.mono (Nat.le_succ _))); clear o5 g5 n5 m5 p5))
      go_ret
      exact ⟨_, rfl, by rw [← E5.out, N5.out]; exact O5.out.base (Nat.le_succ _) rfl rfl, B5.out⟩
    · intro k1 k2 t wn hin hsz hwf hr2 hg2 hlt hen
      obtain ⟨X, hX⟩ : ∃ X, wn.alloc (.cells #[.string k1, .string k2] 42) = X := ⟨_, rfl⟩
      have HXX := Lib.hid hX
      have BX : Below wn.heap.size wn X := by rw [← hX]; exact (Below.refl _ _).alloc (Nat.le_refl _) _
      have n0 : X.heap[wn.heap.size]? = some (.cells #[.string k1, .string k2] 42 (0, 0)) := by rw [← hX]; exact heap_alloc_new _ _
      have x1 : X.cell? ⟨wn.heap.size, 0, none⟩ = some (.string k1) := cell_of_row _ _ 0 _ _ _ n0
      have x2 : X.cell? ⟨wn.heap.size, 1, none⟩ = some (.string k2) := cell_of_row _ _ 1 _ _ _ n0
      have RX := Lib.hid (show RangeAt X r w.heap.size hs (left.filter fun h => !decide (h.1 = (k1, k2))) by rw [← hX]; exact hr2.kept (World.grownBy_alloc _ _ none) (by simp) (by simp))
      have LX := Lib.hid (show X.rangeLeft r w.heap.size < wr.rangeLeft r w.heap.size by
        have e : X.rangeLeft r w.heap.size = wn.rangeLeft r w.heap.size := by
          obtain ⟨D, f, cnt, h1, -⟩ := hr2
          have h2 : X.ranges Tryz.prog 42 (plainElem Tryz.prog 2) r w.heap.size hs.length D f cnt := by rw [← hX]; exact h1.alloc _
          rw [h1.left_eq, h2.left_eq]
        rw [e]; exact hlt)
      have hbn : Below w.heap.size w wn := HB.out.grown hg2 HB.out.size (fun k e => by rw [← Option.some.inj e]; exact Nat.le_refl _)
      have BXw := Lib.hid (below_next hbn BX)
      have OX := Lib.hid (show SO seL (w.heap.size + 1) X _ zs.length (cellsL zs) from (show SO seL (w.heap.size + 1) wn _ zs.length (cellsL zs) from ⟨own_stays HO.out.own fun k e => hg2.block k (HO.out.own.lt k e).2 (fun e2 => by obtain ⟨cs, t, fr, hk⟩ := HO.out.cells e; exact HR.out.no hk (Option.some.inj e2).symm), HO.out.len, HO.out.one⟩).below BX)
      have HIN := Lib.hid hin
      have ZL := Lib.hid (show zs.length ≤ 4000000 by have := HI.out.len; have := HH4.out; omega)
      clear hin hsz hwf hr2 hg2 hlt BX n0 hbn
      have HSB := Lib.hid (show SB (X.alloc (.cells #[.string k1, .string k2] 42)) (some ⟨X.heap.size, 0, none⟩) (seL.s * 1) (cellsL [(k1, k2)]) from ⟨by rfl, cellsL_one _, fun _ => ⟨X.heap.size, 0, rfl, fun j u hj => by
        match j, hj with
        | 0, hj => cases hj; exact cell_of_row _ _ 0 _ _ _ (heap_alloc_new X _)
        | 1, hj => cases hj; exact cell_of_row _ _ 1 _ _ _ (heap_alloc_new X _)⟩⟩)
      go_upto_region 5 with fail
      clear hen hX
      by_cases ht : t = tx
      · subst ht
        go_wp2_with (at_builtin; go_loud (refine so_append seL_ok (by rfl) (.tmp 19) (.tmp 21) (by rfl) _ (by rfl) (OX.out.alloc _) (some ⟨X.heap.size, 0, none⟩) 1 1 (cellsL [(k1, k2)]) (by rfl) HSB.out (by have := ZL.out; omega) (by have := RX.out.itlt; simp; omega) ?_; intro v3 w3 o3 b3; have O3 := Lib.hid o3; have B3 := Lib.hid ((BXw.out.alloc BXw.out.size _).trans (b3.mono (Nat.le_succ _))); have R3 := Lib.hid (RX.out.over ((Below.refl _ _).alloc (by have := RX.out.itlt; omega) _ |>.trans b3) (by have := HLT.out.2; omega) (Nat.lt_succ_self _)); clear o3 b3))
        go_roundw
        case rel => exact ⟨_, _, O3.out.base (Nat.le_refl _) (by simp [cellsL]) (by simp), HI.out.take HM.out.map.once HIN.out, R3.out.1, B3.out⟩
        case measure => rw [R3.out.2]; exact LX.out
      · have HT := Lib.hid ht
        go_wp2
        go_roundw
        case rel => exact ⟨_, _, OX.out, HI.out.skip HM.out.map.once HIN.out HT.out, RX.out, BXw.out⟩
        case measure => exact LX.out
end Go.Proofs.YtknppiebncdjmaaGreat

namespace Go.Proofs.YtknppiebncdjmaaGreat
set_option maxRecDepth 100000
open Go.RowKit Go.Maps Go.ChangeMaps Go.MapKept

theorem wp_lenN {κ : Type} [DecidableEq κ] {k : TypeId} (T : KT κ k) {w : World} {ops : Array Oper} {rest : List Oper} {o : Oper} {a : Act} {Q : Exit → Act → World → Prop} {r : Nat} {hs : List (κ × Value)} {t e : TypeId} {n : Nat} (hn : hs.length = n) (hg : o.guard = none) (m : Operand) (hop : o.op = Op.call { callee := Callee.builtin Builtin.len, args := #[m], argTypes := #[t] }) (hm : a.eval m = .map (some r)) (hM : MapM T w r hs) (ht : Tryz.prog.underlying t = some (.map k e))
    (hK : wpList Tryz.prog ops Q rest (a.put o.dst (.int .i64 (n : Nat))) w) : wpList Tryz.prog ops Q (o :: rest) a w := by
  subst hn
  exact wp_lenM T hg m hop hm hM ht hK
theorem SO.bl {E : SEl} {base n : Nat} {w : World} {v : Value} {vs : List Value} (h : SO E base w v n vs) : ∀ g, BlV v g → base ≤ g ∧ g < w.heap.size := by
  rintro g ⟨ad, m, c, e, rfl⟩
  rcases h.own.2 with ⟨rfl, -⟩ | ⟨g, cap, cur, rfl, -⟩
  · cases e
  · cases e
    exact h.own.lt g rfl
theorem held_len (H : List Hd) (tx : Int) : (heldP H tx).length ≤ H.length := by
  have := heldP_len H tx H.length
  rwa [List.take_length] at this
theorem release_id {H : List Hd} (ho : Once H) {tx : Int} (h : heldP H tx = []) : releaseP H tx = H := by
  unfold releaseP
  refine List.filter_eq_self.2 fun p hp => ?_
  have : p.2 ≠ tx := fun e => by
    have := ((held_is ho tx).2 p.1).2 (by rw [← e]; exact hp)
    rw [h] at this; cases this
  simpa using this
def keepsG (P : Pg) (tx : Int) : Bool := decide (1 < P.act.length) && (decide (0 < (heldP P.H tx).length) || decide (tx ∈ txP P.L fun _ => true))
def gone1 (P : Pg) (tx : Int) : Pg := if 0 < (heldP P.H tx).length then { P with now := P.now + 1, H := releaseP P.H tx } else P
def gone2 (P : Pg) (tx : Int) (v : Value) : Pg := if keepsG P tx = true then { gone1 P tx with kep := putA P.kep tx ⟨v, heldP P.H tx, P.begun⟩ } else forgetG (gone1 P tx) tx
section
variable {M : MF} {w : World} {b ab kb fb lm lr rr : Nat} {GR : Nat → Prop} {c : Cp10} {P : Pg}
theorem wxCommit0 (I : Api9 M) (h : Mem10 M w b ab kb fb lm lr rr GR c P) (hc : PgOk c P) {tx : Int} (hx : (Lit.int .i64 tx).wf = true) (ha : isAct P tx = false) :
    Calls Tryz.prog 32 #[.pointer (some ⟨b, 0, none⟩), .int .i64 tx] w fun e w' => e = .returned (.tuple #[.int .i64 0, .int .i64 101]) ∧ w' = w := by
  have CR := Lib.hid (wxRef h hc hx)
  unfold refG at CR
  rw [ha] at CR
  clear h hc hx
  go_enter Tryz.func32, Tryz.ntmps32
  go_wp2_with (go_at_call 48; go_loud (refine CR.out.mono ?_; rintro e w1 ⟨rfl, hw⟩; replace hw := hw.symm; subst hw))
  refine bodyPost_ret (v := .tuple #[.int .i64 0, .int .i64 101]) (by simp [results, Tryz.results32, go_sem]) rfl ⟨rfl, rfl⟩
set_option maxHeartbeats 16000000 in
theorem wxCommit1 (I : Api9 M) (h : Mem10 M w b ab kb fb lm lr rr GR c P) (hc : PgOk c P) {tx : Int} (hx : (Lit.int .i64 tx).wf = true) (ha : isAct P tx = true) (hbo : bothF (flgOf P tx) = true) :
    Calls Tryz.prog 32 #[.pointer (some ⟨b, 0, none⟩), .int .i64 tx] w fun e w' => e = .returned (.tuple #[.int .i64 0, .int .i64 100]) ∧ LeftG M w w' b ab kb fb lm lr rr GR c (abortG P tx) := by
  have CR := Lib.hid (wxRef h hc hx)
  unfold refG at CR
  rw [ha] at CR
  obtain ⟨-, -, -, -, -, -, c6, -, c8, c9, c10⟩ := h.cells
  have CH := Lib.hid (wkHeld h.lok tx)
  have CT := Lib.hid (fun (w1 : World) (m : Mem10 M w1 b ab kb fb lm lr rr GR c P) => I.txns m.rds)
  have CA := Lib.hid (fun (w1 : World) (m : Mem10 M w1 b ab kb fb lm lr rr GR c P) => wxAbort I m hc hx)
  have KC := Lib.hid (show ∀ w1, Mem10 M w1 b ab kb fb lm lr rr GR c P → w1.cell? ⟨b, 6, none⟩ = some (.map (some ab)) ∧ w1.cell? ⟨b, 8, none⟩ = some (.map (some fb)) ∧ w1.cell? ⟨b, 10, none⟩ = some (.pointer (some ⟨rr, 0, none⟩)) from fun w1 m => ⟨m.cells.2.2.2.2.2.2.1, m.cells.2.2.2.2.2.2.2.2.1, m.cells.2.2.2.2.2.2.2.2.2.2⟩)
  have QF := Lib.hid (fun (w1 : World) (m : Mem10 M w1 b ab kb fb lm lr rr GR c P) => show (Instr.lookup 88 (.map (some fb)) (.int .i64 tx) false).run Tryz.prog w1 = .ok (.agg #[.bool (flgOf P tx).1, .bool (flgOf P tx).2]) w1 from look_flg m.flg hx)
  obtain ⟨na, hna⟩ : ∃ n, (actM P.act).length = n := ⟨_, rfl⟩
  have HNA := Lib.hid hna
  obtain ⟨nh, hnh⟩ : ∃ n, (heldP P.H tx).length = n := ⟨_, rfl⟩
  rw [hnh] at CH
  have HTL := Lib.hid (show (txP P.L fun _ => true).length ≤ 10000000 by
    have h1 := tx_len (L := P.L) (f := fun _ => true)
    have h2 := I.inv h.rds
    have h3 := h2.1.cap
    have h4 := h2.2.2.2
    omega)
  have HM := Lib.hid h
  obtain ⟨f1, f2⟩ : (flgOf P tx).1 = true ∧ (flgOf P tx).2 = true := by
    unfold bothF at hbo
    exact (Bool.and_eq_true _ _).mp hbo
  rw [f1, f2] at QF
  clear h hc hx ha hbo hna hnh f1 f2
  by_cases i1 : (0 : Int) < (nh : Int) <;> by_cases i2 : (1 : Int) < (na : Int)
  all_goals
    go_enter Tryz.func32, Tryz.ntmps32
    go_wp2_with (first
      | (go_at_call 48; go_loud (refine CR.out.mono ?_; rintro e w1 ⟨rfl, hw⟩; replace hw := hw.symm; subst hw))
      | (go_at_call 77; go_loud (refine CH.out.mono ?_; rintro e w2 ⟨v, rfl, o2, b2⟩; have M2 := Lib.hid (HM.out.below I b2); have B2 := Lib.hid b2; obtain ⟨c6, c8, c10⟩ := KC.out _ M2.out; have qF := QF.out _ M2.out; obtain ⟨A, d, rfl, -, -, -, -⟩ := o2.form; clear o2 b2))
      | (at_len; (refine wp_lenN KI HNA.out (by rfl) (.tmp 29) (by rfl) (by rfl) M2.out.act Tryz.underlying86 ?_))
      | (go_at_call 45; go_loud (refine (CT.out _ M2.out).mono ?_; rintro e w3 ⟨v3, rfl, o3, b3⟩; obtain ⟨A3, d3, rfl, sb3, hn3, hm3, ha3⟩ := o3.form; have B3 := Lib.hid (below_next B2.out b3); have M3 := Lib.hid (M2.out.below I b3); obtain ⟨c6, c8, c10⟩ := KC.out _ M3.out; have qF := QF.out _ M3.out; have CC := Lib.hid (wcontainsN (c1 := d3) (by rw [show seN.s = 1 from rfl, Nat.one_mul] at sb3; exact sb3) HTL.out tx); clear o3 b3 sb3 hn3 hm3 ha3))
      | (go_at_call 78; go_loud (refine CC.out.mono ?_; rintro e w4 ⟨rfl, b4⟩; have B4 := Lib.hid (below_next B3.out b4); have M4 := Lib.hid (M3.out.below I b4); obtain ⟨c6, c8, c10⟩ := KC.out _ M4.out; have qF := QF.out _ M4.out; clear b4))
      | (go_at_call 79; go_loud (refine (wxBoth _ _ _).mono ?_; rintro e w5 ⟨rfl, b5⟩; have T5 : True := trivial; have B5 := Lib.hid (below_next (show Below w.heap.size w _ by first | exact B4.out | exact B2.out) b5)))
      | (go_at_call 52; go_loud (refine (CA.out _ (HM.out.below I B5.out)).mono ?_; rintro e w6 ⟨rfl, l6⟩; have L6 := Lib.hid (show LeftG M w5 w6 b ab kb fb lm lr rr GR c (abortG P tx) from l6); clear l6)))
    refine bodyPost_ret (v := .tuple #[.int .i64 0, .int .i64 100]) (by simp [results, Tryz.results32, go_sem]) rfl ⟨rfl, L6.out.after B5.out⟩
end
end Go.Proofs.YtknppiebncdjmaaGreat
