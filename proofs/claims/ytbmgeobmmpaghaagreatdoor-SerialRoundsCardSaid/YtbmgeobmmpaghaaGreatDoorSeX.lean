/- Layer 11: slices.SortFunc of dependencies that the call itself made, by its contract. -/
import Derived.Test.YtbmgeobmmpaghaaGreatDoorSeShelf
import Derived.Test.YtbmgeobmmpaghaaGreatDoorSpCmp2
import Derived.Test.YtbmgeobmmpaghaaGreatDoorSeV
set_option linter.unusedVariables false
namespace Go.Proofs.YtbmgeobmmpaghaaGreatDoor
set_option maxRecDepth 100000
open Go.RowKit

instance : Inhabited Dp := ⟨⟨0, 0, 0⟩⟩
instance : Inhabited Ac := ⟨⟨0, false, ⟨#[]⟩, 0⟩⟩
section
variable {α : Type} [Inhabited α] {f : α → List Value} {s : Nat}
theorem flat_cellsE (hf : ∀ x, (f x).length = s) (hs : 0 < s) (d : Array α) : (Sort.flatK f s d).toList = cellsE f d.toList := by
  apply List.ext_getElem?
  intro t
  have hlen : (cellsE f d.toList).length = s * d.size := by rw [cellsE_len hf]; simp
  by_cases ht : t < d.size * s
  · have hj : t / s < d.size := Nat.div_lt_of_lt_mul (by rw [Nat.mul_comm]; exact ht)
    have h1 : (Sort.flatK f s d)[t]! = (f d[t / s]!)[t % s]! := Sort.get_flatK _ _ _ _ ht
    have h2 : (Sort.flatK f s d).toList[t]? = some ((f d[t / s]!)[t % s]!) := by
      rw [← h1, Array.getElem?_toList, Array.getElem?_eq_getElem (by simpa using ht), getElem!_pos]
    have h3 : d.toList[t / s]? = some d[t / s]! := by
      rw [Array.getElem?_toList, Array.getElem?_eq_getElem hj, getElem!_pos]
    have hm : t % s < (f d[t / s]!).length := by rw [hf]; exact Nat.mod_lt _ hs
    have h4 := cellsE_at hf d.toList (t / s) _ h3 (t % s) _ (List.getElem?_eq_getElem hm)
    rw [h2]
    have e : s * (t / s) + t % s = t := Nat.div_add_mod t s
    rw [e] at h4
    rw [h4, getElem!_pos (f d[t / s]!) (t % s) hm]
  · rw [List.getElem?_eq_none (by simp; omega), List.getElem?_eq_none (by rw [hlen, Nat.mul_comm]; omega)]
end
theorem sortedE_heap (w : World) (m g : Nat) (F : Array Value) (os : Array Obj) (k : Nat) (hk : k < w.heap.size) :
    (Sort.grow (Sort.putRow id (Sort.ahead w m) g 0 F) os).heap[k]? = if k = g then (w.heap[k]?).map (Sort.onCells (Sort.putCells id 0 F)) else w.heap[k]? := by
  unfold Sort.grow Sort.putRow Sort.mapBlock Sort.ahead
  simp only
  rw [Array.getElem?_append_left (by simpa using hk), Array.getElem?_modify]
  by_cases e : g = k
  · subst e; simp
  · rw [if_neg e, if_neg (Ne.symm e)]
theorem so_sortedE {E : SEl} {base n c g m : Nat} {w : World} {vs us : List Value} {os : Array Obj} (h : SO E base w (.slice (some ⟨g, 0, none⟩) n c) n vs) (hl : us.length = E.s * n) (h1 : ∀ u ∈ us, u.oneCell' = true) :
    SO E base (Sort.grow (Sort.putRow id (Sort.ahead w m) g 0 us.toArray) os) (.slice (some ⟨g, 0, none⟩) n c) n us := by
  rcases h.own.2 with ⟨hv, -⟩ | ⟨g', cap, cur, hv, hb, hh, hc, hm, hsz, ht⟩
  · cases hv
  · obtain ⟨rfl, rfl⟩ : g = g' ∧ c = cap := by simpa using hv
    have hle : n * E.s ≤ c * E.s := Nat.mul_le_mul_right _ hc
    refine ⟨⟨by rw [hl, Nat.mul_comm], .inr ⟨g, c, Sort.putCells id 0 us.toArray cur, rfl, hb, ?_, hc, hm, by simpa [Sort.putCells] using hsz, ?_⟩⟩, hl, h1⟩
    · rw [sortedE_heap _ _ _ _ _ _ (Array.getElem?_eq_some_iff.1 hh).1, if_pos rfl, hh]; rfl
    · have hcs : cur.size = c * E.s := hsz
      apply List.ext_getElem?
      intro k
      show (List.take (n * E.s) _)[k]? = _
      rw [List.getElem?_take]
      by_cases hk : k < n * E.s
      · rw [if_pos hk]
        have h1 : k < cur.size := by omega
        have h2 : k < us.length := by rw [hl, Nat.mul_comm]; exact hk
        simp [Sort.putCells, h1, h2]
      · rw [if_neg hk, List.getElem?_eq_none (by rw [hl, Nat.mul_comm]; omega)]
theorem so_sortedE_out {g m : Nat} {w : World} {F : Array Value} {os : Array Obj} : Out (fun k => k = g) w (Sort.grow (Sort.putRow id (Sort.ahead w m) g 0 F) os) :=
  ⟨rfl, rfl, rfl, by simp [Sort.grow, Sort.putRow, Sort.mapBlock, Sort.ahead], fun k hk hn => by
    rw [sortedE_heap _ _ _ _ _ _ hk, if_neg hn]⟩
theorem frozen_of_so {E : SEl} {base n c g : Nat} {w : World} {vs : List Value} (h : SO E base w (.slice (some ⟨g, 0, none⟩) n c) n vs) (k : Nat) : w.frozen? ⟨g, k, none⟩ = false := h.own.frozenAt k

def cmpD (a b : Dp) : Int := orP [cmpI a.fr b.fr, cmpI a.to b.to, cmpI a.kd b.kd]
theorem orP_cons11 (x : Int) (xs : List Int) : orP (x :: xs) = if x = 0 then orP xs else x := by
  unfold orP
  by_cases h : x = 0
  · rw [List.find?_cons_of_neg (by simpa using h), if_pos h]
  · rw [List.find?_cons_of_pos (by simpa using h), if_neg h]; rfl
theorem ltOf_cmpD (a b : Dp) : ltOf cmpD a b = lessD a b := by
  unfold ltOf cmpD lessD
  by_cases h1 : a.fr = b.fr
  · rw [orP_cons11, if_pos ((cmpI_zero _ _).2 h1), if_pos h1]
    by_cases h2 : a.to = b.to
    · rw [orP_cons11, if_pos ((cmpI_zero _ _).2 h2), if_pos h2, orP_cons11]
      by_cases h3 : a.kd = b.kd
      · rw [if_pos ((cmpI_zero _ _).2 h3), h3]; simp [orP]
      · rw [if_neg (fun e => h3 ((cmpI_zero _ _).1 e)), cmpI_lt]
    · rw [orP_cons11, if_neg (fun e => h2 ((cmpI_zero _ _).1 e)), if_neg h2, cmpI_lt]
  · rw [orP_cons11, if_neg (fun e => h1 ((cmpI_zero _ _).1 e)), if_neg h1, cmpI_lt]
theorem swo_cmpD : Sort.SWO (ltOf cmpD) where
  irrefl x := by rw [ltOf_cmpD]; exact lessD_irr x
  trans x y z h1 h2 := by rw [ltOf_cmpD] at *; exact lessD_tr _ _ _ h1 h2
  ntrans x y z h1 h2 := by
    rw [ltOf_cmpD] at *
    cases h3 : lessD x z with
    | false => rfl
    | true =>
      cases h4 : lessD y x with
      | true => rw [lessD_tr _ _ _ h4 h3] at h2; cases h2
      | false => rw [lessD_tri _ _ h1 h4] at h3; rw [h2] at h3; cases h3
set_option maxHeartbeats 16000000 in
theorem wpCmpD (a b : Dp) (w : World) : Calls Tryz.prog 57 #[dpV a, dpV b] w fun e w' => e = .returned (.int .i64 (cmpD a b)) ∧ Gs w w' := by
  obtain ⟨W1, hW1⟩ : ∃ W, w.alloc (.cells #[.int .i64 a.fr, .int .i64 a.to, .int .i64 a.kd] 37) = W := ⟨_, rfl⟩
  obtain ⟨W2, hW2⟩ : ∃ W, W1.alloc (.cells #[.int .i64 b.fr, .int .i64 b.to, .int .i64 b.kd] 37) = W := ⟨_, rfl⟩
  have g1 : Gs w W1 := by rw [← hW1]; exact (Gs.refl w).alloc _
  have GG := Lib.hid (show Gs w W2 by rw [← hW2]; exact g1.alloc _)
  have q0 : W2.heap[w.heap.size]? = some (.cells #[.int .i64 a.fr, .int .i64 a.to, .int .i64 a.kd] 37 (0, 0)) := by
    rw [← hW2, Below.heap_alloc _ _ _ (by rw [← hW1]; simp), ← hW1]; exact heap_alloc_new _ _
  have q1 : W2.heap[w.heap.size + 1]? = some (.cells #[.int .i64 b.fr, .int .i64 b.to, .int .i64 b.kd] 37 (0, 0)) := by
    rw [show w.heap.size + 1 = W1.heap.size by rw [← hW1]; simp, ← hW2]; exact heap_alloc_new _ _
  have S0 : W2.cell? ⟨w.heap.size, 0, none⟩ = some (.int .i64 a.fr) ∧ W2.cell? ⟨w.heap.size, 1, none⟩ = some (.int .i64 a.to) ∧ W2.cell? ⟨w.heap.size, 2, none⟩ = some (.int .i64 a.kd) ∧ W2.cell? ⟨w.heap.size + 1, 0, none⟩ = some (.int .i64 b.fr) ∧ W2.cell? ⟨w.heap.size + 1, 1, none⟩ = some (.int .i64 b.to) ∧ W2.cell? ⟨w.heap.size + 1, 2, none⟩ = some (.int .i64 b.kd) :=
    ⟨cell_of_row _ _ 0 _ _ _ q0, cell_of_row _ _ 1 _ _ _ q0, cell_of_row _ _ 2 _ _ _ q0, cell_of_row _ _ 0 _ _ _ q1, cell_of_row _ _ 1 _ _ _ q1, cell_of_row _ _ 2 _ _ _ q1⟩
  have S1 : ∀ o, (W2.alloc o).cell? ⟨w.heap.size, 0, none⟩ = some (.int .i64 a.fr) ∧ (W2.alloc o).cell? ⟨w.heap.size, 1, none⟩ = some (.int .i64 a.to) ∧ (W2.alloc o).cell? ⟨w.heap.size, 2, none⟩ = some (.int .i64 a.kd) ∧ (W2.alloc o).cell? ⟨w.heap.size + 1, 0, none⟩ = some (.int .i64 b.fr) ∧ (W2.alloc o).cell? ⟨w.heap.size + 1, 1, none⟩ = some (.int .i64 b.to) ∧ (W2.alloc o).cell? ⟨w.heap.size + 1, 2, none⟩ = some (.int .i64 b.kd) := fun o => by
    have hb : Below W2.heap.size W2 (W2.alloc o) := (Below.refl _ _).alloc (Nat.le_refl _) o
    exact ⟨keep_below S0.1 hb, keep_below S0.2.1 hb, keep_below S0.2.2.1 hb, keep_below S0.2.2.2.1 hb, keep_below S0.2.2.2.2.1 hb, keep_below S0.2.2.2.2.2 hb⟩
  obtain ⟨x, hx⟩ : ∃ x, cmpI a.fr b.fr = x := ⟨_, rfl⟩
  obtain ⟨y, hy⟩ : ∃ y, cmpI a.to b.to = y := ⟨_, rfl⟩
  obtain ⟨u, hu⟩ : ∃ u, cmpI a.kd b.kd = u := ⟨_, rfl⟩
  have C1 := Lib.hid (fun W => wcmp_int a.fr b.fr W)
  have C2 := Lib.hid (fun W => wcmp_int a.to b.to W)
  have C3 := Lib.hid (fun W => wcmp_int a.kd b.kd W)
  rw [hx] at C1
  rw [hy] at C2
  rw [hu] at C3
  have HW1 := Lib.hid hW1
  have HW2 := Lib.hid hW2
  have HE := Lib.hid (show cmpD a b = orP [x, y, u] by unfold cmpD; rw [hx, hy, hu])
  rw [HE.out]
  have C5 := Lib.hid (fun (W : World) (o : Nat) (h : W.heap[o]? = some (.cells #[.int .i64 x, .int .i64 y, .int .i64 u] 3 (0, 0))) => wcmpOrL (n := 3) (xs := [x, y, u]) rfl (by omega) (row_at h rfl))
  generalize orP [x, y, u] = z at C5 ⊢
  obtain ⟨af, at_, ak⟩ := a
  obtain ⟨bf, bt, bk⟩ := b
  dsimp only at *
  clear hW1 hW2 g1 q0 q1 hx hy hu HE
  unfold dpV
  dsimp only
  go_enter Tryz.func57, Tryz.ntmps57
  go_upto_region 1 with fail
  rw [HW1.out, HW2.out]
  go_region_held3 (fun w' => w'.cell? ⟨w.heap.size, 0, none⟩ = some (.int .i64 af) ∧ w'.cell? ⟨w.heap.size, 1, none⟩ = some (.int .i64 at_) ∧ w'.cell? ⟨w.heap.size, 2, none⟩ = some (.int .i64 ak) ∧ w'.cell? ⟨w.heap.size + 1, 0, none⟩ = some (.int .i64 bf) ∧ w'.cell? ⟨w.heap.size + 1, 1, none⟩ = some (.int .i64 bt) ∧ w'.cell? ⟨w.heap.size + 1, 2, none⟩ = some (.int .i64 bk))
    (first | exact S0 | exact S1 _)
    (first
      | (go_at_call_of 59 (Value.int IntKind.i64 af); go_loud (refine (C1.out _).mono ?_; rintro e w1 ⟨rfl, hw⟩; replace hw := hw.symm; subst hw))
      | (go_at_call_of 59 (Value.int IntKind.i64 at_); go_loud (refine (C2.out _).mono ?_; rintro e w1 ⟨rfl, hw⟩; replace hw := hw.symm; subst hw))
      | (go_at_call_of 59 (Value.int IntKind.i64 ak); go_loud (refine (C3.out _).mono ?_; rintro e w1 ⟨rfl, hw⟩; replace hw := hw.symm; subst hw))
      | (go_at_call 58; go_loud (refine (C5.out _ _ (by exact heap_alloc_new W2 _)).mono ?_; rintro e w3 ⟨rfl, hw⟩; replace hw := hw.symm; subst hw)))
  all_goals
    go_wp2
    go_ret
    exact ⟨rfl, by first | exact GG.out.alloc _ | exact GG.out.drew.alloc _⟩
theorem cmpLaysD (blk off size : Nat) (w : World) : CmpLays Tryz.prog 57 #[] dpC 3 cmpD blk off size w := fun _ _ _ _ x y => wpCmpD x y _
/-- slices.SortFunc of a list that the call made. -/
theorem wsortD {base : Nat} {w : World} {v : Value} {ls : List Dp} (h : SO seD base w v ls.length (cellsE dpC ls)) (hn : ls.length ≤ 4000000) :
    Calls Tryz.prog 56 #[v, .func (.func 57) #[] #[]] w fun e w' => e = .returned (.tuple #[]) ∧ (∃ ms : List Dp, ms.Perm ls ∧ ms.Pairwise (fun a b => lessD b a = false) ∧ SO seD base w' v ls.length (cellsE dpC ms)) ∧ Below base w w' := by
  rcases h.own.2 with ⟨rfl, h0⟩ | ⟨g, cap, cur, rfl, hb, hh, -⟩
  · have hz : ls = [] := List.eq_nil_of_length_eq_zero h0
    subst hz
    have hcon := AnyF.slices_SortFunc_none Tryz.sortD none 0 (.func (.func 57) #[] #[]) w
    change Calls Tryz.prog 56 _ _ _ at hcon
    refine hcon.mono ?_
    rintro e w' ⟨h1, rfl⟩
    exact ⟨h1, ⟨[], List.Perm.refl _, List.Pairwise.nil, h⟩, Below.refl _ _⟩
  · obtain ⟨A, c, e1, hsb, -⟩ := h.form
    obtain ⟨rfl, rfl⟩ : A = some ⟨g, 0, none⟩ ∧ c = cap := by
      simp at e1; exact ⟨e1.1.symm, e1.2.symm⟩
    rw [show seD.s * ls.length = 3 * ls.length from rfl] at hsb
    have hF : (Sort.flatK dpC 3 ls.toArray).toList = cellsE dpC ls := flat_cellsE dpC_len (by omega) ls.toArray
    have hH : Sort.HoldsK dpC 3 w g 0 ls.toArray := fun j hj => by
      have hj' : j < (cellsE dpC ls).length := by rw [← hF]; simpa using hj
      obtain ⟨x, hx⟩ : ∃ x, (cellsE dpC ls)[j]? = some x := ⟨_, List.getElem?_eq_getElem hj'⟩
      obtain ⟨g1, o1, e2, hc⟩ := hsb.at_ hx
      cases e2
      refine ⟨?_, frozen_of_row _ _ _ _ _ hh⟩
      rw [hc, getElem!_pos (Sort.flatK dpC 3 ls.toArray) j hj]
      rw [← hF, Array.getElem?_toList, Array.getElem?_eq_getElem hj] at hx
      exact congrArg some (Option.some.inj hx).symm
    have hlt := (Array.getElem?_eq_some_iff.1 hh).1
    have eg : ∀ args w, (callFunc 57 args).run Tryz.prog w = .ok (.enter 57 args) w := enters_of Tryz.func57 (by kernel_rfl) rfl
    have hcon := AnyQ.slices_SortFunc Tryz.sortD 3 Tryz.isAgg37 Tryz.sizeOf37 dpC (fun _ => rfl) (fun x v hv => dpC_one x v hv) cmpD swo_cmpD 57 #[] g 0 c ls.toArray w eg (cmpLaysD _ _ _ _) hH hlt (by simp; omega)
    change Calls Tryz.prog 56 _ _ _ at hcon
    refine hcon.mono ?_
    rintro e w' ⟨h1, d', m, os, hp, hs, rfl⟩
    obtain ⟨p1, -, p3⟩ := hp
    have hperm : d'.toList.Perm ls := by
      have a1 : d'.extract 0 ls.toArray.size = d' := by rw [← p1]; simp
      have a2 : ls.toArray.extract 0 ls.toArray.size = ls.toArray := by simp
      have : d'.toList.Perm ls.toArray.toList := by rwa [a1, a2] at p3
      simpa using this
    have hFd : Sort.flatK dpC 3 d' = (cellsE dpC d'.toList).toArray := by rw [← flat_cellsE dpC_len (by omega)]
    refine ⟨h1, ⟨d'.toList, hperm, ?_, ?_⟩, ?_⟩
    · rw [List.pairwise_iff_getElem]
      intro i j hi hj hij
      have hi' : i < d'.size := by simpa using hi
      have hj' : j < d'.size := by simpa using hj
      have h2 := hs i j (Nat.zero_le _) hij (by rw [← p1]; exact hj')
      rw [ltOf_cmpD, getElem!_pos d' i hi', getElem!_pos d' j hj'] at h2
      simpa using h2
    · unfold sortWorldK Sort.putRowK
      rw [hFd]
      exact so_sortedE h (by rw [cellsE_len dpC_len, hperm.length_eq]; rfl) (cellsE_one dpC_one _)
    · exact so_sortedE_out.below (by omega) fun i hi e => by omega
end Go.Proofs.YtbmgeobmmpaghaaGreatDoor
