import Derived.Test.YtnpeankmmojebaaGreatDoorJAI
import Derived.Test.YtnpeankmmojebaaGreatDoorJAJ
import Derived.Test.YtnpeankmmojebaaGreatDoorSeV
import Derived.Test.YtnpeankmmojebaaGreatDoorJAH
/- Layer 11: slices.SortFunc of dependencies that the call itself made, by its contract. -/
set_option linter.unusedVariables false
namespace Go.Proofs.YtnpeankmmojebaaGreatDoor
set_option maxRecDepth 100000
set_option maxRecDepth 100000
open Go.RowKit

instance : Inhabited Dp := ⟨⟨0, 0, 0⟩⟩
instance : Inhabited Ac := ⟨⟨0, false, ⟨#[]⟩, 0⟩⟩
section
variable {α : Type} [Inhabited α] {f : α → List Value} {s : Nat}
theorem flat_cellsE (hf : ∀ x, (f x).length = s) (hs : 0 < s) (d : Array α) : (Sort.flatK f s d).toList = cellsE f d.toList := by
  apply List.ext_getElem?
  intro t
  have hlen : (cellsE f d.toList).length = s * d.size := by rw [cellsE_len hf]; simp
  by_cases ht : t < d.size * s
  · have hj : t / s < d.size := Nat.div_lt_of_lt_mul (by rw [Nat.mul_comm]; exact ht)
    have h1 : (Sort.flatK f s d)[t]! = (f d[t / s]!)[t % s]! := Sort.get_flatK _ _ _ _ ht
    have h2 : (Sort.flatK f s d).toList[t]? = some ((f d[t / s]!)[t % s]!) := by
      rw [← h1, Array.getElem?_toList, Array.getElem?_eq_getElem (by simpa using ht), getElem!_pos]
    have h3 : d.toList[t / s]? = some d[t / s]! := by
      rw [Array.getElem?_toList, Array.getElem?_eq_getElem hj, getElem!_pos]
    have hm : t % s < (f d[t / s]!).length := by rw [hf]; exact Nat.mod_lt _ hs
    have h4 := cellsE_at hf d.toList (t / s) _ h3 (t % s) _ (List.getElem?_eq_getElem hm)
    rw [h2]
    have e : s * (t / s) + t % s = t := Nat.div_add_mod t s
    rw [e] at h4
    rw [h4, getElem!_pos (f d[t / s]!) (t % s) hm]
  · rw [List.getElem?_eq_none (by simp; omega), List.getElem?_eq_none (by rw [hlen, Nat.mul_comm]; omega)]
end
theorem sortedE_heap (w : World) (m g : Nat) (F : Array Value) (os : Array Obj) (k : Nat) (hk : k < w.heap.size) :
    (Sort.grow (Sort.putRow id (Sort.ahead w m) g 0 F) os).heap[k]? = if k = g then (w.heap[k]?).map (Sort.onCells (Sort.putCells id 0 F)) else w.heap[k]? := by
  unfold Sort.grow Sort.putRow Sort.mapBlock Sort.ahead
  simp only
  rw [Array.getElem?_append_left (by simpa using hk), Array.getElem?_modify]
  by_cases e : g = k
  · subst e; simp
  · rw [if_neg e, if_neg (Ne.symm e)]
theorem so_sortedE {E : SEl} {base n c g m : Nat} {w : World} {vs us : List Value} {os : Array Obj} (h : SO E base w (.slice (some ⟨g, 0, none⟩) n c) n vs) (hl : us.length = E.s * n) (h1 : ∀ u ∈ us, u.oneCell' = true) :
    SO E base (Sort.grow (Sort.putRow id (Sort.ahead w m) g 0 us.toArray) os) (.slice (some ⟨g, 0, none⟩) n c) n us := by
  rcases h.own.2 with ⟨hv, -⟩ | ⟨g', cap, cur, hv, hb, hh, hc, hm, hsz, ht⟩
  · cases hv
  · obtain ⟨rfl, rfl⟩ : g = g' ∧ c = cap := by simpa using hv
    have hle : n * E.s ≤ c * E.s := Nat.mul_le_mul_right _ hc
    refine ⟨⟨by rw [hl, Nat.mul_comm], .inr ⟨g, c, Sort.putCells id 0 us.toArray cur, rfl, hb, ?_, hc, hm, by simpa [Sort.putCells] using hsz, ?_⟩⟩, hl, h1⟩
    · rw [sortedE_heap _ _ _ _ _ _ (Array.getElem?_eq_some_iff.1 hh).1, if_pos rfl, hh]; rfl
    · have hcs : cur.size = c * E.s := hsz
      apply List.ext_getElem?
      intro k
      show (List.take (n * E.s) _)[k]? = _
      rw [List.getElem?_take]
      by_cases hk : k < n * E.s
      · rw [if_pos hk]
        have h1 : k < cur.size := by omega
        have h2 : k < us.length := by rw [hl, Nat.mul_comm]; exact hk
        simp [Sort.putCells, h1, h2]
      · rw [if_neg hk, List.getElem?_eq_none (by rw [hl, Nat.mul_comm]; omega)]
theorem so_sortedE_out {g m : Nat} {w : World} {F : Array Value} {os : Array Obj} : Out (fun k => k = g) w (Sort.grow (Sort.putRow id (Sort.ahead w m) g 0 F) os) :=
  ⟨rfl, rfl, rfl, by simp [Sort.grow, Sort.putRow, Sort.mapBlock, Sort.ahead], fun k hk hn => by
    rw [sortedE_heap _ _ _ _ _ _ hk, if_neg hn]⟩
theorem frozen_of_so {E : SEl} {base n c g : Nat} {w : World} {vs : List Value} (h : SO E base w (.slice (some ⟨g, 0, none⟩) n c) n vs) (k : Nat) : w.frozen? ⟨g, k, none⟩ = false := h.own.frozenAt k

def cmpD (a b : Dp) : Int := orP [cmpI a.fr b.fr, cmpI a.to b.to, cmpI a.kd b.kd]
theorem orP_cons11 (x : Int) (xs : List Int) : orP (x :: xs) = if x = 0 then orP xs else x := by
  unfold orP
  by_cases h : x = 0
  · rw [List.find?_cons_of_neg (by simpa using h), if_pos h]
  · rw [List.find?_cons_of_pos (by simpa using h), if_neg h]; rfl
theorem ltOf_cmpD (a b : Dp) : ltOf cmpD a b = lessD a b := by
  unfold ltOf cmpD lessD
  by_cases h1 : a.fr = b.fr
  · rw [orP_cons11, if_pos ((cmpI_zero _ _).2 h1), if_pos h1]
    by_cases h2 : a.to = b.to
    · rw [orP_cons11, if_pos ((cmpI_zero _ _).2 h2), if_pos h2, orP_cons11]
      by_cases h3 : a.kd = b.kd
      · rw [if_pos ((cmpI_zero _ _).2 h3), h3]; simp [orP]
      · rw [if_neg (fun e => h3 ((cmpI_zero _ _).1 e)), cmpI_lt]
    · rw [orP_cons11, if_neg (fun e => h2 ((cmpI_zero _ _).1 e)), if_neg h2, cmpI_lt]
  · rw [orP_cons11, if_neg (fun e => h1 ((cmpI_zero _ _).1 e)), if_neg h1, cmpI_lt]
theorem swo_cmpD : Sort.SWO (ltOf cmpD) where
  irrefl x := by rw [ltOf_cmpD]; exact lessD_irr x
  trans x y z h1 h2 := by rw [ltOf_cmpD] at *; exact lessD_tr _ _ _ h1 h2
  ntrans x y z h1 h2 := by
    rw [ltOf_cmpD] at *
    cases h3 : lessD x z with
    | false => rfl
    | true =>
      cases h4 : lessD y x with
      | true => rw [lessD_tr _ _ _ h4 h3] at h2; cases h2
      | false => rw [lessD_tri _ _ h1 h4] at h3; rw [h2] at h3; cases h3
set_option maxHeartbeats 16000000 in
theorem wpCmpD (a b : Dp) (w : World) : Calls Tryz.prog 53 #[dpV a, dpV b] w fun e w' => e = .returned (.int .i64 (cmpD a b)) ∧ Gs w w' := by
  obtain ⟨W1, hW1⟩ : ∃ W, w.alloc (.cells #[.int .i64 a.fr, .int .i64 a.to, .int .i64 a.kd] 51) = W := ⟨_, rfl⟩
  obtain ⟨W2, hW2⟩ : ∃ W, W1.alloc (.cells #[.int .i64 b.fr, .int .i64 b.to, .int .i64 b.kd] 51) = W := ⟨_, rfl⟩
  have g1 : Gs w W1 := by rw [← hW1]; exact (Gs.refl w).alloc _
  have GG := Lib.hid (show Gs w W2 by rw [← hW2]; exact g1.alloc _)
  have q0 : W2.heap[w.heap.size]? = some (.cells #[.int .i64 a.fr, .int .i64 a.to, .int .i64 a.kd] 51 (0, 0)) := by
    rw [← hW2, Below.heap_alloc _ _ _ (by rw [← hW1]; simp), ← hW1]; exact heap_alloc_new _ _
  have q1 : W2.heap[w.heap.size + 1]? = some (.cells #[.int .i64 b.fr, .int .i64 b.to, .int .i64 b.kd] 51 (0, 0)) := by
    rw [show w.heap.size + 1 = W1.heap.size by rw [← hW1]; simp, ← hW2]; exact heap_alloc_new _ _
  have S0 : W2.cell? ⟨w.heap.size, 0, none⟩ = some (.int .i64 a.fr) ∧ W2.cell? ⟨w.heap.size, 1, none⟩ = some (.int .i64 a.to) ∧ W2.cell? ⟨w.heap.size, 2, none⟩ = some (.int .i64 a.kd) ∧ W2.cell? ⟨w.heap.size + 1, 0, none⟩ = some (.int .i64 b.fr) ∧ W2.cell? ⟨w.heap.size + 1, 1, none⟩ = some (.int .i64 b.to) ∧ W2.cell? ⟨w.heap.size + 1, 2, none⟩ = some (.int .i64 b.kd) :=
    ⟨cell_of_row _ _ 0 _ _ _ q0, cell_of_row _ _ 1 _ _ _ q0, cell_of_row _ _ 2 _ _ _ q0, cell_of_row _ _ 0 _ _ _ q1, cell_of_row _ _ 1 _ _ _ q1, cell_of_row _ _ 2 _ _ _ q1⟩
  have S1 : ∀ o, (W2.alloc o).cell? ⟨w.heap.size, 0, none⟩ = some (.int .i64 a.fr) ∧ (W2.alloc o).cell? ⟨w.heap.size, 1, none⟩ = some (.int .i64 a.to) ∧ (W2.alloc o).cell? ⟨w.heap.size, 2, none⟩ = some (.int .i64 a.kd) ∧ (W2.alloc o).cell? ⟨w.heap.size + 1, 0, none⟩ = some (.int .i64 b.fr) ∧ (W2.alloc o).cell? ⟨w.heap.size + 1, 1, none⟩ = some (.int .i64 b.to) ∧ (W2.alloc o).cell? ⟨w.heap.size + 1, 2, none⟩ = some (.int .i64 b.kd) := fun o => by
    have hb : Below W2.heap.size W2 (W2.alloc o) := (Below.refl _ _).alloc (Nat.le_refl _) o
    exact ⟨keep_below S0.1 hb, keep_below S0.2.1 hb, keep_below S0.2.2.1 hb, keep_below S0.2.2.2.1 hb, keep_below S0.2.2.2.2.1 hb, keep_below S0.2.2.2.2.2 hb⟩
  obtain ⟨x, hx⟩ : ∃ x, cmpI a.fr b.fr = x := ⟨_, rfl⟩
  obtain ⟨y, hy⟩ : ∃ y, cmpI a.to b.to = y := ⟨_, rfl⟩
  obtain ⟨u, hu⟩ : ∃ u, cmpI a.kd b.kd = u := ⟨_, rfl⟩
  have C1 := Lib.hid (fun W => wcmp_int a.fr b.fr W)
  have C2 := Lib.hid (fun W => wcmp_int a.to b.to W)
  have C3 := Lib.hid (fun W => wcmp_int a.kd b.kd W)
  rw [hx] at C1
  rw [hy] at C2
  rw [hu] at C3
  have HW1 := Lib.hid hW1
  have HW2 := Lib.hid hW2
  have HE := Lib.hid (show cmpD a b = orP [x, y, u] by unfold cmpD; rw [hx, hy, hu])
  rw [HE.out]
  have C5 := Lib.hid (fun (W : World) (o : Nat) (h : W.heap[o]? = some (.cells #[.int .i64 x, .int .i64 y, .int .i64 u] 3 (0, 0))) => wcmpOrL (n := 3) (xs := [x, y, u]) rfl (by omega) (row_at h rfl))
  generalize orP [x, y, u] = z at C5 ⊢
  obtain ⟨af, at_, ak⟩ := a
  obtain ⟨bf, bt, bk⟩ := b
  dsimp only at *
  clear hW1 hW2 g1 q0 q1 hx hy hu HE
  unfold dpV
  dsimp only
  go_enter Tryz.func53, Tryz.ntmps53
  go_upto_region 1 with fail
  rw [HW1.out, HW2.out]
  go_region_held3 (fun w' => w'.cell? ⟨w.heap.size, 0, none⟩ = some (.int .i64 af) ∧ w'.cell? ⟨w.heap.size, 1, none⟩ = some (.int .i64 at_) ∧ w'.cell? ⟨w.heap.size, 2, none⟩ = some (.int .i64 ak) ∧ w'.cell? ⟨w.heap.size + 1, 0, none⟩ = some (.int .i64 bf) ∧ w'.cell? ⟨w.heap.size + 1, 1, none⟩ = some (.int .i64 bt) ∧ w'.cell? ⟨w.heap.size + 1, 2, none⟩ = some (.int .i64 bk))
    (first | exact S0 | exact S1 _)
    (first
      | (go_at_call_of 55 (Value.int IntKind.i64 af); go_loud (refine (C1.out _).mono ?_; rintro e w1 ⟨rfl, hw⟩; replace hw := hw.symm; subst hw))
      | (go_at_call_of 55 (Value.int IntKind.i64 at_); go_loud (refine (C2.out _).mono ?_; rintro e w1 ⟨rfl, hw⟩; replace hw := hw.symm; subst hw))
      | (go_at_call_of 55 (Value.int IntKind.i64 ak); go_loud (refine (C3.out _).mono ?_; rintro e w1 ⟨rfl, hw⟩; replace hw := hw.symm; subst hw))
      | (go_at_call 54; go_loud (refine (C5.out _ _ (by exact heap_alloc_new W2 _)).mono ?_; rintro e w3 ⟨rfl, hw⟩; replace hw := hw.symm; subst hw)))
  all_goals
    go_wp2
    go_ret
    exact ⟨rfl, by first | exact GG.out.alloc _ | exact GG.out.drew.alloc _⟩
theorem cmpLaysD (blk off size : Nat) (w : World) : CmpLays Tryz.prog 53 #[] dpC 3 cmpD blk off size w := fun _ _ _ _ x y => wpCmpD x y _
/-- slices.SortFunc of a list that the call made. -/
theorem wsortD {base : Nat} {w : World} {v : Value} {ls : List Dp} (h : SO seD base w v ls.length (cellsE dpC ls)) (hn : ls.length ≤ 4000000) :
    Calls Tryz.prog 52 #[v, .func (.func 53) #[] #[]] w fun e w' => e = .returned (.tuple #[]) ∧ (∃ ms : List Dp, ms.Perm ls ∧ ms.Pairwise (fun a b => lessD b a = false) ∧ SO seD base w' v ls.length (cellsE dpC ms)) ∧ Below base w w' := by
  rcases h.own.2 with ⟨rfl, h0⟩ | ⟨g, cap, cur, rfl, hb, hh, -⟩
  · have hz : ls = [] := List.eq_nil_of_length_eq_zero h0
    subst hz
    have hcon := AnyF.slices_SortFunc_none Tryz.sortD none 0 (.func (.func 53) #[] #[]) w
    change Calls Tryz.prog 52 _ _ _ at hcon
    refine hcon.mono ?_
    rintro e w' ⟨h1, rfl⟩
    exact ⟨h1, ⟨[], List.Perm.refl _, List.Pairwise.nil, h⟩, Below.refl _ _⟩
  · obtain ⟨A, c, e1, hsb, -⟩ := h.form
    obtain ⟨rfl, rfl⟩ : A = some ⟨g, 0, none⟩ ∧ c = cap := by
      simp at e1; exact ⟨e1.1.symm, e1.2.symm⟩
    rw [show seD.s * ls.length = 3 * ls.length from rfl] at hsb
    have hF : (Sort.flatK dpC 3 ls.toArray).toList = cellsE dpC ls := flat_cellsE dpC_len (by omega) ls.toArray
    have hH : Sort.HoldsK dpC 3 w g 0 ls.toArray := fun j hj => by
      have hj' : j < (cellsE dpC ls).length := by rw [← hF]; simpa using hj
      obtain ⟨x, hx⟩ : ∃ x, (cellsE dpC ls)[j]? = some x := ⟨_, List.getElem?_eq_getElem hj'⟩
      obtain ⟨g1, o1, e2, hc⟩ := hsb.at_ hx
      cases e2
      refine ⟨?_, frozen_of_row _ _ _ _ _ hh⟩
      rw [hc, getElem!_pos (Sort.flatK dpC 3 ls.toArray) j hj]
      rw [← hF, Array.getElem?_toList, Array.getElem?_eq_getElem hj] at hx
      exact congrArg some (Option.some.inj hx).symm
    have hlt := (Array.getElem?_eq_some_iff.1 hh).1
    have eg : ∀ args w, (callFunc 53 args).run Tryz.prog w = .ok (.enter 53 args) w := enters_of Tryz.func53 (by kernel_rfl) rfl
    have hcon := AnyQ.slices_SortFunc Tryz.sortD 3 Tryz.isAgg51 Tryz.sizeOf51 dpC (fun _ => rfl) (fun x v hv => dpC_one x v hv) cmpD swo_cmpD 53 #[] g 0 c ls.toArray w eg (cmpLaysD _ _ _ _) hH hlt (by simp; omega)
    change Calls Tryz.prog 52 _ _ _ at hcon
    refine hcon.mono ?_
    rintro e w' ⟨h1, d', m, os, hp, hs, rfl⟩
    obtain ⟨p1, -, p3⟩ := hp
    have hperm : d'.toList.Perm ls := by
      have a1 : d'.extract 0 ls.toArray.size = d' := by rw [← p1]; simp
      have a2 : ls.toArray.extract 0 ls.toArray.size = ls.toArray := by simp
      have : d'.toList.Perm ls.toArray.toList := by rwa [a1, a2] at p3
      simpa using this
    have hFd : Sort.flatK dpC 3 d' = (cellsE dpC d'.toList).toArray := by rw [← flat_cellsE dpC_len (by omega)]
    refine ⟨h1, ⟨d'.toList, hperm, ?_, ?_⟩, ?_⟩
    · rw [List.pairwise_iff_getElem]
      intro i j hi hj hij
      have hi' : i < d'.size := by simpa using hi
      have hj' : j < d'.size := by simpa using hj
      have h2 := hs i j (Nat.zero_le _) hij (by rw [← p1]; exact hj')
      rw [ltOf_cmpD, getElem!_pos d' i hi', getElem!_pos d' j hj'] at h2
      simpa using h2
    · unfold sortWorldK Sort.putRowK
      rw [hFd]
      exact so_sortedE h (by rw [cellsE_len dpC_len, hperm.length_eq]; rfl) (cellsE_one dpC_one _)
    · exact so_sortedE_out.below (by omega) fun i hi e => by omega
end Go.Proofs.YtnpeankmmojebaaGreatDoor

/- Layer 11: which version stands behind which, as the writes are gone through in the order of the commits. -/
namespace Go.Proofs.YtnpeankmmojebaaGreatDoor
set_option maxRecDepth 100000
set_option maxRecDepth 100000
open Go.RowKit Go.Maps Go.ChangeMaps Go.MapKept

/-- What stands behind a number in a list. -/
def succP : List Int → Int → Option Int
  | [], _ => none
  | [_], _ => none
  | a :: b :: l, v => if v = a then some b else succP (b :: l) v
theorem succP_none {L : List Int} {v : Int} (h : v ∉ L) : succP L v = none := by
  induction L with
  | nil => rfl
  | cons a L ih =>
    cases L with
    | nil => rfl
    | cons b L =>
      show (if v = a then some b else succP (b :: L) v) = none
      rw [if_neg (fun e => h (by rw [e]; exact List.mem_cons_self ..))]
      exact ih (fun k => h (List.mem_cons_of_mem _ k))
theorem lastD_cons (b : Int) (L : List Int) (a : Int) : (b :: L).getLastD a = L.getLastD b := by cases L <;> rfl
theorem lastD_mem (a : Int) (L : List Int) : L.getLastD a ∈ a :: L := by
  induction L generalizing a with
  | nil => simp
  | cons b L ih => rw [lastD_cons]; exact List.mem_cons_of_mem _ (ih b)
theorem lastD_app (a x : Int) (L : List Int) : (L ++ [x]).getLastD a = x := by
  induction L generalizing a with
  | nil => rfl
  | cons b L ih => rw [List.cons_append, lastD_cons]; exact ih b
theorem succP_app : ∀ (a : Int) (L : List Int) (x v : Int), (a :: L).Nodup → succP (a :: L ++ [x]) v = if v = L.getLastD a then some x else succP (a :: L) v
  | a, [], x, v, _ => by
    show (if v = a then some x else none) = _
    by_cases e : v = a <;> simp [e, succP]
  | a, b :: L, x, v, h => by
    obtain ⟨h1, h2⟩ := List.nodup_cons.1 h
    have ih := succP_app b L x v h2
    show (if v = a then some b else succP (b :: L ++ [x]) v) = _
    rw [ih, lastD_cons]
    show _ = if v = L.getLastD b then some x else if v = a then some b else succP (b :: L) v
    by_cases e : v = a
    · rw [if_pos e, if_neg (fun k => h1 (by rw [← e, k]; exact lastD_mem b L)), if_pos e]
    · rw [if_neg e, if_neg e]
theorem succP_mid : ∀ (A : List Int) (v : Int) (B : List Int), (A ++ v :: B).Nodup → succP (A ++ v :: B) v = B.head?
  | [], v, B, _ => by cases B <;> simp [succP]
  | a :: A, v, B, h => by
    obtain ⟨h1, h2⟩ := List.nodup_cons.1 h
    have ih := succP_mid A v B h2
    have hne : v ≠ a := fun e => h1 (by rw [← e]; simp)
    cases hA : A ++ v :: B with
    | nil => simp at hA
    | cons b L =>
      rw [hA] at ih
      show succP (a :: (A ++ v :: B)) v = _
      rw [hA]
      show (if v = a then some b else succP (b :: L) v) = _
      rw [if_neg hne]; exact ih
/-- Who writes an item, in the order of a list of writes. -/
def wOf (l : List Ac) (it : ByteArray) : List Int := (l.filter fun a => decide (a.item = it)).map (·.txn)
theorem wOf_next {l : List Ac} {j : Nat} {a : Ac} (h : l[j]? = some a) (it : ByteArray) : wOf (l.take (j + 1)) it = if it = a.item then wOf (l.take j) it ++ [a.txn] else wOf (l.take j) it := by
  unfold wOf
  rw [List.take_add_one, h, Option.toList_some, List.filter_append, List.map_append]
  by_cases e : it = a.item
  · subst e; simp
  · have e2 : ¬ a.item = it := fun k => e k.symm
    simp [e, e2]
/-- What the two maps hold behind some writes. -/
structure NxIs (l : List Ac) (nx : List (Vr × Value)) (nw : List (ByteArray × Value)) : Prop where
  nx : ∀ it v, getM nx (it, v) = (succP (0 :: wOf l it) v).map (.int .i64)
  nw : ∀ it, (getM nw it).getD (.int .i64 0) = .int .i64 ((wOf l it).getLastD 0)
theorem NxIs.nil : NxIs [] [] [] := ⟨fun it v => rfl, fun it => rfl⟩
theorem NxIs.step {l : List Ac} {j : Nat} {a : Ac} {nx : List (Vr × Value)} {nw : List (ByteArray × Value)} (h : NxIs (l.take j) nx nw) (ha : l[j]? = some a) (hd : (0 :: wOf (l.take j) a.item).Nodup) :
    NxIs (l.take (j + 1)) (putM nx (a.item, (wOf (l.take j) a.item).getLastD 0) (.int .i64 a.txn)) (putM nw a.item (.int .i64 a.txn)) where
  nx it v := by
    rw [getM_put, wOf_next ha]
    by_cases e : it = a.item
    · subst e
      rw [if_pos rfl, ← List.cons_append, succP_app _ _ _ _ hd]
      by_cases e2 : v = (wOf (l.take j) a.item).getLastD 0
      · rw [if_pos (by rw [e2]), if_pos e2]; rfl
      · rw [if_neg (fun k => e2 (Prod.mk.inj k).2), if_neg e2]
        exact h.nx _ _
    · rw [if_neg (fun k => e (Prod.mk.inj k).1), if_neg e]
      exact h.nx it v
  nw it := by
    rw [getM_put]
    by_cases e : it = a.item
    · subst e
      rw [if_pos rfl]
      rw [wOf_next ha, if_pos rfl, lastD_app]; rfl
    · rw [if_neg e, wOf_next ha, if_neg e]
      exact h.nw it
section
variable {cs : List Int} {ac : List Ac}
/-- Who writes an item, in the order of the commits. -/
def wrs (cs : List Int) (ac : List Ac) (it : ByteArray) : List Int := cs.filter fun n => writesP ac n it
theorem Right.wrs_ok (h : Right cs ac) (it : ByteArray) : (0 :: wrs cs ac it).Nodup := by
  refine List.nodup_cons.2 ⟨fun k => ?_, h.nd.sublist List.filter_sublist⟩
  have := h.pos 0 (List.mem_filter.1 k).1
  omega
/-- The next version is the one behind, in that order. -/
theorem Right.next_is (h : Right cs ac) {it : ByteArray} {v : Int} (hv : v = 0 ∨ writesP ac v it = true) : nextP cs ac it v = (succP (0 :: wrs cs ac it) v).getD 0 := by
  have hd := h.wrs_ok it
  unfold nextP
  by_cases h0 : v = 0
  · subst h0
    rw [if_pos rfl, List.drop_zero]
    have := succP_mid [] 0 (wrs cs ac it) hd
    rw [List.nil_append] at this
    rw [this]
    unfold wrs
    rw [List.head?_filter]
  · have hw : writesP ac v it = true := hv.resolve_left h0
    obtain ⟨b, hb, -, e, -⟩ := writesP_is.1 hw
    have hvc : v ∈ cs := by rw [← e]; exact h.txn b hb
    have hi := plcP_at hvc
    have hlt := (List.getElem?_eq_some_iff.1 hi).1
    have hp : (plcP cs v + 1).toNat = cs.idxOf v + 1 := by unfold plcP; rw [if_pos hvc]; omega
    rw [if_neg h0, hp]
    have hsplit : cs = cs.take (cs.idxOf v) ++ v :: cs.drop (cs.idxOf v + 1) := by
      conv => lhs; rw [← List.take_append_drop (cs.idxOf v) cs]
      rw [List.drop_eq_getElem_cons hlt, (List.getElem?_eq_some_iff.1 hi).2]
    have hwr : wrs cs ac it = (cs.take (cs.idxOf v)).filter (fun n => writesP ac n it) ++ v :: (cs.drop (cs.idxOf v + 1)).filter (fun n => writesP ac n it) := by
      unfold wrs
      conv => lhs; rw [hsplit]
      rw [List.filter_append, List.filter_cons_of_pos (by exact hw)]
    have h2 := succP_mid (0 :: (cs.take (cs.idxOf v)).filter (fun n => writesP ac n it)) v ((cs.drop (cs.idxOf v + 1)).filter (fun n => writesP ac n it)) (by rw [List.cons_append, ← hwr]; exact hd)
    rw [List.cons_append, ← hwr] at h2
    rw [h2, List.head?_filter]
/-- The writes, sorted by their places: of each item those who write it, in the order of the commits. -/
theorem Right.wOf_is (h : Right cs ac) {ms : List Ac} (hp : ms.Perm (ac.filter (·.wr))) (hs : ms.Pairwise fun a b => ¬ cs.idxOf b.txn < cs.idxOf a.txn) (it : ByteArray) : wOf ms it = wrs cs ac it := by
  have hmem : ∀ x, x ∈ wOf ms it ↔ writesP ac x it = true := fun x => by
    unfold wOf
    rw [List.mem_map, writesP_is]
    constructor
    · rintro ⟨a, ha, rfl⟩
      obtain ⟨k1, k2⟩ := List.mem_filter.1 ha
      have k3 := List.mem_filter.1 (hp.mem_iff.1 k1)
      exact ⟨a, k3.1, k3.2, rfl, by simpa using k2⟩
    · rintro ⟨a, ha, k1, k2, k3⟩
      exact ⟨a, List.mem_filter.2 ⟨hp.mem_iff.2 (List.mem_filter.2 ⟨ha, k1⟩), by simpa using k3⟩, k2⟩
  have htx : ∀ x, writesP ac x it = true → x ∈ cs := fun x hx => by
    obtain ⟨b, hb, -, e, -⟩ := writesP_is.1 hx
    rw [← e]; exact h.txn b hb
  -- of those that write the item none is there twice
  have honce : (wOf ms it).Nodup := by
    have h1 : ((ac.filter (·.wr)).filter fun a => decide (a.item = it)).map (·.txn) |>.Nodup := by
      rw [List.nodup_iff_pairwise_ne, List.pairwise_map, List.filter_filter]
      have key : ac.Pairwise fun a b => a.wr = true → b.wr = true → a.item = b.item → a.txn ≠ b.txn := by
        rw [List.pairwise_iff_getElem]
        intro i j hi hj hij k1 k2 k3 k4
        have h2 := h.once j ac[j] (List.getElem?_eq_getElem hj) k2
        have h3 := List.any_eq_false.1 h2 ac[i] (List.mem_of_getElem? (i := i) (by rw [List.getElem?_take, if_pos hij, List.getElem?_eq_getElem hi]))
        exact h3 (wrB_is.2 ⟨k1, k4, k3⟩)
      refine (key.filter _).imp_of_mem fun ha hb k => ?_
      have a1 := (List.mem_filter.1 ha).2
      have b1 := (List.mem_filter.1 hb).2
      simp at a1 b1
      exact k a1.2 b1.2 (a1.1.trans b1.1.symm)
    exact ((hp.filter _).map _).nodup_iff.2 h1
  have hlt : (wOf ms it).Pairwise fun a b => decide (cs.idxOf a < cs.idxOf b) = true := by
    have h1 : (wOf ms it).Pairwise fun a b => ¬ cs.idxOf b < cs.idxOf a := by
      unfold wOf
      rw [List.pairwise_map]
      exact hs.filter _
    rw [List.pairwise_iff_getElem] at h1 ⊢
    intro i j hi hj hij
    have h2 := h1 i j hi hj hij
    have h3 := (List.nodup_iff_pairwise_ne.1 honce)
    rw [List.pairwise_iff_getElem] at h3
    have h4 := h3 i j hi hj hij
    have h5 : cs.idxOf (wOf ms it)[i] ≠ cs.idxOf (wOf ms it)[j] := fun e => h4 (by
      have e1 := plcP_at (htx _ ((hmem _).1 (List.getElem_mem hi)))
      have e2 := plcP_at (htx _ ((hmem _).1 (List.getElem_mem hj)))
      rw [e, e2] at e1
      exact (Option.some.inj e1).symm)
    simp only [decide_eq_true_eq]
    omega
  refine strict_ext (lt := fun a b => decide (cs.idxOf a < cs.idxOf b)) (fun a => by simp) (fun a b k => by simp at k ⊢; omega) _ _ hlt ?_ fun x => ?_
  · have h1 : cs.Pairwise fun a b => decide (cs.idxOf a < cs.idxOf b) = true := by
      rw [List.pairwise_iff_getElem]
      intro i j hi hj hij
      rw [idx_of h.nd (List.getElem?_eq_getElem hi), idx_of h.nd (List.getElem?_eq_getElem hj)]
      simpa using hij
    exact h1.filter _
  · rw [hmem]
    unfold wrs
    rw [List.mem_filter]
    exact ⟨fun k => ⟨htx x k, k⟩, fun k => k.2⟩
end
end Go.Proofs.YtnpeankmmojebaaGreatDoor
