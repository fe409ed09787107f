import Derived.Test.YtknppiebncdjmaaGreatJBI
import Derived.Test.YtknppiebncdjmaaGreatJAN
import Derived.Test.YtknppiebncdjmaaGreatJBG
set_option linter.unusedVariables false
namespace Go.Proofs.YtknppiebncdjmaaGreat
set_option maxRecDepth 100000
open Go.RowKit

def rowsStep (l : List Lk) (o : OpX) : List Lk := if hasLk l o.at_ = true then l else l ++ [o.at_]
def rowsP (os : List OpX) : List Lk := os.foldl rowsStep []
theorem rows_take {os : List OpX} {j : Nat} {x : OpX} (hx : os[j]? = some x) : rowsP (os.take (j + 1)) = rowsStep (rowsP (os.take j)) x := by
  unfold rowsP
  rw [List.take_add_one, hx, Option.toList_some, List.foldl_append]
  rfl
theorem rows_len (os : List OpX) : (rowsP os).length ≤ os.length := by
  have : ∀ (os : List OpX) (l : List Lk), (os.foldl rowsStep l).length ≤ l.length + os.length := by
    intro os
    induction os with
    | nil => intro l; simp
    | cons o os ih =>
      intro l
      rw [List.foldl_cons]
      have h1 := ih (rowsStep l o)
      have h2 : (rowsStep l o).length ≤ l.length + 1 := by unfold rowsStep; split <;> simp
      simp only [List.length_cons]
      omega
  simpa [rowsP] using this os []
theorem seL_lk (l : Lk) (X : World) : SB (X.alloc (.cells #[.string l.1, .string l.2] 42)) (some ⟨X.heap.size, 0, none⟩) (seL.s * 1) (cellsF lkC [l]) := sb_lock X l
set_option maxHeartbeats 16000000 in
theorem wRows10 {w : World} {A : Option Addr} {n c : Nat} {os : List OpX} (h : RX w A n os) (hn : n ≤ 1048576) :
    Calls Tryz.prog 66 #[.slice A n c] w fun e w' => ∃ v, e = .returned v ∧ SO seL w.heap.size w' v (rowsP os).length (cellsF lkC (rowsP os)) ∧ Below w.heap.size w w' := by
  have H1 := Lib.hid h
  have HN := Lib.hid hn
  have qE := fun W a b c d => eqLk W a b c d
  clear h hn
  go_enter Tryz.func66, Tryz.ntmps66
  go_upto_region 3 with fail
  go_loopw [3, 11] (fun lv i wr => ∃ j : Nat, i = .int .i64 (j : Nat) ∧ j ≤ n ∧ SO seL w.heap.size wr lv (rowsP (os.take j)).length (cellsF lkC (rowsP (os.take j))) ∧ Below w.heap.size w wr) (fun _ i _ => n - (intOf i).toNat)
  case atStart => exact ⟨0, rfl, Nat.zero_le _, SO.nil _ _ _, Below.refl _ _⟩
  case round =>
    rename World => wr
    obtain ⟨j, rfl, hj, ho, hb⟩ := hrel
    by_cases hlt : j < n
    · obtain ⟨x, hx⟩ : ∃ x, os[j]? = some x := ⟨_, List.getElem?_eq_getElem (by have := H1.out.len; omega)⟩
      have HT := Lib.hid (rows_take hx)
      have HLE := Lib.hid (show (rowsP (os.take j)).length ≤ j by have := rows_len (os.take j); have := List.length_take_le j os; omega)
      obtain ⟨L, hL⟩ : ∃ l, rowsP (os.take j) = l := ⟨_, rfl⟩
      rw [hL] at HT HLE ho
      obtain ⟨ab, ao, rfl, q0, q1, q2, q3, q4, q5⟩ := (H1.out.below hb).at_ hx
      obtain ⟨xd, xt, ⟨tb, ky⟩, to_, xl⟩ := x
      dsimp only at q0 q1 q2 q3 q4 q5
      obtain ⟨Y, hY⟩ : ∃ Y, wr.alloc (.cells #[.int .i64 xd, .int .i64 xt, .string tb, .string ky, .string to_, .int .i64 xl] 44) = Y := ⟨_, rfl⟩
      have HY := Lib.hid hY
      have gY : Below wr.heap.size wr Y := by rw [← hY]; exact alloc_below10 _ _
      have rY : Y.heap[wr.heap.size]? = some (.cells #[.int .i64 xd, .int .i64 xt, .string tb, .string ky, .string to_, .int .i64 xl] 44 (0, 0)) := by rw [← hY]; exact heap_alloc_new _ _
      have y2 : Y.cell? ⟨wr.heap.size, 2, none⟩ = some (.string tb) := cell_of_row _ _ 2 _ _ _ rY
      have y3 : Y.cell? ⟨wr.heap.size, 3, none⟩ = some (.string ky) := cell_of_row _ _ 3 _ _ _ rY
      have SKY := Lib.hid (fun (W' : World) (hb : Below Y.heap.size Y W') => (⟨keep_below y2 hb, keep_below y3 hb⟩ : W'.cell? ⟨wr.heap.size, 2, none⟩ = some (.string tb) ∧ W'.cell? ⟨wr.heap.size, 3, none⟩ = some (.string ky)))
      have HO := Lib.hid (ho.below gY)
      have HB := Lib.hid (below_next hb gY)
      have i1 : (j : Int) < (n : Int) := by omega
      have l1 : (j : Int) ≤ 1048576 := by have := HN.out; omega
      have HLT := Lib.hid hlt
      obtain ⟨A3, c3, e3, hs3, -⟩ := ho.form
      have S3 := Lib.hid ((show SB wr A3 (2 * L.length) (cellsF lkC L) from hs3).gw gY)
      subst e3
      clear hj hlt hx gY rY hY hb ho hL hs3 y2 y3
      go_upto_region 5 with fail
      rw [HY.out]
      clear q0 q1 q2 q3 q4 q5
      go_upto_region 7 with fail
      go_loopw [6, 17] (fun tv i wz => ∃ k : Nat, i = .int .i64 (k : Nat) ∧ k ≤ L.length ∧ tv = .bool (hasLk (L.take k) (tb, ky)) ∧ Below Y.heap.size Y wz) (fun _ i _ => L.length - (intOf i).toNat)
      case atStart => exact ⟨0, rfl, Nat.zero_le _, rfl, Below.refl _ _⟩
      case round =>
        rename World => wz
        obtain ⟨k, rfl, hk, rfl, hbz⟩ := hrel
        obtain ⟨y2, y3⟩ := SKY.out wz hbz
        obtain ⟨t, ht⟩ : ∃ t, hasLk (L.take k) (tb, ky) = t := ⟨_, rfl⟩
        rw [ht]
        by_cases hkl : k < L.length
        · obtain ⟨p, hp⟩ : ∃ p, L[k]? = some p := ⟨_, List.getElem?_eq_getElem hkl⟩
          have HT2 := hasLk_take (l := (tb, ky)) hp
          rw [ht] at HT2
          obtain ⟨g, o, rfl, hc⟩ := (S3.out.gw hbz).el lkC_len (by omega) hp
          have c0 : wz.cell? ⟨g, o + k * 2, none⟩ = some (.string p.1) := hc 0 _ rfl
          have c1 : wz.cell? ⟨g, o + k * 2 + 1, none⟩ = some (.string p.2) := hc 1 _ rfl
          obtain ⟨p1, p2⟩ := p
          dsimp only at c0 c1
          obtain ⟨Z, hZ⟩ : ∃ Z, wz.alloc (.cells #[.string p1, .string p2] 42) = Z := ⟨_, rfl⟩
          have HZ := Lib.hid hZ
          have gZ : Below wz.heap.size wz Z := by rw [← hZ]; exact alloc_below10 _ _
          have rZ : Z.heap[wz.heap.size]? = some (.cells #[.string p1, .string p2] 42 (0, 0)) := by rw [← hZ]; exact heap_alloc_new _ _
          have z0 : Z.cell? ⟨wz.heap.size, 0, none⟩ = some (.string p1) := cell_of_row _ _ 0 _ _ _ rZ
          have z1 : Z.cell? ⟨wz.heap.size, 1, none⟩ = some (.string p2) := cell_of_row _ _ 1 _ _ _ rZ
          replace y2 := keep_below y2 gZ
          replace y3 := keep_below y3 gZ
          have i2 : (k : Int) < (L.length : Int) := by omega
          have l2 : (k : Int) ≤ 1048576 := by have := HLE.out; have := HLT.out; have := HN.out; omega
          have HKL := Lib.hid hkl
          have HBZ := Lib.hid (below_next hbz gZ)
          have HT3 := Lib.hid HT2
          clear hk hkl hp hc gZ rZ hZ hbz HT2 ht
          go_upto_region 9 with fail
          rw [HZ.out]
          clear c0 c1
          cases t
          · cases he : lkEq (p1, p2) (tb, ky)
            · have HT4 := Lib.hid (show hasLk (L.take (k + 1)) (tb, ky) = false by rw [HT3.out, he]; rfl)
              go_wp2
              go_roundw
              case rel => exact ⟨k + 1, by go_num, HKL.out, by rw [HT4.out], HBZ.out⟩
              case measure => have := HKL.out; simp [intOf]; omega
            · have HT4 := Lib.hid (show hasLk (L.take (k + 1)) (tb, ky) = true by rw [HT3.out, he]; rfl)
              go_wp2
              go_roundw
              case rel => exact ⟨k + 1, by go_num, HKL.out, by rw [HT4.out], HBZ.out⟩
              case measure => have := HKL.out; simp [intOf]; omega
          · have HT4 := Lib.hid (show hasLk (L.take (k + 1)) (tb, ky) = true by rw [HT3.out]; rfl)
            go_wp2
            go_roundw
            case rel => exact ⟨k + 1, by go_num, HKL.out, by rw [HT4.out], HBZ.out⟩
            case measure => have := HKL.out; simp [intOf]; omega
        · obtain rfl : k = L.length := by omega
          have i2 : ¬ (L.length : Int) < (L.length : Int) := by omega
          rw [List.take_length] at ht
          have HBZ := Lib.hid hbz
          have HO2 := Lib.hid (HO.out.below hbz)
          have HTT := Lib.hid ht
          clear hk hkl hbz ht
          cases t
          · have HT4 := Lib.hid (show rowsP (os.take (j + 1)) = L ++ [(tb, ky)] by rw [HT.out]; unfold rowsStep; rw [if_neg (by rw [show hasLk L (tb, ky) = false from HTT.out]; simp)])
            have HSL := Lib.hid (seL_lk (tb, ky) wz)
            have HZ2 := Lib.hid (show w.heap.size ≤ wz.heap.size by have := HB.out.size; have := HBZ.out.size; omega)
            go_wp2_with (at_builtin; go_loud (refine so_appendW seL_ok (by rfl) (.tmp 31) (.tmp 34) (by rfl) _ (by rfl) (HO2.out.alloc _) (some ⟨wz.heap.size, 0, none⟩) 1 1 (cellsF lkC [(tb, ky)]) (by rfl) HSL.out (by have := HLE.out; have := HLT.out; have := HN.out; show _ * 32 ≤ _; omega) (by have := HLE.out; have := HLT.out; have := HN.out; simp only [maxLen]; omega) (by have := HZ2.out; simp; omega) ?_; intro v3 w3 o3 b3; have O3 := Lib.hid o3; have B3 := Lib.hid ((below_next HB.out HBZ.out).trans ((alloc_below10 wz _).mono HZ2.out |>.trans b3)); clear o3 b3))
            go_roundw
            case rel => exact ⟨j + 1, by go_num, HLT.out, by rw [HT4.out, cellsF_app, List.length_append]; exact O3.out, B3.out⟩
            case measure => have := HLT.out; simp [intOf]; omega
          · have HT4 := Lib.hid (show rowsP (os.take (j + 1)) = L by rw [HT.out]; unfold rowsStep; rw [if_pos HTT.out])
            go_wp2
            go_roundw
            case rel => exact ⟨j + 1, by go_num, HLT.out, by rw [HT4.out]; exact HO2.out, below_next HB.out HBZ.out⟩
            case measure => have := HLT.out; simp [intOf]; omega
    · obtain rfl : j = n := by omega
      have i1 : ¬ (j : Int) < (j : Int) := by omega
      rw [List.take_of_length_le (by have := H1.out.len; omega)] at ho
      have HO := Lib.hid ho
      have HB := Lib.hid hb
      clear hj hlt hb ho
      go_wp2
      go_ret
      exact ⟨_, rfl, HO.out, HB.out⟩
end Go.Proofs.YtknppiebncdjmaaGreat

namespace Go.Proofs.YtknppiebncdjmaaGreat
set_option maxRecDepth 100000
open Go.RowKit

def ownA (A : Option Addr) : List Nat := A.toList.map (·.block)
theorem ownA_is (A : Option Addr) (n c : Nat) {k : Nat} : (Value.slice A n c).ownBlock = some k → k ∈ ownA A := by
  intro h
  cases A with
  | none => simp [Value.ownBlock] at h
  | some a =>
    have : a.block = k := by simpa [Value.ownBlock] using h
    simp [ownA, this]
structure WdV where
  ra : Option Addr
  rc : Nat
  va : Option Addr
  vc : Nat
  la : Option Addr
  lc : Nat
def runOwn (x : RunM) : List Nat := ownA x.ra ++ ownA x.wa
def ownersW (V : WdV) (ms : List RunM) : List Nat := ownA V.ra ++ ownA V.va ++ ownA V.la ++ ms.flatMap runOwn
structure WdAt (w0 w : World) (G : Nat → Prop) (p m : Nat) (V : WdV) (rows : List Lk) (vs : List Ver10) (ms : List RunM) (bad : Bool) : Prop where
  blk : w.heap[p]? = some (.cells #[.pointer (some ⟨m, 0, none⟩), .slice V.ra rows.length V.rc, .slice V.va vs.length V.vc, .slice V.la ms.length V.lc, .bool bad] 63 (0, 0))
  rows_ : SO seL w0.heap.size w (.slice V.ra rows.length V.rc) rows.length (cellsF lkC rows)
  vers : SO seV w0.heap.size w (.slice V.va vs.length V.vc) vs.length (cellsF verC vs)
  list : SO seU w0.heap.size w (.slice V.la ms.length V.lc) ms.length (cellsF runC ms)
  runs : ∀ x ∈ ms, SO seD w0.heap.size w x.rv x.r.reads.length (cellsF redC x.r.reads) ∧ SO seL w0.heap.size w x.wv x.r.writes.length (cellsF lkC x.r.writes)
  sep : (p :: ownersW V ms).Nodup
  ap : ∀ k ∈ p :: ownersW V ms, ¬ G k
  pl : w0.heap.size ≤ p
theorem SO.keep10 {E : SEl} {base n : Nat} {w w' : World} {v : Value} {xs : List Value} (h : SO E base w v n xs) (hk : ∀ k, v.ownBlock = some k → w'.heap[k]? = w.heap[k]?) : SO E base w' v n xs := ⟨own_stays h.own hk, h.len, h.one⟩
section
variable {w0 w w' : World} {G G' : Nat → Prop} {p m : Nat} {V : WdV} {rows : List Lk} {vs : List Ver10} {ms : List RunM} {bad : Bool}
theorem WdAt.keep (h : WdAt w0 w G p m V rows vs ms bad) (hk : ∀ k ∈ p :: ownersW V ms, w'.heap[k]? = w.heap[k]?) (hap : ∀ k ∈ p :: ownersW V ms, ¬ G' k) : WdAt w0 w' G' p m V rows vs ms bad := by
  have ow : ∀ k ∈ ownersW V ms, w'.heap[k]? = w.heap[k]? := fun k hm => hk k (List.mem_cons_of_mem _ hm)
  refine ⟨(hk p (List.mem_cons_self ..)).trans h.blk, h.rows_.keep10 fun k e => ow k ?_, h.vers.keep10 fun k e => ow k ?_, h.list.keep10 fun k e => ow k ?_, fun x hx => ⟨(h.runs x hx).1.keep10 fun k e => ow k ?_, (h.runs x hx).2.keep10 fun k e => ow k ?_⟩, h.sep, hap, h.pl⟩
  · unfold ownersW; simp only [List.mem_append]; exact .inl (.inl (.inl (ownA_is _ _ _ e)))
  · unfold ownersW; simp only [List.mem_append]; exact .inl (.inl (.inr (ownA_is _ _ _ e)))
  · unfold ownersW; simp only [List.mem_append]; exact .inl (.inr (ownA_is _ _ _ e))
  · unfold ownersW runOwn; simp only [List.mem_append, List.mem_flatMap]; exact .inr ⟨x, hx, .inl (ownA_is _ _ _ e)⟩
  · unfold ownersW runOwn; simp only [List.mem_append, List.mem_flatMap]; exact .inr ⟨x, hx, .inr (ownA_is _ _ _ e)⟩
theorem SO.lt10 {E : SEl} {base n c : Nat} {A : Option Addr} {w : World} {xs : List Value} (h : SO E base w (.slice A n c) n xs) : ∀ k ∈ ownA A, base ≤ k ∧ k < w.heap.size := by
  intro k hk
  rcases h.own.2 with ⟨hv, -⟩ | ⟨g, cap, cur, hv, hb, hh, -⟩
  · simp only [Value.slice.injEq] at hv
    rw [hv.1] at hk; simp [ownA] at hk
  · simp only [Value.slice.injEq] at hv
    rw [hv.1] at hk
    have : k = g := by simpa [ownA] using hk
    subst this
    exact ⟨hb, (Array.getElem?_eq_some_iff.1 hh).1⟩
theorem WdAt.lt (h : WdAt w0 w G p m V rows vs ms bad) : ∀ k ∈ p :: ownersW V ms, w0.heap.size ≤ k ∧ k < w.heap.size := by
  intro k hk
  rcases List.mem_cons.1 hk with rfl | hk
  · exact ⟨h.pl, (Array.getElem?_eq_some_iff.1 h.blk).1⟩
  · unfold ownersW at hk
    simp only [List.mem_append, List.mem_flatMap] at hk
    rcases hk with ((hk | hk) | hk) | ⟨x, hx, hk⟩
    · exact h.rows_.lt10 k hk
    · exact h.vers.lt10 k hk
    · exact h.list.lt10 k hk
    · unfold runOwn at hk
      rcases List.mem_append.1 hk with hk | hk
      · exact (h.runs x hx).1.lt10 k hk
      · exact (h.runs x hx).2.lt10 k hk
theorem WdAt.below (h : WdAt w0 w G p m V rows vs ms bad) (g : Below w.heap.size w w') : WdAt w0 w' G p m V rows vs ms bad :=
  h.keep (fun k hk => g.block k (h.lt k hk).2) h.ap
theorem WdAt.out (h : WdAt w0 w G p m V rows vs ms bad) (o : Out G w w') (hG : ∀ k, G' k → G k ∨ w.heap.size ≤ k) : WdAt w0 w' G' p m V rows vs ms bad :=
  h.keep (fun k hk => o.block k (h.lt k hk).2 (h.ap k hk)) fun k hk hg => by
    rcases hG k hg with h1 | h1
    · exact h.ap k hk h1
    · have := (h.lt k hk).2; omega
theorem WdAt.cells (h : WdAt w0 w G p m V rows vs ms bad) : w.cell? ⟨p, 0, none⟩ = some (.pointer (some ⟨m, 0, none⟩)) ∧ w.cell? ⟨p, 1, none⟩ = some (.slice V.ra rows.length V.rc) ∧ w.cell? ⟨p, 2, none⟩ = some (.slice V.va vs.length V.vc) ∧ w.cell? ⟨p, 3, none⟩ = some (.slice V.la ms.length V.lc) ∧ w.cell? ⟨p, 4, none⟩ = some (.bool bad) :=
  ⟨cell_of_row _ _ 0 _ _ _ h.blk, cell_of_row _ _ 1 _ _ _ h.blk, cell_of_row _ _ 2 _ _ _ h.blk, cell_of_row _ _ 3 _ _ _ h.blk, cell_of_row _ _ 4 _ _ _ h.blk⟩
theorem SO.sb10 {E : SEl} {base n c : Nat} {A : Option Addr} {w : World} {xs : List Value} (h : SO E base w (.slice A n c) n xs) : SB w A (E.s * n) xs := by
  obtain ⟨A', c', e, hs, -⟩ := h.form
  simp only [Value.slice.injEq] at e
  rw [e.1]; exact hs
theorem WdAt.newest (h : WdAt w0 w G p m V rows vs ms bad) (hn : vs.length ≤ 1599289640354) (l : Lk) (up : Int) :
    Calls Tryz.prog 68 #[.pointer (some ⟨p, 0, none⟩), .agg #[.string l.1, .string l.2], .int .i64 up] w fun e w' => e = .returned (.int .i64 (newestP vs l up)) ∧ Below w.heap.size w w' :=
  wNewest h.cells.2.2.1 h.vers.sb10 hn l up
theorem WdAt.of (h : WdAt w0 w G p m V rows vs ms bad) (hn : ms.length ≤ 1599289640354) (tx : Int) :
    Calls Tryz.prog 26 #[.pointer (some ⟨p, 0, none⟩), .int .i64 tx] w fun e w' => e = .returned (.int .i64 (ofW (ms.map (·.r)) tx)) ∧ Below w.heap.size w w' :=
  wOf10 h.cells.2.2.2.1 h.list.sb10 hn tx
theorem flat_set_own {ms : List RunM} {i : Nat} {x x' : RunM} (hi : ms[i]? = some x) : ∃ a b, ms = a ++ [x] ++ b ∧ a.length = i ∧ ms.set i x' = a ++ [x'] ++ b := by
  obtain ⟨hl, he⟩ := List.getElem?_eq_some_iff.1 hi
  refine ⟨ms.take i, ms.drop (i + 1), ?_, by rw [List.length_take]; omega, ?_⟩
  · conv => lhs; rw [← List.take_append_drop i ms, List.drop_eq_getElem_cons hl, he]
    simp
  · rw [List.set_eq_take_append_cons_drop, if_pos hl]
    simp
end
end Go.Proofs.YtknppiebncdjmaaGreat

namespace Go.Proofs.YtknppiebncdjmaaGreat
set_option maxRecDepth 100000
open Go.RowKit

set_option maxHeartbeats 4000000 in
theorem wMay_no (w : World) {a k r l : Int} (h : ¬ capOk a k r l) :
    Calls Tryz.prog 21 #[.agg #[.int .i64 a, .int .i64 k, .int .i64 r, .int .i64 l]] w fun e w' => e = .returned (.bool false) ∧ Below w.heap.size w w' := by
  obtain ⟨W, hW⟩ : ∃ W, w.alloc (.cells #[.int .i64 a, .int .i64 k, .int .i64 r, .int .i64 l] 23) = W := ⟨_, rfl⟩
  have HW := Lib.hid hW
  have hB : Below w.heap.size w W := by rw [← hW]; exact (Below.refl _ _).alloc (Nat.le_refl _) _
  have q0 : W.heap[w.heap.size]? = some (.cells #[.int .i64 a, .int .i64 k, .int .i64 r, .int .i64 l] 23 (0, 0)) := by rw [← hW]; exact heap_alloc_new _ _
  have x0 : W.cell? ⟨w.heap.size, 0, none⟩ = some (.int .i64 a) := cell_of_row _ _ 0 _ _ _ q0
  have x1 : W.cell? ⟨w.heap.size, 1, none⟩ = some (.int .i64 k) := cell_of_row _ _ 1 _ _ _ q0
  have x2 : W.cell? ⟨w.heap.size, 2, none⟩ = some (.int .i64 r) := cell_of_row _ _ 2 _ _ _ q0
  have x3 : W.cell? ⟨w.heap.size, 3, none⟩ = some (.int .i64 l) := cell_of_row _ _ 3 _ _ _ q0
  have HB := Lib.hid hB
  clear hW hB q0
  by_cases i0 : 1 ≤ a
  rotate_left
  · clear h
    go_enter Tryz.func21, Tryz.ntmps21
    go_upto_region 1 with fail
    rw [HW.out]
    go_wp2
    go_ret
    exact ⟨rfl, HB.out⟩
  by_cases i1 : a ≤ 64
  rotate_left
  · clear h
    go_enter Tryz.func21, Tryz.ntmps21
    go_upto_region 1 with fail
    rw [HW.out]
    go_wp2
    go_ret
    exact ⟨rfl, HB.out⟩
  by_cases i2 : 0 ≤ k
  rotate_left
  · clear h
    go_enter Tryz.func21, Tryz.ntmps21
    go_upto_region 1 with fail
    rw [HW.out]
    go_wp2
    go_ret
    exact ⟨rfl, HB.out⟩
  by_cases i3 : k ≤ 1024
  rotate_left
  · clear h
    go_enter Tryz.func21, Tryz.ntmps21
    go_upto_region 1 with fail
    rw [HW.out]
    go_wp2
    go_ret
    exact ⟨rfl, HB.out⟩
  by_cases i4 : 1 ≤ r
  rotate_left
  · clear h
    go_enter Tryz.func21, Tryz.ntmps21
    go_upto_region 1 with fail
    rw [HW.out]
    go_wp2
    go_ret
    exact ⟨rfl, HB.out⟩
  by_cases i5 : r ≤ 65536
  rotate_left
  · clear h
    go_enter Tryz.func21, Tryz.ntmps21
    go_upto_region 1 with fail
    rw [HW.out]
    go_wp2
    go_ret
    exact ⟨rfl, HB.out⟩
  by_cases i6 : 1 ≤ l
  rotate_left
  · clear h
    go_enter Tryz.func21, Tryz.ntmps21
    go_upto_region 1 with fail
    rw [HW.out]
    go_wp2
    go_ret
    exact ⟨rfl, HB.out⟩
  by_cases i7 : l ≤ 4096
  rotate_left
  · clear h
    go_enter Tryz.func21, Tryz.ntmps21
    go_upto_region 1 with fail
    rw [HW.out]
    go_wp2
    go_ret
    exact ⟨rfl, HB.out⟩
  exact absurd ⟨⟨i0, i1⟩, ⟨i2, i3⟩, ⟨i4, i5⟩, i6, i7⟩ h
set_option maxHeartbeats 4000000 in
theorem wStart_no (w : World) {a k r l : Int} {A : Option Addr} {n c : Nat} (h : ¬ capOk a k r l) :
    Calls Tryz.prog 20 #[.agg #[.int .i64 a, .int .i64 k, .int .i64 r, .int .i64 l], .slice A n c] w fun e w' => e = .returned (.tuple #[.pointer none, .bool false]) ∧ Below w.heap.size w w' := by
  obtain ⟨W, hW⟩ : ∃ W, w.alloc (.cells #[.int .i64 a, .int .i64 k, .int .i64 r, .int .i64 l] 23) = W := ⟨_, rfl⟩
  have HW := Lib.hid hW
  have hB : Below w.heap.size w W := by rw [← hW]; exact (Below.refl _ _).alloc (Nat.le_refl _) _
  have q0 : W.heap[w.heap.size]? = some (.cells #[.int .i64 a, .int .i64 k, .int .i64 r, .int .i64 l] 23 (0, 0)) := by rw [← hW]; exact heap_alloc_new _ _
  have x0 : W.cell? ⟨w.heap.size, 0, none⟩ = some (.int .i64 a) := cell_of_row _ _ 0 _ _ _ q0
  have x1 : W.cell? ⟨w.heap.size, 1, none⟩ = some (.int .i64 k) := cell_of_row _ _ 1 _ _ _ q0
  have x2 : W.cell? ⟨w.heap.size, 2, none⟩ = some (.int .i64 r) := cell_of_row _ _ 2 _ _ _ q0
  have x3 : W.cell? ⟨w.heap.size, 3, none⟩ = some (.int .i64 l) := cell_of_row _ _ 3 _ _ _ q0
  have HB := Lib.hid hB
  clear hW hB q0
  have CN := Lib.hid (wxNew_no api9 W a k r l 0 fun hh => h hh.1)
  clear h
  go_enter Tryz.func20, Tryz.ntmps20
  go_upto_region 1 with fail
  rw [HW.out]
  go_wp2_with (go_at_call 11; go_loud (refine CN.out.mono ?_; rintro e w2 ⟨rfl, b2⟩; have B2 := Lib.hid (below_next HB.out b2); clear b2))
  refine bodyPost_ret (v := .tuple #[.pointer none, .bool false]) (by simp [results, Tryz.results20, go_sem]) rfl ⟨rfl, B2.out⟩
set_option maxHeartbeats 8000000 in
theorem wStart (w : World) {a k : Int} {r : Nat} {l : Int} {A : Option Addr} {n c : Nat} {os : List OpX} (h : capOk a k r l) (ho : RX w A n os) (hn : n ≤ 1048576) :
    Calls Tryz.prog 20 #[.agg #[.int .i64 a, .int .i64 k, .int .i64 (r : Int), .int .i64 l], .slice A n c] w fun e w' => ∃ p b G K V, e = .returned (.tuple #[.pointer (some ⟨p, 0, none⟩), .bool true]) ∧ M10 w' G K b ⟨a, k, r, l⟩ (new10 0) ∧ WdAt w w' (fun k => G k ∨ K k) p b V (rowsP os) [] [] false ∧ (∀ k, G k → w.heap.size ≤ k) ∧ (∀ k, K k → w.heap.size ≤ k) ∧ Below w.heap.size w w' := by
  obtain ⟨W, hW⟩ : ∃ W, w.alloc (.cells #[.int .i64 a, .int .i64 k, .int .i64 (r : Int), .int .i64 l] 23) = W := ⟨_, rfl⟩
  have HW := Lib.hid hW
  have hB : Below w.heap.size w W := by rw [← hW]; exact (Below.refl _ _).alloc (Nat.le_refl _) _
  have q0 : W.heap[w.heap.size]? = some (.cells #[.int .i64 a, .int .i64 k, .int .i64 (r : Int), .int .i64 l] 23 (0, 0)) := by rw [← hW]; exact heap_alloc_new _ _
  have x0 : W.cell? ⟨w.heap.size, 0, none⟩ = some (.int .i64 a) := cell_of_row _ _ 0 _ _ _ q0
  have x1 : W.cell? ⟨w.heap.size, 1, none⟩ = some (.int .i64 k) := cell_of_row _ _ 1 _ _ _ q0
  have x2 : W.cell? ⟨w.heap.size, 2, none⟩ = some (.int .i64 (r : Int)) := cell_of_row _ _ 2 _ _ _ q0
  have x3 : W.cell? ⟨w.heap.size, 3, none⟩ = some (.int .i64 l) := cell_of_row _ _ 3 _ _ _ q0
  have HB := Lib.hid hB
  clear hW hB q0
  have CN := Lib.hid (w10New W a k r l 0 h (Int.le_refl _))
  have CR := Lib.hid (fun (W1 : World) (g : Below w.heap.size w W1) => wRows10 (ho.below g) (c := c) hn)
  clear h
  go_enter Tryz.func20, Tryz.ntmps20
  go_upto_region 1 with fail
  rw [HW.out]
  go_wp2_with (first
    | (go_at_call 11; go_loud (refine CN.out.mono ?_; rintro e w2 ⟨b, G, K, rfl, m2, g2, k2, b2⟩; have M2 := Lib.hid m2; have GK2 := Lib.hid (And.intro g2 k2); have HS := Lib.hid HB.out.size; have B2 := Lib.hid (below_next HB.out b2); have BW := Lib.hid b2; clear b2 m2 g2 k2))
    | (go_at_call 66; go_loud (refine (CR.out _ B2.out).mono ?_; rintro e w3 ⟨v, rfl, s3, b3⟩; obtain ⟨A3, c3, rfl, -⟩ := s3.form; have S3 := Lib.hid s3; have B3 := Lib.hid b3; clear s3 b3)))
  refine bodyPost_ret (v := .tuple #[.pointer (some ⟨w3.heap.size, 0, none⟩), .bool true]) (by simp [results, Tryz.results20, go_sem]) rfl ⟨w3.heap.size, b, G, K, ⟨A3, c3, none, 0, none, 0⟩, rfl, ?_⟩
  have m3 := M2.out.below B3.out
  have b4 : Below w3.heap.size w3 (w3.alloc (.cells #[.pointer (some ⟨b, 0, none⟩), .slice A3 (rowsP os).length c3, .slice none 0 0, .slice none 0 0, .bool false] 63)) := (Below.refl _ _).alloc (Nat.le_refl _) _
  have hlt := m3.lt
  have hle3 : w2.heap.size ≤ w3.heap.size := B3.out.size
  have hle2 : w.heap.size ≤ w2.heap.size := B2.out.size
  have hlt2 := M2.out.lt
  have hs4 := S3.out.below b4
  refine ⟨m3.below b4, ⟨heap_alloc_new _ _, hs4.lower hle2, SO.nil _ _ _, SO.nil _ _ _, fun x hx => by simp at hx, ?_, ?_, by show w.heap.size ≤ w3.heap.size; omega⟩, fun k hk => Nat.le_trans HS.out (GK2.out.1 k hk), fun k hk => Nat.le_trans HS.out (GK2.out.2 k hk), below_next (below_next B2.out B3.out) b4⟩
  · have hA := S3.out.lt10
    simp only [ownersW, List.flatMap_nil, List.append_nil]
    cases A3 with
    | none => simp [ownA]
    | some ad =>
      have := hA ad.block (by simp [ownA])
      simp [ownA]
      omega
  · have hA := S3.out.lt10
    intro x hx hg
    have hx2 : x < w2.heap.size := hg.elim (hlt2.1 x) (hlt2.2 x)
    simp only [ownersW, List.flatMap_nil, List.append_nil] at hx
    rcases List.mem_cons.1 hx with rfl | hx
    · omega
    · simp only [List.mem_append] at hx
      rcases hx with (hx | hx) | hx
      · have := hA x hx; omega
      · simp [ownA] at hx
      · simp [ownA] at hx
end Go.Proofs.YtknppiebncdjmaaGreat

namespace Go.Proofs.YtknppiebncdjmaaGreat
set_option maxRecDepth 100000
open Go.RowKit

theorem nodup_swap {l1 X X' l2 : List Nat} (h : (l1 ++ X ++ l2).Nodup) (h' : X'.Nodup) (hx : ∀ k ∈ X', k ∈ X ∨ k ∉ l1 ++ X ++ l2) : (l1 ++ X' ++ l2).Nodup := by
  obtain ⟨h12, h3, h4⟩ := List.nodup_append.1 h
  obtain ⟨h1, h2, h5⟩ := List.nodup_append.1 h12
  refine List.nodup_append.2 ⟨List.nodup_append.2 ⟨h1, h', fun a ha b hb e => ?_⟩, h3, fun a ha b hb e => ?_⟩
  · subst e
    rcases hx a hb with hX | hX
    · exact h5 a ha a hX rfl
    · exact hX (List.mem_append.2 (.inl (List.mem_append.2 (.inl ha))))
  · subst e
    rcases List.mem_append.1 ha with ha | ha
    · exact h4 a (List.mem_append.2 (.inl ha)) a hb rfl
    · rcases hx a ha with hX | hX
      · exact h4 a (List.mem_append.2 (.inr hX)) a hb rfl
      · exact hX (List.mem_append.2 (.inr hb))
theorem cellsF_set {α : Type} {f : α → List Value} {s : Nat} (hf : ∀ x, (f x).length = s) {l : List α} {i k : Nat} {x x' : α} {u : Value} (hi : l[i]? = some x) (hk : k < s) (hx : f x' = (f x).set k u) : cellsF f (l.set i x') = (cellsF f l).set (i * s + k) u := by
  obtain ⟨hl, he⟩ := List.getElem?_eq_some_iff.1 hi
  have e1 : l = l.take i ++ x :: l.drop (i + 1) := by
    conv => lhs; rw [← List.take_append_drop i l, List.drop_eq_getElem_cons hl, he]
  have e2 : l.set i x' = l.take i ++ x' :: l.drop (i + 1) := by rw [List.set_eq_take_append_cons_drop, if_pos hl]
  have hlen : (cellsF f (l.take i)).length = i * s := by rw [cellsF_len hf, List.length_take, Nat.min_eq_left (by omega), Nat.mul_comm]
  rw [e2]
  conv => rhs; rw [e1]
  have c1 : ∀ (a : List α) (y : α) (b : List α), cellsF f (a ++ y :: b) = cellsF f a ++ (f y ++ cellsF f b) := fun a y b => by simp [cellsF]
  rw [c1, c1, List.set_append_right _ _ (by omega), hlen, Nat.add_sub_cancel_left, List.set_append_left _ _ (by rw [hf]; exact hk), hx]
section
variable {w0 w w' w1 : World} {G : Nat → Prop} {p m : Nat} {V V' : WdV} {rows : List Lk} {vs vs' : List Ver10} {ms ms' : List RunM} {bad : Bool}
theorem own_in (V : WdV) (ms : List RunM) : (∀ k ∈ ownA V.ra, k ∈ ownersW V ms) ∧ (∀ k ∈ ownA V.va, k ∈ ownersW V ms) ∧ (∀ k ∈ ownA V.la, k ∈ ownersW V ms) ∧ (∀ x ∈ ms, ∀ k ∈ runOwn x, k ∈ ownersW V ms) := by
  unfold ownersW
  simp only [List.mem_append, List.mem_flatMap]
  exact ⟨fun k h => .inl (.inl (.inl h)), fun k h => .inl (.inl (.inr h)), fun k h => .inl (.inr h), fun x hx k hk => .inr ⟨x, hx, hk⟩⟩
theorem WdAt.far (h : WdAt w0 w G p m V rows vs ms bad) : (∀ k ∈ ownA V.la, k ≠ p ∧ k ∉ ownA V.ra ∧ k ∉ ownA V.va ∧ ∀ x ∈ ms, k ∉ runOwn x) ∧ (∀ k ∈ ownA V.va, k ≠ p ∧ k ∉ ownA V.ra ∧ k ∉ ownA V.la ∧ ∀ x ∈ ms, k ∉ runOwn x) := by
  have hs := h.sep
  obtain ⟨n1, n2⟩ := List.nodup_cons.1 hs
  obtain ⟨i1, i2, i3, i4⟩ := own_in V ms
  unfold ownersW at n2
  obtain ⟨a1, a2, a3⟩ := List.nodup_append.1 n2
  obtain ⟨b1, b2, b3⟩ := List.nodup_append.1 a1
  obtain ⟨c1, c2, c3⟩ := List.nodup_append.1 b1
  refine ⟨fun k hk => ⟨fun e => n1 (e ▸ i3 k hk), fun hr => b3 k (List.mem_append.2 (.inl hr)) k hk rfl, fun hv => b3 k (List.mem_append.2 (.inr hv)) k hk rfl, fun x hx hxk => a3 k (List.mem_append.2 (.inr hk)) k (List.mem_flatMap.2 ⟨x, hx, hxk⟩) rfl⟩,
    fun k hk => ⟨fun e => n1 (e ▸ i2 k hk), fun hr => c3 k hr k hk rfl, fun hl => b3 k (List.mem_append.2 (.inr hk)) k hl rfl, fun x hx hxk => a3 k (List.mem_append.2 (.inl (List.mem_append.2 (.inr hk)))) k (List.mem_flatMap.2 ⟨x, hx, hxk⟩) rfl⟩⟩
theorem ownA_mem {A : Option Addr} {n c k : Nat} (h : (Value.slice A n c).ownBlock = some k) : k ∈ ownA A := ownA_is A n c h
theorem WdAt.place (h : WdAt w0 w G p m V rows vs ms bad) {i : Nat} {x : RunM} (hi : ms[i]? = some x) : ∃ g, V.la = some ⟨g, 0, none⟩ ∧ (∀ (k : Nat) u, (runC x)[k]? = some u → w.cell? ⟨g, i * 8 + k, none⟩ = some u) ∧ (∀ k, w.frozen? ⟨g, k, none⟩ = false) := by
  have hl := (List.getElem?_eq_some_iff.1 hi).1
  obtain ⟨g, e, -⟩ := h.list.addr10 (by omega)
  refine ⟨g, e, fun k u hk => ?_, fun k => ?_⟩
  · obtain ⟨g', o', e', hc⟩ := h.list.sb10.el runC_len (by omega) hi
    rw [e] at e'
    cases e'
    have := hc k u hk
    rwa [Nat.zero_add] at this
  · have hso := h.list
    rw [e] at hso
    exact hso.own.frozenAt k
theorem WdAt.flag (h : WdAt w0 w G p m V rows vs ms bad) {i k g : Nat} {x x' : RunM} {u : Value} (hi : ms[i]? = some x) (hg : V.la = some ⟨g, 0, none⟩) (hk : k < 8) (hc : runC x' = (runC x).set k u) (hu : u.oneCell' = true) (hr : x'.ra = x.ra ∧ x'.rc = x.rc ∧ x'.wa = x.wa ∧ x'.wc = x.wc ∧ x'.r.reads = x.r.reads ∧ x'.r.writes = x.r.writes) :
    WdAt w0 (w.setCell ⟨g, i * 8 + k, none⟩ u) G p m V rows vs (ms.set i x') bad := by
  obtain ⟨hr1, hr2, hr3, hr4, hr5, hr6⟩ := hr
  have hgm : g ∈ ownA V.la := by rw [hg]; simp [ownA]
  obtain ⟨f1, f2, f3, f4⟩ := h.far.1 g hgm
  have keep : ∀ k', k' ≠ g → (w.setCell ⟨g, i * 8 + k, none⟩ u).heap[k']? = w.heap[k']? := fun k' hne => Below.heap_setCell _ _ _ _ fun e => hne e
  have hxm := List.mem_of_getElem? hi
  have how : ownersW V (ms.set i x') = ownersW V ms := by
    obtain ⟨a, b, e1, -, e2⟩ := flat_set_own (x' := x') hi
    unfold ownersW
    rw [e2, e1]
    simp only [List.flatMap_append, List.flatMap_cons, List.flatMap_nil, List.append_nil, runOwn, hr1, hr3]
  have hlist : SO seU w0.heap.size (w.setCell ⟨g, i * 8 + k, none⟩ u) (.slice V.la (ms.set i x').length V.lc) (ms.set i x').length (cellsF runC (ms.set i x')) := by
    have h0 := h.list
    rw [hg] at h0 ⊢
    rw [List.length_set, cellsF_set runC_len hi hk hc]
    exact h0.set10 _ hu
  refine ⟨?_, h.rows_.keep10 fun k' e => keep k' fun e2 => f2 (e2 ▸ ownA_mem e), h.vers.keep10 fun k' e => keep k' fun e2 => f3 (e2 ▸ ownA_mem e), hlist, fun y hy => ?_, by rw [how]; exact h.sep, by rw [how]; exact h.ap, h.pl⟩
  · rw [List.length_set]
    exact (keep p fun e => f1 e.symm).trans h.blk
  · rcases List.mem_or_eq_of_mem_set hy with hy | rfl
    · refine ⟨(h.runs y hy).1.keep10 fun k' e => keep k' fun e2 => f4 y hy ?_, (h.runs y hy).2.keep10 fun k' e => keep k' fun e2 => f4 y hy ?_⟩
      · rw [← e2]; exact List.mem_append.2 (.inl (ownA_mem e))
      · rw [← e2]; exact List.mem_append.2 (.inr (ownA_mem e))
    · obtain ⟨q1, q2⟩ := h.runs x hxm
      unfold RunM.rv RunM.wv at *
      rw [hr1, hr2, hr3, hr4, hr5, hr6]
      refine ⟨q1.keep10 fun k' e => keep k' fun e2 => f4 x hxm ?_, q2.keep10 fun k' e => keep k' fun e2 => f4 x hxm ?_⟩
      · rw [← e2]; exact List.mem_append.2 (.inl (ownA_mem e))
      · rw [← e2]; exact List.mem_append.2 (.inr (ownA_mem e))
theorem WdAt.reads (h : WdAt w0 w G p m V rows vs ms bad) (hGlt : ∀ k, G k → k < w.heap.size) {i g g1 c1 : Nat} {x : RunM} {rd : Lk × Int} (hi : ms[i]? = some x) (hg : V.la = some ⟨g, 0, none⟩)
    (hso : SO seD w0.heap.size w1 (.slice (some ⟨g1, 0, none⟩) (x.r.reads.length + 1) c1) (x.r.reads.length + 1) (cellsF redC x.r.reads ++ cellsF redC [rd])) (hgr : w.grownBy w1 x.rv.ownBlock) (hl : x.rv.ownBlock = some g1 ∨ w.heap.size ≤ g1) :
    WdAt w0 (w1.setCell ⟨g, i * 8 + 6, none⟩ (.slice (some ⟨g1, 0, none⟩) (x.r.reads.length + 1) c1)) G p m V rows vs (ms.set i { x with r := { x.r with reads := x.r.reads ++ [rd] }, ra := some ⟨g1, 0, none⟩, rc := c1 }) bad := by
  obtain ⟨x', hx'⟩ : ∃ x', ({ x with r := { x.r with reads := x.r.reads ++ [rd] }, ra := some ⟨g1, 0, none⟩, rc := c1 } : RunM) = x' := ⟨_, rfl⟩
  rw [hx']
  have hgm : g ∈ ownA V.la := by rw [hg]; simp [ownA]
  obtain ⟨f1, f2, f3, f4⟩ := h.far.1 g hgm
  have hxm := List.mem_of_getElem? hi
  obtain ⟨a, b, e1, -, e2⟩ := flat_set_own (x' := x') hi
  -- where the run's own blocks stand among the others
  have hpart : p :: ownersW V ms = (p :: (ownA V.ra ++ ownA V.va ++ ownA V.la ++ a.flatMap runOwn)) ++ runOwn x ++ b.flatMap runOwn := by
    unfold ownersW; rw [e1]; simp [List.append_assoc]
  have hpart' : p :: ownersW V (ms.set i x') = (p :: (ownA V.ra ++ ownA V.va ++ ownA V.la ++ a.flatMap runOwn)) ++ runOwn x' ++ b.flatMap runOwn := by
    unfold ownersW; rw [e2]; simp [List.append_assoc]
  have hsep := h.sep
  rw [hpart] at hsep
  have hox' : runOwn x' = g1 :: ownA x.wa := by rw [← hx']; rfl
  have hg1 : g1 ∈ runOwn x ∨ w.heap.size ≤ g1 := by
    rcases hl with hl | hl
    · exact .inl (List.mem_append.2 (.inl (ownA_mem hl)))
    · exact .inr hl
  have hg1wa : g1 ∉ ownA x.wa := by
    rcases hl with hl | hl
    · intro hw
      have h2 := (List.nodup_append.1 (List.nodup_append.1 hsep).1).2.1
      unfold runOwn at h2
      exact (List.nodup_append.1 h2).2.2 g1 (ownA_mem hl) g1 hw rfl
    · intro hw
      have := (h.runs x hxm).2.lt10 g1 hw
      omega
  have hwan : (ownA x.wa).Nodup := by cases x.wa <;> simp [ownA]
  have hnew : (p :: ownersW V (ms.set i x')).Nodup := by
    rw [hpart']
    refine nodup_swap hsep ?_ fun k hk => ?_
    · rw [hox', List.nodup_cons]; exact ⟨hg1wa, hwan⟩
    · rw [hox'] at hk
      rcases List.mem_cons.1 hk with rfl | hk
      · rcases hg1 with h1 | h1
        · exact .inl h1
        · right
          rw [← hpart]
          intro hk2
          have := (h.lt k hk2).2
          omega
      · exact .inl (List.mem_append.2 (.inr hk))
  -- no other owner's block is the one that the append wrote, nor the list's
  have keep1 : ∀ k, k ∈ p :: ownersW V ms → k ∉ ownA x.ra → w1.heap[k]? = w.heap[k]? := fun k hk hne => hgr.block k (h.lt k hk).2 fun e => hne (ownA_mem (n := x.r.reads.length) (c := x.rc) e.symm)
  have far1 : ∀ k ∈ ownA x.ra, k ∉ p :: (ownA V.ra ++ ownA V.va ++ ownA V.la ++ a.flatMap runOwn) ∧ k ∉ b.flatMap runOwn ∧ k ∉ ownA x.wa := fun k hk => by
    have hkx : k ∈ runOwn x := List.mem_append.2 (.inl hk)
    obtain ⟨s1, s2, s3⟩ := List.nodup_append.1 hsep
    obtain ⟨t1, t2, t3⟩ := List.nodup_append.1 s1
    refine ⟨fun h1 => t3 k h1 k hkx rfl, fun h1 => s3 k (List.mem_append.2 (.inr hkx)) k h1 rfl, fun h1 => ?_⟩
    unfold runOwn at t2
    exact (List.nodup_append.1 t2).2.2 k hk k h1 rfl
  have keep2 : ∀ k, k ≠ g → (w1.setCell ⟨g, i * 8 + 6, none⟩ (.slice (some ⟨g1, 0, none⟩) (x.r.reads.length + 1) c1)).heap[k]? = w1.heap[k]? := fun k hne => Below.heap_setCell _ _ _ _ fun e => hne e
  obtain ⟨j1, j2, j3, j4⟩ := own_in V ms
  have hL1 : SO seU w0.heap.size w1 (.slice V.la ms.length V.lc) ms.length (cellsF runC ms) := h.list.keep10 fun k e => keep1 k (List.mem_cons_of_mem _ (j3 k (ownA_mem e))) fun hk => (far1 k hk).1 (by
    have := ownA_mem e
    simp only [List.mem_cons, List.mem_append]
    exact .inr (.inl (.inr this)))
  have hg1g : g1 ≠ g := fun e => by
    rcases hg1 with h1 | h1
    · exact f4 x hxm (e ▸ h1)
    · have := (h.list.lt10 g hgm).2; omega
  have hlist : SO seU w0.heap.size (w1.setCell ⟨g, i * 8 + 6, none⟩ (.slice (some ⟨g1, 0, none⟩) (x.r.reads.length + 1) c1)) (.slice V.la (ms.set i x').length V.lc) (ms.set i x').length (cellsF runC (ms.set i x')) := by
    rw [hg] at hL1 ⊢
    rw [List.length_set, cellsF_set runC_len hi (k := 6) (u := .slice (some ⟨g1, 0, none⟩) (x.r.reads.length + 1) c1) (by omega) (by rw [← hx']; simp [runC])]
    exact hL1.set10 _ rfl
  have ms_in : ∀ y ∈ ms.set i x', y = x' ∨ (y ∈ ms ∧ (∀ k ∈ runOwn y, k ∉ ownA x.ra)) := fun y hy => by
    rw [e2] at hy
    rcases List.mem_append.1 hy with hy | hy
    · rcases List.mem_append.1 hy with hy | hy
      · refine .inr ⟨by rw [e1]; simp [hy], fun k hk hx => (far1 k hx).1 ?_⟩
        simp only [List.mem_cons, List.mem_append, List.mem_flatMap]
        exact .inr (.inr ⟨y, hy, hk⟩)
      · exact .inl (List.mem_singleton.1 hy)
    · refine .inr ⟨by rw [e1]; simp [hy], fun k hk hx => (far1 k hx).2.1 (List.mem_flatMap.2 ⟨y, hy, hk⟩)⟩
  refine ⟨?_, ?_, ?_, hlist, fun y hy => ?_, hnew, fun k hk => ?_, h.pl⟩
  · rw [List.length_set]
    exact (keep2 p fun e => f1 e.symm).trans ((keep1 p (List.mem_cons_self ..) fun hk => (far1 p hk).1 (List.mem_cons_self ..)).trans h.blk)
  · refine h.rows_.keep10 fun k e => (keep2 k fun e2 => f2 (e2 ▸ ownA_mem e)).trans (keep1 k (List.mem_cons_of_mem _ (j1 k (ownA_mem e))) fun hk => (far1 k hk).1 ?_)
    have := ownA_mem e
    simp only [List.mem_cons, List.mem_append]
    exact .inr (.inl (.inl (.inl this)))
  · refine h.vers.keep10 fun k e => (keep2 k fun e2 => f3 (e2 ▸ ownA_mem e)).trans (keep1 k (List.mem_cons_of_mem _ (j2 k (ownA_mem e))) fun hk => (far1 k hk).1 ?_)
    have := ownA_mem e
    simp only [List.mem_cons, List.mem_append]
    exact .inr (.inl (.inl (.inr this)))
  · rcases ms_in y hy with rfl | ⟨hym, hyf⟩
    · rw [← hx']
      refine ⟨?_, ?_⟩
      · have := hso.keep10 (w' := w1.setCell ⟨g, i * 8 + 6, none⟩ (.slice (some ⟨g1, 0, none⟩) (x.r.reads.length + 1) c1)) fun k e => keep2 k fun e2 => by
          have : k = g1 := by simpa [Value.ownBlock, eq_comm] using e
          exact hg1g (this.symm.trans e2)
        simp only [RunM.rv, List.length_append, List.length_singleton, cellsF_app]
        exact this
      · exact (h.runs x hxm).2.keep10 fun k e => (keep2 k fun e2 => f4 x hxm (by rw [← e2]; exact List.mem_append.2 (.inr (ownA_mem e)))).trans (keep1 k (List.mem_cons_of_mem _ (j4 x hxm k (List.mem_append.2 (.inr (ownA_mem e))))) fun hk => (far1 k hk).2.2 (ownA_mem e))
    · refine ⟨(h.runs y hym).1.keep10 fun k e => ?_, (h.runs y hym).2.keep10 fun k e => ?_⟩
      · have hk : k ∈ runOwn y := List.mem_append.2 (.inl (ownA_mem e))
        exact (keep2 k fun e2 => f4 y hym (e2 ▸ hk)).trans (keep1 k (List.mem_cons_of_mem _ (j4 y hym k hk)) (hyf k hk))
      · have hk : k ∈ runOwn y := List.mem_append.2 (.inr (ownA_mem e))
        exact (keep2 k fun e2 => f4 y hym (e2 ▸ hk)).trans (keep1 k (List.mem_cons_of_mem _ (j4 y hym k hk)) (hyf k hk))
  · by_cases hkg : k = g1 ∧ w.heap.size ≤ g1
    · intro hG
      have := hGlt k hG
      omega
    · refine h.ap k ?_
      rw [hpart'] at hk
      rw [hpart]
      rcases List.mem_append.1 hk with hk | hk
      · rcases List.mem_append.1 hk with hk | hk
        · exact List.mem_append.2 (.inl (List.mem_append.2 (.inl hk)))
        · rw [hox'] at hk
          rcases List.mem_cons.1 hk with rfl | hk
          · rcases hg1 with h1 | h1
            · exact List.mem_append.2 (.inl (List.mem_append.2 (.inr h1)))
            · exact absurd ⟨rfl, h1⟩ hkg
          · exact List.mem_append.2 (.inl (List.mem_append.2 (.inr (List.mem_append.2 (.inr hk)))))
      · exact List.mem_append.2 (.inr hk)
end
end Go.Proofs.YtknppiebncdjmaaGreat
