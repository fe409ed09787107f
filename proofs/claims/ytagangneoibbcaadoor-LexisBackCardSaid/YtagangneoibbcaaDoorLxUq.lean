/- Layer 12: Unquote of what Quote says; a list of tokens whose places are set. -/
import Derived.Test.YtagangneoibbcaaDoorLxDg
import Derived.Test.YtagangneoibbcaaDoorLxTk
set_option linter.unusedVariables false
namespace Go.Proofs.YtagangneoibbcaaDoor
set_option maxRecDepth 100000
open Go.RowKit

theorem quote_bytes {L : List Int} (h : ∀ c ∈ L, 0 ≤ c ∧ c ≤ 255) : ∀ c ∈ quoteP L, 0 ≤ c ∧ c ≤ 255 := by
  intro c hc
  unfold quoteP at hc
  rcases List.mem_cons.1 hc with rfl | hc
  · decide
  · rcases List.mem_append.1 hc with hc | hc
    · obtain ⟨d, hd, hc⟩ := List.mem_flatMap.1 hc
      have hb := h d hd
      have hx : ∀ e : Int, 0 ≤ e → e < 16 → 0 ≤ hexD e ∧ hexD e ≤ 255 := fun e _ _ => by unfold hexD; split <;> omega
      have h1 := hx (d / 16) (by omega) (by omega)
      have h2 := hx (d % 16) (by omega) (by omega)
      unfold qbP at hc
      split at hc
      · rw [List.mem_singleton.1 hc]; exact hb
      · split at hc
        · simp at hc; rcases hc with rfl | rfl <;> omega
        · split at hc
          · simp at hc; rcases hc with rfl | rfl <;> omega
          · split at hc
            · simp at hc; rcases hc with rfl | rfl <;> omega
            · simp at hc; rcases hc with rfl | rfl | rfl | rfl <;> omega
    · rw [List.mem_singleton.1 hc]; decide
set_option maxHeartbeats 8000000 in
theorem wUnquote (b : ByteArray) (w : World) (hb : b.size ≤ 4096) :
    Calls Tryd.prog 23 #[.string (strOfNums (quoteP (strB b)))] w fun e w' => e = .returned (.tuple #[.string b, .int .i64 0]) ∧ Below w.heap.size w w' := by
  have hsb : strB (strOfNums (quoteP (strB b))) = quoteP (strB b) := strB_nums12 _ (quote_bytes (strB_byte b))
  have hqs : (quoteP (strB b)).length = ((strB b).flatMap qbP).length + 2 := by unfold quoteP; simp
  have hql := qs_len (strB b)
  rw [strB_len] at hql
  obtain ⟨s, hs⟩ : ∃ s, strOfNums (quoteP (strB b)) = s := ⟨_, rfl⟩
  have hsz : s.size = ((strB b).flatMap qbP).length + 2 := by rw [← hs, strOf_sz, hqs]
  rw [hs] at hsb ⊢
  have hs6 : s.size ≤ 65536 := by omega
  obtain ⟨W0, hW0⟩ : ∃ W, w.alloc (.cells #[.string s, .int .i64 0, .int .i64 0, .string ⟨#[]⟩, .int .i64 0, .int .i64 0, .bool false, .string ⟨#[]⟩, .complex .f64 0 0, .int .i64 0, .int .i64 0, .int .i64 0] 50) = W := ⟨_, rfl⟩
  have HW0 := Lib.hid hW0
  have B0 := Lib.hid (show Below w.heap.size w W0 by rw [← hW0]; exact (Below.refl _ _).alloc (Nat.le_refl _) _)
  have R0 := Lib.hid (show Rd W0 w.heap.size s 0 Tk.zero 0 0 by rw [← hW0]; exact heap_alloc_new w _)
  obtain ⟨g, hg⟩ : ∃ g, w.heap.size = g := ⟨_, rfl⟩
  have HGW := Lib.hid hg
  rw [hg] at B0 R0
  have CL := Lib.hid (wLook R0.out (Nat.zero_le _) hs6)
  rw [hsb, show chP (quoteP (strB b)) 0 = 34 from rfl] at CL
  have CQ := Lib.hid (fun n => wQuoted (R0.out.drewN n) (show 0 < s.size by omega) hs6)
  have hq : qtP ((strB s).drop (0 + 1)) = (some (strB b), ((strB b).flatMap qbP).length + 1) := by
    rw [hsb]
    show qtP ((strB b).flatMap qbP ++ [34]) = _
    exact quote_read (strB b) (strB_byte b) []
  unfold QuotedIs at CQ
  rw [hq] at CQ
  dsimp only at CQ
  rw [show 0 + 1 + (((strB b).flatMap qbP).length + 1) = s.size by omega] at CQ
  have hbs : (strB b).length = b.size := strB_len b
  have HNB := Lib.hid (nums_strB12 b)
  obtain ⟨zs, hzs⟩ : ∃ zs, strB b = zs := ⟨_, rfl⟩
  rw [hzs] at CQ hbs HNB
  have l1 : ¬ (4096 : Int) < (zs.length : Int) := by omega
  have l2 : ¬ (s.size : Int) < (s.size : Int) := by omega
  clear hs hsb hqs hql hsz hs6 hq hzs hW0 hb hg hbs
  go_enter Tryd.func23, Tryd.ntmps23
  have hst := run_store_cx Tryd.prog
  go_upto_region 2 with fail
  rw [HW0.out, HGW.out]
  clear hst
  go_upto_region 5 with (first
    | (go_at_call 38; go_loud (refine CL.out.mono ?_; rintro e w1 ⟨rfl, n1, rfl⟩))
    | (go_at_call 39; go_loud (refine (CQ.out n1).mono ?_; rintro e w2 ⟨o2, r2, v, rfl, ob⟩; have R2 := Lib.hid r2; have O2 := Lib.hid o2; obtain ⟨A, c, hv, hrb, -, -⟩ := ob.form; have hcv := rb_str hrb c; rw [HNB.out] at hcv; subst hv; have d1 : w2.cell? ⟨g, 1, none⟩ = some (.int .i64 (s.size : Nat)) := r2.cell 1; clear r2 o2 ob hrb)))
  go_wp2
  go_ret2
  refine ⟨rfl, ?_⟩
  have hgw := HGW.out
  have h1 : Below g w (W0.drewN n1) := B0.out.trans ((show Below W0.heap.size W0 (W0.drewN n1) from ⟨rfl, rfl, rfl, Nat.le_refl _, fun _ _ => rfl⟩).mono (by rw [← hgw]; exact B0.out.size))
  rw [hgw]
  exact h1.trans (O2.out.below (by rw [← hgw]; exact h1.size) fun i hi e => by have e : i = g := e; omega)

/-- A list of tokens with a place set. -/
theorem cells_place {pre post : List Tk} {x y : Tk} (hy : y.same x) : (cellsE Tk.cells (pre ++ y :: post)).set (8 * pre.length + 7) (.int .i64 (x.a : Nat)) = cellsE Tk.cells (pre ++ x :: post) := by
  obtain ⟨k, t, vk, vi, vb, a⟩ := x
  obtain ⟨k2, t2, vk2, vi2, vb2, a2⟩ := y
  obtain ⟨h1, h2, h3, h4, h5⟩ := hy
  dsimp only at h1 h2 h3 h4 h5
  subst h1 h2 h3 h4 h5
  rw [cellsE_app, cellsE_app]
  have hl := cellsE_len Tk.len pre
  rw [List.set_append_right _ _ (by rw [hl]; omega), hl, show 8 * pre.length + 7 - 8 * pre.length = 7 by omega]
  simp [cellsE, Tk.cells]
theorem TL.set_place {base g c : Nat} {w : World} {n : Nat} {pre post : List Tk} {x y : Tk} (h : SO seT base w (.slice (some ⟨g, 0, none⟩) n c) n (cellsE Tk.cells (pre ++ y :: post))) (hy : y.same x) :
    SO seT base (w.setCell ⟨g, 8 * pre.length + 7, none⟩ (.int .i64 (x.a : Nat))) (.slice (some ⟨g, 0, none⟩) n c) n (cellsE Tk.cells (pre ++ x :: post)) := by
  rw [← cells_place hy]
  refine ⟨(h.own.stored _ _).1, by rw [List.length_set]; exact h.len, fun u hu => ?_⟩
  rcases List.mem_or_eq_of_mem_set hu with k | k
  · exact h.one u k
  · rw [k]; rfl
end Go.Proofs.YtagangneoibbcaaDoor
