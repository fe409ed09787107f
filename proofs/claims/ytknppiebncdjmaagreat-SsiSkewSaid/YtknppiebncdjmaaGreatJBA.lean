import Derived.Test.YtknppiebncdjmaaGreatJAZ
import Derived.StillTailTactics
import Derived.Test.YtknppiebncdjmaaGreatJAA
import Derived.Test.YtknppiebncdjmaaGreatJAH
set_option linter.unusedVariables false
namespace Go.Proofs.YtknppiebncdjmaaGreat
set_option maxRecDepth 100000
open Go.RowKit

theorem rd_get {ls : List (Nat × Rd)} {i : Nat} {q : Nat × Rd} (h : ls[i]? = some q) : (ls.map (·.2))[i]? = some q.2 := by rw [List.getElem?_map, h]; rfl
set_option maxHeartbeats 4000000 in
theorem wpCover {w : World} {v : Value} {ls : List (Nat × Rd)} (h : NL w v ls) (hn : ls.length ≤ 100000) (hs : (ls.map (·.2)).Pairwise fun a b => klB b.lo a.lo = false) (hz : ∀ q ∈ ls, q.2.lo.size ≤ 140737488355328) (x : Rd) (hx : x.lo.size ≤ 140737488355328) :
    Calls Tryz.prog 97 #[v, rdV x] w fun e w' => e = .returned (.bool (coverP (ls.map (·.2)) x)) ∧ Below w.heap.size w w' := by
  obtain ⟨W, hW⟩ : ∃ W, w.alloc (.cells #[.string x.tb, .int .i64 x.kd, .string x.lo, .string x.hi] 114) = W := ⟨_, rfl⟩
  have HW := Lib.hid hW
  have hb1 : Below w.heap.size w W := by rw [← hW]; exact below_alloc9 _ _
  have HB := Lib.hid hb1
  have q := rd_box w x
  rw [hW] at q
  have x0 : W.cell? ⟨w.heap.size, 0, none⟩ = some (.string x.tb) := cell_of_row _ _ 0 _ _ _ q
  have x1 : W.cell? ⟨w.heap.size, 1, none⟩ = some (.int .i64 x.kd) := cell_of_row _ _ 1 _ _ _ q
  have x2 : W.cell? ⟨w.heap.size, 2, none⟩ = some (.string x.lo) := cell_of_row _ _ 2 _ _ _ q
  have x3 : W.cell? ⟨w.heap.size, 3, none⟩ = some (.string x.hi) := cell_of_row _ _ 3 _ _ _ q
  have CB := Lib.hid (wpBeg (h.gw hb1) hn hs (key := x.lo))
  have hle : begN (ls.map (·.2)) x.lo ≤ ls.length := by have := begN_le (ls.map (·.2)) x.lo; rw [List.length_map] at this; exact this
  have hcv : coverP (ls.map (·.2)) x = (decide (0 < begN (ls.map (·.2)) x.lo) && ((ls.map (·.2))[begN (ls.map (·.2)) x.lo - 1]?).elim false fun y => coversP y x) := rfl
  have hbb : begP (ls.map (·.2)) x.lo = begN (ls.map (·.2)) x.lo := rfl
  rw [hbb] at CB
  have hN := Lib.hid (h.gw hb1)
  generalize begN (ls.map (·.2)) x.lo = n at *
  clear h hs hb1 hW q hbb
  unfold rdV
  rcases Nat.eq_zero_or_pos n with h0 | h0
  · subst h0
    have HM := Lib.hid (show coverP (ls.map (·.2)) x = false by rw [hcv]; rfl)
    clear hcv
    go_enter Tryz.func97, Tryz.ntmps97
    go_upto_region 1 with fail
    rw [HW.out]
    go_upto_region 2 with (go_at_call 141; go_loud (refine CB.out.mono ?_; rintro e w1 ⟨rfl, g1⟩; have G1 := Lib.hid (below_next HB.out g1); clear g1))
    go_quiet (fail)
    go_wp2
    go_ret
    exact ⟨by rw [HM.out] <;> rfl, below_next G1.out (below_drewN9 _ _)⟩
  · obtain ⟨p, hp⟩ : ∃ p, ls[n - 1]? = some p := ⟨_, List.getElem?_eq_getElem (by omega)⟩
    have HM := Lib.hid (show coverP (ls.map (·.2)) x = coversP p.2 x by rw [hcv, rd_get hp]; simp [h0])
    have CC := Lib.hid (fun W => wpCovers W p.2 x (hz p (List.mem_of_getElem? hp)) hx)
    unfold rdV at CC
    have HNF := hN.out.form
    obtain ⟨A, c, rfl, a1, a2, a3⟩ := HNF
    obtain ⟨g, rfl, c1, hr⟩ := a3 _ p hp
    obtain ⟨y0, y1, y2, y3⟩ := hr.cells
    unfold ptV at c1
    obtain ⟨m, hm⟩ : ∃ m, n - 1 = m := ⟨_, rfl⟩
    have i1 : (0 : Int) < (n : Int) := by omega
    have i2 : (m : Int) < (ls.length : Int) := by omega
    have i3 : IntKind.i64.wrap ((n : Int) - 1) = (m : Int) := by rw [IntKind.wrap_i64]; omega
    rw [hm] at c1
    clear hm hcv hr a3 hp hN hz hx
    go_enter Tryz.func97, Tryz.ntmps97
    go_upto_region 1 with fail
    rw [HW.out]
    go_upto_region 2 with (go_at_call 141; go_loud (refine CB.out.mono ?_; rintro e w1 ⟨rfl, g1⟩; have G1 := Lib.hid (below_next HB.out g1); replace x0 := keep_below x0 g1; replace x1 := keep_below x1 g1; replace x2 := keep_below x2 g1; replace x3 := keep_below x3 g1; replace y0 := keep_below y0 g1; replace y1 := keep_below y1 g1; replace y2 := keep_below y2 g1; replace y3 := keep_below y3 g1; replace c1 := keep_below c1 g1; clear g1))
    go_still_tail 11, (by kernel_rfl)
    go_wp2_with (go_at_call 142; go_loud (refine (CC.out _).mono ?_; rintro e w2 ⟨rfl, g2⟩; have G2 := Lib.hid (below_next G1.out.drew g2); clear g2))
    go_ret
    exact ⟨by rw [HM.out] <;> rfl, G2.out⟩
end Go.Proofs.YtknppiebncdjmaaGreat

namespace Go.Proofs.YtknppiebncdjmaaGreat
set_option maxRecDepth 100000
open Go.RowKit

def withL (ls : List (Nat × Rd)) (p : Nat) (x : Rd) : List (Nat × Rd) := ls.take (firstN (ls.map (·.2)) x) ++ [(p, x)] ++ ls.drop (lastN (ls.map (·.2)) x)
theorem withL_rd (ls : List (Nat × Rd)) (p : Nat) (x : Rd) : (withL ls p x).map (·.2) = withP (ls.map (·.2)) x := by simp [withL, withP, List.map_take, List.map_drop]
theorem twl_step {α : Type} (f : α → Bool) (l : List α) {k : Nat} (hk : k ≤ (l.takeWhile f).length) : (k < (l.takeWhile f).length ↔ (l[k]?).elim false f = true) := by
  induction l generalizing k with
  | nil => simp
  | cons a l ih =>
    cases ha : f a with
    | false =>
      rw [List.takeWhile_cons_of_neg (by rw [ha]; simp)] at hk ⊢
      have : k = 0 := by simpa using hk
      subst this
      simp [ha]
    | true =>
      rw [List.takeWhile_cons_of_pos ha] at hk ⊢
      cases k with
      | zero => simp [ha]
      | succ k =>
        simp only [List.length_cons] at hk ⊢
        have := ih (k := k) (by omega)
        rw [List.getElem?_cons_succ, ← this]
        omega
theorem no_rd {w : World} {p g c : Nat} {x : Rd} {cur : List Value} (h : RdAt w p x) (hr : Rw w g c cur) : p ≠ g := by
  rintro rfl
  have h2 := hr.heap.1
  unfold RdAt at h
  rw [h] at h2
  have := (Obj.cells.inj (Option.some.inj h2)).2.1
  exact absurd this (by decide)
theorem NL.no {w : World} {v : Value} {ls : List (Nat × Rd)} (h : NL w v ls) {p : Nat} {x : Rd} (hp : RdAt w p x) : v.ownBlock ≠ some p := by
  rcases h.pv with ⟨rfl, -⟩ | ⟨g, c, cur, rfl, h1, -⟩
  · simp [Value.ownBlock]
  · intro e
    exact no_rd hp h1 (Option.some.inj e).symm
theorem wpPut {w W W' : World} {v : Value} {ls : List (Nat × Rd)} (h : NL w v ls) (hn : ls.length ≤ 100000) {x : Rd} (hb : Below w.heap.size w W) (hq : RdAt W w.heap.size x) (hW : Below W.heap.size W W') {i j : Nat} (hij : i ≤ j) (hj : j ≤ ls.length) :
    Calls Tryz.prog 143 #[v, .int .i64 (i : Nat), .int .i64 (j : Nat), .slice (some ⟨W'.heap.size, 0, none⟩) 1 1] (W'.alloc (.cells #[.pointer (some ⟨w.heap.size, 0, none⟩)] 163)) fun e w' => ∃ v', e = .returned v' ∧ NL w' v' (ls.take i ++ [(w.heap.size, x)] ++ ls.drop j) ∧ (∃ g, v'.ownBlock = some g ∧ (v.ownBlock = some g ∨ w.heap.size ≤ g)) ∧ Out (fun k => v.ownBlock = some k) w w' := by
  have hb2 : Below w.heap.size w W' := below_next hb hW
  have hs2 := hb.size
  have hs3 := hW.size
  have hb3 : Below W'.heap.size W' (W'.alloc (.cells #[.pointer (some ⟨w.heap.size, 0, none⟩)] 163)) := below_alloc9 _ _
  have hb4 : Below w.heap.size w (W'.alloc (.cells #[.pointer (some ⟨w.heap.size, 0, none⟩)] 163)) := below_next hb2 hb3
  have hN := h.gw hb4
  have hne : v.ownBlock ≠ some W'.heap.size := fun e => by
    have := h.pv.lt _ e
    omega
  have hlt := RdAt.lt hq
  refine (wReplaceP hN.pv hij (by rw [List.length_map]; exact hj) (by rw [List.length_map]; exact hn) (p := w.heap.size) (heap_alloc_new _ _) hne).mono ?_
  rintro e w' ⟨v', rfl, I⟩
  refine ⟨v', rfl, ⟨?_, fun q hq2 => ?_⟩, ?_, ?_⟩
  · have := I.pv
    simpa [List.map_take, List.map_drop] using this
  · have hmem : q ∈ ls ∨ q = (w.heap.size, x) := by
      simp only [List.mem_append, List.mem_singleton] at hq2
      rcases hq2 with (h1 | h1) | h1
      · exact .inl (List.mem_of_mem_take h1)
      · exact .inr h1
      · exact .inl (List.mem_of_mem_drop h1)
    have hat : RdAt (W'.alloc (.cells #[.pointer (some ⟨w.heap.size, 0, none⟩)] 163)) q.1 q.2 := by
      rcases hmem with h1 | rfl
      · exact hN.rd q h1
      · exact (hq.block (hW.block _ hlt)).block (hb3.block _ (by show w.heap.size < W'.heap.size; omega))
    exact hat.block (I.out.block _ hat.lt fun e => hN.no hat e)
  · obtain ⟨g, e1, e2⟩ := I.own
    exact ⟨g, e1, e2.imp id fun e => by have := hb4.size; omega⟩
  · exact (Out.of_below hb4 _).then I.out
set_option maxHeartbeats 8000000 in
theorem wpWith {w : World} {v : Value} {ls : List (Nat × Rd)} (h : NL w v ls) (hn : ls.length ≤ 100000) (hs : (ls.map (·.2)).Pairwise fun a b => klB b.lo a.lo = false) (hz : ∀ q ∈ ls, q.2.lo.size ≤ 140737488355328) (x : Rd) (hx : x.lo.size ≤ 140737488355328) :
    Calls Tryz.prog 99 #[v, rdV x] w fun e w' => ∃ v', e = .returned v' ∧ NL w' v' (withL ls w.heap.size x) ∧ (∃ g, v'.ownBlock = some g ∧ (v.ownBlock = some g ∨ w.heap.size ≤ g)) ∧ Out (fun k => v.ownBlock = some k) w w' := by
  obtain ⟨W, hW⟩ : ∃ W, w.alloc (.cells #[.string x.tb, .int .i64 x.kd, .string x.lo, .string x.hi] 114) = W := ⟨_, rfl⟩
  have HW := Lib.hid hW
  have hb1 : Below w.heap.size w W := by rw [← hW]; exact below_alloc9 _ _
  have HB := Lib.hid hb1
  have q := rd_box w x
  rw [hW] at q
  have HQ := Lib.hid (show RdAt W w.heap.size x from q)
  have x0 : W.cell? ⟨w.heap.size, 0, none⟩ = some (.string x.tb) := cell_of_row _ _ 0 _ _ _ q
  have x1 : W.cell? ⟨w.heap.size, 1, none⟩ = some (.int .i64 x.kd) := cell_of_row _ _ 1 _ _ _ q
  have x2 : W.cell? ⟨w.heap.size, 2, none⟩ = some (.string x.lo) := cell_of_row _ _ 2 _ _ _ q
  have x3 : W.cell? ⟨w.heap.size, 3, none⟩ = some (.string x.hi) := cell_of_row _ _ 3 _ _ _ q
  have CB := Lib.hid (wpBeg (h.gw hb1) hn hs (key := x.lo))
  have hle : begN (ls.map (·.2)) x.lo ≤ ls.length := by have := begN_le (ls.map (·.2)) x.lo; rw [List.length_map] at this; exact this
  have hbb : begP (ls.map (·.2)) x.lo = begN (ls.map (·.2)) x.lo := rfl
  rw [hbb] at CB
  have CC := Lib.hid (fun W (q : Nat × Rd) (hq : q ∈ ls) => wpCovers W x q.2 hx (hz q hq))
  unfold rdV at CC
  have hN := h.gw hb1
  have HN := Lib.hid hN
  have HN0 := Lib.hid h
  obtain ⟨A, c, rfl, a1, a2, -⟩ := hN.form
  have hf1 : firstN (ls.map (·.2)) x = if 0 < begN (ls.map (·.2)) x.lo ∧ (((ls.map (·.2))[begN (ls.map (·.2)) x.lo - 1]?).elim false fun y => coversP x y) = true then begN (ls.map (·.2)) x.lo - 1 else begN (ls.map (·.2)) x.lo := rfl
  obtain ⟨n, hbn⟩ : ∃ n, begN (ls.map (·.2)) x.lo = n := ⟨_, rfl⟩
  rw [hbn] at CB hle hf1
  obtain ⟨f, hf⟩ : ∃ f, firstN (ls.map (·.2)) x = f := ⟨_, rfl⟩
  rw [hf] at hf1
  have hlast : lastN (ls.map (·.2)) x = f + (((ls.map (·.2)).drop f).takeWhile (coversP x)).length := by unfold lastN; rw [hf]
  have hfl : f ≤ ls.length := by have := first_le (ls.map (·.2)) x; rw [hf, List.length_map] at this; exact this
  have hll : lastN (ls.map (·.2)) x ≤ ls.length := by have := last_le (ls.map (·.2)) x; rw [List.length_map] at this; exact this
  have HH := Lib.hid (And.intro hf (And.intro hlast (And.intro hfl hll)))
  have HX := Lib.hid hx
  have HC := Lib.hid (And.intro a1 a2)
  have HLN := Lib.hid hn
  have CR := Lib.hid (fun (W' : World) (hW' : Below W.heap.size W W') => wpPut h hn hb1 HQ.out hW' (show f ≤ lastN (ls.map (·.2)) x by rw [hlast]; exact Nat.le_add_right _ _) hll)
  have hwl : withL ls w.heap.size x = ls.take f ++ [(w.heap.size, x)] ++ ls.drop (lastN (ls.map (·.2)) x) := by unfold withL; rw [hf]
  rw [hwl]
  clear hwl
  have hstep : ∀ k, f ≤ k → k ≤ lastN (ls.map (·.2)) x → (k < lastN (ls.map (·.2)) x ↔ (ls[k]?).elim false (fun q => coversP x q.2) = true) := fun k hk1 hk2 => by
    have := twl_step (coversP x) ((ls.map (·.2)).drop f) (k := k - f) (by omega)
    rw [List.getElem?_drop, show f + (k - f) = k by omega, List.getElem?_map] at this
    rw [hlast]
    rw [show (k < f + (((ls.map (·.2)).drop f).takeWhile (coversP x)).length ↔ k - f < (((ls.map (·.2)).drop f).takeWhile (coversP x)).length) by omega, this]
    cases ls[k]? <;> simp
  have hLf : f ≤ lastN (ls.map (·.2)) x := by rw [hlast]; exact Nat.le_add_right _ _
  generalize lastN (ls.map (·.2)) x = L at *
  generalize hres : ls.take f ++ [(w.heap.size, x)] ++ ls.drop L = res at *
  have HSTEP := Lib.hid hstep
  have HL := Lib.hid (And.intro hLf (And.intro hll hfl))
  have hA : ∀ (W' : World), Below W.heap.size W W' → ∀ (k : Nat) (q : Nat × Rd), ls[k]? = some q → ∃ g, A = some ⟨g, 0, none⟩ ∧ W'.cell? ⟨g, k, none⟩ = some (ptV q.1) ∧ RdAt W' q.1 q.2 := fun W' hW' k q hq => by
    obtain ⟨A', c', e, -, -, h3⟩ := (hN.gw hW').form
    simp only [Value.slice.injEq, true_and] at e
    rw [e.1]
    exact h3 k q hq
  have HA := Lib.hid hA
  have hnf : n ≤ 100000 := by omega
  clear h hs hb1 hW q hbb hbn hz hN hlast hf hx hstep hres hA hfl hll hLf HH
  have hx1 : c ≤ 9223372036854775807 := by have := a2; unfold maxLen at this; omega
  unfold rdV
  have hlen : (ls.length : Int) ≤ 100000 := by omega
  rcases Nat.eq_zero_or_pos n with h0 | h0
  · have hf0 : f = n := by rw [hf1, if_neg (by omega)]
    subst hf0
    have i1 : ¬ (0 : Int) < (f : Int) := by omega
    have i1n : decide (0 < f) = false := by rw [h0]; rfl
    clear hf1 h0
    go_enter Tryz.func99, Tryz.ntmps99
    go_upto_region 1 with fail
    rw [HW.out]
    go_upto_region 2 with (go_at_call 141; go_loud (refine CB.out.mono ?_; rintro e w1 ⟨rfl, g1⟩; have G1 := Lib.hid g1; replace x0 := keep_below x0 g1; replace x1 := keep_below x1 g1; replace x2 := keep_below x2 g1; replace x3 := keep_below x3 g1; clear g1))
    go_region
    have GF := Lib.hid (G1.out.drew)
    have X := Lib.hid (And.intro x0 (And.intro x1 (And.intro x2 x3)))
    go_upto_region 5 with fail
    clear x0 x1 x2 x3
    go_loopw [6] (fun a' wz => ∃ k : Nat, a' = .int .i64 (k : Nat) ∧ f ≤ k ∧ k ≤ L ∧ Below W.heap.size W wz ∧ wz.cell? ⟨w.heap.size, 0, none⟩ = some (.string x.tb) ∧ wz.cell? ⟨w.heap.size, 1, none⟩ = some (.int .i64 x.kd) ∧ wz.cell? ⟨w.heap.size, 2, none⟩ = some (.string x.lo) ∧ wz.cell? ⟨w.heap.size, 3, none⟩ = some (.string x.hi)) (fun a' _ => ls.length - (intOf a').toNat)
    case atStart => exact ⟨f, rfl, Nat.le_refl _, HL.out.1, GF.out, X.out⟩
    case round =>
      rename World => wz
      obtain ⟨k, rfl, hk1, hk2, hbz, x0, x1, x2, x3⟩ := hrel
      have HBZ := Lib.hid hbz
      have HK := Lib.hid (And.intro hk1 hk2)
      by_cases hkl : k < ls.length
      · obtain ⟨q, hq⟩ : ∃ q, ls[k]? = some q := ⟨_, List.getElem?_eq_getElem hkl⟩
        have hst := HSTEP.out k hk1 hk2
        rw [hq] at hst
        simp only [Option.elim_some] at hst
        obtain ⟨g, rfl, c1, hr⟩ := HA.out wz hbz k q hq
        obtain ⟨y0, y1, y2, y3⟩ := hr.cells
        unfold ptV at c1
        have C3 := Lib.hid (fun W => CC.out W q (List.mem_of_getElem? hq))
        have i1 : (k : Int) < (ls.length : Int) := by omega
        have hkb : k ≤ 100000 := by omega
        cases hc : coversP x q.2
        · have hkL : k = L := by rw [hc] at hst; simp at hst; omega
          rw [hc] at C3
          subst hkL
          have HBX := HBZ
          clear hst hq hr hc hk1 hk2 hbz
          go_upto_region 5 with fail
          go_still_tail 12, (by kernel_rfl)
          go_upto_region 7 with (go_at_call 142; go_loud (refine (C3.out _).mono ?_; rintro e w2 ⟨rfl, g2⟩; have G2 := Lib.hid (below_next HBZ.out.drew g2); clear g2))
          have C4 := Lib.hid (CR.out _ G2.out)
          go_wp2_with (go_at_call 143; go_loud (refine C4.out.mono ?_; rintro e w5 ⟨v5, rfl, r5⟩; have R5 := Lib.hid r5; clear r5))
          go_ret
          exact ⟨_, rfl, R5.out⟩
        · have hkL : k < L := by rw [hc] at hst; simpa using hst
          rw [hc] at C3
          have HKL := Lib.hid hkL
          clear hst hq hr hc hk1 hk2 hbz hkL
          go_upto_region 5 with fail
          go_still_tail 12, (by kernel_rfl)
          go_upto_region 6 with (go_at_call 142; go_loud (refine (C3.out _).mono ?_; rintro e w2 ⟨rfl, g2⟩; have G2 := Lib.hid (below_next HBZ.out.drew g2); have g3 := (Below.refl wz.heap.size wz).drew.trans g2; replace x0 := keep_below x0 g3; replace x1 := keep_below x1 g3; replace x2 := keep_below x2 g3; replace x3 := keep_below x3 g3; clear g2 g3))
          have X2 := Lib.hid (And.intro x0 (And.intro x1 (And.intro x2 x3)))
          clear x0 x1 x2 x3 y0 y1 y2 y3
          go_wp2
          go_roundw
          case rel => exact ⟨k + 1, by go_num, by have := HK.out.1; omega, HKL.out, G2.out, X2.out⟩
          case measure => have := HKL.out; have := HL.out; simp [intOf]; omega
      · have hke : k = L := by have := HL.out; omega
        have i1 : ¬ (k : Int) < (ls.length : Int) := by omega
        subst hke
        clear hk1 hk2 hbz
        go_upto_region 5 with fail
        go_region
        clear x0 x1 x2 x3
        go_upto_region 7 with fail
        skip
        have C4 := Lib.hid (CR.out _ HBZ.out.drew)
        go_wp2_with (go_at_call 143; go_loud (refine C4.out.mono ?_; rintro e w5 ⟨v5, rfl, r5⟩; have R5 := Lib.hid r5; clear r5))
        go_ret
        exact ⟨_, rfl, R5.out⟩
  · obtain ⟨p, hp⟩ : ∃ p, ls[n - 1]? = some p := ⟨_, List.getElem?_eq_getElem (by omega)⟩
    rw [rd_get hp] at hf1
    simp only [Option.elim_some] at hf1
    obtain ⟨m, hm⟩ : ∃ m, n - 1 = m := ⟨_, rfl⟩
    rw [hm] at hp hf1
    have C2 := Lib.hid (fun W => CC.out W p (List.mem_of_getElem? hp))
    have i1 : (0 : Int) < (n : Int) := by omega
    have i2 : (m : Int) < (ls.length : Int) := by omega
    have i3 : IntKind.i64.wrap ((n : Int) - 1) = (m : Int) := by rw [IntKind.wrap_i64]; omega
    have HP := Lib.hid hp
    cases hcp : coversP x p.2
    · have hf0 : f = n := by rw [hf1]; exact if_neg (by rw [hcp]; simp)
      subst hf0
      rw [hcp] at C2
      clear hf1 hcp hm hp
      obtain ⟨g, rfl, c1, hr⟩ := HA.out W (Below.refl _ _) m p HP.out
      have HA2 := Lib.hid (fun W' hW' k q hq => by obtain ⟨g', e, h1, h2⟩ := HA.out W' hW' k q hq; cases e; exact ⟨h1, h2⟩ : ∀ (W' : World), Below W.heap.size W W' → ∀ (k : Nat) (q : Nat × Rd), ls[k]? = some q → W'.cell? ⟨g, k, none⟩ = some (ptV q.1) ∧ RdAt W' q.1 q.2)
      obtain ⟨y0, y1, y2, y3⟩ := hr.cells
      unfold ptV at c1
      clear hr HA
      go_enter Tryz.func99, Tryz.ntmps99
      go_upto_region 1 with fail
      rw [HW.out]
      go_upto_region 2 with (go_at_call 141; go_loud (refine CB.out.mono ?_; rintro e w1 ⟨rfl, g1⟩; have G1 := Lib.hid g1; replace x0 := keep_below x0 g1; replace x1 := keep_below x1 g1; replace x2 := keep_below x2 g1; replace x3 := keep_below x3 g1; replace y0 := keep_below y0 g1; replace y1 := keep_below y1 g1; replace y2 := keep_below y2 g1; replace y3 := keep_below y3 g1; replace c1 := keep_below c1 g1; clear g1))
      go_still_tail 11, (by kernel_rfl)
      go_upto_region 4 with (go_at_call 142; go_loud (refine (C2.out _).mono ?_; rintro e w2 ⟨rfl, g2⟩; have G2 := Lib.hid (below_next G1.out.drew g2); have g3 := (Below.refl w1.heap.size w1).drew.trans g2; replace x0 := keep_below x0 g3; replace x1 := keep_below x1 g3; replace x2 := keep_below x2 g3; replace x3 := keep_below x3 g3; clear g2 g3))
      clear y0 y1 y2 y3 c1
      have GF := Lib.hid (G2.out)
      have X := Lib.hid (And.intro x0 (And.intro x1 (And.intro x2 x3)))
      go_upto_region 5 with fail
      clear x0 x1 x2 x3
      go_loopw [6] (fun a' wz => ∃ k : Nat, a' = .int .i64 (k : Nat) ∧ f ≤ k ∧ k ≤ L ∧ Below W.heap.size W wz ∧ wz.cell? ⟨w.heap.size, 0, none⟩ = some (.string x.tb) ∧ wz.cell? ⟨w.heap.size, 1, none⟩ = some (.int .i64 x.kd) ∧ wz.cell? ⟨w.heap.size, 2, none⟩ = some (.string x.lo) ∧ wz.cell? ⟨w.heap.size, 3, none⟩ = some (.string x.hi)) (fun a' _ => ls.length - (intOf a').toNat)
      case atStart => exact ⟨f, rfl, Nat.le_refl _, HL.out.1, GF.out, X.out⟩
      case round =>
        rename World => wz
        obtain ⟨k, rfl, hk1, hk2, hbz, x0, x1, x2, x3⟩ := hrel
        have HBZ := Lib.hid hbz
        have HK := Lib.hid (And.intro hk1 hk2)
        by_cases hkl : k < ls.length
        · obtain ⟨q, hq⟩ : ∃ q, ls[k]? = some q := ⟨_, List.getElem?_eq_getElem hkl⟩
          have hst := HSTEP.out k hk1 hk2
          rw [hq] at hst
          simp only [Option.elim_some] at hst
          obtain ⟨c1, hr⟩ := HA2.out wz hbz k q hq
          obtain ⟨y0, y1, y2, y3⟩ := hr.cells
          unfold ptV at c1
          have C3 := Lib.hid (fun W => CC.out W q (List.mem_of_getElem? hq))
          have i1 : (k : Int) < (ls.length : Int) := by omega
          have hkb : k ≤ 100000 := by omega
          cases hc : coversP x q.2
          · have hkL : k = L := by rw [hc] at hst; simp at hst; omega
            rw [hc] at C3
            subst hkL
            have HBX := HBZ
            clear hst hq hr hc hk1 hk2 hbz
            go_upto_region 5 with fail
            go_still_tail 12, (by kernel_rfl)
            go_upto_region 7 with (go_at_call 142; go_loud (refine (C3.out _).mono ?_; rintro e w2 ⟨rfl, g2⟩; have G2 := Lib.hid (below_next HBZ.out.drew g2); clear g2))
            have C4 := Lib.hid (CR.out _ G2.out)
            go_wp2_with (go_at_call 143; go_loud (refine C4.out.mono ?_; rintro e w5 ⟨v5, rfl, r5⟩; have R5 := Lib.hid r5; clear r5))
            go_ret
            exact ⟨_, rfl, R5.out⟩
          · have hkL : k < L := by rw [hc] at hst; simpa using hst
            rw [hc] at C3
            have HKL := Lib.hid hkL
            clear hst hq hr hc hk1 hk2 hbz hkL
            go_upto_region 5 with fail
            go_still_tail 12, (by kernel_rfl)
            go_upto_region 6 with (go_at_call 142; go_loud (refine (C3.out _).mono ?_; rintro e w2 ⟨rfl, g2⟩; have G2 := Lib.hid (below_next HBZ.out.drew g2); have g3 := (Below.refl wz.heap.size wz).drew.trans g2; replace x0 := keep_below x0 g3; replace x1 := keep_below x1 g3; replace x2 := keep_below x2 g3; replace x3 := keep_below x3 g3; clear g2 g3))
            have X2 := Lib.hid (And.intro x0 (And.intro x1 (And.intro x2 x3)))
            clear x0 x1 x2 x3 y0 y1 y2 y3
            go_wp2
            go_roundw
            case rel => exact ⟨k + 1, by go_num, by have := HK.out.1; omega, HKL.out, G2.out, X2.out⟩
            case measure => have := HKL.out; have := HL.out; simp [intOf]; omega
        · have hke : k = L := by have := HL.out; omega
          have i1 : ¬ (k : Int) < (ls.length : Int) := by omega
          subst hke
          clear hk1 hk2 hbz
          go_upto_region 5 with fail
          go_region
          clear x0 x1 x2 x3
          go_upto_region 7 with fail
          skip
          have C4 := Lib.hid (CR.out _ HBZ.out.drew)
          go_wp2_with (go_at_call 143; go_loud (refine C4.out.mono ?_; rintro e w5 ⟨v5, rfl, r5⟩; have R5 := Lib.hid r5; clear r5))
          go_ret
          exact ⟨_, rfl, R5.out⟩
    · have hf0 : f = m := by rw [hf1]; exact if_pos ⟨h0, hcp⟩
      subst hf0
      rw [hcp] at C2
      clear hf1 hcp hm hp
      obtain ⟨g, rfl, c1, hr⟩ := HA.out W (Below.refl _ _) f p HP.out
      have HA2 := Lib.hid (fun W' hW' k q hq => by obtain ⟨g', e, h1, h2⟩ := HA.out W' hW' k q hq; cases e; exact ⟨h1, h2⟩ : ∀ (W' : World), Below W.heap.size W W' → ∀ (k : Nat) (q : Nat × Rd), ls[k]? = some q → W'.cell? ⟨g, k, none⟩ = some (ptV q.1) ∧ RdAt W' q.1 q.2)
      obtain ⟨y0, y1, y2, y3⟩ := hr.cells
      unfold ptV at c1
      clear hr HA
      go_enter Tryz.func99, Tryz.ntmps99
      go_upto_region 1 with fail
      rw [HW.out]
      go_upto_region 2 with (go_at_call 141; go_loud (refine CB.out.mono ?_; rintro e w1 ⟨rfl, g1⟩; have G1 := Lib.hid g1; replace x0 := keep_below x0 g1; replace x1 := keep_below x1 g1; replace x2 := keep_below x2 g1; replace x3 := keep_below x3 g1; replace y0 := keep_below y0 g1; replace y1 := keep_below y1 g1; replace y2 := keep_below y2 g1; replace y3 := keep_below y3 g1; replace c1 := keep_below c1 g1; clear g1))
      go_still_tail 11, (by kernel_rfl)
      go_upto_region 4 with (go_at_call 142; go_loud (refine (C2.out _).mono ?_; rintro e w2 ⟨rfl, g2⟩; have G2 := Lib.hid (below_next G1.out.drew g2); have g3 := (Below.refl w1.heap.size w1).drew.trans g2; replace x0 := keep_below x0 g3; replace x1 := keep_below x1 g3; replace x2 := keep_below x2 g3; replace x3 := keep_below x3 g3; clear g2 g3))
      clear y0 y1 y2 y3 c1
      have GF := Lib.hid (G2.out)
      have X := Lib.hid (And.intro x0 (And.intro x1 (And.intro x2 x3)))
      go_upto_region 5 with fail
      clear x0 x1 x2 x3
      go_loopw [6] (fun a' wz => ∃ k : Nat, a' = .int .i64 (k : Nat) ∧ f ≤ k ∧ k ≤ L ∧ Below W.heap.size W wz ∧ wz.cell? ⟨w.heap.size, 0, none⟩ = some (.string x.tb) ∧ wz.cell? ⟨w.heap.size, 1, none⟩ = some (.int .i64 x.kd) ∧ wz.cell? ⟨w.heap.size, 2, none⟩ = some (.string x.lo) ∧ wz.cell? ⟨w.heap.size, 3, none⟩ = some (.string x.hi)) (fun a' _ => ls.length - (intOf a').toNat)
      case atStart => exact ⟨f, rfl, Nat.le_refl _, HL.out.1, GF.out, X.out⟩
      case round =>
        rename World => wz
        obtain ⟨k, rfl, hk1, hk2, hbz, x0, x1, x2, x3⟩ := hrel
        have HBZ := Lib.hid hbz
        have HK := Lib.hid (And.intro hk1 hk2)
        by_cases hkl : k < ls.length
        · obtain ⟨q, hq⟩ : ∃ q, ls[k]? = some q := ⟨_, List.getElem?_eq_getElem hkl⟩
          have hst := HSTEP.out k hk1 hk2
          rw [hq] at hst
          simp only [Option.elim_some] at hst
          obtain ⟨c1, hr⟩ := HA2.out wz hbz k q hq
          obtain ⟨y0, y1, y2, y3⟩ := hr.cells
          unfold ptV at c1
          have C3 := Lib.hid (fun W => CC.out W q (List.mem_of_getElem? hq))
          have i1 : (k : Int) < (ls.length : Int) := by omega
          have hkb : k ≤ 100000 := by omega
          cases hc : coversP x q.2
          · have hkL : k = L := by rw [hc] at hst; simp at hst; omega
            rw [hc] at C3
            subst hkL
            have HBX := HBZ
            clear hst hq hr hc hk1 hk2 hbz
            go_upto_region 5 with fail
            go_still_tail 12, (by kernel_rfl)
            go_upto_region 7 with (go_at_call 142; go_loud (refine (C3.out _).mono ?_; rintro e w2 ⟨rfl, g2⟩; have G2 := Lib.hid (below_next HBZ.out.drew g2); clear g2))
            have C4 := Lib.hid (CR.out _ G2.out)
            go_wp2_with (go_at_call 143; go_loud (refine C4.out.mono ?_; rintro e w5 ⟨v5, rfl, r5⟩; have R5 := Lib.hid r5; clear r5))
            go_ret
            exact ⟨_, rfl, R5.out⟩
          · have hkL : k < L := by rw [hc] at hst; simpa using hst
            rw [hc] at C3
            have HKL := Lib.hid hkL
            clear hst hq hr hc hk1 hk2 hbz hkL
            go_upto_region 5 with fail
            go_still_tail 12, (by kernel_rfl)
            go_upto_region 6 with (go_at_call 142; go_loud (refine (C3.out _).mono ?_; rintro e w2 ⟨rfl, g2⟩; have G2 := Lib.hid (below_next HBZ.out.drew g2); have g3 := (Below.refl wz.heap.size wz).drew.trans g2; replace x0 := keep_below x0 g3; replace x1 := keep_below x1 g3; replace x2 := keep_below x2 g3; replace x3 := keep_below x3 g3; clear g2 g3))
            have X2 := Lib.hid (And.intro x0 (And.intro x1 (And.intro x2 x3)))
            clear x0 x1 x2 x3 y0 y1 y2 y3
            go_wp2
            go_roundw
            case rel => exact ⟨k + 1, by go_num, by have := HK.out.1; omega, HKL.out, G2.out, X2.out⟩
            case measure => have := HKL.out; have := HL.out; simp [intOf]; omega
        · have hke : k = L := by have := HL.out; omega
          have i1 : ¬ (k : Int) < (ls.length : Int) := by omega
          subst hke
          clear hk1 hk2 hbz
          go_upto_region 5 with fail
          go_region
          clear x0 x1 x2 x3
          go_upto_region 7 with fail
          skip
          have C4 := Lib.hid (CR.out _ HBZ.out.drew)
          go_wp2_with (go_at_call 143; go_loud (refine C4.out.mono ?_; rintro e w5 ⟨v5, rfl, r5⟩; have R5 := Lib.hid r5; clear r5))
          go_ret
          exact ⟨_, rfl, R5.out⟩
end Go.Proofs.YtknppiebncdjmaaGreat

namespace Go.Proofs.YtknppiebncdjmaaGreat
set_option maxRecDepth 100000
open Go.RowKit

abbrev Tb9 := ByteArray × Value × List (Nat × Rd)
abbrev Tx9 := Int × Nat × List Tb9
def flatT (t : Int) (T : List Tb9) : List Nt := T.flatMap fun q => q.2.2.map fun z => (t, z.2)
def flatX (X : List Tx9) : List Nt := X.flatMap fun e => flatT e.1 e.2.2
def topX (X : List Tx9) : List (Int × Value) := X.map fun e => (e.1, .map (some e.2.1))
def tabT (T : List Tb9) : List (ByteArray × Value) := T.map fun q => (q.1, q.2.1)
def rowsX (X : List Tx9) : List (Option Nat) := X.flatMap fun e => e.2.2.map fun q => q.2.1.ownBlock
structure TbOk (t : Int) (q : Tb9) : Prop where
  ne : q.2.2 ≠ []
  ord : OrdL q.1 (q.2.2.map (·.2))
  sz : ∀ z ∈ q.2.2, z.2.lo.size ≤ 140737488355328
  hdr : ∃ g c, q.2.1 = .slice (some ⟨g, 0, none⟩) q.2.2.length c
structure Mem9 (E : Int → ByteArray → Prop) (w : World) (r mb most : Nat) (cnt : Int) (X : List Tx9) : Prop where
  blk : w.heap[r]? = some (.cells #[.int .i64 (most : Nat), .int .i64 cnt, .map (some mb)] 155 (0, 0))
  top : MapM KI w mb (topX X)
  tab : ∀ e ∈ X, MapM KS w e.2.1 (tabT e.2.2)
  ne : ∀ e ∈ X, e.2.2 ≠ [] ∧ 1 ≤ e.1
  ok : ∀ e ∈ X, ∀ q ∈ e.2.2, TbOk e.1 q
  lst : ∀ e ∈ X, ∀ q ∈ e.2.2, ¬ E e.1 q.1 → NL w q.2.1 q.2.2
  mbs : (mb :: X.map (·.2.1)).Nodup
  rows : (rowsX X).Nodup
def BlX (r mb : Nat) (X : List Tx9) (k : Nat) : Prop := k = r ∨ k = mb ∨ ∃ e ∈ X, k = e.2.1 ∨ ∃ q ∈ e.2.2, q.2.1.ownBlock = some k ∨ ∃ z ∈ q.2.2, k = z.1
section
variable {E : Int → ByteArray → Prop} {w w' : World} {r mb most : Nat} {cnt : Int} {X : List Tx9}
theorem NL.kept {v : Value} {ls : List (Nat × Rd)} (h : NL w v ls) (h1 : ∀ k, v.ownBlock = some k → w'.heap[k]? = w.heap[k]?) (h2 : ∀ z ∈ ls, w'.heap[z.1]? = w.heap[z.1]?) : NL w' v ls :=
  ⟨h.pv.block h1, fun q hq => (h.rd q hq).block (h2 q hq)⟩
theorem Mem9.kept (h : Mem9 E w r mb most cnt X) (hb : ∀ k, BlX r mb X k → w'.heap[k]? = w.heap[k]?) : Mem9 E w' r mb most cnt X :=
  ⟨(hb r (.inl rfl)).trans h.blk, h.top.block (hb mb (.inr (.inl rfl))), fun e he => (h.tab e he).block (hb _ (.inr (.inr ⟨e, he, .inl rfl⟩))), h.ne, h.ok,
    fun e he q hq hE => (h.lst e he q hq hE).kept (fun k hk => hb k (.inr (.inr ⟨e, he, .inr ⟨q, hq, .inl hk⟩⟩))) (fun z hz => hb _ (.inr (.inr ⟨e, he, .inr ⟨q, hq, .inr ⟨z, hz, rfl⟩⟩⟩))), h.mbs, h.rows⟩
abbrev NoE : Int → ByteArray → Prop := fun _ _ => False
theorem Mem9.lt (h : Mem9 NoE w r mb most cnt X) : ∀ k, BlX r mb X k → k < w.heap.size := by
  rintro k (rfl | rfl | ⟨e, he, rfl | ⟨q, hq, hk | ⟨z, hz, rfl⟩⟩⟩)
  · exact (Array.getElem?_eq_some_iff.1 h.blk).1
  · exact h.top.lt
  · exact (h.tab e he).lt
  · exact (h.lst e he q hq id).pv.lt k hk
  · exact ((h.lst e he q hq id).rd z hz).lt
theorem Mem9.gw (h : Mem9 NoE w r mb most cnt X) (hb : Below w.heap.size w w') : Mem9 NoE w' r mb most cnt X := h.kept fun k hk => hb.block k (h.lt k hk)
theorem Mem9.once (h : Mem9 E w r mb most cnt X) : (X.map (·.1)).Nodup := by
  have := h.top.once
  unfold OnceM topX at this
  rw [List.map_map] at this
  exact this
theorem Mem9.onceT (h : Mem9 E w r mb most cnt X) {e : Tx9} (he : e ∈ X) : (e.2.2.map (·.1)).Nodup := by
  have := (h.tab e he).once
  unfold OnceM tabT at this
  rw [List.map_map] at this
  exact this
theorem perm_front {α : Type} {κ : Type} [DecidableEq κ] (f : α → κ) {X : List α} (h : (X.map f).Nodup) {e : α} (he : e ∈ X) : X.Perm (e :: X.filter fun x => !decide (f x = f e)) := by
  induction X with
  | nil => cases he
  | cons y X ih =>
    obtain ⟨n1, n2⟩ := List.nodup_cons.1 (show (f y :: X.map f).Nodup from h)
    rcases List.mem_cons.1 he with rfl | he
    · rw [List.filter_cons_of_neg (by simp)]
      rw [List.filter_eq_self.2 fun z hz => by
        have : f z ≠ f e := fun e2 => n1 (List.mem_map.2 ⟨z, hz, e2⟩)
        simpa using this]
    · have hne : f y ≠ f e := fun e2 => n1 (List.mem_map.2 ⟨e, he, e2.symm⟩)
      rw [List.filter_cons_of_pos (by simpa using hne)]
      exact ((ih n2 he).cons y).trans (List.Perm.swap ..)
theorem Mem9.perm {Y : List Tx9} (h : Mem9 E w r mb most cnt X) (hp : X.Perm Y) : Mem9 E w r mb most cnt Y :=
  ⟨h.blk, h.top.perm (hp.map _), fun e he => h.tab e (hp.mem_iff.2 he), fun e he => h.ne e (hp.mem_iff.2 he), fun e he => h.ok e (hp.mem_iff.2 he), fun e he => h.lst e (hp.mem_iff.2 he),
    ((hp.map _).cons mb).nodup_iff.1 h.mbs, (hp.flatMap_right _).nodup_iff.1 h.rows⟩
theorem Mem9.permT {t : Int} {b : Nat} {T U : List Tb9} {Y : List Tx9} (h : Mem9 E w r mb most cnt ((t, b, T) :: Y)) (hp : T.Perm U) : Mem9 E w r mb most cnt ((t, b, U) :: Y) := by
  refine ⟨h.blk, h.top, fun e he => ?_, fun e he => ?_, fun e he q hq => ?_, fun e he q hq => ?_, h.mbs, ?_⟩
  · rcases List.mem_cons.1 he with rfl | he
    · exact (h.tab (t, b, T) (List.mem_cons_self ..)).perm (hp.map _)
    · exact h.tab e (List.mem_cons_of_mem _ he)
  · rcases List.mem_cons.1 he with rfl | he
    · have := h.ne (t, b, T) (List.mem_cons_self ..)
      exact ⟨fun e => this.1 (by have e2 : U = [] := e; rw [e2] at hp; exact List.Perm.eq_nil hp), this.2⟩
    · exact h.ne e (List.mem_cons_of_mem _ he)
  · rcases List.mem_cons.1 he with rfl | he
    · exact h.ok (t, b, T) (List.mem_cons_self ..) q (hp.mem_iff.2 hq)
    · exact h.ok e (List.mem_cons_of_mem _ he) q hq
  · rcases List.mem_cons.1 he with rfl | he
    · exact h.lst (t, b, T) (List.mem_cons_self ..) q (hp.mem_iff.2 hq)
    · exact h.lst e (List.mem_cons_of_mem _ he) q hq
  · have := h.rows
    unfold rowsX at this ⊢
    rw [List.flatMap_cons] at this ⊢
    exact ((hp.map _).append_right _).nodup_iff.1 this
theorem flatX_perm {X Y : List Tx9} (h : X.Perm Y) : (flatX X).Perm (flatX Y) := h.flatMap_right _
theorem flatT_perm {t : Int} {T U : List Tb9} (h : T.Perm U) : (flatT t T).Perm (flatT t U) := h.flatMap_right _
end
inductive At9 (X : List Tx9) (t : Int) (tb : ByteArray) : Type
  | noTx : (∀ e ∈ X, e.1 ≠ t) → At9 X t tb
  | noTb (b : Nat) (T : List Tb9) (Y : List Tx9) : X.Perm ((t, b, T) :: Y) → (∀ e ∈ Y, e.1 ≠ t) → (∀ q ∈ T, q.1 ≠ tb) → At9 X t tb
  | at_ (b : Nat) (v : Value) (ls : List (Nat × Rd)) (S T : List Tb9) (Y : List Tx9) : X.Perm ((t, b, T) :: Y) → (∀ e ∈ Y, e.1 ≠ t) → T.Perm ((tb, v, ls) :: S) → (∀ q ∈ S, q.1 ≠ tb) → At9 X t tb
theorem at9 {X : List Tx9} (h : (X.map (·.1)).Nodup) (hT : ∀ e ∈ X, (e.2.2.map (·.1)).Nodup) (t : Int) (tb : ByteArray) : Nonempty (At9 X t tb) := by
  by_cases h1 : ∃ e ∈ X, e.1 = t
  · obtain ⟨⟨t', b, T⟩, he, e1⟩ := h1
    have e1 : t' = t := e1
    subst e1
    have hp := perm_front (·.1) h he
    have hY : ∀ e ∈ X.filter (fun x => !decide (x.1 = t')), e.1 ≠ t' := fun e he => by simpa using (List.mem_filter.1 he).2
    by_cases h2 : ∃ q ∈ T, q.1 = tb
    · obtain ⟨⟨tb', v, ls⟩, hq, e2⟩ := h2
      have e2 : tb' = tb := e2
      subst e2
      exact ⟨.at_ b v ls _ T _ hp hY (perm_front (·.1) (hT _ he) hq) fun q hq => by simpa using (List.mem_filter.1 hq).2⟩
    · exact ⟨.noTb b T _ hp hY fun q hq e => h2 ⟨q, hq, e⟩⟩
  · exact ⟨.noTx fun e he e1 => h1 ⟨e, he, e1⟩⟩
end Go.Proofs.YtknppiebncdjmaaGreat
