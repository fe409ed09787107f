/- Layer 8: the reference's Take. -/
import Derived.Test.YtghnafknbgmagaaLkRel
import Derived.Test.YtghnafknbgmagaaLkHold
namespace Go.Proofs.Ytghnafknbgmagaa
set_option maxRecDepth 100000
set_option maxRecDepth 100000
open Go.RowKit

/-- What Take answers, and what is held then. -/
def takeP (most : Int) (hs : List Hd) (tx snap last : Int) (l : Lk) : Int × List Hd :=
  if tx < 1 ∨ snap < 0 ∨ last < 0 then (1, hs)
  else match holderP hs l with
    | some x => if x = tx then (0, hs) else (80, hs)
    | none => if snap < last then (81, hs) else if most ≤ hs.length then (4, hs) else (0, hs ++ [(l, tx)])

theorem holder_bad {P : Prop} [Decidable P] (h : P) : decide P = true := by simpa using h
/-- The world of a Take that changes nothing. -/
structure TakeNo (w : World) (b : Nat) (most : Int) (hs : List Hd) (w' : World) : Prop where
  rm : RM w' b most hs
  be : Below w.heap.size w w'

set_option maxHeartbeats 8000000 in
theorem wrTake {w : World} {b : Nat} {most : Int} {hs : List Hd} (h : RM w b most hs) (hn : hs.length ≤ 4000000) (tx snap last : Int) (l : Lk) :
    Calls Try.prog 28 #[.pointer (some ⟨b, 0, none⟩), .int .i64 tx, .int .i64 snap, .int .i64 last, lkV l] w fun e w' => e = .returned (.int .i64 (takeP most hs tx snap last l).1) ∧ RM w' b most (takeP most hs tx snap last l).2 ∧ Out (fun k => k = b) w w' := by
  obtain ⟨A, c, h1, h2, h3, h4, h5⟩ := h.ex
  obtain ⟨W, hW⟩ : ∃ W, w.alloc (.cells #[.string l.1, .string l.2] 34) = W := ⟨_, rfl⟩
  have HB := Lib.hid (show Below w.heap.size w W by rw [← hW]; exact (Below.refl _ _).alloc (Nat.le_refl _) _)
  have q0 : W.heap[w.heap.size]? = some (.cells #[.string l.1, .string l.2] 34 (0, 0)) := by rw [← hW]; exact heap_alloc_new _ _
  have q1 : W.cell? ⟨w.heap.size, 0, none⟩ = some (.string l.1) := cell_of_row _ _ 0 _ _ _ q0
  have q2 : W.cell? ⟨w.heap.size, 1, none⟩ = some (.string l.2) := cell_of_row _ _ 1 _ _ _ q0
  have g0 : W.heap[b]? = _ := ((HB.out).block b (Array.getElem?_eq_some_iff.1 h1).1).trans h1
  have c0 : W.cell? ⟨b, 0, none⟩ = some (.bool true) := cell_of_row _ _ 0 _ _ _ g0
  have HR := Lib.hid (h.gw HB.out)
  obtain ⟨ho, hh⟩ : ∃ q, holderP hs l = q := ⟨_, rfl⟩
  have CH := Lib.hid (wrHolder (h.gw HB.out) (by omega) l)
  rw [hh] at CH
  have HN := Lib.hid hn
  have HW := Lib.hid hW
  have hsz : W.heap.size = w.heap.size + 1 := by rw [← hW]; simp
  have HSZ := Lib.hid hsz
  clear h h1 h2 hW q0 hn h3 h4 h5 g0 hsz
  unfold lkV
  go_enter Try.func28, Try.ntmps28
  go_upto_region 1 with fail
  rw [HW.out]
  go_upto_region 4 with (go_at_call 29; refine CH.out.mono ?_; rintro e w1 ⟨rfl, hb1⟩; have HB1 := Lib.hid hb1; clear hb1)
  have HR1 := Lib.hid (HR.out.gw HB1.out)
  have BE := Lib.hid (below_next HB.out HB1.out)
  have x1 : w1.cell? ⟨w.heap.size, 0, none⟩ = some (.string l.1) := keep_below q1 HB1.out
  have x2 : w1.cell? ⟨w.heap.size, 1, none⟩ = some (.string l.2) := keep_below q2 HB1.out
  clear q1 q2 c0 CH HR
  by_cases i1 : tx < 1
  · have HT := Lib.hid (show takeP most hs tx snap last l = (1, hs) by unfold takeP; rw [if_pos (.inl i1)])
    go_wp2
    go_ret
    exact ⟨by rw [HT.out] <;> rfl, by rw [HT.out]; exact HR1.out, Out.of_below BE.out _⟩
  · by_cases i2 : snap < 0
    · have HT := Lib.hid (show takeP most hs tx snap last l = (1, hs) by unfold takeP; rw [if_pos (.inr (.inl i2))])
      go_wp2
      go_ret
      exact ⟨by rw [HT.out] <;> rfl, by rw [HT.out]; exact HR1.out, Out.of_below BE.out _⟩
    · by_cases i3 : last < 0
      · have HT := Lib.hid (show takeP most hs tx snap last l = (1, hs) by unfold takeP; rw [if_pos (.inr (.inr i3))])
        go_wp2
        go_ret
        exact ⟨by rw [HT.out] <;> rfl, by rw [HT.out]; exact HR1.out, Out.of_below BE.out _⟩
      · have hng : ¬ (tx < 1 ∨ snap < 0 ∨ last < 0) := by omega
        cases ho with
        | some x =>
          have ht : takeP most hs tx snap last l = if x = tx then (0, hs) else (80, hs) := by unfold takeP; rw [if_neg hng, hh]
          simp only [Option.getD_some, Option.isSome_some]
          by_cases ix : x = tx
          · rw [if_pos ix] at ht
            have HT := Lib.hid ht
            clear ht hng hh
            go_wp2
            go_ret
            exact ⟨by rw [HT.out] <;> rfl, by rw [HT.out]; exact HR1.out, Out.of_below BE.out _⟩
          · rw [if_neg ix] at ht
            have HT := Lib.hid ht
            clear ht hng hh
            go_wp2
            go_ret
            exact ⟨by rw [HT.out] <;> rfl, by rw [HT.out]; exact HR1.out, Out.of_below BE.out _⟩
        | none =>
          have ht : takeP most hs tx snap last l = if snap < last then (81, hs) else if most ≤ hs.length then (4, hs) else (0, hs ++ [(l, tx)]) := by unfold takeP; rw [if_neg hng, hh]
          simp only [Option.getD_none, Option.isSome_none]
          by_cases il : snap < last
          · rw [if_pos il] at ht
            have HT := Lib.hid ht
            clear ht hng hh
            go_wp2
            go_ret
            exact ⟨by rw [HT.out] <;> rfl, by rw [HT.out]; exact HR1.out, Out.of_below BE.out _⟩
          · rw [if_neg il] at ht
            obtain ⟨A1, c1, h1, h2, h3, h4, h5⟩ := HR1.out.ex
            have k1 : w1.cell? ⟨b, 1, none⟩ = some (.int .i64 most) := cell_of_row _ _ 1 _ _ _ h1
            have k2 : w1.cell? ⟨b, 2, none⟩ = some (.slice A1 hs.length c1) := cell_of_row _ _ 2 _ _ _ h1
            by_cases im : most ≤ (hs.length : Int)
            · rw [if_pos im] at ht
              have HT := Lib.hid ht
              clear ht hng hh h1 h2 h3 h4 h5
              go_upto_region 12 with fail
              go_region
              go_wp2
              go_ret
              exact ⟨by rw [HT.out] <;> rfl, by rw [HT.out]; exact HR1.out.gw (Below.refl _ _).drew, Out.of_below BE.out.drew _⟩
            · rw [if_neg im] at ht
              have HT := Lib.hid ht
              clear ht hng hh
              have h1' : w1.drew.heap[b]? = _ := h1
              have f2 : w1.drew.frozen? ⟨b, 2, none⟩ = false := frozen_of_row _ _ _ _ _ h1'
              have H1 := Lib.hid h1
              have kx : (w1.alloc (Obj.cells #[Value.string l.1, Value.string l.2, Value.int .i64 tx] 66)).cell? ⟨b, 2, none⟩ = some (.slice A1 hs.length c1) := keep_below k2 ((Below.refl _ _).alloc (Nat.le_refl _) _)
              have HB3 := Lib.hid (show b < w1.heap.size from (Array.getElem?_eq_some_iff.1 h1).1)
              have S1 := Lib.hid h2
              have HBS := Lib.hid (show w.heap.size < w1.heap.size by have := HB1.out.size; have := HSZ.out; omega)
              clear h1 h1' h2 h3 h4 h5
              go_upto_region 12 with fail
              go_region
              go_wp2
              go_region_law (first
                | (refine so_step seH_ok (by rfl) (.const (.slice none 0 0)) (.tmp 63) (by rfl) _ (by rfl) (SO.nil seH w1.heap.size _) A1 hs.length c1 (cellsH hs) (by rfl) (S1.out.gw (by first | exact Below.refl _ _ | exact (Below.refl _ _).drew.drew | exact (Below.refl _ _).drew)) (by have := HN.out; omega) (by exact Nat.le_refl _) ?_; intro v3 w3 o3 b3; have x3 : w3.cell? ⟨w.heap.size, 0, none⟩ = some (.string l.1) := (b3.cell (p := ⟨w.heap.size, 0, none⟩) HBS.out).trans x1; have x4 : w3.cell? ⟨w.heap.size, 1, none⟩ = some (.string l.2) := (b3.cell (p := ⟨w.heap.size, 1, none⟩) HBS.out).trans x2; have O3 := Lib.hid o3; have B3 := Lib.hid (show Below w1.heap.size w1 w3 by first | exact ((Below.refl w1.heap.size w1).drew.drew).trans b3 | exact ((Below.refl w1.heap.size w1).drew).trans b3); clear o3 b3)
                | (refine so_step seH_ok (by rfl) (.const (.slice none 0 0)) (.tmp 63) (by rfl) _ (by rfl) (SO.nil seH (w1.drew.drew.alloc (.cells #[.string l.1, .string l.2, .int .i64 tx] 66)).heap.size _) A1 hs.length c1 (cellsH hs) (by rfl) (S1.out.gw ((Below.refl _ _).drew.drew.alloc (Nat.le_refl _) _)) (by have := HN.out; omega) (by exact Nat.le_refl _) ?_; intro v3 w3 o3 b3; have O3 := Lib.hid o3; have B5 := Lib.hid (show Below w1.heap.size w1 w3 from ((Below.refl w1.heap.size w1).drew.drew.alloc (Nat.le_refl _) _).trans (b3.mono (by simp))); have SE3 := Lib.hid ((sb_held w1.drew.drew (l, tx)).gw b3); have LE3 := Lib.hid b3.size; clear o3 b3)
                | (refine so_step seH_ok (by rfl) (.tmp 64) (.tmp 68) (by rfl) _ (by rfl) (O3.out.alloc _) _ 1 1 (cellsH [(l, tx)]) (by rfl) (sb_held w3 (l, tx)) (by have := HN.out; simp; omega) (by have := B3.out.size; simp; omega) ?_; intro v4 w4 o4 b4; obtain ⟨A4, c4, e4, s4, n4, m4, bl4⟩ := o4.form; subst e4; have B4 := Lib.hid (show Below w1.heap.size w1 w4 from (B3.out.alloc B3.out.size _).trans b4); have k4 : w4.cell? ⟨b, 2, none⟩ = some (.slice A1 hs.length c1) := cell_of_row _ _ 2 _ _ _ ((B4.out.block b HB3.out).trans H1.out); have f4 : w4.frozen? ⟨b, 2, none⟩ = false := frozen_of_row _ _ _ _ _ ((B4.out.block b HB3.out).trans H1.out); have NE4 := Lib.hid (show ∀ ad, A4 = some ad → ad.block ≠ b from fun ad e => by have := bl4 ad e; have := HB3.out; simp at *; omega); have F4 := Lib.hid (And.intro s4 (And.intro n4 m4)); clear o4 b4 s4 n4 m4 bl4)
                | (refine so_step seH_ok (by rfl) (.tmp 64) (.tmp 68) (by rfl) _ (by rfl) O3.out _ 1 1 (cellsH [(l, tx)]) (by rfl) SE3.out (by have := HN.out; simp; omega) LE3.out ?_; intro v4 w4 o4 b4; obtain ⟨A4, c4, e4, s4, n4, m4, bl4⟩ := o4.form; subst e4; have B4 := Lib.hid (show Below w1.heap.size w1 w4 from B5.out.trans (b4.mono (by simp))); have k4 : w4.cell? ⟨b, 2, none⟩ = some (.slice A1 hs.length c1) := cell_of_row _ _ 2 _ _ _ ((B4.out.block b HB3.out).trans H1.out); have f4 : w4.frozen? ⟨b, 2, none⟩ = false := frozen_of_row _ _ _ _ _ ((B4.out.block b HB3.out).trans H1.out); have NE4 := Lib.hid (show ∀ ad, A4 = some ad → ad.block ≠ b from fun ad e => by have := bl4 ad e; have := HB3.out; simp at *; omega); have F4 := Lib.hid (And.intro s4 (And.intro n4 m4)); clear o4 b4 s4 n4 m4 bl4))
              all_goals
                have hlen : hs.length + 1 = (hs ++ [(l, tx)]).length := by simp
                have hcell : [] ++ cellsH hs ++ cellsH [(l, tx)] = cellsH (hs ++ [(l, tx)]) := by rw [cellsH_app]; rfl
                rw [Nat.zero_add, hcell] at F4
                go_wp2
                go_ret
                rw [HT.out]
                refine ⟨rfl, ⟨A4, c4, ?_, ?_, ?_, F4.out.2.2, NE4.out⟩, ?_⟩
                · rw [blk_set8 ((B4.out.block b HB3.out).trans H1.out), ← hlen]; rfl
                · rw [← hlen]; exact F4.out.1.set NE4.out _
                · rw [← hlen]; exact F4.out.2.1
                · exact (Out.of_below (F := fun k => k = b) (below_next BE.out B4.out)).setCell (p := ⟨b, 2, none⟩) (.inl rfl) _
end Go.Proofs.Ytghnafknbgmagaa
