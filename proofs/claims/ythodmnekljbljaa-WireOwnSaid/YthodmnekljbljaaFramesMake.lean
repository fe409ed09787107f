/- wire.Frames: what it makes: a block of its own with the bytes, and a variable that leads to it. -/
import Derived.Test.YthodmnekljbljaaTakeFrame
namespace Go.Proofs.Ythodmnekljbljaa
open Go.RowKit

/-- copy of bytes over the whole of a block that the call itself made: every other block lies as it lay. -/
theorem row_copy_all {w : World} {ops : Array Oper} {rest : List Oper} {o : Oper} {a : Act} {Q : Exit → Act → World → Prop} (hgd : o.guard = none) (d s : Operand)
    (ho : o.op = .call { callee := .builtin .copy, args := #[d, s], argTypes := #[25, 25] })
    (A : Option Addr) (g n c e : Nat) (hd : a.eval d = .slice (some ⟨g, 0, none⟩) n e) (hs : a.eval s = .slice A n c)
    (zs : List Int) (hrow : Row w g zs) (hl : zs.length = n) (ys : List Int) (hr : RB w A n ys)
    (h : ∀ w', Row w' g ys → w.heap.size = w'.heap.size → w.grownBy w' (some g) → wpList Try.prog ops Q rest (a.put o.dst (goInt n)) w') : wpList Try.prog ops Q (o :: rest) a w := by
  obtain ⟨i0, hi, hz0, hz1, hz2⟩ := info_parts info_u8
  have hlen := hr.len
  rcases Nat.eq_zero_or_pos n with h0 | hpos
  · subst h0
    obtain rfl : ys = [] := List.eq_nil_of_length_eq_zero hlen
    obtain rfl : zs = [] := List.eq_nil_of_length_eq_zero hl
    refine wpList_copy_nothing hgd d s 25 25 ho 5 Try.underlying25 (by simp [hi, hz1]) _ _ _ _ _ _ hd hs (Nat.min_self _) ?_
    exact h w hrow rfl (World.grownBy.refl w _)
  · obtain ⟨ad, rfl, hc⟩ := hr.cell hpos
    refine wpList_copy_own hgd d s 25 25 ho 5 Try.underlying25 (by simp [hi, hz1]) g 0 n e ad n c hd hs _ 5 hrow (ys.map (Value.int .u8)) (by simp [hlen]) (fun j u hu => ?_)
      (by simp [hlen, hl]) (bytes_oneCell ys) ?_
    · have hj : j < ys.length := by
        rcases Nat.lt_or_ge j ys.length with h1 | h1
        · exact h1
        · rw [List.getElem?_eq_none (by simpa using h1)] at hu; cases hu
      rw [hc j (by omega)]
      simpa [List.getD_eq_getElem?_getD, List.getElem?_eq_getElem hj] using hu
    · have e1 : ((ys.map (Value.int .u8)).length : Nat) = n := by simp [hlen]
      rw [e1]
      refine h _ ?_ (by simp [World.setRow]) ⟨rfl, rfl, rfl, by simp [World.setRow], fun k _ hk => setRow_other w g k _ (fun e => hk (by rw [e]))⟩
      unfold Row
      rw [setRow_heap w g _ _ 5 (0, 0) hrow]
      congr 2
      apply Array.ext'
      simp [hlen, hl]

/-- What Frames hands back. -/
def MadeF (w : World) (n : Nat) (zs : List Int) (e : Ending) (w' : World) : Prop :=
  ∃ B g, e = .returned (.func (.func 42) #[] #[.pointer (some ⟨B, 0, none⟩)]) ∧ (w.heap.size ≤ B ∧ B < w'.heap.size) ∧ (w.heap.size ≤ g ∧ g < w'.heap.size) ∧
    w'.cell? ⟨B, 0, none⟩ = some (.slice (some ⟨g, 0, none⟩) n n) ∧ RB w' (some ⟨g, 0, none⟩) n zs ∧ Below w.heap.size w w'

set_option maxHeartbeats 1000000 in
theorem wframes (A : Option Addr) (n c : Nat) (zs : List Int) (w : World) (h : RB w A n zs) (hn : n ≤ 140737488355328) :
    Calls Try.prog 34 #[.slice A n c] w (MadeF w n zs) := by
  have hmk : (Instr.makeSlice 25 (.int .i64 (n : Int)) (.int .i64 (n : Int))).run Try.prog w = .ok (.slice (some ⟨w.heap.size, 0, none⟩) n n) (w.alloc (.cells (madeCells #[.int .u8 0] n) 5)) := by
    have := run_make_bytes w (n : Int) (n : Int) (by omega) (by omega) (by omega)
    rwa [Int.toNat_natCast] at this
  have hrow := Lib.hid (row_made w n)
  have hb0 : Below w.heap.size w (w.alloc (.cells (madeCells #[.int .u8 0] n) 5)) := (Below.refl _ _).alloc (Nat.le_refl _) _
  have hlen := Lib.hid h.len
  have hbyte := h.byte
  obtain ⟨W1, hW1⟩ : ∃ W1, w.alloc (.cells (madeCells #[.int .u8 0] n) 5) = W1 := ⟨_, rfl⟩
  have hs1 : W1.heap.size = w.heap.size + 1 := by rw [← hW1]; simp
  rw [hW1] at hmk hb0
  have hrow1 := hrow.out
  rw [hW1] at hrow1
  obtain ⟨W2, hW2⟩ : ∃ W2, W1.alloc (.cells #[.slice (some ⟨w.heap.size, 0, none⟩) n n] 25) = W2 := ⟨_, rfl⟩
  have hs2 : W2.heap.size = w.heap.size + 2 := by rw [← hW2]; simp [hs1]
  have hb12 : Below W1.heap.size W1 W2 := by rw [← hW2]; exact (Below.refl _ _).alloc (Nat.le_refl _) _
  have hrow2 := hrow1.below hb12
  have hb2 : Below w.heap.size w W2 := hb0.trans (hb12.mono hb0.size)
  have hc2 : W2.cell? ⟨w.heap.size + 1, 0, none⟩ = some (.slice (some ⟨w.heap.size, 0, none⟩) n n) := by
    have := cell_of_row W2 (w.heap.size + 1) 0 #[.slice (some ⟨w.heap.size, 0, none⟩) n n] 25 (0, 0) (by rw [← hW2, ← hs1]; exact heap_alloc_new W1 _)
    simpa using this
  have r2 := h.below' hb2
  have D : Hid (∀ w3, Row w3 w.heap.size zs → W2.heap.size = w3.heap.size → W2.grownBy w3 (some w.heap.size) → MadeF w n zs (.returned (.func (.func 42) #[] #[.pointer (some ⟨w.heap.size + 1, 0, none⟩)])) w3) := by
    intro w3 h3 hs3 hg3
    have hr3 := h3.rb hbyte
    rw [hlen.out] at hr3
    refine ⟨_, _, rfl, ⟨by omega, by omega⟩, ⟨Nat.le_refl _, by omega⟩, ?_, hr3, hb2.grown hg3 (by omega) (fun k hk => by injection hk with hk; omega)⟩
    exact (World.cell?_of_block (w := W2) (a := ⟨w.heap.size + 1, 0, none⟩) (hg3.block (w.heap.size + 1) (by omega) (fun e => by injection e with e; omega))).trans hc2
  have hrl : (List.replicate n (0 : Int)).length = n := List.length_replicate
  clear hrow hb0 hlen hrow1 hs2 hb12 hb2 hbyte h
  go_enter Try.func34, Try.ntmps34
  go_wp2_with (with_reducible refine row_copy_all rfl (.tmp 7) (.tmp 8) rfl A w.heap.size n c n rfl rfl _ hrow2 hrl zs r2 ?_; intro w3 h3 hs3 hg3)
  go_ret
  exact D.out _ h3 hs3 hg3
end Go.Proofs.Ythodmnekljbljaa
