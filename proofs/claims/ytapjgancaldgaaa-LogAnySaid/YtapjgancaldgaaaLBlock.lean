/- place, readBlock: how a log reads its disk. -/
import Derived.Test.YtapjgancaldgaaaLRead
namespace Go.Proofs.Ytapjgancaldgaaa
set_option maxRecDepth 100000
open Go.RowKit

theorem readB_plain {S : St} (ho : S.off = false) (hp : S.pend = []) (n : Nat) (c : Cn) (hc : S.last[n]? = some c) : readB S (n : Int) = if c.t then ([], 23) else (c.b, 0) := by
  have hl := (List.getElem?_eq_some_iff.1 hc).1
  unfold readB
  have he := (List.getElem?_eq_some_iff.1 hc).2
  simp [ho, hp, lastW, hl, he]
/-- What readBlock leaves: the block's content, in new memory. -/
def BlockIs (w : World) (zs : List Int) (e : Ending) (w' : World) : Prop :=
  ∃ A n c, e = .returned (.tuple #[.slice A n c, .int .i64 0]) ∧ RB w' A n zs ∧ n ≤ c ∧ (n ≤ 1048576 ∧ c ≤ 9223372036854775807) ∧ Below w.heap.size w w'

theorem wreadBlock {F : Nat → Prop} {w : World} {d : Nat} {S : St} (h : PD F w d S) (ho : S.off = false) (hp : S.pend = []) (n : Nat) (c : Cn) (hc : S.last[n]? = some c) :
    Calls Try.prog 85 #[.pointer (some ⟨d, 0, none⟩), .int .i64 (n : Int)] w (BlockIs w (blockC c)) := by
  have cr := dread h (n : Int) (by rw [hp]; simp)
  rw [readB_plain ho hp n c hc] at cr
  have hcb := h.wf.lb c (List.mem_of_getElem? hc)
  unfold blockC
  by_cases ht : c.t = true
  · rw [if_pos ht] at cr ⊢
    have CR := Lib.hid cr
    clear cr h hc hcb ht
    go_enter Try.func85, Try.ntmps85
    go_wp2_with (go_at_call 59; go_loud (refine CR.out.mono ?_; rintro e w5 (⟨-, -, rfl, rfl⟩ | ⟨h, -⟩); rotate_left; exact absurd h (by decide); skip))
    go_ret2
    exact ⟨none, 0, 0, rfl, RB.empty _ _, Nat.le_refl _, by omega, Below.refl _ _⟩
  · rw [if_neg ht] at cr ⊢
    have CR := Lib.hid cr
    have HCB := Lib.hid hcb
    have HLen := Lib.hid (show (takeFrame c.b 0).1.length ≤ 64 by have := blockC_len c hcb; unfold blockC at this; rw [if_neg ht] at this; exact this)
    clear cr h hc hcb ht
    go_enter Try.func85, Try.ntmps85
    go_wp2_with (first
      | (go_at_call 59; go_loud (refine CR.out.mono ?_; rintro e w5 (⟨h, -⟩ | ⟨-, hb, rfl, hw5⟩); exact absurd rfl h; have B5 := Lib.hid (show Below w.heap.size w w5 by rw [hw5]; exact (Below.refl _ _).alloc (Nat.le_refl _) _); have R5 := Lib.hid (show RB w5 (some ⟨w.heap.size, 0, none⟩) 64 c.b by have := RB.new w (e := 95) (fr := (0, 0)) hb.byte; rw [hb.len] at this; rw [hw5]; exact this); clear hb hw5 CR))
      | (go_at_call 96; go_loud (refine (wtakeFrame _ 64 64 c.b 0 w5 R5.out (by omega) (Nat.le_refl _)).mono ?_; rintro e w6 ⟨v, rfl, hob, hb6⟩; obtain ⟨A6, c6, rfl, hr6, hc6, hm6⟩ := hob.form; have HR6 := Lib.hid hr6; have HC6 := Lib.hid hc6; have HM6 := Lib.hid (show c6 ≤ 9223372036854775807 by simp only [maxLen] at hm6; omega); have HB6 := Lib.hid hb6; have HOB := Lib.hid hob; clear hob hr6 hb6)))
    go_ret2
    exact ⟨A6, _, c6, rfl, HR6.out, HC6.out, ⟨by have := HLen.out; omega, HM6.out⟩, B5.out.trans (HB6.out.mono B5.out.size)⟩
end Go.Proofs.Ytapjgancaldgaaa
