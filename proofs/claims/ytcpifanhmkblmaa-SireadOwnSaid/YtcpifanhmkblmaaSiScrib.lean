/- Layer 9: the law's scribble: it writes into the list that a call made, and into nothing else. -/
import Derived.Test.YtcpifanhmkblmaaSiLast
namespace Go.Proofs.Ytcpifanhmkblmaa
set_option maxRecDepth 100000
set_option maxRecDepth 100000
open Go.RowKit

theorem SO.addr9 {E : SEl} {base n c : Nat} {w : World} {A : Option Addr} {xs : List Value} (h : SO E base w (.slice A n c) n xs) (hn : 0 < n) : ∃ g, A = some ⟨g, 0, none⟩ ∧ base ≤ g := by
  rcases h.own.2 with ⟨hv, -⟩ | ⟨g, cap, cur, hv, hb, -⟩
  · simp only [Value.slice.injEq] at hv; omega
  · simp only [Value.slice.injEq] at hv; exact ⟨g, hv.1, hb⟩
theorem SO.set9 {E : SEl} {base n c g : Nat} {w : World} {xs : List Value} (h : SO E base w (.slice (some ⟨g, 0, none⟩) n c) n xs) (j : Nat) {u : Value} (hu : u.oneCell' = true) : SO E base (w.setCell ⟨g, j, none⟩ u) (.slice (some ⟨g, 0, none⟩) n c) n (xs.set j u) :=
  ⟨(h.own.stored j u).1, by rw [List.length_set]; exact h.len, fun x hx => by
    rcases List.mem_or_eq_of_mem_set hx with hx | rfl
    · exact h.one x hx
    · exact hu⟩
def Ints9 (xs : List Value) : Prop := ∀ x, x ∈ xs → ∃ z, x = .int .i64 z
theorem Ints9.set {xs : List Value} (h : Ints9 xs) (j : Nat) (z : Int) : Ints9 (xs.set j (.int .i64 z)) := by
  intro x hx
  rcases List.mem_or_eq_of_mem_set hx with hx | rfl
  · exact h x hx
  · exact ⟨z, rfl⟩
theorem ints_numC9 (zs : List Int) : Ints9 (numC zs) := by
  intro x hx
  simp only [numC, List.mem_map] at hx
  obtain ⟨z, -, rfl⟩ := hx
  exact ⟨z, rfl⟩
theorem Ints9.at_ {xs : List Value} (h : Ints9 xs) {j : Nat} (hj : j < xs.length) : ∃ z, xs[j]? = some (.int .i64 z) := by
  obtain ⟨s, hs⟩ := h xs[j] (List.getElem_mem _)
  exact ⟨s, by rw [List.getElem?_eq_getElem hj, hs]⟩
theorem sb_num1 (w : World) (z : Int) : SB (w.alloc (.cells #[.int .i64 z] 2)) (some ⟨w.heap.size, 0, none⟩) (seN.s * 1) (numC [z]) :=
  ⟨rfl, numC_one _, fun _ => ⟨_, 0, rfl, fun j u hj => (by match j, hj with | 0, hj => (cases hj; exact cell_of_row _ _ 0 _ _ _ (heap_alloc_new _ _)))⟩⟩
set_option maxHeartbeats 8000000 in
theorem wscribble9 {base n c : Nat} {A : Option Addr} {w : World} {xs : List Value} (h : SO seN base w (.slice A n c) n xs) (hi : Ints9 xs) (hn : n ≤ 1000000) (hb : base ≤ w.heap.size) :
    Calls Try.prog 29 #[.slice A n c] w fun e w' => (∃ u, e = .returned u) ∧ Below base w w' := by
  have HN := Lib.hid hn
  have H0 := Lib.hid h
  have HI := Lib.hid hi
  have HW := Lib.hid hb
  clear h hi hn hb
  go_enter Try.func29, Try.ntmps29
  go_wp2
  go_loopw [5] (fun i wr => ∃ (k : Nat) (xs : List Value), i = .int .i64 (k : Nat) ∧ k ≤ n ∧ SO seN base wr (.slice A n c) n xs ∧ Ints9 xs ∧ Below base w wr) (fun i _ => n - (intOf i).toNat)
  case atStart => exact ⟨0, xs, rfl, Nat.zero_le _, H0.out, HI.out, Below.refl _ _⟩
  case round =>
    rename World => wy
    clear H0 HI
    obtain ⟨q, xs, rfl, hq, hO, hX, hB⟩ := hrel
    by_cases hlt : q < n
    · obtain ⟨g, rfl, hg⟩ := hO.addr9 (by omega)
      have hxl : xs.length = 1 * n := hO.len
      obtain ⟨s0, hs0⟩ := hX.at_ (j := q) (by omega)
      have d0 : wy.cell? ⟨g, q, none⟩ = some (.int .i64 s0) := (hO.own.cellAt q (by show q < n * 1; omega)).trans hs0
      have f0 : wy.frozen? ⟨g, q, none⟩ = false := hO.own.frozenAt _
      have HLT := Lib.hid hlt
      have HX := Lib.hid hX
      have HO := Lib.hid hO
      have HB := Lib.hid hB
      have HG := Lib.hid hg
      have i3 : (q : Int) < (n : Int) := by omega
      have qb' : (q : Int) ≤ 4000000 := by have := HN.out; omega
      clear hX hO hB hg hlt hq hxl hs0
      go_wp2
      go_roundw
      case rel => exact ⟨q + 1, _, by go_num, HLT.out, HO.out.set9 q rfl, HX.out.set _ _, HB.out.setCell (p := ⟨g, q, none⟩) HG.out _⟩
      case measure => have := HLT.out; simp [intOf]; omega
    · obtain rfl : q = n := by omega
      have i3 : ¬ (q : Int) < (q : Int) := by omega
      have qb' : (q : Int) ≤ 4000000 := by have := HN.out; omega
      have HO := Lib.hid hO
      have HB := Lib.hid hB
      have HX := Lib.hid (show xs.length = q by have := hO.len; rw [show seN.s * q = q from Nat.one_mul _] at this; exact this)
      have HL := Lib.hid (sb_num1 wy (-9))
      have HZ := Lib.hid hB.size
      clear hO hX hB hlt hq
      go_wp2_with (at_builtin; go_loud (refine so_append seN_ok (by rfl) (.tmp 12) (.tmp 13) (by rfl) _ (by rfl) (HO.out.alloc _) (some ⟨wy.heap.size, 0, none⟩) 1 1 (numC [-9]) (by rfl) HL.out (by have := HN.out; omega) (by have := HW.out; have := HZ.out; simp; omega) ?_; intro v3 w3 o3 b3; obtain ⟨A3, c3, hv3, -⟩ := o3.form; subst hv3; obtain ⟨g3, hA3, hg3⟩ := o3.addr9 (by omega); subst hA3; have d3 : w3.cell? ⟨g3, q, none⟩ = some (.int .i64 (-9)) := ((o3.own.cellAt q (by show q < (q + 1) * 1; omega)).trans (by rw [List.getElem?_append_right (by have := HX.out; omega), HX.out, Nat.sub_self]; rfl)); have f3 : w3.frozen? ⟨g3, q, none⟩ = false := o3.own.frozenAt _; have B3 := Lib.hid ((HB.out.alloc (by have := HW.out; have := HZ.out; omega) _).trans b3); have G3 := Lib.hid hg3; clear o3 b3 hg3))
      go_end0
      exact ⟨⟨_, rfl⟩, B3.out.setCell (p := ⟨g3, q, none⟩) G3.out _⟩
end Go.Proofs.Ytcpifanhmkblmaa
