/- Layer 3: scribble: it writes into the slice that it is handed, and into nothing else that lay. -/
import Derived.Test.YthpbcibjohakkaaSum
import Derived.Test.YthpbcibjohakkaaJBL
import Derived.Test.YthpbcibjohakkaaJBS
namespace Go.Proofs.Ythpbcibjohakkaa
set_option maxRecDepth 100000
open Go.RowKit

theorem grown_set {w W : World} {row : Option Nat} (h : w.grownBy W row) {a : Addr} (hb : row = some a.block ∨ w.heap.size ≤ a.block) (u : Value) : w.grownBy (W.setCell a u) row :=
  ⟨h.os, h.tape, h.output, by simpa [World.setCell] using h.size, fun k hk hne => (Below.heap_setCell _ _ _ _ (fun e => by
    rcases hb with hb | hb
    · exact hne (by rw [hb, e])
    · omega)).trans (h.block k hk hne)⟩

def Nums (xs : List Value) : Prop := ∀ x, x ∈ xs → ∃ z, x = .int .u8 z
theorem Nums.set {xs : List Value} (h : Nums xs) (j : Nat) (z : Int) : Nums (xs.set j (.int .u8 z)) := by
  intro x hx
  rcases List.mem_or_eq_of_mem_set hx with hx | rfl
  · exact h x hx
  · exact ⟨z, rfl⟩

set_option maxHeartbeats 1000000 in
theorem scribble_row (g n c base : Nat) (xs : List Value) (w : World) (ho : w.ownsRow base 5 1 (.slice (some ⟨g, 0, none⟩) n c) n xs) (hx : Nums xs) (hbase : base ≤ w.heap.size) (hn : n + 1 ≤ 140737488355328) :
    Calls Try.prog 26 #[.slice (some ⟨g, 0, none⟩) n c] w fun e w' => (∃ u, e = .returned u) ∧ w.grownBy w' (some g) := by
  go_enter Try.func26, Try.ntmps26
  go_wp2
  go_loopw [5] (fun i wr => ∃ (k : Nat) (xs : List Value), i = .int .i64 (k : Nat) ∧ k ≤ n ∧ wr.ownsRow base 5 1 (.slice (some ⟨g, 0, none⟩) n c) n xs ∧ Nums xs ∧ w.grownBy wr (some g)) (fun i _ => n - (intOf i).toNat)
  case atStart => exact ⟨0, xs, rfl, Nat.zero_le _, ho, hx, World.grownBy.refl _ _⟩
  case round =>
    obtain ⟨k, xs, rfl, hk, ho, hx, hg⟩ := hrel
    have hl := ho.1
    by_cases hlt : k < n
    · obtain ⟨z, hz⟩ : ∃ z, xs[k]? = some (.int .u8 z) := by
        obtain ⟨z, hz⟩ := hx (xs[k]'(by omega)) (List.getElem_mem _)
        exact ⟨z, by rw [List.getElem?_eq_getElem (by omega), hz]⟩
      have hc := (ho.cellAt k (by omega)).trans hz
      have hf := ho.frozenAt k
      go_wp2
      go_roundw
      case rel => exact ⟨k + 1, _, rfl, by omega, (ho.stored k _).1, hx.set k _, grown_set hg (.inl rfl) _⟩
      case measure => simp only [intOf]; omega
    · have hk2 : k = n := by omega
      subst hk2
      obtain ⟨i0, hi, hz0, hz1, hz2⟩ := info_parts info_u8
      have hbw : base ≤ wr.heap.size := Nat.le_trans hbase hg.size
      have hal := ho.alloc (.cells #[.int .u8 77] 5)
      have hga : w.grownBy (wr.alloc (.cells #[.int .u8 77] 5)) (some g) := hg.trans (World.grownBy_alloc wr _ _)
      clear ho
      have hone : ∀ u, u ∈ [Value.int .u8 77] → u.oneCell' = true := by intro u hu; simp only [List.mem_singleton] at hu; subst hu; rfl
      have hmx : k + 1 ≤ maxLen := by simp only [maxLen]; omega
      have hby : (k + 1) * 1 ≤ 140737488355328 := by omega
      have hbs : base ≤ (wr.alloc (.cells #[.int .u8 77] 5)).heap.size := by simp only [World.size_alloc]; omega
      have hsz : (wr.alloc (.cells #[.int .u8 77] 5)).heap.size = wr.heap.size + 1 := World.size_alloc _ _
      have hnw := cell_one_new wr (.int .u8 77) 5
      have hl1 : [Value.int .u8 77].length = 1 * 1 := rfl
      have hzc : (Value.int .u8 0).cells.size = 1 := rfl
      have L := Lib.hid hl
      clear hl
      go_wp2_with (with_reducible refine wpList_append_lies _ rfl (.tmp 15) (.tmp 16) 33 rfl base 5 i0 (.int .u8 0) 1 1 Try.underlying33 hi hz0 hz1 hz2 hzc (by decide) (.slice (some ⟨g, 0, none⟩) k c) k xs rfl hal ⟨wr.heap.size, 0, none⟩ 1 1 [.int .u8 77] rfl hl1 hnw hone (by omega) hmx hby hbs (wr.heap.size + 1) hsz ?_; intro g' cap' w2 hown hgrow hat hlt2; have hcell := hown.cellAt k (by omega); have hfro := hown.frozenAt k; rw [List.getElem?_append_right (by have := L.out; omega), L.out, Nat.mul_one, Nat.sub_self] at hcell; simp only [List.getElem?_cons_zero] at hcell)
      go_end0
      refine ⟨⟨_, rfl⟩, grown_set (hga.trans hgrow) ?_ _⟩
      rcases hat with hat | hat
      · exact .inl hat
      · right
        have := hg.size
        show w.heap.size ≤ g'
        omega

set_option maxHeartbeats 1000000 in
theorem scribble_nil (w : World) : Calls Try.prog 26 #[.slice none 0 0] w fun e w' => (∃ u, e = .returned u) ∧ w.grownBy w' none := by
  go_enter Try.func26, Try.ntmps26
  go_wp2
  go_loopw [5] (fun i wr => i = .int .i64 0 ∧ w = wr) (fun _ _ => 0)
  case atStart => exact ⟨rfl, rfl⟩
  case round =>
    obtain ⟨rfl, rfl⟩ := hrel
    obtain ⟨i0, hi, hz0, hz1, hz2⟩ := info_parts info_u8
    have hal := World.ownsRow_nil (w.alloc (.cells #[.int .u8 77] 5)) w.heap.size 5 1
    have hone : ∀ u, u ∈ [Value.int .u8 77] → u.oneCell' = true := by intro u hu; simp only [List.mem_singleton] at hu; subst hu; rfl
    have hmx : 0 + 1 ≤ maxLen := by simp only [maxLen]; omega
    have hby : (0 + 1) * 1 ≤ 140737488355328 := by omega
    have hbs : w.heap.size ≤ (w.alloc (.cells #[.int .u8 77] 5)).heap.size := by simp only [World.size_alloc]; omega
    have hsz : (w.alloc (.cells #[.int .u8 77] 5)).heap.size = w.heap.size + 1 := World.size_alloc _ _
    have hnw := cell_one_new w (.int .u8 77) 5
    have hl1 : [Value.int .u8 77].length = 1 * 1 := rfl
    have hzc : (Value.int .u8 0).cells.size = 1 := rfl
    go_wp2_with (with_reducible refine wpList_append_lies _ rfl (.tmp 15) (.tmp 16) 33 rfl w.heap.size 5 i0 (.int .u8 0) 1 1 Try.underlying33 hi hz0 hz1 hz2 hzc (by decide) (.slice none 0 0) 0 [] rfl hal ⟨w.heap.size, 0, none⟩ 1 1 [.int .u8 77] rfl hl1 hnw hone (by omega) hmx hby hbs (w.heap.size + 1) hsz ?_; intro g' cap' w2 hown hgrow hat hlt2; have hcell := hown.cellAt 0 (by omega); have hfro := hown.frozenAt 0; simp only [List.nil_append, List.getElem?_cons_zero] at hcell)
    go_end0
    refine ⟨⟨_, rfl⟩, grown_set ((World.grownBy_alloc w _ _).trans hgrow) (.inr ?_) _⟩
    rcases hat with hat | hat
    · cases hat
    · show w.heap.size ≤ g'
      omega

/-- scribble of a slice that the call itself made. -/
theorem scribble_ob (v : Value) (base : Nat) (zs : List Int) (w : World) (ho : OB base w v zs) (hbase : base ≤ w.heap.size) (hn : zs.length + 1 ≤ 140737488355328) :
    Calls Try.prog 26 #[v] w fun e w' => (∃ u, e = .returned u) ∧ w.grownBy w' v.ownBlock := by
  have hown := ho.own
  rcases hown.2 with ⟨rfl, h0⟩ | ⟨g, cap, cur, rfl, hg, hh, r⟩
  · exact scribble_nil w
  · refine (scribble_row g zs.length cap base _ w hown (fun x hx => ?_) hbase hn).mono fun e w' h => h
    obtain ⟨z, -, rfl⟩ := List.mem_map.1 hx
    exact ⟨z, rfl⟩
end Go.Proofs.Ythpbcibjohakkaa
