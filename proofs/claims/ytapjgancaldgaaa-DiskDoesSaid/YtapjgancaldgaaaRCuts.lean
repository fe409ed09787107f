/- What DiskCuts asks, over plain states. -/
import Derived.Test.YtapjgancaldgaaaRBegin
import Derived.IntWalk
namespace Go.Proofs.Ytapjgancaldgaaa
set_option maxRecDepth 100000
open Go.RowKit

/-- The program's state beside the reference's: with a plan, or behind it. -/
def cutS (T : St) (n : Int) (off : Bool) : St := if off then { T with off := true, plan := -1 } else { T with plan := n - (T.writes + T.syncs) }
structure Cut (n : Int) (k : Nat) (off : Bool) (T : St) : Prop where
  nof : T.off = false
  tp : T.plan = -1
  w0 : 0 ≤ T.writes
  s0 : 0 ≤ T.syncs
  wk : T.writes + T.syncs ≤ k
  pk : T.pend.length ≤ k
  le : T.writes + T.syncs ≤ n
  full : off = true → T.writes + T.syncs = n
  hi : k ≤ 2199023255488
section
variable {n : Int} {k : Nat} {T : St}
theorem Cut.more {off : Bool} (h : Cut n k off T) (hk : k + 1 ≤ 2199023255488) : Cut n (k + 1) off T := ⟨h.nof, h.tp, h.w0, h.s0, by have := h.wk; omega, by have := h.pk; omega, h.le, h.full, hk⟩
theorem Cut.pend {off : Bool} (h : Cut n k off T) : (cutS T n off).pend.length < 2199023255552 := by
  have := h.pk; have := h.hi; cases off <;> simp only [cutS] <;> simp <;> omega
theorem cut_off (T : St) (n : Int) (x : Int) (zs : List Int) (m : Nat) : writeS (cutS T n true) x zs = cutS T n true ∧ writeE (cutS T n true) x m = 22 ∧ syncS (cutS T n true) = cutS T n true ∧ syncE (cutS T n true) = 22 := by
  simp [cutS, writeS, writeE, syncS, syncE]
theorem cut_write (h : Cut n k false T) (hk : k + 1 ≤ 2199023255488) (x : Int) (zs : List Int) :
    (writeE (cutS T n false) x zs.length = 22 ∧ writeS (cutS T n false) x zs = cutS T n true ∧ Cut n (k + 1) true T) ∨
    (writeE (cutS T n false) x zs.length ≠ 22 ∧ writeE (cutS T n false) x zs.length = writeE T x zs.length ∧ writeS (cutS T n false) x zs = cutS (writeS T x zs) n false ∧ Cut n (k + 1) false (writeS T x zs)) := by
  have hto := h.nof
  have htp := h.tp
  have hm := h.more hk
  have hle := h.le
  by_cases hp : 0 ≤ x ∧ x < (T.last.length : Int)
  · by_cases hl : zs.length = 64
    · by_cases h0 : n - (T.writes + T.syncs) = 0
      · left
        refine ⟨?_, ?_, ⟨hm.nof, hm.tp, hm.w0, hm.s0, hm.wk, hm.pk, hm.le, fun _ => by omega, hm.hi⟩⟩
        · simp [writeE, cutS, hto, hp, hl, spendE, h0]
        · simp [writeS, cutS, hto, hp, hl, spendS, h0]
      · right
        have hn1 : ¬ n - (T.writes + T.syncs) = -1 := by omega
        have hw : wrap64 (T.writes + 1) = T.writes + 1 := by
          have := h.w0; have := h.s0; have := h.wk; have := h.hi
          exact IntWalk.wrap64_in _ (by omega)
        refine ⟨?_, ?_, ?_, ?_⟩
        · simp [writeE, cutS, hto, hp, hl, spendE, h0]
        · simp [writeE, cutS, hto, hp, hl, spendE, h0, htp]
        · simp [writeS, cutS, hto, hp, hl, spendS, h0, hn1, htp, hw]; omega
        · have e : writeS T x zs = { T with pend := T.pend ++ [⟨x.toNat, zs⟩], writes := T.writes + 1 } := by simp [writeS, hto, hp, hl, spendS, htp, hw]
          rw [e]
          exact ⟨hto, htp, by have := h.w0; simp only; omega, h.s0, by have := h.wk; simp only; omega, by have := h.pk; simp; omega, by simp only; omega, by simp, hk⟩
    · right
      have e : writeS T x zs = T := by simp [writeS, hto, hp, hl]
      rw [e]
      refine ⟨?_, ?_, ?_, hm⟩
      · simp [writeE, cutS, hto, hp, hl]
      · simp [writeE, cutS, hto, hp, hl]
      · simp [writeS, cutS, hto, hp, hl]
  · right
    have e : writeS T x zs = T := by simp [writeS, hto, hp]
    rw [e]
    refine ⟨?_, ?_, ?_, hm⟩
    · simp [writeE, cutS, hto, hp]
    · simp [writeE, cutS, hto, hp]
    · simp [writeS, cutS, hto, hp]
theorem cut_sync (h : Cut n k false T) (hk : k + 1 ≤ 2199023255488) :
    (syncE (cutS T n false) = 22 ∧ syncS (cutS T n false) = cutS T n true ∧ Cut n (k + 1) true T) ∨
    (syncE (cutS T n false) ≠ 22 ∧ syncE (cutS T n false) = syncE T ∧ syncS (cutS T n false) = cutS (syncS T) n false ∧ Cut n (k + 1) false (syncS T)) := by
  have hto := h.nof
  have htp := h.tp
  have hm := h.more hk
  have hle := h.le
  by_cases h0 : n - (T.writes + T.syncs) = 0
  · left
    refine ⟨?_, ?_, ⟨hm.nof, hm.tp, hm.w0, hm.s0, hm.wk, hm.pk, hm.le, fun _ => by omega, hm.hi⟩⟩
    · simp [syncE, cutS, hto, spendE, h0]
    · simp [syncS, cutS, hto, spendS, h0]
  · right
    have hn1 : ¬ n - (T.writes + T.syncs) = -1 := by omega
    have hw : wrap64 (T.syncs + 1) = T.syncs + 1 := by
      have := h.w0; have := h.s0; have := h.wk; have := h.hi
      exact IntWalk.wrap64_in _ (by omega)
    refine ⟨?_, ?_, ?_, ?_⟩
    · simp [syncE, cutS, hto, spendE, h0]
    · simp [syncE, cutS, hto, spendE, h0, htp]
    · simp [syncS, cutS, hto, spendS, h0, hn1, htp, hw]; omega
    · have e : syncS T = { T with last := layAll T.last T.pend (ones T.pend.length), pend := [], syncs := T.syncs + 1 } := by simp [syncS, hto, spendS, htp, hw]
      rw [e]
      exact ⟨hto, htp, h.w0, by have := h.s0; simp only; omega, by have := h.wk; simp only; omega, by simp, by simp only; omega, by simp, hk⟩
theorem cut_crash (T : St) (n : Int) (off : Bool) : crashS (cutS T n off) [] = crashS T [] ∧ crashE (cutS T n off) [] = 0 ∧ crashE T [] = 0 := by
  cases off <;> simp [cutS, crashS, crashE]
theorem cut_crash_pend (T : St) : (crashS T []).pend.length = 0 := by simp [crashS]
end
end Go.Proofs.Ytapjgancaldgaaa
