/- The reference's Image. -/
import Derived.Test.YtapjgancaldgaaaRRead
namespace Go.Proofs.Ytapjgancaldgaaa
set_option maxRecDepth 100000
open Go.RowKit

section
variable {F : Nat → Prop} {w : World} {p : Nat} {S : St} {vs : List Value} {gd cd gt ct : Nat} {vw : Value}
theorem rafter4 {W1 w2 : World} {g4 : Nat} {u4 u5 : Value} {z4 z5 : List Int} (h4 : OB w.heap.size W1 u4 z4) (h5 : OI w.heap.size W1 u5 z5) (h45 : ∀ j, u4.ownBlock = some j → u5.ownBlock ≠ some j)
    (hg : W1.grownBy w2 u4.ownBlock) (hat : u4.ownBlock = some g4 ∨ g4 = W1.heap.size) (hb : Below w.heap.size w W1) (hd : Rf (fun k => F k ∧ k < w.heap.size) W1 p S vs gd cd gt ct vw) :
    OI w.heap.size w2 u5 z5 ∧ (∀ (n cap : Nat) j, (Value.slice (some ⟨g4, 0, none⟩) n cap).ownBlock = some j → u5.ownBlock ≠ some j) ∧ Below w.heap.size w w2 ∧ Rf (fun k => F k ∧ k < w.heap.size) w2 p S vs gd cd gt ct vw := by
  refine ⟨OI.stays h5 fun j e => hg.block j (h5.lt j e).2 (fun e2 => h45 j e2.symm e), fun n cap j e e5 => ?_, hb.grown hg hb.size (fun k e => (h4.own.lt k e).1), ?_⟩
  · have ej : g4 = j := by simpa [Value.ownBlock] using e
    subst ej
    rcases hat with e2 | e2
    · exact h45 _ e2 e5
    · have := (h5.lt _ e5).2; omega
  · exact hd.stays (fun k hk hf => hg.block k hk (fun e => by have := (h4.own.lt k e.symm).1; have := hf.2; omega)) hg.size
theorem rafter5 {w2 w3 : World} {u5 : Value} {z4 z5 : List Int} {g4 n4 cap4 g5 : Nat} {o : Obj} (h4 : OB w.heap.size w2 (.slice (some ⟨g4, 0, none⟩) n4 cap4) z4) (h5 : OI w.heap.size w2 u5 z5)
    (h45 : ∀ (n cap : Nat) j, (Value.slice (some ⟨g4, 0, none⟩) n cap).ownBlock = some j → u5.ownBlock ≠ some j) (hg : (w2.alloc o).grownBy w3 u5.ownBlock) (hat : u5.ownBlock = some g5 ∨ g5 = (w2.alloc o).heap.size)
    (hb : Below w.heap.size w w2) (hd : Rf (fun k => F k ∧ k < w.heap.size) w2 p S vs gd cd gt ct vw) :
    OB w.heap.size w3 (.slice (some ⟨g4, 0, none⟩) n4 cap4) z4 ∧ (∀ (n n' cap cap' : Nat) j, (Value.slice (some ⟨g4, 0, none⟩) n cap).ownBlock = some j → (Value.slice (some ⟨g5, 0, none⟩) n' cap').ownBlock ≠ some j) ∧ Below w.heap.size w w3 ∧ Rf (fun k => F k ∧ k < w.heap.size) w3 p S vs gd cd gt ct vw := by
  have hk : ∀ k, k < w2.heap.size → u5.ownBlock ≠ some k → w3.heap[k]? = w2.heap[k]? := fun k hk hn => (hg.block k (by simp; omega) (fun e => hn e.symm)).trans (Below.heap_alloc _ _ _ hk)
  refine ⟨h4.stays fun j e => hk j (h4.own.lt j e).2 (h45 _ _ j e), fun n n' cap cap' j e e5 => ?_, (hb.alloc hb.size o).grown hg (by simp; exact Nat.le_succ_of_le hb.size) (fun k e => (h5.lt k e).1), ?_⟩
  · have ej : g4 = j := by simpa [Value.ownBlock] using e
    have ej5 : g5 = j := by simpa [Value.ownBlock] using e5
    subst ej
    subst ej5
    rcases hat with e2 | e2
    · exact h45 0 0 _ rfl e2
    · have hlt := (h4.own.lt g5 rfl).2
      rw [World.size_alloc] at e2
      omega
  · exact hd.stays (fun k hkk hf => hk k hkk (fun e => by have := (h5.lt k e).1; have := hf.2; omega)) (Nat.le_trans (by simp) hg.size)

set_option maxHeartbeats 2000000 in
theorem rimage (h : RD F w p S) : Calls Try.prog 65 #[.pointer (some ⟨p, 0, none⟩)] w (ImageIs w S.last) := by
  obtain ⟨vs, gd, cd, gt, ct, vw, h⟩ := h
  have h := h.mono (F' := fun k => F k ∧ k < w.heap.size) (fun k hk hf => ⟨hf, hk⟩)
  have hlo := h.wf.lo
  have hhi := h.wf.hi
  have H0 := Lib.hid h
  clear h
  go_enter Try.func65, Try.ntmps65
  go_wp2
  go_loopw [4, 5, 6] (fun v4 v5 i wr => ∃ k : Nat, i = .int .i64 (k : Nat) ∧ k ≤ S.last.length ∧ OB w.heap.size wr v4 (imgB (S.last.take k)) ∧ OI w.heap.size wr v5 (tornN S.last k) ∧ (∀ j, v4.ownBlock = some j → v5.ownBlock ≠ some j) ∧ Below w.heap.size w wr ∧ Rf (fun k => F k ∧ k < w.heap.size) wr p S vs gd cd gt ct vw) (fun _ _ i _ => S.last.length - (intOf i).toNat)
  case atStart => exact ⟨0, rfl, Nat.zero_le _, OB.nil _ _, World.ownsRow_nil _ _ _ _, fun j e => by simp [Value.ownBlock] at e, Below.refl _ _, H0.out⟩
  case round =>
    obtain ⟨k, rfl, hk, h4, h5, h45, hB, hd⟩ := hrel
    have c3 := hd.cell 3
    by_cases hlt : k < S.last.length
    · obtain ⟨c, hc⟩ : ∃ c, S.last[k]? = some c := ⟨_, List.getElem?_eq_getElem hlt⟩
      have hcb := hd.wf.lb c (List.mem_of_getElem? hc)
      obtain ⟨gb, capb, hv, hcapb, rbb, -, -, -⟩ := hd.at_ k c hc
      obtain ⟨v1, v2⟩ := hd.dataAt hv
      have hki : (k : Int) < (S.last.length : Int) := by omega
      have HSZ := Lib.hid (show (imgB (S.last.take k)).length + 64 ≤ 140737488355328 by rw [imgB_len _ (fun y hy => hd.wf.lb y (List.mem_of_mem_take hy)), List.length_take]; omega)
      have HNX := Lib.hid (show imgB (S.last.take k) ++ c.b = imgB (S.last.take (k + 1)) by rw [List.take_add_one, hc]; simp [imgB])
      have HTB := Lib.hid (show (tornN S.last k).length ≤ 4398046511104 by have := tornN_len S.last k; omega)
      have H4 := Lib.hid h4
      have H5 := Lib.hid h5
      have HBB := Lib.hid hB
      have HD := Lib.hid hd
      have RBB := Lib.hid rbb
      have HC := Lib.hid hc
      have HLT := Lib.hid hlt
      have HCL := Lib.hid hcb.len
      clear h4 h5 hB hd rbb hv v2
      cases htc : c.t with
      | true =>
        have HT := Lib.hid htc
        clear htc hc
        go_wp2_with (first
          | (at_builtin; refine ob_append_far rfl (.tmp 16) (.tmp 23) rfl w.heap.size u4 (imgB (S.last.take k)) rfl H4.out (some ⟨gb, 0, none⟩) 64 capb c.b rfl RBB.out (by decide) HSZ.out HBB.out.size ?_; intro g4 cap4 w2 ho4 hg4 hat4; have fx := rafter4 H4.out H5.out h45 hg4 hat4 HBB.out HD.out; have H42 := Lib.hid ho4; have H52 := Lib.hid fx.1; have H452 := Lib.hid fx.2.1; have HB2 := Lib.hid fx.2.2.1; have HD2 := Lib.hid fx.2.2.2; have d4 := fx.2.2.2.cell 4; have dt := (fx.2.2.2.tornAt HC.out).1; rw [HT.out] at dt; clear fx ho4 hg4 hat4)
          | (at_builtin; have H53 := Lib.hid (OI.stays H52.out (w' := w2.alloc (.cells #[.int .i64 (k : Int)] 3)) fun j e => Below.heap_alloc _ _ _ (H52.out.lt j e).2); have hc3 : (w2.alloc (.cells #[.int .i64 (k : Int)] 3)).cell? ⟨w2.heap.size, 0, none⟩ = some (.int .i64 (k : Int)) := (by rw [cell_of_row _ _ _ _ _ _ (heap_alloc_new _ _)]; rfl); refine oi_append rfl (.tmp 32) (.tmp 34) rfl w.heap.size u5 (tornN S.last k) rfl H53.out w2.heap.size 1 (k : Int) rfl hc3 HTB.out (by simp; exact Nat.le_succ_of_le HB2.out.size) ?_; intro g5 cap5 w3 ho5 hg5 hat5))
        obtain ⟨q4, q45, qb, qd⟩ := rafter5 H42.out H52.out H452.out hg5 hat5 HB2.out HD2.out
        go_roundw
        case rel =>
          rw [HNX.out] at q4
          have e4 : (imgB (S.last.take k)).length + c.b.length = (imgB (S.last.take (k + 1))).length := by rw [← HNX.out, List.length_append]
          have e5 : (tornN S.last k).length + 1 = (tornN S.last k ++ [(k : Int)]).length := by simp
          refine ⟨k + 1, by go_num, HLT.out, ?_, ?_, fun j e => q45 _ _ _ _ j e, qb, qd⟩
          · rw [e4]; exact q4
          · rw [e5, tornN_true HC.out HT.out]; exact ho5
        case measure => simp [intOf]; omega
      | false =>
        have HT := Lib.hid htc
        clear htc hc
        go_wp2_with (at_builtin; refine ob_append_far rfl (.tmp 16) (.tmp 23) rfl w.heap.size u4 (imgB (S.last.take k)) rfl H4.out (some ⟨gb, 0, none⟩) 64 capb c.b rfl RBB.out (by decide) HSZ.out HBB.out.size ?_; intro g4 cap4 w2 ho4 hg4 hat4; have fx := rafter4 H4.out H5.out h45 hg4 hat4 HBB.out HD.out; have H42 := Lib.hid ho4; have H52 := Lib.hid fx.1; have H452 := Lib.hid fx.2.1; have HB2 := Lib.hid fx.2.2.1; have HD2 := Lib.hid fx.2.2.2; have d4 := fx.2.2.2.cell 4; have dt := (fx.2.2.2.tornAt HC.out).1; rw [HT.out] at dt; clear fx ho4 hg4 hat4)
        go_roundw
        case rel =>
          have h4 := H42.out
          rw [HNX.out] at h4
          have e4 : (imgB (S.last.take k)).length + c.b.length = (imgB (S.last.take (k + 1))).length := by rw [← HNX.out, List.length_append]
          refine ⟨k + 1, by go_num, HLT.out, ?_, ?_, fun j e => H452.out _ _ j e, HB2.out, HD2.out⟩
          · rw [e4]; exact h4
          · rw [tornN_false HC.out HT.out]; exact H52.out
        case measure => simp [intOf]; omega
    · obtain rfl : k = S.last.length := by omega
      rw [List.take_length] at h4
      go_wp2
      go_ret2
      exact ⟨_, _, rfl, h4, h5, h45, hB⟩
end
end Go.Proofs.Ytapjgancaldgaaa
