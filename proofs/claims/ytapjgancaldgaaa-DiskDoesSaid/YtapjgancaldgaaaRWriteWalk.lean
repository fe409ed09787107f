/- The walk of the reference's Write. -/
import Derived.Test.YtapjgancaldgaaaRWrite
namespace Go.Proofs.Ytapjgancaldgaaa
set_option maxRecDepth 100000
open Go.RowKit

theorem wait_more {w : World} {ops : Array Oper} {rest : List Oper} {o : Oper} {a : Act} {Q : Exit → Act → World → Prop} (hgd : o.guard = none) (s x : Operand)
    (ho : o.op = .call { callee := .builtin .append, args := #[s, x], argTypes := #[29, 29] }) {v1 : Value} {base m : Nat} {L : List (Value × Value)} (hs : a.eval s = v1) (own : w.ownsRow base 114 2 v1 m (L.flatMap pc))
    (B : Nat) (hx : a.eval x = .slice (some ⟨B, 0, none⟩) 1 1) (k b cb : Nat) (k0 : w.cell? ⟨B, 0, none⟩ = some (.int .i64 (k : Int))) (k1 : w.cell? ⟨B, 1, none⟩ = some (.slice (some ⟨b, 0, none⟩) 64 cb)) (hm : m ≤ 4398046511104) (hbase : base ≤ w.heap.size)
    (K : ∀ g cap w5, w5.ownsRow base 114 2 (.slice (some ⟨g, 0, none⟩) (m + 1) cap) (m + 1) ((L ++ [(Value.int .i64 (k : Int), Value.slice (some ⟨b, 0, none⟩) 64 cb)]).flatMap pc) → w.grownBy w5 v1.ownBlock → (v1.ownBlock = some g ∨ g = w.heap.size) → wpList Try.prog ops Q rest (a.put o.dst (.slice (some ⟨g, 0, none⟩) (m + 1) cap)) w5) : wpList Try.prog ops Q (o :: rest) a w := by
  obtain ⟨i0, hi, hz0, hz1, hz2⟩ := info_parts infoP
  refine wpList_append_far w hgd s x 29 ho base 114 i0 _ 2 32 Try.underlying29 hi hz0 hz1 hz2 (by rfl) (by decide) v1 m _ hs own ⟨B, 0, none⟩ 1 1 [.int .i64 (k : Int), .slice (some ⟨b, 0, none⟩) 64 cb] hx rfl ?_ (by simp; exact ⟨rfl, rfl⟩) (by decide) (by simp only [maxLen]; omega) (by omega) hbase ?_
  · intro j u hu
    have hj : j = 0 ∨ j = 1 := by have := (List.getElem?_eq_some_iff.1 hu).1; simp at this; omega
    rcases hj with rfl | rfl
    · simp at hu; subst hu; exact k0
    · simp at hu; subst hu; rw [Addr.add_mid]; exact k1
  · intro g cap w5 h1 h2 h3
    exact K g cap w5 (by rw [List.flatMap_append]; exact h1) h2 h3

set_option maxHeartbeats 2000000 in
theorem rwrite {F : Nat → Prop} {w : World} {p : Nat} {S : St} (h : RD F w p S) (n : Int) (A : Option Addr) (m c : Nat) (zs : List Int) (hz : RB w A m zs) (hA : Far F A m) (hm : S.pend.length < 2199023255552) :
    Calls Try.prog 26 #[.pointer (some ⟨p, 0, none⟩), .int .i64 n, .slice A m c] w (RCodes F w p (writeS S n zs) (writeE S n zs.length)) := by
  obtain ⟨vs, gd, cd, gt, ct, vw, h⟩ := h
  have c0 := h.cell 0
  have c1 := h.cell 1
  have c3 := h.cell 3
  have sp := h.spend_
  have hlen := hz.len
  unfold writeS writeE
  by_cases ho : S.off = true
  · rw [if_pos ho, if_pos ho]
    rw [ho] at c1
    have HE := Lib.hid (rcodes (c := 22) h (Out.refl F w))
    clear h ho sp hz hlen
    go_enter Try.func26, Try.ntmps26
    go_wp2
    go_ret
    exact HE.out
  · rw [if_neg ho, if_neg ho]
    have ho2 : S.off = false := by simpa using ho
    rw [ho2] at c1
    clear ho2
    by_cases hp : 0 ≤ n ∧ n < (S.last.length : Int)
    · rw [if_neg (not_not_intro hp), if_neg (not_not_intro hp)]
      obtain ⟨k, rfl⟩ := Int.eq_ofNat_of_zero_le hp.1
      have hkd : decide ((S.last.length : Int) ≤ (k : Int)) = false := by simp; omega
      have hki : (k : Int) < (S.last.length : Int) := hp.2
      by_cases h64 : m = 64
      · rw [if_neg (show ¬ (zs.length ≠ 64) by omega), if_neg (show ¬ (zs.length ≠ 64) by omega)]
        by_cases hpl : S.plan = 0
        · have e0 : spendE S = 22 := by unfold spendE; rw [if_pos hpl]
          have e1 : rpow S = false := by unfold rpow; simp [hpl]
          rw [e0, if_pos hpl]
          rw [e1] at sp
          subst h64
          clear h ho hpl e0 e1 hz hlen hp
          go_enter Try.func26, Try.ntmps26
          go_wp2_with (go_at_call 69; refine sp.mono ?_; rintro e w1 ⟨rfl, h1, o1⟩; have HE := Lib.hid (rcodes (c := 22) h1 o1); clear h1 o1)
          go_ret
          exact HE.out
        · have e0 : spendE S = 0 := by unfold spendE; rw [if_neg hpl]
          have e1 : rpow S = true := by unfold rpow; simp [hpl]
          rw [e0, if_neg hpl]
          rw [e1] at sp
          obtain ⟨T, hT⟩ : ∃ T, T = spendS S := ⟨_, rfl⟩
          rw [← hT] at sp ⊢
          have hl : S.last = T.last := by rw [hT, spendS_last]
          have hp2 : S.pend = T.pend := by rw [hT, spendS_pend]
          have hwr : S.writes = T.writes := by rw [hT]; unfold spendS; split <;> (try split) <;> rfl
          rw [hp2, hwr]
          rw [hp2] at hm
          rw [hl] at hki
          subst h64
          have HZ := Lib.hid hz
          have HA := Lib.hid hA
          have HKI := Lib.hid hki
          have HM := Lib.hid (show T.pend.length ≤ 4398046511104 by omega)
          have HZB := Lib.hid (show B64 zs from ⟨hlen, hz.byte⟩)
          have hki0 : (k : Int) < (S.last.length : Int) := hp.2
          clear h ho hpl e0 e1 hz hlen hp hT hl hp2 hwr hA hki
          go_enter Try.func26, Try.ntmps26
          go_upto_region 11 with (go_at_call 69; refine sp.mono ?_; rintro e w1 ⟨rfl, h1, o1⟩; have d5 := h1.cell 5; have H1 := Lib.hid h1; have O1 := Lib.hid o1; have RZ1 := Lib.hid (o1.rb HZ.out (fun ad e hpos hf => HA.out ad e hpos hf)); clear h1 o1 sp)
          go_upto_region 12 with (first
            | (at_builtin; refine wait_copy rfl (.const (.slice none 0 0)) (.tmp 42) rfl rfl rfl H1.out.wait HM.out ?_; intro v1 w2 L own2 hL2 at2 b2; have OW2 := Lib.hid own2; have HL2 := Lib.hid hL2; have AT2 := Lib.hid at2; have B2 := Lib.hid b2; have RZ2 := Lib.hid (RZ1.out.below' b2); clear own2 hL2 at2 b2)
            | (go_at_call 70; refine (rcopied w2 A c zs RZ2.out).mono ?_; rintro e w3 ⟨cb, rfl, hcb, rb3, b3, l3⟩; obtain ⟨W4, hW4⟩ : ∃ W, W = w3.alloc (.cells #[.int .i64 (k : Int), .slice (some ⟨w2.heap.size, 0, none⟩) 64 cb] 114) := ⟨_, rfl⟩; have q0 : W4.heap[w3.heap.size]? = some (.cells #[.int .i64 (k : Int), .slice (some ⟨w2.heap.size, 0, none⟩) 64 cb] 114 (0, 0)) := (by rw [hW4]; exact heap_alloc_new _ _); have b4 : Below w3.heap.size w3 W4 := (by rw [hW4]; exact (Below.refl _ _).alloc (Nat.le_refl _) _); have hW4r := hW4.symm; have a0 : W4.cell? ⟨w3.heap.size, 0, none⟩ = some (.int .i64 (k : Int)) := (by rw [cell_of_row _ _ _ _ _ _ q0]; rfl); have a1 : W4.cell? ⟨w3.heap.size, 1, none⟩ = some (.slice (some ⟨w2.heap.size, 0, none⟩) 64 cb) := (by rw [cell_of_row _ _ _ _ _ _ q0]; rfl); have B24 := Lib.hid (show Below w2.heap.size w2 W4 from b3.trans (b4.mono b3.size)); have RB4 := Lib.hid (rb3.below' b4); have L4 := Lib.hid (show w2.heap.size < W4.heap.size from Nat.lt_of_lt_of_le l3 b4.size); have OW4 := Lib.hid (own_stays (w' := W4) OW2.out (fun j e => B24.out.block j (OW2.out.lt j e).2)); clear hW4 q0 b4 rb3 b3 l3)
            | (at_builtin; refine wait_more rfl (.tmp 43) (.tmp 48) rfl rfl OW4.out w3.heap.size rfl k w2.heap.size cb a0 a1 HM.out (Nat.le_trans B2.out.size B24.out.size) ?_; intro g cap5 w5 own5 gr5 at5; have OW5 := Lib.hid own5; have GR5 := Lib.hid gr5; have AT5 := Lib.hid at5; have B15 := Lib.hid (show Below w1.heap.size w1 w5 from ((B2.out.trans (B24.out.mono B2.out.size)).grown gr5 (Nat.le_trans B2.out.size B24.out.size) (fun k e => (OW4.out.lt k e).1))); have h5 := H1.out.below B15.out; have e5 := h5.cell 5; have f5 := h5.frozen 5; clear h5 own5 gr5 at5))
          have h5 := H1.out.below B15.out
          have e6 := h5.cell 6
          have f6 := h5.frozen 6
          have hw1 : w.heap.size ≤ w1.heap.size := O1.out.size
          have hp1 := H1.out.plt
          have hd1 := H1.out.dlt
          have ht1 := H1.out.tlt
          have hg1 : w1.heap.size ≤ g := (OW5.out.lt g rfl).1
          have h12 : w1.heap.size ≤ w2.heap.size := B2.out.size
          have HWT := Lib.hid (show RWait (Gr F w) w5 (.slice (some ⟨g, 0, none⟩) (T.pend.length + 1) cap5) (T.pend ++ [⟨k, zs⟩]) p gd gt by
            have hl : (T.pend ++ [(⟨k, zs⟩ : Wr)]).length = T.pend.length + 1 := by simp
            have own5 := OW5.out
            rw [← hl] at own5 ⊢
            refine rwait_own own5 (by simp) (by rw [hl]; simp [HL2.out]) ⟨.inr (by omega), by omega, by omega, by omega⟩ (fun i x hx => ?_)
            have at1 := AT2.out.stays B15.out (F' := Gr F w) (fun _ hf => .inl hf)
            by_cases hi : i < T.pend.length
            · rw [List.getElem?_append_left hi] at hx
              obtain ⟨b, cb', e, r⟩ := at1 i x hx
              exact ⟨b, cb', by rw [List.getElem?_append_left (by rw [HL2.out]; exact hi)]; exact e, r⟩
            · have hil := (List.getElem?_eq_some_iff.1 hx).1
              rw [hl] at hil
              obtain rfl : i = T.pend.length := by omega
              rw [List.getElem?_append_right (Nat.le_refl _)] at hx
              simp at hx
              subst hx
              refine ⟨w2.heap.size, cb, by rw [List.getElem?_append_right (by rw [HL2.out]; exact Nat.le_refl _), HL2.out]; simp, hcb, rb_stays RB4.out (GR5.out.block _ L4.out (fun e => by have := (OW2.out.lt _ e.symm).2; omega)), Nat.lt_of_lt_of_le L4.out GR5.out.size, .inr (by omega), by omega, by omega, by omega⟩)
          have HWF := Lib.hid (show (∀ x ∈ T.pend ++ [(⟨k, zs⟩ : Wr)], B64 x.b) ∧ ∀ x ∈ T.pend ++ [(⟨k, zs⟩ : Wr)], x.p < T.last.length from ⟨fun x hx => by
            rcases List.mem_append.1 hx with hx | hx
            · exact H1.out.wf.pb x hx
            · simp at hx; subst hx; exact HZB.out, fun x hx => by
            rcases List.mem_append.1 hx with hx | hx
            · exact H1.out.wf.pp x hx
            · simp at hx; subst hx; have := HKI.out; show k < _; omega⟩)
          have H5 := Lib.hid (h5.mono (F' := Gr F w) (fun _ _ hf => .inl hf))
          have HO := Lib.hid ((((O1.out.then (Out.of_below B15.out F))).setCell (p := ⟨p, 5, none⟩) (.inl H1.out.fp) (.slice (some ⟨g, 0, none⟩) (T.pend.length + 1) cap5)).setCell (p := ⟨p, 6, none⟩) (.inl H1.out.fp) (.int .i64 (wrap64 (T.writes + 1))))
          clear h5
          go_wp2
          go_ret
          refine ⟨rfl, ⟨vs, gd, cd, gt, ct, (.slice (some ⟨g, 0, none⟩) (T.pend.length + 1) cap5), ?_⟩, HO.out⟩
          refine H5.out.head ((w5.setCell ⟨p, 5, none⟩ (.slice (some ⟨g, 0, none⟩) (T.pend.length + 1) cap5)).setCell ⟨p, 6, none⟩ (.int .i64 (wrap64 (T.writes + 1)))) { T with pend := T.pend ++ [⟨k, zs⟩], writes := wrap64 (T.writes + 1) } (.slice (some ⟨g, 0, none⟩) (T.pend.length + 1) cap5) rfl HWF.out.1 HWF.out.2 H1.out.wf.pl (by rw [blk_set (blk_set H5.out.blk 5 _)]; rfl) (fun k _ hk => (heap_setCell_ne _ _ _ _ k hk).trans (heap_setCell_ne _ _ _ _ k hk)) (by simp [World.setCell]) ?_
          exact HWT.out.stays (fun k _ _ hk _ _ => (heap_setCell_ne _ _ _ _ k hk).trans (heap_setCell_ne _ _ _ _ k hk)) (by simp [World.setCell]) (fun _ _ h => h)
      · rw [if_pos (show zs.length ≠ 64 by omega), if_pos (show zs.length ≠ 64 by omega)]
        have HE := Lib.hid (rcodes (c := 21) h (Out.refl F w))
        have h65 : ((m : Int) != 64) = true := by simp; omega
        clear h sp hz hlen ho hp
        go_enter Try.func26, Try.ntmps26
        go_wp2
        go_ret
        exact HE.out
    · rw [if_pos hp, if_pos hp]
      have HE := Lib.hid (rcodes (c := 20) h (Out.refl F w))
      have hrest : n < 0 ∨ (¬ n < 0 ∧ (S.last.length : Int) ≤ n) := by omega
      clear h sp hz hlen ho
      go_enter Try.func26, Try.ntmps26
      rcases hrest with h1 | ⟨h1, h2⟩
      · clear hp
        go_wp2
        go_ret
        exact HE.out
      · have h3 : decide (n < 0) = false := by simp; omega
        clear hp
        go_wp2
        go_ret
        exact HE.out
end Go.Proofs.Ytapjgancaldgaaa
