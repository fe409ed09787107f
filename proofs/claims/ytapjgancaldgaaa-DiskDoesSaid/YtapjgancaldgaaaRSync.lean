/- The reference's Plan and Sync. -/
import Derived.Test.YtapjgancaldgaaaRLay
namespace Go.Proofs.Ytapjgancaldgaaa
set_option maxRecDepth 100000
open Go.RowKit

def RCodes (F : Nat → Prop) (w : World) (p : Nat) (S' : St) (c : Int) (e : Ending) (w' : World) : Prop :=
  e = .returned (.int .i64 c) ∧ RD (Gr F w) w' p S' ∧ Out F w w'
theorem rcodes {F : Nat → Prop} {w w' : World} {p : Nat} {S' : St} {c : Int} {vs : List Value} {gd cd gt ct : Nat} {vw : Value} (h : Rf F w' p S' vs gd cd gt ct vw) (ho : Out F w w') : RCodes F w p S' c (.returned (.int .i64 c)) w' :=
  ⟨rfl, ⟨vs, gd, cd, gt, ct, vw, h.mono fun _ _ hf => .inl hf⟩, ho⟩
theorem gr_gr {F : Nat → Prop} {w w1 : World} (hs : w.heap.size ≤ w1.heap.size) {k : Nat} (h : Gr (Gr F w) w1 k) : Gr F w k := by
  rcases h with h | h
  · exact h
  · exact .inr (by omega)
theorem out_gr {F : Nat → Prop} {w w1 w2 : World} (h : Out F w w1) (k : Out (Gr F w) w1 w2) : Out F w w2 :=
  h.trans k fun i hi hf => by
    rcases hf with hf | hf
    · exact hf
    · omega

theorem RWait.form {F : Nat → Prop} {w : World} {vw : Value} {l : List Wr} {p gd gt : Nat} (h : RWait F w vw l p gd gt) : ∃ A cap, vw = .slice A l.length cap := by
  by_cases hn : l = []
  · rw [h.nil_ hn, hn]; exact ⟨_, _, rfl⟩
  · obtain ⟨g, cap, e, _⟩ := h.row hn
    exact ⟨_, _, e⟩
section
variable {F : Nat → Prop} {w : World} {p : Nat} {S : St}
theorem Rf.setPlan2 {vs : List Value} {gd cd gt ct : Nat} {vw : Value} (h : Rf F w p S vs gd cd gt ct vw) (n q : Int) (hq : -1 ≤ q ∧ q ≤ 9223372036854775807) : Rf F ((w.setCell ⟨p, 2, none⟩ (.int .i64 n)).setCell ⟨p, 2, none⟩ (.int .i64 q)) p { S with plan := q } vs gd cd gt ct vw :=
  h.head _ { S with plan := q } vw rfl h.wf.pb h.wf.pp hq (by rw [blk_set (blk_set h.blk 2 _)]; rfl) (fun k _ hk => (heap_setCell_ne _ _ _ _ k hk).trans (heap_setCell_ne _ _ _ _ k hk)) (by simp [World.setCell])
    (h.wait.stays (fun k _ _ hk _ _ => (heap_setCell_ne _ _ _ _ k hk).trans (heap_setCell_ne _ _ _ _ k hk)) (by simp [World.setCell]) (fun _ _ h => h))
theorem rplan (h : RD F w p S) (n : Int) (hn : -9223372036854775808 ≤ n ∧ n ≤ 9223372036854775807) :
    Calls Try.prog 58 #[.pointer (some ⟨p, 0, none⟩), .int .i64 n] w (RCodes F w p (planS S n) (if S.off then 22 else 0)) := by
  obtain ⟨vs, gd, cd, gt, ct, vw, h⟩ := h
  have c0 := h.cell 0
  have c1 := h.cell 1
  have c2 := h.cell 2
  have f2 := h.frozen 2
  unfold planS
  by_cases ho : S.off = true
  · rw [if_pos ho, if_pos ho]
    rw [ho] at c1
    have HE := Lib.hid (rcodes (c := 22) h (Out.refl F w))
    clear h ho
    go_enter Try.func58, Try.ntmps58
    go_wp2
    go_ret
    exact HE.out
  · rw [if_neg ho, if_neg ho]
    have ho2 : S.off = false := by simpa using ho
    rw [ho2] at c1
    clear ho2
    by_cases hneg : n < 0
    · have hm : max n (-1) = -1 := by omega
      rw [hm]
      have HE := Lib.hid (rcodes (c := 0) (h.setPlan2 n (-1) (by omega)) (((Out.refl F w).setCell (p := ⟨p, 2, none⟩) (.inl h.fp) (.int .i64 n)).setCell (p := ⟨p, 2, none⟩) (.inl h.fp) (.int .i64 (-1))))
      clear h ho hm
      go_enter Try.func58, Try.ntmps58
      go_wp2
      go_ret
      exact HE.out
    · have hm : max n (-1) = n := by omega
      rw [hm]
      have hneg2 : decide (n < 0) = false := by simp; omega
      have HE := Lib.hid (rcodes (c := 0) ((h.setPlan n (by omega))) ((Out.refl F w).setCell (p := ⟨p, 2, none⟩) (.inl h.fp) (.int .i64 n)))
      clear h ho hm
      go_enter Try.func58, Try.ntmps58
      go_wp2
      go_ret
      exact HE.out

set_option maxHeartbeats 2000000 in
theorem rsync (h : RD F w p S) (hm : S.pend.length ≤ 4398046511104) :
    Calls Try.prog 27 #[.pointer (some ⟨p, 0, none⟩)] w (RCodes F w p (syncS S) (syncE S)) := by
  obtain ⟨vs, gd, cd, gt, ct, vw, h⟩ := h
  have c0 := h.cell 0
  have c1 := h.cell 1
  have sp := h.spend_
  unfold syncS syncE
  by_cases ho : S.off = true
  · rw [if_pos ho, if_pos ho]
    rw [ho] at c1
    have HE := Lib.hid (rcodes (c := 22) h (Out.refl F w))
    clear h ho sp
    go_enter Try.func27, Try.ntmps27
    go_wp2
    go_ret
    exact HE.out
  · rw [if_neg ho, if_neg ho]
    have ho2 : S.off = false := by simpa using ho
    rw [ho2] at c1
    clear ho2
    by_cases h0 : S.plan = 0
    · have e0 : spendE S = 22 := by unfold spendE; rw [if_pos h0]
      have e1 : rpow S = false := by unfold rpow; simp [h0]
      rw [if_pos h0, e0]
      rw [e1] at sp
      clear h ho h0 e0 e1
      go_enter Try.func27, Try.ntmps27
      go_wp2_with (go_at_call 69; refine sp.mono ?_; rintro e w1 ⟨rfl, h1, o1⟩; have HE := Lib.hid (rcodes (c := 22) h1 o1); clear h1 o1)
      go_ret
      exact HE.out
    · have e0 : spendE S = 0 := by unfold spendE; rw [if_neg h0]
      have e1 : rpow S = true := by unfold rpow; simp [h0]
      rw [if_neg h0, e0]
      rw [e1] at sp
      obtain ⟨T, hT⟩ : ∃ T, T = spendS S := ⟨_, rfl⟩
      rw [← hT] at sp ⊢
      have hl : S.last = T.last := by rw [hT, spendS_last]
      have hp : S.pend = T.pend := by rw [hT, spendS_pend]
      have hsy : S.syncs = T.syncs := by rw [hT]; unfold spendS; split <;> (try split) <;> rfl
      rw [hl, hp, hsy]
      rw [hp] at hm
      have HM := Lib.hid hm
      clear h ho h0 e0 e1 hT hl hp hsy
      go_enter Try.func27, Try.ntmps27
      go_upto_region 5 with (go_at_call 69; refine sp.mono ?_; rintro e w1 ⟨rfl, h1, o1⟩; have H1 := Lib.hid h1; have O1 := Lib.hid o1; clear h1 o1 sp)
      go_wp2
      have hm2 := HM.out
      clear hm
      go_loopw [3] (fun i wr => ∃ (k : Nat) (vs' : List Value), i = .int .i64 (k : Nat) ∧ k ≤ T.pend.length ∧ Rf (Gr F w) wr p { T with last := layAll T.last (T.pend.take k) (ones k) } vs' gd cd gt ct vw ∧ Out F w wr) (fun i _ => T.pend.length - (intOf i).toNat)
      case atStart => exact ⟨0, vs, rfl, Nat.zero_le _, H1.out.mono (fun _ _ hf => .inl hf), O1.out⟩
      case round =>
        obtain ⟨k, vs', rfl, hk, hR, hO⟩ := hrel
        have d5 := hR.cell 5
        by_cases hlt : k < T.pend.length
        · obtain ⟨x, hx⟩ : ∃ x, T.pend[k]? = some x := ⟨_, List.getElem?_eq_getElem hlt⟩
          obtain ⟨g, cap, rfl, hgl, hgF, -, -, -, hrow⟩ := hR.wait.row (by show T.pend ≠ []; intro e; rw [e] at hlt; simp at hlt)
          obtain ⟨b, cb, p1, p2, hcb, rb, lb, fb, m1, m2, m3⟩ := hrow k x hx
          have hxb := hR.wf.pb x (List.mem_of_getElem? hx)
          have hxp := hR.wf.pp x (List.mem_of_getElem? hx)
          have LY := Lib.hid (rlay hR x hxp hxb b cb rb m3)
          have HR := Lib.hid (show wr.rangeAt g (k * 2) [.int .i64 (x.p : Int), .slice (some ⟨b, 0, none⟩) 64 cb] from fun i v hv => by
            rcases i with _ | _ | i
            · simp at hv; subst hv; exact p1
            · simp at hv; subst hv; exact p2
            · simp at hv)
          have HI := Lib.hid (show (Try.prog.info? 114).map (·.size) = some [Value.int .i64 (x.p : Int), .slice (some ⟨b, 0, none⟩) 64 cb].length by rfl)
          have HL := Lib.hid (show settleL (layAll T.last (T.pend.take k) (ones k)) x 1 = layAll T.last (T.pend.take (k + 1)) (ones (k + 1)) by
            rw [List.take_add_one, hx, ones_succ]
            exact (layAll_snoc _ _ _ _ _ (by simp [ones]; omega)).symm)
          have HO := Lib.hid hO
          have HSZ := Lib.hid hO.size
          have hki : (k : Int) < (T.pend.length : Int) := by omega
          clear hR hO hx hrow p1 p2 rb
          go_wp2_with (first
            | (with_reducible refine wpList_load_mid rfl 114 (.tmp 35) rfl g (k * 2) rfl [.int .i64 (x.p : Int), .slice (some ⟨b, 0, none⟩) 64 cb] _ HR.out Try.underlying114 rfl HI.out ?_)
            | (go_at_call 71; refine LY.out.mono ?_; rintro e w3 ⟨rfl, ⟨vs3, h3⟩, o3⟩; have H3 := Lib.hid h3; have O3 := Lib.hid o3; clear h3 o3))
          go_roundw
          case rel =>
            have h3 := H3.out
            refine ⟨k + 1, vs3, by go_num, hlt, ?_, out_gr HO.out O3.out⟩
            rw [← HL.out]
            exact h3.mono (fun _ _ hf => gr_gr HSZ.out hf)
          case measure => simp [intOf]; omega
        · obtain rfl : k = T.pend.length := by omega
          rw [List.take_length] at hR
          obtain ⟨A, cap, rfl⟩ := hR.wait.form
          have d7 := hR.cell 7
          have f5 := hR.frozen 5
          have f7 := hR.frozen 7
          have HZ := Lib.hid (hR.setNone.setSyncs (wrap64 (T.syncs + 1)))
          have HO := Lib.hid ((hO.setCell (p := ⟨p, 5, none⟩) (by rcases hR.fp with h1 | h1; exact .inl h1; exact .inr h1) (.slice none 0 0)).setCell (p := ⟨p, 7, none⟩) (by rcases hR.fp with h1 | h1; exact .inl h1; exact .inr h1) (.int .i64 (wrap64 (T.syncs + 1))))
          clear hR hO
          go_wp2
          go_ret
          exact ⟨rfl, ⟨_, _, _, _, _, _, HZ.out⟩, HO.out⟩
end
end Go.Proofs.Ytapjgancaldgaaa
