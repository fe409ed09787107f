/- Write of any capacity; spoil of any capacity. -/
import Derived.Test.YtfeoihnjfngmpaaDHas
namespace Go.Proofs.Ytfeoihnjfngmpaa
open Go.RowKit

set_option maxRecDepth 10000 in
set_option maxHeartbeats 1000000 in
theorem dwriteW {F : Nat → Prop} {w : World} {d : Nat} {S : St} (h : PD F w d S) (n : Int) (A : Option Addr) (m c : Nat) (zs : List Int) (hz : RB w A m zs) (hA : Far F A m) (hc : m ≤ c) (hm : S.pend.length < 2199023255552) :
    Calls Try.prog 13 #[.pointer (some ⟨d, 0, none⟩), .int .i64 n, .slice A m c] w (Codes F w d (writeS S n zs) (writeE S n zs.length)) := by
  obtain ⟨nw, vl, vp, vn, h, hn⟩ := h
  have r := drefuses h n
  have sp := dspend h
  have hlen := hz.len
  unfold writeS writeE
  cases ho : S.off with
  | true =>
    rw [ho] at r
    simp only [if_true] at r ⊢
    have HE := Lib.hid (codes (c := 22) h hn (Out.refl F w))
    clear h hn sp hz hlen
    go_enter Try.func13, Try.ntmps13
    go_wp2_with (go_at_call 40; refine r.mono ?_; rintro e w' ⟨rfl, rfl⟩)
    go_ret
    exact HE.out
  | false =>
    rw [ho] at r
    simp only [Bool.false_eq_true, if_false] at r ⊢
    by_cases hp : 0 ≤ n ∧ n < (S.last.length : Int)
    · rw [if_pos hp] at r
      rw [if_neg (not_not_intro hp), if_neg (not_not_intro hp)]
      by_cases h64 : m = 64
      · rw [if_neg (show ¬ (zs.length ≠ 64) by omega), if_neg (show ¬ (zs.length ≠ 64) by omega)]
        by_cases hpl : S.plan = 0
        · have he : spendE S = 22 := by unfold spendE; rw [if_pos hpl]
          rw [he] at sp ⊢
          rw [if_pos hpl]
          have HN := Lib.hid (nwok_same (S' := spendS S) hn (by rw [spendS_last]) (spendS_pend S))
          subst h64
          clear h hn hpl he hp hz hlen
          go_enter Try.func13, Try.ntmps13
          go_wp2_with (first
            | (go_at_call 40; refine r.mono ?_; rintro e w' ⟨rfl, rfl⟩)
            | (go_at_call 41; refine sp.mono ?_; rintro e w1 ⟨rfl, h1, o1⟩; have H1 := Lib.hid h1; have O1 := Lib.hid o1; clear h1 o1))
          go_ret
          exact codes H1.out HN.out O1.out
        · have he : spendE S = 0 := by unfold spendE; rw [if_neg hpl]
          rw [he] at sp ⊢
          rw [if_neg hpl]
          obtain ⟨k, rfl⟩ := Int.eq_ofNat_of_zero_le hp.1
          have hk : k < S.last.length := by omega
          obtain ⟨gn, cn, rfl, hgn, -⟩ := h.nform
          subst h64
          obtain ⟨ad, rfl, -⟩ := hz.cell (by omega)
          have hsp := (rb_spot hz (by omega)).1
          have hF := hA ad rfl (by omega)
          obtain ⟨b, o, s⟩ := ad
          simp only at hsp hF
          subst hsp
          have hT : (spendS S).last = S.last := spendS_last S
          have hTp : (spendS S).pend = S.pend := spendS_pend S
          have hTw : (spendS S).writes = S.writes := by unfold spendS; split <;> (try split) <;> rfl
          have hnl := h.nwl
          refine (dwrite64 (T := spendS S) (nw := nw) (vl := vl) (vp := vp) (gn := gn) (cn := cn) (by rw [hT]; exact h) h.fd hgn k (by rw [hT]; exact hk) b o c zs hz hF hc (by rw [hTp]; exact hm) r (by rw [hT]; exact sp)).mono ?_
          rintro e w' ⟨rfl, ⟨nw', vl', vp', vn', h9, hnw⟩, o9⟩
          refine ⟨rfl, ⟨nw', vl', vp', vn', ?_, ?_⟩, o9⟩
          · rw [← hTp, ← hTw]; exact h9
          · rw [hnw, hTp]
            exact nwok_write hn hnl (by simp [hT]) k zs rfl hk
      · rw [if_pos (show zs.length ≠ 64 by omega), if_pos (show zs.length ≠ 64 by omega)]
        have HE := Lib.hid (codes (c := 21) h hn (Out.refl F w))
        have h65 : ((m : Int) != 64) = true := by simp; omega
        clear h hn sp hz hlen
        go_enter Try.func13, Try.ntmps13
        go_wp2_with (go_at_call 40; refine r.mono ?_; rintro e w' ⟨rfl, rfl⟩)
        go_ret
        exact HE.out
    · rw [if_neg hp] at r
      rw [if_pos hp, if_pos hp]
      have HE := Lib.hid (codes (c := 20) h hn (Out.refl F w))
      clear h hn sp hz hlen hp
      go_enter Try.func13, Try.ntmps13
      go_wp2_with (go_at_call 40; refine r.mono ?_; rintro e w' ⟨rfl, rfl⟩)
      go_ret
      exact HE.out

set_option maxHeartbeats 1000000 in
theorem lspoilW (g n c : Nat) (w : World) (h : U8Blk w g c) (hn : n ≤ c) (hc : c ≤ 9223372036854775807) :
    Calls Try.prog 34 #[.slice (some ⟨g, 0, none⟩) n c] w fun e w' => e = .returned (.tuple #[]) ∧ Out (fun k => k = g) w w' := by
  obtain ⟨C0, t, hC, hu⟩ := h
  go_enter Try.func34, Try.ntmps34
  go_wp2
  go_loopw [2, 9] (fun _ i wr => ∃ (k : Nat) (C : Array Value), i = .int .i64 (k : Nat) ∧ k ≤ c ∧ wr.heap[g]? = some (.cells C t (0, 0)) ∧ (∀ j, j < c → ∃ z, C[j]? = some (.int .u8 z)) ∧ Out (fun k => k = g) w wr) (fun _ i _ => c - (intOf i).toNat)
  case atStart => exact ⟨0, C0, rfl, Nat.zero_le _, hC, hu, Out.refl _ _⟩
  case round =>
    obtain ⟨k, C, rfl, hk, hC, hu, ho⟩ := hrel
    by_cases hlt : k < c
    · obtain ⟨z, hz⟩ := hu k hlt
      have hcell : wr.cell? ⟨g, k, none⟩ = some (.int .u8 z) := (cell_of_row _ _ _ _ _ _ hC).trans hz
      have hf := frozen_of_row wr g k C t hC
      have hki : (k : Int) < (c : Int) := by omega
      have HC := Lib.hid hC
      have HU := Lib.hid hu
      have HO := Lib.hid ho
      clear hC hu ho hz
      go_wp2
      go_roundw
      case rel =>
        refine ⟨k + 1, C.setIfInBounds k _, by go_num, hlt, heap_setCell_same _ g k C t _ HC.out, fun j hj => ?_, HO.out.setCell (.inl rfl) _⟩
        by_cases e : k = j
        · subst e
          obtain ⟨z', hz'⟩ := HU.out k hj
          have : k < C.size := (Array.getElem?_eq_some_iff.1 hz').1
          exact ⟨_, by rw [Array.getElem?_setIfInBounds_self_of_lt this]⟩
        · obtain ⟨z', hz'⟩ := HU.out j hj
          exact ⟨z', by rw [Array.getElem?_setIfInBounds_ne e]; exact hz'⟩
      case measure => simp [intOf]; omega
    · obtain rfl : k = c := by omega
      go_wp2
      go_end0
      exact ⟨rfl, ho⟩
end Go.Proofs.Ytfeoihnjfngmpaa
