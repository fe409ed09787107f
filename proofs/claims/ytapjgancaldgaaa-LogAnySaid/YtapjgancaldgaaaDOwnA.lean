/- Write of any capacity; spoil of any capacity. -/
import Derived.Test.YtapjgancaldgaaaDHas
namespace Go.Proofs.Ytapjgancaldgaaa
set_option maxRecDepth 100000
open Go.RowKit

set_option maxHeartbeats 1000000 in
theorem dwriteW {F : Nat → Prop} {w : World} {d : Nat} {S : St} (h : PD F w d S) (n : Int) (A : Option Addr) (m c : Nat) (zs : List Int) (hz : RB w A m zs) (hA : Far F A m) (hc : m ≤ c) (hm : S.pend.length < 2199023255552) :
    Calls Try.prog 17 #[.pointer (some ⟨d, 0, none⟩), .int .i64 n, .slice A m c] w (Codes F w d (writeS S n zs) (writeE S n zs.length)) := by
  obtain ⟨nw, vl, vp, vn, h, hn⟩ := h
  have r := drefuses h n
  have sp := dspend h
  have hlen := hz.len
  unfold writeS writeE
  cases ho : S.off with
  | true =>
    rw [ho] at r
    simp only [if_true] at r ⊢
    have HE := Lib.hid (codes (c := 22) h hn (Out.refl F w))
    clear h hn sp hz hlen
    go_enter Try.func17, Try.ntmps17
    go_wp2_with (go_at_call 53; refine r.mono ?_; rintro e w' ⟨rfl, rfl⟩)
    go_ret
    exact HE.out
  | false =>
    rw [ho] at r
    simp only [Bool.false_eq_true, if_false] at r ⊢
    by_cases hp : 0 ≤ n ∧ n < (S.last.length : Int)
    · rw [if_pos hp] at r
      rw [if_neg (not_not_intro hp), if_neg (not_not_intro hp)]
      by_cases h64 : m = 64
      · rw [if_neg (show ¬ (zs.length ≠ 64) by omega), if_neg (show ¬ (zs.length ≠ 64) by omega)]
        by_cases hpl : S.plan = 0
        · have he : spendE S = 22 := by unfold spendE; rw [if_pos hpl]
          rw [he] at sp ⊢
          rw [if_pos hpl]
          have HN := Lib.hid (nwok_same (S' := spendS S) hn (by rw [spendS_last]) (spendS_pend S))
          subst h64
          clear h hn hpl he hp hz hlen
          go_enter Try.func17, Try.ntmps17
          go_wp2_with (first
            | (go_at_call 53; refine r.mono ?_; rintro e w' ⟨rfl, rfl⟩)
            | (go_at_call 54; refine sp.mono ?_; rintro e w1 ⟨rfl, h1, o1⟩; have H1 := Lib.hid h1; have O1 := Lib.hid o1; clear h1 o1))
          go_ret
          exact codes H1.out HN.out O1.out
        · have he : spendE S = 0 := by unfold spendE; rw [if_neg hpl]
          rw [he] at sp ⊢
          rw [if_neg hpl]
          obtain ⟨k, rfl⟩ := Int.eq_ofNat_of_zero_le hp.1
          have hk : k < S.last.length := by omega
          obtain ⟨gn, cn, rfl, hgn, -⟩ := h.nform
          subst h64
          obtain ⟨ad, rfl, -⟩ := hz.cell (by omega)
          have hsp := (rb_spot hz (by omega)).1
          have hF := hA ad rfl (by omega)
          obtain ⟨b, o, s⟩ := ad
          simp only at hsp hF
          subst hsp
          have hT : (spendS S).last = S.last := spendS_last S
          have hTp : (spendS S).pend = S.pend := spendS_pend S
          have hTw : (spendS S).writes = S.writes := by unfold spendS; split <;> (try split) <;> rfl
          have hnl := h.nwl
          refine (dwrite64 (T := spendS S) (nw := nw) (vl := vl) (vp := vp) (gn := gn) (cn := cn) (by rw [hT]; exact h) h.fd hgn k (by rw [hT]; exact hk) b o c zs hz hF hc (by rw [hTp]; exact hm) r (by rw [hT]; exact sp)).mono ?_
          rintro e w' ⟨rfl, ⟨nw', vl', vp', vn', h9, hnw⟩, o9⟩
          refine ⟨rfl, ⟨nw', vl', vp', vn', ?_, ?_⟩, o9⟩
          · rw [← hTp, ← hTw]; exact h9
          · rw [hnw, hTp]
            exact nwok_write hn hnl (by simp [hT]) k zs rfl hk
      · rw [if_pos (show zs.length ≠ 64 by omega), if_pos (show zs.length ≠ 64 by omega)]
        have HE := Lib.hid (codes (c := 21) h hn (Out.refl F w))
        have h65 : ((m : Int) != 64) = true := by simp; omega
        clear h hn sp hz hlen
        go_enter Try.func17, Try.ntmps17
        go_wp2_with (go_at_call 53; refine r.mono ?_; rintro e w' ⟨rfl, rfl⟩)
        go_ret
        exact HE.out
    · rw [if_neg hp] at r
      rw [if_pos hp, if_pos hp]
      have HE := Lib.hid (codes (c := 20) h hn (Out.refl F w))
      clear h hn sp hz hlen hp
      go_enter Try.func17, Try.ntmps17
      go_wp2_with (go_at_call 53; refine r.mono ?_; rintro e w' ⟨rfl, rfl⟩)
      go_ret
      exact HE.out

end Go.Proofs.Ytapjgancaldgaaa
