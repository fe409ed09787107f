/- TreeRanks: At, Rank and Next are of one mind. -/
import Derived.Test.YteniblkfiaohmaaFilled
import Derived.Test.YteniblkfiaohmaaLive
namespace Go.Proofs.Yteniblkfiaohmaa
set_option maxRecDepth 100000
open Go.RowKit

theorem atV_some {ps : List Pr} {i : Nat} {k : ByteArray} {z : Int} (h : ps[i]? = some (k, z)) : atV ps (i : Int) = .tuple #[.string k, .int .i64 z, .bool true] := by
  unfold atV
  rw [if_pos (by omega)]
  simp [h]
theorem atV_none {ps : List Pr} {i : Nat} (h : ps[i]? = none) : atV ps (i : Int) = .tuple #[.string ⟨#[]⟩, .int .i64 0, .bool false] := by
  unfold atV
  rw [if_pos (by omega)]
  simp [h]
theorem rk_of_at {ps : List Pr} (hr : Rises (keys ps)) {i : Nat} {k : ByteArray} {z : Int} (h : ps[i]? = some (k, z)) : rk (keys ps) k = i ∧ getP ps k = (z, true) := by
  have hi := (List.getElem?_eq_some_iff.1 h).1
  have hk : (keys ps)[i]? = some k := by rw [keys_get, h]; rfl
  have h1 : rk (keys ps) k = i := rk_eq _ _ _ (by rw [keys_len]; omega) (fun j a hj ha => hr.at_ hj ha hk) (fun a ha => by rw [hk] at ha; cases ha; exact kl_irrefl _)
  refine ⟨h1, ?_⟩
  unfold getP
  rw [h1, h]
  simp
theorem TreeAt.rises {w : World} {T ord : Nat} {ps : List Pr} (h : TreeAt w T ord ps) : Rises (keys ps) := by
  obtain ⟨v, d, m, -, -, hr, -⟩ := h
  exact hr

set_option maxHeartbeats 4000000 in
theorem wnextT {w : World} {T ord : Nat} {ps : List Pr} (h : TreeAt w T ord ps) (hp : ps.length ≤ 1000000000000000) (k : ByteArray) (b : Bool) :
    Calls Try.prog 22 #[.pointer (some ⟨T, 0, none⟩), .string k, .bool b] w fun e w' => e = .returned (atV ps ((rk (keys ps) k + if b && has (keys ps) k then 1 else 0 : Nat) : Int)) ∧ ∃ j, w' = w.drewN j := by
  have hrl := rk_le (keys ps) k
  rw [keys_len] at hrl
  have CR := Lib.hid (wrankT h (by omega) k)
  have CG := Lib.hid fun n => wgetT (h.below ((Gw.refl w).drewN n)) k
  obtain ⟨q, hq⟩ : ∃ q, rk (keys ps) k = q := ⟨_, rfl⟩
  rw [hq] at CR hrl ⊢
  have hg := getP_has ps k
  obtain ⟨zz, hzz⟩ : ∃ zz, (getP ps k).1 = zz := ⟨_, rfl⟩
  rw [hg, hzz] at CG
  have CA := Lib.hid fun n (i : Int) => watT (h.below ((Gw.refl w).drewN n)) (by omega) i
  have hqi : (q : Int) ≤ 1000000000000000 := by omega
  clear h hg hzz hq
  have aux : ∀ (r : Nat) (v : Value), atV ps (r : Int) = v → (∃ a b c, v = .tuple #[.string a, .int .i64 b, .bool c]) := fun r v hv => by
    rw [← hv]
    cases hh : ps[r]? with
    | none => exact ⟨_, _, _, atV_none hh⟩
    | some p => exact ⟨_, _, _, atV_some (k := p.1) (z := p.2) hh⟩
  cases hb : has (keys ps) k
  · rw [hb] at CG
    simp only [Bool.and_false, Bool.false_eq_true, if_false, Nat.add_zero]
    obtain ⟨v, hv⟩ : ∃ v, atV ps (q : Int) = v := ⟨_, rfl⟩
    obtain ⟨x, y, t, rfl⟩ := aux q v hv
    rw [hv]
    have CA2 := Lib.hid fun n => CA.out n (q : Int)
    rw [hv] at CA2
    clear CA hv aux hb
    cases b <;>
    · go_enter Try.func22, Try.ntmps22
      go_wp2_with (first | (go_at_call 21; refine CR.out.mono ?_; rintro e w1 ⟨rfl, j1, rfl⟩) | (go_at_call 20; refine (CG.out _).mono ?_; rintro e w1 ⟨rfl, j2, rfl⟩) | (go_at_call 19; (try simp only [World.drewN_drewN]); go_loud (refine (CA2.out _).mono ?_; rintro e w1 ⟨rfl, j3, rfl⟩)))
      go_ret3
      exact ⟨rfl, ⟨_, by first | rfl | (simp only [World.drewN_drewN]; first | done | rfl)⟩⟩
  · rw [hb] at CG
    cases b
    · simp only [Bool.false_and, Bool.false_eq_true, if_false, Nat.add_zero]
      obtain ⟨v, hv⟩ : ∃ v, atV ps (q : Int) = v := ⟨_, rfl⟩
      obtain ⟨x, y, t, rfl⟩ := aux q v hv
      rw [hv]
      have CA2 := Lib.hid fun n => CA.out n (q : Int)
      rw [hv] at CA2
      clear CA hv aux hb
      go_enter Try.func22, Try.ntmps22
      go_wp2_with (first | (go_at_call 21; refine CR.out.mono ?_; rintro e w1 ⟨rfl, j1, rfl⟩) | (go_at_call 20; refine (CG.out _).mono ?_; rintro e w1 ⟨rfl, j2, rfl⟩) | (go_at_call 19; (try simp only [World.drewN_drewN]); go_loud (refine (CA2.out _).mono ?_; rintro e w1 ⟨rfl, j3, rfl⟩)))
      go_ret3
      exact ⟨rfl, ⟨_, by first | rfl | (simp only [World.drewN_drewN]; first | done | rfl)⟩⟩
    · simp only [Bool.true_and, if_true]
      obtain ⟨v, hv⟩ : ∃ v, atV ps ((q + 1 : Nat) : Int) = v := ⟨_, rfl⟩
      obtain ⟨x, y, t, rfl⟩ := aux (q + 1) v hv
      rw [hv]
      have hcast : ((q + 1 : Nat) : Int) = (q : Int) + 1 := by omega
      rw [hcast] at hv
      have CA2 := Lib.hid fun n => CA.out n ((q : Int) + 1)
      rw [hv] at CA2
      clear CA hv aux hb hcast
      go_enter Try.func22, Try.ntmps22
      go_wp2_with (first | (go_at_call 21; refine CR.out.mono ?_; rintro e w1 ⟨rfl, j1, rfl⟩) | (go_at_call 20; refine (CG.out _).mono ?_; rintro e w1 ⟨rfl, j2, rfl⟩) | (go_at_call 19; (try simp only [World.drewN_drewN]); go_loud (refine (CA2.out _).mono ?_; rintro e w1 ⟨rfl, j3, rfl⟩)))
      go_ret3
      exact ⟨rfl, ⟨_, by first | rfl | (simp only [World.drewN_drewN]; first | done | rfl)⟩⟩

theorem field_one (W : World) (p : Option Addr) (B : Option Addr) (m d : Nat) : (Instr.field 27 (.agg #[.pointer p, .slice B m d]) 0).run Try.prog W = .ok (.pointer p) W := by kernel_rfl

set_option maxHeartbeats 8000000 in
theorem walk_TreeRanks (a : Int) (A : Option Addr) (n c : Nat) (ks : List ByteArray) (k : ByteArray) (w : World) (ha : -9223372036854775808 ≤ a ∧ a ≤ 9223372036854775807) (h : SA w A n ks) (hnc : n ≤ c) (hc : c ≤ 1048576) (_hk : k.size ≤ 1048576) :
    Calls Try.prog 6 #[.int .i64 a, .slice A n c, .string k] w fun e w' => e = .returned (.bool true) ∧ Below w.heap.size w w' := by
  have hn : n ≤ 1048576 := Nat.le_trans hnc hc
  clear hnc hc _hk
  have LV := Lib.hid wlive
  by_cases h3 : a < 3
  · clear h hn
    go_enter Try.func6, Try.ntmps6
    go_wp2_with (go_at_call 12; refine (LV.out _).mono ?_; rintro e w1 ⟨rfl, b1⟩; have B1 := Lib.hid b1; clear b1)
    go_ret
    exact ⟨rfl, B1.out⟩
  by_cases h64 : 64 < a
  · clear h hn
    have h3' : (3 : Int) ≤ a := by omega
    go_enter Try.func6, Try.ntmps6
    go_wp2_with (go_at_call 12; refine (LV.out _).mono ?_; rintro e w1 ⟨rfl, b1⟩; have B1 := Lib.hid b1; clear b1)
    go_ret
    exact ⟨rfl, B1.out⟩
  obtain ⟨ord, rfl⟩ : ∃ ord : Nat, a = (ord : Int) := ⟨a.toNat, by omega⟩
  have CF := Lib.hid (wfilled (c := c) h hn ord (by omega) (by omega))
  have hlen := fillN_len ks n
  obtain ⟨ps, hps⟩ : ∃ ps, fillN ks n = ps := ⟨_, rfl⟩
  rw [hps] at CF hlen
  have hpl : ps.length ≤ 1048576 := by omega
  have HPL := Lib.hid hpl
  have h3' : (3 : Int) ≤ (ord : Int) := by omega
  have h64' : (ord : Int) ≤ 64 := by omega
  have qf := field_one
  clear h hn hps hlen ha
  go_enter Try.func6, Try.ntmps6
  go_upto_region 7 with (first
    | (go_at_call 15; go_loud (refine CF.out.mono ?_; rintro e w1 ⟨T, B, m, d, rfl, t1, -, -, b1, -⟩; have T1 := Lib.hid t1; have B1 := Lib.hid b1; clear t1 b1 CF))
    | (go_at_call 12; go_loud (refine (LV.out _).mono ?_; rintro e w2 ⟨rfl, g2⟩; have T2 := Lib.hid (T1.out.below g2); have B2 := Lib.hid (below_next B1.out (Below.mono g2 (Nat.le_refl _))); clear g2))
    | (go_at_call 18; go_loud (refine (wlen T2.out).mono ?_; rintro e w3 ⟨rfl, hw⟩; replace hw := hw.symm; subst hw)))
  have hj0 : Hid (TreeAt w2 T ord ps ∧ Below w.heap.size w w2) := Lib.hid ⟨T2.out, B2.out⟩
  clear T1 B1 T2 B2 qf
  go_loopw [39] (fun i' wr => ∃ j : Nat, i' = .int .i64 (j : Nat) ∧ j ≤ ps.length ∧ TreeAt wr T ord ps ∧ Below w.heap.size w wr) (fun i' _ => ps.length - (intOf i').toNat)
  case atStart => exact ⟨0, rfl, Nat.zero_le _, hj0.out.1, hj0.out.2⟩
  case round =>
    rename World => wr
    obtain ⟨j, rfl, hj, hT, hB⟩ := hrel
    have HT := Lib.hid hT
    have HB := Lib.hid hB
    have hTn := fun n => hT.below ((Gw.refl wr).drewN n)
    have hpl := HPL.out
    by_cases hlt : j < ps.length
    · obtain ⟨p, hp⟩ : ∃ p, ps[j]? = some p := ⟨_, List.getElem?_eq_getElem hlt⟩
      obtain ⟨kk, z⟩ := p
      obtain ⟨e1, e2⟩ := rk_of_at hT.rises hp
      have CA := Lib.hid (watT hT (by omega) (j : Int))
      rw [atV_some hp] at CA
      have CG := Lib.hid fun n => wgetT (hTn n) kk
      rw [e2] at CG
      have CK := Lib.hid fun n => wrankT (hTn n) (by omega) kk
      rw [e1] at CK
      have i1 : (j : Int) < (ps.length : Int) := by omega
      have HLT := Lib.hid hlt
      have hjb : (j : Int) ≤ 1048576 := by omega
      clear hp e1 e2 hTn hT hB hlt hj
      go_wp2_with (first
        | (go_at_call 19; go_loud (refine CA.out.mono ?_; rintro e w1 ⟨rfl, j1, rfl⟩))
        | (go_at_call 20; (try simp only [World.drewN_drewN]); go_loud (refine (CG.out _).mono ?_; rintro e w1 ⟨rfl, j2, rfl⟩))
        | (go_at_call 21; (try simp only [World.drewN_drewN]); go_loud (refine (CK.out _).mono ?_; rintro e w1 ⟨rfl, j3, rfl⟩)))
      go_roundw
      case rel => exact ⟨j + 1, by go_num, HLT.out, HT.out.below (by (repeat' (first | with_reducible exact Gw.refl _ | with_reducible refine Gw.drewN ?_ _ | with_reducible refine Gw.drew ?_))), HB.out.trans (Below.mono (show Gw wr _ from by (repeat' (first | with_reducible exact Gw.refl _ | with_reducible refine Gw.drewN ?_ _ | with_reducible refine Gw.drew ?_))) HB.out.size)⟩
      case measure => have := HLT.out; simp [intOf]; omega
    · obtain rfl : j = ps.length := by omega
      obtain ⟨q, hq⟩ : ∃ q, rk (keys ps) k = q := ⟨_, rfl⟩
      have hrl := rk_le (keys ps) k
      rw [keys_len, hq] at hrl
      have CK := Lib.hid fun n => wrankT (hTn n) (by omega) k
      rw [hq] at CK
      have CX := Lib.hid (wnextT hT (by omega) k false)
      rw [hq] at CX
      simp only [Bool.false_and, Bool.false_eq_true, if_false, Nat.add_zero] at CX
      have CA := Lib.hid fun n => watT (hTn n) (by omega) (q : Int)
      have hqb : (q : Int) ≤ 1048576 := by omega
      obtain ⟨v, hv⟩ : ∃ v, atV ps (q : Int) = v := ⟨_, rfl⟩
      obtain ⟨x, y, t, rfl⟩ : ∃ a b c, v = .tuple #[.string a, .int .i64 b, .bool c] := by
        rw [← hv]
        cases hh : ps[q]? with
        | none => exact ⟨_, _, _, atV_none hh⟩
        | some p => exact ⟨_, _, _, atV_some (k := p.1) (z := p.2) hh⟩
      rw [hv] at CX CA
      have i1 : ¬ (ps.length : Int) < (ps.length : Int) := by omega
      clear hv hTn hT hB hlt hj hq hrl
      cases t <;>
      · go_wp2_with (first
          | (go_at_call 22; go_loud (refine CX.out.mono ?_; rintro e w1 ⟨rfl, j1, rfl⟩))
          | (go_at_call 21; (try simp only [World.drewN_drewN]); go_loud (refine (CK.out _).mono ?_; rintro e w1 ⟨rfl, j2, rfl⟩))
          | (go_at_call 19; (try simp only [World.drewN_drewN]); go_loud (refine (CA.out _).mono ?_; rintro e w1 ⟨rfl, j3, rfl⟩)))
        go_ret
        exact ⟨rfl, HB.out.trans (Below.mono (show Gw wr _ from by (repeat' (first | with_reducible exact Gw.refl _ | with_reducible refine Gw.drewN ?_ _ | with_reducible refine Gw.drew ?_))) HB.out.size)⟩
end Go.Proofs.Yteniblkfiaohmaa
