/- At, Rank and Next of a tree: what they say of each other. -/
import Derived.Test.YtlhpoliiojekeaaFilled
import Derived.Test.YtlhpoliiojekeaaLive
namespace Go.Proofs.Ytlhpoliiojekeaa
set_option maxRecDepth 100000
open Go.RowKit

theorem atV_some {ps : List Pr} {i : Nat} {k : ByteArray} {z : Int} (h : ps[i]? = some (k, z)) : atV ps (i : Int) = .tuple #[.string k, .int .i64 z, .bool true] := by
  unfold atV
  rw [if_pos (by omega)]
  simp [h]
theorem atV_none {ps : List Pr} {i : Nat} (h : ps[i]? = none) : atV ps (i : Int) = .tuple #[.string ⟨#[]⟩, .int .i64 0, .bool false] := by
  unfold atV
  rw [if_pos (by omega)]
  simp [h]
theorem rk_of_at {ps : List Pr} (hr : Rises (keys ps)) {i : Nat} {k : ByteArray} {z : Int} (h : ps[i]? = some (k, z)) : rk (keys ps) k = i ∧ getP ps k = (z, true) := by
  have hi := (List.getElem?_eq_some_iff.1 h).1
  have hk : (keys ps)[i]? = some k := by rw [keys_get, h]; rfl
  have h1 : rk (keys ps) k = i := rk_eq _ _ _ (by rw [keys_len]; omega) (fun j a hj ha => hr.at_ hj ha hk) (fun a ha => by rw [hk] at ha; cases ha; exact kl_irrefl _)
  refine ⟨h1, ?_⟩
  unfold getP
  rw [h1, h]
  simp
theorem TreeAt.rises {w : World} {T ord : Nat} {ps : List Pr} (h : TreeAt w T ord ps) : Rises (keys ps) := by
  obtain ⟨v, d, m, -, -, hr, -⟩ := h
  exact hr

set_option maxHeartbeats 4000000 in
theorem wnextT {w : World} {T ord : Nat} {ps : List Pr} (h : TreeAt w T ord ps) (hp : ps.length ≤ 1000000000000000) (k : ByteArray) (b : Bool) :
    Calls Try.prog 29 #[.pointer (some ⟨T, 0, none⟩), .string k, .bool b] w fun e w' => e = .returned (atV ps ((rk (keys ps) k + if b && has (keys ps) k then 1 else 0 : Nat) : Int)) ∧ ∃ j, w' = w.drewN j := by
  have hrl := rk_le (keys ps) k
  rw [keys_len] at hrl
  have CR := Lib.hid (wrankT h (by omega) k)
  have CG := Lib.hid fun n => wgetT (h.below ((Gw.refl w).drewN n)) k
  obtain ⟨q, hq⟩ : ∃ q, rk (keys ps) k = q := ⟨_, rfl⟩
  rw [hq] at CR hrl ⊢
  have hg := getP_has ps k
  obtain ⟨zz, hzz⟩ : ∃ zz, (getP ps k).1 = zz := ⟨_, rfl⟩
  rw [hg, hzz] at CG
  have CA := Lib.hid fun n (i : Int) => watT (h.below ((Gw.refl w).drewN n)) (by omega) i
  have hqi : (q : Int) ≤ 1000000000000000 := by omega
  clear h hg hzz hq
  have aux : ∀ (r : Nat) (v : Value), atV ps (r : Int) = v → (∃ a b c, v = .tuple #[.string a, .int .i64 b, .bool c]) := fun r v hv => by
    rw [← hv]
    cases hh : ps[r]? with
    | none => exact ⟨_, _, _, atV_none hh⟩
    | some p => exact ⟨_, _, _, atV_some (k := p.1) (z := p.2) hh⟩
  cases hb : has (keys ps) k
  · rw [hb] at CG
    simp only [Bool.and_false, Bool.false_eq_true, if_false, Nat.add_zero]
    obtain ⟨v, hv⟩ : ∃ v, atV ps (q : Int) = v := ⟨_, rfl⟩
    obtain ⟨x, y, t, rfl⟩ := aux q v hv
    rw [hv]
    have CA2 := Lib.hid fun n => CA.out n (q : Int)
    rw [hv] at CA2
    clear CA hv aux hb
    cases b <;>
    · go_enter Try.func29, Try.ntmps29
      go_wp2_with (first | (go_at_call 32; refine CR.out.mono ?_; rintro e w1 ⟨rfl, j1, rfl⟩) | (go_at_call 28; refine (CG.out _).mono ?_; rintro e w1 ⟨rfl, j2, rfl⟩) | (go_at_call 20; (try simp only [World.drewN_drewN]); go_loud (refine (CA2.out _).mono ?_; rintro e w1 ⟨rfl, j3, rfl⟩)))
      go_ret3
      exact ⟨rfl, ⟨_, by first | rfl | (simp only [World.drewN_drewN]; first | done | rfl)⟩⟩
  · rw [hb] at CG
    cases b
    · simp only [Bool.false_and, Bool.false_eq_true, if_false, Nat.add_zero]
      obtain ⟨v, hv⟩ : ∃ v, atV ps (q : Int) = v := ⟨_, rfl⟩
      obtain ⟨x, y, t, rfl⟩ := aux q v hv
      rw [hv]
      have CA2 := Lib.hid fun n => CA.out n (q : Int)
      rw [hv] at CA2
      clear CA hv aux hb
      go_enter Try.func29, Try.ntmps29
      go_wp2_with (first | (go_at_call 32; refine CR.out.mono ?_; rintro e w1 ⟨rfl, j1, rfl⟩) | (go_at_call 28; refine (CG.out _).mono ?_; rintro e w1 ⟨rfl, j2, rfl⟩) | (go_at_call 20; (try simp only [World.drewN_drewN]); go_loud (refine (CA2.out _).mono ?_; rintro e w1 ⟨rfl, j3, rfl⟩)))
      go_ret3
      exact ⟨rfl, ⟨_, by first | rfl | (simp only [World.drewN_drewN]; first | done | rfl)⟩⟩
    · simp only [Bool.true_and, if_true]
      obtain ⟨v, hv⟩ : ∃ v, atV ps ((q + 1 : Nat) : Int) = v := ⟨_, rfl⟩
      obtain ⟨x, y, t, rfl⟩ := aux (q + 1) v hv
      rw [hv]
      have hcast : ((q + 1 : Nat) : Int) = (q : Int) + 1 := by omega
      rw [hcast] at hv
      have CA2 := Lib.hid fun n => CA.out n ((q : Int) + 1)
      rw [hv] at CA2
      clear CA hv aux hb hcast
      go_enter Try.func29, Try.ntmps29
      go_wp2_with (first | (go_at_call 32; refine CR.out.mono ?_; rintro e w1 ⟨rfl, j1, rfl⟩) | (go_at_call 28; refine (CG.out _).mono ?_; rintro e w1 ⟨rfl, j2, rfl⟩) | (go_at_call 20; (try simp only [World.drewN_drewN]); go_loud (refine (CA2.out _).mono ?_; rintro e w1 ⟨rfl, j3, rfl⟩)))
      go_ret3
      exact ⟨rfl, ⟨_, by first | rfl | (simp only [World.drewN_drewN]; first | done | rfl)⟩⟩

theorem field_one (W : World) (p : Option Addr) (B : Option Addr) (m d : Nat) : (Instr.field 27 (.agg #[.pointer p, .slice B m d]) 0).run Try.prog W = .ok (.pointer p) W := by kernel_rfl

end Go.Proofs.Ytlhpoliiojekeaa
