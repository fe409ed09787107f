/- The reference's Get, At, Next, Delete; half, Flat. -/
import Derived.Test.YtlhpoliiojekeaaRefPut
import Derived.Test.YtlhpoliiojekeaaOps
namespace Go.Proofs.Ytlhpoliiojekeaa
set_option maxRecDepth 100000
open Go.RowKit

theorem spot_none {w : World} {ad : Addr} {v : Value} (hc : w.cell? ad = some v) : ad.spot = none := by
  unfold World.cell? at hc
  split at hc
  · split at hc
    · cases hc
    · rename_i hh; simpa using hh
  · cases hc
theorem spot_add {w : World} {ad : Addr} (h : ad.spot = none) : ∃ b o, ad = ⟨b, o, none⟩ := by
  obtain ⟨b, o, s⟩ := ad
  simp only at h
  subst h
  exact ⟨b, o, rfl⟩

theorem PB.num {w : World} {A : Option Addr} {n j : Nat} {ps : List Pr} {p : Pr} (h : PB w A n ps) (hj : ps[j]? = some p) : ∃ b o, A = some ⟨b, o, none⟩ ∧ w.cell? ⟨b, o + j * 2, none⟩ = some (.string p.1) ∧ w.cell? ⟨b, o + j * 2 + 1, none⟩ = some (.int .i64 p.2) := by
  have h1 := cellsP_at ps j p hj
  rw [Nat.mul_comm] at h1
  obtain ⟨ad, rfl, c0⟩ := h.2.at_ h1.1
  obtain ⟨ad', e, c1⟩ := h.2.at_ h1.2
  cases e
  have hs : ad.spot = none := by
    have hlt := (List.getElem?_eq_some_iff.1 hj).1
    obtain ⟨p0, hp0⟩ : ∃ p0, ps[0]? = some p0 := ⟨_, List.getElem?_eq_getElem (by omega)⟩
    obtain ⟨ad', e, c2⟩ := h.2.at_ (k := 0) (cellsP_at ps 0 p0 hp0).1
    cases e
    exact spot_none c2
  obtain ⟨b, o, rfl⟩ := spot_add (w := w) hs
  rw [Addr.add_mid] at c0 c1
  exact ⟨b, o, rfl, c0, by rw [Nat.add_assoc]; exact c1⟩
theorem whalf (w : World) (n : Nat) (hn : n ≤ 1000000) : Calls Try.prog 51 #[.int .i64 (n : Int)] w fun e w' => e = .returned (.int .i64 ((n + 1) / 2 : Nat)) ∧ w' = w := by
  have hd : ((n : Int) + 1).tdiv 2 = (((n + 1) / 2 : Nat) : Int) := by rw [Int.tdiv_eq_ediv_of_nonneg (by omega)]; omega
  have HD := Lib.hid hd
  clear hd
  go_enter Try.func51, Try.ntmps51
  go_wp2
  go_ret
  exact ⟨by rw [← HD.out]; first | done | rfl, rfl⟩

set_option maxHeartbeats 2000000 in
theorem wrefAt {w : World} {A : Option Addr} {n c : Nat} {ps : List Pr} (hr : PB w A n ps) (hn : n ≤ 10000000) (i : Int) :
    Calls Try.prog 34 #[.slice A n c, .int .i64 i] w fun e w' => e = .returned (atV ps i) ∧ ∃ j, w' = w.drewN j := by
  have hl := hr.1
  by_cases h0 : i < 0
  · have HV := Lib.hid (show atV ps i = .tuple #[.string ⟨#[]⟩, .int .i64 0, .bool false] by unfold atV; rw [if_neg (by omega)])
    clear hr hl
    go_enter Try.func34, Try.ntmps34
    go_wp2
    go_ret3
    exact ⟨by rw [HV.out]; first | done | rfl, ⟨0, rfl⟩⟩
  · obtain ⟨m, rfl⟩ : ∃ m : Nat, i = (m : Int) := ⟨i.toNat, by omega⟩
    by_cases hlt : m < n
    · obtain ⟨p, hp⟩ : ∃ p, ps[m]? = some p := ⟨_, List.getElem?_eq_getElem (by omega)⟩
      obtain ⟨bb, oo, rfl, c0, c1⟩ := hr.num hp
      have HV := Lib.hid (show atV ps (m : Int) = .tuple #[.string p.1, .int .i64 p.2, .bool true] by unfold atV; rw [if_pos (by omega)]; simp [hp])
      have i1 : ¬ (n : Int) ≤ (m : Int) := by omega
      have i2 : (m : Int) < (n : Int) := by omega
      clear hr hl hp
      go_enter Try.func34, Try.ntmps34
      go_wp2
      go_quiet (fail)
      go_wp2
      go_ret3
      exact ⟨by rw [HV.out]; first | done | rfl, ⟨_, rfl⟩⟩
    · have HV := Lib.hid (show atV ps (m : Int) = .tuple #[.string ⟨#[]⟩, .int .i64 0, .bool false] by unfold atV; rw [if_pos (by omega)]; simp [List.getElem?_eq_none (by omega : ps.length ≤ m)])
      have i1 : (n : Int) ≤ (m : Int) := by omega
      clear hr hl
      go_enter Try.func34, Try.ntmps34
      go_wp2
      go_ret3
      exact ⟨by rw [HV.out]; first | done | rfl, ⟨0, rfl⟩⟩

set_option maxHeartbeats 2000000 in
theorem wrefGet {w : World} {A : Option Addr} {n c : Nat} {ps : List Pr} (hr : PB w A n ps) (hn : n ≤ 10000000) (k : ByteArray) :
    Calls Try.prog 16 #[.slice A n c, .string k] w fun e w' => e = .returned (.tuple #[.int .i64 (getP ps k).1, .bool (getP ps k).2]) ∧ ∃ j, w' = w.drewN j := by
  have CH := Lib.hid (wrefHas (c := c) hr hn k)
  have CR := Lib.hid fun m => wrefRank (w := w.drewN m) (c := c) (hr.gw ((Gw.refl w).drewN m)) hn k
  have hl := hr.1
  cases hb : has (keys ps) k
  · rw [hb] at CH
    have HG := Lib.hid (getP_no hb)
    clear hr hl hb
    go_enter Try.func16, Try.ntmps16
    go_wp2_with (go_at_call 18; refine CH.out.mono ?_; rintro e w1 ⟨rfl, hw⟩; replace hw := hw.symm; subst hw)
    go_ret2
    exact ⟨by rw [HG.out]; first | done | rfl, ⟨0, rfl⟩⟩
  · rw [hb] at CH
    obtain ⟨z, hz, hg⟩ := getP_yes hb
    have HG := Lib.hid hg
    obtain ⟨q, hq⟩ : ∃ q, rk (keys ps) k = q := ⟨_, rfl⟩
    rw [hq] at CR hz
    have hlt := (List.getElem?_eq_some_iff.1 hz).1
    obtain ⟨bb, oo, rfl, c0, c1⟩ := hr.num hz
    have i2 : (q : Int) < (n : Int) := by omega
    clear hr hl hb hz hg hq hlt
    go_enter Try.func16, Try.ntmps16
    go_wp2_with (first | (go_at_call 18; refine CH.out.mono ?_; rintro e w1 ⟨rfl, hw⟩; replace hw := hw.symm; subst hw) | (go_at_call 33; refine (CR.out 0).mono ?_; rintro e w1 ⟨rfl, hw⟩; replace hw := hw.symm; subst hw))
    go_ret2
    exact ⟨by rw [HG.out]; first | done | rfl, ⟨0, rfl⟩⟩
end Go.Proofs.Ytlhpoliiojekeaa
