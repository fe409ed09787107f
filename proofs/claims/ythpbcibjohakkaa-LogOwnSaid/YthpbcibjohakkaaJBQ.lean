import Derived.Test.YthpbcibjohakkaaLCrash
import Derived.Deep.Cut
import Derived.Deep.RegionWith
/- The law's does. -/
namespace Go.Proofs.Ythpbcibjohakkaa
set_option maxRecDepth 100000
set_option maxRecDepth 100000
open Go.RowKit

theorem LwIs.more {base : World} {u d : Nat} {S : St} {c c' nb nb' : Nat} {e : Ending} {w' : World} (h : LwIs base u d S c nb e w') (hc : c ≤ c') (hm : c' ≤ maxSt) (hn : nb ≤ nb') : LwIs base u d S c' nb' e w' := by
  obtain ⟨rfl, S', hL, h1, h2, h3, h4⟩ := h
  refine ⟨rfl, S', ?_, h1, h2, by omega, h4⟩
  rcases hL with ⟨rs, h⟩ | ⟨rs, alt, h⟩
  · exact .inl ⟨rs, h.more hc⟩
  · exact .inr ⟨rs, alt, h.more hc hm⟩
theorem lw_write {base wr : World} {u d : Nat} {S : St} {c : Nat} (h : Lw base wr u d S c) (hc : c < maxSt) (h0 : 0 ≤ S.writes) (h1 : S.writes ≤ 1152921504606846976) (kind : Int) (hkd : kind = 0 ∨ kind = 1) (N : Int) (A : Option Addr) (n cap : Nat) (zs : List Int)
    (hz : RB wr A n zs) (hA : ∀ ad, A = some ad → 0 < n → ad.block < base.heap.size) (hn : n ≤ cap) (hcap : cap ≤ 9223372036854775807) (hn2 : n ≤ 140737488355328) (K : Option Addr) (nk ck : Nat) :
    Calls Try.prog 14 #[.pointer (some ⟨u, 0, none⟩), .agg #[.int .i64 kind, .int .i64 N, .slice A n cap, .slice K nk ck]] wr (LwIs base u d S (c + 1) (nblocks n)) := by
  rcases h with ⟨rs, h⟩ | ⟨rs, alt, h⟩
  · rcases hkd with rfl | rfl
    · exact lw_write_app h hc h0 h1 N A n cap zs hz hA hn hcap hn2 K nk ck
    · exact lw_write_chk h hc h0 h1 N A n cap zs hz hA hn hcap hn2 K nk ck
  · rcases hkd with rfl | rfl
    · exact lw_over_app h hc h0 h1 N A n cap zs hz hA hn hcap hn2 K nk ck
    · exact lw_over_chk h hc h0 h1 N A n cap zs hz hA hn hcap hn2 K nk ck

theorem wroom_over {w : World} {d L size slot : Nat} {m : Mk} {stamp used count : Nat} (h : LgAt w L d size slot m stamp used count true) : Calls Try.prog 19 #[.pointer (some ⟨L, 0, none⟩)] w fun e w' => e = .returned (.int .i64 0) ∧ w = w' := by
  have CG := Lib.hid (wgoesOn h)
  clear h
  go_enter Try.func19, Try.ntmps19
  go_wp2_with (go_at_call 39; refine CG.out.mono ?_; rintro e w' ⟨rfl, rfl⟩)
  go_ret
  exact ⟨rfl, rfl⟩
theorem wcount_over {w : World} {d L size slot : Nat} {m : Mk} {stamp used count : Nat} (h : LgAt w L d size slot m stamp used count true) : Calls Try.prog 21 #[.pointer (some ⟨L, 0, none⟩)] w fun e w' => e = .returned (.int .i64 0) ∧ w = w' := by
  have CG := Lib.hid (wgoesOn h)
  clear h
  go_enter Try.func21, Try.ntmps21
  go_wp2_with (go_at_call 39; refine CG.out.mono ?_; rintro e w' ⟨rfl, rfl⟩)
  go_ret
  exact ⟨rfl, rfl⟩

/-- Another plan. -/
theorem LwD.again {base wr w' : World} {u d L k : Nat} {S S' : St} {F G : Nat → Prop} {v mb : Value} {met over : Bool} {rs : List (List Int)} {vs : List Value} (h : LwD base wr u d L k S F G v mb met over rs vs) (hp : PD (Gr F wr) w' d S') (ho : Out F wr w') :
    ∃ F', LwD base w' u d L k S' F' G v mb met over rs vs ∧ (∀ j, F' j → F j ∨ wr.heap.size ≤ j) := ⟨_, h.step hp ho, fun j hj => hj.1⟩
/-- The disk of a law's world, wherever it stands; and another plan. -/
theorem Lw.diskAt {base wr w1 : World} {u d : Nat} {S : St} {c : Nat} (h : Lw base wr u d S c) (hb : Below wr.heap.size wr w1) : ∃ F L, PD F w1 d S ∧ (∀ j, F j → base.heap.size ≤ j ∧ j < wr.heap.size ∧ j ≠ u) ∧ w1.cell? ⟨u, 0, none⟩ = some (.pointer (some ⟨d, 0, none⟩)) ∧ w1.cell? ⟨u, 1, none⟩ = some (.pointer (some ⟨L, 0, none⟩)) ∧ u < wr.heap.size ∧
    ∀ (w' : World) (n : Int), PD (Gr F w1) w' d (planS S n) → Out F w1 w' → Lw base w' u d (planS S n) c := by
  rcases h with ⟨rs, L, F, G, v, mb, vs, hM, hU, hR⟩ | ⟨rs, alt, L, F, G, v, mb, vs, us, hM, hD, hR, hRa, hu1, hu2⟩
  · have hM1 := hM.below hb
    have hU1 := hU.below hb
    refine ⟨F, L, hU1.pd, hM.fs, hM1.c0, hM1.c1, hM.ult, fun w' n p1 o1 => ?_⟩
    have hl : (planS S n).last = S.last := by unfold planS; split <;> rfl
    rw [planS_on hU.off] at p1 hl ⊢
    have D0 : LwD base w1 u d L (areaSize S.last.length) S F G v mb false false rs vs := ⟨hM1, hU1.pd, hR.below hb⟩
    obtain ⟨F', D1, hF'⟩ := D0.again p1 o1
    refine .inl ⟨rs, L, F', G, v, mb, vs, by rw [hl]; exact D1.m, hU1.replan o1 D1.pd (fun hf => ?_), D1.hv⟩
    rcases hF' _ hf with h1 | h1
    · exact hU.out h1
    · have := hU1.llt; omega
  · have hM1 := hM.below hb
    have hD1 := hD.below hb
    refine ⟨F, L, hD1.pd, hM.fs, hM1.c0, hM1.c1, hM.ult, fun w' n p1 o1 => ?_⟩
    have e : planS S n = S := by unfold planS; rw [if_pos hD.off]
    rw [e] at p1 ⊢
    have D0 : LwD base w1 u d L (areaSize S.last.length) S F G v mb true true rs vs := ⟨hM1, hD1.pd, hR.below hb⟩
    obtain ⟨F', D1, hF'⟩ := D0.again p1 o1
    obtain ⟨size, slot, m, stamp, used, count, hl⟩ := hD1.lg
    refine .inr ⟨rs, alt, L, F', G, v, mb, vs, us, D1.m, ⟨D1.pd, hD.off, hD.few, fun hf => ?_, ⟨size, slot, m, stamp, used, count, (o1.block _ hl.lt hD.out).trans hl⟩, hD.alts⟩, D1.hv, D0.keep o1 (hRa.below hb), hu1, hu2⟩
    rcases hF' _ hf with h1 | h1
    · exact hD.out h1
    · have := hD1.llt; omega
theorem planS_same (S : St) (n : Int) : (planS S n).last = S.last ∧ (planS S n).writes = S.writes := by unfold planS; split <;> exact ⟨rfl, rfl⟩

section
variable {base wr : World} {u d : Nat} {S : St} {c : Nat}
set_option maxHeartbeats 4000000 in
theorem does_write (h : Lw base wr u d S c) (hc : c < maxSt) (h0 : 0 ≤ S.writes) (h1 : S.writes ≤ 1152921504606846976) (kind : Int) (hkd : kind = 0 ∨ kind = 1) (N : Int) (A : Option Addr) (n cap : Nat) (zs : List Int)
    (hz : RB wr A n zs) (hA : ∀ ad, A = some ad → 0 < n → ad.block < base.heap.size) (hn : n ≤ cap) (hcap : cap ≤ 9223372036854775807) (hn2 : n ≤ 140737488355328) (K : Option Addr) (nk ck : Nat) :
    Calls Try.prog 10 #[.pointer (some ⟨u, 0, none⟩), .agg #[.int .i64 kind, .int .i64 N, .slice A n cap, .slice K nk ck]] wr (LwIs base u d S (c + 1) (nblocks n)) := by
  obtain ⟨W1, hW1⟩ : ∃ W, wr.alloc (.cells #[.int .i64 kind, .int .i64 N, .slice A n cap, .slice K nk ck] 36) = W := ⟨_, rfl⟩
  have q1 : W1.heap[wr.heap.size]? = some (.cells #[.int .i64 kind, .int .i64 N, .slice A n cap, .slice K nk ck] 36 (0, 0)) := by rw [← hW1]; exact heap_alloc_new _ _
  have b1 : Below wr.heap.size wr W1 := by rw [← hW1]; exact (Below.refl _ _).alloc (Nat.le_refl _) _
  have CW := Lib.hid (lw_write (h.below b1) hc h0 h1 kind hkd N A n cap zs (hz.below' b1) hA hn hcap hn2 K nk ck)
  have e0 : W1.cell? ⟨wr.heap.size, 0, none⟩ = some (.int .i64 kind) := cell_of_row _ _ 0 _ _ _ q1
  have e1 : W1.cell? ⟨wr.heap.size, 1, none⟩ = some (.int .i64 N) := cell_of_row _ _ 1 _ _ _ q1
  have e2 : W1.cell? ⟨wr.heap.size, 2, none⟩ = some (.slice A n cap) := cell_of_row _ _ 2 _ _ _ q1
  have e3 : W1.cell? ⟨wr.heap.size, 3, none⟩ = some (.slice K nk ck) := cell_of_row _ _ 3 _ _ _ q1
  clear h q1 b1 hz hA
  rcases hkd with rfl | rfl
  all_goals
    go_enter Try.func10, Try.ntmps10
    go_wp2_with (go_at_call 14; go_loud (refine CW.out.mono ?_; rintro e w2 hh; have HH := Lib.hid hh; obtain ⟨rfl, -⟩ := hh; clear CW))
    go_ret
    exact HH.out
set_option maxHeartbeats 4000000 in
theorem does_crash (h : Lw base wr u d S c) (hc : c < maxSt) (N : Int) (A : Option Addr) (n cap : Nat) (K : Option Addr) (nk ck : Nat) (ks : List Int) (hk : RI wr K nk ks) (hK : ∀ ad, K = some ad → 0 < nk → ad.block < base.heap.size) (hn2 : nk ≤ 140737488355328)
    (hN : -9223372036854775808 ≤ N ∧ N ≤ 9223372036854775807) :
    Calls Try.prog 10 #[.pointer (some ⟨u, 0, none⟩), .agg #[.int .i64 3, .int .i64 N, .slice A n cap, .slice K nk ck]] wr (LwIs base u d S (c + 1) 0) := by
  obtain ⟨W1, hW1⟩ : ∃ W, wr.alloc (.cells #[.int .i64 3, .int .i64 N, .slice A n cap, .slice K nk ck] 36) = W := ⟨_, rfl⟩
  have q1 : W1.heap[wr.heap.size]? = some (.cells #[.int .i64 3, .int .i64 N, .slice A n cap, .slice K nk ck] 36 (0, 0)) := by rw [← hW1]; exact heap_alloc_new _ _
  have b1 : Below wr.heap.size wr W1 := by rw [← hW1]; exact (Below.refl _ _).alloc (Nat.le_refl _) _
  have CW := Lib.hid (lw_crash (h.below b1) (Nat.le_of_lt hc) K nk ck ks (hk.below b1) hK hn2 N hN)
  have e0 : W1.cell? ⟨wr.heap.size, 0, none⟩ = some (.int .i64 3) := cell_of_row _ _ 0 _ _ _ q1
  have e1 : W1.cell? ⟨wr.heap.size, 1, none⟩ = some (.int .i64 N) := cell_of_row _ _ 1 _ _ _ q1
  have e2 : W1.cell? ⟨wr.heap.size, 2, none⟩ = some (.slice A n cap) := cell_of_row _ _ 2 _ _ _ q1
  have e3 : W1.cell? ⟨wr.heap.size, 3, none⟩ = some (.slice K nk ck) := cell_of_row _ _ 3 _ _ _ q1
  have HC := Lib.hid hc
  clear h q1 b1 hk hK hc
  go_enter Try.func10, Try.ntmps10
  go_wp2_with (go_at_call 11; go_loud (refine CW.out.mono ?_; rintro e w2 hh; have HH := Lib.hid hh; obtain ⟨rfl, -⟩ := hh; clear CW))
  go_ret
  exact HH.out.more (Nat.le_succ _) HC.out (Nat.le_refl _)
set_option maxHeartbeats 4000000 in
theorem does_plan (h : Lw base wr u d S c) (hc : c < maxSt) (N : Int) (A : Option Addr) (n cap : Nat) (K : Option Addr) (nk ck : Nat) (hN : -9223372036854775808 ≤ N ∧ N ≤ 9223372036854775807) :
    Calls Try.prog 10 #[.pointer (some ⟨u, 0, none⟩), .agg #[.int .i64 2, .int .i64 N, .slice A n cap, .slice K nk ck]] wr (LwIs base u d S (c + 1) 0) := by
  obtain ⟨W1, hW1⟩ : ∃ W, wr.alloc (.cells #[.int .i64 2, .int .i64 N, .slice A n cap, .slice K nk ck] 36) = W := ⟨_, rfl⟩
  have q1 : W1.heap[wr.heap.size]? = some (.cells #[.int .i64 2, .int .i64 N, .slice A n cap, .slice K nk ck] 36 (0, 0)) := by rw [← hW1]; exact heap_alloc_new _ _
  have b1 : Below wr.heap.size wr W1 := by rw [← hW1]; exact (Below.refl _ _).alloc (Nat.le_refl _) _
  obtain ⟨F, L, hpd, hfs, hc0, hc1, hult, hnext⟩ := h.diskAt (w1 := W1.drew) (b1.drew)
  have PL := Lib.hid (pplan hpd N hN)
  obtain ⟨q, hq⟩ : ∃ q : Int, (if S.off = true then 22 else 0) = q := ⟨_, rfl⟩
  rw [hq] at PL
  have e0 : W1.cell? ⟨wr.heap.size, 0, none⟩ = some (.int .i64 2) := cell_of_row _ _ 0 _ _ _ q1
  have hS1 : W1.drew.cell? ⟨u, 0, none⟩ = some (.pointer (some ⟨d, 0, none⟩)) ∧ W1.drew.cell? ⟨wr.heap.size, 1, none⟩ = some (.int .i64 N) := ⟨hc0, cell_of_row _ _ 1 _ _ _ q1⟩
  have HNX := Lib.hid hnext
  have HW := Lib.hid (show ¬ F u ∧ ¬ F wr.heap.size from ⟨fun hf => (hfs _ hf).2.2 rfl, fun hf => Nat.lt_irrefl _ (hfs _ hf).2.1⟩)
  clear hpd hfs hc0 hc1 hult hnext hq q1 b1 h
  go_enter Try.func10, Try.ntmps10
  go_upto_region 6 with fail
  go_region_held3 (fun w' => w'.cell? ⟨u, 0, none⟩ = some (.pointer (some ⟨d, 0, none⟩)) ∧ w'.cell? ⟨wr.heap.size, 1, none⟩ = some (.int .i64 N)) (first | exact hS1 | exact hS2)
    (first | (go_at_call 29; go_loud (refine PL.out.mono ?_; rintro e w2 ⟨rfl, p2, o2⟩; have L2 := Lib.hid (HNX.out w2 N p2 o2); have hS2 : w2.cell? ⟨u, 0, none⟩ = some (.pointer (some ⟨d, 0, none⟩)) ∧ w2.cell? ⟨wr.heap.size, 1, none⟩ = some (.int .i64 N) := ⟨o2.cell hS1.1 HW.out.1, o2.cell hS1.2 HW.out.2⟩; clear p2 o2 PL)))
  all_goals
    go_wp2
    go_ret
    refine ⟨rfl, planS S N, ?_, by rw [(planS_same S N).1], by rw [(planS_same S N).2]; omega, by rw [(planS_same S N).2]; omega, by rw [(planS_same S N).2]; omega⟩
    rcases L2.out with ⟨rs, h⟩ | ⟨rs, alt, h⟩
    · exact .inl ⟨rs, h.more (Nat.le_succ _)⟩
    · exact .inr ⟨rs, alt, h.more (Nat.le_succ _) hc⟩
end
end Go.Proofs.Ythpbcibjohakkaa

/- The law's does: a look. -/
namespace Go.Proofs.Ythpbcibjohakkaa
set_option maxRecDepth 100000
set_option maxRecDepth 100000
open Go.RowKit
section
variable {base wr : World} {u d : Nat} {S : St} {c : Nat}
set_option maxHeartbeats 4000000 in
theorem look_dn {rs alt : List (List Int)} (h : LwDn base wr u d S c rs alt) (hc : c < maxSt) (kind N : Int) (hk : kind ≠ 0 ∧ kind ≠ 1 ∧ kind ≠ 2 ∧ kind ≠ 3) (A : Option Addr) (n cap : Nat) (K : Option Addr) (nk ck : Nat) :
    Calls Try.prog 10 #[.pointer (some ⟨u, 0, none⟩), .agg #[.int .i64 kind, .int .i64 N, .slice A n cap, .slice K nk ck]] wr (LwIs base u d S (c + 1) 0) := by
  obtain ⟨W1, hW1⟩ : ∃ W, wr.alloc (.cells #[.int .i64 kind, .int .i64 N, .slice A n cap, .slice K nk ck] 36) = W := ⟨_, rfl⟩
  have q1 : W1.heap[wr.heap.size]? = some (.cells #[.int .i64 kind, .int .i64 N, .slice A n cap, .slice K nk ck] 36 (0, 0)) := by rw [← hW1]; exact heap_alloc_new _ _
  have b1 : Below wr.heap.size wr W1 := by rw [← hW1]; exact (Below.refl _ _).alloc (Nat.le_refl _) _
  have e0 : W1.cell? ⟨wr.heap.size, 0, none⟩ = some (.int .i64 kind) := cell_of_row _ _ 0 _ _ _ q1
  have H1 := Lib.hid (h.below b1)
  obtain ⟨L, F, G, v, mb, vs, us, hM, hD, -⟩ := h
  have hM1 := hM.below b1
  have c1 := hM1.c1
  have c6 := hM1.c6
  obtain ⟨size, slot, m, stamp, used, count, hl⟩ := (hD.below b1).lg
  have RM := Lib.hid (wroom_over hl)
  have CT := Lib.hid (wcount_over hl)
  have k0 : (kind == 0) = false := by simpa using hk.1
  have k1 : (kind == 1) = false := by simpa using hk.2.1
  have k2 : (kind == 2) = false := by simpa using hk.2.2.1
  have k3 : (kind == 3) = false := by simpa using hk.2.2.2
  clear hM hD hM1 hl q1 b1 hk
  go_enter Try.func10, Try.ntmps10
  go_wp2_with (first
    | (go_at_call 19; refine RM.out.mono ?_; rintro e w' ⟨rfl, rfl⟩)
    | (go_at_call 21; refine CT.out.mono ?_; rintro e w' ⟨rfl, rfl⟩))
  go_ret
  exact ⟨rfl, S, .inr ⟨_, _, H1.out.more (Nat.le_succ _) hc⟩, rfl, by omega, by omega, by omega⟩
set_option maxHeartbeats 8000000 in
theorem look_up {rs : List (List Int)} (h : LwUp base wr u d S c rs) (hc : c < maxSt) (kind N : Int) (hk : kind ≠ 0 ∧ kind ≠ 1 ∧ kind ≠ 2 ∧ kind ≠ 3) (A : Option Addr) (n cap : Nat) (K : Option Addr) (nk ck : Nat) :
    Calls Try.prog 10 #[.pointer (some ⟨u, 0, none⟩), .agg #[.int .i64 kind, .int .i64 N, .slice A n cap, .slice K nk ck]] wr (LwIs base u d S (c + 1) 0) := by
  obtain ⟨W1, hW1⟩ : ∃ W, wr.alloc (.cells #[.int .i64 kind, .int .i64 N, .slice A n cap, .slice K nk ck] 36) = W := ⟨_, rfl⟩
  have q1 : W1.heap[wr.heap.size]? = some (.cells #[.int .i64 kind, .int .i64 N, .slice A n cap, .slice K nk ck] 36 (0, 0)) := by rw [← hW1]; exact heap_alloc_new _ _
  have b1 : Below wr.heap.size wr W1 := by rw [← hW1]; exact (Below.refl _ _).alloc (Nat.le_refl _) _
  have e0 : W1.cell? ⟨wr.heap.size, 0, none⟩ = some (.int .i64 kind) := cell_of_row _ _ 0 _ _ _ q1
  have h1 := h.below b1
  have H1 := Lib.hid h1
  obtain ⟨L, F, G, v, mb, vs, hM, hU, hR⟩ := h1
  obtain ⟨Av, cv, rfl, -⟩ := hR.form
  obtain ⟨k, hkk⟩ : ∃ k, areaSize S.last.length = k := ⟨_, rfl⟩
  have hused := hU.lo.2.2
  have hk2 : k ≤ 16384 := by rw [← hkk]; exact area_le hU.lo.2.1
  have hlen := used_each rs _ hused (by rw [hkk]; exact hk2)
  have c1 := hM.c1
  have c2 := hM.c2
  have c3 := hM.c3
  have c6 := hM.c6
  obtain ⟨slot, m, stamp, srs, hli, hl, -, -⟩ := hU.is
  rw [hkk] at c2 hl hused
  have hfew : rs.length ≤ 16384 := by have := usedOf_ge rs; omega
  obtain ⟨q, hq⟩ : ∃ q, k - usedOf rs = q := ⟨_, rfl⟩
  have HMW := Lib.hid (show ∀ W, Below W1.heap.size W1 W → W.cell? ⟨u, 1, none⟩ = some (.pointer (some ⟨L, 0, none⟩)) ∧ W.cell? ⟨u, 2, none⟩ = some (.int .i64 (k : Int)) ∧ W.cell? ⟨u, 3, none⟩ = some (.slice Av rs.length cv) from fun W hb => ⟨keep_below c1 hb, keep_below c2 hb, keep_below c3 hb⟩)
  have RM := Lib.hid (show ∀ W, Below W1.heap.size W1 W → Calls Try.prog 19 #[.pointer (some ⟨L, 0, none⟩)] W fun e w' => e = .returned (.int .i64 (q : Int)) ∧ Below W1.heap.size W1 w' from fun W hb => by
    have := wroom (w := W) ((hb.block _ hl.lt).trans hl) hused hk2
    rw [show (if false = true then 0 else k - usedOf rs : Nat) = q from hq] at this
    exact this.mono fun e w' hh => ⟨hh.1, hb.trans (hh.2.mono hb.size)⟩)
  have RR := Lib.hid (show ∀ W, Below W1.heap.size W1 W → Calls Try.prog 20 #[.agg #[.int .i64 (k : Int), .slice Av rs.length cv]] W fun e w' => e = .returned (.int .i64 (q : Int)) ∧ Below W1.heap.size W1 w' from fun W hb => by
    have := rroom W G 0 k _ rs vs (hR.below hb) hused hk2 hlen
    rw [hq] at this
    exact this.mono fun e w' hh => ⟨hh.1, hb.trans (hh.2.mono hb.size)⟩)
  have CT := Lib.hid (show ∀ W, Below W1.heap.size W1 W → Calls Try.prog 21 #[.pointer (some ⟨L, 0, none⟩)] W fun e w' => e = .returned (.int .i64 (rs.length : Int)) ∧ Below W1.heap.size W1 w' from fun W hb => by
    have := wcount (w := W) ((hb.block _ hl.lt).trans hl)
    exact this.mono fun e w' hh => ⟨hh.1, hb.trans (hh.2.mono hb.size)⟩)
  have k0 : (kind == 0) = false := by simpa using hk.1
  have k1 : (kind == 1) = false := by simpa using hk.2.1
  have k2 : (kind == 2) = false := by simpa using hk.2.2.1
  have k3 : (kind == 3) = false := by simpa using hk.2.2.2
  clear hM hU hR hl hli q1 b1 hk h hlen hused hkk hq
  go_enter Try.func10, Try.ntmps10
  go_upto_region 12 with fail
  have hS1 := HMW.out W1.drew (Below.refl _ _).drew
  go_region_held3 (fun W => W.cell? ⟨u, 1, none⟩ = some (.pointer (some ⟨L, 0, none⟩)) ∧ W.cell? ⟨u, 2, none⟩ = some (.int .i64 (k : Int)) ∧ W.cell? ⟨u, 3, none⟩ = some (.slice Av rs.length cv))
    (first | exact hS2 | exact hS1)
      (first
      | (go_at_call 19; refine (RM.out _ (by first | exact HB.out | exact HB.out.drew | exact Below.refl _ _ | exact (Below.refl _ _).drew)).mono ?_; rintro e w2 ⟨rfl, hb2⟩; have HB := Lib.hid hb2; have hS2 := HMW.out _ hb2; clear hb2)
      | (go_at_call 20; refine (RR.out _ (by first | exact HB.out | exact HB.out.drew | exact Below.refl _ _ | exact (Below.refl _ _).drew)).mono ?_; rintro e w3 ⟨rfl, hb2⟩; have HB := Lib.hid hb2; have hS2 := HMW.out _ hb2; clear hb2)
      | (go_at_call 21; refine (CT.out _ (by first | exact HB.out | exact HB.out.drew | exact Below.refl _ _ | exact (Below.refl _ _).drew)).mono ?_; rintro e w4 ⟨rfl, hb2⟩; have HB := Lib.hid hb2; have hS2 := HMW.out _ hb2; clear hb2))
  all_goals
    go_wp2
    go_ret
    exact ⟨rfl, S, .inl ⟨rs, (H1.out.below HB.out).more (Nat.le_succ _)⟩, rfl, by omega, by omega, by omega⟩

/-- does, whatever the operation. -/
theorem lw_does (h : Lw base wr u d S c) (hc : c < maxSt) (h0 : 0 ≤ S.writes) (h1 : S.writes ≤ 1152921504606846976) (kind N : Int) (hN : -9223372036854775808 ≤ N ∧ N ≤ 9223372036854775807) (A : Option Addr) (n cap : Nat) (zs : List Int)
    (hz : RB wr A n zs) (hA : ∀ ad, A = some ad → 0 < n → ad.block < base.heap.size) (hn : n ≤ cap) (hcap : cap ≤ 9223372036854775807) (hn2 : n ≤ 140737488355328)
    (K : Option Addr) (nk ck : Nat) (ks : List Int) (hk : RI wr K nk ks) (hK : ∀ ad, K = some ad → 0 < nk → ad.block < base.heap.size) (hnk : nk ≤ 140737488355328) :
    Calls Try.prog 10 #[.pointer (some ⟨u, 0, none⟩), .agg #[.int .i64 kind, .int .i64 N, .slice A n cap, .slice K nk ck]] wr (LwIs base u d S (c + 1) (if kind = 0 ∨ kind = 1 then nblocks n else 0)) := by
  by_cases hk01 : kind = 0 ∨ kind = 1
  · rw [if_pos hk01]
    exact does_write h hc h0 h1 kind hk01 N A n cap zs hz hA hn hcap hn2 K nk ck
  · rw [if_neg hk01]
    by_cases hk2 : kind = 2
    · subst hk2
      exact does_plan h hc N A n cap K nk ck hN
    · by_cases hk3 : kind = 3
      · subst hk3
        exact does_crash h hc N A n cap K nk ck ks hk hK hnk hN
      · have hkk : kind ≠ 0 ∧ kind ≠ 1 ∧ kind ≠ 2 ∧ kind ≠ 3 := ⟨fun e => hk01 (.inl e), fun e => hk01 (.inr e), hk2, hk3⟩
        rcases h with ⟨rs, h⟩ | ⟨rs, alt, h⟩
        · exact look_up h hc kind N hkk A n cap K nk ck
        · exact look_dn h hc kind N hkk A n cap K nk ck
end
end Go.Proofs.Ythpbcibjohakkaa
