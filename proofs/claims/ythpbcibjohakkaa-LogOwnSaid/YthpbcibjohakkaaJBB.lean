import Derived.Test.YthpbcibjohakkaaJBA
import Derived.Test.YthpbcibjohakkaaLNewer
import Derived.RegionTactic
import Derived.ChangeAlike
import Derived.Deep.DeepCutAuto
/- wipe: an area's blocks made noughts. -/
namespace Go.Proofs.Ythpbcibjohakkaa
set_option maxRecDepth 100000
set_option maxRecDepth 100000
open Go.RowKit

theorem made64 (w : World) : RB (w.alloc (.cells (madeCells #[.int .u8 0] 64) 5)) (some ⟨w.heap.size, 0, none⟩) 64 zero64 := by
  have h := (row_made w 64).rb (fun z hz => by have := List.eq_of_mem_replicate hz; omega)
  simpa [zero64] using h

set_option maxHeartbeats 8000000 in
theorem wwipe {F : Nat → Prop} {w : World} {d L size slot : Nat} {m : Mk} {stamp used count : Nat} {over : Bool} {S : St} (h : PD F w d S) (lg : LgAt w L d size slot m stamp used count over) (hL : ¬ F L)
    (a : Nat) (ha : a ≤ 1) (hsz : size ≤ 16384) (hp : S.pend.length ≤ 1000000) :
    Calls Try.prog 37 #[.pointer (some ⟨L, 0, none⟩), .int .i64 (a : Int)] w
      (Laid F w d L (runWS S (wipeW size a)) size slot m stamp used count over) := by
  have c1 := lg.c1
  have hmk : ∀ W, (Instr.makeSlice 33 (.int .i64 64) (.int .i64 64)).run Try.prog W = .ok (.slice (some ⟨W.heap.size, 0, none⟩) 64 64) (W.alloc (.cells (madeCells #[.int .u8 0] 64) 5)) := fun W => run_make_bytes W 64 64 (by omega) (by omega) (by omega)
  have HLG0 := Lib.hid lg
  have HD := Lib.hid h
  have HL := Lib.hid hL
  have HLT := Lib.hid lg.lt
  have HP := Lib.hid hp
  clear h lg hL hp
  go_enter Try.func37, Try.ntmps37
  go_wp2
  generalize hLW : wipeW size a = LW
  have LWl := Lib.hid (show LW.length = size by rw [← hLW, wipeW_len])
  have LWg := Lib.hid (fun k (hk : k < size) => show LW.getD k (0, []) = (2 + a * size + k, zero64) by rw [← hLW, wipeW_get _ _ _ hk])
  have HLW := Lib.hid hLW
  clear hLW c1
  go_loopw [11] (fun i wr => ∃ k : Nat, i = .int .i64 k ∧ k ≤ size ∧ Hid ((runW S (LW.take k)).2 = 0 ∧ (runW S (LW.take k)).1.pend.length ≤ S.pend.length + k) ∧ Hid (PD (Gr F w) wr d (runW S (LW.take k)).1) ∧ Hid (LgAt wr L d size slot m stamp used count over) ∧ Hid (Out (fun k => F k ∨ k = L) w wr)) (fun i _ => size - (intOf i).toNat)
  case atStart => exact ⟨0, rfl, by omega, Lib.hid ⟨rfl, by simp [runW]⟩, Lib.hid (HD.out.mono fun _ _ h => .inl h), HLG0, Lib.hid (Out.refl _ _)⟩
  case round =>
    obtain ⟨k, rfl, hk, HK, HPD, HLG, HOU⟩ := hrel
    by_cases hlt : k < size
    · have HG := Lib.hid (LWg.out k hlt)
      have c0 := HLG.out.c0
      have B : Below wr.heap.size wr wr.drew := (Below.refl _ _).drew
      have HPD2 := Lib.hid HPD.out.shut
      have LGH := HLG
      obtain ⟨pp, hpp⟩ : ∃ pp, 2 + a * size + k = pp := ⟨_, rfl⟩
      have PL := Lib.hid fun W (hlg : LgAt W L d size slot m stamp used count over) => show Calls Try.prog 53 #[.pointer (some ⟨L, 0, none⟩), .int .i64 (a : Int), .int .i64 (k : Int)] W fun r w' => r = .returned (.int .i64 (pp : Int)) ∧ W = w' by
        have := wplace hlg hsz a k ha (by omega)
        rw [hpp] at this
        exact this
      rw [hpp] at HG
      have HPL := Lib.hid (show (runW S (LW.take k)).1.pend.length < 2199023255552 by have := HK.out.2; have := HP.out; omega)
      have NL := Lib.hid (show ¬ ((fun j => Gr F w j ∧ j < wr.heap.size) L) from fun hh => by
        rcases hh.1 with h1 | h1
        · exact HL.out h1
        · exact absurd HLT.out (by omega))
      clear hpp
      go_wp2
      go_region_held3 (fun w' => w'.cell? ⟨L, 0, none⟩ = some (.pointer (some ⟨d, 0, none⟩)))
        (first | exact c0 | exact keep_below c0 B | exact keep_below c0 (B.alloc B.size _) | exact KK)
        (first
          | (go_at_call 53; first | (refine (PL.out _ (LGH.out.below B)).mono ?_; rintro e w9 ⟨rfl, rfl⟩) | (refine (PL.out _ (LGH.out.below (B.alloc B.size _))).mono ?_; rintro e w9 ⟨rfl, rfl⟩))
          | (go_at_call 52; refine (dwriteW (HPD2.out.below (B.alloc B.size _)) (pp : Int) _ 64 64 zero64 (made64 _) (far_new B.size) (Nat.le_refl _) HPL.out).mono ?_; rintro e w9 ⟨rfl, hpd, hout⟩; replace B := B.alloc B.size (.cells (madeCells #[.int .u8 0] 64) 5); have KK := hout.cell (keep_below c0 B) NL.out))
      all_goals
        have HZ1 := Lib.hid (show w.heap.size ≤ wr.heap.size from HOU.out.size)
        have HS1 : Hid (runW S (LW.take (k + 1)) = (writeS (runW S (LW.take k)).1 (pp : Int) zero64, writeE (runW S (LW.take k)).1 (pp : Int) 64)) := Lib.hid (by
          rw [runW_take S LW k (by rw [LWl.out]; exact hlt) HK.out.1, HG.out])
        have HPe : Hid ((writeS (runW S (LW.take k)).1 (pp : Int) zero64).pend.length ≤ S.pend.length + (k + 1)) := Lib.hid (by
          have := writeS_pend (runW S (LW.take k)).1 (pp : Int) zero64
          have := HK.out.2
          omega)
        have BB := Lib.hid B
        have PD9 := Lib.hid (hpd.mono (F' := Gr F w) fun j _ hj => by
          rcases hj with hj | hj
          · exact hj.1
          · right; have := BB.out.size; have := HZ1.out; omega)
        have LG9 := Lib.hid ((LGH.out.below BB.out).out hout NL.out)
        have OU9 := Lib.hid ((HOU.out.then (Out.of_below BB.out _)).trans hout (fun i hi hj => by
          rcases hj.1 with h1 | h1
          · exact .inl h1
          · omega))
        clear hpd hout KK B c0
        rw [show zero64.length = 64 from by simp [zero64]]
        obtain ⟨ec, hec⟩ : ∃ ec, writeE (runW S (LW.take k)).1 (pp : Int) 64 = ec := ⟨_, rfl⟩
        rw [hec] at HS1 ⊢
        clear hec
        by_cases h0 : ec = 0
        · subst h0
          go_wp2
          go_roundw
          case rel => exact ⟨k + 1, by go_num, by omega, Lib.hid (by rw [HS1.out]; exact ⟨rfl, HPe.out⟩), Lib.hid (by rw [HS1.out]; exact PD9.out), LG9, OU9⟩
          case measure => simp [intOf]; omega
        · have hne : (ec != 0) = true := by simpa using h0
          have HE : Hid (runWS S LW = (writeS (runW S (LW.take k)).1 (pp : Int) zero64, ec)) := Lib.hid (by
            unfold runWS
            rw [runW_stop S LW (k + 1) (by rw [HS1.out]; exact h0), HS1.out, if_neg h0])
          clear h0
          go_wp2
          go_ret
          unfold Laid
          try rw [HLW.out]
          rw [HE.out]
          exact ⟨rfl, PD9.out, LG9.out, OU9.out⟩
    · obtain rfl : k = size := by omega
      have HT := Lib.hid (show LW.take k = LW from List.take_of_length_le (by rw [LWl.out]; omega))
      rw [HT.out] at HK HPD
      have c0 := HLG.out.c0
      have DS := Lib.hid (dsync HPD.out.shut (by have := HK.out.2; have := HP.out; omega))
      have NL := Lib.hid (show ¬ (Gr F w L ∧ L < wr.heap.size) from fun hh => by
        rcases hh.1 with h1 | h1
        · exact HL.out h1
        · exact absurd HLT.out (by omega))
      go_wp2_with (go_at_call 54; refine DS.out.mono ?_; rintro e w9 ⟨rfl, hpd, hout⟩)
      go_ret
      unfold Laid runWS
      try rw [HLW.out]
      rw [if_pos HK.out.1]
      refine ⟨rfl, hpd.mono fun j _ hj => ?_, HLG.out.out hout NL.out, HOU.out.trans hout fun i hi hj => ?_⟩
      · rcases hj with hj | hj
        · exact hj.1
        · right; have := HOU.out.size; omega
      · rcases hj.1 with h1 | h1
        · exact .inl h1
        · omega
end Go.Proofs.Ythpbcibjohakkaa

/- turnTo: the mark of another area. -/
namespace Go.Proofs.Ythpbcibjohakkaa
set_option maxRecDepth 100000
set_option maxRecDepth 100000
open Go.RowKit

theorem markB_len (m : Mk) (size : Nat) (h0 : size ≤ 16384) (h1 : m.turn ≤ 2) (h2 : m.area ≤ 1) (h3 : m.since ≤ maxSt) : (markB m size).length ≤ 56 := by
  have a0 : (textB titleS).length ≤ 13 := by
    unfold textB
    rw [List.length_append, strB_len]
    have := uintB_short 0 titleS.size (by decide)
    have : titleS.size = 12 := rfl
    omega
  have a1 := uintB_short 2 size (by omega)
  have a2 := uintB_short 0 m.turn (by omega)
  have a3 := uintB_short 0 m.area (by omega)
  have a4 := uintB_short 8 m.since (by unfold maxSt at h3; omega)
  unfold markB
  simp only [List.length_append]
  omega

theorem row3 {W : World} {g : Nat} {T : TypeId} {a b c : Value} (h : W.heap[g]? = some (.cells #[a, b, c] T (0, 0))) :
    (W.cell? ⟨g, 0, none⟩ = some a ∧ W.cell? ⟨g, 1, none⟩ = some b ∧ W.cell? ⟨g, 2, none⟩ = some c) ∧ W.frozen? ⟨g, 0, none⟩ = false ∧ W.frozen? ⟨g, 1, none⟩ = false ∧ W.frozen? ⟨g, 2, none⟩ = false := by
  refine ⟨⟨?_, ?_, ?_⟩, ?_, ?_, ?_⟩
  all_goals first | (rw [cell_of_row W g _ _ T (0, 0) h]; rfl) | simp [World.frozen?, h]

theorem runWS_no {S : St} {n : Nat} {b : List Int} (h : writeE S (n : Int) 64 ≠ 0) : runWS S [(n, b)] = (writeS S (n : Int) b, writeE S (n : Int) 64) := by
  simp [runWS, runW, h]
theorem runWS_yes {S : St} {n : Nat} {b : List Int} (h : writeE S (n : Int) 64 = 0) : runWS S [(n, b)] = (syncS (writeS S (n : Int) b), syncE (writeS S (n : Int) b)) := by
  simp [runWS, runW, h]

/-- What turnTo leaves. -/
def Turned (F : Nat → Prop) (w : World) (d L : Nat) (R : St × Int) (size : Nat) (s0 : Nat) (m0 : Mk) (s1 : Nat) (m1 : Mk) (stamp used count : Nat) (over : Bool) (e : Ending) (w' : World) : Prop :=
  e = .returned (.int .i64 R.2) ∧ PD (Gr F w) w' d R.1 ∧ (if R.2 = 0 then LgAt w' L d size s1 m1 stamp used count over else LgAt w' L d size s0 m0 stamp used count over) ∧ Out (fun k => F k ∨ k = L) w w'

def turnW (slot : Nat) (m : Mk) (size : Nat) : List (Nat × List Int) := [(1 - slot, blockOf (markB m size))]

set_option maxHeartbeats 8000000 in
theorem wturnTo {F : Nat → Prop} {w : World} {d L size slot : Nat} {m : Mk} {stamp used count : Nat} {over : Bool} {S : St} (h : PD F w d S) (lg : LgAt w L d size slot m stamp used count over) (hL : ¬ F L)
    (a : Nat) (ha : a ≤ 1) (hsl : slot ≤ 1) (hmt : m.turn ≤ 2) (hst : stamp ≤ maxSt) (hsz : size ≤ 16384) (hp : S.pend.length ≤ 1000000) :
    Calls Try.prog 38 #[.pointer (some ⟨L, 0, none⟩), .int .i64 (a : Int)] w
      (Turned F w d L (runWS S (turnW slot ⟨m.next, a, stamp⟩ size)) size slot m (1 - slot) ⟨m.next, a, stamp⟩ stamp used count over) := by
  have c0 := lg.c0
  have c1 := lg.c1
  have c2 := lg.c2
  have c3 := lg.c3
  have c4 := lg.c4
  have c5 := lg.c5
  have c6 := lg.c6
  have B : Below w.heap.size w w.drew := (Below.refl _ _).drew
  obtain ⟨s1, hs1⟩ : ∃ s1, 1 - slot = s1 := ⟨_, rfl⟩
  obtain ⟨tn, htn⟩ : ∃ tn, m.next = tn := ⟨_, rfl⟩
  have htn2 : tn ≤ 2 := by rw [← htn]; unfold Mk.next; omega
  have NX := Lib.hid fun W => show Calls Try.prog 55 #[.agg #[.int .i64 (m.turn : Int), .int .i64 (m.area : Int), .int .u64 (m.since : Int)]] W fun e w' => e = .returned (.int .i64 (tn : Int)) ∧ Below W.heap.size W w' by
    rw [← htn]; exact wnext W m hmt
  have E1 := Lib.hid (show (1 : Int) - (slot : Int) = (s1 : Int) by omega)
  obtain ⟨Z, hZ⟩ : ∃ Z, markB ⟨tn, a, stamp⟩ size = Z := ⟨_, rfl⟩
  have HZL := Lib.hid (show Z.length ≤ 56 by rw [← hZ]; exact markB_len ⟨tn, a, stamp⟩ size hsz htn2 ha hst)
  have CT := Lib.hid fun W => show Calls Try.prog 57 #[.agg #[.int .i64 (tn : Int), .int .i64 (a : Int), .int .u64 (stamp : Int)], .int .i64 (size : Int)] W (MadeB W Z) by
    rw [← hZ]; exact wmarkContent ⟨tn, a, stamp⟩ size W hsz htn2 ha hst
  have HWW := Lib.hid (show turnW slot ⟨m.next, a, stamp⟩ size = [(s1, blockOf Z)] by unfold turnW; rw [hs1, htn, hZ])
  rw [HWW.out, hs1, htn]
  have HD := Lib.hid h
  have HLG := Lib.hid lg
  have HL := Lib.hid hL
  have HPL := Lib.hid hp
  have HLT := Lib.hid lg.lt
  clear h lg hL hp hs1 htn hZ HWW hmt
  go_enter Try.func38, Try.ntmps38
  go_wp2
  rw [E1.out]
  clear c2 hsl
  have K4 := Lib.hid fun w' (b : Below w.heap.size w w') => (⟨keep_below c3 b, keep_below c4 b, keep_below c5 b, keep_below c6 b⟩ : w'.cell? ⟨L, 3, none⟩ = some (.int .i64 (m.turn : Int)) ∧ w'.cell? ⟨L, 4, none⟩ = some (.int .i64 (m.area : Int)) ∧ w'.cell? ⟨L, 5, none⟩ = some (.int .u64 (m.since : Int)) ∧ w'.cell? ⟨L, 6, none⟩ = some (.int .u64 (stamp : Int)))
  go_cut [6] (fun t6 wr => ∃ p, t6 = .pointer (some ⟨p, 0, none⟩) ∧ w.heap.size ≤ p ∧ wr.heap[p]? = some (.cells #[.int .i64 (tn : Int), .int .i64 (a : Int), .int .u64 (stamp : Int)] 76 (0, 0)) ∧ Below w.heap.size w wr)
  case first =>
    go_region_held3 (fun w' => w'.cell? ⟨L, 3, none⟩ = some (.int .i64 (m.turn : Int)) ∧ w'.cell? ⟨L, 4, none⟩ = some (.int .i64 (m.area : Int)) ∧ w'.cell? ⟨L, 5, none⟩ = some (.int .u64 (m.since : Int)) ∧ w'.cell? ⟨L, 6, none⟩ = some (.int .u64 (stamp : Int)))
      (first | exact ⟨c3, c4, c5, c6⟩ | exact K4.out _ B | exact K4.out _ (B.alloc B.size _) | exact K4.out _ (((B.setCell (Nat.le_refl _) _).setCell (Nat.le_refl _) _).setCell (Nat.le_refl _) _))
      (first
        | (go_at_call 55; refine (NX.out _).mono ?_; rintro e w9 ⟨rfl, hb9⟩; first | (replace B := below_next B hb9; clear hb9) | (have hz9 := (hb9.block w.heap.size (by simp)).trans (heap_alloc_new w.drew _); obtain ⟨⟨z0, z1, z2⟩, y0, y1, y2⟩ := row3 hz9; replace B := below_next (B.alloc B.size _) hb9; clear hb9; replace hz9 := Lib.hid hz9)))
    · go_wp2_with fail
      go_meet
      exact ⟨_, rfl, B.size, heap_alloc_new _ _, B.alloc B.size _⟩
    · go_wp2_with fail
      go_meet
      refine ⟨_, rfl, Nat.le_refl _, ?_, ((B.setCell (Nat.le_refl _) _).setCell (Nat.le_refl _) _).setCell (Nat.le_refl _) _⟩
      have := blk_set (blk_set (blk_set hz9.out 0 (.int .i64 (tn : Int))) 1 (.int .i64 (a : Int))) 2 (.int .u64 (stamp : Int))
      exact this
  case rest =>
    obtain ⟨p, rfl, hpw, hrow, hb⟩ := hcut
    clear c3 c4 c5 c6 B K4 NX
    have LG := HLG.out.below hb
    have c0' := LG.c0
    have c1' := LG.c1
    have hpz := Lib.hid (Array.getElem?_eq_some_iff.1 hrow).1
    obtain ⟨⟨p0, p1, p2⟩, -, -, -⟩ := row3 hrow
    have HB := Lib.hid hb
    have HPD2 := Lib.hid (HD.out.shut.below hb)
    have NL := Lib.hid (show ¬ ((fun j => F j ∧ j < w.heap.size) L) from fun hh => HL.out hh.1)
    have NP := Lib.hid (show ¬ ((fun j => F j ∧ j < w.heap.size) p) from fun hh => absurd hh.2 (by omega))
    have HPX := Lib.hid (show S.pend.length < 2199023255552 by have := HPL.out; omega)
    have B : Below wc.heap.size wc wc.drew := (Below.refl _ _).drew
    clear hb hrow c0 c1 LG
    go_wp2
    go_region_held3 (fun w' => w'.cell? ⟨L, 0, none⟩ = some (.pointer (some ⟨d, 0, none⟩)) ∧ w'.cell? ⟨L, 1, none⟩ = some (.int .i64 (size : Int)) ∧ w'.cell? ⟨p, 0, none⟩ = some (.int .i64 (tn : Int)) ∧ w'.cell? ⟨p, 1, none⟩ = some (.int .i64 (a : Int)) ∧ w'.cell? ⟨p, 2, none⟩ = some (.int .u64 (stamp : Int)))
      (first | exact ⟨c0', c1', p0, p1, p2⟩ | exact ⟨keep_below c0' B, keep_below c1' B, keep_below p0 B, keep_below p1 B, keep_below p2 B⟩ | exact KK)
      (first
        | (go_at_call 57; refine (CT.out _).mono ?_; intro e wq hm; obtain ⟨v9, rfl, ob9, hb9⟩ := hm; obtain ⟨A9, c9, rfl, hr9, -, -⟩ := ob9.form; replace B := below_next B hb9; clear hb9 ob9)
        | (go_at_call 56; refine (wwriteBlock (HPD2.out.below B) s1 _ _ _ Z hr9 HZL.out HPX.out).mono ?_; rintro e w9 ⟨rfl, hpd, hout⟩; have KK := (⟨hout.cell (keep_below c0' B) NL.out, hout.cell (keep_below c1' B) NL.out, hout.cell (keep_below p0 B) NP.out, hout.cell (keep_below p1 B) NP.out, hout.cell (keep_below p2 B) NP.out⟩ : w9.cell? ⟨L, 0, none⟩ = some (.pointer (some ⟨d, 0, none⟩)) ∧ w9.cell? ⟨L, 1, none⟩ = some (.int .i64 (size : Int)) ∧ w9.cell? ⟨p, 0, none⟩ = some (.int .i64 (tn : Int)) ∧ w9.cell? ⟨p, 1, none⟩ = some (.int .i64 (a : Int)) ∧ w9.cell? ⟨p, 2, none⟩ = some (.int .u64 (stamp : Int)))))
    all_goals
      have HBB := Lib.hid (below_next HB.out B)
      have BW := Lib.hid B
      have LG9 := Lib.hid ((HLG.out.below HBB.out).out hout NL.out)
      have OU9 := Lib.hid ((Out.of_below HBB.out (fun k => F k ∨ k = L)).trans hout (fun i hi hj => .inl hj.1))
      have PD9 := Lib.hid hpd
      have KK9 := Lib.hid KK
      have HPe := Lib.hid (writeS_pend S (s1 : Int) (blockOf Z))
      clear hpd hout KK hr9 B p0 p1 p2 c0' c1'
      obtain ⟨ec, hec⟩ : ∃ ec, writeE S (s1 : Int) 64 = ec := ⟨_, rfl⟩
      rw [hec]
      have HEC := Lib.hid hec
      clear hec
      by_cases h0 : ec = 0
      · subst h0
        have HR := Lib.hid (runWS_yes (b := blockOf Z) HEC.out)
        obtain ⟨c0, c1, p0, p1, p2⟩ := KK9.out
        have DS := Lib.hid (dsync PD9.out.shut (by have := HPe.out; have := HPL.out; omega))
        have NL3 := Lib.hid (show ¬ (Gr (fun k => F k ∧ k < w.heap.size) wq L ∧ L < w9.heap.size) from fun hh => by
          rcases hh.1 with h1 | h1
          · exact HL.out h1.1
          · have h2 := HLT.out; have h3 := HBB.out.size; exact absurd h1 (by omega))
        have NP3 := Lib.hid (show ¬ (Gr (fun k => F k ∧ k < w.heap.size) wq p ∧ p < w9.heap.size) from fun hh => by
          rcases hh.1 with h1 | h1
          · exact NP.out h1
          · have h2 := hpz.out; have h3 := BW.out.size; exact absurd h1 (by omega))
        obtain ⟨sc, hsc⟩ : ∃ sc, syncE (writeS S (s1 : Int) (blockOf Z)) = sc := ⟨_, rfl⟩
        rw [hsc] at HR DS
        clear hsc
        have FM : Hid (∀ j, Gr (fun k => Gr (fun k => F k ∧ k < w.heap.size) wq k ∧ k < w9.heap.size) w9 j → Gr F w j) := Lib.hid (fun j hj => by
          rcases hj with hj | hj
          · rcases hj.1 with hj | hj
            · exact .inl hj.1
            · right; have := HBB.out.size; omega
          · right; have := OU9.out.size; omega)
        have FO : Hid (∀ i, i < w.heap.size → (Gr (fun k => F k ∧ k < w.heap.size) wq i ∧ i < w9.heap.size) → (F i ∨ i = L)) := Lib.hid (fun i hi hj => by
          rcases hj.1 with hj | hj
          · exact .inl hj.1
          · have := HBB.out.size; omega)
        by_cases hs0 : sc = 0
        · subst hs0
          go_upto_region 9 with (go_at_call 54; refine DS.out.mono ?_; rintro e w10 ⟨rfl, hpd, hout⟩; have HPD := Lib.hid hpd; have HOUT := Lib.hid hout; clear hpd hout)
          have LG10 := LG9.out.out HOUT.out NL3.out
          have r0 := HOUT.out.cell p0 NP3.out
          have r1 := HOUT.out.cell p1 NP3.out
          have r2 := HOUT.out.cell p2 NP3.out
          have g2 := LG10.c2
          have g3 := LG10.c3
          have g4 := LG10.c4
          have g5 := LG10.c5
          have k2 := LG10.f 2
          have k3 := LG10.f 3
          have k4 := LG10.f 4
          have k5 := LG10.f 5
          have hpL : ¬ p = L := by have := HLT.out; omega
          clear p0 p1 p2 c0 c1
          have HLG10 := Lib.hid LG10
          clear LG10
          go_region
          all_goals
            go_wp2
            go_ret
            unfold Turned
            rw [HR.out]
            have hOx : Out (fun k => k = L) w10 ((((w10.setCell ⟨L, 2, none⟩ (.int .i64 (s1 : Int))).setCell ⟨L, 3, none⟩ (.int .i64 (tn : Int))).setCell ⟨L, 4, none⟩ (.int .i64 (a : Int))).setCell ⟨L, 5, none⟩ (.int .u64 (stamp : Int))).drew :=
              (((((Out.refl (fun k => k = L) w10).setCell (p := ⟨L, 2, none⟩) (.inl rfl) _).setCell (p := ⟨L, 3, none⟩) (.inl rfl) _).setCell (p := ⟨L, 4, none⟩) (.inl rfl) _).setCell (p := ⟨L, 5, none⟩) (.inl rfl) _).drew
            refine ⟨rfl, (HPD.out.mono fun j _ hj => FM.out j hj).out hOx (fun k hk hF he => ?_), ?_, (OU9.out.trans HOUT.out FO.out).trans hOx (fun i _ hi => .inr hi)⟩
            · rw [he] at hF
              rcases hF with h1 | h1
              · exact HL.out h1
              · exact absurd HLT.out (by omega)
            · rw [if_pos rfl]
              have := blk_set (blk_set (blk_set (blk_set HLG10.out 2 (.int .i64 (s1 : Int))) 3 (.int .i64 (tn : Int))) 4 (.int .i64 (a : Int))) 5 (.int .u64 (stamp : Int))
              exact this
        · have hne : (sc != 0) = true := by simpa using hs0
          have HN0 := Lib.hid hs0
          clear hs0
          go_wp2_with (go_at_call 54; refine DS.out.mono ?_; rintro e w10 ⟨rfl, hpd, hout⟩; have HPD := Lib.hid hpd; have HOUT := Lib.hid hout; clear hpd hout)
          go_ret
          unfold Turned
          rw [HR.out]
          exact ⟨rfl, HPD.out.mono fun j _ hj => FM.out j hj, by rw [if_neg HN0.out]; exact LG9.out.out HOUT.out NL3.out, OU9.out.trans HOUT.out FO.out⟩
      · have hne : (ec != 0) = true := by simpa using h0
        have HR : Hid (runWS S [(s1, blockOf Z)] = (writeS S (s1 : Int) (blockOf Z), ec)) := Lib.hid (by rw [runWS_no (by rw [HEC.out]; exact h0), HEC.out])
        have HN0 := Lib.hid h0
        clear h0
        go_wp2
        go_ret
        unfold Turned
        rw [HR.out]
        refine ⟨rfl, PD9.out.mono fun j _ hj => ?_, by rw [if_neg HN0.out]; exact LG9.out, OU9.out⟩
        rcases hj with hj | hj
        · exact .inl hj.1
        · right; have := HBB.out.size; omega
end Go.Proofs.Ythpbcibjohakkaa
