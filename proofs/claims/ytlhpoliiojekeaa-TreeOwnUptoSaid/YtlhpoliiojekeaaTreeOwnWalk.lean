/- TreeOwn: what Nodes hands back is nobody's else. -/
import Derived.Test.YtlhpoliiojekeaaOwnT
namespace Go.Proofs.Ytlhpoliiojekeaa
set_option maxRecDepth 100000
open Go.RowKit

/-- A tree and what it must have. -/
structure OwAt (w : World) (u T ord : Nat) (B : Option Addr) (m d : Nat) (P : List Pr) (wr : World) : Prop where
  one : OneAt wr u T (.slice B m d)
  tr : TreeAt wr T ord P
  pb : PB wr B m P
  be : Gw w wr
theorem OwAt.gw {w : World} {u T ord : Nat} {B : Option Addr} {m d : Nat} {P : List Pr} {wr w' : World} (h : OwAt w u T ord B m d P wr) (g : Gw wr w') : OwAt w u T ord B m d P w' :=
  ⟨h.one.gw g, h.tr.below g, h.pb.gw g, h.be.trans g⟩
theorem OwAt.c {w : World} {u T ord : Nat} {B : Option Addr} {m d : Nat} {P : List Pr} {wr : World} (h : OwAt w u T ord B m d P wr) : wr.cell? ⟨u, 0, none⟩ = some (.pointer (some ⟨T, 0, none⟩)) ∧ wr.cell? ⟨u, 1, none⟩ = some (.slice B m d) :=
  ⟨by rw [cell_of_row _ _ _ _ _ _ h.one]; rfl, by rw [cell_of_row _ _ _ _ _ _ h.one]; rfl⟩

set_option maxHeartbeats 16000000 in
theorem walk_TreeOwn (a : Int) (A : Option Addr) (n c : Nat) (ks : List ByteArray) (w : World) (ha : -9223372036854775808 ≤ a ∧ a ≤ 9223372036854775807) (h : SA w A n ks) (hnc : n ≤ c) (hc : c ≤ 1048576) :
    Calls Try.prog 7 #[.int .i64 a, .slice A n c] w fun e w' => e = .returned (.bool true) ∧ Below w.heap.size w w' := by
  have hn : n ≤ 1048576 := Nat.le_trans hnc hc
  clear hnc hc
  have LV := Lib.hid wlive
  by_cases h3 : a < 3
  · clear h hn
    go_enter Try.func7, Try.ntmps7
    go_wp2_with (go_at_call 10; refine (LV.out _).mono ?_; rintro e w1 ⟨rfl, b1⟩; have B1 := Lib.hid b1; clear b1)
    go_ret
    exact ⟨rfl, B1.out⟩
  by_cases h64 : 64 < a
  · clear h hn
    have h3' : (3 : Int) ≤ a := by omega
    go_enter Try.func7, Try.ntmps7
    go_wp2_with (go_at_call 10; refine (LV.out _).mono ?_; rintro e w1 ⟨rfl, b1⟩; have B1 := Lib.hid b1; clear b1)
    go_ret
    exact ⟨rfl, B1.out⟩
  obtain ⟨ord, rfl⟩ : ∃ ord : Nat, a = (ord : Int) := ⟨a.toNat, by omega⟩
  have CF := Lib.hid (wfilled (c := c) h hn ord (by omega) (by omega))
  have hPl := fillN_len ks n
  obtain ⟨P, hPe⟩ : ∃ P, fillN ks n = P := ⟨_, rfl⟩
  rw [hPe] at CF hPl
  have HPL := Lib.hid (show P.length ≤ 1048576 by omega)
  have h3' : (3 : Int) ≤ (ord : Int) := by omega
  have h64' : (ord : Int) ≤ 64 := by omega
  clear h hn hPl hPe ha h3 h64
  go_enter Try.func7, Try.ntmps7
  go_upto_region 4 with (go_at_call 13; go_loud (refine CF.out.mono ?_; rintro e w1 ⟨T1, B1, m1, d1, rfl, t1, p1, -, b1, -⟩; have T1H := Lib.hid t1; have P1 := Lib.hid p1; have G1 := Lib.hid (show Gw w w1 from b1); clear t1 p1 b1 CF))
  generalize hU : World.alloc w1 _ = U
  have rU1 : U.heap[w1.heap.size]? = some (.cells #[.pointer (some ⟨T1, 0, none⟩), .slice B1 m1 d1] 27 (0, 0)) := by rw [← hU]; exact heap_alloc_new _ _
  have gU : Gw w1 U := by rw [← hU]; exact (Gw.refl _).alloc _
  have AN0 := Lib.hid (show OwAt w w1.heap.size T1 ord B1 m1 d1 P U from ⟨rU1, T1H.out.below gU, P1.out.gw gU, G1.out.trans gU⟩)
  obtain ⟨u5, hu5⟩ : ∃ u5, w1.heap.size = u5 := ⟨_, rfl⟩
  rw [hu5] at AN0 ⊢
  clear hU rU1 gU hu5 T1H G1 P1
  obtain ⟨c0, c1⟩ := AN0.out.c
  go_upto_region 7 with (go_at_call 10; go_loud (refine (LV.out _).mono ?_; rintro e w3 ⟨rfl, b3⟩; have A3 := Lib.hid (AN0.out.gw b3); clear b3))
  clear c0 c1
  go_loopw [29] (fun r' wr => ∃ r : Nat, r' = .int .i64 (r : Nat) ∧ r ≤ 2 ∧ OwAt w u5 T1 ord B1 m1 d1 P wr) (fun r' _ => 2 - (intOf r').toNat)
  case atStart => exact ⟨0, rfl, Nat.zero_le _, A3.out⟩
  case round =>
    rename World => wr
    obtain ⟨r, rfl, hr, hA⟩ := hrel
    obtain ⟨c0, c1⟩ := hA.c
    have HAR := Lib.hid hA
    have rb : (r : Int) ≤ 2 := by omega
    by_cases hlt : r < 2
    · have i1 : (r : Int) < 2 := by omega
      have HLT := Lib.hid hlt
      have CN := Lib.hid (wnodesX hA.tr (by have := HPL.out; omega))
      clear hA hlt hr
      go_upto_region 9 with (go_at_call 22; go_loud (refine CN.out.mono ?_; rintro e w4 h4; obtain ⟨A4, n4, c4, L, rfl, hln, hn4, hOI, hsep, hsz, D, hF⟩ := h4.own HAR.out.tr HPL.out; have HLN := Lib.hid hln; have HN4 := Lib.hid hn4; have OI0 := Lib.hid hOI; have HSP := Lib.hid hsep; have HSZ := Lib.hid hsz; have CFo := Lib.hid hF; clear h4 hln hn4 hOI hsep hsz hF CN))
      have k0 := keep_below c0 OI0.out.gw
      have k1 := keep_below c1 OI0.out.gw
      have nb : (n4 : Int) ≤ 4000000 := by have := HN4.out; omega
      go_upto_region 13 with (go_at_call 23; go_loud (refine (CFo.out _ B1 m1 d1 (Gw.refl _) (HAR.out.gw OI0.out.gw).pb).mono ?_; rintro e w5 ⟨rfl, g5⟩; have OI5 := Lib.hid (OI0.out.gwE g5); clear g5 CFo))
      clear k0 k1 c0 c1
      go_loopw [46] (fun i' wi => ∃ i : Nat, i' = .int .i64 (i : Nat) ∧ i ≤ n4 ∧ OI wr wi A4 n4 c4 L i i) (fun i' _ => n4 - (intOf i').toNat)
      case atStart => exact ⟨0, rfl, Nat.zero_le _, OI5.out⟩
      case round =>
        rename World => wi
        obtain ⟨i, rfl, hi, hOI⟩ := hrel
        by_cases hlt : i < n4
        · obtain ⟨x, hx⟩ : ∃ x, L[i]? = some x := ⟨_, List.getElem?_eq_getElem (by have := HLN.out; omega)⟩
          have i4 : (i : Int) < (n4 : Int) := by omega
          have ib : (i : Int) ≤ 4000000 := by omega
          have HL4 := Lib.hid hlt
          have HX := Lib.hid hx
          obtain ⟨g, rfl, q1, -, -⟩ := hOI.kv (Nat.le_refl _) hx
          obtain ⟨vs, hvs, hvo⟩ := hOI.ks i x (Nat.le_refl _) hx
          obtain ⟨K, ck, hK, -, -, -⟩ := hvo.form
          rw [hvs] at hK
          have HZ := Lib.hid (HSZ.out x (List.mem_of_getElem? hx))
          obtain ⟨m, hm⟩ : ∃ m, x.t.ks.length = m := ⟨_, rfl⟩
          rw [hm] at hK
          rw [hK] at q1
          have HK := Lib.hid hK
          have HM := Lib.hid hm
          have mb : (m : Int) ≤ 990 := by have := HZ.out.1; omega
          have HOI := Lib.hid hOI
          clear hOI hx hvs hvo hK hm hlt hi
          go_upto_region 16 with fail
          clear q1
          go_loopw [55] (fun k' wk => ∃ k : Nat, k' = .int .i64 (k : Nat) ∧ k ≤ m ∧ OI wr wk (some ⟨g, 0, none⟩) n4 c4 L i i) (fun k' _ => m - (intOf k').toNat)
          case atStart => exact ⟨0, rfl, Nat.zero_le _, HOI.out⟩
          case round =>
            rename World => wk
            clear HOI
            obtain ⟨k, rfl, hk, hOI⟩ := hrel
            have hkv := hOI.kv (Nat.le_refl _) HX.out
            obtain ⟨g', eg, q1, -, -⟩ := hkv
            obtain rfl : g = g' := by injection eg with e1; injection e1
            rw [HK.out] at q1
            by_cases hlt : k < m
            · obtain ⟨vs, hvs, hvo⟩ := hOI.ks i x (Nat.le_refl _) HX.out
              have hvo1 := hvo.own
              obtain ⟨gk, cap, eK, hgk⟩ := hvo1.form (by rw [hvs, HM.out]; omega)
              rw [HK.out] at eK
              injection eK with e1 e2 e3
              subst e1
              have hvo2 := hvo.own
              rw [HK.out, hvs, HM.out] at hvo2
              obtain ⟨u, hu⟩ : ∃ u, vs[k]? = some u := ⟨_, List.getElem?_eq_getElem (by rw [hvs, HM.out]; exact hlt)⟩
              have q2 : wk.cell? ⟨gk, k, none⟩ = some u := by rw [hvo2.cellAt k (by omega)]; exact hu
              have q3 : wk.frozen? ⟨gk, k, none⟩ = false := hvo2.frozenAt k
              have i5 : (k : Int) < (m : Int) := by omega
              have kb : (k : Int) ≤ 990 := by omega
              have HL5 := Lib.hid hlt
              have NX := Lib.hid (hOI.setK HSP.out (Nat.le_refl _) HX.out HK.out HM.out k (.string ⟨#[63]⟩) rfl)
              clear hOI hvs hvo hvo1 hvo2 hu hlt hk hgk eg
              go_wp2
              go_roundw
              case rel => exact ⟨k + 1, by go_num, HL5.out, NX.out⟩
              case measure => have := HL5.out; simp [intOf]; omega
            · obtain rfl : k = m := by omega
              have i5 : ¬ (k : Int) < (k : Int) := by omega
              have HOK := Lib.hid hOI
              obtain ⟨g', eg, z1, -, -⟩ := hOI.zv (Nat.le_refl _) HX.out
              obtain rfl : g = g' := by injection eg with e1; injection e1
              obtain ⟨us, hus, huo⟩ := hOI.zs i x (Nat.le_refl _) HX.out
              obtain ⟨Z, cz, hZv⟩ : ∃ Z cz, x.zv = .slice Z us.length cz := by
                rcases huo.own.2 with ⟨e, h0⟩ | ⟨gg, cap, cur, e, -⟩
                · exact ⟨none, 0, by rw [e, h0]⟩
                · exact ⟨_, cap, e⟩
              rw [hus] at hZv
              obtain ⟨mz, hmz⟩ : ∃ mz, x.t.kids.length = mz := ⟨_, rfl⟩
              rw [hmz] at hZv
              rw [hZv] at z1
              have HKZ := Lib.hid hZv
              have HMZ := Lib.hid hmz
              have zb : (mz : Int) ≤ 990 := by have := HZ.out.2; omega
              clear hOI hus huo hZv hmz hlt hk eg q1
              go_upto_region 21 with fail
              clear z1
              go_loopw [72] (fun k' wq => ∃ k : Nat, k' = .int .i64 (k : Nat) ∧ k ≤ mz ∧ OI wr wq (some ⟨g, 0, none⟩) n4 c4 L i i) (fun k' _ => mz - (intOf k').toNat)
              case atStart => exact ⟨0, rfl, Nat.zero_le _, HOK.out⟩
              case round =>
                rename World => wq
                clear HOK
                obtain ⟨k, rfl, hk, hOI⟩ := hrel
                have hkv := hOI.zv (Nat.le_refl _) HX.out
                obtain ⟨g', eg, q1, -, -⟩ := hkv
                obtain rfl : g = g' := by injection eg with e1; injection e1
                rw [HKZ.out] at q1
                by_cases hlt : k < mz
                · obtain ⟨vs, hvs, hvo⟩ := hOI.zs i x (Nat.le_refl _) HX.out
                  have hvo1 := hvo.own
                  obtain ⟨gk, cap, eK, hgk⟩ := hvo1.form (by rw [hvs, HMZ.out]; omega)
                  rw [HKZ.out] at eK
                  injection eK with e1 e2 e3
                  subst e1
                  have hvo2 := hvo.own
                  rw [HKZ.out, hvs, HMZ.out] at hvo2
                  obtain ⟨u, hu⟩ : ∃ u, vs[k]? = some u := ⟨_, List.getElem?_eq_getElem (by rw [hvs, HMZ.out]; exact hlt)⟩
                  have q2 : wq.cell? ⟨gk, k, none⟩ = some u := by rw [hvo2.cellAt k (by omega)]; exact hu
                  have q3 : wq.frozen? ⟨gk, k, none⟩ = false := hvo2.frozenAt k
                  have i5 : (k : Int) < (mz : Int) := by omega
                  have kb : (k : Int) ≤ 990 := by omega
                  have HL5 := Lib.hid hlt
                  have NX := Lib.hid (hOI.setZ HSP.out (Nat.le_refl _) HX.out HKZ.out HMZ.out k (.int .i64 (-1)) rfl)
                  clear hOI hvs hvo hvo1 hvo2 hu hlt hk hgk eg
                  go_wp2
                  go_roundw
                  case rel => exact ⟨k + 1, by go_num, HL5.out, NX.out⟩
                  case measure => have := HL5.out; simp [intOf]; omega
                · obtain rfl : k = mz := by omega
                  have i5 : ¬ (k : Int) < (k : Int) := by omega
                  have HOQ := Lib.hid hOI
                  clear hOI hlt hk eg
                  obtain ⟨gx, ex, q1, -, -⟩ := HOQ.out.kv (Nat.le_refl _) HX.out
                  obtain rfl : g = gx := by injection ex with e1; injection e1
                  rw [HK.out] at q1
                  obtain ⟨vs, hvs, hvo⟩ := HOQ.out.ks i x (Nat.le_refl _) HX.out
                  rw [HK.out] at hvo
                  have hvl : vs.length ≤ 990 := by rw [hvs]; exact HZ.out.1
                  have HVO := Lib.hid hvo
                  have HVL := Lib.hid hvl
                  have hnp : 0 < n4 := by have := HL4.out; omega
                  have APK := Lib.hid (show ∀ v' w', VO elS wr.heap.size w' v' (vs ++ [.string ⟨#[63]⟩]) → Below wr.heap.size (wq.alloc (.cells #[.string ⟨#[63]⟩] 9)) w' → (wq.alloc (.cells #[.string ⟨#[63]⟩] 9)).grownBy w' x.kv.ownBlock → (∃ A l c, v' = .slice A l c) ∧ (∃ u, w'.cell? ⟨g, i * 3 + 1, none⟩ = some u) ∧ w'.frozen? ⟨g, i * 3 + 1, none⟩ = false ∧ OI wr (w'.setCell ⟨g, i * 3 + 1, none⟩ v') (some ⟨g, 0, none⟩) n4 c4 L (i + 1) i from fun v' w' o' b' g' => by
                    have h1 := (HOQ.out.gwE ((Gw.refl wq).alloc (.cells #[.string ⟨#[63]⟩] 9))).appK HSP.out (Nat.le_refl _) HX.out b' g'
                    obtain ⟨u, q1, q2⟩ := h1.cellAny (f := i * 3 + 1) (by have := HL4.out; omega)
                    exact ⟨o'.slice, ⟨u, q1⟩, q2, h1.put hnp _ (fun j hj => by omega) (fun j hj => by omega) v'⟩)
                  rw [HK.out] at APK
                  clear hvs hvo hvl hnp ex
                  go_upto_region 26 with (at_builtin; go_loud (refine vo_append elS okS (by rfl) (.tmp 89) (.tmp 90) (by rfl) wr.heap.size _ vs (by rfl) (HVO.out.alloc _) (some ⟨wq.heap.size, 0, none⟩) 1 1 [.string ⟨#[63]⟩] (by rfl) ((Bl.here (X := wq) (vs := [.string ⟨#[63]⟩]) (by decide) rfl).vb (by simp; rfl) rfl) (by have := HVL.out; omega) (Nat.le_trans (Below.size HOQ.out.gw) (by simp)) ?_; intro v6 w6 o6 b6 g6; obtain ⟨⟨A6, l6, c6, e6⟩, ⟨u6, p6⟩, f6, n6⟩ := APK.out v6 w6 o6 b6 g6; subst e6; have N6 := Lib.hid n6; clear o6 b6 g6 n6 APK))
                  clear q1
                  generalize hX7 : World.setCell w6 _ _ = X7
                  rw [hX7] at N6
                  clear hX7 p6 f6
                  obtain ⟨gx, ex, z1, -, -⟩ := N6.out.zv (Nat.le_refl _) HX.out
                  obtain rfl : g = gx := by injection ex with e1; injection e1
                  rw [HKZ.out] at z1
                  obtain ⟨us, hus, huo⟩ := N6.out.zs i x (Nat.le_refl _) HX.out
                  rw [HKZ.out] at huo
                  have hul : us.length ≤ 990 := by rw [hus]; exact HZ.out.2
                  have HUO := Lib.hid huo
                  have HUL := Lib.hid hul
                  have hnp : 0 < n4 := by have := HL4.out; omega
                  have APZ := Lib.hid (show ∀ v' w', VO elK wr.heap.size w' v' (us ++ [.int .i64 (-1)]) → Below wr.heap.size (X7.alloc (.cells #[.int .i64 (-1)] 3)) w' → (X7.alloc (.cells #[.int .i64 (-1)] 3)).grownBy w' x.zv.ownBlock → (∃ A l c, v' = .slice A l c) ∧ (∃ u, w'.cell? ⟨g, i * 3 + 2, none⟩ = some u) ∧ w'.frozen? ⟨g, i * 3 + 2, none⟩ = false ∧ OI wr (w'.setCell ⟨g, i * 3 + 2, none⟩ v') (some ⟨g, 0, none⟩) n4 c4 L (i + 1) (i + 1) from fun v' w' o' b' g' => by
                    have h1 := (N6.out.gwE ((Gw.refl X7).alloc (.cells #[.int .i64 (-1)] 3))).appZ HSP.out (Nat.le_refl _) HX.out b' g'
                    obtain ⟨u, q1, q2⟩ := h1.cellAny (f := i * 3 + 2) (by have := HL4.out; omega)
                    exact ⟨o'.slice, ⟨u, q1⟩, q2, h1.put hnp _ (fun j hj => by omega) (fun j hj => by omega) v'⟩)
                  rw [HKZ.out] at APZ
                  clear hus huo hul hnp ex
                  go_wp2_with (at_builtin; go_loud (refine vz_append (by rfl) (.tmp 100) (.tmp 101) (by rfl) wr.heap.size _ us (by rfl) (HUO.out.alloc _) X7.heap.size (.int .i64 (-1)) rfl (by rfl) (by rw [cell_of_row _ _ _ _ _ _ (heap_alloc_new X7 _)]; rfl) (by have := HUL.out; omega) (Nat.le_trans (Below.size N6.out.gw) (by simp)) ?_; intro v8 w8 o8 b8 g8; obtain ⟨⟨A8, l8, c8, e8⟩, ⟨u8, p8⟩, f8, n8⟩ := APZ.out v8 w8 o8 b8 g8; subst e8; have N8 := Lib.hid n8; clear o8 b8 g8 n8 APZ))
                  go_roundw
                  case rel => exact ⟨i + 1, by go_num, HL4.out, N8.out⟩
                  case measure => have := HL4.out; simp [intOf]; omega
        · obtain rfl : i = n4 := by omega
          have i4 : ¬ (i : Int) < (i : Int) := by omega
          have HAZ := Lib.hid (HAR.out.gw hOI.gw)
          clear hOI hlt hi
          go_wp2
          go_roundw
          case rel => exact ⟨r + 1, by go_num, HLT.out, HAZ.out⟩
          case measure => have := HLT.out; simp [intOf]; omega
    · obtain rfl : r = 2 := by omega
      have CA := Lib.hid (wasksN hA.one hA.tr hA.pb HPL.out false ⟨#[]⟩ ⟨#[]⟩ 0 0 false)
      have HBE := Lib.hid hA.be
      clear hA hlt hr c0 c1
      go_wp2_with (go_at_call 12; go_loud (refine CA.out.mono ?_; rintro e w6 ⟨rfl, g6⟩; have G6 := Lib.hid (HBE.out.trans g6); clear g6 CA))
      go_ret
      exact ⟨rfl, G6.out⟩
end Go.Proofs.Ytlhpoliiojekeaa
