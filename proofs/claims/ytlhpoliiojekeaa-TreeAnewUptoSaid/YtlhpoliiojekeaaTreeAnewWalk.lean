/- TreeAnew: what is in a tree does not hang on the way. -/
import Derived.Test.YtlhpoliiojekeaaAnewP
import Derived.Test.YtlhpoliiojekeaaLook
import Derived.Test.YtlhpoliiojekeaaRef5B
import Derived.Test.YtlhpoliiojekeaaDel
namespace Go.Proofs.Ytlhpoliiojekeaa
set_option maxRecDepth 100000
open Go.RowKit

/-- Two trees beside each other, and the pairs of the one. -/
structure AnAt (w : World) (u7 u8 T1 T2 ord : Nat) (B1 : Option Addr) (m1 d1 : Nat) (lv : Value) (P Q : List Pr) (wr : World) : Prop where
  one7 : OneAt wr u7 T1 (.slice B1 m1 d1)
  one8 : OneAt wr u8 T2 lv
  t1 : TreeAt wr T1 ord P
  t2 : TreeAt wr T2 ord Q
  pb : PB wr B1 m1 P
  be : Gw w wr
  tw : w.heap.size ≤ T2
  ne : T1 ≠ T2 ∧ u7 ≠ T2 ∧ u8 ≠ T2 ∧ u7 ≠ u8 ∧ u8 ≠ T1 ∧ w.heap.size ≤ u8
theorem AnAt.gw {w : World} {u7 u8 T1 T2 ord : Nat} {B1 : Option Addr} {m1 d1 : Nat} {lv : Value} {P Q : List Pr} {wr w' : World} (h : AnAt w u7 u8 T1 T2 ord B1 m1 d1 lv P Q wr) (g : Gw wr w') : AnAt w u7 u8 T1 T2 ord B1 m1 d1 lv P Q w' :=
  ⟨h.one7.gw g, h.one8.gw g, h.t1.below g, h.t2.below g, h.pb.gw g, h.be.trans g, h.tw, h.ne⟩
theorem AnAt.xt {w : World} {u7 u8 T1 T2 ord : Nat} {B1 : Option Addr} {m1 d1 : Nat} {lv : Value} {P Q Q' : List Pr} {wr w' : World} (h : AnAt w u7 u8 T1 T2 ord B1 m1 d1 lv P Q wr) (ht : TreeAt w' T2 ord Q') (x : Xt T2 wr w') : AnAt w u7 u8 T1 T2 ord B1 m1 d1 lv P Q' w' :=
  ⟨h.one7.xt x h.ne.2.1, h.one8.xt x h.ne.2.2.1, h.t1.xt x h.t2.fo h.ne.1, ht, x.pb h.t2.fo h.pb, Xt.below h.be x h.tw, h.tw, h.ne⟩
theorem AnAt.set {w : World} {u7 u8 T1 T2 ord : Nat} {B1 : Option Addr} {m1 d1 : Nat} {lv : Value} {P Q : List Pr} {wr : World} (h : AnAt w u7 u8 T1 T2 ord B1 m1 d1 lv P Q wr) (v : Value) : AnAt w u7 u8 T1 T2 ord B1 m1 d1 v P Q (wr.setCell ⟨u8, 1, none⟩ v) := by
  have x : Xt u8 wr (wr.setCell ⟨u8, 1, none⟩ v) := Xt.set (Gw.refl _) 1 v
  exact ⟨h.one7.xt x h.ne.2.2.2.1, h.one8.set v, h.t1.xt x h.one8.fo h.ne.2.2.2.2.1.symm, h.t2.xt x h.one8.fo h.ne.2.2.1.symm, x.pb h.one8.fo h.pb, Xt.below h.be x h.ne.2.2.2.2.2, h.tw, h.ne⟩
theorem AnAt.c7 {w : World} {u7 u8 T1 T2 ord : Nat} {B1 : Option Addr} {m1 d1 : Nat} {lv : Value} {P Q : List Pr} {wr : World} (h : AnAt w u7 u8 T1 T2 ord B1 m1 d1 lv P Q wr) : wr.cell? ⟨u7, 0, none⟩ = some (.pointer (some ⟨T1, 0, none⟩)) ∧ wr.cell? ⟨u7, 1, none⟩ = some (.slice B1 m1 d1) :=
  ⟨by rw [cell_of_row _ _ _ _ _ _ h.one7]; rfl, by rw [cell_of_row _ _ _ _ _ _ h.one7]; rfl⟩
theorem AnAt.c8 {w : World} {u7 u8 T1 T2 ord : Nat} {B1 : Option Addr} {m1 d1 : Nat} {lv : Value} {P Q : List Pr} {wr : World} (h : AnAt w u7 u8 T1 T2 ord B1 m1 d1 lv P Q wr) : wr.cell? ⟨u8, 0, none⟩ = some (.pointer (some ⟨T2, 0, none⟩)) ∧ wr.cell? ⟨u8, 1, none⟩ = some lv ∧ wr.frozen? ⟨u8, 1, none⟩ = false :=
  ⟨by rw [cell_of_row _ _ _ _ _ _ h.one8]; rfl, by rw [cell_of_row _ _ _ _ _ _ h.one8]; rfl, by have := h.one8; unfold OneAt at this; simp [World.frozen?, this]⟩

set_option maxHeartbeats 16000000 in
theorem walk_TreeAnew (a : Int) (A : Option Addr) (n c : Nat) (ks : List ByteArray) (G : Option Addr) (gn gc : Nat) (gs : List ByteArray) (w : World) (ha : -9223372036854775808 ≤ a ∧ a ≤ 9223372036854775807) (h : SA w A n ks) (hnc : n ≤ c) (hc : c ≤ 1048576) (hg : SA w G gn gs) (hgnc : gn ≤ gc) (hgc : gc ≤ 1048576) :
    Calls Try.prog 6 #[.int .i64 a, .slice A n c, .slice G gn gc] w fun e w' => e = .returned (.bool true) ∧ Below w.heap.size w w' := by
  have hn : n ≤ 1048576 := Nat.le_trans hnc hc
  have hgn : gn ≤ 1048576 := Nat.le_trans hgnc hgc
  clear hnc hc hgnc hgc
  have LV := Lib.hid wlive
  by_cases h3 : a < 3
  · clear h hn hg hgn
    go_enter Try.func6, Try.ntmps6
    go_wp2_with (go_at_call 10; refine (LV.out _).mono ?_; rintro e w1 ⟨rfl, b1⟩; have B1 := Lib.hid b1; clear b1)
    go_ret
    exact ⟨rfl, B1.out⟩
  by_cases h64 : 64 < a
  · clear h hn hg hgn
    have h3' : (3 : Int) ≤ a := by omega
    go_enter Try.func6, Try.ntmps6
    go_wp2_with (go_at_call 10; refine (LV.out _).mono ?_; rintro e w1 ⟨rfl, b1⟩; have B1 := Lib.hid b1; clear b1)
    go_ret
    exact ⟨rfl, B1.out⟩
  obtain ⟨ord, rfl⟩ : ∃ ord : Nat, a = (ord : Int) := ⟨a.toNat, by omega⟩
  have CF := Lib.hid (wfilled (c := c) h hn ord (by omega) (by omega))
  have CG := Lib.hid (fun X (hX : Gw w X) => wfilled (c := gc) (hg.below hX) hgn ord (by omega) (by omega))
  have HA := Lib.hid h
  have HG := Lib.hid hg
  have HAL := Lib.hid h.1
  have HGL := Lib.hid hg.1
  have hP := fillN_rises ks n
  have hPk := fun k => fillN_keys ks k n
  have hPl := fillN_len ks n
  have hQk := fun k => fillN_keys gs k gn
  have hQl := fillN_len gs gn
  have hQ := fillN_rises gs gn
  rw [List.take_of_length_le (by rw [h.1]; exact Nat.le_refl _)] at hPk
  obtain ⟨P, hPe⟩ : ∃ P, fillN ks n = P := ⟨_, rfl⟩
  obtain ⟨Q0, hQe⟩ : ∃ Q0, fillN gs gn = Q0 := ⟨_, rfl⟩
  rw [hPe] at CF hP hPk hPl
  rw [hQe] at CG hQ hQk hQl
  have HP := Lib.hid (And.intro hP (And.intro hPk hPl))
  have HQ := Lib.hid (And.intro hQ (And.intro hQk hQl))
  have HN := Lib.hid (And.intro hn hgn)
  have h3' : (3 : Int) ≤ (ord : Int) := by omega
  have h64' : (ord : Int) ≤ 64 := by omega
  have hnb : (n : Int) ≤ 1048576 := by omega
  clear h hn hg hgn hP hPk hPl hQk hQl hQ hPe hQe ha h3 h64
  go_enter Try.func6, Try.ntmps6
  go_upto_region 4 with (first
    | (go_at_call 13; go_loud (refine CF.out.mono ?_; rintro e w1 ⟨T1, B1, m1, d1, rfl, t1, p1, -, b1, l1⟩; have T1H := Lib.hid t1; have P1 := Lib.hid p1; have L1 := Lib.hid l1; have G1 := Lib.hid (show Gw w w1 from b1); clear t1 p1 b1 l1 CF))
    | (go_at_call 13; go_loud (refine (CG.out _ G1.out).mono ?_; rintro e w2 ⟨T2, B2, m2, d2, rfl, t2, -, -, b2, l2⟩; have T2H := Lib.hid t2; have L2 := Lib.hid l2; have G2 := Lib.hid (show Gw w1 w2 from b2); clear t2 b2 l2 CG)))
  generalize hU : World.alloc (World.alloc w2 _) _ = U
  have rU1 : U.heap[w2.heap.size]? = some (.cells #[.pointer (some ⟨T1, 0, none⟩), .slice B1 m1 d1] 27 (0, 0)) := by rw [← hU]; exact heap_alloc2_old _ _ _
  have rU2 : U.heap[w2.heap.size + 1]? = some (.cells #[.pointer (some ⟨T2, 0, none⟩), .slice B2 m2 d2] 27 (0, 0)) := by rw [← hU]; exact heap_alloc2_new _ _ _
  have gU : Gw w2 U := by rw [← hU]; exact ((Gw.refl _).alloc _).alloc _
  have hT1l := T1H.out.lt
  have hT2l := T2H.out.lt
  have hs1 := Below.size G1.out
  have hs2 := Below.size G2.out
  have hl2 := L2.out
  have AN0 := Lib.hid (show AnAt w w2.heap.size (w2.heap.size + 1) T1 T2 ord B1 m1 d1 (.slice B2 m2 d2) P Q0 U from
    ⟨rU1, rU2, T1H.out.below (G2.out.trans gU), T2H.out.below gU, P1.out.gw (G2.out.trans gU), (G1.out.trans G2.out).trans gU, by omega, by refine ⟨by omega, by omega, by omega, by omega, by omega, by omega⟩⟩)
  obtain ⟨u8, hu8⟩ : ∃ u8, w2.heap.size + 1 = u8 := ⟨_, rfl⟩
  rw [hu8] at AN0 ⊢
  obtain ⟨u7, hu7⟩ : ∃ u7, w2.heap.size = u7 := ⟨_, rfl⟩
  rw [hu7] at AN0 ⊢
  have HM := Lib.hid P1.out.1
  clear hU rU1 rU2 gU hT1l hT2l hs1 hs2 hl2 hu8 hu7 T1H T2H L1 L2 G1 G2 P1
  obtain ⟨c70, c71⟩ := AN0.out.c7
  obtain ⟨c80, c81, -⟩ := AN0.out.c8
  go_upto_region 6 with (go_at_call 10; go_loud (refine (LV.out _).mono ?_; rintro e w3 ⟨rfl, b3⟩; have A3 := Lib.hid (AN0.out.gw b3); clear b3))
  clear c70 c71 c80 c81
  have i0 : IntKind.i64.wrap ((n : Int) - 1) = (n : Int) - 1 := by rw [IntKind.wrap_i64]; omega
  go_upto_region 7 with fail
  go_loopw [9] (fun i' wr => ∃ (i : Nat) (z : Int) (lv : Value) (Q : List Pr), i' = .int .i64 z ∧ z = (i : Int) - 1 ∧ i ≤ n ∧ AnAt w u7 u8 T1 T2 ord B1 m1 d1 lv P Q wr ∧ An1 P Q0 ks i Q ∧ Q.length ≤ 1048576 + (n - i)) (fun i' _ => (intOf i' + 1).toNat)
  case atStart => exact ⟨n, _, _, Q0, rfl, rfl, Nat.le_refl _, A3.out, ⟨HQ.out.1, fun p => by rw [List.drop_of_length_le (by rw [HAL.out]; exact Nat.le_refl _)]; simp⟩, by have := HQ.out.2.2; have := HN.out.2; omega⟩
  case round =>
    rename World => wr
    obtain ⟨i, z, lv, Q, rfl, hz, hi, hA, hQ, hql⟩ := hrel
    rcases Nat.eq_zero_or_pos i with hi0 | hi0
    · subst hi0
      obtain rfl : z = -1 := by omega
      have AE := Lib.hid hA
      have QE := Lib.hid (hQ.done (gs := gs) HP.out.1 HP.out.2.1)
      have HQL := Lib.hid hql
      clear hA hQ hql hi hz i0
      go_upto_region 12 with fail
      go_loopw [71] (fun j' wz => ∃ (j : Nat) (lv : Value) (Q : List Pr), j' = .int .i64 (j : Nat) ∧ j ≤ gn ∧ AnAt w u7 u8 T1 T2 ord B1 m1 d1 lv P Q wz ∧ An2 P Q0 gs j Q ∧ Q.length ≤ 3000000) (fun j' _ => gn - (intOf j').toNat)
      case atStart => exact ⟨0, lv, Q, rfl, Nat.zero_le _, AE.out, QE.out, by have := HQL.out; have := HN.out.1; omega⟩
      case round =>
        rename World => wz
        clear AE QE HQL
        obtain ⟨j, lv, Q, rfl, hj, hA, hQ, hql⟩ := hrel
        by_cases hlt : j < gn
        · obtain ⟨k, hk⟩ : ∃ k, gs[j]? = some k := ⟨_, List.getElem?_eq_getElem (by have := HGL.out; omega)⟩
          obtain ⟨ad, hAd, ck⟩ := (HG.out.below hA.be).at_ hk
          obtain ⟨c70, c71⟩ := hA.c7
          obtain ⟨c80, -, -⟩ := hA.c8
          have i1 : (j : Int) < (gn : Int) := by omega
          have ib : (j : Int) ≤ 1048576 := by have := HN.out.2; omega
          have CH := Lib.hid (wrefHas (c := d1) hA.pb (by have := HM.out; have := HP.out.2.2; have := HN.out.1; omega) k)
          have HLT := Lib.hid hlt
          subst hAd
          cases hh : has (keys P) k
          · rw [hh] at CH
            have CD := Lib.hid (wdelT hA.t2 (by omega) k)
            have DEL := Lib.hid (show ∀ Y, TreeAt Y T2 ord (delP Q k) → Xt T2 wz Y → AnAt w u7 u8 T1 T2 ord B1 m1 d1 lv P (delP Q k) Y from fun Y hY x => hA.xt hY x)
            have STEP := Lib.hid (hQ.step HP.out.1 hk hh)
            have SIZ := Lib.hid (show (delP Q k).length ≤ 3000000 by have := delP_len Q k; omega)
            clear hA hQ hql hj hlt hk hh
            go_wp2_with (first
              | (go_at_call 18; go_loud (refine CH.out.mono ?_; rintro e w4 ⟨rfl, hw⟩; replace hw := hw.symm; subst hw; clear CH))
              | (go_at_call 19; go_loud (refine CD.out.mono ?_; rintro e w5 ⟨rfl, t5, x5⟩; have A5 := Lib.hid (DEL.out _ t5 x5); clear t5 x5 CD)))
            go_roundw
            case rel => exact ⟨j + 1, lv, _, by go_num, HLT.out, A5.out, STEP.out, SIZ.out⟩
            case measure => have := HLT.out; simp [intOf]; omega
          · rw [hh] at CH
            have STEP := Lib.hid (hQ.keep hk hh)
            have HAZ := Lib.hid hA
            have SIZ := Lib.hid hql
            clear hA hQ hql hj hlt hk hh
            go_wp2_with (go_at_call 18; go_loud (refine CH.out.mono ?_; rintro e w4 ⟨rfl, hw⟩; replace hw := hw.symm; subst hw; clear CH))
            go_roundw
            case rel => exact ⟨j + 1, lv, _, by go_num, HLT.out, HAZ.out, STEP.out, SIZ.out⟩
            case measure => have := HLT.out; simp [intOf]; omega
        · obtain rfl : j = gn := by omega
          have i1 : ¬ (j : Int) < (j : Int) := by omega
          obtain rfl : Q = P := hQ.done HP.out.1 fun k hk => (HQ.out.2.1 k).1 hk
          have hpl : Q.length ≤ 1048576 := by have := HP.out.2.2; have := HN.out.1; omega
          obtain ⟨c70, c71⟩ := hA.c7
          obtain ⟨c80, c81, f81⟩ := hA.c8
          have HAS := Lib.hid (hA.set (.slice B1 m1 d1))
          clear hA hQ hql hj hlt
          go_upto_region 18 with fail
          generalize hX : World.setCell wz _ _ = X
          rw [hX] at HAS
          clear hX c70 c71 c80 c81 f81
          have CA8 := Lib.hid (wasksN HAS.out.one8 HAS.out.t2 HAS.out.pb hpl false ⟨#[]⟩ ⟨#[]⟩ 0 0 false)
          have CA7 := Lib.hid fun Y (hY : Gw X Y) => wasksN (HAS.out.gw hY).one7 (HAS.out.gw hY).t1 (HAS.out.gw hY).pb hpl false ⟨#[]⟩ ⟨#[]⟩ 0 0 false
          go_upto_region 20 with (first
            | (go_at_call 12; go_loud (refine CA8.out.mono ?_; rintro e w6 ⟨rfl, g6⟩; have G6 := Lib.hid (show Gw X w6 from g6); clear g6 CA8))
            | (go_at_call 12; go_loud (refine (CA7.out _ G6.out).mono ?_; rintro e w7 ⟨rfl, g7⟩; have A7 := Lib.hid (HAS.out.gw (G6.out.trans g7)); clear g7 CA7)))
          obtain ⟨c70, c71⟩ := A7.out.c7
          have hm1 := HM.out
          have hmb : (m1 : Int) ≤ 1048576 := by omega
          have HPL := Lib.hid hpl
          clear hm1 hpl
          go_upto_region 21 with fail
          clear c70 c71
          go_loopw [101] (fun i' wy => ∃ i : Nat, i' = .int .i64 (i : Nat) ∧ i ≤ m1 ∧ AnAt w u7 u8 T1 T2 ord B1 m1 d1 (.slice B1 m1 d1) Q Q wy) (fun i' _ => m1 - (intOf i').toNat)
          case atStart => exact ⟨0, rfl, Nat.zero_le _, A7.out⟩
          case round =>
            rename World => wy
            obtain ⟨i, rfl, hi, hA⟩ := hrel
            obtain ⟨c70, c71⟩ := hA.c7
            obtain ⟨c80, c81, -⟩ := hA.c8
            have HAY := Lib.hid hA
            by_cases hlt : i < m1
            · obtain ⟨⟨k, z⟩, hp⟩ : ∃ p, Q[i]? = some p := ⟨_, List.getElem?_eq_getElem (by have := HM.out; omega)⟩
              obtain ⟨b, o, hB, q0, q1⟩ := hA.pb.num hp
              have ib : (i : Int) ≤ 1048576 := by omega
              have i1 : (i : Int) < (m1 : Int) := by omega
              have HLT := Lib.hid hlt
              have CAT := Lib.hid fun X (hX : Gw wy X) => watT (hA.t2.below hX) (by have := HPL.out; omega) (i : Int)
              rw [atV_some hp] at CAT
              have gA := Lib.hid (show Gw wy (wy.alloc (.cells #[.string k, .int .i64 z] 43)) from (Gw.refl _).alloc _)
              have gR := heap_alloc_new wy (.cells #[.string k, .int .i64 z] 43)
              obtain ⟨Y, hY⟩ : ∃ Y, wy.alloc (.cells #[.string k, .int .i64 z] 43) = Y := ⟨_, rfl⟩
              rw [hY] at gA gR
              have p0 : Y.cell? ⟨wy.heap.size, 0, none⟩ = some (.string k) := by rw [cell_of_row _ _ _ _ _ _ gR]; rfl
              have p1 : Y.cell? ⟨wy.heap.size, 1, none⟩ = some (.int .i64 z) := by rw [cell_of_row _ _ _ _ _ _ gR]; rfl
              have y0 := keep_below c80 gA.out
              subst hB
              clear hA hlt hi hp gR c70 c71 c80 c81
              dsimp only at q0 q1
              go_wp2_with (go_at_call 20; go_loud (refine (CAT.out _ gA.out).mono ?_; rintro e w9 ⟨rfl, j9, rfl⟩))
              go_roundw
              case rel => exact ⟨i + 1, by go_num, HLT.out, HAY.out.gw (gA.out.drewN _)⟩
              case measure => have := HLT.out; simp [intOf]; omega
            · obtain rfl : i = m1 := by omega
              have i1 : ¬ (i : Int) < (i : Int) := by omega
              have CL := Lib.hid fun n => wlen (hA.t2.below ((Gw.refl wy).drewN n))
              have hQm : Q.length = i := HM.out
              rw [hQm] at CL
              clear hA hlt hi
              go_wp2
              go_quiet ((go_at_call 21; exact Calls.quiet_of_same (CL.out _)))
              go_wp2
              go_ret
              exact ⟨by simp, HAY.out.be.trans ((Gw.refl wy).drewN _)⟩
    · obtain ⟨p, hp⟩ : ∃ p, i = p + 1 := ⟨i - 1, by omega⟩
      obtain rfl : z = (p : Int) := by omega
      obtain ⟨k, hk⟩ : ∃ k, ks[p]? = some k := ⟨_, List.getElem?_eq_getElem (by have := HAL.out; omega)⟩
      have hh : has (keys P) k = true := (has_iff HP.out.1 k).2 ((HP.out.2.1 k).2 (List.mem_of_getElem? hk))
      obtain ⟨ad, hAd, ck⟩ := (HA.out.below hA.be).at_ hk
      obtain ⟨c70, c71⟩ := hA.c7
      obtain ⟨c80, -, -⟩ := hA.c8
      subst hp
      have STEP := Lib.hid (hQ.step HP.out.1 hk hh)
      have HIP := Lib.hid hi
      have i1 : (p : Int) < (n : Int) := by omega
      have i2 : (0 : Int) ≤ (p : Int) := by omega
      have i3 : IntKind.i64.wrap ((p : Int) - 1) = (p : Int) - 1 := by rw [IntKind.wrap_i64]; omega
      have AE := Lib.hid hA
      have HQL := Lib.hid hql
      obtain ⟨v, hv⟩ : ∃ v, (getP P k).1 = v := ⟨_, rfl⟩
      have CGT := Lib.hid fun X (hX : Gw wr X) => wrefGet (c := d1) (hA.pb.gw hX) (by have := HM.out; have := HP.out.2.2; have := HN.out.1; omega) k
      rw [hv] at CGT STEP
      have hv2 : (getP P k).2 = true := by rw [getP_has]; exact hh
      rw [hv2] at CGT
      have CPT := Lib.hid fun X (hX : Gw wr X) => wputT (hA.t2.below hX) (by omega) k v
      have PUT := Lib.hid (show ∀ X Y, Gw wr X → TreeAt Y T2 ord (putP Q k v) → Xt T2 X Y → AnAt w u7 u8 T1 T2 ord B1 m1 d1 lv P (putP Q k v) Y from fun X Y hX hY x => (hA.gw hX).xt hY x)
      have SIZ := Lib.hid (show (putP Q k v).length ≤ 1048576 + (n - p) by have := putP_len Q k v; split at this <;> omega)
      have K1 := Lib.hid (show ∀ X, Gw wr X → X.cell? ⟨u7, 1, none⟩ = some (.slice B1 m1 d1) ∧ X.cell? (ad.add p) = some (.string k) from fun X hX => ⟨keep_below c71 hX, keep_below ck hX⟩)
      have K2 := Lib.hid (show ∀ X, Gw wr X → X.cell? ⟨u8, 0, none⟩ = some (.pointer (some ⟨T2, 0, none⟩)) ∧ X.cell? (ad.add p) = some (.string k) from fun X hX => ⟨keep_below c80 hX, keep_below ck hX⟩)
      have K3 := Lib.hid (show ∀ Y, AnAt w u7 u8 T1 T2 ord B1 m1 d1 lv P (putP Q k v) Y → Y.cell? ⟨u8, 0, none⟩ = some (.pointer (some ⟨T2, 0, none⟩)) ∧ Y.cell? (ad.add p) = some (.string k) from fun Y hY => ⟨hY.c8.1, by
        obtain ⟨ad', e, q⟩ := (HA.out.below hY.be).at_ hk
        rw [hAd] at e; injection e with e; rw [e]; exact q⟩)
      subst hAd
      clear hA hQ hql hi hz i0 hk hh ck c70 c71 c80 hv hv2 hi0
      go_upto_region 9 with fail
      have hS0 := K1.out _ (Gw.refl wr)
      go_region_held3 (fun w' => w'.cell? ⟨u7, 1, none⟩ = some (.slice B1 m1 d1) ∧ w'.cell? (ad.add p) = some (.string k)) (first | exact hS0 | exact K1.out _ B4.out)
        ((go_at_call 16; go_loud (refine (CGT.out _ ((Gw.refl wr).drew)).mono ?_; rintro e w4 ⟨rfl, j4, h4⟩; have B4 := Lib.hid (show Gw wr w4 from by rw [h4]; exact ((Gw.refl wr).drew).drewN _); clear h4 CGT)))
      clear hS0
      go_upto_region 10 with fail
      have hS0 := K2.out _ B4.out
      go_region_held3 (fun w' => w'.cell? ⟨u8, 0, none⟩ = some (.pointer (some ⟨T2, 0, none⟩)) ∧ w'.cell? (ad.add p) = some (.string k)) (first | exact hS0 | exact K3.out _ A5.out)
        ((go_at_call 17; go_loud (refine (CPT.out _ (Gw.drew B4.out)).mono ?_; rintro e w5 ⟨rfl, t5, x5⟩; have A5 := Lib.hid (PUT.out _ _ (Gw.drew B4.out) t5 x5); clear t5 x5 CPT)))
      clear hS0
      go_wp2
      go_roundw
      case rel => exact ⟨p, (p : Int) - 1, lv, _, by go_num, rfl, by have := HIP.out; omega, A5.out, STEP.out, SIZ.out⟩
      case measure => simp [intOf] <;> omega
end Go.Proofs.Ytlhpoliiojekeaa
