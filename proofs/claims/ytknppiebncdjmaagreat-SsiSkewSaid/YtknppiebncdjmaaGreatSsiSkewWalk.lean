import Derived.Test.YtknppiebncdjmaaGreatSsSkM
import Derived.Test.YtknppiebncdjmaaGreatJAP
import Derived.Test.YtknppiebncdjmaaGreatJBL
/- The walk of SsiSkew: of two that read what the other one writes just one commits. -/
set_option linter.unusedVariables false
namespace Go.Proofs.YtknppiebncdjmaaGreat
set_option maxRecDepth 100000
set_option maxRecDepth 100000
open Go.RowKit

theorem neqLk (w : World) (a b c d : ByteArray) : (binOp .neq 42 (.agg #[.string a, .string b]) (.agg #[.string c, .string d])).run Tryz.prog w = .ok (.bool (!lkEq (a, b) (c, d))) w := by
  have h := eqLk w a b c d
  rw [run_eql_struct] at h
  rw [run_neq_struct]
  cases hr : (Op.equalIn 10000 42 (.agg #[.string a, .string b]) (.agg #[.string c, .string d])).run Tryz.prog w with
  | ok r w1 =>
    rw [hr] at h
    simp only [Result.andThen_ok, Result.ok.injEq, Value.bool.injEq] at h ⊢
    exact ⟨by rw [h.1], h.2⟩
  | halt x w1 => rw [hr] at h; simp [Result.andThen] at h

theorem wf_ofS {x : Int} (h : -9223372036854775808 ≤ x ∧ x ≤ 9223372036854775807) : (Lit.int .i64 x).wf = true := by
  simpa [Lit.wf, IntKind.min, IntKind.max, IntKind.bits, IntKind.signed] using h
set_option maxHeartbeats 16000000 in
theorem walk_SsiSkew (a0 a1 : Lk) (A2 : Option Addr) (n2 c2 : Nat) (z2 : List OpX) (a3 : Bool) (w : World) (ha0 : Sz2 a0) (ha1 : Sz2 a1) (h2 : RX w A2 n2 z2) (hn2 : n2 ≤ c2) (hc2 : c2 ≤ 1954687338211) :
    Calls Tryz.prog 9 #[.agg #[.string a0.1, .string a0.2], .agg #[.string a1.1, .string a1.2], .slice A2 n2 c2, .bool a3] w fun e w' => e = .returned (.bool true) ∧ Below w.heap.size w w' := by
  have hn : n2 ≤ 1954687338211 := Nat.le_trans hn2 hc2
  have CB := Lib.hid (fun W => wbegun10 W)
  obtain ⟨W, hW⟩ : ∃ W, (w.alloc (.cells #[.string a0.1, .string a0.2] 42)).alloc (.cells #[.string a1.1, .string a1.2] 42) = W := ⟨_, rfl⟩
  have HW := Lib.hid hW
  have hB : Below w.heap.size w W := by rw [← hW]; exact ((Below.refl _ _).alloc (Nat.le_refl _) _).alloc (by simp) _
  have q1 : W.heap[w.heap.size + 1]? = some (.cells #[.string a1.1, .string a1.2] 42 (0, 0)) := by
    rw [← hW, show w.heap.size + 1 = (w.alloc (.cells #[.string a0.1, .string a0.2] 42)).heap.size by simp]
    exact heap_alloc_new _ _
  have q0 : W.heap[w.heap.size]? = some (.cells #[.string a0.1, .string a0.2] 42 (0, 0)) := by
    rw [← hW]
    exact (Below.heap_alloc _ _ _ (by simp)).trans (heap_alloc_new w _)
  have x0 : W.cell? ⟨w.heap.size, 0, none⟩ = some (.string a0.1) := cell_of_row _ _ 0 _ _ _ q0
  have x1 : W.cell? ⟨w.heap.size, 1, none⟩ = some (.string a0.2) := cell_of_row _ _ 1 _ _ _ q0
  have y0 : W.cell? ⟨w.heap.size + 1, 0, none⟩ = some (.string a1.1) := cell_of_row _ _ 0 _ _ _ q1
  have y1 : W.cell? ⟨w.heap.size + 1, 1, none⟩ = some (.string a1.2) := cell_of_row _ _ 1 _ _ _ q1
  have HB := Lib.hid hB
  have H1 := Lib.hid (h2.below hB)
  have HN := Lib.hid hn
  have HA0 := Lib.hid ha0
  have HA1 := Lib.hid ha1
  have CN := Lib.hid (fun W => w10New W 64 1024 65536 4096 0 ⟨⟨by decide, by decide⟩, ⟨by decide, by decide⟩, ⟨by decide, by decide⟩, by decide, by decide⟩ (Int.le_refl _))
  obtain ⟨a, a'⟩ := a0
  obtain ⟨d, d'⟩ := a1
  dsimp only at x0 x1 y0 y1 HW
  have qE := fun W => eqLk W a a' d d'
  have E1 := Lib.hid (sk1)
  have E2 := Lib.hid (sk2)
  clear hW hB q0 q1 h2 hn hn2 hc2 ha0 ha1
  go_enter Tryz.func9, Tryz.ntmps9
  go_upto_region 1 with fail
  rw [HW.out]
  go_upto_region 4 with (first
    | (go_at_call 13; go_loud (refine (CB.out _).mono ?_; rintro e w2 ⟨rfl, b2⟩; have B2 := Lib.hid (below_next HB.out b2); have H2 := Lib.hid (H1.out.below b2); replace x0 := keep_below x0 b2; replace x1 := keep_below x1 b2; replace y0 := keep_below y0 b2; replace y1 := keep_below y1 b2; clear b2))
    | (go_at_call 11; go_loud (refine (CN.out _).mono ?_; rintro e w3 ⟨b, G, K, rfl, m3, g3, k3, b3⟩; have S3 := Lib.hid (show SkIs w2 cpMax b (new10 0) w3 from ⟨G, K, m3, g3, k3, b3⟩); clear m3 g3 k3 b3)))
  have XK := Lib.hid (fun V (g : Below w2.heap.size w2 V) => And.intro (keep_below x0 g) (And.intro (keep_below x1 g) (And.intro (keep_below y0 g) (keep_below y1 g))))
  clear x0 x1 y0 y1
  by_cases hab : (a, a') = (d, d')
  · have hq : lkEq (a, a') (d, d') = true := by rw [lkEq_is]; simpa using hab
    rw [hq] at qE
    obtain ⟨x0, x1, y0, y1⟩ := XK.out w3 S3.out.bel
    clear hab hq
    go_wp2
    go_ret
    exact ⟨rfl, below_next B2.out S3.out.bel⟩
  have hq : lkEq (a, a') (d, d') = false := lk_ne hab
  rw [hq] at qE
  have HAB := Lib.hid hab
  obtain ⟨x0, x1, y0, y1⟩ := XK.out w3 S3.out.bel
  have C1 := Lib.hid (S3.out.begin (bd_small (by decide) (by decide)) E1.out)
  clear hab hq
  go_upto_region 9 with (go_at_call 15; go_loud (refine C1.out.mono ?_; rintro e w4 ⟨rfl, s4⟩; have S4 := Lib.hid s4; clear s4))
  clear x0 x1 y0 y1 C1
  have C2 := Lib.hid (S4.out.begin (bd_small (by decide) (by decide)) E2.out)
  go_upto_region 12 with (go_at_call 15; go_loud (refine C2.out.mono ?_; rintro e w5 ⟨rfl, s5⟩; have S5 := Lib.hid s5; clear s5))
  clear C2
  have CR1 := Lib.hid (fun V (s : SkIs w2 cpMax b (skA []) V) => s.read (bd_small (by decide) (by decide)) (tx := 1) (by decide) HA1.out (sk3 [] (d, d') (by simp) (by simp)))
  have CR2 := Lib.hid (fun V (s : SkIs w2 cpMax b (skA []) V) => s.read (bd_small (by decide) (by decide)) (tx := 2) (by decide) HA0.out (sk4 [] (a, a') (by simp) (by simp)))
  have CR12 := Lib.hid (fun V (s : SkIs w2 cpMax b (skA [(1, rdK (d, d'))]) V) => s.read (bd_small (show (2 : Int) ≤ 2 by decide) (show (0 : Int) ≤ 5 by decide)) (tx := 2) (by decide) HA0.out (sk4 [(1, rdK (d, d'))] (a, a') (by simp) (by simp)))
  have CR21 := Lib.hid (fun V (s : SkIs w2 cpMax b (skA [(2, rdK (a, a'))]) V) => s.read (bd_small (show (2 : Int) ≤ 2 by decide) (show (0 : Int) ≤ 5 by decide)) (tx := 1) (by decide) HA1.out (sk3 [(2, rdK (a, a'))] (d, d') (by simp) (by simp)))
  have S0 := XK.out w5 S5.out.bel
  go_cut [16, 17] (fun r s wx => r = .int .i64 0 ∧ s = .int .i64 0 ∧ ∃ L, (1, rdK (d, d')) ∈ L ∧ (2, rdK (a, a')) ∈ L ∧ SkIs w2 cpMax b (skA L) wx)
  case first =>
    go_region_held3 (fun w' => w'.cell? ⟨w.heap.size, 0, none⟩ = some (.string a) ∧ w'.cell? ⟨w.heap.size, 1, none⟩ = some (.string a') ∧ w'.cell? ⟨w.heap.size + 1, 0, none⟩ = some (.string d) ∧ w'.cell? ⟨w.heap.size + 1, 1, none⟩ = some (.string d'))
      (first | exact S0 | exact SA | exact SB | exact SC)
      (first
        | (go_at_call 31; refine (CR12.out _ S6.out).mono ?_; rintro e w7 ⟨rfl, s7⟩; have SB := XK.out w7 s7.bel; have EL := Lib.hid (show ∃ L, (1, rdK (d, d')) ∈ L ∧ (2, rdK (a, a')) ∈ L ∧ SkIs w2 cpMax b (skA L) w7 from ⟨_, by simp, by simp, s7⟩); clear s7)
        | (go_at_call 31; refine (CR21.out _ S8.out).mono ?_; rintro e w7 ⟨rfl, s7⟩; have SB := XK.out w7 s7.bel; have EL := Lib.hid (show ∃ L, (1, rdK (d, d')) ∈ L ∧ (2, rdK (a, a')) ∈ L ∧ SkIs w2 cpMax b (skA L) w7 from ⟨_, by simp, by simp, s7⟩); clear s7)
        | (go_at_call 31; refine (CR1.out _ (S5.out.gw (Below.refl _ _).drew)).mono ?_; rintro e w6 ⟨rfl, s6⟩; have SA := XK.out w6 s6.bel; have S6 := Lib.hid s6; clear s6)
        | (go_at_call 31; refine (CR2.out _ (S5.out.gw (Below.refl _ _).drew)).mono ?_; rintro e w6 ⟨rfl, s6⟩; have SA := XK.out w6 s6.bel; have S8 := Lib.hid s6; clear s6))
    all_goals
      go_wp2
      go_meet
      exact ⟨rfl, rfl, EL.out⟩
  case rest =>
    obtain ⟨rfl, rfl, L, hL1, hL2, hS⟩ := hcut
    have SW := Lib.hid hS
    have HL1 := Lib.hid hL1
    have HL2 := Lib.hid hL2
    clear S0 hS hL1 hL2 CR1 CR2 CR12 CR21
    have BDA := Lib.hid (show Bd10 (skA L) from bd_small (show (2 : Int) ≤ 2 by decide) (show (0 : Int) ≤ 5 by decide))
    go_upto_region 14 with fail
    go_loopw [64] (fun i wr => ∃ j : Nat, i = .int .i64 (j : Nat) ∧ j ≤ n2 ∧ SkIs w2 cpMax b (skA L) wr) (fun i _ => n2 - (intOf i).toNat)
    case atStart => exact ⟨0, rfl, Nat.zero_le _, SW.out⟩
    case round =>
      rename World => wr
      obtain ⟨j, rfl, hj, hS⟩ := hrel
      by_cases hlt : j < n2
      · obtain ⟨x, hx⟩ : ∃ x, z2[j]? = some x := ⟨_, List.getElem?_eq_getElem (by have := H2.out.len; omega)⟩
        have HO := Lib.hid (H2.out.is x (List.mem_of_getElem? hx))
        obtain ⟨ab, ao, rfl, q0, q1, q2, q3, q4, q5⟩ := (H2.out.below hS.bel).at_ hx
        obtain ⟨xd, xt, ⟨tb, ky⟩, to_, xl⟩ := x
        dsimp only at q0 q1 q2 q3 q4 q5
        obtain ⟨Y, hY⟩ : ∃ Y, wr.alloc (.cells #[.int .i64 xd, .int .i64 xt, .string tb, .string ky, .string to_, .int .i64 xl] 44) = Y := ⟨_, rfl⟩
        have HY := Lib.hid hY
        have gY : Below wr.heap.size wr Y := by rw [← hY]; exact alloc_below10 _ _
        have rY : Y.heap[wr.heap.size]? = some (.cells #[.int .i64 xd, .int .i64 xt, .string tb, .string ky, .string to_, .int .i64 xl] 44 (0, 0)) := by rw [← hY]; exact heap_alloc_new _ _
        have e0 : Y.cell? ⟨wr.heap.size, 0, none⟩ = some (.int .i64 xd) := cell_of_row _ _ 0 _ _ _ rY
        have e1 : Y.cell? ⟨wr.heap.size, 1, none⟩ = some (.int .i64 xt) := cell_of_row _ _ 1 _ _ _ rY
        have e2 : Y.cell? ⟨wr.heap.size, 2, none⟩ = some (.string tb) := cell_of_row _ _ 2 _ _ _ rY
        have e3 : Y.cell? ⟨wr.heap.size, 3, none⟩ = some (.string ky) := cell_of_row _ _ 3 _ _ _ rY
        have SY := Lib.hid (hS.gw gY)
        obtain ⟨x0, x1, y0, y1⟩ := XK.out Y SY.out.bel
        have n1 := fun W => neqLk W tb ky a a'
        have n2' := fun W => neqLk W tb ky d d'
        have i1 : (j : Int) < (n2 : Int) := by omega
        have l1 : (j : Int) ≤ 1954687338211 := by have := HN.out; omega
        have HLT := Lib.hid hlt
        clear hj hlt hx gY rY hY hS
        go_upto_region 16 with fail
        rw [HY.out]
        clear q0 q1 q2 q3 q4 q5
        by_cases g1 : xt = 1
        · subst g1
          go_wp2
          go_roundw
          case rel => exact ⟨j + 1, by go_num, HLT.out, SY.out⟩
          case measure => have := HLT.out; simp [intOf]; omega
        have g1' : (xt != 1) = true := by simpa using g1
        by_cases g2 : xt = 2
        · subst g2
          go_wp2
          go_roundw
          case rel => exact ⟨j + 1, by go_num, HLT.out, SY.out⟩
          case measure => have := HLT.out; simp [intOf]; omega
        have g2' : (xt != 2) = true := by simpa using g2
        have CRX := Lib.hid (fun V (s : SkIs w2 cpMax b (skA L) V) => s.read BDA.out (tx := xt) (wf_ofS HO.out.rt) ⟨HO.out.tb, HO.out.ky⟩ (sk_none L g1 g2 (tb, ky)).1)
        have CWX := Lib.hid (fun V (s : SkIs w2 cpMax b (skA L) V) => s.write BDA.out (tx := xt) (wf_ofS HO.out.rt) ⟨HO.out.tb, HO.out.ky⟩ 0 (sk_none L g1 g2 (tb, ky)).2)
        cases hla : lkEq (tb, ky) (a, a')
        rotate_left
        · rw [hla] at n1
          go_wp2
          go_roundw
          case rel => exact ⟨j + 1, by go_num, HLT.out, SY.out⟩
          case measure => have := HLT.out; simp [intOf]; omega
        rw [hla] at n1
        cases hld : lkEq (tb, ky) (d, d')
        rotate_left
        · rw [hld] at n2'
          go_wp2
          go_roundw
          case rel => exact ⟨j + 1, by go_num, HLT.out, SY.out⟩
          case measure => have := HLT.out; simp [intOf]; omega
        rw [hld] at n2'
        clear g1 g2
        by_cases g3 : xd = 3
        · subst g3
          go_wp2_with (go_at_call 16; go_loud (refine (CWX.out _ SY.out).mono ?_; rintro e w8 ⟨rfl, s8⟩; have S8 := Lib.hid s8; clear s8))
          go_roundw
          case rel => exact ⟨j + 1, by go_num, HLT.out, S8.out⟩
          case measure => have := HLT.out; simp [intOf]; omega
        have g3' : (xd == 3) = false := by simpa using g3
        by_cases g4 : xd = 1
        · subst g4
          go_wp2_with (go_at_call 31; go_loud (refine (CRX.out _ SY.out).mono ?_; rintro e w8 ⟨rfl, s8⟩; have S8 := Lib.hid s8; clear s8))
          go_roundw
          case rel => exact ⟨j + 1, by go_num, HLT.out, S8.out⟩
          case measure => have := HLT.out; simp [intOf]; omega
        have g4' : (xd == 1) = false := by simpa using g4
        go_wp2
        go_roundw
        case rel => exact ⟨j + 1, by go_num, HLT.out, SY.out⟩
        case measure => have := HLT.out; simp [intOf]; omega
      · obtain rfl : j = n2 := by omega
        have i1 : ¬ (j : Int) < (j : Int) := by omega
        obtain ⟨x0, x1, y0, y1⟩ := XK.out wr hS.bel
        have CW1 := Lib.hid (hS.write BDA.out (tx := 1) (by decide) HA0.out 0 (sk5 (a, a') L HL2.out))
        clear hj hlt hS
        go_upto_region 24 with (go_at_call 16; go_loud (refine CW1.out.mono ?_; rintro e w8 ⟨rfl, s8⟩; have S8 := Lib.hid s8; obtain ⟨k0, k1, k2, k3⟩ := XK.out w8 s8.bel; clear s8))
        clear x0 x1 y0 y1 CW1
        have BD5 := Lib.hid (show Bd10 (skS5 (a, a') L) from bd_small (show (2 : Int) ≤ 2 by decide) (show (0 : Int) ≤ 5 by decide))
        cases a3
        · have CW2 := Lib.hid (S8.out.write BD5.out (tx := 2) (by decide) HA1.out 0 (sk7 (a, a') (d, d') L HAB.out HL1.out))
          have CC := Lib.hid (fun V (s : SkIs w2 cpMax b (skS7 (a, a') L) V) => s.commit (bd_small (show (2 : Int) ≤ 2 by decide) (show (0 : Int) ≤ 5 by decide)) (tx := 1) (by decide) (pair_eq (sk9 (a, a') L)))
          go_wp2_with (first
            | (go_at_call 16; go_loud (refine CW2.out.mono ?_; rintro e w9 ⟨rfl, s9⟩; have S9 := Lib.hid s9; clear s9))
            | (go_at_call 32; go_loud (refine (CC.out _ S9.out).mono ?_; rintro e w10 ⟨rfl, s10⟩; have S10 := Lib.hid s10; clear s10)))
          go_ret
          exact ⟨rfl, below_next B2.out S10.out.bel⟩
        · have CC := Lib.hid (S8.out.commit BD5.out (tx := 1) (by decide) (sk6 (a, a') L))
          have CW2 := Lib.hid (fun V (s : SkIs w2 cpMax b (skS6 (a, a') L) V) => s.write (bd_small (show (2 : Int) ≤ 2 by decide) (show (1 : Int) ≤ 5 by decide)) (tx := 2) (by decide) HA1.out 0 (pair_eq (sk8 (a, a') (d, d') L HAB.out HL1.out)))
          go_upto_region 28 with (go_at_call 32; go_loud (refine CC.out.mono ?_; rintro e w9 ⟨rfl, s9⟩; have S9 := Lib.hid s9; clear s9))
          clear k0 k1 k2 k3
          obtain ⟨k0, k1, k2, k3⟩ := XK.out w9 S9.out.bel
          go_wp2_with (go_at_call 16; go_loud (refine (CW2.out _ S9.out).mono ?_; rintro e w10 ⟨rfl, s10⟩; have S10 := Lib.hid s10; clear s10))
          go_ret
          exact ⟨rfl, below_next B2.out S10.out.bel⟩
open Go.Joins Go.Deep Go.ChangeShapes Go.WideShapes Go.ChangeAt Go.RowKit in
theorem open_aggS {H : Type} {enc : TypeId × Value → H} {P : Program} {w : World} {held : Bool} {r : Reach} {b0 : Nat} {t : TypeId} {fs : Array Field} {v : Value} {d : DataW H} {p : List MemPlace} (hs : P.underlying t = some (.struct fs))
    (hv : Value.okWide P w r b0 t v) (h : DataW.Trod enc P w 0 (fun _ => true) held t v d p) : ∃ (cs : List Value) (n : Nat), v = .agg cs.toArray ∧ DataW.trod enc P w 0 (fun _ => true) held n t cs = some (d, p) := by
  obtain ⟨cs, rfl, -⟩ := okWide_struct hs hv
  obtain ⟨n, hn⟩ := h
  exact ⟨cs.toList, n, rfl, hn⟩
end Go.Proofs.YtknppiebncdjmaaGreat
