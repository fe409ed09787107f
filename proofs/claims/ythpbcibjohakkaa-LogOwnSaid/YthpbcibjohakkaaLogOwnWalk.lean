/- The walk of LogOwn: true whatever comes in. -/
import Derived.Test.YthpbcibjohakkaaLOwnP
namespace Go.Proofs.Ythpbcibjohakkaa
set_option maxRecDepth 100000
set_option maxRecDepth 100000
open Go.RowKit

set_option maxHeartbeats 8000000 in
theorem walk_LogOwn (A0 : Option Addr) (n0 c0 : Nat) (z0 : List BsD) (w : World) (h0 : RBs w A0 n0 z0) (hn0 : n0 ≤ c0) (hc0 : c0 ≤ 5864062014806) :
    Calls Try.prog 7 #[.slice A0 n0 c0] w fun e w' => e = .returned (.bool true) ∧ Below w.heap.size w w' := by
  have CN := Lib.hid (dnew w 400 (by omega))
  have H0 := Lib.hid h0
  clear h0
  go_enter Try.func7, Try.ntmps7
  go_upto_region 4 with (first
    | (go_at_call 24; go_loud (refine CN.out.mono ?_; rintro e w1 (⟨h, -, -⟩ | ⟨-, d, rfl, hp, b1⟩); exact absurd (by omega) h; have P1 := Lib.hid hp.shut; have B1 := Lib.hid b1; clear CN hp b1))
    | (go_at_call 9; refine (wlive _).mono ?_; rintro e w' ⟨rfl, rfl⟩))
  have CF := Lib.hid (format_calm P1.out ⟨rfl, rfl, rfl⟩ (by simp [newS, newL]))
  go_upto_region 9 with (go_at_call 18; go_loud (refine CF.out.mono ?_; rintro e w2 ⟨L, S2, slot, m, rfl, hL, ho, hl2, hcl, -⟩; have O2 := Lib.hid ho; have CL2 := Lib.hid hcl; have HL2 := Lib.hid hL; clear CF hL ho hl2 hcl))
  have I2 := Lib.hid (show OwnI w w2 d L S2 (fun j => (Gr (fun k => w.heap.size ≤ k ∧ k < w1.heap.size) w1 j ∧ j ≠ L) ∧ j < w2.heap.size) (fun _ => False) slot m 1 [] (.slice none 0 0) [] from by
    have h1 := B1.out.size
    refine ⟨⟨CL2.out.pd.shut, CL2.out.calm, CL2.out.li, CL2.out.lg, fun hf => hf.1.2 rfl⟩, fun j hj => ⟨?_, hj.2⟩, by have := HL2.out; omega, Recs.nil _ _ _, fun j hj => hj.elim, B1.out.trans (O2.out.below h1 fun i hi hf => by have := hf.1; omega)⟩
    rcases hj.1.1 with h | h
    · exact h.1
    · omega)
  clear P1 B1 O2 CL2 HL2
  go_loopw [6, 8, 9, 10, 38] (fun v _ _ _ i wr => ∃ (k : Nat) (S : St) (F G : Nat → Prop) (slot : Nat) (m : Mk) (stamp : Nat) (srs : List (Nat × List Int)) (vs : List Value) (Av : Option Addr) (cv : Nat), i = .int .i64 (k : Nat) ∧ k ≤ n0 ∧ stamp ≤ 1 + k ∧ v = .slice Av srs.length cv ∧ OwnI w wr d L S F G slot m stamp srs v vs ∧ Apart v (srs.map (·.2)) vs) (fun _ _ _ _ i _ => n0 - (intOf i).toNat)
  case atStart => exact ⟨0, S2, _, _, slot, m, 1, [], [], none, 0, rfl, Nat.zero_le _, by omega, rfl, I2.out, apart_nil⟩
  case round =>
    clear I2
    obtain ⟨k, S, F, G, slot, m, stamp, srs, vs, Av, cv, rfl, hk, hst, rfl, hI, hap⟩ := hrel
    by_cases hlt : k < n0
    · obtain ⟨b, o, x, rfl, hx, hxis, hcell, hfar⟩ := H0.out.at_ hI.b hlt
      obtain ⟨X, xn, xc, zs⟩ := x
      have hxb := hxis.b
      have hxl := hxis.l
      have hxm := hxis.m
      simp only at hcell hfar hxb hxl hxm
      have hlen := hxb.len
      subst hlen
      have hki : (k : Int) < (n0 : Int) := by omega
      have HK := Lib.hid hlt
      have HST := Lib.hid hst
      have HAP := Lib.hid hap
      have HI := Lib.hid hI
      have HXB := Lib.hid hxb
      obtain ⟨W1, hW1⟩ : ∃ W, wr.alloc (.cells #[] 5) = W := ⟨_, rfl⟩
      have b1 : Below wr.heap.size wr W1 := by rw [← hW1]; exact (Below.refl _ _).alloc (Nat.le_refl _) _
      have B1 := Lib.hid b1
      have OB1 := Lib.hid (show OB wr.heap.size W1 (.slice (some ⟨wr.heap.size, 0, none⟩) 0 0) [] by rw [← hW1]; exact ob_empty wr)
      clear hx hI hxis hfar hlt hst hap hxb b1
      go_upto_region 12 with (at_builtin; refine ob_append rfl (.tmp 42) (.tmp 43) rfl wr.heap.size _ [] rfl OB1.out X zs.length xc zs rfl (HXB.out.below' B1.out) (by simp only [List.length_nil]; omega) B1.out.size ?_; intro v2 w2 ob2 bb2 gr2; have OB2 := Lib.hid ob2; have BB2 := Lib.hid bb2; clear gr2 ob2 bb2)
      simp only [List.nil_append] at OB2
      obtain ⟨A2, c2, rfl, r2, hc2, hm2⟩ := OB2.out.form
      have B02 := Lib.hid (show Below wr.heap.size wr w2 from B1.out.trans BB2.out)
      obtain ⟨W3, hW3⟩ : ∃ W, w2.alloc (.cells #[] 5) = W := ⟨_, rfl⟩
      have b3 : Below w2.heap.size w2 W3 := by rw [← hW3]; exact (Below.refl _ _).alloc (Nat.le_refl _) _
      have B3 := Lib.hid b3
      have OB3 := Lib.hid (show OB w2.heap.size W3 (.slice (some ⟨w2.heap.size, 0, none⟩) 0 0) [] by rw [← hW3]; exact ob_empty w2)
      have HM2 := Lib.hid (show c2 ≤ 9223372036854775807 by simp only [maxLen] at hm2; omega)
      have HC2 := Lib.hid hc2
      clear b3 r2 hc2 hm2 hW1
      go_upto_region 13 with (at_builtin; refine ob_append rfl (.tmp 45) (.tmp 46) rfl w2.heap.size _ [] rfl OB3.out X zs.length xc zs rfl ((HXB.out.below' B02.out).below' B3.out) (by simp only [List.length_nil]; omega) B3.out.size ?_; intro v4 w4 ob4 bb4 gr4; have OB4 := Lib.hid ob4; have BB4 := Lib.hid bb4; clear gr4 ob4 bb4)
      simp only [List.nil_append] at OB4
      obtain ⟨A4, c4, rfl, r4, hc4, hm4⟩ := OB4.out.form
      have HM4 := Lib.hid (show c4 ≤ 9223372036854775807 by simp only [maxLen] at hm4; omega)
      have HC4 := Lib.hid hc4
      have B24 := Lib.hid (show Below w2.heap.size w2 w4 from B3.out.trans BB4.out)
      have B04 := Lib.hid (show Below wr.heap.size wr w4 from B02.out.trans (B24.out.mono B02.out.size))
      have OM4 := Lib.hid (show OB wr.heap.size w4 (.slice A2 zs.length c2) zs from OB2.out.below B24.out)
      have HA2 := Lib.hid (show ∀ ad, A2 = some ad → wr.heap.size ≤ ad.block ∧ ad.block < w2.heap.size from ob_addr OB2.out)
      have HA4 := Lib.hid (show ∀ ad, A4 = some ad → w2.heap.size ≤ ad.block ∧ ad.block < w4.heap.size from ob_addr OB4.out)
      have I4 := Lib.hid (HI.out.below B04.out)
      obtain ⟨A2', c2', he2, rm4, -⟩ := OM4.out.form
      obtain ⟨rfl, rfl⟩ : A2 = A2' ∧ c2 = c2' := by injection he2 with e1 e2 e3; exact ⟨e1, e3⟩
      have CA := Lib.hid (I4.out.cl.append_any A2 zs.length c2 zs rm4 (fun ad e hp hf => by have := (HA2.out ad e).1; have := (HI.out.fs _ hf).2; omega) HC2.out HM2.out (by have := HST.out; unfold maxSt; omega))
      unfold AppIs at CA
      obtain ⟨q, hq⟩ : ∃ q, ansA zs.length (usedOf (srs.map (·.2))) (areaSize S.last.length) = q := ⟨_, rfl⟩
      rw [hq] at CA
      clear r4 hc4 hm4 hW3 he2 rm4 hq
      by_cases hq0 : q = 0
      · subst hq0
        go_upto_region 14 with (go_at_call 25; go_loud (refine CA.out.mono ?_; rintro e w5 ⟨rfl, o5, hyes, -⟩; obtain ⟨S5, hl5, hcl5⟩ := hyes rfl; have O5 := Lib.hid o5; have CL5 := Lib.hid hcl5; clear o5 hyes hcl5 hl5 CA))
        have HFL := Lib.hid (show ∀ j, (F j ∨ j = L) → w.heap.size ≤ j ∧ j < wr.heap.size from fun j hj => by
          rcases hj with hj | hj
          · exact HI.out.fs j hj
          · subst hj; exact ⟨HI.out.l0, HI.out.llt⟩)
        have OM5 := Lib.hid (OM4.out.out O5.out (fun j e hf => by
          have h1 := (HFL.out j hf).2
          have h2 := (OM4.out.lt j e).1
          omega))
        have OW5 := Lib.hid (OB4.out.out O5.out (fun j e hf => by
          have h1 := (HFL.out j hf).2
          have h2 := (OB4.out.lt j e).1
          have h3 := B02.out.size
          omega))
        obtain ⟨A5, c5, he5, rm5, -⟩ := OM5.out.form
        obtain ⟨rfl, rfl⟩ : A2 = A5 ∧ c2 = c5 := by injection he5 with e1 e2 e3; exact ⟨e1, e3⟩
        obtain ⟨A6, c6, he6, rw5, -⟩ := OW5.out.form
        obtain ⟨rfl, rfl⟩ : A4 = A6 ∧ c4 = c6 := by injection he6 with e1 e2 e3; exact ⟨e1, e3⟩
        have s1 := rb_str rm5 c2
        have s2 := rb_str rw5 c4
        have RW5 := Lib.hid rw5
        have CS := Lib.hid (scribble_ob _ wr.heap.size zs w5 OM5.out (by have := B04.out.size; have := O5.out.size; omega) (by omega))
        clear rm5 rw5 he5 he6
        go_upto_region 17 with (go_at_call 26; go_loud (refine CS.out.mono ?_; rintro e w6 ⟨⟨uu, rfl⟩, g6⟩; have G6 := Lib.hid g6; clear g6 CS))
        obtain ⟨W7, hW7⟩ : ∃ W, w6.alloc (.cells #[.slice A4 zs.length c4] 33) = W := ⟨_, rfl⟩
        have b7 : Below w6.heap.size w6 W7 := by rw [← hW7]; exact (Below.refl _ _).alloc (Nat.le_refl _) _
        have n7 := Lib.hid (show W7.heap[w6.heap.size]? = some (.cells #[.slice A4 zs.length c4] 33 (0, 0)) by rw [← hW7]; exact heap_alloc_new _ _)
        obtain ⟨own7, more7⟩ := HI.out.more HAP.out B04.out O5.out CL5.out G6.out (z2 := w2.heap.size) ⟨B02.out.size, B24.out.size⟩ (fun j e => by
          have h1 := HA2.out
          cases A2 with
          | none => simp [Value.ownBlock] at e
          | some ad =>
            obtain ⟨bb, oo, ss⟩ := ad
            have h2 := OM4.out.lt j e
            have h3 := h1 _ rfl
            have e2 : bb = j := by
              have := OM4.out.own.2
              rcases this with ⟨hv, _⟩ | ⟨g, cap, cur, hv, _⟩
              · cases hv
              · injection hv with hv1
                injection hv1 with hv1
                injection hv1 with hv2 hv3 hv4
                subst hv2
                subst hv3
                subst hv4
                simpa [Value.ownBlock] using e
            subst e2
            exact h3) HA4.out RW5.out HC4.out HM4.out b7
        have OW7 := Lib.hid own7
        have MO7 := Lib.hid more7
        have HFEW := Lib.hid (show srs.length ≤ 16384 from HI.out.cl.few)
        have HSZ7 := Lib.hid (show w.heap.size ≤ W7.heap.size from by have h1 := HI.out.b.size; have h2 := B04.out.size; have h3 := O5.out.size; have h4 := G6.out.size; have h5 := b7.size; omega)
        have HW7 := Lib.hid hW7
        clear own7 more7 b7 s1 s2 hW7
        go_wp2_with (at_builtin; rw [HW7.out]; go_loud (refine list_app_sl (by rfl) (.tmp 59) (.tmp 61) (by rfl) w.heap.size _ srs.length vs (by rfl) OW7.out w6.heap.size 1 (.slice A4 zs.length c4) (by rfl) n7.out rfl (by have := HFEW.out; omega) HSZ7.out ?_; intro g8 c8 w8 own8 gr8 at8; obtain ⟨F8, G8, vs8, i8, ap8⟩ := MO7.out g8 c8 w8 own8 gr8 at8; have I8 := Lib.hid i8; have AP8 := Lib.hid ap8; clear own8 gr8 at8 i8 ap8))
        go_roundw
        case rel => exact ⟨k + 1, S5, F8, G8, slot, m, stamp + 1, srs ++ [(stamp + 1, zs)], vs8, some ⟨g8, 0, none⟩, c8, by go_num, HK.out, by have := HST.out; omega, by rw [List.length_append]; rfl, I8.out, AP8.out⟩
        case measure => have := HK.out; simp [intOf]; omega
      · have hq1 : ((q : Int) != 0) = true := by simp; omega
        have HQ := Lib.hid hq0
        clear hq0
        go_wp2_with (go_at_call 25; go_loud (refine CA.out.mono ?_; rintro e w5 ⟨rfl, o5, -, hno⟩; have O5 := Lib.hid o5; have CL5 := Lib.hid (hno HQ.out); clear o5 hno CA))
        go_roundw
        case rel => exact ⟨k + 1, S, F, G, slot, m, stamp, srs, vs, Av, cv, by go_num, HK.out, by have := HST.out; omega, by simp, I4.out.keepLog O5.out CL5.out, HAP.out⟩
        case measure => have := HK.out; simp [intOf]; omega
    · obtain rfl : k = n0 := by omega
      obtain ⟨nn, hnn⟩ : ∃ nn, srs.length = nn := ⟨_, rfl⟩
      rw [hnn] at hI ⊢
      have HI := Lib.hid hI
      have HNN := Lib.hid hnn
      clear hI hap hst hlt hnn
      go_wp2
      go_loopw [11, 12, 13, 14, 64] (fun _ _ _ _ i wr => ∃ j : Nat, i = .int .i64 (j : Nat) ∧ j ≤ 2 ∧ OwnI w wr d L S F G slot m stamp srs (.slice Av nn cv) vs) (fun _ _ _ _ i _ => 2 - (intOf i).toNat)
      case atStart => exact ⟨0, rfl, by omega, HI.out⟩
      case round =>
        clear HI
        obtain ⟨j, rfl, hj, hI⟩ := hrel
        by_cases hj2 : j < 2
        · have hji : (j : Int) < 2 := by omega
          have HI := Lib.hid hI
          have HJ := Lib.hid hj2
          have OP := Lib.hid (open_calm hI.cl.pd hI.cl.calm hI.cl.li (fun k hk => (hI.fs k hk).2))
          clear hI hj2
          go_upto_region 22 with (go_at_call 23; go_loud (refine OP.out.mono ?_; rintro e w5 ⟨L5, v5, vs5, st5, -, rfl, hL5, b5, r5, -⟩; have B5 := Lib.hid b5; have R5 := Lib.hid r5; have HL5 := Lib.hid hL5; clear b5 r5 hL5 OP))
          obtain ⟨rs, hrs⟩ : ∃ rs, srs.map (·.2) = rs := ⟨_, rfl⟩
          have hrl0 : rs.length = nn := by rw [← hrs, List.length_map]; exact HNN.out
          have HRL := Lib.hid hrl0
          have HFEW := Lib.hid (show nn ≤ 16384 by rw [← HNN.out]; exact HI.out.cl.few)
          have hlong := used_each rs _ (by rw [← hrs]; exact HI.out.cl.li.used) (area_le HI.out.cl.li.hi)
          have HLONG := Lib.hid hlong
          have RA := R5.out
          rw [hrs] at RA
          obtain ⟨A5, c5, rfl, -⟩ := RA.form
          have RQ := HI.out.recs
          rw [hrs, ← HRL.out] at RQ
          have RQH := Lib.hid RQ
          have HCV := Lib.hid (own_cap RQ.own)
          have HC5 := Lib.hid (own_cap RA.own)
          have G5 := Lib.hid (GotI.start (wO := wr) RA B5.out (by have := HL5.out; omega))
          have SM := Lib.hid (rsameR w5 nn c5 cv (RA.recs (fun r hr => by have := hlong r hr; omega)).recR (RQ.below B5.out).recR HRL.out (by have := HFEW.out; omega))
          have hRL : rs.length = nn := HRL.out
          rw [hRL]
          clear RA RQ hlong hrl0 hrs R5 hRL
          have hnni : (nn : Int) ≤ 16384 := by have := HFEW.out; omega
          go_upto_region 24 with (go_at_call 27; go_loud (refine SM.out.mono ?_; rintro e w6 ⟨rfl, mm, hw6⟩; have G6 := Lib.hid (show GotI wr w6 (L5 + 1) (.slice A5 rs.length c5) rs vs5 0 by rw [hw6]; exact G5.out.drewN mm); clear hw6 SM))
          go_wp2
          go_loopw [14, 82] (fun _ i wq => ∃ q : Nat, i = .int .i64 (q : Nat) ∧ q ≤ nn ∧ GotI wr wq (L5 + 1) (.slice A5 rs.length c5) rs vs5 q) (fun _ i _ => nn - (intOf i).toNat)
          case atStart => exact ⟨0, rfl, Nat.zero_le _, G6.out⟩
          case round =>
            clear G6 G5
            obtain ⟨q, rfl, hq, hG⟩ := hrel
            by_cases hqn : q < nn
            · obtain ⟨r, hr⟩ : ∃ r, rs[q]? = some r := ⟨_, List.getElem?_eq_getElem (by rw [HRL.out]; exact hqn)⟩
              obtain ⟨g, hvg, hrow, hg0, hgv⟩ := hG.at_ q r (Nat.le_refl _) hr
              obtain ⟨ga, rfl⟩ : ∃ ga, A5 = some ⟨ga, 0, none⟩ := by
                rcases hG.own.2 with ⟨hv, h0⟩ | ⟨ga, c', cur, hv, _⟩
                · have := HRL.out; omega
                · injection hv with e1 e2 e3
                  exact ⟨ga, e1⟩
              have e1 : wr.cell? ⟨ga, q, none⟩ = some (.slice (some ⟨g, 0, none⟩) r.length r.length) := (hG.own.cellAt q (by have := HRL.out; omega)).trans hvg
              have hrm := List.mem_of_getElem? hr
              have hrlen := HLONG.out r hrm
              have CS := Lib.hid (scribble_ob _ g r wr (hrow.ob (hG.byte r hrm) (by omega) (Nat.le_refl _)) (Nat.le_of_lt hrow.lt) (by omega))
              have ST := Lib.hid (fun (W : World) (gr : wr.grownBy W (some g)) => hG.step hr hvg hg0 hgv gr)
              have HQ := Lib.hid hqn
              have hqi : (q : Int) < (nn : Int) := by omega
              obtain ⟨A6, hA6⟩ : ∃ A6, (if c5 = q + 1 then some (⟨ga, 0, none⟩ : Addr) else (some (⟨ga, 0, none⟩ : Addr)).map (·.add (q + 1))) = A6 := ⟨_, rfl⟩
              obtain ⟨A7, hA7⟩ : ∃ A7, (if cv = q + 1 then Av else Av.map (·.add (q + 1))) = A7 := ⟨_, rfl⟩
              have hsl6 : ∀ W, (Instr.slice 25 (.slice (some ⟨ga, 0, none⟩) nn c5) (some (.int .i64 ((q : Int) + 1))) none none).run Try.prog W = .ok (.slice A6 (nn - (q + 1)) (c5 - (q + 1))) W := fun W => by
                have := run_fromS W (some ⟨ga, 0, none⟩) nn c5 (q + 1) (by omega)
                rw [hA6, show ((q + 1 : Nat) : Int) = (q : Int) + 1 from by omega] at this
                exact this
              have hsl7 : ∀ W, (Instr.slice 25 (.slice Av nn cv) (some (.int .i64 ((q : Int) + 1))) none none).run Try.prog W = .ok (.slice A7 (nn - (q + 1)) (cv - (q + 1))) W := fun W => by
                have := run_fromS W Av nn cv (q + 1) (by omega)
                rw [hA7, show ((q + 1 : Nat) : Int) = (q : Int) + 1 from by omega] at this
                exact this
              have hsa6 : ∀ W, (Instr.sliceAt 25 (.slice (some ⟨ga, 0, none⟩) nn c5) (some (.int .i64 ((q : Int) + 1))) none none).run Try.prog W = .ok (.slice A6 (nn - (q + 1)) (c5 - (q + 1))) W := fun W => by
                rw [run_sliceAt_slice W 25 _ _ _ _ Try.underlying25]; exact hsl6 W
              have hsa7 : ∀ W, (Instr.sliceAt 25 (.slice Av nn cv) (some (.int .i64 ((q : Int) + 1))) none none).run Try.prog W = .ok (.slice A7 (nn - (q + 1)) (cv - (q + 1))) W := fun W => by
                rw [run_sliceAt_slice W 25 _ _ _ _ Try.underlying25]; exact hsl7 W
              have HA6 := Lib.hid hA6
              have HA7 := Lib.hid hA7
              have HGB := Lib.hid hG.b
              clear hG hr hvg hrow hg0 hgv hrm hrlen hqn hA6 hA7
              go_upto_region 28 with (go_at_call 26; go_loud (refine CS.out.mono ?_; rintro e w8 ⟨⟨uu, rfl⟩, g8⟩; have G8 := Lib.hid (ST.out w8 g8); clear g8 CS ST))
              have hqn2 : q + 1 ≤ rs.length := by have := HQ.out; have := HRL.out; omega
              have R6 := G8.out.recR hqn2 HC5.out
              rw [HA6.out] at R6
              have R7 := (RQH.out.below G8.out.b).recRfrom hqn2 HCV.out
              rw [HA7.out] at R7
              have SM := Lib.hid (fun m => rsameR (w8.drewN m) (nn - (q + 1)) (c5 - (q + 1)) (cv - (q + 1)) (R6.drewN m) (R7.drewN m) (by rw [List.length_drop, HRL.out]) (by have := HFEW.out; omega))
              clear R6 R7 hqn2 e1
              go_quiet ((go_at_call 27; exact Calls.quiet_of (SM.out _)))
              have G9 := Lib.hid (G8.out.drewN nq)
              go_wp2
              go_roundw
              case rel => exact ⟨q + 1, by go_num, HQ.out, G9.out⟩
              case measure => have := HQ.out; simp [intOf]; omega
            · obtain rfl : q = nn := by omega
              have I7 := Lib.hid (HI.out.below hG.b)
              clear hG
              go_wp2
              go_roundw
              case rel => exact ⟨j + 1, by go_num, HJ.out, I7.out⟩
              case measure => have := HJ.out; simp [intOf]; omega
        · obtain rfl : j = 2 := by omega
          have HB9 := Lib.hid hI.b
          clear hI
          go_wp2
          go_ret
          exact ⟨rfl, HB9.out⟩
end Go.Proofs.Ythpbcibjohakkaa
