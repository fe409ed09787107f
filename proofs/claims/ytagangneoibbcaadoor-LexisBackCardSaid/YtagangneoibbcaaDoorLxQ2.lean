/- Layer 12: the walk of quoted (made by wip/gen/mklxq.py). -/
import Derived.Test.YtagangneoibbcaaDoorLxQ
set_option linter.unusedVariables false
namespace Go.Proofs.YtagangneoibbcaaDoor
set_option maxRecDepth 100000
set_option maxRecDepth 100000
open Go.RowKit
section
variable {w : World} {g i : Nat} {s : ByteArray} {x : Tk} {f p : Int}
set_option maxHeartbeats 16000000 in
theorem wQuoted (h : Rd w g s i x f p) (hi : i < s.size) (hs : s.size ≤ 65536) :
    Calls Tryd.prog 39 #[.pointer (some ⟨g, 0, none⟩)] w (QuotedIs (strB s) i g s x f p w) := by
  have hg0 := Lib.hid h.lt
  obtain ⟨L, hL⟩ : ∃ L, strB s = L := ⟨_, rfl⟩
  have HLS := Lib.hid hL.symm
  have HLL := Lib.hid (show L.length = s.size by rw [← hL]; exact strB_len s)
  have HH := Lib.hid h
  rw [hL]
  clear hL h
  go_enter Tryd.func39, Tryd.ntmps39
  go_wp2
  refine wp_scope_gotos3 rfl rfl rfl (JQ L i g s x f p w) (fun _ _ W => s.size - posW W g) (fun l a W h => h.lt) ?_ ?_ ?_ ?_
  case refine_1 =>
    go_wp2
    go_step3
    have hF0 : qtP (L.drop (i + 1)) = upQ [] 0 (qtP (L.drop (i + 1))) := by rw [upQ_nil]
    obtain ⟨j, hj0, hj, R, hF1⟩ : ∃ j, j = i ∧ j < s.size ∧ Rd w g s j x f p ∧ qtP (L.drop (i + 1)) = upQ [] 0 (qtP (L.drop (j + 1))) := ⟨i, rfl, hi, HH.out, hF0⟩
    obtain ⟨zs, k, hzk, hkj, ob, hF⟩ : ∃ (zs : List Int) (k : Nat), zs.length ≤ k ∧ j = i + k ∧ OB w.heap.size w (.slice none 0 0) zs ∧ qtP (L.drop (i + 1)) = upQ zs k (qtP (L.drop (j + 1))) := ⟨[], 0, by simp, by omega, OB.nil _ _, hF1⟩
    have o : Out (fun k => k = g) w w := Out.refl _ _
    clear hF0 hj0 hF1
    have c1 : w.cell? ⟨g, 1, none⟩ = some (.int .i64 (j : Nat)) := R.cell 1
    have f1 := R.frozen 1
    obtain ⟨q, hq⟩ : ∃ q, j + 1 = q := ⟨_, rfl⟩
    have R1 := Lib.hid (R.inc)
    rw [hq] at R1
    have HQ := Lib.hid hq
    have bq : (q : Int) < 65537 := by omega
    have bq0 : (0 : Int) ≤ (q : Int) := by omega
    clear hq
    have O1 := Lib.hid (o.then (setCell_out (o := 1) (.int .i64 ((j : Int) + 1))))
    have OB1 := Lib.hid (ob.out (setCell_out (o := 1) (.int .i64 ((j : Int) + 1))) hg0.out)
    have CL := Lib.hid (wLook R1.out (by have := HQ.out; omega) hs)
    rw [← HQ.out] at CL
    have HPOS := Lib.hid R.pos
    have hsz := Lib.hid (Nat.le_trans (Nat.le_of_lt hg0.out) o.size)
    have hbz := Lib.hid o.size
    have b1 : (j : Int) < 65536 := by omega
    have b0 : (0 : Int) ≤ (j : Int) := by omega
    have zl := Lib.hid (show zs.length ≤ 65536 by omega)
    have hjl := Lib.hid hj
    have KJ := Lib.hid hkj
    have KZ := Lib.hid hzk
    have HF := Lib.hid hF
    clear R ob o hj hkj hzk hF
    obtain ⟨ch, hch⟩ : ∃ ch, chP L (j + 1) = ch := ⟨_, rfl⟩
    have hcb0 := chP_le s (j + 1)
    rw [← HLS.out, hch] at hcb0
    have CL2 := Lib.hid (show Calls Tryd.prog 38 #[.pointer (some ⟨g, 0, none⟩)] (w.setCell ⟨g, 1, none⟩ (.int .i64 ((j : Int) + 1))) fun e w' => e = .returned (.int .i32 ch) ∧ ∃ n, w' = (w.setCell ⟨g, 1, none⟩ (.int .i64 ((j : Int) + 1))).drewN n by have := CL.out; rwa [← HLS.out, hch] at this)
    have HD := Lib.hid (show ch ≠ -1 → j + 1 < s.size ∧ L.drop (j + 1) = ch :: L.drop (j + 1 + 1) from fun h => by
      by_cases hlt : j + 1 < s.size
      · exact ⟨hlt, by rw [← hch]; exact chP_in (by rw [HLL.out]; exact hlt)⟩
      · exact absurd (hch.symm.trans (chP_end L (j + 1) (by rw [HLL.out]; omega))) h)
    have HN := Lib.hid (show ch = -1 → L.drop (j + 1) = [] from fun h => by
      by_cases hlt : j + 1 < s.size
      · exfalso
        have h2 := chP_at s (j + 1) hlt
        rw [← HLS.out, hch, h] at h2
        omega
      · exact List.drop_eq_nil_of_le (by rw [HLL.out]; omega))
    clear hch CL
    by_cases h34 : ch = 34
    · have HE := Lib.hid (show qtP (L.drop (i + 1)) = (some zs, k + 1) by rw [HF.out, (HD.out (by omega)).2, h34, qt_end]; simp [upQ])
      have e34 : (ch == 34) = true := by simpa using h34
      clear h34 HD HN
      go_wp2_with (first | (go_at_call 38; go_loud (refine (CL2.out).mono ?_; rintro e w1 ⟨rfl, n1, hw1⟩; have R2 := Lib.hid (show Rd w1 g s (q) x f p by rw [hw1]; exact R1.out.drewN n1); have OB2 := Lib.hid (OB1.out.out (Out.drewN (Out.refl (fun k => k = g) _) n1) hg0.out); rw [← hw1] at OB2; have O2 := Lib.hid (show Out (fun k => k = g) w w1 by rw [hw1]; exact O1.out.drewN n1); have c2 := R2.out.cell 1; rw [show (rdC s q x f p)[1]? = some (.int .i64 (q : Nat)) from rfl] at c2; have f2 := R2.out.frozen 1; clear hw1)))
      rw [ExJ_ret]
      go_ret2
      have R3 := R2.out.inc
      exact QuotedIs.yes (n := k + 1) HE.out (O2.out.then (setCell_out _)) ((show q + 1 = i + 1 + (k + 1) from by have := KJ.out; have := HQ.out; omega) ▸ R3) (OB2.out.out (setCell_out _) hg0.out)
    have e34 : (ch == 34) = false := by simpa using h34
    by_cases h92 : ch = 92
    · have hlt := Lib.hid (HD.out (by omega)).1
      have HE := Lib.hid (show qtP (L.drop (i + 1)) = upQ zs k (qtP (92 :: L.drop (j + 1 + 1))) by rw [HF.out, (HD.out (by omega)).2, h92])
      have e92 : (ch == 92) = true := by simpa using h92
      clear h92 h34 HD HN
      go_wp2_with (first | (go_at_call 38; go_loud (refine (CL2.out).mono ?_; rintro e w1 ⟨rfl, n1, hw1⟩; have R2 := Lib.hid (show Rd w1 g s (q) x f p by rw [hw1]; exact R1.out.drewN n1); have OB2 := Lib.hid (OB1.out.out (Out.drewN (Out.refl (fun k => k = g) _) n1) hg0.out); rw [← hw1] at OB2; have O2 := Lib.hid (show Out (fun k => k = g) w w1 by rw [hw1]; exact O1.out.drewN n1); have c2 := R2.out.cell 1; rw [show (rdC s q x f p)[1]? = some (.int .i64 (q : Nat)) from rfl] at c2; have f2 := R2.out.frozen 1; clear hw1)))
      go_step3
      first | exact ⟨JQ.mk' (zs) (q) _ rfl (R2.out) (OB2.out) (O2.out) (by have := hlt.out; have := HQ.out; omega) (.inr (.inl ⟨rfl, k, by have := KJ.out; have := HQ.out; omega, KZ.out, by have := HE.out; rwa [HQ.out] at this⟩)), by rw [(R2.out).pos, HPOS.out]; have := hlt.out; have := HQ.out; omega⟩ | exact JQ.mk' (zs) (q) _ rfl (R2.out) (OB2.out) (O2.out) (by have := hlt.out; have := HQ.out; omega) (.inr (.inl ⟨rfl, k, by have := KJ.out; have := HQ.out; omega, KZ.out, by have := HE.out; rwa [HQ.out] at this⟩))
    have e92 : (ch == 92) = false := by simpa using h92
    have CP := Lib.hid fun W => wPlain ch W
    rcases hp : plnB ch with _ | _
    · have HE := Lib.hid (show qtP (L.drop (i + 1)) = (none, k) by
        rw [HF.out]
        by_cases h1 : ch = -1
        · rw [HN.out h1, qt_nil]; simp [upQ]
        · rw [(HD.out h1).2, qt_bad hp h34 h92]; simp [upQ])
      rw [hp] at CP
      clear h34 h92 HD HN hp
      go_wp2_with (first | (go_at_call 38; go_loud (refine (CL2.out).mono ?_; rintro e w1 ⟨rfl, n1, hw1⟩; have R2 := Lib.hid (show Rd w1 g s (q) x f p by rw [hw1]; exact R1.out.drewN n1); have OB2 := Lib.hid (OB1.out.out (Out.drewN (Out.refl (fun k => k = g) _) n1) hg0.out); rw [← hw1] at OB2; have O2 := Lib.hid (show Out (fun k => k = g) w w1 by rw [hw1]; exact O1.out.drewN n1); have c2 := R2.out.cell 1; rw [show (rdC s q x f p)[1]? = some (.int .i64 (q : Nat)) from rfl] at c2; have f2 := R2.out.frozen 1; clear hw1)) | (go_at_call 59; go_loud (refine (CP.out _).mono ?_; rintro e w2 ⟨rfl, rfl⟩)))
      rw [ExJ_ret]; go_ret2; exact QuotedIs.no (n := k) HE.out O2.out ((show q = i + 1 + (k) from by have := KJ.out; have := HQ.out; omega) ▸ R2.out)
    · have h1 : ch ≠ -1 := by rintro rfl; simp [plnB] at hp
      have hlt := Lib.hid (HD.out h1).1
      have HE := Lib.hid (show qtP (L.drop (i + 1)) = upQ (zs ++ [ch]) (k + 1) (qtP (L.drop (j + 1 + 1))) by rw [HF.out, (HD.out h1).2, qt_plain hp, upQ_upQ])
      have hcb : 0 ≤ ch ∧ ch ≤ 255 := by omega
      obtain ⟨hc0, hc1⟩ := hcb
      have hcb : 0 ≤ ch ∧ ch ≤ 255 := ⟨hc0, hc1⟩
      rw [hp] at CP
      clear h34 h92 HD HN hp h1
      go_wp2_with (first | (go_at_call 38; go_loud (refine (CL2.out).mono ?_; rintro e w1 ⟨rfl, n1, hw1⟩; have R2 := Lib.hid (show Rd w1 g s (q) x f p by rw [hw1]; exact R1.out.drewN n1); have OB2 := Lib.hid (OB1.out.out (Out.drewN (Out.refl (fun k => k = g) _) n1) hg0.out); rw [← hw1] at OB2; have O2 := Lib.hid (show Out (fun k => k = g) w w1 by rw [hw1]; exact O1.out.drewN n1); have c2 := R2.out.cell 1; rw [show (rdC s q x f p)[1]? = some (.int .i64 (q : Nat)) from rfl] at c2; have f2 := R2.out.frozen 1; clear hw1)) | (go_at_call 59; go_loud (refine (CP.out _).mono ?_; rintro e w2 ⟨rfl, rfl⟩)) | (at_builtin; go_loud (refine ob_append rfl (.tmp 35) (.tmp 38) rfl w.heap.size _ zs rfl (OB2.out.alloc _) _ 1 1 [ch] rfl (rb_one1 _ _ hcb) (by have := zl.out; omega) (Nat.le_trans O2.out.size (by simp)) ?_; intro v' w3 hown' hb3 hg3; have OB3 := Lib.hid hown'; have O3 := Lib.hid (((O2.out).alloc _).thenB hb3 (Nat.le_refl _)); have R3 := Lib.hid ((R2.out.below ((Below.refl _ _).alloc (Nat.le_refl _) _)).belowB hb3 hg0.out); obtain ⟨A', c', hv', -, -, -⟩ := hown'.form; rw [show (zs ++ [ch]).length = zs.length + 1 by simp] at hv'; subst hv'; clear hown' hb3 hg3)))
      go_step3
      first | exact ⟨JQ.mk' (zs ++ [ch]) (q) _ rfl (R3.out) (OB3.out) (O3.out) (by have := hlt.out; have := HQ.out; omega) (.inl ⟨rfl, k + 1, by have := KJ.out; have := HQ.out; omega, by have := KZ.out; simp; omega, by have := HE.out; rwa [HQ.out] at this⟩), by rw [(R3.out).pos, HPOS.out]; have := hlt.out; have := HQ.out; omega⟩ | exact JQ.mk' (zs ++ [ch]) (q) _ rfl (R3.out) (OB3.out) (O3.out) (by have := hlt.out; have := HQ.out; omega) (.inl ⟨rfl, k + 1, by have := KJ.out; have := HQ.out; omega, by have := KZ.out; simp; omega, by have := HE.out; rwa [HQ.out] at this⟩)
  case refine_2 =>
    rintro _ W ⟨zs, j, v, u, rfl, R, ob, o, hj, ph⟩
    obtain ⟨k, hkj, hzk, hF⟩ : ∃ k, j = i + k ∧ zs.length ≤ k ∧ qtP (L.drop (i + 1)) = upQ zs k (qtP (L.drop (j + 1))) := by
      rcases ph with ⟨h, k, hk⟩ | ⟨h, k, hk⟩ | ⟨h, k, hk⟩
      · first | exact ⟨k, hk⟩ | (exfalso; omega)
      · first | exact ⟨k, hk⟩ | (exfalso; omega)
      · first | exact ⟨k, hk⟩ | (exfalso; omega)
    obtain ⟨A, c, rfl, -, -, -⟩ := ob.form
    unfold fq
    have c1 : W.cell? ⟨g, 1, none⟩ = some (.int .i64 (j : Nat)) := R.cell 1
    have f1 := R.frozen 1
    obtain ⟨q, hq⟩ : ∃ q, j + 1 = q := ⟨_, rfl⟩
    have R1 := Lib.hid (R.inc)
    rw [hq] at R1
    have HQ := Lib.hid hq
    have bq : (q : Int) < 65537 := by omega
    have bq0 : (0 : Int) ≤ (q : Int) := by omega
    clear hq
    have O1 := Lib.hid (o.then (setCell_out (o := 1) (.int .i64 ((j : Int) + 1))))
    have OB1 := Lib.hid (ob.out (setCell_out (o := 1) (.int .i64 ((j : Int) + 1))) hg0.out)
    have CL := Lib.hid (wLook R1.out (by have := HQ.out; omega) hs)
    rw [← HQ.out] at CL
    have HPOS := Lib.hid R.pos
    have hsz := Lib.hid (Nat.le_trans (Nat.le_of_lt hg0.out) o.size)
    have hbz := Lib.hid o.size
    have b1 : (j : Int) < 65536 := by omega
    have b0 : (0 : Int) ≤ (j : Int) := by omega
    have zl := Lib.hid (show zs.length ≤ 65536 by omega)
    have hjl := Lib.hid hj
    have KJ := Lib.hid hkj
    have KZ := Lib.hid hzk
    have HF := Lib.hid hF
    clear R ob o hj hkj hzk hF
    obtain ⟨ch, hch⟩ : ∃ ch, chP L (j + 1) = ch := ⟨_, rfl⟩
    have hcb0 := chP_le s (j + 1)
    rw [← HLS.out, hch] at hcb0
    have CL2 := Lib.hid (show Calls Tryd.prog 38 #[.pointer (some ⟨g, 0, none⟩)] (W.setCell ⟨g, 1, none⟩ (.int .i64 ((j : Int) + 1))) fun e w' => e = .returned (.int .i32 ch) ∧ ∃ n, w' = (W.setCell ⟨g, 1, none⟩ (.int .i64 ((j : Int) + 1))).drewN n by have := CL.out; rwa [← HLS.out, hch] at this)
    have HD := Lib.hid (show ch ≠ -1 → j + 1 < s.size ∧ L.drop (j + 1) = ch :: L.drop (j + 1 + 1) from fun h => by
      by_cases hlt : j + 1 < s.size
      · exact ⟨hlt, by rw [← hch]; exact chP_in (by rw [HLL.out]; exact hlt)⟩
      · exact absurd (hch.symm.trans (chP_end L (j + 1) (by rw [HLL.out]; omega))) h)
    have HN := Lib.hid (show ch = -1 → L.drop (j + 1) = [] from fun h => by
      by_cases hlt : j + 1 < s.size
      · exfalso
        have h2 := chP_at s (j + 1) hlt
        rw [← HLS.out, hch, h] at h2
        omega
      · exact List.drop_eq_nil_of_le (by rw [HLL.out]; omega))
    clear hch CL
    by_cases h34 : ch = 34
    · have HE := Lib.hid (show qtP (L.drop (i + 1)) = (some zs, k + 1) by rw [HF.out, (HD.out (by omega)).2, h34, qt_end]; simp [upQ])
      have e34 : (ch == 34) = true := by simpa using h34
      clear h34 HD HN
      go_wp2_with (first | (go_at_call 38; go_loud (refine (CL2.out).mono ?_; rintro e w1 ⟨rfl, n1, hw1⟩; have R2 := Lib.hid (show Rd w1 g s (q) x f p by rw [hw1]; exact R1.out.drewN n1); have OB2 := Lib.hid (OB1.out.out (Out.drewN (Out.refl (fun k => k = g) _) n1) hg0.out); rw [← hw1] at OB2; have O2 := Lib.hid (show Out (fun k => k = g) w w1 by rw [hw1]; exact O1.out.drewN n1); have c2 := R2.out.cell 1; rw [show (rdC s q x f p)[1]? = some (.int .i64 (q : Nat)) from rfl] at c2; have f2 := R2.out.frozen 1; clear hw1)))
      rw [ExJ_ret]
      go_ret2
      have R3 := R2.out.inc
      exact QuotedIs.yes (n := k + 1) HE.out (O2.out.then (setCell_out _)) ((show q + 1 = i + 1 + (k + 1) from by have := KJ.out; have := HQ.out; omega) ▸ R3) (OB2.out.out (setCell_out _) hg0.out)
    have e34 : (ch == 34) = false := by simpa using h34
    by_cases h92 : ch = 92
    · have hlt := Lib.hid (HD.out (by omega)).1
      have HE := Lib.hid (show qtP (L.drop (i + 1)) = upQ zs k (qtP (92 :: L.drop (j + 1 + 1))) by rw [HF.out, (HD.out (by omega)).2, h92])
      have e92 : (ch == 92) = true := by simpa using h92
      clear h92 h34 HD HN
      go_wp2_with (first | (go_at_call 38; go_loud (refine (CL2.out).mono ?_; rintro e w1 ⟨rfl, n1, hw1⟩; have R2 := Lib.hid (show Rd w1 g s (q) x f p by rw [hw1]; exact R1.out.drewN n1); have OB2 := Lib.hid (OB1.out.out (Out.drewN (Out.refl (fun k => k = g) _) n1) hg0.out); rw [← hw1] at OB2; have O2 := Lib.hid (show Out (fun k => k = g) w w1 by rw [hw1]; exact O1.out.drewN n1); have c2 := R2.out.cell 1; rw [show (rdC s q x f p)[1]? = some (.int .i64 (q : Nat)) from rfl] at c2; have f2 := R2.out.frozen 1; clear hw1)))
      go_step3
      first | exact ⟨JQ.mk' (zs) (q) _ rfl (R2.out) (OB2.out) (O2.out) (by have := hlt.out; have := HQ.out; omega) (.inr (.inl ⟨rfl, k, by have := KJ.out; have := HQ.out; omega, KZ.out, by have := HE.out; rwa [HQ.out] at this⟩)), by rw [(R2.out).pos, HPOS.out]; have := hlt.out; have := HQ.out; omega⟩ | exact JQ.mk' (zs) (q) _ rfl (R2.out) (OB2.out) (O2.out) (by have := hlt.out; have := HQ.out; omega) (.inr (.inl ⟨rfl, k, by have := KJ.out; have := HQ.out; omega, KZ.out, by have := HE.out; rwa [HQ.out] at this⟩))
    have e92 : (ch == 92) = false := by simpa using h92
    have CP := Lib.hid fun W => wPlain ch W
    rcases hp : plnB ch with _ | _
    · have HE := Lib.hid (show qtP (L.drop (i + 1)) = (none, k) by
        rw [HF.out]
        by_cases h1 : ch = -1
        · rw [HN.out h1, qt_nil]; simp [upQ]
        · rw [(HD.out h1).2, qt_bad hp h34 h92]; simp [upQ])
      rw [hp] at CP
      clear h34 h92 HD HN hp
      go_wp2_with (first | (go_at_call 38; go_loud (refine (CL2.out).mono ?_; rintro e w1 ⟨rfl, n1, hw1⟩; have R2 := Lib.hid (show Rd w1 g s (q) x f p by rw [hw1]; exact R1.out.drewN n1); have OB2 := Lib.hid (OB1.out.out (Out.drewN (Out.refl (fun k => k = g) _) n1) hg0.out); rw [← hw1] at OB2; have O2 := Lib.hid (show Out (fun k => k = g) w w1 by rw [hw1]; exact O1.out.drewN n1); have c2 := R2.out.cell 1; rw [show (rdC s q x f p)[1]? = some (.int .i64 (q : Nat)) from rfl] at c2; have f2 := R2.out.frozen 1; clear hw1)) | (go_at_call 59; go_loud (refine (CP.out _).mono ?_; rintro e w2 ⟨rfl, rfl⟩)))
      rw [ExJ_ret]; go_ret2; exact QuotedIs.no (n := k) HE.out O2.out ((show q = i + 1 + (k) from by have := KJ.out; have := HQ.out; omega) ▸ R2.out)
    · have h1 : ch ≠ -1 := by rintro rfl; simp [plnB] at hp
      have hlt := Lib.hid (HD.out h1).1
      have HE := Lib.hid (show qtP (L.drop (i + 1)) = upQ (zs ++ [ch]) (k + 1) (qtP (L.drop (j + 1 + 1))) by rw [HF.out, (HD.out h1).2, qt_plain hp, upQ_upQ])
      have hcb : 0 ≤ ch ∧ ch ≤ 255 := by omega
      obtain ⟨hc0, hc1⟩ := hcb
      have hcb : 0 ≤ ch ∧ ch ≤ 255 := ⟨hc0, hc1⟩
      rw [hp] at CP
      clear h34 h92 HD HN hp h1
      go_wp2_with (first | (go_at_call 38; go_loud (refine (CL2.out).mono ?_; rintro e w1 ⟨rfl, n1, hw1⟩; have R2 := Lib.hid (show Rd w1 g s (q) x f p by rw [hw1]; exact R1.out.drewN n1); have OB2 := Lib.hid (OB1.out.out (Out.drewN (Out.refl (fun k => k = g) _) n1) hg0.out); rw [← hw1] at OB2; have O2 := Lib.hid (show Out (fun k => k = g) w w1 by rw [hw1]; exact O1.out.drewN n1); have c2 := R2.out.cell 1; rw [show (rdC s q x f p)[1]? = some (.int .i64 (q : Nat)) from rfl] at c2; have f2 := R2.out.frozen 1; clear hw1)) | (go_at_call 59; go_loud (refine (CP.out _).mono ?_; rintro e w2 ⟨rfl, rfl⟩)) | (at_builtin; go_loud (refine ob_append rfl (.tmp 35) (.tmp 38) rfl w.heap.size _ zs rfl (OB2.out.alloc _) _ 1 1 [ch] rfl (rb_one1 _ _ hcb) (by have := zl.out; omega) (Nat.le_trans O2.out.size (by simp)) ?_; intro v' w3 hown' hb3 hg3; have OB3 := Lib.hid hown'; have O3 := Lib.hid (((O2.out).alloc _).thenB hb3 (Nat.le_refl _)); have R3 := Lib.hid ((R2.out.below ((Below.refl _ _).alloc (Nat.le_refl _) _)).belowB hb3 hg0.out); obtain ⟨A', c', hv', -, -, -⟩ := hown'.form; rw [show (zs ++ [ch]).length = zs.length + 1 by simp] at hv'; subst hv'; clear hown' hb3 hg3)))
      go_step3
      first | exact ⟨JQ.mk' (zs ++ [ch]) (q) _ rfl (R3.out) (OB3.out) (O3.out) (by have := hlt.out; have := HQ.out; omega) (.inl ⟨rfl, k + 1, by have := KJ.out; have := HQ.out; omega, by have := KZ.out; simp; omega, by have := HE.out; rwa [HQ.out] at this⟩), by rw [(R3.out).pos, HPOS.out]; have := hlt.out; have := HQ.out; omega⟩ | exact JQ.mk' (zs ++ [ch]) (q) _ rfl (R3.out) (OB3.out) (O3.out) (by have := hlt.out; have := HQ.out; omega) (.inl ⟨rfl, k + 1, by have := KJ.out; have := HQ.out; omega, by have := KZ.out; simp; omega, by have := HE.out; rwa [HQ.out] at this⟩)
  case refine_3 =>
    rintro _ W ⟨zs, j, v, u, rfl, R, ob, o, hj, ph⟩
    obtain ⟨k, hkj, hzk, hF⟩ : ∃ k, j = i + k + 1 ∧ zs.length ≤ k ∧ qtP (L.drop (i + 1)) = upQ zs k (qtP (92 :: L.drop (j + 1))) := by
      rcases ph with ⟨h, k, hk⟩ | ⟨h, k, hk⟩ | ⟨h, k, hk⟩
      · first | exact ⟨k, hk⟩ | (exfalso; omega)
      · first | exact ⟨k, hk⟩ | (exfalso; omega)
      · first | exact ⟨k, hk⟩ | (exfalso; omega)
    obtain ⟨A, c, rfl, -, -, -⟩ := ob.form
    unfold fq
    have c1 : W.cell? ⟨g, 1, none⟩ = some (.int .i64 (j : Nat)) := R.cell 1
    have f1 := R.frozen 1
    obtain ⟨q, hq⟩ : ∃ q, j + 1 = q := ⟨_, rfl⟩
    have R1 := Lib.hid (R.inc)
    rw [hq] at R1
    have HQ := Lib.hid hq
    have bq : (q : Int) < 65537 := by omega
    have bq0 : (0 : Int) ≤ (q : Int) := by omega
    clear hq
    have O1 := Lib.hid (o.then (setCell_out (o := 1) (.int .i64 ((j : Int) + 1))))
    have OB1 := Lib.hid (ob.out (setCell_out (o := 1) (.int .i64 ((j : Int) + 1))) hg0.out)
    have CL := Lib.hid (wLook R1.out (by have := HQ.out; omega) hs)
    rw [← HQ.out] at CL
    have HPOS := Lib.hid R.pos
    have hsz := Lib.hid (Nat.le_trans (Nat.le_of_lt hg0.out) o.size)
    have hbz := Lib.hid o.size
    have b1 : (j : Int) < 65536 := by omega
    have b0 : (0 : Int) ≤ (j : Int) := by omega
    have zl := Lib.hid (show zs.length ≤ 65536 by omega)
    have hjl := Lib.hid hj
    have KJ := Lib.hid hkj
    have KZ := Lib.hid hzk
    have HF := Lib.hid hF
    clear R ob o hj hkj hzk hF
    obtain ⟨ch, hch⟩ : ∃ ch, chP L (j + 1) = ch := ⟨_, rfl⟩
    have hcb0 := chP_le s (j + 1)
    rw [← HLS.out, hch] at hcb0
    have CL2 := Lib.hid (show Calls Tryd.prog 38 #[.pointer (some ⟨g, 0, none⟩)] (W.setCell ⟨g, 1, none⟩ (.int .i64 ((j : Int) + 1))) fun e w' => e = .returned (.int .i32 ch) ∧ ∃ n, w' = (W.setCell ⟨g, 1, none⟩ (.int .i64 ((j : Int) + 1))).drewN n by have := CL.out; rwa [← HLS.out, hch] at this)
    have HD := Lib.hid (show ch ≠ -1 → j + 1 < s.size ∧ L.drop (j + 1) = ch :: L.drop (j + 1 + 1) from fun h => by
      by_cases hlt : j + 1 < s.size
      · exact ⟨hlt, by rw [← hch]; exact chP_in (by rw [HLL.out]; exact hlt)⟩
      · exact absurd (hch.symm.trans (chP_end L (j + 1) (by rw [HLL.out]; omega))) h)
    have HN := Lib.hid (show ch = -1 → L.drop (j + 1) = [] from fun h => by
      by_cases hlt : j + 1 < s.size
      · exfalso
        have h2 := chP_at s (j + 1) hlt
        rw [← HLS.out, hch, h] at h2
        omega
      · exact List.drop_eq_nil_of_le (by rw [HLL.out]; omega))
    clear hch CL
    by_cases hs1 : ch = 34 ∨ ch = 92
    · have h1 : ch ≠ -1 := by omega
      have hlt := Lib.hid (HD.out h1).1
      have HE := Lib.hid (show qtP (L.drop (i + 1)) = upQ (zs ++ [ch]) (k + 2) (qtP (L.drop (j + 1 + 1))) by rw [HF.out, (HD.out h1).2, qt_same hs1, upQ_upQ])
      have hc0 : 0 ≤ ch := by omega
      have hc1 : ch ≤ 255 := by omega
      have hcb : 0 ≤ ch ∧ ch ≤ 255 := ⟨hc0, hc1⟩
      clear HD HN h1
      rcases hs1 with h34 | h92
      · have e34 : (ch == 34) = true := by simpa using h34
        clear h34
        go_wp2_with (first | (go_at_call 38; go_loud (refine (CL2.out).mono ?_; rintro e w1 ⟨rfl, n1, hw1⟩; have R2 := Lib.hid (show Rd w1 g s (q) x f p by rw [hw1]; exact R1.out.drewN n1); have OB2 := Lib.hid (OB1.out.out (Out.drewN (Out.refl (fun k => k = g) _) n1) hg0.out); rw [← hw1] at OB2; have O2 := Lib.hid (show Out (fun k => k = g) w w1 by rw [hw1]; exact O1.out.drewN n1); have c2 := R2.out.cell 1; rw [show (rdC s q x f p)[1]? = some (.int .i64 (q : Nat)) from rfl] at c2; have f2 := R2.out.frozen 1; clear hw1)) | (at_builtin; go_loud (refine ob_append rfl (.tmp 53) (.tmp 56) rfl w.heap.size _ zs rfl (OB2.out.alloc _) _ 1 1 [ch] rfl (rb_one1 _ _ hcb) (by have := zl.out; omega) (Nat.le_trans O2.out.size (by simp)) ?_; intro v' w3 hown' hb3 hg3; have OB3 := Lib.hid hown'; have O3 := Lib.hid (((O2.out).alloc _).thenB hb3 (Nat.le_refl _)); have R3 := Lib.hid ((R2.out.below ((Below.refl _ _).alloc (Nat.le_refl _) _)).belowB hb3 hg0.out); obtain ⟨A', c', hv', -, -, -⟩ := hown'.form; rw [show (zs ++ [ch]).length = zs.length + 1 by simp] at hv'; subst hv'; clear hown' hb3 hg3)))
        go_step3
        first | exact ⟨JQ.mk' (zs ++ [ch]) (q) _ rfl (R3.out) (OB3.out) (O3.out) (by have := hlt.out; have := HQ.out; omega) (.inl ⟨rfl, k + 2, by have := KJ.out; have := HQ.out; omega, by have := KZ.out; simp; omega, by have := HE.out; rwa [HQ.out] at this⟩), by rw [(R3.out).pos, HPOS.out]; have := hlt.out; have := HQ.out; omega⟩ | exact JQ.mk' (zs ++ [ch]) (q) _ rfl (R3.out) (OB3.out) (O3.out) (by have := hlt.out; have := HQ.out; omega) (.inl ⟨rfl, k + 2, by have := KJ.out; have := HQ.out; omega, by have := KZ.out; simp; omega, by have := HE.out; rwa [HQ.out] at this⟩)
      · have e34 : (ch == 34) = false := by simp; omega
        have e92 : (ch == 92) = true := by simpa using h92
        clear h92
        go_wp2_with (first | (go_at_call 38; go_loud (refine (CL2.out).mono ?_; rintro e w1 ⟨rfl, n1, hw1⟩; have R2 := Lib.hid (show Rd w1 g s (q) x f p by rw [hw1]; exact R1.out.drewN n1); have OB2 := Lib.hid (OB1.out.out (Out.drewN (Out.refl (fun k => k = g) _) n1) hg0.out); rw [← hw1] at OB2; have O2 := Lib.hid (show Out (fun k => k = g) w w1 by rw [hw1]; exact O1.out.drewN n1); have c2 := R2.out.cell 1; rw [show (rdC s q x f p)[1]? = some (.int .i64 (q : Nat)) from rfl] at c2; have f2 := R2.out.frozen 1; clear hw1)) | (at_builtin; go_loud (refine ob_append rfl (.tmp 53) (.tmp 56) rfl w.heap.size _ zs rfl (OB2.out.alloc _) _ 1 1 [ch] rfl (rb_one1 _ _ hcb) (by have := zl.out; omega) (Nat.le_trans O2.out.size (by simp)) ?_; intro v' w3 hown' hb3 hg3; have OB3 := Lib.hid hown'; have O3 := Lib.hid (((O2.out).alloc _).thenB hb3 (Nat.le_refl _)); have R3 := Lib.hid ((R2.out.below ((Below.refl _ _).alloc (Nat.le_refl _) _)).belowB hb3 hg0.out); obtain ⟨A', c', hv', -, -, -⟩ := hown'.form; rw [show (zs ++ [ch]).length = zs.length + 1 by simp] at hv'; subst hv'; clear hown' hb3 hg3)))
        go_step3
        first | exact ⟨JQ.mk' (zs ++ [ch]) (q) _ rfl (R3.out) (OB3.out) (O3.out) (by have := hlt.out; have := HQ.out; omega) (.inl ⟨rfl, k + 2, by have := KJ.out; have := HQ.out; omega, by have := KZ.out; simp; omega, by have := HE.out; rwa [HQ.out] at this⟩), by rw [(R3.out).pos, HPOS.out]; have := hlt.out; have := HQ.out; omega⟩ | exact JQ.mk' (zs ++ [ch]) (q) _ rfl (R3.out) (OB3.out) (O3.out) (by have := hlt.out; have := HQ.out; omega) (.inl ⟨rfl, k + 2, by have := KJ.out; have := HQ.out; omega, by have := KZ.out; simp; omega, by have := HE.out; rwa [HQ.out] at this⟩)
    have e34 : (ch == 34) = false := by simp; omega
    have e92 : (ch == 92) = false := by simp; omega
    by_cases h110 : ch = 110
    · have hlt := Lib.hid (HD.out (by omega)).1
      have HE := Lib.hid (show qtP (L.drop (i + 1)) = upQ (zs ++ [(10 : Int)]) (k + 2) (qtP (L.drop (j + 1 + 1))) by rw [HF.out, (HD.out (by omega)).2, h110, qt_n, upQ_upQ])
      have e110 : (ch == 110) = true := by simpa using h110
      have hcb : (0 : Int) ≤ (10 : Int) ∧ ((10 : Int) : Int) ≤ 255 := by omega
      clear h110 hs1 HD HN
      go_wp2_with (first | (go_at_call 38; go_loud (refine (CL2.out).mono ?_; rintro e w1 ⟨rfl, n1, hw1⟩; have R2 := Lib.hid (show Rd w1 g s (q) x f p by rw [hw1]; exact R1.out.drewN n1); have OB2 := Lib.hid (OB1.out.out (Out.drewN (Out.refl (fun k => k = g) _) n1) hg0.out); rw [← hw1] at OB2; have O2 := Lib.hid (show Out (fun k => k = g) w w1 by rw [hw1]; exact O1.out.drewN n1); have c2 := R2.out.cell 1; rw [show (rdC s q x f p)[1]? = some (.int .i64 (q : Nat)) from rfl] at c2; have f2 := R2.out.frozen 1; clear hw1)) | (at_builtin; go_loud (refine ob_append rfl (.tmp 60) (.tmp 61) rfl w.heap.size _ zs rfl (OB2.out.alloc _) _ 1 1 [(10 : Int)] rfl (rb_one1 _ _ hcb) (by have := zl.out; omega) (Nat.le_trans O2.out.size (by simp)) ?_; intro v' w3 hown' hb3 hg3; have OB3 := Lib.hid hown'; have O3 := Lib.hid (((O2.out).alloc _).thenB hb3 (Nat.le_refl _)); have R3 := Lib.hid ((R2.out.below ((Below.refl _ _).alloc (Nat.le_refl _) _)).belowB hb3 hg0.out); obtain ⟨A', c', hv', -, -, -⟩ := hown'.form; rw [show (zs ++ [(10 : Int)]).length = zs.length + 1 by simp] at hv'; subst hv'; clear hown' hb3 hg3)))
      go_step3
      first | exact ⟨JQ.mk' (zs ++ [(10 : Int)]) (q) _ rfl (R3.out) (OB3.out) (O3.out) (by have := hlt.out; have := HQ.out; omega) (.inl ⟨rfl, k + 2, by have := KJ.out; have := HQ.out; omega, by have := KZ.out; simp; omega, by have := HE.out; rwa [HQ.out] at this⟩), by rw [(R3.out).pos, HPOS.out]; have := hlt.out; have := HQ.out; omega⟩ | exact JQ.mk' (zs ++ [(10 : Int)]) (q) _ rfl (R3.out) (OB3.out) (O3.out) (by have := hlt.out; have := HQ.out; omega) (.inl ⟨rfl, k + 2, by have := KJ.out; have := HQ.out; omega, by have := KZ.out; simp; omega, by have := HE.out; rwa [HQ.out] at this⟩)
    have e110 : (ch == 110) = false := by simpa using h110
    by_cases h116 : ch = 116
    · have hlt := Lib.hid (HD.out (by omega)).1
      have HE := Lib.hid (show qtP (L.drop (i + 1)) = upQ (zs ++ [(9 : Int)]) (k + 2) (qtP (L.drop (j + 1 + 1))) by rw [HF.out, (HD.out (by omega)).2, h116, qt_t, upQ_upQ])
      have e116 : (ch == 116) = true := by simpa using h116
      have hcb : (0 : Int) ≤ (9 : Int) ∧ ((9 : Int) : Int) ≤ 255 := by omega
      clear h116 hs1 HD HN
      go_wp2_with (first | (go_at_call 38; go_loud (refine (CL2.out).mono ?_; rintro e w1 ⟨rfl, n1, hw1⟩; have R2 := Lib.hid (show Rd w1 g s (q) x f p by rw [hw1]; exact R1.out.drewN n1); have OB2 := Lib.hid (OB1.out.out (Out.drewN (Out.refl (fun k => k = g) _) n1) hg0.out); rw [← hw1] at OB2; have O2 := Lib.hid (show Out (fun k => k = g) w w1 by rw [hw1]; exact O1.out.drewN n1); have c2 := R2.out.cell 1; rw [show (rdC s q x f p)[1]? = some (.int .i64 (q : Nat)) from rfl] at c2; have f2 := R2.out.frozen 1; clear hw1)) | (at_builtin; go_loud (refine ob_append rfl (.tmp 65) (.tmp 66) rfl w.heap.size _ zs rfl (OB2.out.alloc _) _ 1 1 [(9 : Int)] rfl (rb_one1 _ _ hcb) (by have := zl.out; omega) (Nat.le_trans O2.out.size (by simp)) ?_; intro v' w3 hown' hb3 hg3; have OB3 := Lib.hid hown'; have O3 := Lib.hid (((O2.out).alloc _).thenB hb3 (Nat.le_refl _)); have R3 := Lib.hid ((R2.out.below ((Below.refl _ _).alloc (Nat.le_refl _) _)).belowB hb3 hg0.out); obtain ⟨A', c', hv', -, -, -⟩ := hown'.form; rw [show (zs ++ [(9 : Int)]).length = zs.length + 1 by simp] at hv'; subst hv'; clear hown' hb3 hg3)))
      go_step3
      first | exact ⟨JQ.mk' (zs ++ [(9 : Int)]) (q) _ rfl (R3.out) (OB3.out) (O3.out) (by have := hlt.out; have := HQ.out; omega) (.inl ⟨rfl, k + 2, by have := KJ.out; have := HQ.out; omega, by have := KZ.out; simp; omega, by have := HE.out; rwa [HQ.out] at this⟩), by rw [(R3.out).pos, HPOS.out]; have := hlt.out; have := HQ.out; omega⟩ | exact JQ.mk' (zs ++ [(9 : Int)]) (q) _ rfl (R3.out) (OB3.out) (O3.out) (by have := hlt.out; have := HQ.out; omega) (.inl ⟨rfl, k + 2, by have := KJ.out; have := HQ.out; omega, by have := KZ.out; simp; omega, by have := HE.out; rwa [HQ.out] at this⟩)
    have e116 : (ch == 116) = false := by simpa using h116
    by_cases h120 : ch = 120
    · have hlt := Lib.hid (HD.out (by omega)).1
      have HE := Lib.hid (show qtP (L.drop (i + 1)) = upQ zs k (qtP (92 :: 120 :: L.drop (j + 1 + 1))) by rw [HF.out, (HD.out (by omega)).2, h120])
      have e120 : (ch == 120) = true := by simpa using h120
      clear h120 h110 h116 hs1 HD HN
      go_wp2_with (first | (go_at_call 38; go_loud (refine (CL2.out).mono ?_; rintro e w1 ⟨rfl, n1, hw1⟩; have R2 := Lib.hid (show Rd w1 g s (q) x f p by rw [hw1]; exact R1.out.drewN n1); have OB2 := Lib.hid (OB1.out.out (Out.drewN (Out.refl (fun k => k = g) _) n1) hg0.out); rw [← hw1] at OB2; have O2 := Lib.hid (show Out (fun k => k = g) w w1 by rw [hw1]; exact O1.out.drewN n1); have c2 := R2.out.cell 1; rw [show (rdC s q x f p)[1]? = some (.int .i64 (q : Nat)) from rfl] at c2; have f2 := R2.out.frozen 1; clear hw1)))
      go_step3
      first | exact ⟨JQ.mk' (zs) (q) _ rfl (R2.out) (OB2.out) (O2.out) (by have := hlt.out; have := HQ.out; omega) (.inr (.inr ⟨rfl, k, by have := KJ.out; have := HQ.out; omega, KZ.out, by have := HE.out; rwa [HQ.out] at this⟩)), by rw [(R2.out).pos, HPOS.out]; have := hlt.out; have := HQ.out; omega⟩ | exact JQ.mk' (zs) (q) _ rfl (R2.out) (OB2.out) (O2.out) (by have := hlt.out; have := HQ.out; omega) (.inr (.inr ⟨rfl, k, by have := KJ.out; have := HQ.out; omega, KZ.out, by have := HE.out; rwa [HQ.out] at this⟩))
    · have HE := Lib.hid (show qtP (L.drop (i + 1)) = (none, k + 1) by
        rw [HF.out]
        by_cases h1 : ch = -1
        · rw [HN.out h1, qt_esc0]; simp [upQ]
        · rw [(HD.out h1).2, qt_other (by omega) (by omega) h110 h116 h120]; simp [upQ])
      have e120 : (ch == 120) = false := by simpa using h120
      clear h120 h110 h116 hs1 HD HN
      go_wp2_with (first | (go_at_call 38; go_loud (refine (CL2.out).mono ?_; rintro e w1 ⟨rfl, n1, hw1⟩; have R2 := Lib.hid (show Rd w1 g s (q) x f p by rw [hw1]; exact R1.out.drewN n1); have OB2 := Lib.hid (OB1.out.out (Out.drewN (Out.refl (fun k => k = g) _) n1) hg0.out); rw [← hw1] at OB2; have O2 := Lib.hid (show Out (fun k => k = g) w w1 by rw [hw1]; exact O1.out.drewN n1); have c2 := R2.out.cell 1; rw [show (rdC s q x f p)[1]? = some (.int .i64 (q : Nat)) from rfl] at c2; have f2 := R2.out.frozen 1; clear hw1)))
      rw [ExJ_ret]; go_ret2; exact QuotedIs.no (n := k + 1) HE.out O2.out ((show q = i + 1 + (k + 1) from by have := KJ.out; have := HQ.out; omega) ▸ R2.out)
  case refine_4 =>
    rintro _ W ⟨zs, j, v, u, rfl, R, ob, o, hj, ph⟩
    obtain ⟨k, hkj, hzk, hF⟩ : ∃ k, j = i + k + 2 ∧ zs.length ≤ k ∧ qtP (L.drop (i + 1)) = upQ zs k (qtP (92 :: 120 :: L.drop (j + 1))) := by
      rcases ph with ⟨h, k, hk⟩ | ⟨h, k, hk⟩ | ⟨h, k, hk⟩
      · first | exact ⟨k, hk⟩ | (exfalso; omega)
      · first | exact ⟨k, hk⟩ | (exfalso; omega)
      · first | exact ⟨k, hk⟩ | (exfalso; omega)
    obtain ⟨A, c, rfl, -, -, -⟩ := ob.form
    unfold fq
    have c1 : W.cell? ⟨g, 1, none⟩ = some (.int .i64 (j : Nat)) := R.cell 1
    have f1 := R.frozen 1
    obtain ⟨q, hq⟩ : ∃ q, j + 1 = q := ⟨_, rfl⟩
    have R1 := Lib.hid (R.inc)
    rw [hq] at R1
    have HQ := Lib.hid hq
    have bq : (q : Int) < 65537 := by omega
    have bq0 : (0 : Int) ≤ (q : Int) := by omega
    clear hq
    have O1 := Lib.hid (o.then (setCell_out (o := 1) (.int .i64 ((j : Int) + 1))))
    have OB1 := Lib.hid (ob.out (setCell_out (o := 1) (.int .i64 ((j : Int) + 1))) hg0.out)
    have CL := Lib.hid (wLook R1.out (by have := HQ.out; omega) hs)
    rw [← HQ.out] at CL
    have HPOS := Lib.hid R.pos
    have hsz := Lib.hid (Nat.le_trans (Nat.le_of_lt hg0.out) o.size)
    have hbz := Lib.hid o.size
    have b1 : (j : Int) < 65536 := by omega
    have b0 : (0 : Int) ≤ (j : Int) := by omega
    have zl := Lib.hid (show zs.length ≤ 65536 by omega)
    have hjl := Lib.hid hj
    have KJ := Lib.hid hkj
    have KZ := Lib.hid hzk
    have HF := Lib.hid hF
    clear R ob o hj hkj hzk hF
    obtain ⟨ch, hch⟩ : ∃ ch, chP L (j + 1) = ch := ⟨_, rfl⟩
    have hcb0 := chP_le s (j + 1)
    rw [← HLS.out, hch] at hcb0
    have CL2 := Lib.hid (show Calls Tryd.prog 38 #[.pointer (some ⟨g, 0, none⟩)] (W.setCell ⟨g, 1, none⟩ (.int .i64 ((j : Int) + 1))) fun e w' => e = .returned (.int .i32 ch) ∧ ∃ n, w' = (W.setCell ⟨g, 1, none⟩ (.int .i64 ((j : Int) + 1))).drewN n by have := CL.out; rwa [← HLS.out, hch] at this)
    have HD := Lib.hid (show ch ≠ -1 → j + 1 < s.size ∧ L.drop (j + 1) = ch :: L.drop (j + 1 + 1) from fun h => by
      by_cases hlt : j + 1 < s.size
      · exact ⟨hlt, by rw [← hch]; exact chP_in (by rw [HLL.out]; exact hlt)⟩
      · exact absurd (hch.symm.trans (chP_end L (j + 1) (by rw [HLL.out]; omega))) h)
    have HN := Lib.hid (show ch = -1 → L.drop (j + 1) = [] from fun h => by
      by_cases hlt : j + 1 < s.size
      · exfalso
        have h2 := chP_at s (j + 1) hlt
        rw [← HLS.out, hch, h] at h2
        omega
      · exact List.drop_eq_nil_of_le (by rw [HLL.out]; omega))
    clear hch CL
    have CH := Lib.hid fun W => wHex ch W hcb0
    rcases hx : hexB ch with _ | _
    · have HE := Lib.hid (show qtP (L.drop (i + 1)) = (none, k + 2) by
        rw [HF.out]
        by_cases h1 : ch = -1
        · rw [HN.out h1, qt_x0]; simp [upQ]
        · rw [(HD.out h1).2, qt_x1 hx]; simp [upQ])
      rw [hx, if_neg (by simp)] at CH
      clear HD HN hx
      go_wp2_with (first | (go_at_call 38; go_loud (refine (CL2.out).mono ?_; rintro e w1 ⟨rfl, n1, hw1⟩; have R2 := Lib.hid (show Rd w1 g s (q) x f p by rw [hw1]; exact R1.out.drewN n1); have OB2 := Lib.hid (OB1.out.out (Out.drewN (Out.refl (fun k => k = g) _) n1) hg0.out); rw [← hw1] at OB2; have O2 := Lib.hid (show Out (fun k => k = g) w w1 by rw [hw1]; exact O1.out.drewN n1); have c2 := R2.out.cell 1; rw [show (rdC s q x f p)[1]? = some (.int .i64 (q : Nat)) from rfl] at c2; have f2 := R2.out.frozen 1; clear hw1)) | (go_at_call 60; go_loud (refine (CH.out _).mono ?_; rintro e wh ⟨rfl, rfl⟩)))
      rw [ExJ_ret]; go_ret2; exact QuotedIs.no (n := k + 2) HE.out O2.out ((show q = i + 1 + (k + 2) from by have := KJ.out; have := HQ.out; omega) ▸ R2.out)
    have h1 : ch ≠ -1 := by rintro rfl; simp [hexB, digB] at hx
    have hlt0 := Lib.hid (HD.out h1).1
    have HF2 := Lib.hid (show qtP (L.drop (i + 1)) = upQ zs k (qtP (92 :: 120 :: ch :: L.drop (j + 1 + 1))) by rw [HF.out, (HD.out h1).2])
    obtain ⟨q2, hq2⟩ : ∃ q2, q + 1 = q2 := ⟨_, rfl⟩
    have HQ2 := Lib.hid hq2
    have HJ2 := Lib.hid (show j + 2 = q2 by have := HQ.out; omega)
    clear hq2
    have R3x := Lib.hid (show ∀ W1, Rd W1 g s q x f p → Rd (W1.setCell ⟨g, 1, none⟩ (.int .i64 ((q : Int) + 1))) g s q2 x f p from fun W1 r => by
      have := r.inc
      rwa [HQ2.out] at this)
    obtain ⟨dh, hdh⟩ : ∃ dh, chP L (j + 2) = dh := ⟨_, rfl⟩
    have hdb0 := chP_le s (j + 2)
    rw [← HLS.out, hdh] at hdb0
    have CM := Lib.hid (show ∀ W1, Rd W1 g s q2 x f p → Calls Tryd.prog 38 #[.pointer (some ⟨g, 0, none⟩)] W1 fun e w' => e = .returned (.int .i32 dh) ∧ ∃ n, w' = W1.drewN n from fun W1 r => by have := wLook r (by have := hlt0.out; have := HJ2.out; omega) hs; rwa [← HLS.out, ← HJ2.out, hdh] at this)
    have HD2 := Lib.hid (show dh ≠ -1 → j + 2 < s.size ∧ L.drop (j + 1 + 1) = dh :: L.drop (j + 2 + 1) from fun h => by
      by_cases hlt : j + 2 < s.size
      · exact ⟨hlt, by rw [← hdh]; exact chP_in (by rw [HLL.out]; exact hlt)⟩
      · exact absurd (hdh.symm.trans (chP_end L (j + 2) (by rw [HLL.out]; omega))) h)
    have HN2 := Lib.hid (show dh = -1 → L.drop (j + 1 + 1) = [] from fun h => by
      by_cases hlt : j + 2 < s.size
      · exfalso
        have h2 := chP_at s (j + 2) hlt
        rw [← HLS.out, hdh, h] at h2
        omega
      · exact List.drop_eq_nil_of_le (by rw [HLL.out]; omega))
    have CH2 := Lib.hid fun W => wHex dh W hdb0
    have HXL := Lib.hid (hexV_le hx)
    rw [hx, if_pos rfl] at CH
    obtain ⟨va, hva⟩ : ∃ v, hexV ch = v := ⟨_, rfl⟩
    rw [hva] at CH HXL
    have HVA := Lib.hid hva
    have hv0 := HXL.out.1
    have hv1 := HXL.out.2
    clear hdh HD HN hva
    rcases hy : hexB dh with _ | _
    · have HE := Lib.hid (show qtP (L.drop (i + 1)) = (none, k + 3) by
        rw [HF2.out]
        by_cases h2 : dh = -1
        · rw [HN2.out h2, qt_x2 hx]; simp [upQ]
        · rw [(HD2.out h2).2, qt_x3 hx hy]; simp [upQ])
      rw [hy, if_neg (by simp)] at CH2
      clear HD2 HN2 hx hy h1
      go_wp2_with (first | (go_at_call 60; have hR5 := R5; clear hR5; go_loud (refine (CH2.out _).mono ?_; rintro e wh ⟨rfl, rfl⟩)) | (go_at_call 38; have hR2 := R2; clear hR2; go_loud (refine (CM.out _ (R3x.out _ R2.out)).mono ?_; rintro e w5 ⟨rfl, n2, hw5⟩; have R5 := Lib.hid (show Rd w5 g s q2 x f p by rw [hw5]; exact (R3x.out _ R2.out).drewN n2); have OB5 := Lib.hid ((OB2.out.out (setCell_out (o := 1) (.int .i64 ((q : Int) + 1))) hg0.out).out (Out.drewN (Out.refl (fun k => k = g) _) n2) hg0.out); rw [← hw5] at OB5; have O5 := Lib.hid (show Out (fun k => k = g) w w5 by rw [hw5]; exact (O2.out.then (setCell_out _)).drewN n2); clear hw5)) | (go_at_call 60; go_loud (refine (CH.out _).mono ?_; rintro e wh ⟨rfl, rfl⟩)) | (go_at_call 38; go_loud (refine (CL2.out).mono ?_; rintro e w1 ⟨rfl, n1, hw1⟩; have R2 := Lib.hid (show Rd w1 g s (q) x f p by rw [hw1]; exact R1.out.drewN n1); have OB2 := Lib.hid (OB1.out.out (Out.drewN (Out.refl (fun k => k = g) _) n1) hg0.out); rw [← hw1] at OB2; have O2 := Lib.hid (show Out (fun k => k = g) w w1 by rw [hw1]; exact O1.out.drewN n1); have c2 := R2.out.cell 1; rw [show (rdC s q x f p)[1]? = some (.int .i64 (q : Nat)) from rfl] at c2; have f2 := R2.out.frozen 1; clear hw1)))
      rw [ExJ_ret]; go_ret2; exact QuotedIs.no (n := k + 3) HE.out O5.out ((show q2 = i + 1 + (k + 3) from by have := KJ.out; have := HJ2.out; omega) ▸ R5.out)
    · have h2 : dh ≠ -1 := by rintro rfl; simp [hexB, digB] at hy
      have hlt := Lib.hid (HD2.out h2).1
      have HE := Lib.hid (show qtP (L.drop (i + 1)) = upQ (zs ++ [hexV ch * 16 + hexV dh]) (k + 4) (qtP (L.drop (j + 2 + 1))) by rw [HF2.out, (HD2.out h2).2, qt_x hx hy, upQ_upQ])
      have HYL := Lib.hid (hexV_le hy)
      rw [hy, if_pos rfl] at CH2
      obtain ⟨vb, hvb⟩ : ∃ v, hexV dh = v := ⟨_, rfl⟩
      rw [hvb] at CH2 HYL HE
      rw [HVA.out] at HE
      have hv2 := HYL.out.1
      have hv3 := HYL.out.2
      have hcb : 0 ≤ va * 16 + vb ∧ va * 16 + vb ≤ 255 := by omega
      have hm1 : va * 16 ≤ 255 := by omega
      have hm0 : 0 ≤ va * 16 := by omega
      have hm2 : va * 16 + vb ≤ 255 := by omega
      have hm3 : 0 ≤ va * 16 + vb := by omega
      clear hvb
      clear HD2 HN2 hx hy h1 h2
      go_wp2_with (first | (go_at_call 60; have hR5 := R5; clear hR5; go_loud (refine (CH2.out _).mono ?_; rintro e wh ⟨rfl, rfl⟩)) | (go_at_call 38; have hR2 := R2; clear hR2; go_loud (refine (CM.out _ (R3x.out _ R2.out)).mono ?_; rintro e w5 ⟨rfl, n2, hw5⟩; have R5 := Lib.hid (show Rd w5 g s q2 x f p by rw [hw5]; exact (R3x.out _ R2.out).drewN n2); have OB5 := Lib.hid ((OB2.out.out (setCell_out (o := 1) (.int .i64 ((q : Int) + 1))) hg0.out).out (Out.drewN (Out.refl (fun k => k = g) _) n2) hg0.out); rw [← hw5] at OB5; have O5 := Lib.hid (show Out (fun k => k = g) w w5 by rw [hw5]; exact (O2.out.then (setCell_out _)).drewN n2); clear hw5)) | (go_at_call 60; go_loud (refine (CH.out _).mono ?_; rintro e wh ⟨rfl, rfl⟩)) | (go_at_call 38; go_loud (refine (CL2.out).mono ?_; rintro e w1 ⟨rfl, n1, hw1⟩; have R2 := Lib.hid (show Rd w1 g s (q) x f p by rw [hw1]; exact R1.out.drewN n1); have OB2 := Lib.hid (OB1.out.out (Out.drewN (Out.refl (fun k => k = g) _) n1) hg0.out); rw [← hw1] at OB2; have O2 := Lib.hid (show Out (fun k => k = g) w w1 by rw [hw1]; exact O1.out.drewN n1); have c2 := R2.out.cell 1; rw [show (rdC s q x f p)[1]? = some (.int .i64 (q : Nat)) from rfl] at c2; have f2 := R2.out.frozen 1; clear hw1)) | (at_builtin; go_loud (refine ob_append rfl (.tmp 100) (.tmp 105) rfl w.heap.size _ zs rfl (OB5.out.alloc _) _ 1 1 [va * 16 + vb] rfl (rb_one1 _ _ hcb) (by have := zl.out; omega) (Nat.le_trans O5.out.size (by simp)) ?_; intro v' w3 hown' hb3 hg3; have OB3 := Lib.hid hown'; have O3 := Lib.hid (((O5.out).alloc _).thenB hb3 (Nat.le_refl _)); have R3 := Lib.hid ((R5.out.below ((Below.refl _ _).alloc (Nat.le_refl _) _)).belowB hb3 hg0.out); obtain ⟨A', c', hv', -, -, -⟩ := hown'.form; rw [show (zs ++ [va * 16 + vb]).length = zs.length + 1 by simp] at hv'; subst hv'; clear hown' hb3 hg3)))
      go_step3
      first | exact ⟨JQ.mk' (zs ++ [va * 16 + vb]) (q2) _ rfl (R3.out) (OB3.out) (O3.out) (by have := hlt.out; have := HJ2.out; omega) (.inl ⟨rfl, k + 4, by have := KJ.out; have := HJ2.out; omega, by have := KZ.out; simp; omega, by have := HE.out; rwa [HJ2.out] at this⟩), by rw [(R3.out).pos, HPOS.out]; have := hlt.out; have := HQ.out; have := HJ2.out; omega⟩ | exact JQ.mk' (zs ++ [va * 16 + vb]) (q2) _ rfl (R3.out) (OB3.out) (O3.out) (by have := hlt.out; have := HJ2.out; omega) (.inl ⟨rfl, k + 4, by have := KJ.out; have := HJ2.out; omega, by have := KZ.out; simp; omega, by have := HE.out; rwa [HJ2.out] at this⟩)
end
end Go.Proofs.YtagangneoibbcaaDoor
