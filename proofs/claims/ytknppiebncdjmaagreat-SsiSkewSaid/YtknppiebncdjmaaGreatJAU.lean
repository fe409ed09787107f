import Derived.Test.YtknppiebncdjmaaGreatJAT
import Derived.Test.YtknppiebncdjmaaGreatJAC
import Derived.Test.YtknppiebncdjmaaGreatJAA
import Derived.Lib.Bytealg
import Derived.Shelf.SlSortCmp.InsertionK
import Derived.Test.YtknppiebncdjmaaGreatJAE
import Derived.Test.YtknppiebncdjmaaGreatProg
import Derived.Shelf.SlGeneric
import Derived.Shelf.SlSortCmp.WholeK
import Derived.Shelf.SlSortCmp.NoneTotal
import Derived.Ground.SlsfProg
set_option linter.unusedVariables false
namespace Go.Proofs.YtknppiebncdjmaaGreat
set_option maxRecDepth 100000
open Go.RowKit Go.Maps Go.ChangeMaps Go.MapKept

def takeG (c : Cp10) (P : Pg) (tx : Int) (l : Lk) (last : Int) : Int × List Hd := takeP c.locks P.H tx ((getA P.act tx).getD 0) last l
def writeG (c : Cp10) (P : Pg) (tx : Int) (l : Lk) (last : Int) (zs : List Int) : Int × Pg :=
  if isAct P tx = false then (101, P) else if last < 0 then (1, P) else if holderP P.H l = some tx then (0, P)
  else if (takeG c P tx l last).1 ≠ 0 then ((takeG c P tx l last).1, abortG { P with H := (takeG c P tx l last).2 } tx)
  else if zs ≠ [] then (81, abortG { P with H := (takeG c P tx l last).2 } tx)
  else dependG { P with H := (takeG c P tx l last).2 } tx (txP P.L fun n => hasP n.2 l.1 l.2) (true, false) (false, true)
theorem tx_mem {L : List Nt} {f : Nt → Bool} {x : Int} (h : x ∈ txP L f) : ∃ n ∈ L, n.1 = x := by
  unfold txP at h
  obtain ⟨n, hn, e⟩ := List.mem_map.1 (((rise_is _).2 x).1 h)
  exact ⟨n, (List.mem_filter.1 hn).1, e⟩
theorem tx_len {L : List Nt} {f : Nt → Bool} : (txP L f).length ≤ L.length := by
  unfold txP
  have h1 := rise_len ((L.filter f).map (·.1)) ((L.filter f).map (·.1)).length
  rw [List.take_length, List.length_map] at h1
  exact Nat.le_trans h1 (List.length_filter_le _ _)
section
variable {M : MF} {w : World} {b ab kb fb lm lr rr : Nat} {GR : Nat → Prop} {c : Cp10} {P : Pg}
set_option maxHeartbeats 8000000 in
theorem wxWrite (I : Api9 M) (h : Mem10 M w b ab kb fb lm lr rr GR c P) (hc : PgOk c P) (hw : WfP P) {tx : Int} (hx : (Lit.int .i64 tx).wf = true) {l : Lk} (hl : Sz2 l) (last : Int) :
    Calls Tryz.prog 16 #[.pointer (some ⟨b, 0, none⟩), .int .i64 tx, lkV l, .int .i64 last] w fun e w' => ∃ zs, (isAct P tx = true → 0 ≤ last → holderP P.H l ≠ some tx → (takeG c P tx l last).1 = 0 → KwIs P tx l.1 l.2 (l.2 ++ ⟨#[0]⟩) zs) ∧ e = .returned (.int .i64 (writeG c P tx l last zs).1) ∧ LeftG M w w' b ab kb fb lm lr rr GR c (writeG c P tx l last zs).2 := by
  obtain ⟨W, hW⟩ : ∃ W, w.alloc (.cells #[.string l.1, .string l.2] 42) = W := ⟨_, rfl⟩
  have hB : Below w.heap.size w W := by rw [← hW]; exact (Below.refl _ _).alloc (Nat.le_refl _) _
  have q0 : W.heap[w.heap.size]? = some (.cells #[.string l.1, .string l.2] 42 (0, 0)) := by rw [← hW]; exact heap_alloc_new _ _
  have x0 : W.cell? ⟨w.heap.size, 0, none⟩ = some (.string l.1) := cell_of_row _ _ 0 _ _ _ q0
  have x1 : W.cell? ⟨w.heap.size, 1, none⟩ = some (.string l.2) := cell_of_row _ _ 1 _ _ _ q0
  have m1 := h.below I hB
  have CR := Lib.hid (wxRef m1 hc hx)
  have CH := Lib.hid (fun (w1 : World) (m : Mem10 M w1 b ab kb fb lm lr rr GR c P) => wxHolds m hl.sz tx)
  have M1 := Lib.hid m1
  have HM := Lib.hid h
  have HB := Lib.hid hB
  have HS1 := Lib.hid (show W.heap.size = w.heap.size + 1 by rw [← hW]; simp)
  have HC := Lib.hid hc
  have HX := Lib.hid hx
  have HW := Lib.hid hw
  have HL := Lib.hid hl
  have HLT := Lib.hid h.blt
  have HGR := Lib.hid (show ∀ k, GR k → k < w.heap.size from fun k hk => (h.lt I).1 k (.inr hk))
  clear h hc hw hx hl q0 m1 hB
  unfold lkV refG at *
  cases ha : isAct P tx with
  | false =>
    rw [ha] at CR
    have HG := Lib.hid (show ∀ zs, writeG c P tx l last zs = (101, P) from fun zs => by unfold writeG; rw [if_pos ha])
    clear ha
    go_enter Tryz.func16, Tryz.ntmps16
    go_upto_region 1 with fail
    try rw [hW]
    go_wp2_with (go_at_call 48; go_loud (refine CR.out.mono ?_; rintro e w1 ⟨rfl, hw⟩; replace hw := hw.symm; subst hw))
    go_ret
    exact ⟨[], by simp, by rw [HG.out]; rfl, by rw [HG.out]; exact LeftG.refl I HM.out HB.out⟩
  | true =>
    rw [ha] at CR
    by_cases hneg : last < 0
    · have HG := Lib.hid (show ∀ zs, writeG c P tx l last zs = (1, P) from fun zs => by unfold writeG; rw [if_neg (by rw [ha]; simp), if_pos hneg])
      have HNG := Lib.hid hneg
      clear ha
      go_enter Tryz.func16, Tryz.ntmps16
      go_upto_region 1 with fail
      try rw [hW]
      go_wp2_with (go_at_call 48; go_loud (refine CR.out.mono ?_; rintro e w1 ⟨rfl, hw⟩; replace hw := hw.symm; subst hw))
      go_ret
      exact ⟨[], fun _ h => by have := HNG.out; omega, by rw [HG.out]; rfl, by rw [HG.out]; exact LeftG.refl I HM.out HB.out⟩
    · obtain ⟨ho, hh⟩ : ∃ q, holderP P.H l = q := ⟨_, rfl⟩
      have HNG := Lib.hid (show 0 ≤ last by omega)
      by_cases hown : ho = some tx
      · subst hown
        have HG := Lib.hid (show ∀ zs, writeG c P tx l last zs = (0, P) from fun zs => by unfold writeG; rw [if_neg (by rw [ha]; simp), if_neg hneg, if_pos hh])
        have HHO := Lib.hid hh
        have CH2 := Lib.hid (show ∀ w1, Mem10 M w1 b ab kb fb lm lr rr GR c P → Calls Tryz.prog 49 #[.pointer (some ⟨b, 0, none⟩), .int .i64 tx, .agg #[.string l.1, .string l.2]] w1 fun e w' => e = .returned (.bool true) ∧ Below w1.heap.size w1 w' from fun w1 m => (CH.out w1 m).mono fun e w' h => by rw [hh] at h; simpa using h)
        clear ha hh
        go_enter Tryz.func16, Tryz.ntmps16
        go_upto_region 1 with fail
        try rw [hW]
        go_wp2_with (first
          | (go_at_call 48; go_loud (refine CR.out.mono ?_; rintro e w1 ⟨rfl, hw⟩; replace hw := hw.symm; subst hw))
          | (go_at_call 49; go_loud (refine (CH2.out _ M1.out).mono ?_; rintro e w2 ⟨rfl, b2⟩; have B2 := Lib.hid b2; clear b2)))
        go_ret
        exact ⟨[], fun _ _ hn => absurd HHO.out hn, by rw [HG.out]; rfl, by rw [HG.out]; exact LeftG.refl I HM.out (below_next HB.out B2.out)⟩
      · have CH2 := Lib.hid (show ∀ w1, Mem10 M w1 b ab kb fb lm lr rr GR c P → Calls Tryz.prog 49 #[.pointer (some ⟨b, 0, none⟩), .int .i64 tx, .agg #[.string l.1, .string l.2]] w1 fun e w' => e = .returned (.bool false) ∧ Below w1.heap.size w1 w' from fun w1 m => (CH.out w1 m).mono fun e w' h => by rw [hh] at h; simpa [hown] using h)
        have HG := Lib.hid (show ∀ zs, writeG c P tx l last zs = if (takeG c P tx l last).1 ≠ 0 then ((takeG c P tx l last).1, abortG { P with H := (takeG c P tx l last).2 } tx) else if zs ≠ [] then (81, abortG { P with H := (takeG c P tx l last).2 } tx) else dependG { P with H := (takeG c P tx l last).2 } tx (txP P.L fun n => hasP n.2 l.1 l.2) (true, false) (false, true) from fun zs => by unfold writeG; rw [if_neg (by rw [ha]; simp), if_neg hneg, if_neg (by rw [hh]; exact hown)])
        obtain ⟨sn, hsn⟩ : ∃ s, (getA P.act tx).getD 0 = s := ⟨_, rfl⟩
        obtain ⟨⟨tk1, tk2⟩, htk⟩ : ∃ t, takeG c P tx l last = t := ⟨_, rfl⟩
        have CT := Lib.hid (fun (w1 : World) (m : Mem10 M w1 b ab kb fb lm lr rr GR c P) => show Calls Tryz.prog 50 #[.pointer (some ⟨lm, 0, none⟩), .int .i64 tx, .int .i64 sn, .int .i64 last, .agg #[.string l.1, .string l.2]] w1 fun e w' => e = .returned (.int .i64 tk1) ∧ MG w' lm lr c.locks tk2 ∧ Out (fun k => k = lr) w1 w' from by
          have h1 := wkTake m.lok HL.out.sz tx sn last HX.out
          rw [show takeP c.locks P.H tx sn last l = (tk1, tk2) by rw [← hsn]; exact htk] at h1
          exact h1)
        rw [htk] at HG
        simp only at HG
        have QA := Lib.hid (fun (w1 : World) (m : Mem10 M w1 b ab kb fb lm lr rr GR c P) => show (Instr.lookup 86 (.map (some ab)) (.int .i64 tx) false).run Tryz.prog w1 = .ok (.int .i64 sn) w1 from by rw [← hsn]; exact look_act m.act HX.out)
        have HHO := Lib.hid (show ¬ holderP P.H l = some tx by rw [hh]; exact hown)
        have HTK := Lib.hid htk
        have K69 := Lib.hid (show ∀ w1, Mem10 M w1 b ab kb fb lm lr rr GR c P → w1.cell? ⟨b, 6, none⟩ = some (.map (some ab)) ∧ w1.cell? ⟨b, 9, none⟩ = some (.pointer (some ⟨lm, 0, none⟩)) from fun w1 m => ⟨m.cells.2.2.2.2.2.2.1, m.cells.2.2.2.2.2.2.2.2.2.1⟩)
        clear hown hh ha hsn htk CH
        go_enter Tryz.func16, Tryz.ntmps16
        go_upto_region 1 with fail
        try rw [hW]
        go_upto_region 8 with (first
          | (go_at_call 48; go_loud (refine CR.out.mono ?_; rintro e w1 ⟨rfl, hw⟩; replace hw := hw.symm; subst hw))
          | (go_at_call 49; go_loud (refine (CH2.out _ M1.out).mono ?_; rintro e w2 ⟨rfl, b2⟩; have M2 := Lib.hid (M1.out.below I b2); have B2 := Lib.hid (below_next HB.out b2); replace x0 := keep_below x0 b2; replace x1 := keep_below x1 b2; clear b2)))
        have MD := Lib.hid (M2.out.below I (Below.refl w2.heap.size w2).drew)
        have qA := QA.out _ MD.out
        obtain ⟨c6, c9⟩ := K69.out _ M2.out
        have hS : w2.cell? ⟨b, 6, none⟩ = some (.map (some ab)) ∧ w2.cell? ⟨b, 9, none⟩ = some (.pointer (some ⟨lm, 0, none⟩)) ∧ w2.cell? ⟨w.heap.size, 0, none⟩ = some (.string l.1) ∧ w2.cell? ⟨w.heap.size, 1, none⟩ = some (.string l.2) := ⟨c6, c9, x0, x1⟩
        have SN := Lib.hid (show ∀ w3, Out (fun k => k = lr) w2.drew w3 → w3.cell? ⟨b, 6, none⟩ = some (.map (some ab)) ∧ w3.cell? ⟨b, 9, none⟩ = some (.pointer (some ⟨lm, 0, none⟩)) ∧ w3.cell? ⟨w.heap.size, 0, none⟩ = some (.string l.1) ∧ w3.cell? ⟨w.heap.size, 1, none⟩ = some (.string l.2) from fun w3 o => by
          have n1 : b ≠ lr := HM.out.ne.1.2.2.2.2
          have n2 : w.heap.size ≠ lr := by have := HLT.out.2.2.2.2.2; omega
          exact ⟨o.cell (w := w2.drew) c6 n1, o.cell (w := w2.drew) c9 n1, o.cell (w := w2.drew) x0 n2, o.cell (w := w2.drew) x1 n2⟩)
        go_region_held3 (fun w' => w'.cell? ⟨b, 6, none⟩ = some (.map (some ab)) ∧ w'.cell? ⟨b, 9, none⟩ = some (.pointer (some ⟨lm, 0, none⟩)) ∧ w'.cell? ⟨w.heap.size, 0, none⟩ = some (.string l.1) ∧ w'.cell? ⟨w.heap.size, 1, none⟩ = some (.string l.2)) (first | exact hS | exact S2)
          (first | (go_at_call 50; go_loud (refine (CT.out _ MD.out).mono ?_; rintro e w3 ⟨rfl, l3, o3⟩; have S2 := SN.out _ o3; have M3 := Lib.hid (MD.out.setLok I o3 l3); have O3 := Lib.hid (show Out (fun k => k = lr) w w3 from (Out.of_below B2.out _).drew.then o3); have O3b := Lib.hid (show Out (fun k => k = lr) w2 w3 from (Out.refl _ w2).drew.then o3); clear l3 o3)))
        clear SN S2 hS c6 c9 qA
        have y0 : w3.cell? ⟨w.heap.size, 0, none⟩ = some (.string l.1) := O3b.out.cell x0 (by have := HLT.out.2.2.2.2.2; show w.heap.size ≠ lr; omega)
        have y1 : w3.cell? ⟨w.heap.size, 1, none⟩ = some (.string l.2) := O3b.out.cell x1 (by have := HLT.out.2.2.2.2.2; show w.heap.size ≠ lr; omega)
        have HC3 := Lib.hid (HC.out.setH tk2)
        by_cases h0 : tk1 = 0
        · subst h0
          have CK := Lib.hid (wxKwOf I M3.out HC3.out tx HL.out)
          unfold lkV at CK
          have HG1 := Lib.hid (show ∀ zs, writeG c P tx l last zs = if zs ≠ [] then (81, abortG { P with H := tk2 } tx) else dependG { P with H := tk2 } tx (txP P.L fun n => hasP n.2 l.1 l.2) (true, false) (false, true) from fun zs => by rw [HG.out, if_neg (by simp)])
          have CA := Lib.hid (fun (w1 : World) (m : Mem10 M w1 b ab kb fb lm lr rr GR c { P with H := tk2 }) => wxAbort I m HC3.out HX.out)
          go_wp2_with (first
            | (go_at_call 51; go_loud (refine CK.out.mono ?_; rintro e w4 ⟨v, zs, rfl, o4, k4, b4⟩; have K4 := Lib.hid (show KwIs P tx l.1 l.2 (l.2 ++ ⟨#[0]⟩) zs from k4); have B4 := Lib.hid b4; have M4 := Lib.hid (M3.out.below I b4); replace y0 := keep_below y0 b4; replace y1 := keep_below y1 b4; obtain ⟨A, d, rfl, -, -, -, -⟩ := o4.form; clear o4 k4 b4))
            | (go_at_call 52; go_loud (refine (CA.out _ M4.out).mono ?_; rintro e w5 ⟨rfl, l5⟩; have L5 := Lib.hid (show LeftG M w4 w5 b ab kb fb lm lr rr GR c (abortG { P with H := tk2 } tx) from l5); clear l5)))
          · go_ret
            have hz : zs ≠ [] := by
              have : 0 < zs.length := by assumption
              intro e
              rw [e] at this
              simp at this
            refine ⟨zs, fun _ _ _ _ => K4.out, by rw [HG1.out, if_pos hz]; rfl, ?_⟩
            rw [HG1.out, if_pos hz]
            exact (L5.out.after B4.out).more (w1 := w) (GR := GR) (fun k hk => .inl hk) (O3.out.mono fun _ _ e => .inr (.inr (.inr (.inl e))))
          · have hz : zs = [] := by
              have : ¬ 0 < zs.length := by assumption
              exact List.eq_nil_of_length_eq_zero (by omega)
            subst hz
            have HG2 := Lib.hid (HG1.out [])
            rw [if_neg (by simp)] at HG2
            obtain ⟨os, hos⟩ : ∃ os, (txP P.L fun n => hasP n.2 l.1 l.2) = os := ⟨_, rfl⟩
            rw [hos] at HG2
            have HOW := Lib.hid (show ∀ o ∈ os, (Lit.int .i64 o).wf = true from fun o ho => by
              rw [← hos] at ho
              obtain ⟨n, hn, e⟩ := tx_mem ho
              rw [← e]; exact HW.out.l n hn)
            have HON := Lib.hid (show os.length ≤ 65536 by
              rw [← hos]
              have h1 := tx_len (L := P.L) (f := fun n => hasP n.2 l.1 l.2)
              have h2 := (I.inv HM.out.rds)
              have h3 := h2.1.cap
              have h4 := h2.2.2.2
              omega)
            have MD4 := Lib.hid (M4.out.below I (Below.refl w4.heap.size w4).drew)
            have CR2 := Lib.hid (show Calls Tryz.prog 54 #[.pointer (some ⟨rr, 0, none⟩), .string l.1, .string l.2] w4.drew fun e w' => ∃ v, e = .returned v ∧ SO seN w4.heap.size w' v os.length (numC os) ∧ Below w4.heap.size w4.drew w' from by
              have := I.readers MD4.out.rds l.1 l.2 HL.out.1 HL.out.2
              rw [show (txP ({ P with H := tk2 } : Pg).L fun n => hasP n.2 l.1 l.2) = os from hos] at this
              exact this)
            have CD := Lib.hid (fun (w1 : World) (m : Mem10 M w1 b ab kb fb lm lr rr GR c { P with H := tk2 }) (A : Option Addr) (d : Nat) (hA : SB w1 A os.length (numC os)) (hd : os.length ≤ d) (hm : d ≤ maxLen) => wxDep I m HC3.out HX.out hA rfl hd hm (by have := HON.out; omega) HOW.out (true, false) (false, true))
            obtain ⟨dp, hdp⟩ : ∃ q, dependG { P with H := tk2 } tx os (true, false) (false, true) = q := ⟨_, rfl⟩
            rw [hdp] at CD HG2
            have c10 := M4.out.cells.2.2.2.2.2.2.2.2.2.2
            have hS : w4.cell? ⟨b, 10, none⟩ = some (.pointer (some ⟨rr, 0, none⟩)) ∧ w4.cell? ⟨w.heap.size, 0, none⟩ = some (.string l.1) ∧ w4.cell? ⟨w.heap.size, 1, none⟩ = some (.string l.2) := ⟨c10, y0, y1⟩
            have SN := Lib.hid (show ∀ w5, Below w4.heap.size w4 w5 → w5.cell? ⟨b, 10, none⟩ = some (.pointer (some ⟨rr, 0, none⟩)) ∧ w5.cell? ⟨w.heap.size, 0, none⟩ = some (.string l.1) ∧ w5.cell? ⟨w.heap.size, 1, none⟩ = some (.string l.2) from fun w5 g => ⟨keep_below c10 g, keep_below y0 g, keep_below y1 g⟩)
            have SM := Lib.hid (show ∀ w5 w6, Below w4.heap.size w4 w5 → LeftG M w5 w6 b ab kb fb lm lr rr GR c dp.2 → w6.cell? ⟨b, 10, none⟩ = some (.pointer (some ⟨rr, 0, none⟩)) ∧ w6.cell? ⟨w.heap.size, 0, none⟩ = some (.string l.1) ∧ w6.cell? ⟨w.heap.size, 1, none⟩ = some (.string l.2) from fun w5 w6 g hl => by
              obtain ⟨GR', m, -, o⟩ := hl
              obtain ⟨-, z0, z1⟩ := SN.out w5 g
              have nb : ¬ (w.heap.size = ab ∨ w.heap.size = kb ∨ w.heap.size = fb ∨ w.heap.size = lr ∨ GR w.heap.size) := by
                have h1 := HLT.out
                rintro (e | e | e | e | e)
                · omega
                · omega
                · omega
                · omega
                · have := HGR.out _ e; omega
              exact ⟨m.cells.2.2.2.2.2.2.2.2.2.2, o.cell z0 nb, o.cell z1 nb⟩)
            clear hos hdp CA CK
            go_region_held3 (fun w' => w'.cell? ⟨b, 10, none⟩ = some (.pointer (some ⟨rr, 0, none⟩)) ∧ w'.cell? ⟨w.heap.size, 0, none⟩ = some (.string l.1) ∧ w'.cell? ⟨w.heap.size, 1, none⟩ = some (.string l.2)) (first | exact hS | exact S6 | exact S5)
              (first
                | (go_at_call 54; go_loud (refine CR2.out.mono ?_; rintro e w5 ⟨v5, rfl, o5, b5⟩; have bv : Below w4.heap.size w4 w5 := (Below.refl w4.heap.size w4).drew.trans b5; have S5 := SN.out _ bv; have M5 := Lib.hid (M4.out.below I bv); have B5 := Lib.hid bv; obtain ⟨A5, d5, rfl, sb5, hn5, hm5, ha5⟩ := o5.form; have CD5 := Lib.hid (CD.out _ M5.out A5 d5 (by rw [show seN.s = 1 from rfl, Nat.one_mul] at sb5; exact sb5) hn5 hm5); clear b5 o5 bv sb5 hn5 hm5 ha5))
                | (go_at_call 53; go_loud (refine CD5.out.mono ?_; rintro e w6 ⟨rfl, l6⟩; have L6 := Lib.hid (show LeftG M w5 w6 b ab kb fb lm lr rr GR c dp.2 from l6); have S6 := SM.out _ _ B5.out l6; clear l6)))
            go_wp2
            go_ret
            refine ⟨[], fun _ _ _ _ => K4.out, by rw [HG2.out]; rfl, ?_⟩
            rw [HG2.out]
            exact (L6.out.after (below_next B4.out B5.out)).more (w1 := w) (GR := GR) (fun k hk => .inl hk) (O3.out.mono fun _ _ e => .inr (.inr (.inr (.inl e))))
        · have i1 : (tk1 == 0) = false := by simpa using h0
          have HG1 := Lib.hid (show ∀ zs, writeG c P tx l last zs = (tk1, abortG { P with H := tk2 } tx) from fun zs => by rw [HG.out, if_pos h0])
          have CA := Lib.hid (wxAbort I M3.out HC3.out HX.out)
          have H0 := Lib.hid h0
          clear h0
          go_wp2_with (go_at_call 52; go_loud (refine CA.out.mono ?_; rintro e w4 ⟨rfl, l4⟩; have L4 := Lib.hid (show LeftG M w3 w4 b ab kb fb lm lr rr GR c (abortG { P with H := tk2 } tx) from l4); clear l4))
          go_ret
          refine ⟨[], fun _ _ _ e => absurd (by rw [HTK.out] at e; exact e) H0.out, by rw [HG1.out]; rfl, by rw [HG1.out]; exact L4.out.more (w1 := w) (GR := GR) (fun k hk => .inl hk) (O3.out.mono fun _ _ e => .inr (.inr (.inr (.inl e))))⟩
end
end Go.Proofs.YtknppiebncdjmaaGreat

namespace Go.Proofs.YtknppiebncdjmaaGreat
set_option maxRecDepth 100000
open Go.RowKit Go.Maps Go.ChangeMaps Go.MapKept

theorem wp_lenM {κ : Type} [DecidableEq κ] {k : TypeId} (T : KT κ k) {w : World} {ops : Array Oper} {rest : List Oper} {o : Oper} {a : Act} {Q : Exit → Act → World → Prop} {r : Nat} {hs : List (κ × Value)} {t e : TypeId} (hg : o.guard = none) (m : Operand) (hop : o.op = Op.call { callee := Callee.builtin Builtin.len, args := #[m], argTypes := #[t] }) (hm : a.eval m = .map (some r)) (hM : MapM T w r hs) (ht : Tryz.prog.underlying t = some (.map k e))
    (hK : wpList Tryz.prog ops Q rest (a.put o.dst (.int .i64 (hs.length : Nat))) w) : wpList Tryz.prog ops Q (o :: rest) a w := by
  obtain ⟨D, ho, hvw⟩ := hM
  refine wpList_len_own w hg m t hop k e ht _ r hs.length D hm ho ?_
  rw [hvw.size]
  exact hK
def beginG (c : Cp10) (P : Pg) : (Int × Int × Int) × Pg := if c.act ≤ (P.act.length : Int) then ((0, 0, 4), P) else ((P.begun + 1, P.now, 0), { P with begun := P.begun + 1, act := putA P.act (P.begun + 1) P.now })
section
variable {M : MF} {w : World} {b ab kb fb lm lr rr : Nat} {GR : Nat → Prop} {c : Cp10} {P : Pg}
theorem act_len (h : Mem10 M w b ab kb fb lm lr rr GR c P) (ty : TypeId) : (Builtin.len_ #[86] ty #[.map (some ab)]).run Tryz.prog w = .ok (.int .i64 (P.act.length : Nat)) w := by
  have := h.act.len Tryz.underlying86 ty
  rwa [show (actM P.act).length = P.act.length from enc_len _ _] at this
theorem kep_len (h : Mem10 M w b ab kb fb lm lr rr GR c P) (ty : TypeId) : (Builtin.len_ #[87] ty #[.map (some kb)]).run Tryz.prog w = .ok (.int .i64 (P.kep.length : Nat)) w := by
  have := h.kep.len Tryz.underlying87 ty
  rwa [show (kepM P.kep).length = P.kep.length from enc_len _ _] at this
def LeftB (M : MF) (w w' : World) (b ab kb fb lm lr rr : Nat) (GR : Nat → Prop) (c : Cp10) (P' : Pg) : Prop := ∃ GR', Mem10 M w' b ab kb fb lm lr rr GR' c P' ∧ (∀ k, GR' k → GR k ∨ w.heap.size ≤ k) ∧ Out (BlG b ab kb fb lr GR) w w'
theorem LeftG.wide {w w' : World} {P' : Pg} (h : LeftG M w w' b ab kb fb lm lr rr GR c P') : LeftB M w w' b ab kb fb lm lr rr GR c P' := by
  obtain ⟨GR', m, g, o⟩ := h
  refine ⟨GR', m, g, o.mono fun k _ e => ?_⟩
  rcases e with e | e | e | e | e
  · exact .inl (by simp [e])
  · exact .inl (by simp [e])
  · exact .inl (by simp [e])
  · exact .inl (by simp [e])
  · exact .inr e
set_option maxHeartbeats 4000000 in
theorem wxBegin (I : Api9 M) (h : Mem10 M w b ab kb fb lm lr rr GR c P) (hc : PgOk c P) :
    Calls Tryz.prog 15 #[.pointer (some ⟨b, 0, none⟩)] w fun e w' => e = .returned (.tuple #[.int .i64 (beginG c P).1.1, .int .i64 (beginG c P).1.2.1, .int .i64 (beginG c P).1.2.2]) ∧ LeftB M w w' b ab kb fb lm lr rr GR c (beginG c P).2 := by
  have CM := Lib.hid (wxMade h hc)
  have qN := fun ty => act_len (h.below I (Below.refl w.heap.size w).drew) ty
  obtain ⟨c0, -, -, -, c4, c5, c6, -, -, -, -⟩ := h.cells
  have HM := Lib.hid h
  unfold beginG
  have i0 : (P.act.length : Int) ≤ 64 := by have := hc.na; have := hc.ca; omega
  have HBG := Lib.hid hc.bg
  have HNA := Lib.hid hc.na
  have i2 : 0 ≤ P.begun ∧ P.begun ≤ 1000000000000000000 := hc.bg
  obtain ⟨i2, i3⟩ := i2
  obtain ⟨bg, hbg⟩ : ∃ x, P.begun = x := ⟨_, rfl⟩
  rw [hbg] at c5 i2 i3
  have HBE := Lib.hid hbg
  clear h hc
  by_cases hf : c.act ≤ (P.act.length : Int)
  · rw [if_pos hf]
    have hf2 : (P.act.length : Int) ≥ c.act := hf
    go_enter Tryz.func15, Tryz.ntmps15
    go_upto_region 3 with (go_at_call 40; go_loud (refine CM.out.mono ?_; rintro e w1 ⟨rfl, hw⟩; replace hw := hw.symm; subst hw))
    go_region
    go_wp2
    refine bodyPost_ret (v := .tuple #[.int .i64 0, .int .i64 0, .int .i64 4]) (by simp [results, Tryz.results15, go_sem]) rfl ⟨rfl, (LeftG.wide ⟨GR, HM.out.below I (Below.refl _ _).drew, fun _ h => .inl h, Out.of_below (Below.refl _ _).drew _⟩)⟩
  · rw [if_neg hf]
    have hf2 : ¬ (P.act.length : Int) ≥ c.act := hf
    have HFF := Lib.hid hf
    rw [hbg]
    obtain ⟨V, hV⟩ : ∃ V, (w.setCell ⟨b, 5, none⟩ (.int .i64 (bg + 1))).drew = V := ⟨_, rfl⟩
    have fz : w.frozen? ⟨b, 5, none⟩ = false := frozen_of_row _ _ _ _ _ HM.out.blk
    have mv : Mem10 M V b ab kb fb lm lr rr GR c { P with begun := bg + 1 } := by rw [← hV]; exact (HM.out.putBegun I (bg + 1)).below I (Below.refl _ _).drew
    have OV := Lib.hid (show Out (BlG b ab kb fb lr GR) w V by rw [← hV]; exact (Out.setCell (F := BlG b ab kb fb lr GR) (Out.refl _ w) (.inl (.inl (by simp))) _).drew)
    obtain ⟨-, -, -, -, d4, d5, d6, -, -, -, -⟩ := mv.cells
    have MV := Lib.hid mv
    have MVD := Lib.hid (mv.below I (Below.refl V.heap.size V).drew)
    have HV := Lib.hid hV
    have HK := Lib.hid (show KI.ok (bg + 1) by show (Lit.int .i64 (bg + 1)).wf = true; simp [Lit.wf, IntKind.min, IntKind.max, IntKind.bits, IntKind.signed]; omega)
    have HLN := Lib.hid (show (actM P.act).length < 4000000 by rw [show (actM P.act).length = P.act.length from enc_len _ _]; omega)
    clear mv hV hf HBE hbg
    go_enter Tryz.func15, Tryz.ntmps15
    go_upto_region 3 with (go_at_call 40; go_loud (refine CM.out.mono ?_; rintro e w1 ⟨rfl, hw⟩; replace hw := hw.symm; subst hw))
    go_region
    go_upto_region 6 with fail
    rw [HV.out]
    clear qN c0 c4 c5 c6 fz
    go_still_tail 12, (by kernel_rfl)
    go_upto_region 7 with (at_mapUpdate; go_loud (refine wp_putM KI (by rfl) (.tmp 31) (.tmp 35) (.tmp 39) (by rfl) (by rfl) MVD.out.act Tryz.underlying86 (bg + 1) HK.out (by rfl) HLN.out ?_; intro w5 m5 g5 s5; have M5 := Lib.hid m5; have G5 := Lib.hid g5; clear m5 g5 s5))
    have o5 : Out (fun k => k = ab) V w5 := (Out.refl _ V).drew.grown G5.out fun k e => .inl (Option.some.inj e).symm
    have m5 := MV.out.setAct I o5 (A' := putA P.act (bg + 1) P.now) (by have := M5.out; unfold actM at this ⊢; rw [← enc_put]; exact this)
    obtain ⟨-, -, -, -, d4, d5, -, -, -, -, -⟩ := m5.cells
    have M6 := Lib.hid m5
    have O6 := Lib.hid (show Out (BlG b ab kb fb lr GR) w w5 from OV.out.then (o5.mono fun k _ e => .inl (by simp [show k = ab from e])))
    clear o5 m5
    go_quiet (fail)
    go_wp2
    refine bodyPost_ret (v := .tuple #[.int .i64 (bg + 1), .int .i64 P.now, .int .i64 0]) (by simp [results, Tryz.results15, go_sem]) rfl ⟨rfl, GR, M6.out.below I (below_drewN8 _ _), fun _ h => .inl h, O6.out.then (Out.of_below (below_drewN8 _ _) _)⟩
set_option maxHeartbeats 4000000 in
theorem wxAbortC (I : Api9 M) (h : Mem10 M w b ab kb fb lm lr rr GR c P) (hc : PgOk c P) {tx : Int} (hx : (Lit.int .i64 tx).wf = true) :
    Calls Tryz.prog 17 #[.pointer (some ⟨b, 0, none⟩), .int .i64 tx] w fun e w' => e = .returned (.int .i64 (refG P tx)) ∧ LeftG M w w' b ab kb fb lm lr rr GR c (if isAct P tx = true then abortG P tx else P) := by
  have CR := Lib.hid (wxRef h hc hx)
  have CA := Lib.hid (wxAbort I h hc hx)
  have HM := Lib.hid h
  clear h hc hx
  unfold refG at *
  cases ha : isAct P tx
  · rw [ha] at CR
    go_enter Tryz.func17, Tryz.ntmps17
    go_wp2_with (go_at_call 48; go_loud (refine CR.out.mono ?_; rintro e w1 ⟨rfl, hw⟩; replace hw := hw.symm; subst hw))
    go_ret
    exact ⟨rfl, GR, HM.out, fun _ h => .inl h, Out.refl _ _⟩
  · rw [ha] at CR
    go_enter Tryz.func17, Tryz.ntmps17
    go_wp2_with (first
      | (go_at_call 48; go_loud (refine CR.out.mono ?_; rintro e w1 ⟨rfl, hw⟩; replace hw := hw.symm; subst hw))
      | (go_at_call 52; go_loud (refine CA.out.mono ?_; rintro e w2 ⟨rfl, l2⟩; have L2 := Lib.hid (show LeftG M w w2 b ab kb fb lm lr rr GR c (abortG P tx) from l2); clear l2)))
    go_ret
    exact ⟨rfl, L2.out⟩
end
end Go.Proofs.YtknppiebncdjmaaGreat

namespace Go.Proofs.YtknppiebncdjmaaGreat
set_option maxRecDepth 100000
open Go.RowKit

theorem cb_lt8 : ∀ x y : List UInt8, decide (Lib.compareBytes x y < 0) = Op.bytesLess x y
  | [], [] => rfl
  | [], _ :: _ => rfl
  | _ :: _, [] => rfl
  | a :: x, b :: y => by
    have ih := cb_lt8 x y
    unfold Lib.compareBytes Op.bytesLess
    by_cases h1 : a < b
    · simp [h1]
    · by_cases h2 : b < a
      · have h3 : ¬ a = b := fun e => by subst e; exact h1 h2
        simp [h1, h2, h3]
      · have h3 : a = b := UInt8.le_antisymm (UInt8.not_lt.1 h2) (UInt8.not_lt.1 h1)
        subst h3
        simp only [h1, if_false, ih]
        simp
theorem cb_zero8 : ∀ x y : List UInt8, Lib.compareBytes x y = 0 ↔ x = y
  | [], [] => by simp [Lib.compareBytes]
  | [], _ :: _ => by simp [Lib.compareBytes]
  | _ :: _, [] => by simp [Lib.compareBytes]
  | a :: x, b :: y => by
    have ih := cb_zero8 x y
    unfold Lib.compareBytes
    by_cases h1 : a < b
    · have h3 : ¬ a = b := fun e => by subst e; exact UInt8.lt_irrefl _ h1
      simp [h1, h3]
    · by_cases h2 : b < a
      · have h3 : ¬ a = b := fun e => by subst e; exact UInt8.lt_irrefl _ h2
        simp [h1, h2, h3]
      · have h3 : a = b := UInt8.le_antisymm (UInt8.not_lt.1 h2) (UInt8.not_lt.1 h1)
        subst h3
        simp only [h1, if_false, ih]
        simp
def cmpS (a b : ByteArray) : Int := Lib.compareBytes a.data.toList b.data.toList
theorem cmpS_lt (a b : ByteArray) : decide (cmpS a b < 0) = klB a b := by
  unfold klB
  rw [ByteArray.toList_eq, ByteArray.toList_eq]
  exact cb_lt8 _ _
theorem cmpS_zero (a b : ByteArray) : cmpS a b = 0 ↔ a = b := by
  unfold cmpS
  rw [cb_zero8]
  cases a; cases b
  simp
def Gs (w w' : World) : Prop := ∃ q os, w' = Sort.grow (w.drewN q) os
theorem Gs.refl (w : World) : Gs w w := ⟨0, #[], by simp [Sort.grow_empty]; rfl⟩
theorem Gs.alloc {w w' : World} (h : Gs w w') (o : Obj) : Gs w (w'.alloc o) := by
  obtain ⟨q, os, rfl⟩ := h
  exact ⟨q, os ++ #[o], by rw [Sort.alloc_eq_grow, Sort.grow_grow]⟩
theorem Gs.drewN {w w' : World} (h : Gs w w') (n : Nat) : Gs w (w'.drewN n) := by
  obtain ⟨q, os, rfl⟩ := h
  exact ⟨q + n, os, by unfold Sort.grow World.drewN; simp [Nat.add_assoc]⟩
theorem Gs.drew {w w' : World} (h : Gs w w') : Gs w w'.drew := h.drewN 1

set_option maxHeartbeats 1000000 in
theorem wcmpStr (a b : ByteArray) (w : World) : Calls Tryz.prog 139 #[.string a, .string b] w fun e w' => e = .returned (.int .i64 (cmpS a b)) ∧ w' = w := by
  go_enter Tryz.func139, Tryz.ntmps139
  go_wp2
  rw [run_callFunc_extern Tryz.func178 (by kernel_rfl) (by kernel_rfl) (by kernel_rfl) (e := Extern.BytealgCompare.compare) (by kernel_rfl), Lib.run_compareString]
  simp only [Result.andThen]
  rw [Oper.upon_value]
  go_wp2
  go_ret
  exact ⟨rfl, rfl⟩
set_option maxHeartbeats 1000000 in
theorem wstrCmp (a b : ByteArray) (w : World) : Calls Tryz.prog 93 #[.string a, .string b] w fun e w' => e = .returned (.int .i64 (cmpS a b)) ∧ w' = w := by
  have CC := Lib.hid (wcmpStr a b w)
  go_enter Tryz.func93, Tryz.ntmps93
  go_wp2_with (go_at_call 139; go_loud (refine CC.out.mono ?_; rintro e w1 ⟨rfl, hw⟩; replace hw := hw.symm; subst hw))
  go_ret
  exact ⟨rfl, rfl⟩
theorem Gs.below {w w' : World} (h : Gs w w') : Below w.heap.size w w' := by
  obtain ⟨q, os, rfl⟩ := h
  refine ⟨rfl, rfl, rfl, by simp [Sort.grow, World.drewN], fun k hk => ?_⟩
  unfold Sort.grow World.drewN
  exact Array.getElem?_append_left hk
def cmpI (a b : Int) : Int := if a < b then -1 else if b < a then 1 else 0
theorem cmpI_lt (a b : Int) : decide (cmpI a b < 0) = decide (a < b) := by
  unfold cmpI
  split
  · simp [*]
  · split <;> simp [*]
theorem cmpI_zero (a b : Int) : cmpI a b = 0 ↔ a = b := by
  unfold cmpI
  split
  · simp; omega
  · split
    · simp; omega
    · simp; omega
set_option maxHeartbeats 2000000 in
theorem wcmp_int (a b : Int) (w : World) : Calls Tryz.prog 94 #[.int .i64 a, .int .i64 b] w fun e w' => e = .returned (.int .i64 (cmpI a b)) ∧ w' = w := by
  by_cases h1 : a < b
  · have HM := Lib.hid (show cmpI a b = -1 by unfold cmpI; rw [if_pos h1])
    go_enter Tryz.func94, Tryz.ntmps94
    go_wp2
    go_ret
    exact ⟨by rw [HM.out] <;> rfl, rfl⟩
  · by_cases h2 : b < a
    · have HM := Lib.hid (show cmpI a b = 1 by unfold cmpI; rw [if_neg h1, if_pos h2])
      go_enter Tryz.func94, Tryz.ntmps94
      go_wp2
      go_ret
      exact ⟨by rw [HM.out] <;> rfl, rfl⟩
    · have HM := Lib.hid (show cmpI a b = 0 by unfold cmpI; rw [if_neg h1, if_neg h2])
      go_enter Tryz.func94, Tryz.ntmps94
      go_wp2
      go_ret
      exact ⟨by rw [HM.out] <;> rfl, rfl⟩
set_option maxHeartbeats 2000000 in
theorem wcmp_int64 (a b : Int) (w : World) : Calls Tryz.prog 185 #[.int .i64 a, .int .i64 b] w fun e w' => e = .returned (.int .i64 (cmpI a b)) ∧ w' = w := by
  by_cases h1 : a < b
  · have HM := Lib.hid (show cmpI a b = -1 by unfold cmpI; rw [if_pos h1])
    go_enter Tryz.func185, Tryz.ntmps185
    go_wp2
    go_ret
    exact ⟨by rw [HM.out] <;> rfl, rfl⟩
  · by_cases h2 : b < a
    · have HM := Lib.hid (show cmpI a b = 1 by unfold cmpI; rw [if_neg h1, if_pos h2])
      go_enter Tryz.func185, Tryz.ntmps185
      go_wp2
      go_ret
      exact ⟨by rw [HM.out] <;> rfl, rfl⟩
    · have HM := Lib.hid (show cmpI a b = 0 by unfold cmpI; rw [if_neg h1, if_neg h2])
      go_enter Tryz.func185, Tryz.ntmps185
      go_wp2
      go_ret
      exact ⟨by rw [HM.out] <;> rfl, rfl⟩

def numV (l : List Int) : List Value := l.map (.int .i64)
def orP (xs : List Int) : Int := (xs.find? (fun x => decide (x ≠ 0))).getD 0
theorem orP_drop (xs : List Int) (k : Nat) (h : ∀ j x, j < k → xs[j]? = some x → x = 0) : orP xs = orP (xs.drop k) := by
  induction k generalizing xs with
  | zero => rfl
  | succ k ih =>
    cases xs with
    | nil => rfl
    | cons a xs =>
      have h0 := h 0 a (by omega) rfl
      subst h0
      have := ih xs fun j x hj hx => h (j + 1) x (by omega) (by simpa using hx)
      rw [List.drop_succ_cons, ← this]
      rfl
set_option maxHeartbeats 2000000 in
theorem wcmpOrL {w : World} {g n : Nat} {xs : List Int} (hl : xs.length = n) (hn : n ≤ 100) (hc : ∀ j x, xs[j]? = some x → w.cell? ⟨g, j, none⟩ = some (.int .i64 x)) : Calls Tryz.prog 92 #[.slice (some ⟨g, 0, none⟩) n n] w fun e w' => e = .returned (.int .i64 (orP xs)) ∧ w' = w := by
  have HC := Lib.hid hc
  have HL := Lib.hid hl
  have HN := Lib.hid hn
  clear hc hl hn
  go_enter Tryz.func92, Tryz.ntmps92
  go_upto_region 3 with fail
  go_loopw [8] (fun a' wz => ∃ k : Nat, a' = .int .i64 (k : Nat) ∧ k ≤ n ∧ wz = w ∧ ∀ j x, j < k → xs[j]? = some x → x = 0) (fun a' _ => n - (intOf a').toNat)
  case atStart => exact ⟨0, rfl, Nat.zero_le _, rfl, fun j x hj => absurd hj (by omega)⟩
  case round =>
    rename World => wz
    obtain ⟨k, rfl, hk, rfl, hz⟩ := hrel
    have HZ := Lib.hid hz
    have HD := Lib.hid (orP_drop xs k hz)
    clear hz
    by_cases hkn : k < n
    · obtain ⟨x, hx⟩ : ∃ x, xs[k]? = some x := ⟨_, List.getElem?_eq_getElem (by rw [HL.out]; exact hkn)⟩
      have c0 := HC.out k x hx
      have i1 : (k : Int) < (n : Int) := by omega
      have hk2 : k ≤ 100 := by have := HN.out; omega
      have HX := Lib.hid hx
      have HD2 := Lib.hid (show orP xs = if x ≠ 0 then x else orP (xs.drop (k + 1)) by
        rw [HD.out, List.drop_eq_getElem_cons (by rw [HL.out]; exact hkn)]
        rw [List.getElem?_eq_getElem (by rw [HL.out]; exact hkn)] at hx
        cases hx
        unfold orP
        have hkx : k < xs.length := by rw [HL.out]; exact hkn
        by_cases h0 : xs[k] = 0
        · rw [List.find?_cons_of_neg (by simpa using h0), if_neg (by simpa using h0)]
        · rw [List.find?_cons_of_pos (by simpa using h0), if_pos h0]; rfl)
      have HK := Lib.hid hkn
      clear hx hk hkn
      by_cases h0 : x = 0
      · subst h0
        go_wp2
        go_roundw
        case rel => exact ⟨k + 1, by go_num, HK.out, by first | rfl | trivial, fun j x hj hx => by
          rcases Nat.lt_or_ge j k with h1 | h1
          · exact HZ.out j x h1 hx
          · have : j = k := by omega
            subst this
            rw [HX.out] at hx
            cases hx; rfl⟩
        case measure => have := HK.out; simp [intOf]; omega
      · have HR := Lib.hid (show orP xs = x by rw [HD2.out, if_pos h0])
        go_wp2
        go_ret
        exact ⟨by rw [HR.out] <;> rfl, rfl⟩
    · have hkn2 : k = n := by omega
      have HR := Lib.hid (show orP xs = 0 by rw [HD.out, List.drop_eq_nil_of_le (by rw [HL.out, hkn2]; exact Nat.le_refl _)]; rfl)
      have i1 : ¬ (k : Int) < (n : Int) := by omega
      clear hkn hk hkn2
      go_wp2
      go_ret
      exact ⟨by rw [HR.out] <;> rfl, rfl⟩
end Go.Proofs.YtknppiebncdjmaaGreat

namespace Go.Proofs.YtknppiebncdjmaaGreat
set_option maxRecDepth 100000
open Go.RowKit

def cmpB (a b : Lk) : Int := if cmpS a.1 b.1 ≠ 0 then cmpS a.1 b.1 else cmpS a.2 b.2
theorem ltOf_cmpB (a b : Lk) : ltOf cmpB a b = lessB a b := by
  unfold ltOf cmpB lessB
  rw [toList_beq8]
  by_cases h : a.1 = b.1
  · rw [if_neg (by simpa using (cmpS_zero _ _).2 h), cmpS_lt]
    rw [h, klB_irrefl]
    simp
  · rw [if_pos (by intro e; exact h ((cmpS_zero _ _).1 e)), cmpS_lt]
    simp [h]
theorem swo_cmpB : Sort.SWO (ltOf cmpB) where
  irrefl x := by rw [ltOf_cmpB]; exact lessB_irr x
  trans x y z h1 h2 := by rw [ltOf_cmpB] at *; exact lessB_tr _ _ _ h1 h2
  ntrans x y z h1 h2 := by
    rw [ltOf_cmpB] at *
    cases h3 : lessB x z with
    | false => rfl
    | true =>
      cases h4 : lessB y x with
      | true => rw [lessB_tr _ _ _ h4 h3] at h2; cases h2
      | false => rw [lessB_tri _ _ h1 h4] at h3; rw [h2] at h3; cases h3

set_option maxHeartbeats 2000000 in
theorem wcmpOr {w : World} {g : Nat} {x y : Int} (c0 : w.cell? ⟨g, 0, none⟩ = some (.int .i64 x)) (c1 : w.cell? ⟨g, 1, none⟩ = some (.int .i64 y)) : Calls Tryz.prog 92 #[.slice (some ⟨g, 0, none⟩) 2 2] w fun e w' => e = .returned (.int .i64 (if x ≠ 0 then x else y)) ∧ w' = w := by
  by_cases h1 : x = 0
  · by_cases h2 : y = 0
    · subst h1; subst h2
      go_enter Tryz.func92, Tryz.ntmps92
      go_upto_region 3 with fail
      refine wp_loop_rounds 3 ?_
      rw [rounds_succ]
      go_wp2
      rw [rounds_succ]
      go_wp2
      rw [rounds_succ]
      go_wp2
      go_ret
      exact ⟨by simp, rfl⟩
    · subst h1
      go_enter Tryz.func92, Tryz.ntmps92
      go_upto_region 3 with fail
      refine wp_loop_rounds 2 ?_
      rw [rounds_succ]
      go_wp2
      rw [rounds_succ]
      go_wp2
      go_ret
      exact ⟨by simp, rfl⟩
  · go_enter Tryz.func92, Tryz.ntmps92
    go_upto_region 3 with fail
    refine wp_loop_rounds 1 ?_
    rw [rounds_succ]
    go_wp2
    go_ret
    exact ⟨by simp, rfl⟩
end Go.Proofs.YtknppiebncdjmaaGreat

namespace Go.Proofs.YtknppiebncdjmaaGreat
set_option maxRecDepth 100000
open Go.RowKit

set_option maxHeartbeats 8000000 in
theorem wkCompare (a b : Lk) (w : World) : Calls Tryz.prog 125 #[lkV a, lkV b] w fun e w' => e = .returned (.int .i64 (cmpB a b)) ∧ Gs w w' := by
  obtain ⟨W1, hW1⟩ : ∃ W, w.alloc (.cells #[.string a.1, .string a.2] 42) = W := ⟨_, rfl⟩
  obtain ⟨W2, hW2⟩ : ∃ W, W1.alloc (.cells #[.string b.1, .string b.2] 42) = W := ⟨_, rfl⟩
  have g1 : Gs w W1 := by rw [← hW1]; exact (Gs.refl w).alloc _
  have GG := Lib.hid (show Gs w W2 by rw [← hW2]; exact g1.alloc _)
  have q0 : W2.heap[w.heap.size]? = some (.cells #[.string a.1, .string a.2] 42 (0, 0)) := by
    rw [← hW2, Below.heap_alloc _ _ _ (by rw [← hW1]; simp), ← hW1]; exact heap_alloc_new _ _
  have q1 : W2.heap[w.heap.size + 1]? = some (.cells #[.string b.1, .string b.2] 42 (0, 0)) := by
    rw [show w.heap.size + 1 = W1.heap.size by rw [← hW1]; simp, ← hW2]; exact heap_alloc_new _ _
  have S0 : W2.cell? ⟨w.heap.size, 0, none⟩ = some (.string a.1) ∧ W2.cell? ⟨w.heap.size, 1, none⟩ = some (.string a.2) ∧ W2.cell? ⟨w.heap.size + 1, 0, none⟩ = some (.string b.1) ∧ W2.cell? ⟨w.heap.size + 1, 1, none⟩ = some (.string b.2) :=
    ⟨cell_of_row _ _ 0 _ _ _ q0, cell_of_row _ _ 1 _ _ _ q0, cell_of_row _ _ 0 _ _ _ q1, cell_of_row _ _ 1 _ _ _ q1⟩
  have S1 : ∀ o, (W2.alloc o).cell? ⟨w.heap.size, 0, none⟩ = some (.string a.1) ∧ (W2.alloc o).cell? ⟨w.heap.size, 1, none⟩ = some (.string a.2) ∧ (W2.alloc o).cell? ⟨w.heap.size + 1, 0, none⟩ = some (.string b.1) ∧ (W2.alloc o).cell? ⟨w.heap.size + 1, 1, none⟩ = some (.string b.2) := fun o => by
    have hb : Below W2.heap.size W2 (W2.alloc o) := (Below.refl _ _).alloc (Nat.le_refl _) o
    exact ⟨keep_below S0.1 hb, keep_below S0.2.1 hb, keep_below S0.2.2.1 hb, keep_below S0.2.2.2 hb⟩
  obtain ⟨x, hx⟩ : ∃ x, cmpS a.1 b.1 = x := ⟨_, rfl⟩
  obtain ⟨y, hy⟩ : ∃ y, cmpS a.2 b.2 = y := ⟨_, rfl⟩
  have C1 := Lib.hid (fun W => wstrCmp a.1 b.1 W)
  have C2 := Lib.hid (fun W => wstrCmp a.2 b.2 W)
  rw [hx] at C1
  rw [hy] at C2
  have HW1 := Lib.hid hW1
  have HW2 := Lib.hid hW2
  have HE := Lib.hid (show cmpB a b = if x ≠ 0 then x else y by unfold cmpB; rw [hx, hy])
  rw [HE.out]
  obtain ⟨z, hz⟩ : ∃ z, (if x ≠ 0 then x else y) = z := ⟨_, rfl⟩
  rw [hz]
  have C3 := Lib.hid (fun (W : World) (o : Nat) (h : W.heap[o]? = some (.cells #[.int .i64 x, .int .i64 y] 3 (0, 0))) => (wcmpOr (cell_of_row _ _ 0 _ _ _ h) (cell_of_row _ _ 1 _ _ _ h)))
  rw [hz] at C3
  clear hW1 hW2 g1 q0 q1 hx hy HE hz
  unfold lkV
  go_enter Tryz.func125, Tryz.ntmps125
  go_upto_region 1 with fail
  rw [HW1.out, HW2.out]
  go_region_held3 (fun w' => w'.cell? ⟨w.heap.size, 0, none⟩ = some (.string a.1) ∧ w'.cell? ⟨w.heap.size, 1, none⟩ = some (.string a.2) ∧ w'.cell? ⟨w.heap.size + 1, 0, none⟩ = some (.string b.1) ∧ w'.cell? ⟨w.heap.size + 1, 1, none⟩ = some (.string b.2))
    (first | exact S0 | exact S1 _)
    (first
      | (go_at_call_of 93 (Value.string a.1); go_loud (refine (C1.out _).mono ?_; rintro e w1 ⟨rfl, hw⟩; replace hw := hw.symm; subst hw))
      | (go_at_call_of 93 (Value.string a.2); go_loud (refine (C2.out _).mono ?_; rintro e w1 ⟨rfl, hw⟩; replace hw := hw.symm; subst hw))
      | (go_at_call 92; go_loud (refine (C3.out _ _ (by exact heap_alloc_new W2 _)).mono ?_; rintro e w3 ⟨rfl, hw⟩; replace hw := hw.symm; subst hw)))
  all_goals
    go_wp2
    go_ret
    exact ⟨rfl, by first | exact GG.out.alloc _ | exact GG.out.drew.alloc _⟩
end Go.Proofs.YtknppiebncdjmaaGreat

namespace Go.Proofs
set_option maxRecDepth 100000
open Go.Shelf
def Tryz.sortR_ren : Go.Shelf.Ren := ⟨fun | 6 => 90 | 15 => 137 | 14 => 138 | 28 => 168 | 29 => 169 | 20 => 170 | 21 => 171 | 22 => 172 | 23 => 173 | 24 => 174 | 25 => 175 | 26 => 176 | 27 => 177 | 46 => 206 | 47 => 201 | 48 => 202 | 49 => 207 | 50 => 208 | 57 => 217 | n => n, fun | 22 => 111 | 24 => 114 | 25 => 168 | 3 => 3 | 39 => 206 | 0 => 0 | 53 => 237 | 55 => 239 | 4 => 4 | 46 => 230 | 45 => 229 | 50 => 234 | 5 => 5 | 9 => 9 | 66 => 259 | 70 => 263 | 76 => 273 | 77 => 180 | n => n, fun | n => n⟩
theorem Tryz.sortR : Go.Proofs.SlLaysF0.n6 Tryz.prog Tryz.sortR_ren := {
  mixed := by kernel_rfl
  f6 := ⟨Tryz.f90.name, by decide, Tryz.func90.trans (congrArg some (by kernel_rfl))⟩
  f14 := ⟨Tryz.f138.name, by decide, Tryz.func138.trans (congrArg some (by kernel_rfl))⟩
  f15 := Tryz.func137.trans (congrArg some (by kernel_rfl))
  f20 := ⟨Tryz.f170.name, by decide, Tryz.func170.trans (congrArg some (by kernel_rfl))⟩
  f21 := ⟨Tryz.f171.name, by decide, Tryz.func171.trans (congrArg some (by kernel_rfl))⟩
  f22 := ⟨Tryz.f172.name, by decide, Tryz.func172.trans (congrArg some (by kernel_rfl))⟩
  f23 := ⟨Tryz.f173.name, by decide, Tryz.func173.trans (congrArg some (by kernel_rfl))⟩
  f24 := ⟨Tryz.f174.name, by decide, Tryz.func174.trans (congrArg some (by kernel_rfl))⟩
  f25 := ⟨Tryz.f175.name, by decide, Tryz.func175.trans (congrArg some (by kernel_rfl))⟩
  f26 := ⟨Tryz.f176.name, by decide, Tryz.func176.trans (congrArg some (by kernel_rfl))⟩
  f27 := ⟨Tryz.f177.name, by decide, Tryz.func177.trans (congrArg some (by kernel_rfl))⟩
  f28 := Tryz.func168.trans (congrArg some (by kernel_rfl))
  f29 := Tryz.func169.trans (congrArg some (by kernel_rfl))
  f46 := ⟨Tryz.f206.name, by decide, Tryz.func206.trans (congrArg some (by kernel_rfl))⟩
  f47 := Tryz.func201.trans (congrArg some (by kernel_rfl))
  f48 := Tryz.func202.trans (congrArg some (by kernel_rfl))
  f49 := ⟨Tryz.f207.name, by decide, Tryz.func207.trans (congrArg some (by kernel_rfl))⟩
  f50 := ⟨Tryz.f208.name, by decide, Tryz.func208.trans (congrArg some (by kernel_rfl))⟩
  f57 := ⟨Tryz.f217.name, by decide, Tryz.func217.trans (congrArg some (by kernel_rfl))⟩
  t0 := Tryz.underlying0
  a0 := Tryz.isAgg0
  z0 := Tryz.sizeOf0
  v0 := Tryz.zeroValue0
  t3 := Tryz.underlying3
  a3 := Tryz.isAgg3
  z3 := Tryz.sizeOf3
  v3 := Tryz.zeroValue3
  t4 := Tryz.underlying4
  a4 := Tryz.isAgg4
  z4 := Tryz.sizeOf4
  v4 := Tryz.zeroValue4
  t5 := Tryz.underlying5
  a5 := Tryz.isAgg5
  z5 := Tryz.sizeOf5
  v5 := Tryz.zeroValue5
  t9 := Tryz.underlying9
  a9 := Tryz.isAgg9
  z9 := Tryz.sizeOf9
  v9 := Tryz.zeroValue9
  t22 := Tryz.underlying111
  a22 := Tryz.isAgg111
  z22 := Tryz.sizeOf111
  v22 := Tryz.zeroValue111
  t25 := Tryz.underlying168
  a25 := Tryz.isAgg168
  z25 := Tryz.sizeOf168
  v25 := Tryz.zeroValue168
  t39 := Tryz.underlying206
  a39 := Tryz.isAgg206
  z39 := Tryz.sizeOf206
  v39 := Tryz.zeroValue206
  t45 := Tryz.underlying229
  a45 := Tryz.isAgg229
  z45 := Tryz.sizeOf229
  v45 := Tryz.zeroValue229
  t46 := Tryz.underlying230
  a46 := Tryz.isAgg230
  z46 := Tryz.sizeOf230
  v46 := Tryz.zeroValue230
  t50 := Tryz.underlying234
  a50 := Tryz.isAgg234
  z50 := Tryz.sizeOf234
  v50 := Tryz.zeroValue234
  t53 := Tryz.underlying237
  a53 := Tryz.isAgg237
  z53 := Tryz.sizeOf237
  v53 := Tryz.zeroValue237
  t55 := Tryz.underlying239
  a55 := Tryz.isAgg239
  z55 := Tryz.sizeOf239
  v55 := Tryz.zeroValue239
  t66 := Tryz.underlying259
  a66 := Tryz.isAgg259
  z66 := Tryz.sizeOf259
  v66 := Tryz.zeroValue259
  t70 := Tryz.underlying263
  a70 := Tryz.isAgg263
  z70 := Tryz.sizeOf263
  v70 := Tryz.zeroValue263
  t76 := Tryz.underlying273
  a76 := Tryz.isAgg273
  z76 := Tryz.sizeOf273
  v76 := Tryz.zeroValue273
  t77 := Tryz.underlying180
  a77 := Tryz.isAgg180
  z77 := Tryz.sizeOf180
  v77 := Tryz.zeroValue180 }
end Go.Proofs
