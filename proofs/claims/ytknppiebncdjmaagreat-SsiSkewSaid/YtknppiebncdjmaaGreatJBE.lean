import Derived.Test.YtknppiebncdjmaaGreatJBD
import Derived.Laws.IdiomRangeMap
import Derived.Test.YtknppiebncdjmaaGreatJAQ
set_option linter.unusedVariables false
namespace Go.Proofs.YtknppiebncdjmaaGreat
set_option maxRecDepth 100000
open Go.RowKit

theorem Slot.looks {w : World} {r mb : Nat} {X : List Tx9} {t : Int} {tb : ByteArray} {o : Option Nat} {sv : Value} {ls : List (Nat × Rd)} (hs : Slot w r mb X t tb o sv ls) (hT : MapM KI w mb (topX X)) (ht : (Lit.int .i64 t).wf = true) (htb : tb.size ≤ maxLen) : ∃ tv : Value,
    (Instr.lookup 153 (.map (some mb)) (.int .i64 t) false).run Tryz.prog w = .ok tv w ∧ (Instr.lookup 160 tv (.string tb) false).run Tryz.prog w = .ok sv w := by
  have h1 := hT.lookTop ht
  rw [hs.top] at h1
  cases o with
  | none =>
    refine ⟨.map none, h1, ?_⟩
    rw [hs.non rfl]
    exact lookTabNil htb
  | some b =>
    obtain ⟨hh, hM, hv⟩ := hs.tab b rfl
    refine ⟨.map (some b), h1, ?_⟩
    have := hM.lookTab htb
    rw [hv] at this
    exact this
theorem Slot.small {w : World} {r mb : Nat} {X : List Tx9} {t : Int} {tb : ByteArray} {o : Option Nat} {sv : Value} {ls : List (Nat × Rd)} (hs : Slot w r mb X t tb o sv ls) (hl : (flatX X).length ≤ 70000) : ls.length ≤ 100000 ∧ ((ls.map (·.2)).Pairwise fun a b => klB b.lo a.lo = false) := ⟨by have := hs.len; omega, hs.ord.weak⟩
theorem NoteIs.lift {w w4 w6 w7 : World} {r mb most : Nat} {X X' : List Tx9} {M : List Nt} (hb : Below w.heap.size w w4) (i : NoteIs w4 w6 r mb most X M X') (hb2 : Below w6.heap.size w6 w7) : NoteIs w w7 r mb most X M X' :=
  ⟨i.mem.gw hb2, i.flat, fun k hk => (i.bl k hk).imp id fun h => Nat.le_trans hb.size h, ((Out.of_below hb _).then i.out).then (Out.of_below hb2 _)⟩
theorem lists_le {w : World} {r mb most : Nat} {cnt : Int} {X : List Tx9} (h : Mem9 NoE w r mb most cnt X) (hl : (flatX X).length ≤ 100000) : ∀ e ∈ X, ∀ q ∈ e.2.2, q.2.2.length ≤ 100000 := fun e he q hq => by
  have h1 := len_in he
  have h2 := len_own (t := e.1) hq
  omega
def NoteRes (w : World) (r mb most : Nat) (X : List Tx9) (P : Int × List Nt) (e : Ending) (w' : World) : Prop := e = .returned (.int .i64 P.1) ∧ ∃ X', NoteIs w w' r mb most X P.2 X'
theorem note_same {w w' : World} {r mb most : Nat} {X : List Tx9} (h : Mem9 NoE w r mb most (flatX X).length X) (hb : Below w.heap.size w w') : NoteIs w w' r mb most X (flatX X) X := ⟨h.gw hb, List.Perm.refl _, fun k hk => .inl hk, Out.of_below hb _⟩
set_option maxHeartbeats 16000000 in
theorem wpNote9 {w : World} {r mb most : Nat} {X : List Tx9} (h : Mem9 NoE w r mb most (flatX X).length X) (hm1 : 1 ≤ most) (hm2 : most ≤ 65536) (hl : (flatX X).length ≤ most) (t : Int) (ht : (Lit.int .i64 t).wf = true) (x : Rd) (hx : x.lo.size ≤ 140737488355328) (htb : x.tb.size ≤ maxLen) :
    Calls Tryz.prog 47 #[.pointer (some ⟨r, 0, none⟩), .int .i64 t, rdV x] w (NoteRes w r mb most X (noteP most (flatX X) t x)) := by
  obtain ⟨W, hW⟩ : ∃ W, w.alloc (.cells #[.string x.tb, .int .i64 x.kd, .string x.lo, .string x.hi] 114) = W := ⟨_, rfl⟩
  have HW := Lib.hid hW
  have hb1 : Below w.heap.size w W := by rw [← hW]; exact below_alloc9 _ _
  have HB := Lib.hid hb1
  have q : RdAt W w.heap.size x := by rw [← hW]; exact rd_box w x
  have HQ := Lib.hid q
  obtain ⟨x0, x1, x2, x3⟩ := q.cells
  have hM := Lib.hid h
  have hMW := Lib.hid (h.gw hb1)
  have CM := Lib.hid (wpMade (show RBlk W r mb most _ from (h.gw hb1).blk) hm1)
  have CY := Lib.hid (fun W => wpMay W x)
  have HL := Lib.hid (And.intro hm1 (And.intro hm2 hl))
  have HX := Lib.hid (And.intro hx htb)
  have HT := Lib.hid ht
  clear h hb1 hW q hx htb hl hm1 hm2 ht
  unfold rdV at CY ⊢
  by_cases ht1 : t < 1
  · have HP := Lib.hid (show noteP most (flatX X) t x = (1, flatX X) by unfold noteP; rw [if_pos (.inl ht1)])
    rw [HP.out]
    go_enter Tryz.func47, Tryz.ntmps47
    go_upto_region 1 with fail
    rw [HW.out]
    go_wp2_with (go_at_call 95; go_loud (refine CM.out.mono ?_; rintro e w1 ⟨rfl, hw⟩; replace hw := hw.symm; subst hw))
    go_ret
    exact ⟨rfl, X, note_same hM.out HB.out⟩
  · cases hmx : mayP x
    · have HP := Lib.hid (show noteP most (flatX X) t x = (1, flatX X) by unfold noteP; rw [if_pos (.inr hmx)])
      rw [hmx] at CY
      rw [HP.out]
      go_enter Tryz.func47, Tryz.ntmps47
      go_upto_region 1 with fail
      rw [HW.out]
      go_wp2_with (first
        | (go_at_call 95; go_loud (refine CM.out.mono ?_; rintro e w1 ⟨rfl, hw⟩; replace hw := hw.symm; subst hw))
        | (go_at_call 96; go_loud (refine (CY.out _).mono ?_; rintro e w2 ⟨rfl, g2⟩; have G2 := Lib.hid (below_next HB.out g2); clear g2)))
      go_ret
      exact ⟨rfl, X, note_same hM.out G2.out⟩
    · rw [hmx] at CY
      have HMX := Lib.hid hmx
      have HT1 := Lib.hid ht1
      obtain ⟨o, sv, ls, hs⟩ := slot9 hMW.out t x.tb
      have HS := Lib.hid hs
      clear hs hmx
      go_enter Tryz.func47, Tryz.ntmps47
      go_upto_region 1 with fail
      rw [HW.out]
      go_upto_region 6 with (first
        | (go_at_call 95; go_loud (refine CM.out.mono ?_; rintro e w1 ⟨rfl, hw⟩; replace hw := hw.symm; subst hw))
        | (go_at_call 96; go_loud (refine (CY.out _).mono ?_; rintro e w2 ⟨rfl, g2⟩; have G2 := Lib.hid g2; replace x0 := keep_below x0 g2; replace x1 := keep_below x1 g2; replace x2 := keep_below x2 g2; replace x3 := keep_below x3 g2; clear g2)))
      obtain ⟨W2, hW2⟩ : ∃ V, w2.alloc (.cells #[.int .i64 t, .string x.tb] 171) = V := ⟨_, rfl⟩
      have HW2 := Lib.hid hW2
      have bW2 : Below w2.heap.size w2 W2 := by rw [← hW2]; exact below_alloc9 _ _
      have hpb : W2.heap[w2.heap.size]? = some (pairCells (t, x.tb)) := by rw [← hW2]; exact heap_alloc_new _ _
      have B2 := Lib.hid (below_next G2.out bW2)
      replace x0 := keep_below x0 bW2
      replace x1 := keep_below x1 bW2
      replace x2 := keep_below x2 bW2
      replace x3 := keep_below x3 bW2
      have M2 := Lib.hid (hMW.out.gw B2.out)
      have S2 := Lib.hid (HS.out.gw B2.out)
      have r2 := (show RBlk W2 r mb most _ from M2.out.blk).cells.2.2.1
      obtain ⟨tv, qT, qS⟩ := (show Slot W2.drew r mb X t x.tb o sv ls from S2.out.gw (Below.refl _ _).drew).looks (M2.out.gw (Below.refl _ _).drew).top HT.out HX.out.2
      obtain ⟨w3, hw3⟩ : ∃ V, W2.drew = V := ⟨_, rfl⟩
      have HW3 := Lib.hid hw3
      have b3 : Below W2.heap.size W2 w3 := by rw [← hw3]; exact (Below.refl _ _).drew
      have B3 := Lib.hid (below_next B2.out b3)
      have M3 := Lib.hid (M2.out.gw b3)
      have S3 := Lib.hid (S2.out.gw b3)
      have P3 := Lib.hid ((b3.block _ (Array.getElem?_eq_some_iff.1 hpb).1).trans hpb)
      have X3 := Lib.hid (And.intro (keep_below x0 b3) (And.intro (keep_below x1 b3) (And.intro (keep_below x2 b3) (keep_below x3 b3))))
      rw [HW2.out]
      clear hW2 bW2 hpb b3 hw3
      go_region
      rw [HW3.out]
      clear x0 x1 x2 x3 r2 qT qS
      obtain ⟨x0, x1, x2, x3⟩ := X3.out
      have C3 := Lib.hid (wpCover S3.out.nl (S3.out.small (by have := HL.out; omega)).1 (S3.out.small (by have := HL.out; omega)).2 S3.out.sz x HX.out.1)
      unfold rdV at C3
      cases hcv : coverP (ls.map (·.2)) x
      · rw [hcv] at C3
        have HCV := Lib.hid (show (ls.map (·.2)).any (fun y => coversP y x) = false by rw [← cover_any S3.out.ord HMX.out rfl, hcv])
        have HNS := Lib.hid (note_says (t := t) HL.out.2.2 (by have := HT1.out; omega) HMX.out (by rw [slot_any S3.out]; exact HCV.out))
        clear hcv
        go_upto_region 9 with (go_at_call 97; go_loud (refine C3.out.mono ?_; rintro e w4 ⟨rfl, g4⟩; have G4 := Lib.hid g4; replace x0 := keep_below x0 g4; replace x1 := keep_below x1 g4; replace x2 := keep_below x2 g4; replace x3 := keep_below x3 g4; clear g4))
        have M4 := Lib.hid (M3.out.gw G4.out)
        have S4 := Lib.hid (S3.out.gw G4.out)
        have P4 := Lib.hid ((G4.out.block _ (Array.getElem?_eq_some_iff.1 P3.out).1).trans P3.out)
        have B4 := Lib.hid (below_next (below_next HB.out B3.out) G4.out)
        obtain ⟨p0, p1, -, -⟩ := pc_cells P4.out
        have CW := Lib.hid (wpWith (w := w4.drew) (S4.out.nl.gw (Below.refl _ _).drew) (S4.out.small (by have := HL.out; omega)).1 (S4.out.small (by have := HL.out; omega)).2 S4.out.sz x HX.out.1)
        unfold rdV at CW
        have S0 : w4.cell? ⟨w2.heap.size, 0, none⟩ = some (.int .i64 t) ∧ w4.cell? ⟨w2.heap.size, 1, none⟩ = some (.string x.tb) ∧ w4.cell? ⟨w.heap.size, 0, none⟩ = some (.string x.tb) ∧ w4.cell? ⟨w.heap.size, 1, none⟩ = some (.int .i64 x.kd) ∧ w4.cell? ⟨w.heap.size, 2, none⟩ = some (.string x.lo) ∧ w4.cell? ⟨w.heap.size, 3, none⟩ = some (.string x.hi) := ⟨p0, p1, x0, x1, x2, x3⟩
        have NW := Lib.hid (And.intro (show sv.ownBlock ≠ some w2.heap.size from fun e => by have := hM.out.lt _ (S4.out.blk _ e); have h2 := HB.out.size; have h3 := G2.out.size; omega) (show sv.ownBlock ≠ some w.heap.size from fun e => by have := hM.out.lt _ (S4.out.blk _ e); omega))
        have NB := Lib.hid (And.intro (show ¬ BlX r mb X w2.heap.size from fun e => by have := hM.out.lt _ e; have h2 := HB.out.size; have h3 := G2.out.size; omega) (show ¬ BlX r mb X w.heap.size from fun e => by have := hM.out.lt _ e; omega))
        clear p0 p1 x0 x1 x2 x3
        go_region_held3 (fun w' => w'.cell? ⟨w2.heap.size, 0, none⟩ = some (.int .i64 t) ∧ w'.cell? ⟨w2.heap.size, 1, none⟩ = some (.string x.tb) ∧ w'.cell? ⟨w.heap.size, 0, none⟩ = some (.string x.tb) ∧ w'.cell? ⟨w.heap.size, 1, none⟩ = some (.int .i64 x.kd) ∧ w'.cell? ⟨w.heap.size, 2, none⟩ = some (.string x.lo) ∧ w'.cell? ⟨w.heap.size, 3, none⟩ = some (.string x.hi))
          (first | exact S0 | exact S5 | exact S6)
          (first
            | (go_at_call 99; go_loud (refine CW.out.mono ?_; rintro e w5 ⟨v5, rfl, n5, g5, o5⟩; have N5 := Lib.hid n5; have G5 := Lib.hid g5; have O5 := Lib.hid o5; have S5 : w5.cell? ⟨w2.heap.size, 0, none⟩ = some (.int .i64 t) ∧ w5.cell? ⟨w2.heap.size, 1, none⟩ = some (.string x.tb) ∧ w5.cell? ⟨w.heap.size, 0, none⟩ = some (.string x.tb) ∧ w5.cell? ⟨w.heap.size, 1, none⟩ = some (.int .i64 x.kd) ∧ w5.cell? ⟨w.heap.size, 2, none⟩ = some (.string x.lo) ∧ w5.cell? ⟨w.heap.size, 3, none⟩ = some (.string x.hi) := ⟨o5.cell S0.1 NW.out.1, o5.cell S0.2.1 NW.out.1, o5.cell S0.2.2.1 NW.out.2, o5.cell S0.2.2.2.1 NW.out.2, o5.cell S0.2.2.2.2.1 NW.out.2, o5.cell S0.2.2.2.2.2 NW.out.2⟩; clear n5 g5 o5))
            | (go_at_call 98; go_loud (refine (note_put (w4 := w4.drew) (M4.out.gw (Below.refl _ _).drew) (by have := HL.out; omega) (S4.out.gw (Below.refl _ _).drew) HMX.out HX.out.1 HCV.out N5.out G5.out O5.out HT.out (by have := HT1.out; omega) HX.out.2).mono ?_; rintro e w6 ⟨rfl, X1, i6⟩; have I6 := Lib.hid i6; have S6 : w6.cell? ⟨w2.heap.size, 0, none⟩ = some (.int .i64 t) ∧ w6.cell? ⟨w2.heap.size, 1, none⟩ = some (.string x.tb) ∧ w6.cell? ⟨w.heap.size, 0, none⟩ = some (.string x.tb) ∧ w6.cell? ⟨w.heap.size, 1, none⟩ = some (.int .i64 x.kd) ∧ w6.cell? ⟨w.heap.size, 2, none⟩ = some (.string x.lo) ∧ w6.cell? ⟨w.heap.size, 3, none⟩ = some (.string x.hi) := ⟨i6.out.cell (w := w4.drew) S0.1 NB.out.1, i6.out.cell (w := w4.drew) S0.2.1 NB.out.1, i6.out.cell (w := w4.drew) S0.2.2.1 NB.out.2, i6.out.cell (w := w4.drew) S0.2.2.2.1 NB.out.2, i6.out.cell (w := w4.drew) S0.2.2.2.2.1 NB.out.2, i6.out.cell (w := w4.drew) S0.2.2.2.2.2 NB.out.2⟩; clear i6)))
        have hfl := I6.out.flat.length_eq
        have hal : (addP (flatX X) t x).length ≤ most + 1 := by
          unfold addP
          rw [List.length_append, List.length_singleton]
          have h1 := List.length_filter_le (fun n => !(decide (n.1 = t) && coversP x n.2)) (flatX X)
          have h2 := HL.out
          omega
        obtain ⟨k0, k1, -, -⟩ := (show RBlk w6 r mb most _ from I6.out.mem.blk).cells
        clear S0 S5 S6
        by_cases hle : (flatX X1).length ≤ most
        · have HP := Lib.hid (show noteP most (flatX X) t x = (0, addP (flatX X) t x) by rw [HNS.out, if_pos (by rw [← hfl]; exact hle)])
          have i1 : ((flatX X1).length : Int) ≤ (most : Int) := by omega
          clear hfl hal
          go_upto_region 10 with fail
          go_region
          go_wp2
          go_ret
          exact ⟨by rw [HP.out] <;> rfl, X1, by rw [HP.out]; exact NoteIs.lift B4.out.drew I6.out (Below.refl _ _).drew⟩
        · have i1 : ¬ ((flatX X1).length : Int) ≤ (most : Int) := by omega
          have HG := Lib.hid (And.intro hle (And.intro hfl hal))
          have CF := Lib.hid (wpFullest (I6.out.mem.gw (Below.refl _ _).drew) (lists_le I6.out.mem (by have := HL.out; omega)))
          obtain ⟨n1, hn1⟩ : ∃ n, (flatX X1).length = n := ⟨_, rfl⟩
          rw [hn1] at k1 i1
          clear hfl hal hn1 hle
          go_upto_region 10 with fail
          go_region
          go_upto_region 13 with (go_at_call 100; go_loud (refine CF.out.mono ?_; rintro e w7 ⟨p, b, rfl, fs, g7⟩; have G7 := Lib.hid ((Below.refl w6.heap.size w6).drew.trans g7); have FS := Lib.hid fs; clear fs g7))
          obtain ⟨W8, hW8⟩ : ∃ V, w7.alloc (.cells #[.int .i64 p.1, .string p.2] 171) = V := ⟨_, rfl⟩
          have HW8 := Lib.hid hW8
          have b8 : Below w7.heap.size w7 W8 := by rw [← hW8]; exact below_alloc9 _ _
          have h9 : W8.heap[w7.heap.size]? = some (pairCells p) := by rw [← hW8]; exact heap_alloc_new _ _
          have B8 := Lib.hid (below_next G7.out b8)
          have hp6 := (I6.out.out.block _ (Array.getElem?_eq_some_iff.1 P4.out).1 NB.out.1).trans P4.out
          have hp8 := (B8.out.block _ (Array.getElem?_eq_some_iff.1 hp6).1).trans hp6
          obtain ⟨p0, p1, -, -⟩ := pc_cells hp8
          obtain ⟨f0, f1, -, -⟩ := pc_cells h9
          have M8 := Lib.hid (I6.out.mem.gw B8.out)
          have HCO := Lib.hid (full_is I6.out.mem FS.out)
          have HB8 := Lib.hid (show ∀ (w9 : World) (X2 : List Tx9) (M : List Nt), Mem9 NoE w9 r mb most (flatX X2).length X2 → (flatX X2).Perm M → (∀ k, BlX r mb X2 k → BlX r mb X1 k ∨ W8.heap.size ≤ k) → Out (BlX r mb X1) W8 w9 → NoteIs w w9 r mb most X M X2 from fun w9 X2 M m f bl o => by
            have hi := NoteIs.lift B4.out.drew I6.out B8.out
            refine ⟨m, f, fun k hk => ?_, hi.out.trans o fun k hk h1 => ?_⟩
            · rcases bl k hk with h1 | h1
              · exact hi.bl k h1
              · have := hi.out.size
                exact .inr (by omega)
            · rcases hi.bl k h1 with h2 | h2
              · exact h2
              · omega)
          rw [HW8.out]
          clear hW8 b8 h9 hp6 hp8 k0 k1
          cases b
          · have HCN := Lib.hid (show coarsestP (flatX X1) = none by rw [HCO.out]; rfl)
            have HP := Lib.hid (show noteP most (flatX X) t x = (4, flatX X) by
              rw [HNS.out, if_neg (by rw [← HG.out.2.1]; exact HG.out.1), ← coarsest_perm I6.out.flat, HCN.out]; rfl)
            have CT := Lib.hid (note_undo M8.out (by have h1 := HG.out; have h2 := HL.out; omega) I6.out.flat (by have h1 := HG.out; have h2 := HL.out; omega) HCN.out)
            go_wp2_with (go_at_call 101; go_loud (refine CT.out.mono ?_; rintro e w9 ⟨rfl, X2, m9, f9, b9, o9⟩; have N9 := Lib.hid (HB8.out w9 X2 _ m9 f9 (fun k hk => .inl (b9 k hk)) o9); clear m9 f9 b9 o9))
            go_ret
            exact ⟨by rw [HP.out] <;> rfl, X2, by rw [HP.out]; exact N9.out⟩
          · have HCN := Lib.hid (show coarsestP (flatX X1) = some p by rw [HCO.out]; rfl)
            have HP := Lib.hid (show noteP most (flatX X) t x = (0, coarseP (addP (flatX X) t x) p.1 p.2) by
              rw [HNS.out, if_neg (by rw [← HG.out.2.1]; exact HG.out.1), ← coarsest_perm I6.out.flat, HCN.out]; rfl)
            obtain ⟨W9, hW9⟩ : ∃ V, W8.alloc (.cells #[.string p.2, .int .i64 3, .string ⟨#[]⟩, .string ⟨#[]⟩] 114) = V := ⟨_, rfl⟩
            obtain ⟨W10, hW10⟩ : ∃ V, W9.alloc (.cells #[.pointer (some ⟨W8.heap.size, 0, none⟩)] 163) = V := ⟨_, rfl⟩
            have HW9 := Lib.hid hW9
            have HW10 := Lib.hid hW10
            have b9 : Below W8.heap.size W8 W9 := by rw [← hW9]; exact below_alloc9 _ _
            have b10 : Below W9.heap.size W9 W10 := by rw [← hW10]; exact below_alloc9 _ _
            have B10 := Lib.hid (below_next b9 b10)
            have hr9 : RdAt W9 W8.heap.size ⟨p.2, 3, ⟨#[]⟩, ⟨#[]⟩⟩ := by rw [← hW9]; exact rd_box W8 ⟨p.2, 3, ⟨#[]⟩, ⟨#[]⟩⟩
            have hr10 := hr9.block (b10.block _ hr9.lt)
            have hv10 : W10.heap[W9.heap.size]? = some (.cells #[ptV W8.heap.size] 163 (0, 0)) := by rw [← hW10]; exact heap_alloc_new _ _
            have hpf : ∃ m ∈ flatX X1, prP m = p := by
              rcases coarsest_is (flatX X1) with ⟨e1, -⟩ | ⟨p2, e1, hp⟩
              · rw [HCN.out] at e1; cases e1
              · rw [HCN.out] at e1; cases e1; exact hp.from_
            have CT := Lib.hid (note_coarse (M8.out.gw B10.out) (by have h1 := HG.out; have h2 := HL.out; omega) hpf hr10 hv10 (fun k hk => by have h1 := M8.out.lt k hk; have h2 := b9.size; omega) (fun k hk => M8.out.lt k hk))
            have HS9 := Lib.hid b9.size
            have H91 := Lib.hid (show W8.heap.size + 1 = W9.heap.size by rw [← hW9]; simp)
            clear hW9 hW10 b9 b10 hr9 hr10 hv10 hpf
            go_upto_region 16 with fail
            go_wp2_with (go_at_call 98; go_loud (rw [HW9.out, HW10.out, H91.out]; refine CT.out.mono ?_; rintro e w9 ⟨rfl, X2, m9, f9, b9, o9⟩; have N9 := Lib.hid (HB8.out w9 X2 _ m9 f9 (fun k hk => by rcases b9 k hk with h1 | h1 | h1 | h1; exact .inl h1; (have h2 := B10.out.size; exact .inr (by omega)); (have h2 := HS9.out; exact .inr (by omega)); exact .inr (by omega)) ((Out.of_below B10.out _).then o9)); clear m9 f9 b9 o9))
            go_ret
            refine ⟨by rw [HP.out] <;> rfl, X2, ?_⟩
            rw [HP.out]
            exact ⟨N9.out.mem, N9.out.flat.trans (coarse_perm I6.out.flat _ _), N9.out.bl, N9.out.out⟩
      · have HP := Lib.hid (show noteP most (flatX X) t x = (0, flatX X) by
          unfold noteP
          rw [if_neg (by have h1 := HT1.out; have h2 := HMX.out; rintro (h3 | h3); omega; rw [h2] at h3; cases h3), slot_any S3.out, ← cover_any S3.out.ord HMX.out rfl, hcv, if_pos rfl])
        rw [hcv] at C3
        go_wp2_with (go_at_call 97; go_loud (refine C3.out.mono ?_; rintro e w4 ⟨rfl, g4⟩; have G4 := Lib.hid (below_next (below_next HB.out B3.out) g4); clear g4))
        go_ret
        exact ⟨by rw [HP.out] <;> rfl, X, by rw [HP.out]; exact note_same hM.out G4.out⟩
end Go.Proofs.YtknppiebncdjmaaGreat

namespace Go.Proofs.YtknppiebncdjmaaGreat
set_option maxRecDepth 100000
open Go.RowKit

structure DropI (w wz : World) (r mb most : Nat) (X : List Tx9) (t : Int) (b it : Nat) (Y : List Tx9) (S : List Tb9) (left : List (ByteArray × Value)) : Prop where
  mem : Mem9 NoE wz r mb most (flatX (lessX t b S Y)).length (lessX t b S Y)
  rng : RangeM KS wz b it (tabT S) left
  all : ∀ q ∈ S, (q.1, q.2.1) ∈ left
  bl : ∀ k, BlX r mb (lessX t b S Y) k → BlX r mb X k
  out : Out (BlX r mb X) w wz
  len : (flatX (lessX t b S Y)).length ≤ 70000
theorem drop_none {X : List Tx9} {t : Int} (h : ∀ e ∈ X, e.1 ≠ t) : dropP (flatX X) t = flatX X := List.filter_eq_self.2 fun n hn => by
  obtain ⟨e, he, q, hq, z, hz, rfl⟩ := mem_flatX.1 hn
  simp [h e he]
theorem drop_tx {t : Int} {b : Nat} {T : List Tb9} {Y : List Tx9} (h : ∀ e ∈ Y, e.1 ≠ t) : dropP (flatX ((t, b, T) :: Y)) t = flatX Y := by
  have h2 := drop_none h
  unfold dropP at *
  rw [flatX_cons, List.filter_append, h2]
  simp only
  rw [List.filter_eq_nil_iff.2 fun n hn => ?_]
  · rfl
  · unfold flatT at hn
    simp only [List.mem_flatMap, List.mem_map] at hn
    obtain ⟨q, hq, z, hz, rfl⟩ := hn
    simp
theorem getM_delM {κ : Type} [DecidableEq κ] (hs : List (κ × Value)) (x : κ) : getM (delM hs x) x = none := by rw [getM_del, if_pos rfl]
theorem DropI.next {w wz wn w' : World} {r mb most : Nat} {X : List Tx9} {t : Int} {b it : Nat} {Y : List Tx9} {S S' : List Tb9} {left left' : List (ByteArray × Value)} {q : Tb9} (I : DropI w wz r mb most X t b it Y S left) (hq : S.Perm (q :: S')) (hg : wz.grownBy wn (some it)) (hit : w.heap.size ≤ it)
    (ti : TakeIs wn w' r mb most ((t, b, q :: S') :: Y) t q.1 (lessX t b S' Y)) (hr : RangeM KS w' b it (tabT S') left') (hall : ∀ q ∈ S', (q.1, q.2.1) ∈ left') (hlt : ∀ k, BlX r mb X k → k < w.heap.size) : DropI w w' r mb most X t b it Y S' left' := by
  have hne : S ≠ [] := fun e => by rw [e] at hq; exact absurd hq.symm.eq_nil (by simp)
  have hlx : lessX t b S Y = (t, b, S) :: Y := by unfold lessX; rw [if_neg hne]
  have hbl : ∀ k, BlX r mb ((t, b, q :: S') :: Y) k → BlX r mb X k := fun k hk => I.bl k (by rw [hlx]; exact (bl_permT hq k).2 hk)
  refine ⟨ti.mem, hr, hall, fun k hk => hbl k (ti.bl k hk), ?_, ?_⟩
  · have o1 : Out (BlX r mb X) w wn := I.out.grown hg fun k e => .inr (by have := Option.some.inj e; omega)
    exact o1.then (ti.out.mono fun k _ hk => hbl k hk)
  · have h1 := ti.flat.length_eq
    have h2 := List.length_filter_le (notP t q.1) (flatX ((t, b, q :: S') :: Y))
    have h3 := I.len
    rw [hlx, (flat_permT hq).length_eq] at h3
    omega
def DropRes (w : World) (r mb most : Nat) (X : List Tx9) (c : Int) (M : List Nt) (e : Ending) (w' : World) : Prop := e = .returned (.int .i64 c) ∧ ∃ X', NoteIs w w' r mb most X M X'
set_option maxHeartbeats 8000000 in
theorem wpDrop9 {w : World} {r mb most : Nat} {X : List Tx9} (h : Mem9 NoE w r mb most (flatX X).length X) (hm1 : 1 ≤ most) (hl : (flatX X).length ≤ 65536) (t : Int) (ht : (Lit.int .i64 t).wf = true) :
    Calls Tryz.prog 129 #[.pointer (some ⟨r, 0, none⟩), .int .i64 t] w (DropRes w r mb most X (if t < 1 then 1 else 0) (if t < 1 then flatX X else dropP (flatX X) t)) := by
  have hR : RBlk w r mb most _ := h.blk
  have CM := Lib.hid (wpMade hR hm1)
  have c2 := hR.cells.2.2.1
  have hM := Lib.hid h
  by_cases ht1 : t < 1
  · rw [if_pos ht1, if_pos ht1]
    clear h hR
    go_enter Tryz.func129, Tryz.ntmps129
    go_wp2_with (go_at_call 95; go_loud (refine CM.out.mono ?_; rintro e w1 ⟨rfl, hw⟩; replace hw := hw.symm; subst hw))
    go_ret
    exact ⟨rfl, X, note_same hM.out (Below.refl _ _)⟩
  · rw [if_neg ht1, if_neg ht1]
    obtain ⟨a⟩ := at9 h.once (fun e he => h.onceT he) t ⟨#[]⟩
    have hcase : (∀ e ∈ X, e.1 ≠ t) ∨ ∃ b T Y, X.Perm ((t, b, T) :: Y) ∧ ∀ e ∈ Y, e.1 ≠ t := by
      rcases a with hY | ⟨b, T, Y, hX, hY, hS⟩ | ⟨b, v0, ls0, S, T, Y, hX, hY, hT, hS⟩
      · exact .inl hY
      · exact .inr ⟨b, T, Y, hX, hY⟩
      · exact .inr ⟨b, T, Y, hX, hY⟩
    have qT := h.top.lookTop ht
    rcases hcase with hY | ⟨b, T, Y, hX, hY⟩
    · rw [getM_topN hY] at qT
      simp only [Option.getD_none] at qT
      have HD := Lib.hid (drop_none hY)
      have hrg := run_range_nilMap (P := Tryz.prog) w 160 9 162 Tryz.underlying160
      have hnx : ∀ ty, (Instr.next (.pointer (some ⟨w.heap.size, 0, none⟩)) false ty).run Tryz.prog (w.alloc (.mapIter none 0 #[] 0)) = _ := fun ty => run_next_nilMap w ty 0 0 #[]
      clear h hR a hY
      go_enter Tryz.func129, Tryz.ntmps129
      go_wp2_with (go_at_call 95; go_loud (refine CM.out.mono ?_; rintro e w1 ⟨rfl, hw⟩; replace hw := hw.symm; subst hw))
      refine wp_loop_rounds 1 ?_
      rw [rounds_succ]
      go_wp2
      go_ret
      exact ⟨rfl, X, by rw [HD.out]; exact note_same hM.out (below_alloc9 _ _)⟩
    · have hXl := flatX_perm hX
      have hmem := List.mem_cons_self (a := (t, b, T)) (l := Y)
      have h2 : Mem9 NoE w r mb most (flatX ((t, b, T) :: Y)).length ((t, b, T) :: Y) := by rw [← hXl.length_eq]; exact h.perm hX
      have hne := (h2.ne _ hmem).1
      have hlx : lessX t b T Y = (t, b, T) :: Y := by unfold lessX; rw [if_neg hne]
      rw [getM_top h.top.once (hX.mem_iff.2 hmem)] at qT
      simp only [Option.getD_some] at qT
      have HTab := Lib.hid (h2.tab _ hmem)
      have HX := Lib.hid hX
      have HY := Lib.hid hY
      have HN := Lib.hid (And.intro hne hl)
      have HLX := Lib.hid hlx
      have HM2 := Lib.hid h2
      have HT := Lib.hid ht
      have HDX := Lib.hid (show (flatX Y).Perm (dropP (flatX X) t) from by
        have := (drop_perm hXl t).symm
        rw [drop_tx hY] at this
        exact this)
      clear h hR a hX hXl hmem h2 hne hY hl ht
      go_enter Tryz.func129, Tryz.ntmps129
      go_upto_region 6 with (first
        | (go_at_call 95; go_loud (refine CM.out.mono ?_; rintro e w1 ⟨rfl, hw⟩; replace hw := hw.symm; subst hw))
        | (at_range; go_loud (refine wp_rangeM KS (by rfl) (.tmp 16) (by rfl) (by rfl) HTab.out Tryz.underlying160 ?_; intro w2 g2 b2 s2; have G2 := Lib.hid g2; have B2 := Lib.hid b2; clear g2 b2 s2)))
      have BW := Lib.hid (grown_none B2.out (Nat.le_refl _))
      have START := Lib.hid (show DropI w w2 r mb most X t b w.heap.size Y T (tabT T) from
        ⟨by rw [hlx]; exact HM2.out.gw BW.out, G2.out, fun q hq => List.mem_map.2 ⟨q, hq, rfl⟩, fun k hk => by rw [hlx] at hk; exact (bl_perm HX.out.symm k).1 hk, Out.of_below BW.out _, by rw [hlx, ← (flatX_perm HX.out).length_eq]; have := HN.out.2; omega⟩)
      clear c2 qT hlx
      try go_frame
      go_loopw [] (fun wz => ∃ (S : List Tb9) (left : List (ByteArray × Value)), DropI w wz r mb most X t b w.heap.size Y S left) (fun wz => wz.rangeLeft b w.heap.size)
      case atStart => exact ⟨T, tabT T, START.out⟩
      case round =>
        rename World => wz
        obtain ⟨S, left, o⟩ := hrel
        have I := Lib.hid o
        clear o
        go_upto_region 8 with (at_next; go_loud (refine wp_nextS (by rfl) (.tmp 17) (by rfl) w.heap.size left (by rfl) I.out.rng ?_ ?_))
        · intro hnil
          subst hnil
          have HS := Lib.hid (show S = [] from List.eq_nil_iff_forall_not_mem.2 fun q hq => by have := I.out.all q hq; simp at this)
          have HLS := Lib.hid (show lessX t b S Y = Y by unfold lessX; rw [if_pos HS.out])
          go_wp2
          go_ret
          refine ⟨rfl, Y, ?_, HDX.out, fun k hk => .inl (I.out.bl k (by rw [HLS.out]; exact hk)), I.out.out⟩
          have := I.out.mem
          rw [HLS.out] at this
          exact this
        · intro tb u wn hin hok hr2 hg2 hsz hlt hen
          obtain ⟨q, hq, e2⟩ := List.mem_map.1 (I.out.rng.sub _ hin)
          simp only [Prod.mk.injEq] at e2
          obtain ⟨rfl, rfl⟩ := e2
          have hS0 : S ≠ [] := fun e => by rw [e] at hq; cases hq
          have hlx2 : lessX t b S Y = (t, b, S) :: Y := by unfold lessX; rw [if_neg hS0]
          have hI := I.out.mem
          have hIl := I.out.len
          rw [hlx2] at hI hIl
          have honce := hI.onceT (List.mem_cons_self (a := (t, b, S)) (l := Y))
          have hperm := perm_front (·.1) honce hq
          obtain ⟨S', hS'⟩ : ∃ S', S.filter (fun x => !decide (x.1 = q.1)) = S' := ⟨_, rfl⟩
          have hSn : ∀ f ∈ S', f.1 ≠ q.1 := fun f hf => by rw [← hS'] at hf; simpa using (List.mem_filter.1 hf).2
          rw [hS'] at hperm
          have hltb := hM.out.lt
          have hIn : Mem9 NoE wn r mb most (flatX ((t, b, S) :: Y)).length ((t, b, S) :: Y) := hI.kept fun k hk => hg2.block k (hI.lt k hk) (fun e => by have := Option.some.inj e; have := hltb k (I.out.bl k (by rw [hlx2]; exact hk)); omega)
          have hfp := (flat_permT (t := t) (b := b) (Y := Y) hperm).length_eq
          have hIn2 := hIn.permT hperm
          rw [hfp] at hIn2 hIl
          have hrn := hr2.perm (show (tabT S).Perm (tabT (q :: S')) from hperm.map _)
          have hrlt := hM.out.top.lt
          have htlt := HTab.out.lt
          have hR0 : RBlk w r mb most _ := hM.out.blk
          have CT := Lib.hid (wpTakeR9 (tb := q.1) (v0 := q.2.1) (ls0 := q.2.2) (S := S') (Y := Y) (t := t) (b := b) hIn2 hIl HT.out hok HY.out hSn (it := w.heap.size) (left := delM left q.1) hrn (getM_delM left q.1) ⟨by have := hR0.lt; omega, by omega, by omega⟩)
          have NX := Lib.hid (fun (w' : World) (ti : TakeIs wn w' r mb most ((t, b, q :: S') :: Y) t q.1 (lessX t b S' Y)) (hr : RangeM KS w' b w.heap.size (tabT S') (delM left q.1)) => I.out.next hperm hg2 (Nat.le_refl _) ti hr (fun f hf => mem_delM.2 ⟨I.out.all f (hperm.mem_iff.2 (List.mem_cons_of_mem _ hf)), hSn f hf⟩) hltb)
          have HLT := Lib.hid hlt
          clear hin hok hr2 hg2 hsz hlt hS0 hlx2 hI hIl honce hperm hS' hSn hltb hIn hfp hIn2 hrn hq hrlt htlt hR0
          go_wp2_with (go_at_call 101; go_loud (refine CT.out.mono ?_; rintro e w5 ⟨rfl, ti, hr5, hi5, hl5, o5⟩; have N5 := Lib.hid (NX.out w5 ti hr5); have L5 := Lib.hid hl5; clear ti hr5 hi5 hl5 o5))
          go_roundw
          case rel => exact ⟨S', delM left q.1, N5.out⟩
          case measure => exact Nat.lt_of_le_of_lt L5.out HLT.out
end Go.Proofs.YtknppiebncdjmaaGreat

namespace Go.Proofs.YtknppiebncdjmaaGreat
set_option maxRecDepth 100000
open Go.RowKit

structure ColJ (X : List Tx9) (f : Tx9 → Bool) (zs : List Int) (left : List (Int × Value)) : Prop where
  nd : zs.Nodup
  mem : ∀ y, y ∈ zs ↔ ∃ e ∈ X, e.1 = y ∧ (∀ v, (e.1, v) ∉ left) ∧ f e = true
  len : zs.length + left.length ≤ X.length
theorem ColJ.start (X : List Tx9) (f : Tx9 → Bool) : ColJ X f [] (topX X) := ⟨List.nodup_nil, fun y => ⟨fun h => (by cases h), fun ⟨e, he, _, h, _⟩ => absurd (List.mem_map.2 ⟨e, he, rfl⟩) (h _)⟩, by simp [topX]⟩
theorem ColJ.skip {X : List Tx9} {f : Tx9 → Bool} {zs : List Int} {left : List (Int × Value)} (h : ColJ X f zs left) (hX : (X.map (·.1)).Nodup) (ho : OnceM left) {e : Tx9} (he : e ∈ X) {v : Value} (hl : (e.1, v) ∈ left) (hf : f e = false) : ColJ X f zs (delM left e.1) := by
  refine ⟨h.nd, fun y => ?_, by have := del_len ho hl; have := h.len; omega⟩
  rw [h.mem]
  constructor
  · rintro ⟨g, hg, e1, h1, h2⟩; exact ⟨g, hg, e1, fun u hu => h1 u (mem_delM.1 hu).1, h2⟩
  · rintro ⟨g, hg, e1, h1, h2⟩
    by_cases e3 : g.1 = e.1
    · have := tx_eq hX hg he e3
      rw [this, hf] at h2; cases h2
    · exact ⟨g, hg, e1, fun u hu => h1 u (mem_delM.2 ⟨hu, e3⟩), h2⟩
theorem ColJ.take {X : List Tx9} {f : Tx9 → Bool} {zs : List Int} {left : List (Int × Value)} (h : ColJ X f zs left) (hX : (X.map (·.1)).Nodup) (ho : OnceM left) {e : Tx9} (he : e ∈ X) {v : Value} (hl : (e.1, v) ∈ left) (hf : f e = true) : ColJ X f (zs ++ [e.1]) (delM left e.1) := by
  refine ⟨?_, fun y => ?_, by have := del_len ho hl; have := h.len; simp; omega⟩
  · refine List.nodup_append.2 ⟨h.nd, by simp, fun a ha b hb => ?_⟩
    rw [List.mem_singleton.1 hb]
    rintro rfl
    obtain ⟨g, hg, e1, h1, -⟩ := (h.mem _).1 ha
    exact h1 v (by rw [e1]; exact hl)
  · rw [List.mem_append, h.mem, List.mem_singleton]
    constructor
    · rintro (⟨g, hg, e1, h1, h2⟩ | rfl)
      · exact ⟨g, hg, e1, fun u hu => h1 u (mem_delM.1 hu).1, h2⟩
      · exact ⟨e, he, rfl, fun u hu => (mem_delM.1 hu).2 rfl, hf⟩
    · rintro ⟨g, hg, e1, h1, h2⟩
      by_cases e3 : g.1 = e.1
      · exact .inr (e1.symm.trans e3)
      · exact .inl ⟨g, hg, e1, fun u hu => h1 u (mem_delM.2 ⟨hu, e3⟩), h2⟩
theorem ColJ.ends {X : List Tx9} {f : Tx9 → Bool} {zs : List Int} (h : ColJ X f zs []) {g : Nt → Bool} (hg : ∀ e ∈ X, f e = true ↔ ∃ q ∈ e.2.2, ∃ z ∈ q.2.2, g (e.1, z.2) = true) : (zs.mergeSort fun x y => decide (x ≤ y)) = txP (flatX X) g := by
  have hp := List.mergeSort_perm zs (fun x y => decide (x ≤ y))
  refine tx_unique ?_ fun y => ?_
  · have h1 := List.pairwise_mergeSort (le := fun x y : Int => decide (x ≤ y)) (fun a b c h1 h2 => by simp at *; omega) (fun a b => by simp; omega) zs
    have h2 := hp.nodup_iff.2 h.nd
    rw [List.nodup_iff_pairwise_ne] at h2
    refine (List.Pairwise.and h1 h2).imp ?_
    rintro a b ⟨h3, h4⟩
    unfold ltN
    simp at h3 ⊢
    omega
  · rw [hp.mem_iff, h.mem]
    constructor
    · rintro ⟨e, he, rfl, -, hf⟩
      obtain ⟨q, hq, z, hz, h1⟩ := (hg e he).1 hf
      exact ⟨_, mem_flatX.2 ⟨e, he, q, hq, z, hz, rfl⟩, h1, rfl⟩
    · rintro ⟨n, hn, h1, rfl⟩
      obtain ⟨e, he, q, hq, z, hz, rfl⟩ := mem_flatX.1 hn
      exact ⟨e, he, rfl, by simp, (hg e he).2 ⟨q, hq, z, hz, h1⟩⟩
def keyR (t k : ByteArray) : Rd := ⟨t, 1, k, ⟨#[]⟩⟩
theorem may_key (t k : ByteArray) : mayP (keyR t k) = true := by unfold keyR; rw [may_1]; simp [ByteArray.toList_eq]
theorem covers_key {y : Rd} (h : mayP y = true) (t k : ByteArray) : coversP y (keyR t k) = hasP y t k := by
  rw [has_ends h]
  unfold coversP
  rw [h, may_key]
  have he : endsP (keyR t k) = (k, k ++ ⟨#[0]⟩, true) := rfl
  rw [he]
  simp only [Bool.true_and, keyR]
  rw [klB_zero]
  simp [Bool.and_assoc]
def readsJ (t k : ByteArray) (e : Tx9) : Bool := e.2.2.any fun q => decide (q.1 = t) && coverP (q.2.2.map (·.2)) (keyR t k)
theorem reads_is {w : World} {r mb most : Nat} {cnt : Int} {X : List Tx9} (h : Mem9 NoE w r mb most cnt X) (t k : ByteArray) : ∀ e ∈ X, readsJ t k e = true ↔ ∃ q ∈ e.2.2, ∃ z ∈ q.2.2, hasP z.2 t k = true := fun e he => by
  unfold readsJ
  rw [List.any_eq_true]
  constructor
  · rintro ⟨q, hq, hc⟩
    simp only [Bool.and_eq_true, decide_eq_true_eq] at hc
    obtain ⟨rfl, hc⟩ := hc
    have ho := (h.ok e he q hq).ord
    rw [cover_any ho (may_key q.1 k) rfl] at hc
    obtain ⟨y, hy, hc⟩ := List.any_eq_true.1 hc
    obtain ⟨z, hz, rfl⟩ := List.mem_map.1 hy
    exact ⟨q, hq, z, hz, by rw [← covers_key (ho.may _ hy).1]; exact hc⟩
  · rintro ⟨q, hq, z, hz, hh⟩
    have ho := (h.ok e he q hq).ord
    have hy : z.2 ∈ q.2.2.map (·.2) := List.mem_map.2 ⟨z, hz, rfl⟩
    have hq1 : q.1 = t := by
      have h1 := (ho.may _ hy).2
      unfold hasP at hh
      rw [toList_beq8] at hh
      simp only [Bool.and_eq_true, decide_eq_true_eq] at hh
      rw [← h1]; exact hh.1
    refine ⟨q, hq, ?_⟩
    simp only [Bool.and_eq_true, decide_eq_true_eq]
    refine ⟨hq1, ?_⟩
    subst hq1
    rw [cover_any ho (may_key q.1 k) rfl]
    exact List.any_eq_true.2 ⟨z.2, hy, by rw [covers_key (ho.may _ hy).1]; exact hh⟩
theorem tab_look {w w' : World} {r mb most : Nat} {cnt : Int} {X : List Tx9} (h : Mem9 NoE w r mb most cnt X) (hl : (flatX X).length ≤ 65536) (hb : Below w.heap.size w w') {e : Tx9} (he : e ∈ X) (t k : ByteArray) (ht : t.size ≤ maxLen) :
    ∃ sv ls, (Instr.lookup 160 (.map (some e.2.1)) (.string t) false).run Tryz.prog w' = .ok sv w' ∧ NL w' sv ls ∧ ls.length ≤ 100000 ∧ ((ls.map (·.2)).Pairwise fun a b => klB b.lo a.lo = false) ∧ (∀ q ∈ ls, q.2.lo.size ≤ 140737488355328) ∧ coverP (ls.map (·.2)) (keyR t k) = readsJ t k e := by
  have hM := (h.tab e he).block (hb.block _ (h.tab e he).lt)
  have hlook := hM.lookTab ht
  by_cases hq : ∃ q ∈ e.2.2, q.1 = t
  · obtain ⟨q, hq, rfl⟩ := hq
    rw [getM_tab (h.tab e he).once hq] at hlook
    have ho := h.ok e he q hq
    have h1 := len_in he
    have h2 := len_own (t := e.1) hq
    refine ⟨q.2.1, q.2.2, hlook, (h.lst e he q hq id).gw hb, by omega, ho.ord.weak, ho.sz, ?_⟩
    unfold readsJ
    cases hc : coverP (q.2.2.map (·.2)) (keyR q.1 k) with
    | true => exact (List.any_eq_true.2 ⟨q, hq, by simp [hc]⟩).symm
    | false =>
      refine (List.any_eq_false.2 fun f hf => ?_).symm
      by_cases e1 : f.1 = q.1
      · have := tb_eq (h.onceT he) hf hq e1
        subst this
        simp [hc]
      · simp [e1]
  · have hn : ∀ q ∈ e.2.2, q.1 ≠ t := fun q hq2 e1 => hq ⟨q, hq2, e1⟩
    rw [getM_tabN hn] at hlook
    refine ⟨.slice none 0 0, [], hlook, NL.nil w', by simp, by simp, by simp, ?_⟩
    unfold readsJ
    refine Eq.trans ?_ (List.any_eq_false.2 fun f hf => by simp [hn f hf]).symm
    rfl
end Go.Proofs.YtknppiebncdjmaaGreat

namespace Go.Proofs.YtknppiebncdjmaaGreat
set_option maxRecDepth 100000
open Go.RowKit

theorem SO.stays {E : SEl} {base n : Nat} {w w' : World} {v : Value} {vs : List Value} (h : SO E base w v n vs) (hb : ∀ k, base ≤ k → k < w.heap.size → w'.heap[k]? = w.heap[k]?) : SO E base w' v n vs :=
  ⟨own_stays h.own fun k hk => hb k (h.own.lt k hk).1 (h.own.lt k hk).2, h.len, h.one⟩
theorem SO.lower {E : SEl} {base base' n : Nat} {w : World} {v : Value} {vs : List Value} (h : SO E base w v n vs) (hb : base' ≤ base) : SO E base' w v n vs := ⟨own_base h.own fun k hk => Nat.le_trans hb (h.own.lt k hk).1, h.len, h.one⟩
structure TellI (w wz : World) (mb it : Nat) (X : List Tx9) (f : Tx9 → Bool) (lv : Value) (zs : List Int) (left : List (Int × Value)) : Prop where
  so : SO seN (it + 1) wz lv zs.length (numC zs)
  col : ColJ X f zs left
  rng : RangeM KI wz mb it (topX X) left
  bel : Below w.heap.size w wz
theorem TellI.next {w wz wn wV : World} {mb it : Nat} {X : List Tx9} {f : Tx9 → Bool} {lv lv' : Value} {zs zs' : List Int} {left left' : List (Int × Value)} (I : TellI w wz mb it X f lv zs left) (hg : wz.grownBy wn (some it)) (hr : RangeM KI wn mb it (topX X) left') (hc : ColJ X f zs' left') (hso : SO seN (it + 1) wV lv' zs'.length (numC zs')) (hb : Below (it + 1) wn wV) (hit : w.heap.size ≤ it) (hmb : mb < w.heap.size) : TellI w wV mb it X f lv' zs' left' :=
  ⟨hso, hc, hr.kept (hb.block mb (by omega)) (hb.block it (by omega)), (I.bel.trans (grown_below hg I.bel.size hit)).trans (hb.mono (by omega))⟩
def allJ (_ : Tx9) : Bool := true
def ListRes (w : World) (zs : List Int) (e : Ending) (w' : World) : Prop := ∃ v, e = .returned v ∧ SO seN w.heap.size w' v zs.length (numC zs) ∧ Below w.heap.size w w'
set_option maxHeartbeats 8000000 in
theorem wpTxns9 {w : World} {r mb most : Nat} {X : List Tx9} (h : Mem9 NoE w r mb most (flatX X).length X) (hm1 : 1 ≤ most) (hl : (flatX X).length ≤ 65536) :
    Calls Tryz.prog 45 #[.pointer (some ⟨r, 0, none⟩)] w (ListRes w (txP (flatX X) fun _ => true)) := by
  have hR : RBlk w r mb most _ := h.blk
  have CA := Lib.hid (wpAll hR hm1)
  have hM := Lib.hid h
  have HLX := Lib.hid (len_tx (X := X) fun e he => ⟨(h.ne e he).1, fun q hq => (h.ok e he q hq).ne⟩)
  have HL := Lib.hid hl
  have HF := Lib.hid (fun (zs : List Int) (hc : ColJ X allJ zs []) => hc.ends (g := fun _ => true) fun e he => ⟨fun _ => by
    obtain ⟨q, hq⟩ := List.exists_mem_of_ne_nil _ (h.ne e he).1
    obtain ⟨z, hz⟩ := List.exists_mem_of_ne_nil _ (h.ok e he q hq).ne
    exact ⟨q, hq, z, hz, rfl⟩, fun _ => rfl⟩)
  clear h hR hl
  go_enter Tryz.func45, Tryz.ntmps45
  go_upto_region 3 with (first
    | (go_at_call 88; go_loud (refine CA.out.mono ?_; rintro e w1 ⟨rfl, hw⟩; replace hw := hw.symm; subst hw))
    | (at_range; go_loud (refine wp_rangeM KI (by rfl) (.tmp 6) (by rfl) (by rfl) hM.out.top Tryz.underlying153 ?_; intro w2 g2 b2 s2; have G2 := Lib.hid g2; have B2 := Lib.hid b2; clear g2 b2 s2)))
  have START := Lib.hid (show TellI w w2 mb w.heap.size X allJ (.slice none 0 0) [] (topX X) from ⟨SO.nil _ _ _, ColJ.start _ _, G2.out, grown_none B2.out (Nat.le_refl _)⟩)
  try go_frame
  go_loopw [3] (fun lv wz => ∃ (zs : List Int) (left : List (Int × Value)), TellI w wz mb w.heap.size X allJ lv zs left) (fun _ wz => wz.rangeLeft mb w.heap.size)
  case atStart => exact ⟨[], topX X, START.out⟩
  case round =>
    rename World => wz
    obtain ⟨zs, left, o⟩ := hrel
    have I := Lib.hid o
    have ZL := Lib.hid (show zs.length ≤ 65536 by have h1 := o.col.len; have h2 := HLX.out; have h3 := HL.out; omega)
    clear o
    go_upto_region 5 with (at_next; go_loud (refine wp_nextI (by rfl) (.tmp 7) (by rfl) w.heap.size left (by rfl) I.out.rng ?_ ?_))
    · intro hnil
      subst hnil
      have CS := Lib.hid (wsortN I.out.so (by have := ZL.out; omega))
      have SR := Lib.hid (HF.out _ I.out.col)
      go_wp2_with (go_at_call 89; go_loud (refine CS.out.mono ?_; rintro e w5 ⟨rfl, o5, g5⟩; have O5 := Lib.hid o5; have B5 := Lib.hid (I.out.bel.trans (g5.mono (Nat.le_succ _))); clear o5 g5))
      go_ret
      refine ⟨_, rfl, ?_, B5.out⟩
      rw [← SR.out, List.length_mergeSort]
      exact O5.out.lower (Nat.le_succ _)
    · intro t v wn hin hok hr2 hg2 hsz hlt hen
      obtain ⟨e, he, e1⟩ := List.mem_map.1 (I.out.rng.sub _ hin)
      simp only [Prod.mk.injEq] at e1
      obtain ⟨rfl, rfl⟩ := e1
      have hct := I.out.col.take hM.out.once I.out.rng.once he hin rfl
      have hitl := RangeM.it_lt hr2
      obtain ⟨V, hV⟩ : ∃ V, wn.alloc (.cells #[.int .i64 e.1] 2) = V := ⟨_, rfl⟩
      have HV := Lib.hid hV
      have bV : Below wn.heap.size wn V := by rw [← hV]; exact below_alloc9 _ _
      have hc0 : V.cell? ⟨wn.heap.size, 0, none⟩ = some (.int .i64 e.1) := by rw [← hV]; exact cell_of_row _ _ 0 _ _ _ (heap_alloc_new _ _)
      have hSB : SB V (some ⟨wn.heap.size, 0, none⟩) (seN.s * 1) (numC [e.1]) := ⟨rfl, numC_one _, fun _ => ⟨_, 0, rfl, fun j u hj => by
        match j, hj with
        | 0, hj => cases hj; exact hc0⟩⟩
      have SBV := Lib.hid hSB
      have SOV := Lib.hid ((I.out.so.stays fun k hk hk2 => hg2.block k hk2 (fun e => by have := Option.some.inj e; omega)).below bV)
      have NX := Lib.hid (fun (lv' : Value) (wV : World) (hso : SO seN (w.heap.size + 1) wV lv' (zs.length + 1) (numC zs ++ numC [e.1])) (hb : Below (w.heap.size + 1) V wV) => I.out.next hg2 hr2 hct (by rw [List.length_append]; rw [show numC (zs ++ [e.1]) = numC zs ++ numC [e.1] by simp [numC]]; exact hso) ((bV.mono hitl).trans hb) (Nat.le_refl _) hM.out.top.lt)
      have ML := Lib.hid (fun (wV : World) (hb : Below (w.heap.size + 1) V wV) => show wV.rangeLeft mb w.heap.size < wz.rangeLeft mb w.heap.size by
        have h1 := hM.out.top.lt
        have hb2 := (bV.mono hitl).trans hb
        rw [left_kept (hb2.block mb (by omega)) (hb2.block _ (by omega))]; exact hlt)
      have HVs := Lib.hid (show w.heap.size + 1 ≤ V.heap.size by have := bV.size; omega)
      clear hin hok hr2 hg2 hsz hlt hct hitl hV bV hc0 hSB
      go_upto_region 5 with fail
      go_wp2_with (at_builtin; go_loud (rw [HV.out]; refine so_append seN_ok (by rfl) (.tmp 12) (.tmp 14) (by rfl) _ (by rfl) SOV.out (some ⟨wn.heap.size, 0, none⟩) 1 1 (numC [e.1]) (by rfl) SBV.out (by have := ZL.out; omega) HVs.out ?_; intro v3 w3 o3 b3; have N3 := Lib.hid (NX.out v3 w3 o3 b3); have L3 := Lib.hid (ML.out w3 b3); clear o3 b3))
      go_roundw
      case rel => exact ⟨_, _, N3.out⟩
      case measure => exact L3.out
end Go.Proofs.YtknppiebncdjmaaGreat
