import Derived.Test.YtknppiebncdjmaaGreatJAI
import Derived.StillTailTactics
/- Layer 9: the reference's Note. -/
namespace Go.Proofs.YtknppiebncdjmaaGreat
set_option maxRecDepth 100000
set_option maxRecDepth 100000
open Go.RowKit

/-- The reference's notes lie in block b, their row in a block of F. -/
structure RN (F : Nat → Prop) (w : World) (b : Nat) (most : Nat) (L : List Nt) : Prop where
  ex : ∃ A c, w.heap[b]? = some (.cells #[.int .i64 (most : Int), .slice A L.length c] 32 (0, 0)) ∧ SB w A (5 * L.length) (cellsT L) ∧ L.length ≤ c ∧ c ≤ maxLen ∧ ∀ ad, A = some ad → ad.block ≠ b ∧ F ad.block ∧ ad.block < w.heap.size
theorem RN.gw {F : Nat → Prop} {w w' : World} {b most : Nat} {L : List Nt} (h : RN F w b most L) (g : Below w.heap.size w w') : RN F w' b most L := by
  obtain ⟨A, c, h1, h2, h3, h4, h5⟩ := h.ex
  exact ⟨A, c, (g.block b (Array.getElem?_eq_some_iff.1 h1).1).trans h1, h2.gw g, h3, h4, fun ad e => ⟨(h5 ad e).1, (h5 ad e).2.1, Nat.lt_of_lt_of_le (h5 ad e).2.2 g.size⟩⟩
theorem RN.lt {F : Nat → Prop} {w : World} {b most : Nat} {L : List Nt} (h : RN F w b most L) : b < w.heap.size := by
  obtain ⟨A, c, h1, -⟩ := h.ex
  exact (Array.getElem?_eq_some_iff.1 h1).1
/-- Texts short enough that one byte more can be put behind them. -/
def SzL (L : List Nt) : Prop := ∀ n ∈ L, n.2.lo.size ≤ 140737488355328
def covT (t : Int) (x : Rd) (n : Nt) : Bool := decide (n.1 = t) && coversP n.2 x
def leftT (t : Int) (x : Rd) (n : Nt) : Bool := !(decide (n.1 = t) && coversP x n.2)
theorem note_got {most : Nat} {L : List Nt} {t : Int} {x : Rd} (ht : 1 ≤ t) (hm : mayP x = true) {p : Nt} (hp : p ∈ L) (hc : covT t x p = true) : noteP most L t x = (0, L) := by
  unfold noteP
  rw [if_neg (by rw [hm]; simp; omega), if_pos (show (L.any fun n => decide (n.1 = t) && coversP n.2 x) = true from List.any_eq_true.2 ⟨p, hp, hc⟩)]
theorem note_new {most : Nat} {L : List Nt} {t : Int} {x : Rd} (ht : 1 ≤ t) (hm : mayP x = true) (hc : ∀ p ∈ L, covT t x p = false) : noteP most L t x = (shrinkP most (L.length + 1) (addP L t x)).elim (4, L) fun M => (0, M) := by
  unfold noteP
  rw [if_neg (by rw [hm]; simp; omega), if_neg (by
    intro h
    obtain ⟨p, hp, h2⟩ := List.any_eq_true.1 h
    have := hc p hp
    unfold covT at this
    rw [this] at h2; cases h2)]
theorem shrink_done {most f : Nat} {M : List Nt} (h : M.length ≤ most) : shrinkP most f M = some M := by
  cases f <;> (unfold shrinkP; rw [if_pos h])
theorem shrink_more {most f : Nat} {M : List Nt} (h : ¬ M.length ≤ most) : shrinkP most (f + 1) M = (coarsestP M).elim none fun p => shrinkP most f (coarseP M p.1 p.2) := by
  rw [shrinkP, if_neg h]
theorem coarse_less {M : List Nt} {p : Int × ByteArray} (h : coarsestP M = some p) : (coarseP M p.1 p.2).length + 1 ≤ M.length := by
  rcases coarsest_is M with ⟨h1, -⟩ | ⟨q, h1, hq⟩
  · rw [h] at h1; cases h1
  · rw [h] at h1; cases h1
    have h2 := coarse_len M p.1 p.2
    have h3 := hq.two
    unfold cntR at h3
    omega
theorem add_len (L : List Nt) (t : Int) (x : Rd) : (addP L t x).length ≤ L.length + 1 := by
  unfold addP
  have := List.length_filter_le (fun n : Nt => !(decide (n.1 = t) && coversP x n.2)) L
  simp only [List.length_append, List.length_singleton]
  omega
theorem any_take {L : List Nt} {f : Nt → Bool} {j : Nat} {p : Nt} (hp : L[j]? = some p) (h : ∀ q ∈ L.take j, f q = false) (hf : f p = false) : ∀ q ∈ L.take (j + 1), f q = false := fun q hq => by
  rw [List.take_add_one, hp, Option.toList_some] at hq
  rcases List.mem_append.1 hq with e | e
  · exact h q e
  · rw [List.mem_singleton.1 e]; exact hf
/-- How long a slice is. -/
def sliceLen : Value → Nat
  | .slice _ n _ => n
  | _ => 0
/-- The reference's notes with another list. -/
theorem RN.set {F : Nat → Prop} {w : World} {b most base : Nat} {L M : List Nt} {A : Option Addr} {c : Nat} (h : w.heap[b]? = some (.cells #[.int .i64 (most : Int), .slice A L.length c] 32 (0, 0))) {v : Value} (ho : SO seT base w v M.length (cellsT M)) (hb : b < base) (hF : ∀ k, base ≤ k → F k) :
    RN F (w.setCell ⟨b, 1, none⟩ v) b most M ∧ Out (fun k => k = b) w (w.setCell ⟨b, 1, none⟩ v) := by
  obtain ⟨A2, c2, rfl, hsb, hnc, hcm, hbl⟩ := ho.form
  have hlt : ∀ ad, A2 = some ad → ad.block < w.heap.size := fun ad e => by
    subst e
    rcases ho.own.2 with ⟨hv, -⟩ | ⟨g, cap, cur, hv, hb2, hg, -⟩
    · cases hv
    · simp only [Value.slice.injEq, Option.some.injEq] at hv
      rw [hv.1]
      exact (Array.getElem?_eq_some_iff.1 hg).1
  have h1 : (w.setCell ⟨b, 1, none⟩ (.slice A2 M.length c2)).heap[b]? = some (.cells #[.int .i64 (most : Int), .slice A2 M.length c2] 32 (0, 0)) := by
    rw [heap_setCell_same w b 1 _ _ _ h]; rfl
  have ho2 : Out (fun k => k = b) w (w.setCell ⟨b, 1, none⟩ (.slice A2 M.length c2)) := (Out.refl (fun k => k = b) w).setCell (p := ⟨b, 1, none⟩) (.inl rfl) _
  refine ⟨⟨A2, c2, h1, ⟨hsb.len, hsb.one, fun h0 => ?_⟩, hnc, hcm, fun ad e => ⟨by have := hbl ad e; omega, hF _ (hbl ad e), Nat.lt_of_lt_of_le (hlt ad e) ho2.size⟩⟩, ho2⟩
  obtain ⟨g, o, e, hc⟩ := hsb.cell h0
  refine ⟨g, o, e, fun k u hk => ho2.cell (hc k u hk) ?_⟩
  have := hbl _ e
  show ¬ g = b
  simp only at this
  omega

set_option maxHeartbeats 64000000 in
theorem wrNote {F : Nat → Prop} {w : World} {b most : Nat} {L : List Nt} (h : RN F w b most L) (hn : L.length ≤ 3000000) (hmo : most ≤ 4000000) (hsl : SzL L) (hF : ∀ k, w.heap.size ≤ k → F k) (t : Int) (x : Rd) (hx : x.lo.size ≤ 140737488355328) :
    Calls Tryz.prog 149 #[.pointer (some ⟨b, 0, none⟩), .int .i64 t, rdV x] w fun e w' => e = .returned (.int .i64 (noteP most L t x).1) ∧ RN F w' b most (noteP most L t x).2 ∧ Out (fun k => k = b) w w' := by
  obtain ⟨W, hW⟩ : ∃ W, w.alloc (.cells #[.string x.tb, .int .i64 x.kd, .string x.lo, .string x.hi] 114) = W := ⟨_, rfl⟩
  have HW := Lib.hid hW
  have hB : Below w.heap.size w W := by rw [← hW]; exact below_alloc9 _ _
  have HB := Lib.hid hB
  have q := rd_box w x
  rw [hW] at q
  have Q := Lib.hid q
  have hz : W.heap.size = w.heap.size + 1 := by rw [← hW]; simp
  have HZ := Lib.hid hz
  have HR := Lib.hid h
  have HRW := Lib.hid (h.gw hB)
  have HN := Lib.hid hn
  have HMO := Lib.hid hmo
  have HSL := Lib.hid hsl
  have HXS := Lib.hid hx
  have HF := Lib.hid hF
  clear hF
  have CM := Lib.hid (wrMay W x)
  obtain ⟨mx, hmx⟩ : ∃ mx, mayP x = mx := ⟨_, rfl⟩
  rw [hmx] at CM
  have HMX := Lib.hid hmx
  unfold rdV at CM
  have x0 : W.cell? ⟨w.heap.size, 0, none⟩ = some (.string x.tb) := cell_of_row _ _ 0 _ _ _ q
  have x1 : W.cell? ⟨w.heap.size, 1, none⟩ = some (.int .i64 x.kd) := cell_of_row _ _ 1 _ _ _ q
  have x2 : W.cell? ⟨w.heap.size, 2, none⟩ = some (.string x.lo) := cell_of_row _ _ 2 _ _ _ q
  have x3 : W.cell? ⟨w.heap.size, 3, none⟩ = some (.string x.hi) := cell_of_row _ _ 3 _ _ _ q
  clear h hn hmo hsl hx hW hB q hmx hz
  unfold rdV
  go_enter Tryz.func149, Tryz.ntmps149
  go_upto_region 1 with fail
  rw [HW.out]
  by_cases ht : t < 1
  · have HE := Lib.hid (show noteP most L t x = (1, L) by unfold noteP; rw [if_pos (.inl ht)])
    go_wp2
    go_ret
    exact ⟨by rw [HE.out] <;> rfl, by rw [HE.out]; exact HRW.out, Out.of_below HB.out _⟩
  cases mx
  · have HE := Lib.hid (show noteP most L t x = (1, L) by unfold noteP; rw [if_pos (.inr HMX.out)])
    go_wp2_with (go_at_call 186; go_loud (refine CM.out.mono ?_; rintro e w2 ⟨rfl, g2⟩; have G2 := Lib.hid g2; clear g2))
    go_ret
    exact ⟨by rw [HE.out] <;> rfl, by rw [HE.out]; exact HRW.out.gw G2.out, Out.of_below (below_next HB.out G2.out) _⟩
  have HT := Lib.hid (show 1 ≤ t by omega)
  go_upto_region 5 with (go_at_call 186; go_loud (refine CM.out.mono ?_; rintro e w2 ⟨rfl, g2⟩; have G2 := Lib.hid g2; clear g2))
  clear x0 x1 x2 x3 CM ht
  go_loopw [7, 8] (fun lv i' wr => ∃ j : Nat, i' = .int .i64 (j : Nat) ∧ j ≤ L.length ∧ SO seT W.heap.size wr lv ((L.take j).filter (leftT t x)).length (cellsT ((L.take j).filter (leftT t x))) ∧ (∀ q ∈ L.take j, covT t x q = false) ∧ Below W.heap.size W wr) (fun _ i' _ => L.length - (intOf i').toNat)
  case atStart => exact ⟨0, rfl, Nat.zero_le _, SO.nil _ _ _, by simp, G2.out⟩
  case round =>
    rename World => wr
    obtain ⟨j, rfl, hj, ho, hany, hb⟩ := hrel
    have LE := filter_take_le L (leftT t x) j
    have hr := HRW.out.gw hb
    obtain ⟨A, c, hbk, hsb, -⟩ := hr.ex
    have c2 : wr.cell? ⟨b, 1, none⟩ = some (.slice A L.length c) := cell_of_row _ _ 1 _ _ _ hbk
    have qx := (hb.block _ (Array.getElem?_eq_some_iff.1 Q.out).1).trans Q.out
    have HB2 := Lib.hid hb
    have HR2 := Lib.hid hr
    have HO := Lib.hid ho
    have HLE := Lib.hid LE
    have HBK := Lib.hid hbk
    by_cases hlt : j < L.length
    · obtain ⟨p, hp⟩ : ∃ p, L[j]? = some p := ⟨_, List.getElem?_eq_getElem hlt⟩
      have HTK := Lib.hid (filter_take (f := leftT t x) hp)
      have HANY := Lib.hid (any_take (f := covT t x) hp hany)
      have HPM := Lib.hid (List.mem_of_getElem? hp)
      have HNG := Lib.hid (note_got (most := most) HT.out HMX.out (List.mem_of_getElem? hp))
      obtain ⟨g, o, rfl, c0, c1, c3, c4, c5⟩ := hsb.note hp
      obtain ⟨pt, px⟩ := p
      dsimp only at c0 c1 c3 c4 c5
      have i1 : (j : Int) < (L.length : Int) := by omega
      have l1 : (j : Int) ≤ 4000000 := by have := HN.out; omega
      have HLT := Lib.hid hlt
      obtain ⟨Y, hY⟩ : ∃ Y, wr.alloc (.cells #[.int .i64 pt, .string px.tb, .int .i64 px.kd, .string px.lo, .string px.hi] 222) = Y := ⟨_, rfl⟩
      have HY := Lib.hid hY
      have rY := heap_alloc_new wr (.cells #[.int .i64 pt, .string px.tb, .int .i64 px.kd, .string px.lo, .string px.hi] 222)
      rw [hY] at rY
      have gY : Below wr.heap.size wr Y := by rw [← hY]; exact below_alloc9 _ _
      have YR := Lib.hid rY
      have qy := (gY.block _ (Array.getElem?_eq_some_iff.1 qx).1).trans qx
      have YX := Lib.hid qy
      have OY := Lib.hid (HO.out.below gY)
      have RY := Lib.hid (HR2.out.gw gY)
      have BY := Lib.hid (below_next HB2.out gY)
      have V1 := Lib.hid (fun W => wrCovers W px x (HSL.out _ HPM.out) HXS.out)
      have V2 := Lib.hid (fun W => wrCovers W x px HXS.out (HSL.out _ HPM.out))
      obtain ⟨q1, hq1⟩ : ∃ q1, coversP px x = q1 := ⟨_, rfl⟩
      obtain ⟨q2, hq2⟩ : ∃ q2, coversP x px = q2 := ⟨_, rfl⟩
      rw [hq1] at V1
      rw [hq2] at V2
      unfold rdV at V1 V2
      have HQ1 := Lib.hid hq1
      have HQ2 := Lib.hid hq2
      have y0 : Y.cell? ⟨wr.heap.size, 0, none⟩ = some (.int .i64 pt) := cell_of_row _ _ 0 _ _ _ rY
      have y1 : Y.cell? ⟨wr.heap.size, 1, none⟩ = some (.string px.tb) := cell_of_row _ _ 1 _ _ _ rY
      have y2 : Y.cell? ⟨wr.heap.size, 2, none⟩ = some (.int .i64 px.kd) := cell_of_row _ _ 2 _ _ _ rY
      have y3 : Y.cell? ⟨wr.heap.size, 3, none⟩ = some (.string px.lo) := cell_of_row _ _ 3 _ _ _ rY
      have y4 : Y.cell? ⟨wr.heap.size, 4, none⟩ = some (.string px.hi) := cell_of_row _ _ 4 _ _ _ rY
      have x0 : Y.cell? ⟨w.heap.size, 0, none⟩ = some (.string x.tb) := cell_of_row _ _ 0 _ _ _ qy
      have x1 : Y.cell? ⟨w.heap.size, 1, none⟩ = some (.int .i64 x.kd) := cell_of_row _ _ 1 _ _ _ qy
      have x2 : Y.cell? ⟨w.heap.size, 2, none⟩ = some (.string x.lo) := cell_of_row _ _ 2 _ _ _ qy
      have x3 : Y.cell? ⟨w.heap.size, 3, none⟩ = some (.string x.hi) := cell_of_row _ _ 3 _ _ _ qy
      clear hp hany hsb hbk hr hb ho LE qx qy rY gY hY hlt hj hq1 hq2
      go_upto_region 8 with fail
      rw [HY.out]
      clear c0 c1 c2 c3 c4 c5
      by_cases hpt : pt = t
      · subst hpt
        cases q1
        · go_upto_region 10 with (go_at_call 187; go_loud (refine (V1.out _).mono ?_; rintro e w4 ⟨rfl, g4⟩; have G4 := Lib.hid g4; replace y0 := keep_below y0 g4; replace y1 := keep_below y1 g4; replace y2 := keep_below y2 g4; replace y3 := keep_below y3 g4; replace y4 := keep_below y4 g4; replace x0 := keep_below x0 g4; replace x1 := keep_below x1 g4; replace x2 := keep_below x2 g4; replace x3 := keep_below x3 g4; clear g4))
          have HCF := Lib.hid (show covT pt x (pt, px) = false by unfold covT; rw [HQ1.out, Bool.and_false])
          cases q2
          · have HLF := Lib.hid (show leftT pt x (pt, px) = true by unfold leftT; rw [HQ2.out, Bool.and_false]; rfl)
            have HTE := HTK.out
            rw [if_pos HLF.out] at HTE
            have HTE := Lib.hid HTE
            go_upto_region 11 with (go_at_call 187; go_loud (refine (V2.out _).mono ?_; rintro e w5 ⟨rfl, g5⟩; have G5 := Lib.hid (below_next G4.out g5); replace y0 := keep_below y0 g5; replace y1 := keep_below y1 g5; replace y2 := keep_below y2 g5; replace y3 := keep_below y3 g5; replace y4 := keep_below y4 g5; clear g5))
            have O5 := Lib.hid (OY.out.below G5.out)
            have B5 := Lib.hid (below_next BY.out G5.out)
            go_wp2_with (at_builtin; go_loud (refine so_append seT_ok (by rfl) (.tmp 55) (.tmp 57) (by rfl) _ (by rfl) (O5.out.alloc _) (some ⟨w5.heap.size, 0, none⟩) 1 1 (cellsT [(pt, px)]) (by rfl) (sb_note w5 (pt, px)) (by have := HLE.out; have := HN.out; omega) (by have := B5.out.size; simp; omega) ?_; intro v3 w6 o6 b6; have O6 := Lib.hid o6; have B6 := Lib.hid ((B5.out.alloc B5.out.size _).trans b6); clear o6 b6))
            go_roundw
            case rel => exact ⟨j + 1, by go_num, HLT.out, by rw [HTE.out]; exact O6.out.base (Nat.le_refl _) (by rw [cellsT_app]) (by simp), HANY.out HCF.out, B6.out⟩
            case measure => have := HLT.out; simp [intOf]; omega
          · have HLF := Lib.hid (show leftT pt x (pt, px) = false by unfold leftT; rw [HQ2.out]; simp)
            have HTE := HTK.out
            rw [if_neg (by rw [HLF.out]; simp), List.append_nil] at HTE
            have HTE := Lib.hid HTE
            go_wp2_with (go_at_call 187; go_loud (refine (V2.out _).mono ?_; rintro e w5 ⟨rfl, g5⟩; have G5 := Lib.hid (below_next G4.out g5); clear g5))
            go_roundw
            case rel => exact ⟨j + 1, by go_num, HLT.out, by rw [HTE.out]; exact OY.out.below G5.out, HANY.out HCF.out, below_next BY.out G5.out⟩
            case measure => have := HLT.out; simp [intOf]; omega
        · have HE := Lib.hid (HNG.out (show covT pt x (pt, px) = true by unfold covT; rw [HQ1.out]; simp))
          go_wp2_with (go_at_call 187; go_loud (refine (V1.out _).mono ?_; rintro e w4 ⟨rfl, g4⟩; have G4 := Lib.hid g4; clear g4))
          go_ret
          exact ⟨by rw [HE.out] <;> rfl, by rw [HE.out]; exact RY.out.gw G4.out, Out.of_below (below_next HB.out (below_next BY.out G4.out)) _⟩
      · have hpt' : (pt == t) = false := by simpa using hpt
        have HCF := Lib.hid (show covT t x (pt, px) = false by simp [covT, hpt])
        have HLF := Lib.hid (show leftT t x (pt, px) = true by simp [leftT, hpt])
        have HTE := HTK.out
        rw [if_pos HLF.out] at HTE
        have HTE := Lib.hid HTE
        go_wp2_with (at_builtin; go_loud (refine so_append seT_ok (by rfl) (.tmp 55) (.tmp 57) (by rfl) _ (by rfl) (OY.out.alloc _) (some ⟨Y.heap.size, 0, none⟩) 1 1 (cellsT [(pt, px)]) (by rfl) (sb_note Y (pt, px)) (by have := HLE.out; have := HN.out; omega) (by have := BY.out.size; simp; omega) ?_; intro v3 w6 o6 b6; have O6 := Lib.hid o6; have B6 := Lib.hid ((BY.out.alloc BY.out.size _).trans b6); clear o6 b6))
        go_roundw
        case rel => exact ⟨j + 1, by go_num, HLT.out, by rw [HTE.out]; exact O6.out.base (Nat.le_refl _) (by rw [cellsT_app]) (by simp), HANY.out HCF.out, B6.out⟩
        case measure => have := HLT.out; simp [intOf]; omega
    · obtain rfl : j = L.length := by omega
      have i1 : ¬ (L.length : Int) < (L.length : Int) := by omega
      rw [List.take_length] at hany
      have HE := Lib.hid (note_new (most := most) HT.out HMX.out hany)
      have HAD := Lib.hid (add_len L t x)
      have x0 : wr.cell? ⟨w.heap.size, 0, none⟩ = some (.string x.tb) := cell_of_row _ _ 0 _ _ _ qx
      have x1 : wr.cell? ⟨w.heap.size, 1, none⟩ = some (.int .i64 x.kd) := cell_of_row _ _ 1 _ _ _ qx
      have x2 : wr.cell? ⟨w.heap.size, 2, none⟩ = some (.string x.lo) := cell_of_row _ _ 2 _ _ _ qx
      have x3 : wr.cell? ⟨w.heap.size, 3, none⟩ = some (.string x.hi) := cell_of_row _ _ 3 _ _ _ qx
      rw [List.take_length] at ho LE
      have HO := Lib.hid ho
      have HLE := Lib.hid LE
      clear hany hsb hbk hr hb ho LE qx hlt hj
      go_upto_region 13 with (at_builtin; go_loud (refine so_append seT_ok (by rfl) (.tmp 59) (.tmp 63) (by rfl) _ (by rfl) (HO.out.alloc _) (some ⟨wr.heap.size, 0, none⟩) 1 1 (cellsT [(t, x)]) (by rfl) (sb_note wr (t, x)) (by have := HLE.out; have := HN.out; omega) (by have := HB2.out.size; simp; omega) ?_; intro v3 w6 o6 b6; have O6 := Lib.hid o6; have B6 := Lib.hid ((HB2.out.alloc HB2.out.size _).trans b6); clear o6 b6))
      clear x0 x1 x2 x3 c2
      go_loopw [7] (fun lv wz => ∃ (M : List Nt) (f : Nat), SO seT W.heap.size wz lv M.length (cellsT M) ∧ M.length ≤ f ∧ M.length ≤ 4000000 ∧ shrinkP most f M = shrinkP most (L.length + 1) (addP L t x) ∧ Below W.heap.size W wz) (fun lv _ => sliceLen lv)
      case atStart => exact ⟨addP L t x, L.length + 1, O6.out.base (Nat.le_refl _) (by rw [← cellsT_app]; rfl) (by unfold addP; rw [List.length_append]; rfl), HAD.out, by have := HAD.out; have := HN.out; omega, rfl, B6.out⟩
      case round =>
        rename World => wz
        clear O6 B6 i1 HB2 HR2 HO HLE HBK
        obtain ⟨M, f, ho, hf, hM, hsh, hb⟩ := hrel
        have hr := HRW.out.gw hb
        obtain ⟨A2, c2, rfl, hsb, hnc, -⟩ := ho.form
        rw [show seT.s * M.length = 5 * M.length from rfl] at hsb
        obtain ⟨A, c, hbk, -⟩ := hr.ex
        have e0 : wz.cell? ⟨b, 0, none⟩ = some (.int .i64 (most : Int)) := cell_of_row _ _ 0 _ _ _ hbk
        have e1 : wz.cell? ⟨b, 1, none⟩ = some (.slice A L.length c) := cell_of_row _ _ 1 _ _ _ hbk
        have fz : wz.frozen? ⟨b, 1, none⟩ = false := frozen_of_row _ _ _ _ _ hbk
        have HO := Lib.hid ho
        have HBZ := Lib.hid hb
        have HR2 := Lib.hid hr
        have HSB := Lib.hid hsb
        have HBK := Lib.hid hbk
        have m1 : (M.length : Int) ≤ 4000000 := by omega
        have m2 : (most : Int) ≤ 4000000 := by have := HMO.out; omega
        by_cases hle : M.length ≤ most
        · have i2 : ¬ (most : Int) < (M.length : Int) := by omega
          have HE2 := Lib.hid (show noteP most L t x = (0, M) by rw [HE.out, ← hsh, shrink_done hle]; rfl)
          clear ho hf hM hsh hb hr hsb hnc hbk hle
          go_wp2
          go_ret
          have hset := RN.set HBK.out HO.out (by have h1 := HR.out.lt; have h2 := HZ.out; omega) (fun k hk => HF.out k (by have h2 := HZ.out; omega))
          exact ⟨by rw [HE2.out] <;> rfl, by rw [HE2.out]; exact hset.1, (Out.of_below (below_next HB.out HBZ.out) _).then hset.2⟩
        · have i2 : (most : Int) < (M.length : Int) := by omega
          obtain ⟨f', rfl⟩ : ∃ f', f = f' + 1 := ⟨f - 1, by omega⟩
          rw [shrink_more hle] at hsh
          have HSH := Lib.hid hsh
          have HF := Lib.hid hf
          have HM := Lib.hid hM
          have CC := Lib.hid (wrCoarsest (c := c2) hsb (by omega))
          have CO := Lib.hid (fun W t tb (h : SB W A2 (5 * M.length) (cellsT M)) => wrCoarse (c := c2) h (by omega) t tb)
          clear ho hf hM hsh hb hr hsb hnc hbk hle
          go_upto_region 15 with (go_at_call 188; go_loud (refine CC.out.mono ?_; rintro e w8 ⟨⟨bv, rfl, hco⟩, g8⟩; have G8 := Lib.hid g8; have HCO := Lib.hid hco; clear g8 hco))
          rcases HCO.out with ⟨hc1, rfl⟩ | ⟨bi, nb, rfl, hnb, hc1⟩
          · have HE2 := Lib.hid (show noteP most L t x = (4, L) by rw [HE.out, ← HSH.out, hc1]; rfl)
            clear hc1 e0 e1
            go_wp2
            go_ret
            exact ⟨by rw [HE2.out] <;> rfl, by rw [HE2.out]; exact HR2.out.gw G8.out, Out.of_below (below_next HB.out (below_next HBZ.out G8.out)) _⟩
          · have HS2 := HSB.out.gw G8.out
            obtain ⟨g, o, rfl, c0, c1, -, -, -⟩ := HS2.note hnb
            have HSC := HSH.out
            rw [hc1] at HSC
            have HSC := Lib.hid HSC
            have HLS := Lib.hid (coarse_less hc1)
            have b1 : (bi : Int) < (M.length : Int) := by have := (List.getElem?_eq_some_iff.1 hnb).1; omega
            have b2 : 0 ≤ (bi : Int) := by omega
            have HS3 := Lib.hid (HS2.gw (Below.refl w8.heap.size w8).drew)
            clear hc1 e0 e1 hnb HS2
            go_upto_region 17 with fail
            go_still_tail 12, (by kernel_rfl)
            go_wp2_with (go_at_call 189; go_loud (refine (CO.out _ _ _ HS3.out).mono ?_; rintro e w9 ⟨v9, rfl, o9, g9⟩; have O9 := Lib.hid o9; have G9 := Lib.hid (below_next G8.out ((Below.refl w8.heap.size w8).drew.trans g9)); clear o9 g9))
            go_roundw
            case rel => exact ⟨_, f', O9.out.base (Nat.le_trans HBZ.out.size G8.out.size) rfl rfl, by have := HLS.out; have := HF.out; exact Nat.le_of_lt_succ (Nat.lt_of_lt_of_le HLS.out HF.out), by have := HLS.out; have := HM.out; exact Nat.le_trans (Nat.le_of_lt HLS.out) HM.out, HSC.out, below_next HBZ.out G9.out⟩
            case measure =>
              obtain ⟨A9, c9, rfl, -⟩ := O9.out.form
              exact HLS.out
end Go.Proofs.YtknppiebncdjmaaGreat

/- Layer 9: the reference's put, Readers, Txns, Drop, Len. -/
namespace Go.Proofs.YtknppiebncdjmaaGreat
set_option maxRecDepth 100000
set_option maxRecDepth 100000
open Go.RowKit

set_option maxHeartbeats 16000000 in
theorem wrPut {w : World} {base : Nat} {v : Value} {l : List Int} (h : SO seN base w v l.length (numC l)) (hn : l.length ≤ 4000000) (hbs : base ≤ w.heap.size) (x : Int) :
    Calls Tryz.prog 152 #[v, .int .i64 x] w fun e w' => ∃ v', e = .returned v' ∧ SO seN base w' v' (insN l x).length (numC (insN l x)) ∧ Below w.heap.size w w' := by
  obtain ⟨A, c, rfl, hsb, hnc, hcm, hbl⟩ := h.form
  rw [show seN.s * l.length = l.length from Nat.one_mul _] at hsb
  have HO := Lib.hid h
  have HS := Lib.hid hsb
  have HN := Lib.hid hn
  have HC := Lib.hid (And.intro hnc hcm)
  have HBS := Lib.hid hbs
  obtain ⟨q, hq⟩ : ∃ q, plN l x = q := ⟨_, rfl⟩
  have HQ := Lib.hid hq
  have hql := plN_le l x
  rw [hq] at hql
  have HQL := Lib.hid hql
  clear h hsb hn hnc hcm hbl hq hql hbs
  go_enter Tryz.func152, Tryz.ntmps152
  go_upto_region 2 with fail
  go_loopw [5] (fun a' wz => ∃ a : Nat, a' = .int .i64 (a : Nat) ∧ a ≤ q ∧ wz = w) (fun a' _ => q - (intOf a').toNat)
  case atStart => exact ⟨0, rfl, Nat.zero_le _, rfl⟩
  case round =>
    obtain ⟨a, rfl, ha, hw⟩ := hrel
    subst hw
    by_cases haq : a < q
    · obtain ⟨y, hy⟩ : ∃ y, l[a]? = some y := ⟨_, List.getElem?_eq_getElem (by have := HQL.out; omega)⟩
      have i2 : y < x := plN_below l x a y (by rw [HQ.out]; exact haq) hy
      obtain ⟨g1, o1, rfl, cy⟩ := HS.out.at_ (numC_at hy)
      have i3 : (a : Int) < (l.length : Int) := by have := HQL.out; omega
      have l2 : (a : Int) ≤ 4000000 := by have := HN.out; have := HQL.out; omega
      have HAQ := Lib.hid haq
      clear hy ha haq
      go_wp2
      go_roundw
      case rel => exact ⟨a + 1, by go_num, HAQ.out, by first | trivial | rfl⟩
      case measure => have := HAQ.out; simp [intOf]; omega
    · have haq2 : a = q := by omega
      subst haq2
      rename World => wz
      obtain ⟨A2, hA2⟩ : ∃ A2, (if c = a then A else A.map (·.add (a * seN.s))) = A2 := ⟨_, rfl⟩
      have q1 : ∀ W, (Instr.slice 75 (.slice A l.length c) none (some (.int .i64 (a : Int))) none).run Tryz.prog W = .ok (.slice A a c) W := fun W => run_uptoE seN_ok W A l.length c a (by have := HQL.out; have := HC.out.1; omega)
      have q2 : ∀ W, (Instr.slice 75 (.slice A l.length c) (some (.int .i64 (a : Int))) none none).run Tryz.prog W = .ok (.slice A2 (l.length - a) (c - a)) W := fun W => by rw [← hA2]; exact run_fromE seN_ok W A l.length c a HQL.out HC.out.1
      have P1 := Lib.hid (show ∀ W, Below wz.heap.size wz W → SB W A (seN.s * a) (numC (l.take a)) from fun W hW => by
        have h1 := (HS.out.gw hW).take HQL.out
        rw [show seN.s * a = a from Nat.one_mul _, show numC (l.take a) = (numC l).take a by simp [numC]]
        exact h1)
      have P2 := Lib.hid (show ∀ W, Below wz.heap.size wz W → SB W A2 (seN.s * (l.length - a)) (numC (l.drop a)) from fun W hW => by
        have h0 : SB W A (seN.s * l.length) (numC l) := by rw [show seN.s * l.length = l.length from Nat.one_mul _]; exact HS.out.gw hW
        have h1 := h0.cut HQL.out HC.out.1
        rw [hA2, show seN.s * a = a from Nat.one_mul _] at h1
        rw [show numC (l.drop a) = (numC l).drop a by simp [numC]]
        exact h1)
      have L1 := Lib.hid (show (l.take a).length = a by rw [List.length_take]; have := HQL.out; omega)
      have HA2 := Lib.hid (show a ≤ 4000000 by have := HN.out; have := HQL.out; omega)
      clear hA2
      by_cases hqo : a < l.length
      · obtain ⟨y, hy⟩ : ∃ y, l[a]? = some y := ⟨_, List.getElem?_eq_getElem hqo⟩
        have i2 : ¬ y < x := plN_at l x y (by rw [HQ.out]; exact hy)
        obtain ⟨g1, o1, rfl, cy⟩ := HS.out.at_ (numC_at hy)
        have i3 : (a : Int) < (l.length : Int) := by omega
        have l2 : (a : Int) ≤ 4000000 := by have := HA2.out; omega
        have HY := Lib.hid hy
        clear hy ha haq hqo
        by_cases he : y = x
        · subst he
          have HIN := Lib.hid (show insN l y = l by unfold insN; rw [HQ.out, if_pos HY.out])
          go_wp2
          go_ret
          exact ⟨_, rfl, by rw [HIN.out]; exact HO.out, Below.refl _ _⟩
        · have he' : (y == x) = false := by simpa using he
          have HIN := Lib.hid (show insN l x = l.take a ++ [x] ++ l.drop a by unfold insN; rw [HQ.out, if_neg (by rw [HY.out]; simpa using he)])
          go_upto_region 8 with (at_builtin; go_loud (refine so_append seN_ok (by rfl) (.tmp 34) (.tmp 37) (by rfl) _ (by rfl) (SO.nil seN wz.heap.size _) _ a c (numC (l.take a)) (by rfl) (P1.out _ (Below.refl _ _)) (by have := HA2.out; omega) (by simp) ?_; intro v3 w3 o3 b3; have O3 := Lib.hid o3; have B3 := Lib.hid b3; clear o3 b3))
          go_upto_region 9 with (at_builtin; go_loud (refine so_append seN_ok (by rfl) (.tmp 39) (.tmp 41) (by rfl) _ (by rfl) (O3.out.alloc _) (some ⟨w3.heap.size, 0, none⟩) 1 1 (numC [x]) (by rfl) (sb_num w3 x) (by have := HA2.out; simp; omega) (by have := B3.out.size; simp; omega) ?_; intro v4 w4 o4 b4; have O4 := Lib.hid o4; have B4 := Lib.hid ((B3.out.alloc B3.out.size _).trans b4); clear o4 b4))
          go_wp2_with (at_builtin; go_loud (refine so_append seN_ok (by rfl) (.tmp 43) (.tmp 46) (by rfl) _ (by rfl) O4.out A2 (l.length - a) (c - a) (numC (l.drop a)) (by rfl) (P2.out _ B4.out) (by have := HA2.out; have := HN.out; omega) B4.out.size ?_; intro v5 w5 o5 b5; have O5 := Lib.hid o5; have B5 := Lib.hid (B4.out.trans b5); clear o5 b5))
          go_ret
          exact ⟨_, rfl, by rw [HIN.out]; exact O5.out.base HBS.out (by simp [numC]) (by simp [L1.out]; try omega), B5.out⟩
      · have i3 : ¬ (a : Int) < (l.length : Int) := by omega
        have HIN := Lib.hid (show insN l x = l.take a ++ [x] ++ l.drop a by unfold insN; rw [HQ.out, if_neg (by rw [List.getElem?_eq_none (by omega)]; simp)])
        clear ha haq hqo
        go_upto_region 8 with (at_builtin; go_loud (refine so_append seN_ok (by rfl) (.tmp 34) (.tmp 37) (by rfl) _ (by rfl) (SO.nil seN wz.heap.size _) _ a c (numC (l.take a)) (by rfl) (P1.out _ (Below.refl _ _)) (by have := HA2.out; omega) (by simp) ?_; intro v3 w3 o3 b3; have O3 := Lib.hid o3; have B3 := Lib.hid b3; clear o3 b3))
        go_upto_region 9 with (at_builtin; go_loud (refine so_append seN_ok (by rfl) (.tmp 39) (.tmp 41) (by rfl) _ (by rfl) (O3.out.alloc _) (some ⟨w3.heap.size, 0, none⟩) 1 1 (numC [x]) (by rfl) (sb_num w3 x) (by have := HA2.out; simp; omega) (by have := B3.out.size; simp; omega) ?_; intro v4 w4 o4 b4; have O4 := Lib.hid o4; have B4 := Lib.hid ((B3.out.alloc B3.out.size _).trans b4); clear o4 b4))
        go_wp2_with (at_builtin; go_loud (refine so_append seN_ok (by rfl) (.tmp 43) (.tmp 46) (by rfl) _ (by rfl) O4.out A2 (l.length - a) (c - a) (numC (l.drop a)) (by rfl) (P2.out _ B4.out) (by have := HA2.out; have := HN.out; omega) B4.out.size ?_; intro v5 w5 o5 b5; have O5 := Lib.hid o5; have B5 := Lib.hid (B4.out.trans b5); clear o5 b5))
        go_ret
        exact ⟨_, rfl, by rw [HIN.out]; exact O5.out.base HBS.out (by simp [numC]) (by simp [L1.out]; try omega), B5.out⟩

/-- The transactions of some notes, rising, each once. -/
def txP (L : List Nt) (f : Nt → Bool) : List Int := riseP ((L.filter f).map (·.1))
theorem txP_take {L : List Nt} {f : Nt → Bool} {j : Nat} {p : Nt} (hp : L[j]? = some p) : txP (L.take (j + 1)) f = if f p = true then insN (txP (L.take j) f) p.1 else txP (L.take j) f := by
  unfold txP riseP
  rw [filter_take hp, List.map_append, List.foldl_append]
  by_cases h : f p = true <;> simp [h]
theorem txP_len (L : List Nt) (f : Nt → Bool) (j : Nat) : (txP (L.take j) f).length ≤ L.length := by
  unfold txP
  have h1 := rise_len (((L.take j).filter f).map (·.1)) ((((L.take j).filter f).map (·.1))).length
  rw [List.take_length, List.length_map] at h1
  have h2 := filter_take_le L f j
  omega
set_option maxHeartbeats 16000000 in
theorem wrReaders {F : Nat → Prop} {w : World} {b most : Nat} {L : List Nt} (h : RN F w b most L) (hn : L.length ≤ 3000000) (t k : ByteArray) :
    Calls Tryz.prog 111 #[.pointer (some ⟨b, 0, none⟩), .string t, .string k] w fun e w' => ∃ v, e = .returned v ∧ SO seN w.heap.size w' v (txP L fun n => hasP n.2 t k).length (numC (txP L fun n => hasP n.2 t k)) ∧ Below w.heap.size w w' := by
  have HR := Lib.hid h
  have HN := Lib.hid hn
  clear h hn
  go_enter Tryz.func111, Tryz.ntmps111
  go_upto_region 3 with fail
  go_loopw [7, 8] (fun lv i' wr => ∃ j : Nat, i' = .int .i64 (j : Nat) ∧ j ≤ L.length ∧ SO seN w.heap.size wr lv (txP (L.take j) fun n => hasP n.2 t k).length (numC (txP (L.take j) fun n => hasP n.2 t k)) ∧ Below w.heap.size w wr) (fun _ i' _ => L.length - (intOf i').toNat)
  case atStart => exact ⟨0, rfl, Nat.zero_le _, SO.nil _ _ _, Below.refl _ _⟩
  case round =>
    rename World => wr
    obtain ⟨j, rfl, hj, ho, hb⟩ := hrel
    have LE := Lib.hid (txP_len L (fun n => hasP n.2 t k) j)
    obtain ⟨A, c, hbk, hsb, -⟩ := (HR.out.gw hb).ex
    have c2 : wr.cell? ⟨b, 1, none⟩ = some (.slice A L.length c) := cell_of_row _ _ 1 _ _ _ hbk
    by_cases hlt : j < L.length
    · obtain ⟨p, hp⟩ : ∃ p, L[j]? = some p := ⟨_, List.getElem?_eq_getElem hlt⟩
      have HT := txP_take (f := fun n => hasP n.2 t k) hp
      obtain ⟨g, o, rfl, c0, c1, c3, c4, c5⟩ := hsb.note hp
      obtain ⟨pt, px⟩ := p
      dsimp only at c0 c1 c3 c4 c5 HT
      have CH := Lib.hid (wrHas wr px t k)
      obtain ⟨hh, hhh⟩ : ∃ hh, hasP px t k = hh := ⟨_, rfl⟩
      rw [hhh] at CH HT
      unfold rdV at CH
      have i1 : (j : Int) < (L.length : Int) := by omega
      have l1 : (j : Int) ≤ 4000000 := by have := HN.out; omega
      have HLT := Lib.hid hlt
      have HB := Lib.hid hb
      have HO := Lib.hid ho
      have CP := Lib.hid (fun W (g : Below wr.heap.size wr W) => wrPut (HO.out.below g) (by have := HN.out; have := LE.out; omega) (Nat.le_trans HB.out.size g.size) pt)
      clear hp hj hlt ho hb hsb hbk hhh
      cases hh
      · rw [if_neg (by simp)] at HT
        have HT := Lib.hid HT
        go_wp2_with (go_at_call 151; go_loud (refine CH.out.mono ?_; rintro e w4 ⟨rfl, g4⟩; have G4 := Lib.hid g4; clear g4))
        go_roundw
        case rel => exact ⟨j + 1, by go_num, HLT.out, by rw [HT.out]; exact HO.out.below G4.out, below_next HB.out G4.out⟩
        case measure => have := HLT.out; simp [intOf]; omega
      · rw [if_pos rfl] at HT
        have HT := Lib.hid HT
        go_wp2_with (first
          | (go_at_call 151; go_loud (refine CH.out.mono ?_; rintro e w4 ⟨rfl, g4⟩; have G4 := Lib.hid g4; replace c0 := keep_below c0 g4; replace c2 := keep_below c2 g4; clear g4))
          | (go_at_call 152; go_loud (refine (CP.out _ G4.out).mono ?_; rintro e w5 ⟨v5, rfl, o5, g5⟩; have O5 := Lib.hid o5; have G5 := Lib.hid (below_next (below_next HB.out G4.out) g5); clear o5 g5)))
        go_roundw
        case rel => exact ⟨j + 1, by go_num, HLT.out, by rw [HT.out]; exact O5.out, G5.out⟩
        case measure => have := HLT.out; simp [intOf]; omega
    · obtain rfl : j = L.length := by omega
      have i1 : ¬ (L.length : Int) < (L.length : Int) := by omega
      rw [List.take_length] at ho
      have HO := Lib.hid ho
      have HB := Lib.hid hb
      clear ho hb hsb hbk hlt hj
      go_wp2
      go_ret
      exact ⟨_, rfl, HO.out, HB.out⟩
theorem wrLen {F : Nat → Prop} {w : World} {b most : Nat} {L : List Nt} (h : RN F w b most L) : Calls Tryz.prog 120 #[.pointer (some ⟨b, 0, none⟩)] w fun e w' => e = .returned (.int .i64 (L.length : Nat)) ∧ w' = w := by
  obtain ⟨A, c, hbk, -⟩ := h.ex
  have c2 : w.cell? ⟨b, 1, none⟩ = some (.slice A L.length c) := cell_of_row _ _ 1 _ _ _ hbk
  clear h hbk
  go_enter Tryz.func120, Tryz.ntmps120
  go_wp2
  go_ret
  exact ⟨rfl, rfl⟩
set_option maxHeartbeats 16000000 in
theorem wrDrop {F : Nat → Prop} {w : World} {b most : Nat} {L : List Nt} (h : RN F w b most L) (hn : L.length ≤ 3000000) (hF : ∀ k, w.heap.size ≤ k → F k) (t : Int) :
    Calls Tryz.prog 118 #[.pointer (some ⟨b, 0, none⟩), .int .i64 t] w fun e w' => e = .returned (.int .i64 (if t < 1 then 1 else 0)) ∧ RN F w' b most (if t < 1 then L else dropP L t) ∧ Out (fun k => k = b) w w' := by
  have HR := Lib.hid h
  have HN := Lib.hid hn
  have HF := Lib.hid hF
  clear hF
  by_cases ht : t < 1
  · rw [if_pos ht, if_pos ht]
    clear h hn
    go_enter Tryz.func118, Tryz.ntmps118
    go_wp2
    go_ret
    exact ⟨rfl, HR.out, Out.refl _ _⟩
  rw [if_neg ht, if_neg ht]
  clear h hn
  go_enter Tryz.func118, Tryz.ntmps118
  go_upto_region 5 with fail
  go_loopw [5, 6] (fun lv i' wr => ∃ j : Nat, i' = .int .i64 (j : Nat) ∧ j ≤ L.length ∧ SO seT w.heap.size wr lv (dropP (L.take j) t).length (cellsT (dropP (L.take j) t)) ∧ Below w.heap.size w wr) (fun _ i' _ => L.length - (intOf i').toNat)
  case atStart => exact ⟨0, rfl, Nat.zero_le _, SO.nil _ _ _, Below.refl _ _⟩
  case round =>
    rename World => wr
    obtain ⟨j, rfl, hj, ho, hb⟩ := hrel
    have LE := Lib.hid (filter_take_le L (fun n => !decide (n.1 = t)) j)
    obtain ⟨A, c, hbk, hsb, -⟩ := (HR.out.gw hb).ex
    have c2 : wr.cell? ⟨b, 1, none⟩ = some (.slice A L.length c) := cell_of_row _ _ 1 _ _ _ hbk
    have fz : wr.frozen? ⟨b, 1, none⟩ = false := frozen_of_row _ _ _ _ _ hbk
    have HBK := Lib.hid hbk
    have HO := Lib.hid ho
    have HB := Lib.hid hb
    by_cases hlt : j < L.length
    · obtain ⟨p, hp⟩ : ∃ p, L[j]? = some p := ⟨_, List.getElem?_eq_getElem hlt⟩
      have HT := filter_take (f := fun n => !decide (n.1 = t)) hp
      obtain ⟨g, o, rfl, c0, c1, c3, c4, c5⟩ := hsb.note hp
      obtain ⟨pt, px⟩ := p
      dsimp only at c0 c1 c3 c4 c5 HT
      have i1 : (j : Int) < (L.length : Int) := by omega
      have l1 : (j : Int) ≤ 4000000 := by have := HN.out; omega
      have HLT := Lib.hid hlt
      clear hp hj hlt ho hb hsb hbk
      by_cases hpt : pt = t
      · subst hpt
        rw [if_neg (by simp), List.append_nil] at HT
        have HT := Lib.hid HT
        go_wp2
        go_roundw
        case rel => exact ⟨j + 1, by go_num, HLT.out, by unfold dropP; rw [HT.out]; exact HO.out, HB.out⟩
        case measure => have := HLT.out; simp [intOf]; omega
      · have hpt' : (pt == t) = false := by simpa using hpt
        rw [if_pos (by simp [hpt])] at HT
        have HT := Lib.hid HT
        go_wp2_with (at_builtin; go_loud (refine so_append seT_ok (by rfl) (.tmp 28) (.tmp 36) (by rfl) _ (by rfl) (HO.out.alloc _) (some ⟨wr.heap.size, 0, none⟩) 1 1 (cellsT [(pt, px)]) (by rfl) (sb_note wr (pt, px)) (by have := LE.out; have := HN.out; unfold dropP; omega) (by have := HB.out.size; simp; omega) ?_; intro v3 w6 o6 b6; have O6 := Lib.hid o6; have B6 := Lib.hid ((HB.out.alloc HB.out.size _).trans b6); clear o6 b6))
        go_roundw
        case rel => exact ⟨j + 1, by go_num, HLT.out, by unfold dropP; rw [HT.out]; exact O6.out.base (Nat.le_refl _) (by rw [cellsT_app]; rfl) (by simp [dropP]), B6.out⟩
        case measure => have := HLT.out; simp [intOf]; omega
    · obtain rfl : j = L.length := by omega
      have i1 : ¬ (L.length : Int) < (L.length : Int) := by omega
      rw [List.take_length] at ho
      have HO := Lib.hid ho
      obtain ⟨A2, d2, rfl, -⟩ := ho.form
      clear ho hb hsb hbk hlt hj
      go_wp2
      go_ret
      have hset := RN.set HBK.out HO.out HR.out.lt HF.out
      exact ⟨rfl, hset.1, (Out.of_below HB.out _).then hset.2⟩
end Go.Proofs.YtknppiebncdjmaaGreat
