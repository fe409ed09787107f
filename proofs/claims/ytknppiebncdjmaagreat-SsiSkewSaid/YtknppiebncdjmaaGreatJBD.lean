import Derived.Test.YtknppiebncdjmaaGreatJBB
import Derived.Test.YtknppiebncdjmaaGreatJAV
import Derived.Test.YtknppiebncdjmaaGreatJBC
import Derived.Test.YtknppiebncdjmaaGreatJAN
set_option linter.unusedVariables false
namespace Go.Proofs.YtknppiebncdjmaaGreat
set_option maxRecDepth 100000
open Go.RowKit

def pairCells (p : Int × ByteArray) : Obj := .cells #[.int .i64 p.1, .string p.2] 171
structure FullO (w0 : World) (mb it rb fb : Nat) (X : List Tx9) (wz : World) (left : List (Int × Value)) (p : Int × ByteArray) (n : Nat) : Prop where
  bel : Below w0.heap.size w0 wz
  rng : RangeM KI wz mb it (topX X) left
  res : wz.heap[rb]? = some (pairCells (0, ⟨#[]⟩))
  ful : wz.heap[fb]? = some (pairCells p)
  bst : Bst (VisO X left) p n
  cap : n ≤ 100000
structure FullI (w0 : World) (mb it rb fb : Nat) (X : List Tx9) (t : Int) (b it2 : Nat) (T : List Tb9) (wz : World) (left : List (Int × Value)) (m0 : Nat) (leftT : List (ByteArray × Value)) (p : Int × ByteArray) (n : Nat) : Prop where
  bel : Below w0.heap.size w0 wz
  rng : RangeM KI wz mb it (topX X) left
  ml : wz.rangeLeft mb it < m0
  rngT : RangeM KS wz b it2 (tabT T) leftT
  it2 : it < it2 ∧ rb < it2 ∧ fb < it2
  res : wz.heap[rb]? = some (pairCells (0, ⟨#[]⟩))
  ful : wz.heap[fb]? = some (pairCells p)
  bst : Bst (VisI X left t T leftT) p n
  cap : n ≤ 100000
theorem pc_cells {w : World} {b : Nat} {p : Int × ByteArray} (h : w.heap[b]? = some (pairCells p)) : w.cell? ⟨b, 0, none⟩ = some (.int .i64 p.1) ∧ w.cell? ⟨b, 1, none⟩ = some (.string p.2) ∧ w.frozen? ⟨b, 0, none⟩ = false ∧ w.frozen? ⟨b, 1, none⟩ = false :=
  ⟨cell_of_row _ _ 0 _ _ _ h, cell_of_row _ _ 1 _ _ _ h, frozen_of_row _ _ _ _ _ h, frozen_of_row _ _ _ _ _ h⟩
theorem pc_set {w : World} {b : Nat} {p : Int × ByteArray} (h : w.heap[b]? = some (pairCells p)) (q : Int × ByteArray) : ((w.setCell ⟨b, 0, none⟩ (.int .i64 q.1)).setCell ⟨b, 1, none⟩ (.string q.2)).heap[b]? = some (pairCells q) := by
  have h1 := heap_setCell_same w b 0 _ _ (.int .i64 q.1) h
  have h2 := heap_setCell_same (w.setCell ⟨b, 0, none⟩ (.int .i64 q.1)) b 1 _ _ (.string q.2) h1
  exact h2
theorem FullI.next {w0 : World} {mb it rb fb : Nat} {X : List Tx9} {t : Int} {b it2 : Nat} {T : List Tb9} {wy wn V : World} {left : List (Int × Value)} {m0 : Nat} {leftT leftT' : List (ByteArray × Value)} {p p' : Int × ByteArray} {n n' : Nat}
    (I : FullI w0 mb it rb fb X t b it2 T wy left m0 leftT p n) (hr : RangeM KS wn b it2 (tabT T) leftT') (hg : wy.grownBy wn (some it2)) (o : Out (fun k => k = fb) wn V) (hf : V.heap[fb]? = some (pairCells p')) (hb : Bst (VisI X left t T leftT') p' n') (hc : n' ≤ 100000)
    (h1 : mb < w0.heap.size ∧ b < w0.heap.size ∧ w0.heap.size ≤ rb ∧ rb < fb ∧ fb < it) :
    FullI w0 mb it rb fb X t b it2 T V left m0 leftT' p' n' := by
  have hbel := I.bel.size
  have hit := RangeM.it_lt I.rng
  have k1 : ∀ k, k < wy.heap.size → k ≠ it2 → k ≠ fb → V.heap[k]? = wy.heap[k]? := fun k hk a1 a2 => (o.block k (Nat.lt_of_lt_of_le hk hg.size) a2).trans (hg.block k hk (fun e => a1 (Option.some.inj e)))
  have k2 : ∀ k, k < wn.heap.size → k ≠ fb → V.heap[k]? = wn.heap[k]? := fun k hk a2 => o.block k hk a2
  have hi2 := I.it2
  have hm := k1 mb (by omega) (by omega) (by omega)
  have hi := k1 it hit (by omega) (by omega)
  refine ⟨(I.bel.trans (grown_below hg hbel (by omega))).trans (o.below (Nat.le_trans hbel hg.size) fun i hi e => by omega), I.rng.kept hm hi, by rw [left_kept hm hi]; exact I.ml, hr.kept (k2 b hr.map.lt (by omega)) (k2 it2 (RangeM.it_lt hr) (by omega)), hi2, (k1 rb (by omega) (by omega) (by omega)).trans I.res, hf, hb, hc⟩
def FullSays (X : List Tx9) (p : Int × ByteArray) (b : Bool) : Prop := ∃ n, b = decide (1 < n) ∧ Bst (AllP X) p n
def FullRes (X : List Tx9) (w : World) (e : Ending) (w' : World) : Prop := ∃ p b, e = .returned (.tuple #[.agg #[.int .i64 p.1, .string p.2], .bool b]) ∧ FullSays X p b ∧ Below w.heap.size w w'
set_option maxHeartbeats 16000000 in
theorem wpFullest {w : World} {r mb most : Nat} {cnt : Int} {X : List Tx9} (h : Mem9 NoE w r mb most cnt X) (hc : ∀ e ∈ X, ∀ q ∈ e.2.2, q.2.2.length ≤ 100000) :
    Calls Tryz.prog 100 #[.pointer (some ⟨r, 0, none⟩)] w (FullRes X w) := by
  have hR : RBlk w r mb most cnt := h.blk
  obtain ⟨W, hW⟩ : ∃ W, (w.alloc (.cells #[.int .i64 0, .string ⟨#[]⟩] 171)).alloc (.cells #[.int .i64 0, .string ⟨#[]⟩] 171) = W := ⟨_, rfl⟩
  have HW := Lib.hid hW
  obtain ⟨fb, hfb⟩ : ∃ fb, w.heap.size + 1 = fb := ⟨_, rfl⟩
  obtain ⟨it, hit⟩ : ∃ it, W.heap.size = it := ⟨_, rfl⟩
  have hWs : W.heap.size = w.heap.size + 2 := by rw [← hW]; simp
  have b1 : Below w.heap.size w (w.alloc (.cells #[.int .i64 0, .string ⟨#[]⟩] 171)) := below_alloc9 _ _
  have hB : Below w.heap.size w W := by rw [← hW]; exact b1.alloc b1.size _
  have q1 : W.heap[w.heap.size]? = some (pairCells (0, ⟨#[]⟩)) := by rw [← hW, Below.heap_alloc _ _ _ (by simp)]; exact heap_alloc_new _ _
  have q2 : W.heap[fb]? = some (pairCells (0, ⟨#[]⟩)) := by rw [← hW, ← hfb, show w.heap.size + 1 = (w.alloc (.cells #[.int .i64 0, .string ⟨#[]⟩] 171)).heap.size by simp]; exact heap_alloc_new _ _
  have hRW := hR.block (hB.block r hR.lt)
  have r2 := hRW.cells.2.2.1
  have hM := Lib.hid h
  have HWM := Lib.hid (h.gw hB)
  have HB := Lib.hid hB
  have HQ := Lib.hid (And.intro q1 q2)
  have HL := Lib.hid (And.intro hfb (And.intro hit hWs))
  have HC := Lib.hid hc
  have HN := Lib.hid (And.intro h.once (fun e he => h.onceT (e := e) he))
  clear h hW hfb hit hWs b1 hB q1 q2 hR hRW hc
  go_enter Tryz.func100, Tryz.ntmps100
  go_upto_region 3 with fail
  rw [HW.out, HL.out.1]
  go_upto_region 4 with (at_range; go_loud (refine wp_rangeM KI (by rfl) (.tmp 14) (by rfl) (by rfl) HWM.out.top Tryz.underlying153 ?_; intro w1 g1 b1 s1; have G1 := Lib.hid g1; have B1 := Lib.hid b1; clear g1 b1 s1))
  rw [HL.out.2.1]
  have BW1 := Lib.hid (show Below w.heap.size w w1 from below_next HB.out ⟨B1.out.os, B1.out.tape, B1.out.output, B1.out.size, fun k hk => B1.out.block k hk (by simp)⟩)
  have hk1 : ∀ k, k < it → w1.heap[k]? = W.heap[k]? := fun k hk => B1.out.block k (by rw [HL.out.2.1]; exact hk) (by simp)
  have HQ1 := Lib.hid (And.intro ((hk1 w.heap.size (by have := HL.out; omega)).trans HQ.out.1) ((hk1 fb (by have := HL.out; omega)).trans HQ.out.2))
  have G1b := Lib.hid (show RangeM KI w1 mb it (topX X) (topX X) by have := G1.out; rw [HL.out.2.1] at this; exact this)
  clear hk1 r2
  try go_frame
  go_loopw [5] (fun a5 wz => ∃ (n : Nat) (p : Int × ByteArray) (left : List (Int × Value)), a5 = .int .i64 (n : Nat) ∧ FullO w mb it w.heap.size fb X wz left p n) (fun _ wz => wz.rangeLeft mb it)
  case atStart => exact ⟨0, (0, ⟨#[]⟩), topX X, rfl, BW1.out, G1b.out, HQ1.out.1, HQ1.out.2, .inl ⟨rfl, visO_start X⟩, Nat.zero_le _⟩
  case round =>
    rename World => wz
    obtain ⟨n, p, left, rfl, o⟩ := hrel
    have O := Lib.hid o
    clear o
    go_upto_region 6 with (at_next; go_loud (refine wp_nextI (by rfl) (.tmp 15) (by rfl) it left (by rfl) O.out.rng ?_ ?_))
    · intro hnil
      subst hnil
      have HS := Lib.hid (show FullSays X p (decide (1 < n)) from ⟨n, rfl, O.out.bst.congr fun q m => (visO_end X q m).symm⟩)
      obtain ⟨f0, f1, -, -⟩ := pc_cells O.out.ful
      obtain ⟨z0, z1, zf0, zf1⟩ := pc_cells O.out.res
      obtain ⟨V, hV⟩ : ∃ V, (wz.setCell ⟨w.heap.size, 0, none⟩ (.int .i64 p.1)).setCell ⟨w.heap.size, 1, none⟩ (.string p.2) = V := ⟨_, rfl⟩
      have HV := Lib.hid hV
      have hq := pc_set O.out.res p
      rw [hV] at hq
      obtain ⟨v0, v1, -, -⟩ := pc_cells hq
      have BV := Lib.hid (show Below w.heap.size w V by rw [← hV]; exact (O.out.bel.setCell (Nat.le_refl _) _).setCell (Nat.le_refl _) _)
      clear hV hq
      obtain ⟨b, hd⟩ : ∃ b, decide (1 < n) = b := ⟨_, rfl⟩
      have hd2 : decide ((1 : Int) < (n : Int)) = b := by rw [← hd]; congr 1; simp; omega
      rw [hd] at HS
      go_upto_region 12 with fail
      go_wp2
      rw [HV.out]
      refine bodyPost_ret (v := .tuple #[.agg #[.int .i64 p.1, .string p.2], .bool b]) (by simp [results, Tryz.results100, go_sem, v0, v1]) rfl ⟨p, b, rfl, HS.out, BV.out⟩
    · intro t v wn hin hok hr2 hg2 hsz hlt hen
      obtain ⟨⟨t', b, T⟩, he, e1⟩ := List.mem_map.1 (O.out.rng.sub _ hin)
      simp only [Prod.mk.injEq] at e1
      obtain ⟨rfl, rfl⟩ := e1
      have hitw : w.heap.size < it ∧ fb < it := by have := HL.out; omega
      have hbn : Below w.heap.size w wn := O.out.bel.trans (grown_below hg2 O.out.bel.size (by omega))
      have hkn : ∀ k, k < wz.heap.size → k ≠ it → wn.heap[k]? = wz.heap[k]? := fun k hk hne => hg2.block k hk (fun e => hne (Option.some.inj e))
      have hlw : w.heap.size < wz.heap.size ∧ fb < wz.heap.size := ⟨(Array.getElem?_eq_some_iff.1 O.out.res).1, (Array.getElem?_eq_some_iff.1 O.out.ful).1⟩
      have hTn := (hM.out.tab _ he).block (hbn.block b (hM.out.tab _ he).lt)
      have HTn := Lib.hid hTn
      have HRN := Lib.hid (And.intro ((hkn _ hlw.1 (by omega)).trans O.out.res) ((hkn _ hlw.2 (by omega)).trans O.out.ful))
      have HI2 := Lib.hid (And.intro hr2 (And.intro hlt hitw))
      have HBN := Lib.hid hbn
      have HIN := Lib.hid hin
      have HE := Lib.hid he
      clear hin hok hr2 hg2 hsz hlt hbn hkn hlw hTn hitw
      go_upto_region 7 with (at_range; go_loud (refine wp_rangeM KS (by rfl) (.tmp 21) (by rfl) (by rfl) HTn.out Tryz.underlying160 ?_; intro w2 g2 b2 s2; have G2 := Lib.hid g2; have B2 := Lib.hid b2; clear g2 b2 s2))
      obtain ⟨it2, hi2⟩ : ∃ it2, wn.heap.size = it2 := ⟨_, rfl⟩
      have G2b := Lib.hid (show RangeM KS w2 b it2 (tabT T) (tabT T) by rw [← hi2]; exact G2.out)
      rw [hi2]
      have hk2 : ∀ k, k < wn.heap.size → w2.heap[k]? = wn.heap[k]? := fun k hk => B2.out.block k hk (by simp)
      have hmbn : mb < wn.heap.size := HI2.out.1.map.lt
      have hitn : it < wn.heap.size := RangeM.it_lt HI2.out.1
      have hrs : w.heap.size < wn.heap.size ∧ fb < wn.heap.size := ⟨(Array.getElem?_eq_some_iff.1 HRN.out.1).1, (Array.getElem?_eq_some_iff.1 HRN.out.2).1⟩
      have START := Lib.hid (show FullI w mb it w.heap.size fb X t' b it2 T w2 (delM left t') (wz.rangeLeft mb it) (tabT T) p n from
        ⟨HBN.out.trans (grown_none B2.out HBN.out.size), HI2.out.1.kept (hk2 mb hmbn) (hk2 it hitn), by rw [left_kept (hk2 mb hmbn) (hk2 it hitn)]; exact HI2.out.2.1, G2b.out, by omega, (hk2 _ hrs.1).trans HRN.out.1, (hk2 _ hrs.2).trans HRN.out.2, O.out.bst.congr fun q m => visI_start HN.out.1 HE.out HIN.out q m, O.out.cap⟩)
      clear hk2 hmbn hitn hrs hi2 hen
      try go_frame
      go_loopw [5] (fun a5 wy => ∃ (n : Nat) (p : Int × ByteArray) (leftT : List (ByteArray × Value)), a5 = .int .i64 (n : Nat) ∧ FullI w mb it w.heap.size fb X t' b it2 T wy (delM left t') (wz.rangeLeft mb it) leftT p n) (fun _ wy => wy.rangeLeft b it2)
      case atStart => exact ⟨n, p, tabT T, rfl, START.out⟩
      case round =>
        rename World => wy
        obtain ⟨n, p, leftT, rfl, o⟩ := hrel
        have I := Lib.hid o
        clear o
        go_upto_region 8 with (at_next; go_loud (refine wp_nextS (by rfl) (.tmp 22) (by rfl) it2 leftT (by rfl) I.out.rngT ?_ ?_))
        · intro hnil
          subst hnil
          go_wp2
          go_roundw
          case rel => exact ⟨n, p, delM left t', rfl, I.out.bel, I.out.rng, I.out.res, I.out.ful, I.out.bst.congr fun q m => visI_end HN.out.1 O.out.rng.once HE.out q m, I.out.cap⟩
          case measure => exact I.out.ml
        · intro tb u wn2 hin hok hr2 hg2 hsz hlt hen
          obtain ⟨q, hq, e2⟩ := List.mem_map.1 (I.out.rngT.sub _ hin)
          simp only [Prod.mk.injEq] at e2
          obtain ⟨rfl, rfl⟩ := e2
          obtain ⟨g, c, hv⟩ := (hM.out.ok _ HE.out q hq).hdr
          have hm0 : 0 < q.2.2.length := List.length_pos_iff.2 (hM.out.ok _ HE.out q hq).ne
          have hmc := HC.out _ HE.out q hq
          have hvis := fun p2 n2 => visI_step (X := X) (left := delM left t') (t := t') (HN.out.2 _ HE.out) hq hin p2 n2
          obtain ⟨m, hm⟩ : ∃ m, q.2.2.length = m := ⟨_, rfl⟩
          simp only [hm] at hv hm0 hmc hvis
          rw [hv] at hen ⊢
          have hcap := I.out.cap
          have hlts : mb < w.heap.size ∧ b < w.heap.size ∧ w.heap.size ≤ w.heap.size ∧ w.heap.size < fb ∧ fb < it := ⟨hM.out.top.lt, (hM.out.tab _ HE.out).lt, Nat.le_refl _, by have := HL.out; omega, by have := HL.out; omega⟩
          have hfl := (Array.getElem?_eq_some_iff.1 I.out.ful).1
          have hi2 := I.out.it2
          have hfn : wn2.heap[fb]? = some (pairCells p) := (hg2.block fb hfl (fun e => by have := Option.some.inj e; omega)).trans I.out.ful
          obtain ⟨W2, hW2⟩ : ∃ W2, wn2.alloc (.cells #[.int .i64 t', .string q.1] 171) = W2 := ⟨_, rfl⟩
          have HW2 := Lib.hid hW2
          have bW2 : Below wn2.heap.size wn2 W2 := by rw [← hW2]; exact below_alloc9 _ _
          have hx : W2.heap[wn2.heap.size]? = some (pairCells (t', q.1)) := by rw [← hW2]; exact heap_alloc_new _ _
          have hf2 : W2.heap[fb]? = some (pairCells p) := (bW2.block fb (Nat.lt_of_lt_of_le hfl hg2.size)).trans hfn
          obtain ⟨x0, x1, -, -⟩ := pc_cells hx
          obtain ⟨f0, f1, ff0, ff1⟩ := pc_cells hf2
          have CP := Lib.hid (fun W => wpComparePairs (t', q.1) p W)
          have NX := Lib.hid (fun (V : World) (p' : Int × ByteArray) (n' : Nat) (o : Out (fun k => k = fb) wn2 V) (hf : V.heap[fb]? = some (pairCells p')) (hb : Bst (VisI X (delM left t') t' T (delM leftT q.1)) p' n') (hc : n' ≤ 100000) => I.out.next hr2 hg2 o hf hb hc hlts)
          have ML := Lib.hid (fun (V : World) (o : Out (fun k => k = fb) wn2 V) => (show V.rangeLeft b it2 < wy.rangeLeft b it2 by
            rw [left_kept (o.block b hr2.map.lt (by show b ≠ fb; omega)) (o.block it2 (RangeM.it_lt hr2) (by show it2 ≠ fb; omega))]; exact hlt))
          have BW := Lib.hid bW2
          have HF := Lib.hid hf2
          have HV := Lib.hid hvis
          have HM := Lib.hid (And.intro hm0 (And.intro hmc hcap))
          have HBS := Lib.hid I.out.bst
          clear hin hok hr2 hg2 hsz hlt hq hv hm0 hmc hvis hm hcap hfl hi2 hfn hW2 bW2 hx hf2
          by_cases h1 : n < m
          · have i1 : (n : Int) < (m : Int) := by omega
            have OV := Lib.hid (show Out (fun k => k = fb) wn2 ((W2.setCell ⟨fb, 0, none⟩ (.int .i64 t')).setCell ⟨fb, 1, none⟩ (.string q.1)) by refine Out.setCell (Out.setCell (Out.of_below BW.out _) (.inl ?_) _) (.inl ?_) _ <;> rfl)
            have FV := Lib.hid (pc_set HF.out (t', q.1))
            go_upto_region 10 with fail
            rw [HW2.out]
            go_upto_region 11 with fail
            go_wp2
            exact ⟨⟨m, (t', q.1), delM leftT q.1, rfl, NX.out _ _ _ OV.out FV.out (HBS.out.take HM.out.1 HV.out (.inl h1)) HM.out.2.1⟩, ML.out _ OV.out⟩
          · have i1 : ¬ (n : Int) < (m : Int) := by omega
            have i1b : decide (n < m) = false := by simpa using h1
            by_cases h2 : m = n
            · subst h2
              obtain ⟨z, hz⟩ : ∃ z, cmpPr (t', q.1) p = z := ⟨_, rfl⟩
              rw [hz] at CP
              have hlt := cmpPr_lt (t', q.1) p
              rw [hz] at hlt
              cases hpl : pairLt (t', q.1) p
              · rw [hpl] at hlt
                have i2 : ¬ z < 0 := by simpa using hlt
                have HPL := Lib.hid hpl
                clear hz hlt hpl i1b
                go_upto_region 10 with fail
                rw [HW2.out]
                go_wp2_with (go_at_call 144; go_loud (refine (CP.out _).mono ?_; rintro e w5 ⟨rfl, g5⟩; have G5 := Lib.hid g5.below; clear g5))
                exact ⟨⟨m, p, delM leftT q.1, rfl, NX.out _ _ _ (Out.of_below (below_next BW.out G5.out) _) ((G5.out.block fb (Array.getElem?_eq_some_iff.1 HF.out).1).trans HF.out) (HBS.out.leave HM.out.1 HV.out ⟨h1, fun _ => HPL.out⟩) HM.out.2.2⟩, ML.out _ (Out.of_below (below_next BW.out G5.out) _)⟩
              · rw [hpl] at hlt
                have i2 : z < 0 := by simpa using hlt
                have HPL := Lib.hid hpl
                clear hz hlt hpl i1b
                go_upto_region 10 with fail
                rw [HW2.out]
                go_upto_region 11 with (go_at_call 144; go_loud (refine (CP.out _).mono ?_; rintro e w5 ⟨rfl, g5⟩; have G5 := Lib.hid g5.below; replace x0 := keep_below x0 g5.below; replace x1 := keep_below x1 g5.below; replace f0 := keep_below f0 g5.below; replace f1 := keep_below f1 g5.below; clear g5))
                have hf5 := (G5.out.block fb (Array.getElem?_eq_some_iff.1 HF.out).1).trans HF.out
                obtain ⟨-, -, ff0, ff1⟩ := pc_cells hf5
                have OV := Lib.hid (show Out (fun k => k = fb) wn2 ((w5.setCell ⟨fb, 0, none⟩ (.int .i64 t')).setCell ⟨fb, 1, none⟩ (.string q.1)) by refine Out.setCell (Out.setCell (Out.of_below (below_next BW.out G5.out) _) (.inl ?_) _) (.inl ?_) _ <;> rfl)
                have FV := Lib.hid (pc_set hf5 (t', q.1))
                clear hf5
                go_wp2
                exact ⟨⟨m, (t', q.1), delM leftT q.1, rfl, NX.out _ _ _ OV.out FV.out (HBS.out.take HM.out.1 HV.out (.inr ⟨rfl, HPL.out⟩)) HM.out.2.1⟩, ML.out _ OV.out⟩
            · have i2 : ¬ (m : Int) = (n : Int) := by omega
              go_upto_region 10 with fail
              rw [HW2.out]
              go_wp2
              exact ⟨⟨n, p, delM leftT q.1, rfl, NX.out _ _ _ (Out.of_below BW.out _) HF.out (HBS.out.leave HM.out.1 HV.out ⟨h1, fun e => absurd e h2⟩) HM.out.2.2⟩, ML.out _ (Out.of_below BW.out _)⟩
end Go.Proofs.YtknppiebncdjmaaGreat

namespace Go.Proofs.YtknppiebncdjmaaGreat
set_option maxRecDepth 100000
open Go.RowKit

section
variable {w w' : World} {r mb most : Nat} {cnt : Int} {X Y : List Tx9} {t : Int} {b : Nat} {tb : ByteArray}
structure Slot (w : World) (r mb : Nat) (X : List Tx9) (t : Int) (tb : ByteArray) (o : Option Nat) (sv : Value) (ls : List (Nat × Rd)) : Prop where
  top : getM (topX X) t = o.map fun b => .map (some b)
  tab : ∀ b, o = some b → ∃ hs, MapM KS w b hs ∧ (getM hs tb).getD (.slice none 0 0) = sv
  non : o = none → sv = .slice none 0 0
  nl : NL w sv ls
  ord : OrdL tb (ls.map (·.2))
  sz : ∀ z ∈ ls, z.2.lo.size ≤ 140737488355328
  len : ls.length ≤ (flatX X).length
  flat : (flatX X).Perm ((flatX X).filter (notP t tb) ++ ls.map fun z => (t, z.2))
  own : ∀ e ∈ X, ∀ q ∈ e.2.2, ¬ (e.1 = t ∧ q.1 = tb) → ∀ g, sv.ownBlock = some g → q.2.1.ownBlock ≠ some g
  blk : ∀ k, sv.ownBlock = some k → BlX r mb X k
  rbl : ∀ z ∈ ls, BlX r mb X z.1
theorem slot9 (h : Mem9 NoE w r mb most cnt X) (t : Int) (tb : ByteArray) : ∃ o sv ls, Slot w r mb X t tb o sv ls := by
  obtain ⟨a⟩ := at9 h.once (fun e he => h.onceT he) t tb
  rcases a with hY | ⟨b, T, Y, hX, hY, hS⟩ | ⟨b, v0, ls0, S, T, Y, hX, hY, hT, hS⟩
  · refine ⟨none, _, [], getM_topN hY, by simp, fun _ => rfl, NL.nil w, OrdL.nil tb, by simp, by simp, ?_, by simp [Value.ownBlock], by simp [Value.ownBlock], by simp⟩
    rw [filter_other hY]
    simp
  · have h2 := h.perm hX
    have hmem := List.mem_cons_self (a := (t, b, T)) (l := Y)
    have hmemX := hX.mem_iff.2 hmem
    refine ⟨some b, _, [], getM_top h.top.once hmemX, fun b' e => ?_, by simp, NL.nil w, OrdL.nil tb, by simp, by simp, ?_, by simp [Value.ownBlock], by simp [Value.ownBlock], by simp⟩
    · cases e
      exact ⟨_, h2.tab _ hmem, by rw [getM_tabN hS]; rfl⟩
    · have hf := flatX_perm hX
      have : ((flatX X).filter (notP t tb)).Perm (flatX X) := by
        refine (hf.filter _).trans (List.Perm.trans ?_ hf.symm)
        rw [flat_filter_tb (h2.ok _ hmem) hS hY, flatX_cons]
      simpa using this.symm
  · have h2 := (h.perm hX).permT hT
    have hmem := List.mem_cons_self (a := (t, b, (tb, v0, ls0) :: S)) (l := Y)
    have hmemX := hX.mem_iff.2 (List.mem_cons_self (a := (t, b, T)) (l := Y))
    have hok := h2.ok _ hmem (tb, v0, ls0) (List.mem_cons_self ..)
    have hqT : (tb, v0, ls0) ∈ T := hT.mem_iff.2 (List.mem_cons_self ..)
    have hf : (flatX X).Perm (flatX ((t, b, (tb, v0, ls0) :: S) :: Y)) := (flatX_perm hX).trans (flat_permT hT)
    have hrows := h2.rows
    unfold rowsX at hrows
    rw [List.flatMap_cons] at hrows
    simp only [List.map_cons, List.cons_append, List.nodup_cons] at hrows
    refine ⟨some b, v0, ls0, getM_top h.top.once hmemX, fun b' e => ?_, by simp, h2.lst _ hmem _ (List.mem_cons_self ..) id, hok.ord, hok.sz, ?_, ?_, fun e he q hq hne g hg e2 => ?_, fun k hk => ?_, fun z hz => ?_⟩
    · cases e
      exact ⟨_, h2.tab _ hmem, by rw [getM_tab (h2.tab _ hmem).once (q := (tb, v0, ls0)) (List.mem_cons_self ..)]; rfl⟩
    · have h3 := len_in hmem
      have h4 := len_own (t := t) (T := (tb, v0, ls0) :: S) (List.mem_cons_self ..)
      simp only at h3 h4
      rw [hf.length_eq]
      omega
    · refine hf.trans ?_
      refine List.Perm.trans ?_ ((hf.filter (notP t tb)).symm.append_right _)
      rw [flat_filter_at (h2.ok _ hmem) hS hY, flatX_cons]
      simp only [flatT_cons]
      rw [List.append_assoc]
      exact List.perm_append_comm
    · refine hrows.1 ?_
      rw [hg, ← e2]
      have he2 := hX.mem_iff.1 he
      rcases List.mem_cons.1 he2 with rfl | he2
      · have hq2 := hT.mem_iff.1 hq
        rcases List.mem_cons.1 hq2 with rfl | hq2
        · exact absurd ⟨rfl, rfl⟩ hne
        · exact List.mem_append.2 (.inl (List.mem_map.2 ⟨q, hq2, rfl⟩))
      · exact List.mem_append.2 (.inr (List.mem_flatMap.2 ⟨e, he2, List.mem_map.2 ⟨q, hq, rfl⟩⟩))
    · exact .inr (.inr ⟨_, hmemX, .inr ⟨_, hqT, .inl hk⟩⟩)
    · exact .inr (.inr ⟨_, hmemX, .inr ⟨_, hqT, .inr ⟨z, hz, rfl⟩⟩⟩)
theorem not_cov {n : Nt} {x : Rd} (h : notP t x.tb n = true) : (decide (n.1 = t) && coversP n.2 x) = false ∧ (decide (n.1 = t) && coversP x n.2) = false := by
  unfold notP at h
  by_cases h1 : n.1 = t
  · have h2 : n.2.tb ≠ x.tb := by
      rw [toList_beq8] at h
      simpa [h1] using h
    constructor
    · cases hc : coversP n.2 x with
      | false => simp
      | true => exact absurd (covers_table hc) h2
    · cases hc : coversP x n.2 with
      | false => simp
      | true => exact absurd (covers_table hc).symm h2
  · simp [h1]
theorem slot_any {o : Option Nat} {sv : Value} {ls : List (Nat × Rd)} {x : Rd} (h : Slot w r mb X t x.tb o sv ls) : ((flatX X).any fun n => decide (n.1 = t) && coversP n.2 x) = (ls.map (·.2)).any fun y => coversP y x := by
  rw [any_perm h.flat, List.any_append]
  have : ((flatX X).filter (notP t x.tb)).any (fun n => decide (n.1 = t) && coversP n.2 x) = false := List.any_eq_false.2 fun n hn => by rw [(not_cov (List.mem_filter.1 hn).2).1]; simp
  rw [this, Bool.false_or, List.any_map, List.any_map]
  congr 1
  funext z
  simp
theorem slot_add {o : Option Nat} {sv : Value} {ls : List (Nat × Rd)} {x : Rd} (h : Slot w r mb X t x.tb o sv ls) : (addP (flatX X) t x).Perm ((flatX X).filter (notP t x.tb) ++ ((ls.map (·.2)).filter fun y => !coversP x y).map (fun y => ((t, y) : Nt)) ++ [(t, x)]) := by
  unfold addP
  refine List.Perm.append_right _ ?_
  refine (h.flat.filter _).trans ?_
  rw [List.filter_append]
  have h1 : ((flatX X).filter (notP t x.tb)).filter (fun n => !(decide (n.1 = t) && coversP x n.2)) = (flatX X).filter (notP t x.tb) := List.filter_eq_self.2 fun n hn => by rw [(not_cov (List.mem_filter.1 hn).2).2]; rfl
  rw [h1]
  refine List.Perm.append_left _ ?_
  rw [List.filter_map, List.filter_map, List.map_map]
  refine List.Perm.of_eq ?_
  congr 1
  refine List.filter_congr fun z _ => ?_
  simp
theorem slot_cnt {o : Option Nat} {sv : Value} {ls : List (Nat × Rd)} (h : Slot w r mb X t tb o sv ls) : cntR (flatX X) (t, tb) = ls.length := by
  rw [cnt_perm h.flat]
  unfold cntR cntP
  simp only
  rw [List.filter_append]
  have h1 : ((flatX X).filter (notP t tb)).filter (fun n => decide (n.1 = t) && (n.2.tb.toList == tb.toList)) = [] := List.filter_eq_nil_iff.2 fun n hn => by
    have := (List.mem_filter.1 hn).2
    unfold notP at this
    intro e
    rw [e] at this
    cases this
  rw [h1, List.nil_append, List.filter_eq_self.2 fun n hn => ?_, List.length_map]
  obtain ⟨z, hz, rfl⟩ := List.mem_map.1 hn
  have := (h.ord.may z.2 (List.mem_map.2 ⟨z, hz, rfl⟩)).2
  rw [toList_beq8, this]
  simp
theorem cnt_of (h : Mem9 NoE w r mb most cnt X) {e : Tx9} (he : e ∈ X) {q : Tb9} (hq : q ∈ e.2.2) : cntR (flatX X) (e.1, q.1) = q.2.2.length := by
  obtain ⟨o, sv, ls, hs⟩ := slot9 h e.1 q.1
  rw [slot_cnt hs]
  have h1 := hs.top
  rw [getM_top h.top.once (b := e.2.1) (T := e.2.2) he] at h1
  cases o with
  | none => cases h1
  | some b =>
    have hb : b = e.2.1 := by simp at h1; exact h1.symm
    subst hb
    obtain ⟨g, c, hv⟩ := (h.ok e he q hq).hdr
    -- the same list by its flat form
    have h2 := hs.flat.length_eq
    have h3 := perm_front (·.1) h.once he
    have h4 := perm_front (·.1) (h.onceT he) hq
    have hYt : ∀ f ∈ X.filter (fun x => !decide (x.1 = e.1)), f.1 ≠ e.1 := fun f hf => by simpa using (List.mem_filter.1 hf).2
    have hSt : ∀ f ∈ e.2.2.filter (fun x => !decide (x.1 = q.1)), f.1 ≠ q.1 := fun f hf => by simpa using (List.mem_filter.1 hf).2
    have h5 : (flatX X).Perm (flatX ((e.1, e.2.1, q :: e.2.2.filter fun x => !decide (x.1 = q.1)) :: X.filter fun x => !decide (x.1 = e.1))) := (flatX_perm h3).trans (flat_permT h4)
    have h6 := (h5.filter (notP e.1 q.1)).length_eq
    rw [flat_filter_at (v := q.2.1) (ls := q.2.2) (fun f hf => h.ok e he f (h4.mem_iff.2 hf)) hSt hYt] at h6
    have h7 := h5.length_eq
    rw [flatX_cons] at h7
    simp only [flatT_cons, List.length_append, List.length_map] at h2 h6 h7
    omega
theorem all_is (h : Mem9 NoE w r mb most cnt X) (p : Int × ByteArray) (n : Nat) : AllP X p n ↔ (∃ m ∈ flatX X, prP m = p) ∧ n = cntR (flatX X) p := by
  constructor
  · rintro ⟨e, he, q, hq, rfl, rfl⟩
    obtain ⟨z, hz⟩ := List.exists_mem_of_ne_nil _ (h.ok e he q hq).ne
    refine ⟨⟨(e.1, z.2), mem_flatX.2 ⟨e, he, q, hq, z, hz, rfl⟩, ?_⟩, (cnt_of h he hq).symm⟩
    unfold prP
    rw [tbOk_tb (h.ok e he q hq) z hz]
  · rintro ⟨⟨m, hm, rfl⟩, rfl⟩
    obtain ⟨e, he, q, hq, z, hz, rfl⟩ := mem_flatX.1 hm
    refine ⟨e, he, q, hq, ?_, ?_⟩
    · unfold prP
      rw [tbOk_tb (h.ok e he q hq) z hz]
    · unfold prP
      simp only
      rw [tbOk_tb (h.ok e he q hq) z hz, cnt_of h he hq]
theorem full_is (h : Mem9 NoE w r mb most cnt X) {p : Int × ByteArray} {b : Bool} (hf : FullSays X p b) : coarsestP (flatX X) = if b then some p else none := by
  obtain ⟨n, rfl, hb⟩ := hf
  rcases coarsest_is (flatX X) with ⟨h1, h2⟩ | ⟨p2, h1, h2⟩
  · rw [h1]
    have : ¬ 1 < n := fun hn => by
      rcases hb with ⟨h3, -⟩ | ⟨h3, -⟩
      · omega
      · obtain ⟨⟨m, hm, e⟩, e2⟩ := (all_is h p n).1 h3
        have := h2 m hm
        rw [e] at this
        omega
    simp [this]
  · obtain ⟨m2, hm2, e2⟩ := h2.from_
    have hA2 := (all_is h p2 _).2 ⟨⟨m2, hm2, e2⟩, rfl⟩
    rcases hb with ⟨h3, h4⟩ | ⟨h3, h4⟩
    · exact absurd hA2 (h4 _ _)
    · obtain ⟨⟨m, hm, e⟩, e3⟩ := (all_is h p n).1 h3
      obtain ⟨h5, h6⟩ := h4 _ _ hA2
      have h7 := h2.two
      have h8 : PairIs (flatX X) (flatX X) p := by
        refine ⟨⟨m, hm, e⟩, by omega, fun k hk => ?_, fun k hk hc => ?_⟩
        · have := (h4 (prP k) (cntR (flatX X) (prP k)) ((all_is h _ _).2 ⟨⟨k, hk, rfl⟩, rfl⟩)).1
          omega
        · exact (h4 (prP k) (cntR (flatX X) (prP k)) ((all_is h _ _).2 ⟨⟨k, hk, rfl⟩, rfl⟩)).2 (by omega)
      rw [h1, pair_unique h2 h8]
      simp [show 1 < n by omega]
end
end Go.Proofs.YtknppiebncdjmaaGreat

namespace Go.Proofs.YtknppiebncdjmaaGreat
set_option maxRecDepth 100000
open Go.RowKit

set_option maxHeartbeats 1000000 in
theorem wpMade {w : World} {r mb most : Nat} {cnt : Int} (h : RBlk w r mb most cnt) (h1 : 1 ≤ most) : Calls Tryz.prog 95 #[.pointer (some ⟨r, 0, none⟩)] w fun e w' => e = .returned (.bool true) ∧ w' = w := by
  obtain ⟨c0, c1, c2, -⟩ := h.cells
  have i1 : ¬ ((most : Int) = 0) := by omega
  clear h
  go_enter Tryz.func95, Tryz.ntmps95
  go_wp2
  go_ret
  exact ⟨by simp; omega, rfl⟩
set_option maxHeartbeats 1000000 in
theorem wpAll {w : World} {r mb most : Nat} {cnt : Int} (h : RBlk w r mb most cnt) (h1 : 1 ≤ most) : Calls Tryz.prog 88 #[.pointer (some ⟨r, 0, none⟩)] w fun e w' => e = .returned (.map (some mb)) ∧ w' = w := by
  obtain ⟨c0, c1, c2, -⟩ := h.cells
  have CM := Lib.hid (wpMade h h1)
  clear h
  go_enter Tryz.func88, Tryz.ntmps88
  go_wp2_with (go_at_call 95; go_loud (refine CM.out.mono ?_; rintro e w1 ⟨rfl, hw⟩; replace hw := hw.symm; subst hw))
  go_ret
  exact ⟨rfl, rfl⟩
set_option maxHeartbeats 1000000 in
theorem wpLen {w : World} {r mb most : Nat} {cnt : Int} (h : RBlk w r mb most cnt) (h1 : 1 ≤ most) : Calls Tryz.prog 71 #[.pointer (some ⟨r, 0, none⟩)] w fun e w' => e = .returned (.int .i64 cnt) ∧ w' = w := by
  obtain ⟨c0, c1, c2, -⟩ := h.cells
  have CM := Lib.hid (wpMade h h1)
  clear h
  go_enter Tryz.func71, Tryz.ntmps71
  go_wp2_with (go_at_call 95; go_loud (refine CM.out.mono ?_; rintro e w1 ⟨rfl, hw⟩; replace hw := hw.symm; subst hw))
  go_ret
  exact ⟨rfl, rfl⟩
set_option maxHeartbeats 1000000 in
theorem wpNew_no (w : World) (m : Int) (h : m < 1 ∨ 65536 < m) : Calls Tryz.prog 37 #[.int .i64 m] w fun e w' => e = .returned (.tuple #[.pointer none, .int .i64 1]) ∧ w' = w := by
  by_cases i1 : m < 1
  · clear h
    go_enter Tryz.func37, Tryz.ntmps37
    go_wp2
    refine bodyPost_ret (v := .tuple #[.pointer none, .int .i64 1]) (by simp [results, Tryz.results37, go_sem]) rfl ⟨rfl, rfl⟩
  · have i2 : 65536 < m := by omega
    clear h
    go_enter Tryz.func37, Tryz.ntmps37
    go_wp2
    refine bodyPost_ret (v := .tuple #[.pointer none, .int .i64 1]) (by simp [results, Tryz.results37, go_sem]) rfl ⟨rfl, rfl⟩
set_option maxHeartbeats 1000000 in
theorem wpNew (w : World) (m : Nat) (h1 : 1 ≤ m) (h2 : m ≤ 65536) : Calls Tryz.prog 37 #[.int .i64 (m : Nat)] w fun e w' => e = .returned (.tuple #[.pointer (some ⟨w.heap.size + 1, 0, none⟩), .int .i64 0]) ∧ RBlk w' (w.heap.size + 1) w.heap.size m 0 ∧ MapM KI w' w.heap.size [] ∧ Below w.heap.size w w' := by
  have i1 : ¬ ((m : Int) < 1) := by omega
  have i2 : ¬ (65536 < (m : Int)) := by omega
  have hmm := @run_makeMap Tryz.prog
  obtain ⟨W1, hW1⟩ : ∃ W, w.alloc (.map #[] 0) = W := ⟨_, rfl⟩
  have HW1 := Lib.hid hW1
  have HS := Lib.hid (show W1.heap.size = w.heap.size + 1 by rw [← hW1]; simp)
  have B1 := Lib.hid (show Below w.heap.size w W1 by rw [← hW1]; exact (Below.refl _ _).alloc (Nat.le_refl _) _)
  have M1 := Lib.hid (show MapM KI W1 w.heap.size [] by rw [← hW1]; exact MapM.new KI w)
  clear h1 h2 hW1
  go_enter Tryz.func37, Tryz.ntmps37
  go_wp2
  refine bodyPost_ret (v := .tuple #[.pointer (some ⟨w.heap.size + 1, 0, none⟩), .int .i64 0]) (by simp [results, Tryz.results37, go_sem]) rfl ⟨rfl, ?_, ?_, ?_⟩
  · rw [HW1.out, ← HS.out]; exact heap_alloc_new W1 _
  · rw [HW1.out]; exact M1.out.block (((Below.refl W1.heap.size W1).alloc (Nat.le_refl _) _).block _ M1.out.lt)
  · rw [HW1.out]
    exact B1.out.alloc B1.out.size _
end Go.Proofs.YtknppiebncdjmaaGreat

namespace Go.Proofs.YtknppiebncdjmaaGreat
set_option maxRecDepth 100000
open Go.RowKit

theorem NL.hdr {w : World} {v : Value} {ls : List (Nat × Rd)} (h : NL w v ls) {g : Nat} (hg : v.ownBlock = some g) : ∃ c, v = .slice (some ⟨g, 0, none⟩) ls.length c := by
  rcases h.pv with ⟨rfl, -⟩ | ⟨g', c, cur, rfl, h1, -⟩
  · cases hg
  · cases hg
    exact ⟨c, by rw [List.length_map]⟩
section
variable {w w' : World} {r mb most : Nat} {cnt : Int} {X Y : List Tx9} {t : Int} {b : Nat} {tb : ByteArray}
theorem Mem9.stale (h : Mem9 NoE w r mb most cnt X) {o : Option Nat} {sv : Value} {ls : List (Nat × Rd)} (hs : Slot w r mb X t tb o sv ls) (ot : Out (fun k => sv.ownBlock = some k) w w') : Mem9 (fun a c => a = t ∧ c = tb) w' r mb most cnt X := by
  have hR : RBlk w r mb most cnt := h.blk
  refine ⟨(ot.block r hR.lt (hs.nl.apart_r hR).1).trans h.blk, h.top.block (ot.block mb h.top.lt (hs.nl.apart_m h.top).1), fun e he => (h.tab e he).block (ot.block _ (h.tab e he).lt (hs.nl.apart_m (h.tab e he)).1), h.ne, h.ok, fun e he q hq hne => ?_, h.mbs, h.rows⟩
  have hN := h.lst e he q hq id
  exact hN.kept (fun k hk => ot.block k (hN.pv.lt k hk) fun e2 => hs.own e he q hq hne k e2 hk) fun z hz => ot.block _ (hN.rd z hz).lt (hs.nl.no (hN.rd z hz))
theorem Slot.gw {o : Option Nat} {sv : Value} {ls : List (Nat × Rd)} (hs : Slot w r mb X t tb o sv ls) (hb : Below w.heap.size w w') : Slot w' r mb X t tb o sv ls :=
  ⟨hs.top, fun b e => by obtain ⟨h1, h2, h3⟩ := hs.tab b e; exact ⟨h1, h2.block (hb.block b h2.lt), h3⟩, hs.non, hs.nl.gw hb, hs.ord, hs.sz, hs.len, hs.flat, hs.own, hs.blk, hs.rbl⟩
structure NoteIs (w w' : World) (r mb most : Nat) (X : List Tx9) (M : List Nt) (X' : List Tx9) : Prop where
  mem : Mem9 NoE w' r mb most (flatX X').length X'
  flat : (flatX X').Perm M
  bl : ∀ k, BlX r mb X' k → BlX r mb X k ∨ w.heap.size ≤ k
  out : Out (BlX r mb X) w w'
theorem note_put {w4 w5 : World} (h : Mem9 NoE w4 r mb most (flatX X).length X) (hl : (flatX X).length ≤ 65536) {x : Rd} {o : Option Nat} {sv : Value} {ls : List (Nat × Rd)} (hs : Slot w4 r mb X t x.tb o sv ls) (hm : mayP x = true) (hx : x.lo.size ≤ 140737488355328) (hc : (ls.map (·.2)).any (fun y => coversP y x) = false)
    {v' : Value} (hN : NL w5 v' (withL ls w4.heap.size x)) (hv : ∃ g, v'.ownBlock = some g ∧ (sv.ownBlock = some g ∨ w4.heap.size ≤ g)) (ot : Out (fun k => sv.ownBlock = some k) w4 w5) (ht : (Lit.int .i64 t).wf = true) (ht1 : 1 ≤ t) (htb : x.tb.size ≤ maxLen) :
    Calls Tryz.prog 98 #[.pointer (some ⟨r, 0, none⟩), .agg #[.int .i64 t, .string x.tb], v'] w5 fun e w' => e = .returned (.tuple #[]) ∧ ∃ X', NoteIs w4 w' r mb most X (addP (flatX X) t x) X' := by
  obtain ⟨g, hg, hg2⟩ := hv
  obtain ⟨c, rfl⟩ := hN.hdr hg
  obtain ⟨w1, w2⟩ := with_is hs.ord hm rfl hc
  have hlw : (withL ls w4.heap.size x).length ≤ ls.length + 1 := by
    unfold withL
    have h1 := first_le (ls.map (·.2)) x
    have h2 := last_le (ls.map (·.2)) x
    have h3 : firstN (ls.map (·.2)) x ≤ lastN (ls.map (·.2)) x := Nat.le_add_right _ _
    rw [List.length_map] at h1 h2
    simp only [List.length_append, List.length_take, List.length_drop, List.length_singleton]
    omega
  have hlen := hs.len
  have hmem : ∀ z ∈ withL ls w4.heap.size x, z ∈ ls ∨ z = (w4.heap.size, x) := fun z hz => by
    unfold withL at hz
    simp only [List.mem_append, List.mem_singleton] at hz
    rcases hz with (h1 | h1) | h1
    · exact .inl (List.mem_of_mem_take h1)
    · exact .inr h1
    · exact .inl (List.mem_of_mem_drop h1)
  have hok : TbOk t (x.tb, .slice (some ⟨g, 0, none⟩) (withL ls w4.heap.size x).length c, withL ls w4.heap.size x) := by
    refine ⟨by unfold withL; simp, ?_, fun z hz => ?_, ⟨g, c, rfl⟩⟩
    · rw [withL_rd]; exact w1
    · rcases hmem z hz with h1 | rfl
      · exact hs.sz z h1
      · exact hx
  refine (wpPut9 (h.stale hs ot) (by omega) (fun a c h => h) ht ht1 htb (by omega) hN hok fun e he q hq hne e2 => ?_).mono ?_
  · rcases hg2 with hg2 | hg2
    · exact hs.own e he q hq hne g hg2 e2
    · have := (h.lst e he q hq id).pv.lt g e2
      omega
  rintro e w' ⟨he, X', hp⟩
  refine ⟨he, X', hp.mem, hp.flat.trans ?_, fun k hk => ?_, (ot.mono fun k _ hk => hs.blk k hk).then hp.out⟩
  · refine List.Perm.trans ?_ (slot_add hs).symm
    rw [List.append_assoc]
    refine List.Perm.append_left _ ?_
    have h2 := (w2.map fun y => ((t, y) : Nt))
    rw [← withL_rd ls w4.heap.size x, List.map_map, List.map_append] at h2
    exact h2
  · rcases hp.bl k hk with h1 | h1 | h1 | ⟨z, hz, h1⟩
    · exact .inl h1
    · exact .inr (Nat.le_trans ot.size h1)
    · rcases hg2 with hg2 | hg2
      · exact .inl (hs.blk k (by rw [hg2, h1]))
      · exact .inr (by omega)
    · rcases hmem z hz with h2 | rfl
      · exact .inl (by rw [h1]; exact hs.rbl z h2)
      · exact .inr (by rw [h1]; exact Nat.le_refl _)
theorem note_coarse {w6 : World} (h : Mem9 NoE w6 r mb most (flatX X).length X) (hl : (flatX X).length ≤ 70000) {p : Int × ByteArray} (hp : ∃ m ∈ flatX X, prP m = p) {bx vb : Nat} (hbx : RdAt w6 bx ⟨p.2, 3, ⟨#[]⟩, ⟨#[]⟩⟩) (hvb : w6.heap[vb]? = some (.cells #[ptV bx] 163 (0, 0))) (hfr : ∀ k, BlX r mb X k → k < vb) (hn : ∀ k, BlX r mb X k → k < bx) :
    Calls Tryz.prog 98 #[.pointer (some ⟨r, 0, none⟩), .agg #[.int .i64 p.1, .string p.2], .slice (some ⟨vb, 0, none⟩) 1 1] w6 fun e w' => e = .returned (.tuple #[]) ∧ ∃ X', Mem9 NoE w' r mb most (flatX X').length X' ∧ (flatX X').Perm (coarseP (flatX X) p.1 p.2) ∧ (∀ k, BlX r mb X' k → BlX r mb X k ∨ w6.heap.size ≤ k ∨ k = vb ∨ k = bx) ∧ Out (BlX r mb X) w6 w' := by
  obtain ⟨m, hm, rfl⟩ := hp
  obtain ⟨e, he, q, hq, z, hz, rfl⟩ := mem_flatX.1 hm
  have htb := tbOk_tb (h.ok e he q hq) z hz
  have hw1 : (Lit.int .i64 e.1).wf = true := h.top.ok (e.1, .map (some e.2.1)) (List.mem_map.2 ⟨e, he, rfl⟩)
  have hw2 : q.1.size ≤ maxLen := (h.tab e he).ok (q.1, q.2.1) (List.mem_map.2 ⟨q, hq, rfl⟩)
  have hpr : prP ((e.1, z.2) : Nt) = (e.1, q.1) := by unfold prP; rw [htb]
  rw [hpr] at hbx ⊢
  simp only at hbx ⊢
  have hRw : Rw w6 vb 1 [ptV bx] := Rw.of (cur := [ptV bx]) hvb (by simp [maxLen])
  have hN : NL w6 (.slice (some ⟨vb, 0, none⟩) 1 1) [(bx, ⟨q.1, 3, ⟨#[]⟩, ⟨#[]⟩⟩)] := ⟨.inr ⟨vb, 1, [ptV bx], rfl, hRw, by simp, rfl⟩, fun y hy => by rw [List.mem_singleton.1 hy]; exact hbx⟩
  have hok : TbOk e.1 (q.1, .slice (some ⟨vb, 0, none⟩) 1 1, [(bx, ⟨q.1, 3, ⟨#[]⟩, ⟨#[]⟩⟩)]) := ⟨by simp, OrdL.one (may_table q.1), fun y hy => by rw [List.mem_singleton.1 hy]; exact Nat.zero_le _, ⟨vb, 1, rfl⟩⟩
  refine (wpPut9 (E := NoE) (t := e.1) (tb := q.1) (ls := [(bx, ⟨q.1, 3, ⟨#[]⟩, ⟨#[]⟩⟩)]) h hl (fun a c h => h.elim) hw1 (h.ne e he).2 hw2 (by simp) hN hok fun e2 he2 q2 hq2 hne e3 => ?_).mono ?_
  · have := hfr vb (.inr (.inr ⟨e2, he2, .inr ⟨q2, hq2, .inl e3⟩⟩))
    omega
  rintro ee w' ⟨he3, X', hp⟩
  refine ⟨he3, X', hp.mem, hp.flat, fun k hk => ?_, hp.out⟩
  rcases hp.bl k hk with h1 | h1 | h1 | ⟨y, hy, h1⟩
  · exact .inl h1
  · exact .inr (.inl h1)
  · exact .inr (.inr (.inl h1))
  · rw [List.mem_singleton.1 hy] at h1
    exact .inr (.inr (.inr h1))
end
end Go.Proofs.YtknppiebncdjmaaGreat

namespace Go.Proofs.YtknppiebncdjmaaGreat
set_option maxRecDepth 100000
open Go.RowKit

section
variable {w w' : World} {r mb most : Nat} {cnt : Int} {X Y : List Tx9} {t : Int} {b : Nat} {tb : ByteArray}
theorem note_undo {w6 : World} (h : Mem9 NoE w6 r mb most (flatX X).length X) (hl : (flatX X).length ≤ 70000) {L : List Nt} {x : Rd} (hf : (flatX X).Perm (addP L t x)) (hgt : L.length < (flatX X).length) (hc : coarsestP (flatX X) = none) :
    Calls Tryz.prog 101 #[.pointer (some ⟨r, 0, none⟩), .agg #[.int .i64 t, .string x.tb]] w6 fun e w' => e = .returned (.tuple #[]) ∧ ∃ X', Mem9 NoE w' r mb most (flatX X').length X' ∧ (flatX X').Perm L ∧ (∀ k, BlX r mb X' k → BlX r mb X k) ∧ Out (BlX r mb X) w6 w' := by
  have hmem : (t, x) ∈ flatX X := hf.mem_iff.2 (by unfold addP; simp)
  have hcn : ∀ m ∈ flatX X, cntR (flatX X) (prP m) < 2 := by
    rcases coarsest_is (flatX X) with ⟨-, h2⟩ | ⟨p, h1, -⟩
    · exact h2
    · rw [hc] at h1; cases h1
  have h1 := hcn _ hmem
  rw [cnt_perm hf] at h1
  have hsub : (L.filter fun n => !(decide (n.1 = t) && coversP x n.2)).Sublist L := List.filter_sublist
  have hle := hsub.length_le
  have hlen := hf.length_eq
  unfold addP at hlen h1
  rw [List.length_append, List.length_singleton] at hlen
  have hfull : (L.filter fun n => !(decide (n.1 = t) && coversP x n.2)) = L := hsub.eq_of_length (by omega)
  rw [hfull] at h1
  have hL : ∀ n ∈ L, notP t x.tb n = true := fun n hn => by
    cases hq : notP t x.tb n with
    | true => rfl
    | false =>
      exfalso
      unfold cntR cntP prP at h1
      simp only at h1
      rw [List.filter_append, List.length_append] at h1
      have h2 : 0 < (L.filter fun n => decide (n.1 = t) && (n.2.tb.toList == x.tb.toList)).length := List.length_pos_of_mem (List.mem_filter.2 ⟨hn, by unfold notP at hq; simpa using hq⟩)
      have h3 : ([(t, x)].filter fun n => decide (n.1 = t) && (n.2.tb.toList == x.tb.toList)).length = 1 := by simp
      rw [h3] at h1
      omega
  have hflat : ((flatX X).filter (notP t x.tb)).Perm L := by
    refine (hf.filter _).trans ?_
    unfold addP
    rw [hfull, List.filter_append, List.filter_eq_self.2 hL]
    have : [(t, x)].filter (notP t x.tb) = [] := by unfold notP; simp
    rw [this, List.append_nil]
  obtain ⟨a⟩ := at9 h.once (fun e he => h.onceT he) t x.tb
  obtain ⟨e, he, q, hq, z, hz, e0⟩ := mem_flatX.1 hmem
  have e1 : e.1 = t := (congrArg Prod.fst e0).symm
  have e2 : q.1 = x.tb := by rw [← tbOk_tb (h.ok e he q hq) z hz]; exact (congrArg (fun n : Nt => n.2.tb) e0).symm
  rcases a with hY | ⟨b, T, Y, hX, hY, hS⟩ | ⟨b, v0, ls0, S, T, Y, hX, hY, hT, hS⟩
  · exact absurd e1 (hY e he)
  · exfalso
    rcases List.mem_cons.1 (hX.mem_iff.1 he) with rfl | he2
    · exact hS q hq e2
    · exact hY e he2 e1
  · have hX2 := flatX_perm hX
    have hfp : (flatX X).Perm (flatX ((t, b, (x.tb, v0, ls0) :: S) :: Y)) := hX2.trans (flat_permT hT)
    have hbl : ∀ k, BlX r mb ((t, b, (x.tb, v0, ls0) :: S) :: Y) k ↔ BlX r mb X k := fun k => (bl_permT hT.symm k).trans (bl_perm hX.symm k)
    have hw1 : (Lit.int .i64 t).wf = true := by have := h.top.ok (e.1, .map (some e.2.1)) (List.mem_map.2 ⟨e, he, rfl⟩); rw [← e1]; exact this
    have hw2 : x.tb.size ≤ maxLen := by have := (h.tab e he).ok (q.1, q.2.1) (List.mem_map.2 ⟨q, hq, rfl⟩); rw [← e2]; exact this
    refine (wpTake9 (by rw [← hfp.length_eq]; exact (h.perm hX).permT hT) (by rw [← hfp.length_eq]; exact hl) hw1 hw2 hY hS).mono ?_
    rintro ee w' ⟨he3, ti⟩
    exact ⟨he3, _, ti.mem, ti.flat.trans ((hfp.symm.filter _).trans hflat), fun k hk => (hbl k).1 (ti.bl k hk), ti.out.mono fun k _ hk => (hbl k).1 hk⟩
theorem shrink_two {most : Nat} {L : List Nt} {f : Nat} (h : ¬ L.length ≤ most) (h1 : L.length ≤ most + 1) : shrinkP most (f + 1) L = (coarsestP L).elim none fun p => some (coarseP L p.1 p.2) := by
  unfold shrinkP
  rw [if_neg h]
  rcases coarsest_is L with ⟨e, -⟩ | ⟨p, e, hp⟩
  · rw [e]; rfl
  · rw [e]
    simp only [Option.elim_some]
    have h2 := coarse_len L p.1 p.2
    have h3 := hp.two
    unfold cntR at h3
    have h4 : (coarseP L p.1 p.2).length ≤ most := by omega
    cases f <;> (unfold shrinkP; rw [if_pos h4])
theorem note_says {most : Nat} {L : List Nt} (hm : L.length ≤ most) {x : Rd} (ht : ¬ t < 1) (hx : mayP x = true) (hc : (L.any fun n => decide (n.1 = t) && coversP n.2 x) = false) :
    noteP most L t x = if (addP L t x).length ≤ most then (0, addP L t x) else (coarsestP (addP L t x)).elim (4, L) fun p => (0, coarseP (addP L t x) p.1 p.2) := by
  unfold noteP
  rw [if_neg (by rw [hx]; simp; omega), hc, if_neg (by simp)]
  have hlen : (addP L t x).length ≤ most + 1 := by
    unfold addP
    rw [List.length_append, List.length_singleton]
    have := List.length_filter_le (fun n => !(decide (n.1 = t) && coversP x n.2)) L
    omega
  by_cases h1 : (addP L t x).length ≤ most
  · rw [if_pos h1]
    unfold shrinkP
    rw [if_pos h1]
    rfl
  · rw [if_neg h1, shrink_two h1 hlen]
    cases coarsestP (addP L t x) <;> rfl
end
end Go.Proofs.YtknppiebncdjmaaGreat
