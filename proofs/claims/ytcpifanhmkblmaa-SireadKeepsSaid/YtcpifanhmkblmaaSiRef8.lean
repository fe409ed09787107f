/- Layer 9: the reference's Of. -/
import Derived.Test.YtcpifanhmkblmaaSiRef7
namespace Go.Proofs.Ytcpifanhmkblmaa
set_option maxRecDepth 100000
set_option maxRecDepth 100000
open Go.RowKit

def seR : SEl := ⟨52, 31, .agg #[.string ⟨#[]⟩, .int .i64 0, .string ⟨#[]⟩, .string ⟨#[]⟩], 4, 56⟩
theorem seR_ok : seR.Ok := ⟨by kernel_rfl, by kernel_rfl, by kernel_rfl, by decide, by decide, by decide⟩
def cellsR (ls : List Rd) : List Value := ls.flatMap rdC
theorem cellsR_len (ls : List Rd) : (cellsR ls).length = 4 * ls.length := by
  induction ls with
  | nil => rfl
  | cons p ps ih => simp only [cellsR, List.flatMap_cons, List.length_append, List.length_cons] at ih ⊢; rw [ih]; show 4 + _ = _; omega
theorem cellsR_cons (p : Rd) (ps : List Rd) : cellsR (p :: ps) = Value.string p.tb :: Value.int .i64 p.kd :: Value.string p.lo :: Value.string p.hi :: cellsR ps := by simp [cellsR, rdC]
theorem cellsR_app (a b : List Rd) : cellsR (a ++ b) = cellsR a ++ cellsR b := by simp [cellsR]
theorem cellsR_one (ps : List Rd) : ∀ u ∈ cellsR ps, u.oneCell' = true := by
  intro u hu
  simp only [cellsR, List.mem_flatMap] at hu
  obtain ⟨p, -, hu⟩ := hu
  simp [rdC] at hu
  rcases hu with rfl | rfl | rfl | rfl <;> rfl
theorem cellsR_at : ∀ (ps : List Rd) (j : Nat) (p : Rd), ps[j]? = some p → (cellsR ps)[4 * j]? = some (.string p.tb) ∧ (cellsR ps)[4 * j + 1]? = some (.int .i64 p.kd) ∧ (cellsR ps)[4 * j + 2]? = some (.string p.lo) ∧ (cellsR ps)[4 * j + 3]? = some (.string p.hi)
  | [], _, _, h => by cases h
  | q :: ps, 0, p, h => by cases h; rw [cellsR_cons]; exact ⟨rfl, rfl, rfl, rfl⟩
  | q :: ps, j + 1, p, h => by
    have := cellsR_at ps j p h
    rw [cellsR_cons]
    exact this
theorem cellsR_take : ∀ (ps : List Rd) (i : Nat), cellsR (ps.take i) = (cellsR ps).take (4 * i)
  | [], i => by simp [cellsR]
  | p :: ps, 0 => by simp [cellsR]
  | p :: ps, i + 1 => by
    rw [List.take_succ_cons, cellsR_cons, cellsR_cons, cellsR_take ps i]
    rfl
theorem cellsR_drop : ∀ (ps : List Rd) (i : Nat), cellsR (ps.drop i) = (cellsR ps).drop (4 * i)
  | [], i => by simp [cellsR]
  | p :: ps, 0 => by simp [cellsR]
  | p :: ps, i + 1 => by
    rw [List.drop_succ_cons, cellsR_cons, cellsR_drop ps i]
    rfl
/-- The j-th of a list of notes. -/
theorem SB.rd {w : World} {A : Option Addr} {L : List Rd} (h : SB w A (4 * L.length) (cellsR L)) {j : Nat} {p : Rd} (hp : L[j]? = some p) : ∃ g o, A = some ⟨g, o, none⟩ ∧ w.cell? ⟨g, o + j * 4, none⟩ = some (.string p.tb) ∧ w.cell? ⟨g, o + j * 4 + 1, none⟩ = some (.int .i64 p.kd) ∧ w.cell? ⟨g, o + j * 4 + 2, none⟩ = some (.string p.lo) ∧ w.cell? ⟨g, o + j * 4 + 3, none⟩ = some (.string p.hi) := by
  obtain ⟨a0, a1, a2, a3⟩ := cellsR_at L j p hp
  have hlt := (List.getElem?_eq_some_iff.1 hp).1
  obtain ⟨g, o, e, hc⟩ := h.cell (by omega)
  refine ⟨g, o, e, ?_, ?_, ?_, ?_⟩
  · have := hc _ _ a0; rwa [Nat.mul_comm] at this
  · have := hc _ _ a1; rwa [Nat.mul_comm, ← Nat.add_assoc] at this
  · have := hc _ _ a2; rwa [Nat.mul_comm, ← Nat.add_assoc] at this
  · have := hc _ _ a3; rwa [Nat.mul_comm, ← Nat.add_assoc] at this
theorem sb_rd (X : World) (x : Rd) : SB (X.alloc (.cells #[.string x.tb, .int .i64 x.kd, .string x.lo, .string x.hi] 31)) (some ⟨X.heap.size, 0, none⟩) (seR.s * 1) (cellsR [x]) := by
  refine ⟨rfl, cellsR_one _, fun _ => ⟨X.heap.size, 0, rfl, fun j u hj => ?_⟩⟩
  rw [cell_of_row _ _ _ _ _ _ (heap_alloc_new X (.cells #[.string x.tb, .int .i64 x.kd, .string x.lo, .string x.hi] 31))]
  simpa [cellsR, rdC] using hj
/-- The place of a note in a list. -/
def plR (l : List Rd) (x : Rd) : Nat := (l.takeWhile (aheadP · x)).length
def insR (l : List Rd) (x : Rd) : List Rd := l.take (plR l x) ++ [x] ++ l.drop (plR l x)
/-- A transaction's notes, in the order of the list. -/
def hisR (hs : List Nt) (tx : Int) : List Rd := (hs.filter (fun h => decide (h.1 = tx))).map (·.2)
/-- A transaction's notes, in order. -/
def ofP (hs : List Nt) (tx : Int) : List Rd := (hisR hs tx).foldl insR []
theorem plR_le (l : List Rd) (x : Rd) : plR l x ≤ l.length := (List.takeWhile_prefix _).length_le
theorem plR_below : ∀ (l : List Rd) (x : Rd) (j : Nat) (a : Rd), j < plR l x → l[j]? = some a → aheadP a x = true
  | [], x, j, a, h, _ => by simp [plR] at h
  | b :: l, x, j, a, h, ha => by
    unfold plR at h
    by_cases hb : aheadP b x = true
    · rw [List.takeWhile_cons_of_pos (p := fun y => aheadP y x) hb] at h
      cases j with
      | zero => cases ha; exact hb
      | succ j => exact plR_below l x j a (by simpa [plR] using h) ha
    · rw [List.takeWhile_cons_of_neg (p := fun y => aheadP y x) hb] at h
      simp at h
theorem plR_at : ∀ (l : List Rd) (x a : Rd), l[plR l x]? = some a → aheadP a x = false
  | [], x, a, h => by simp [plR] at h
  | b :: l, x, a, h => by
    unfold plR at h
    by_cases hb : aheadP b x = true
    · rw [List.takeWhile_cons_of_pos (p := fun y => aheadP y x) hb] at h
      exact plR_at l x a (by simpa [plR] using h)
    · rw [List.takeWhile_cons_of_neg (p := fun y => aheadP y x) hb] at h
      simp at h; subst h; simpa using hb
theorem insR_len (l : List Rd) (x : Rd) : (insR l x).length = l.length + 1 := by
  unfold insR
  have := plR_le l x
  simp; omega
theorem hisR_take {hs : List Nt} {tx : Int} {j : Nat} {p : Nt} (hp : hs[j]? = some p) : hisR (hs.take (j + 1)) tx = hisR (hs.take j) tx ++ (if p.1 = tx then [p.2] else []) := by
  unfold hisR
  rw [List.take_add_one, hp, List.filter_append, List.map_append]
  congr 1
  by_cases h : p.1 = tx <;> simp [h]
theorem ofP_take {hs : List Nt} {tx : Int} {j : Nat} {p : Nt} (hp : hs[j]? = some p) : ofP (hs.take (j + 1)) tx = if p.1 = tx then insR (ofP (hs.take j) tx) p.2 else ofP (hs.take j) tx := by
  unfold ofP
  rw [hisR_take hp, List.foldl_append]
  by_cases h : p.1 = tx <;> simp [h]
theorem ofP_len (hs : List Nt) (tx : Int) (j : Nat) : (ofP (hs.take j) tx).length ≤ hs.length := by
  have h0 : ∀ (l out : List Rd), (l.foldl insR out).length = out.length + l.length := by
    intro l
    induction l with
    | nil => intro out; simp
    | cons x l ih => intro out; have h1 := ih (insR out x); have h2 := insR_len out x; simp only [List.foldl_cons, List.length_cons]; omega
  have h1 := h0 (hisR (hs.take j) tx) []
  have h2 := List.length_take_le' j hs
  have h3 := List.length_filter_le (fun h : Nt => decide (h.1 = tx)) (hs.take j)
  unfold ofP
  rw [h1]
  unfold hisR
  simp only [List.length_nil, List.length_map]
  omega
set_option maxHeartbeats 8000000 in
theorem wrOf {F : Nat → Prop} {w : World} {b : Nat} {most : Nat} {hs : List Nt} (h : RN F w b most hs) (hn : hs.length ≤ 3000000) (tx : Int) :
    Calls Try.prog 43 #[.pointer (some ⟨b, 0, none⟩), .int .i64 tx] w fun e w' => ∃ v, e = .returned v ∧ SO seR w.heap.size w' v (ofP hs tx).length (cellsR (ofP hs tx)) ∧ Below w.heap.size w w' := by
  obtain ⟨A, c, h1, h2, h3, h4, h5⟩ := h.ex
  have H1 := Lib.hid h1
  have HS0 := Lib.hid h2
  have HN := Lib.hid hn
  have HBS := Lib.hid (Array.getElem?_eq_some_iff.1 h1).1
  have CL0 := fun W a b => wrAhead W a b
  unfold rdV at CL0
  have CL := Lib.hid CL0
  clear CL0
  clear h h1 h2 h3 h4 h5 hn
  go_enter Try.func43, Try.ntmps43
  go_upto_region 3 with fail
  go_loopw [5, 6] (fun lv i' wr => ∃ j : Nat, i' = .int .i64 (j : Nat) ∧ j ≤ hs.length ∧ SO seR w.heap.size wr lv (ofP (hs.take j) tx).length (cellsR (ofP (hs.take j) tx)) ∧ Below w.heap.size w wr) (fun _ i' _ => hs.length - (intOf i').toNat)
  case atStart => exact ⟨0, rfl, Nat.zero_le _, SO.nil _ _ _, Below.refl _ _⟩
  case round =>
    rename World => wr
    obtain ⟨j, rfl, hj, ho, hb⟩ := hrel
    have c2 : wr.cell? ⟨b, 1, none⟩ = some (.slice A hs.length c) := cell_of_row _ _ 1 _ _ _ ((hb.block b HBS.out).trans H1.out)
    have LR := Lib.hid (ofP_len hs tx j)
    by_cases hlt : j < hs.length
    · obtain ⟨p, hp⟩ : ∃ p, hs[j]? = some p := ⟨_, List.getElem?_eq_getElem hlt⟩
      have HT := Lib.hid (ofP_take (tx := tx) hp)
      obtain ⟨out, hout⟩ : ∃ out, ofP (hs.take j) tx = out := ⟨_, rfl⟩
      rw [hout] at ho LR HT
      have HS2 := HS0.out.gw hb
      obtain ⟨g, o, rfl, c3, c0, c1, c4, c5⟩ := HS2.note hp
      have i1 : (j : Int) < (hs.length : Int) := by omega
      have l1 : (j : Int) ≤ 4000000 := by have := HN.out; omega
      have HLT := Lib.hid hlt
      have HO := Lib.hid ho
      have HB := Lib.hid hb
      clear hj hlt hp HS2
      by_cases he : p.1 = tx
      · obtain ⟨A1, cc1, rfl, hsb, hnc, hcm, hbl⟩ := ho.form
        have HS := Lib.hid (show SB wr A1 (4 * out.length) (cellsR out) from hsb)
        have HC := Lib.hid (And.intro hnc hcm)
        have C2 := Lib.hid c2
        have C0 := Lib.hid c0
        have C1 := Lib.hid c1
        have C4 := Lib.hid c4
        have C5 := Lib.hid c5
        obtain ⟨x, hx⟩ : ∃ x, p.2 = x := ⟨_, rfl⟩
        obtain ⟨q, hq⟩ : ∃ q, plR out x = q := ⟨_, rfl⟩
        have HQ := Lib.hid hq
        have hql := plR_le out x
        rw [hq] at hql
        have HQL := Lib.hid hql
        have HX := Lib.hid hx
        rw [if_pos he, hx] at HT
        clear hout ho hb hsb hnc hcm hbl hq hql
        go_upto_region 7 with fail
        clear c0 c1 c2 c3 c4 c5
        go_loopw [7] (fun a' wz => ∃ a : Nat, a' = .int .i64 (a : Nat) ∧ a ≤ q ∧ Below wr.heap.size wr wz) (fun a' _ => q - (intOf a').toNat)
        case atStart => exact ⟨0, rfl, Nat.zero_le _, Below.refl _ _⟩
        case round =>
          rename World => wz
          obtain ⟨a, rfl, ha, hbz⟩ := hrel
          have d0 := keep_below C0.out hbz
          have d1 := keep_below C1.out hbz
          have d2 := keep_below C2.out hbz
          have d4 := keep_below C4.out hbz
          have d5 := keep_below C5.out hbz
          rw [hx] at d0 d1 d4 d5
          have HBZ := Lib.hid hbz
          have HA := Lib.hid ha
          by_cases haq : a < q
          · obtain ⟨y, hy⟩ : ∃ y, out[a]? = some y := ⟨_, List.getElem?_eq_getElem (by have := HQL.out; omega)⟩
            have i2 : aheadP y x = true := plR_below out x a y (by rw [HQ.out]; exact haq) hy
            obtain ⟨g3, o3, rfl, y0, y1, y2, y3⟩ := (HS.out.gw hbz).rd hy
            have i3 : (a : Int) < (out.length : Int) := by have := HQL.out; omega
            have l2 : (a : Int) ≤ 4000000 := by have := HN.out; have := HLT.out; have := LR.out; omega
            have HAQ := Lib.hid haq
            clear hy ha hbz haq
            go_upto_region 7 with fail
            go_still_tail 17, (by kernel_rfl)
            go_wp2_with (go_at_call 61; go_loud (refine (CL.out _ y x).mono ?_; rintro e w1 ⟨rfl, hb1⟩; rw [i2]; have BL := Lib.hid (show Below wr.heap.size wr w1 from below_next HBZ.out.drew hb1); clear hb1))
            go_roundw
            case rel => exact ⟨a + 1, by go_num, HAQ.out, BL.out⟩
            case measure => have := HAQ.out; simp [intOf]; omega
          · have haq2 : a = q := by omega
            subst haq2
            have HA2 := Lib.hid (show a ≤ 4000000 by have := HN.out; have := LR.out; have := HQL.out; omega)
            obtain ⟨A2, hA2⟩ : ∃ A2, (if cc1 = a then A1 else A1.map (·.add (a * seR.s))) = A2 := ⟨_, rfl⟩
            have q1 : ∀ W, (Instr.slice 52 (.slice A1 out.length cc1) none (some (.int .i64 (a : Int))) none).run Try.prog W = .ok (.slice A1 a cc1) W := fun W => run_uptoE seR_ok W A1 out.length cc1 a (by have := HQL.out; have := HC.out.1; omega)
            have q2 : ∀ W, (Instr.slice 52 (.slice A1 out.length cc1) (some (.int .i64 (a : Int))) none none).run Try.prog W = .ok (.slice A2 (out.length - a) (cc1 - a)) W := fun W => by rw [← hA2]; exact run_fromE seR_ok W A1 out.length cc1 a HQL.out HC.out.1
            have P1 := Lib.hid (show ∀ W, Below wr.heap.size wr W → SB W A1 (seR.s * a) (cellsR (out.take a)) from fun W hW => by
              rw [cellsR_take]
              exact (HS.out.gw hW).take (Nat.mul_le_mul_left 4 HQL.out))
            have P2 := Lib.hid (show ∀ W, Below wr.heap.size wr W → SB W A2 (seR.s * (out.length - a)) (cellsR (out.drop a)) from fun W hW => by
              rw [cellsR_drop, ← hA2]
              exact SB.cut (s := 4) (HS.out.gw hW) HQL.out HC.out.1)
            have LA := Lib.hid (show out.length ≤ 4000000 by have := HN.out; have := LR.out; omega)
            have L1 := Lib.hid (show (out.take a).length = a by rw [List.length_take]; have := HQL.out; omega)
            clear hA2
            by_cases hqo : a < out.length
            · obtain ⟨y, hy⟩ : ∃ y, out[a]? = some y := ⟨_, List.getElem?_eq_getElem hqo⟩
              have i2 : aheadP y x = false := plR_at out x y (by rw [HQ.out]; exact hy)
              obtain ⟨g3, o3, rfl, y0, y1, y2, y3⟩ := (HS.out.gw hbz).rd hy
              have i3 : (a : Int) < (out.length : Int) := by omega
              have l2 : (a : Int) ≤ 4000000 := by have := HA2.out; omega
              clear hy ha hbz haq
              go_upto_region 7 with fail
              go_still_tail 17, (by kernel_rfl)
              go_upto_region 9 with (first | (go_at_call 61; go_loud (refine (CL.out _ y x).mono ?_; rintro e w1 ⟨rfl, hb1⟩; rw [i2]; have BL := Lib.hid (show Below wr.heap.size wr w1 from below_next HBZ.out.drew hb1); clear hb1)))
              clear d0 d1 d2 d4 d5 y0 y1 y2 y3
              have HIN := Lib.hid (show insR out x = out.take a ++ [x] ++ out.drop a by unfold insR; rw [HQ.out])
              go_upto_region 11 with (at_builtin; go_loud (refine so_append seR_ok (by rfl) (.tmp 49) (.tmp 52) (by rfl) _ (by rfl) (SO.nil seR wr.heap.size _) _ a cc1 (cellsR (out.take a)) (by rfl) (P1.out _ BL.out) (by have := HA2.out; omega) (by exact (BL.out).size) ?_; intro v3 w3 o3 b3; have O3 := Lib.hid o3; have B3 := Lib.hid (show Below wr.heap.size wr w3 from Below.trans BL.out b3); clear o3 b3))
              have f0 := keep_below C0.out B3.out
              have f1 := keep_below C1.out B3.out
              have f2 := keep_below C2.out B3.out
              have f4 := keep_below C4.out B3.out
              have f5 := keep_below C5.out B3.out
              rw [hx] at f0 f1 f4 f5
              go_upto_region 12 with (at_builtin; go_loud (refine so_append seR_ok (by rfl) (.tmp 54) (.tmp 63) (by rfl) _ (by rfl) (O3.out.alloc _) (some ⟨w3.heap.size, 0, none⟩) 1 1 (cellsR [x]) (by rfl) (sb_rd w3 x) (by have := HA2.out; simp; omega) (by have := B3.out.size; simp; omega) ?_; intro v4 w4 o4 b4; have O4 := Lib.hid o4; have B4 := Lib.hid (show Below wr.heap.size wr w4 from (B3.out.alloc B3.out.size _).trans b4); clear o4 b4))
              go_wp2_with (at_builtin; go_loud (refine so_append seR_ok (by rfl) (.tmp 65) (.tmp 68) (by rfl) _ (by rfl) O4.out A2 (out.length - a) (cc1 - a) (cellsR (out.drop a)) (by rfl) (P2.out _ B4.out) (by have := HA2.out; have := LA.out; omega) B4.out.size ?_; intro v5 w5 o5 b5; have O5 := Lib.hid o5; have B5 := Lib.hid (show Below wr.heap.size wr w5 from B4.out.trans b5); clear o5 b5))
              go_roundw
              case rel => exact ⟨j + 1, by go_num, HLT.out, by rw [HT.out, HIN.out]; exact O5.out.base HB.out.size (by simp [cellsR]) (by simp [L1.out]; try omega), below_next HB.out B5.out⟩
              case measure => have := HLT.out; simp [intOf]; omega
            · have i3 : ¬ (a : Int) < (out.length : Int) := by omega
              clear ha hbz haq
              go_upto_region 7 with fail
              go_region
              have HIN := Lib.hid (show insR out x = out.take a ++ [x] ++ out.drop a by unfold insR; rw [HQ.out])
              go_upto_region 11 with (at_builtin; go_loud (refine so_append seR_ok (by rfl) (.tmp 49) (.tmp 52) (by rfl) _ (by rfl) (SO.nil seR wr.heap.size _) _ a cc1 (cellsR (out.take a)) (by rfl) (P1.out _ (by first | exact HBZ.out.drew | exact HBZ.out)) (by have := HA2.out; omega) (by exact HBZ.out.size) ?_; intro v3 w3 o3 b3; have O3 := Lib.hid o3; have B3 := Lib.hid (show Below wr.heap.size wr w3 from Below.trans (by first | exact HBZ.out.drew | exact HBZ.out) b3); clear o3 b3))
              have f0 := keep_below C0.out B3.out
              have f1 := keep_below C1.out B3.out
              have f2 := keep_below C2.out B3.out
              have f4 := keep_below C4.out B3.out
              have f5 := keep_below C5.out B3.out
              rw [hx] at f0 f1 f4 f5
              go_upto_region 12 with (at_builtin; go_loud (refine so_append seR_ok (by rfl) (.tmp 54) (.tmp 63) (by rfl) _ (by rfl) (O3.out.alloc _) (some ⟨w3.heap.size, 0, none⟩) 1 1 (cellsR [x]) (by rfl) (sb_rd w3 x) (by have := HA2.out; simp; omega) (by have := B3.out.size; simp; omega) ?_; intro v4 w4 o4 b4; have O4 := Lib.hid o4; have B4 := Lib.hid (show Below wr.heap.size wr w4 from (B3.out.alloc B3.out.size _).trans b4); clear o4 b4))
              go_wp2_with (at_builtin; go_loud (refine so_append seR_ok (by rfl) (.tmp 65) (.tmp 68) (by rfl) _ (by rfl) O4.out A2 (out.length - a) (cc1 - a) (cellsR (out.drop a)) (by rfl) (P2.out _ B4.out) (by have := HA2.out; have := LA.out; omega) B4.out.size ?_; intro v5 w5 o5 b5; have O5 := Lib.hid o5; have B5 := Lib.hid (show Below wr.heap.size wr w5 from B4.out.trans b5); clear o5 b5))
              go_roundw
              case rel => exact ⟨j + 1, by go_num, HLT.out, by rw [HT.out, HIN.out]; exact O5.out.base HB.out.size (by simp [cellsR]) (by simp [L1.out]; try omega), below_next HB.out B5.out⟩
              case measure => have := HLT.out; simp [intOf]; omega
      · rw [if_neg he] at HT
        clear ho hb
        go_wp2
        go_roundw
        case rel => exact ⟨j + 1, by go_num, HLT.out, by rw [HT.out]; exact HO.out, HB.out⟩
        case measure => have := HLT.out; simp [intOf]; omega
    · have hje : j = hs.length := by omega
      subst hje
      have i1 : ¬ (hs.length : Int) < (hs.length : Int) := by omega
      rw [List.take_length] at ho
      have HO := Lib.hid ho
      have HB := Lib.hid hb
      clear hj hlt ho hb
      go_wp2
      go_ret
      exact ⟨_, rfl, HO.out, HB.out⟩
end Go.Proofs.Ytcpifanhmkblmaa
