import Derived.Test.YtknppiebncdjmaaGreatJAE
import Derived.Deep.RegionWith
import Derived.Deep.DeepCutAuto
import Derived.StillTailTactics
import Derived.Test.YtknppiebncdjmaaGreatDRow
/- Layer 8: the reference's Held. -/
namespace Go.Proofs.YtknppiebncdjmaaGreat
set_option maxRecDepth 100000
set_option maxRecDepth 100000
open Go.RowKit

def cellsL (ls : List Lk) : List Value := ls.flatMap fun l => [Value.string l.1, Value.string l.2]
theorem cellsL_len (ls : List Lk) : (cellsL ls).length = 2 * ls.length := by
  induction ls with
  | nil => rfl
  | cons p ps ih => simp only [cellsL, List.flatMap_cons, List.length_append, List.length_cons, List.length_nil] at ih ⊢; omega
theorem cellsL_cons (p : Lk) (ps : List Lk) : cellsL (p :: ps) = Value.string p.1 :: Value.string p.2 :: cellsL ps := by simp [cellsL]
theorem cellsL_app (a b : List Lk) : cellsL (a ++ b) = cellsL a ++ cellsL b := by simp [cellsL]
theorem cellsL_one (ps : List Lk) : ∀ u ∈ cellsL ps, u.oneCell' = true := by
  intro u hu
  simp only [cellsL, List.mem_flatMap] at hu
  obtain ⟨p, -, hu⟩ := hu
  simp at hu
  rcases hu with rfl | rfl <;> rfl
theorem cellsL_at : ∀ (ps : List Lk) (j : Nat) (p : Lk), ps[j]? = some p → (cellsL ps)[2 * j]? = some (.string p.1) ∧ (cellsL ps)[2 * j + 1]? = some (.string p.2)
  | [], _, _, h => by cases h
  | q :: ps, 0, p, h => by cases h; rw [cellsL_cons]; exact ⟨rfl, rfl⟩
  | q :: ps, j + 1, p, h => by
    have := cellsL_at ps j p h
    rw [cellsL_cons]
    exact this
theorem cellsL_take : ∀ (ps : List Lk) (i : Nat), cellsL (ps.take i) = (cellsL ps).take (2 * i)
  | [], i => by simp [cellsL]
  | p :: ps, 0 => by simp [cellsL]
  | p :: ps, i + 1 => by
    rw [List.take_succ_cons, cellsL_cons, cellsL_cons, cellsL_take ps i]
    rfl
theorem cellsL_drop : ∀ (ps : List Lk) (i : Nat), cellsL (ps.drop i) = (cellsL ps).drop (2 * i)
  | [], i => by simp [cellsL]
  | p :: ps, 0 => by simp [cellsL]
  | p :: ps, i + 1 => by
    rw [List.drop_succ_cons, cellsL_cons, cellsL_drop ps i]
    rfl
/-- The place of a lock in a list. -/
def plL (l : List Lk) (x : Lk) : Nat := (l.takeWhile (lessB · x)).length
def insL (l : List Lk) (x : Lk) : List Lk := l.take (plL l x) ++ [x] ++ l.drop (plL l x)
/-- A transaction's locks, in the order of the list. -/
def hisP (hs : List Hd) (tx : Int) : List Lk := (hs.filter (fun h => decide (h.2 = tx))).map (·.1)
/-- A transaction's locks, in order. -/
def heldP (hs : List Hd) (tx : Int) : List Lk := (hisP hs tx).foldl insL []
theorem plL_le (l : List Lk) (x : Lk) : plL l x ≤ l.length := (List.takeWhile_prefix _).length_le
theorem plL_below : ∀ (l : List Lk) (x : Lk) (j : Nat) (a : Lk), j < plL l x → l[j]? = some a → lessB a x = true
  | [], x, j, a, h, _ => by simp [plL] at h
  | b :: l, x, j, a, h, ha => by
    unfold plL at h
    by_cases hb : lessB b x = true
    · rw [List.takeWhile_cons_of_pos (p := fun y => lessB y x) hb] at h
      cases j with
      | zero => cases ha; exact hb
      | succ j => exact plL_below l x j a (by simpa [plL] using h) ha
    · rw [List.takeWhile_cons_of_neg (p := fun y => lessB y x) hb] at h
      simp at h
theorem plL_at : ∀ (l : List Lk) (x a : Lk), l[plL l x]? = some a → lessB a x = false
  | [], x, a, h => by simp [plL] at h
  | b :: l, x, a, h => by
    unfold plL at h
    by_cases hb : lessB b x = true
    · rw [List.takeWhile_cons_of_pos (p := fun y => lessB y x) hb] at h
      exact plL_at l x a (by simpa [plL] using h)
    · rw [List.takeWhile_cons_of_neg (p := fun y => lessB y x) hb] at h
      simp at h; subst h; simpa using hb
theorem insL_len (l : List Lk) (x : Lk) : (insL l x).length = l.length + 1 := by
  unfold insL
  have := plL_le l x
  simp; omega
theorem hisP_take {hs : List Hd} {tx : Int} {j : Nat} {p : Hd} (hp : hs[j]? = some p) : hisP (hs.take (j + 1)) tx = hisP (hs.take j) tx ++ (if p.2 = tx then [p.1] else []) := by
  unfold hisP
  rw [List.take_add_one, hp, List.filter_append, List.map_append]
  congr 1
  by_cases h : p.2 = tx <;> simp [h]
theorem heldP_take {hs : List Hd} {tx : Int} {j : Nat} {p : Hd} (hp : hs[j]? = some p) : heldP (hs.take (j + 1)) tx = if p.2 = tx then insL (heldP (hs.take j) tx) p.1 else heldP (hs.take j) tx := by
  unfold heldP
  rw [hisP_take hp, List.foldl_append]
  by_cases h : p.2 = tx <;> simp [h]
theorem heldP_len (hs : List Hd) (tx : Int) (j : Nat) : (heldP (hs.take j) tx).length ≤ hs.length := by
  have h0 : ∀ (l out : List Lk), (l.foldl insL out).length = out.length + l.length := by
    intro l
    induction l with
    | nil => intro out; simp
    | cons x l ih => intro out; have h1 := ih (insL out x); have h2 := insL_len out x; simp only [List.foldl_cons, List.length_cons]; omega
  have h1 := h0 (hisP (hs.take j) tx) []
  have h2 := List.length_take_le' j hs
  have h3 := List.length_filter_le (fun h : Hd => decide (h.2 = tx)) (hs.take j)
  unfold heldP
  rw [h1]
  unfold hisP
  simp only [List.length_nil, List.length_map]
  omega
theorem sb_lock (X : World) (x : Lk) : SB (X.alloc (.cells #[.string x.1, .string x.2] 42)) (some ⟨X.heap.size, 0, none⟩) (seL.s * 1) (cellsL [x]) := by
  refine ⟨rfl, cellsL_one _, fun _ => ⟨X.heap.size, 0, rfl, fun j u hj => ?_⟩⟩
  rw [cell_of_row _ _ _ _ _ _ (heap_alloc_new X (.cells #[.string x.1, .string x.2] 42))]
  simpa [cellsL] using hj

set_option maxHeartbeats 8000000 in
theorem wrHeld {w : World} {b : Nat} {most : Int} {hs : List Hd} (h : RM w b most hs) (hn : hs.length ≤ 4000000) (tx : Int) :
    Calls Tryz.prog 114 #[.pointer (some ⟨b, 0, none⟩), .int .i64 tx] w fun e w' => ∃ v, e = .returned v ∧ SO seL w.heap.size w' v (heldP hs tx).length (cellsL (heldP hs tx)) ∧ Below w.heap.size w w' := by
  obtain ⟨A, c, h1, h2, h3, h4, h5⟩ := h.ex
  have H1 := Lib.hid h1
  have HS0 := Lib.hid h2
  have HN := Lib.hid hn
  have HBS := Lib.hid (Array.getElem?_eq_some_iff.1 h1).1
  have CL := Lib.hid fun W a b => wrLess W a b
  clear h h1 h2 h3 h4 h5 hn
  go_enter Tryz.func114, Tryz.ntmps114
  go_upto_region 3 with fail
  go_loopw [5, 6] (fun lv i' wr => ∃ j : Nat, i' = .int .i64 (j : Nat) ∧ j ≤ hs.length ∧ SO seL w.heap.size wr lv (heldP (hs.take j) tx).length (cellsL (heldP (hs.take j) tx)) ∧ Below w.heap.size w wr) (fun _ i' _ => hs.length - (intOf i').toNat)
  case atStart => exact ⟨0, rfl, Nat.zero_le _, SO.nil _ _ _, Below.refl _ _⟩
  case round =>
    rename World => wr
    obtain ⟨j, rfl, hj, ho, hb⟩ := hrel
    have c2 : wr.cell? ⟨b, 2, none⟩ = some (.slice A hs.length c) := cell_of_row _ _ 2 _ _ _ ((hb.block b HBS.out).trans H1.out)
    have LR := Lib.hid (heldP_len hs tx j)
    by_cases hlt : j < hs.length
    · obtain ⟨p, hp⟩ : ∃ p, hs[j]? = some p := ⟨_, List.getElem?_eq_getElem hlt⟩
      have HT := Lib.hid (heldP_take (tx := tx) hp)
      obtain ⟨out, hout⟩ : ∃ out, heldP (hs.take j) tx = out := ⟨_, rfl⟩
      rw [hout] at ho LR HT
      have HS2 := HS0.out.gw hb
      obtain ⟨g, o, rfl, c0⟩ := HS2.at_ (cellsH_at _ _ _ hp).1
      obtain ⟨g1, o1, e1, c1⟩ := HS2.at_ (cellsH_at _ _ _ hp).2.1
      obtain ⟨g2, o2, e2, c3⟩ := HS2.at_ (cellsH_at _ _ _ hp).2.2
      cases e1; cases e2
      rw [Nat.mul_comm] at c0 c1 c3
      rw [← Nat.add_assoc] at c1 c3
      have i1 : (j : Int) < (hs.length : Int) := by omega
      have l1 : (j : Int) ≤ 4000000 := by have := HN.out; omega
      have HLT := Lib.hid hlt
      have HO := Lib.hid ho
      have HB := Lib.hid hb
      clear hj hlt hp HS2
      by_cases he : p.2 = tx
      · obtain ⟨A1, cc1, rfl, hsb, hnc, hcm, hbl⟩ := ho.form
        have HS := Lib.hid (show SB wr A1 (2 * out.length) (cellsL out) from hsb)
        have HC := Lib.hid (And.intro hnc hcm)
        have C2 := Lib.hid c2
        have C0 := Lib.hid c0
        have C1 := Lib.hid c1
        obtain ⟨x, hx⟩ : ∃ x, p.1 = x := ⟨_, rfl⟩
        obtain ⟨q, hq⟩ : ∃ q, plL out x = q := ⟨_, rfl⟩
        have HQ := Lib.hid hq
        have hql := plL_le out x
        rw [hq] at hql
        have HQL := Lib.hid hql
        have HX := Lib.hid hx
        rw [if_pos he, hx] at HT
        clear hout ho hb hsb hnc hcm hbl hq hql
        go_upto_region 7 with fail
        clear c0 c1 c2 c3
        go_loopw [7] (fun a' wz => ∃ a : Nat, a' = .int .i64 (a : Nat) ∧ a ≤ q ∧ Below wr.heap.size wr wz) (fun a' _ => q - (intOf a').toNat)
        case atStart => exact ⟨0, rfl, Nat.zero_le _, Below.refl _ _⟩
        case round =>
          rename World => wz
          obtain ⟨a, rfl, ha, hbz⟩ := hrel
          have d0 := keep_below C0.out hbz
          have d1 := keep_below C1.out hbz
          have d2 := keep_below C2.out hbz
          rw [hx] at d0 d1
          have HBZ := Lib.hid hbz
          have HA := Lib.hid ha
          by_cases haq : a < q
          · obtain ⟨y, hy⟩ : ∃ y, out[a]? = some y := ⟨_, List.getElem?_eq_getElem (by have := HQL.out; omega)⟩
            have i2 : lessB y x = true := plL_below out x a y (by rw [HQ.out]; exact haq) hy
            obtain ⟨g3, o3, rfl, y0⟩ := (HS.out.gw hbz).at_ (cellsL_at _ _ _ hy).1
            obtain ⟨g4, o4, e4, y1⟩ := (HS.out.gw hbz).at_ (cellsL_at _ _ _ hy).2
            cases e4
            rw [Nat.mul_comm] at y0 y1
            rw [← Nat.add_assoc] at y1
            have i3 : (a : Int) < (out.length : Int) := by have := HQL.out; omega
            have l2 : (a : Int) ≤ 4000000 := by have := HN.out; have := HLT.out; have := LR.out; omega
            have HAQ := Lib.hid haq
            clear hy ha hbz haq
            go_upto_region 7 with fail
            go_still_tail 17, (by kernel_rfl)
            go_wp2_with (go_at_call 153; go_loud (refine (CL.out _ y x).mono ?_; rintro e w1 ⟨rfl, hb1⟩; rw [i2]; have BL := Lib.hid (show Below wr.heap.size wr w1 from below_next HBZ.out.drew hb1); clear hb1))
            go_roundw
            case rel => exact ⟨a + 1, by go_num, HAQ.out, BL.out⟩
            case measure => have := HAQ.out; simp [intOf]; omega
          · have haq2 : a = q := by omega
            subst haq2
            have HA2 := Lib.hid (show a ≤ 4000000 by have := HN.out; have := LR.out; have := HQL.out; omega)
            obtain ⟨A2, hA2⟩ : ∃ A2, (if cc1 = a then A1 else A1.map (·.add (a * seL.s))) = A2 := ⟨_, rfl⟩
            have q1 : ∀ W, (Instr.slice 59 (.slice A1 out.length cc1) none (some (.int .i64 (a : Int))) none).run Tryz.prog W = .ok (.slice A1 a cc1) W := fun W => run_uptoE seL_ok W A1 out.length cc1 a (by have := HQL.out; have := HC.out.1; omega)
            have q2 : ∀ W, (Instr.slice 59 (.slice A1 out.length cc1) (some (.int .i64 (a : Int))) none none).run Tryz.prog W = .ok (.slice A2 (out.length - a) (cc1 - a)) W := fun W => by rw [← hA2]; exact run_fromE seL_ok W A1 out.length cc1 a HQL.out HC.out.1
            have P1 := Lib.hid (show ∀ W, Below wr.heap.size wr W → SB W A1 (seL.s * a) (cellsL (out.take a)) from fun W hW => by
              rw [cellsL_take]
              exact (HS.out.gw hW).take (Nat.mul_le_mul_left 2 HQL.out))
            have P2 := Lib.hid (show ∀ W, Below wr.heap.size wr W → SB W A2 (seL.s * (out.length - a)) (cellsL (out.drop a)) from fun W hW => by
              rw [cellsL_drop, ← hA2]
              exact SB.cut (s := 2) (HS.out.gw hW) HQL.out HC.out.1)
            have LA := Lib.hid (show out.length ≤ 4000000 by have := HN.out; have := LR.out; omega)
            have L1 := Lib.hid (show (out.take a).length = a by rw [List.length_take]; have := HQL.out; omega)
            clear hA2
            by_cases hqo : a < out.length
            · obtain ⟨y, hy⟩ : ∃ y, out[a]? = some y := ⟨_, List.getElem?_eq_getElem hqo⟩
              have i2 : lessB y x = false := plL_at out x y (by rw [HQ.out]; exact hy)
              obtain ⟨g3, o3, rfl, y0⟩ := (HS.out.gw hbz).at_ (cellsL_at _ _ _ hy).1
              obtain ⟨g4, o4, e4, y1⟩ := (HS.out.gw hbz).at_ (cellsL_at _ _ _ hy).2
              cases e4
              rw [Nat.mul_comm] at y0 y1
              rw [← Nat.add_assoc] at y1
              have i3 : (a : Int) < (out.length : Int) := by omega
              have l2 : (a : Int) ≤ 4000000 := by have := HA2.out; omega
              clear hy ha hbz haq
              go_upto_region 7 with fail
              go_still_tail 17, (by kernel_rfl)
              go_upto_region 9 with (first | (go_at_call 153; go_loud (refine (CL.out _ y x).mono ?_; rintro e w1 ⟨rfl, hb1⟩; rw [i2]; have BL := Lib.hid (show Below wr.heap.size wr w1 from below_next HBZ.out.drew hb1); clear hb1)))
              clear d0 d1 d2 y0 y1
              have HIN := Lib.hid (show insL out x = out.take a ++ [x] ++ out.drop a by unfold insL; rw [HQ.out])
              go_upto_region 10 with (at_builtin; go_loud (refine so_append seL_ok (by rfl) (.const (.slice none 0 0)) (.tmp 51) (by rfl) _ (by rfl) (SO.nil seL wr.heap.size _) _ a cc1 (cellsL (out.take a)) (by rfl) (P1.out _ BL.out) (by have := HA2.out; omega) (by exact (BL.out).size) ?_; intro v3 w3 o3 b3; have O3 := Lib.hid o3; have B3 := Lib.hid (show Below wr.heap.size wr w3 from Below.trans BL.out b3); clear o3 b3))
              have f0 := keep_below C0.out B3.out
              have f1 := keep_below C1.out B3.out
              have f2 := keep_below C2.out B3.out
              rw [hx] at f0 f1
              go_upto_region 11 with (at_builtin; go_loud (refine so_append seL_ok (by rfl) (.tmp 53) (.tmp 62) (by rfl) _ (by rfl) (O3.out.alloc _) (some ⟨w3.heap.size, 0, none⟩) 1 1 (cellsL [x]) (by rfl) (sb_lock w3 x) (by have := HA2.out; simp; omega) (by have := B3.out.size; simp; omega) ?_; intro v4 w4 o4 b4; have O4 := Lib.hid o4; have B4 := Lib.hid (show Below wr.heap.size wr w4 from (B3.out.alloc B3.out.size _).trans b4); clear o4 b4))
              go_wp2_with (at_builtin; go_loud (refine so_append seL_ok (by rfl) (.tmp 64) (.tmp 67) (by rfl) _ (by rfl) O4.out A2 (out.length - a) (cc1 - a) (cellsL (out.drop a)) (by rfl) (P2.out _ B4.out) (by have := HA2.out; have := LA.out; omega) B4.out.size ?_; intro v5 w5 o5 b5; have O5 := Lib.hid o5; have B5 := Lib.hid (show Below wr.heap.size wr w5 from B4.out.trans b5); clear o5 b5))
              go_roundw
              case rel => exact ⟨j + 1, by go_num, HLT.out, by rw [HT.out, HIN.out]; exact O5.out.base HB.out.size (by simp [cellsL]) (by simp [L1.out]; try omega), below_next HB.out B5.out⟩
              case measure => have := HLT.out; simp [intOf]; omega
            · have i3 : ¬ (a : Int) < (out.length : Int) := by omega
              clear ha hbz haq
              go_upto_region 7 with fail
              go_region
              have HIN := Lib.hid (show insL out x = out.take a ++ [x] ++ out.drop a by unfold insL; rw [HQ.out])
              go_upto_region 10 with (at_builtin; go_loud (refine so_append seL_ok (by rfl) (.const (.slice none 0 0)) (.tmp 51) (by rfl) _ (by rfl) (SO.nil seL wr.heap.size _) _ a cc1 (cellsL (out.take a)) (by rfl) (P1.out _ (by first | exact HBZ.out.drew | exact HBZ.out)) (by have := HA2.out; omega) (by exact HBZ.out.size) ?_; intro v3 w3 o3 b3; have O3 := Lib.hid o3; have B3 := Lib.hid (show Below wr.heap.size wr w3 from Below.trans (by first | exact HBZ.out.drew | exact HBZ.out) b3); clear o3 b3))
              have f0 := keep_below C0.out B3.out
              have f1 := keep_below C1.out B3.out
              have f2 := keep_below C2.out B3.out
              rw [hx] at f0 f1
              go_upto_region 11 with (at_builtin; go_loud (refine so_append seL_ok (by rfl) (.tmp 53) (.tmp 62) (by rfl) _ (by rfl) (O3.out.alloc _) (some ⟨w3.heap.size, 0, none⟩) 1 1 (cellsL [x]) (by rfl) (sb_lock w3 x) (by have := HA2.out; simp; omega) (by have := B3.out.size; simp; omega) ?_; intro v4 w4 o4 b4; have O4 := Lib.hid o4; have B4 := Lib.hid (show Below wr.heap.size wr w4 from (B3.out.alloc B3.out.size _).trans b4); clear o4 b4))
              go_wp2_with (at_builtin; go_loud (refine so_append seL_ok (by rfl) (.tmp 64) (.tmp 67) (by rfl) _ (by rfl) O4.out A2 (out.length - a) (cc1 - a) (cellsL (out.drop a)) (by rfl) (P2.out _ B4.out) (by have := HA2.out; have := LA.out; omega) B4.out.size ?_; intro v5 w5 o5 b5; have O5 := Lib.hid o5; have B5 := Lib.hid (show Below wr.heap.size wr w5 from B4.out.trans b5); clear o5 b5))
              go_roundw
              case rel => exact ⟨j + 1, by go_num, HLT.out, by rw [HT.out, HIN.out]; exact O5.out.base HB.out.size (by simp [cellsL]) (by simp [L1.out]; try omega), below_next HB.out B5.out⟩
              case measure => have := HLT.out; simp [intOf]; omega
      · rw [if_neg he] at HT
        clear ho hb
        go_wp2
        go_roundw
        case rel => exact ⟨j + 1, by go_num, HLT.out, by rw [HT.out]; exact HO.out, HB.out⟩
        case measure => have := HLT.out; simp [intOf]; omega
    · have hje : j = hs.length := by omega
      subst hje
      have i1 : ¬ (hs.length : Int) < (hs.length : Int) := by omega
      rw [List.take_length] at ho
      have HO := Lib.hid ho
      have HB := Lib.hid hb
      clear hj hlt ho hb
      go_wp2
      go_ret
      exact ⟨_, rfl, HO.out, HB.out⟩
end Go.Proofs.YtknppiebncdjmaaGreat

/- Layer 8, plain lists: what rises strictly is told by its members; Rise and Held rise. -/
namespace Go.Proofs.YtknppiebncdjmaaGreat
set_option maxRecDepth 100000

section
variable {α : Type} {lt : α → α → Bool}
end

end Go.Proofs.YtknppiebncdjmaaGreat

/- Layer 8: the reference's Release. -/
namespace Go.Proofs.YtknppiebncdjmaaGreat
set_option maxRecDepth 100000
set_option maxRecDepth 100000
open Go.RowKit

def releaseP (hs : List Hd) (tx : Int) : List Hd := hs.filter fun h => !decide (h.2 = tx)
theorem releaseP_take {hs : List Hd} {tx : Int} {j : Nat} {p : Hd} (hp : hs[j]? = some p) : releaseP (hs.take (j + 1)) tx = releaseP (hs.take j) tx ++ (if p.2 = tx then [] else [p]) := by
  unfold releaseP
  rw [List.take_add_one, hp, List.filter_append]
  congr 1
  by_cases h : p.2 = tx <;> simp [h]
theorem releaseP_len (hs : List Hd) (tx : Int) (j : Nat) : (releaseP (hs.take j) tx).length ≤ hs.length := by
  unfold releaseP
  have h1 := List.length_filter_le (fun h : Hd => !decide (h.2 = tx)) (hs.take j)
  have h2 := List.length_take_le' j hs
  omega

/-- A block's cells as a slice of one. -/
theorem sb_one {w : World} {g : Nat} {cs : List Value} {e : TypeId} {fr : Nat × Nat} (h : w.heap[g]? = some (.cells cs.toArray e fr)) (ho : ∀ u ∈ cs, u.oneCell' = true) {m : Nat} (hm : cs.length = m) : SB w (some ⟨g, 0, none⟩) m cs :=
  ⟨hm, ho, fun _ => ⟨g, 0, rfl, fun j u hj => by rw [cell_of_row w g _ _ e fr h]; simpa using hj⟩⟩

theorem sb_held (X : World) (p : Hd) : SB (X.alloc (.cells #[.string p.1.1, .string p.1.2, .int .i64 p.2] 217)) (some ⟨X.heap.size, 0, none⟩) (seH.s * 1) (cellsH [p]) :=
  sb_one (cs := cellsH [p]) (heap_alloc_new X _) (cellsH_one _) (cellsH_len _)
theorem blk_set8 {w : World} {d : Nat} {cs : Array Value} {t : TypeId} (h : w.heap[d]? = some (.cells cs t (0, 0))) (j : Nat) (v : Value) : (w.setCell ⟨d, j, none⟩ v).heap[d]? = some (.cells (cs.setIfInBounds j v) t (0, 0)) := heap_setCell_same w d j cs t v h
theorem heap_set8 (w : World) (b o : Nat) (u : Value) (k : Nat) (hk : k ≠ b) : (w.setCell ⟨b, o, none⟩ u).heap[k]? = w.heap[k]? := heap_setCells b [u] o w k hk
theorem SB.set {w : World} {A : Option Addr} {m : Nat} {vs : List Value} (h : SB w A m vs) {b o : Nat} (hn : ∀ ad, A = some ad → ad.block ≠ b) (u : Value) : SB (w.setCell ⟨b, o, none⟩ u) A m vs :=
  ⟨h.len, h.one, fun h0 => by
    obtain ⟨g, q, e, hc⟩ := h.cell h0
    have hg : g ≠ b := hn _ e
    exact ⟨g, q, e, fun j u hj => (World.cell?_of_block (w := w) (a := ⟨g, q + j, none⟩) (heap_set8 _ _ _ _ _ hg)).trans (hc j u hj)⟩⟩
set_option maxHeartbeats 2000000 in
theorem wrRelease {w : World} {b : Nat} {most : Int} {hs : List Hd} (h : RM w b most hs) (hn : hs.length ≤ 4000000) (tx : Int) :
    Calls Tryz.prog 116 #[.pointer (some ⟨b, 0, none⟩), .int .i64 tx] w fun e w' => e = .returned (.int .i64 ((hs.length : Int) - ((releaseP hs tx).length : Int))) ∧ RM w' b most (releaseP hs tx) ∧ Out (fun k => k = b) w w' := by
  obtain ⟨A, c, h1, h2, h3, h4, h5⟩ := h.ex
  have H1 := Lib.hid h1
  have HS := Lib.hid h2
  have HN := Lib.hid hn
  have HBS := Lib.hid (Array.getElem?_eq_some_iff.1 h1).1
  clear h h1 h2 h3 h4 h5 hn
  go_enter Tryz.func116, Tryz.ntmps116
  go_upto_region 3 with fail
  go_loopw [5, 6] (fun lv i' wr => ∃ j : Nat, i' = .int .i64 (j : Nat) ∧ j ≤ hs.length ∧ SO seH w.heap.size wr lv (releaseP (hs.take j) tx).length (cellsH (releaseP (hs.take j) tx)) ∧ Below w.heap.size w wr) (fun _ i' _ => hs.length - (intOf i').toNat)
  case atStart => exact ⟨0, rfl, Nat.zero_le _, SO.nil _ _ _, Below.refl _ _⟩
  case round =>
    rename World => wr
    obtain ⟨j, rfl, hj, ho, hb⟩ := hrel
    have HO := Lib.hid ho
    have HB := Lib.hid hb
    have c2 : wr.cell? ⟨b, 2, none⟩ = some (.slice A hs.length c) := cell_of_row _ _ 2 _ _ _ ((hb.block b HBS.out).trans H1.out)
    have HS2 := Lib.hid (HS.out.gw hb)
    have LL := Lib.hid (releaseP_len hs tx j)
    clear ho hb
    by_cases hlt : j < hs.length
    · obtain ⟨p, hp⟩ : ∃ p, hs[j]? = some p := ⟨_, List.getElem?_eq_getElem hlt⟩
      obtain ⟨g, o, rfl, c0⟩ := HS2.out.at_ (cellsH_at _ _ _ hp).1
      obtain ⟨g1, o1, e1, c1⟩ := HS2.out.at_ (cellsH_at _ _ _ hp).2.1
      obtain ⟨g2, o2, e2, c3⟩ := HS2.out.at_ (cellsH_at _ _ _ hp).2.2
      cases e1; cases e2
      rw [Nat.mul_comm] at c0 c1 c3
      rw [← Nat.add_assoc] at c1 c3
      have i1 : (j : Int) < (hs.length : Int) := by omega
      have l1 : (j : Int) ≤ 10000000 := by have := HN.out; omega
      have HLT := Lib.hid hlt
      have HT := Lib.hid (releaseP_take (tx := tx) hp)
      clear hj hlt hp
      by_cases he : p.2 = tx
      · go_wp2
        go_roundw
        case rel => exact ⟨j + 1, by go_num, HLT.out, by rw [HT.out, if_pos he, List.append_nil]; exact HO.out, HB.out⟩
        case measure => have := HLT.out; simp [intOf]; omega
      · go_wp2_with (at_builtin; go_loud (refine so_append seH_ok (by rfl) (.tmp 27) (.tmp 35) (by rfl) _ (by rfl) (HO.out.alloc _) (some ⟨wr.heap.size, 0, none⟩) 1 1 (cellsH [p]) (by rfl) (sb_held wr p) (by have := LL.out; have := HN.out; simp; omega) (by have := HB.out.size; simp; omega) ?_; intro v3 w3 o3 b3; have O3 := Lib.hid o3; have B3 := Lib.hid b3; clear o3 b3))
        go_roundw
        case rel => exact ⟨j + 1, by go_num, HLT.out, by rw [HT.out, if_neg he, List.length_append, cellsH_app]; exact O3.out, (HB.out.alloc HB.out.size _).trans B3.out⟩
        case measure => have := HLT.out; simp [intOf]; omega
    · have hje : j = hs.length := by omega
      subst hje
      have i1 : ¬ (hs.length : Int) < (hs.length : Int) := by omega
      have e1 : releaseP (hs.take hs.length) tx = releaseP hs tx := by rw [List.take_length]
      rw [e1] at HO LL
      obtain ⟨A2, c', rfl, hsb, hnc, hcm, hbl⟩ := HO.out.form
      have hheap : wr.heap[b]? = _ := (HB.out.block b HBS.out).trans H1.out
      have f2 : wr.frozen? ⟨b, 2, none⟩ = false := frozen_of_row _ _ _ _ _ hheap
      have H2 := Lib.hid hheap
      have LN := Lib.hid (show (hs.length : Int) ≤ 4000000 by have := HN.out; omega)
      have LM := Lib.hid (show ((releaseP hs tx).length : Int) ≤ hs.length by have := LL.out; omega)
      have ew : IntKind.i64.wrap ((hs.length : Int) - ((releaseP hs tx).length : Int)) = (hs.length : Int) - ((releaseP hs tx).length : Int) := by rw [IntKind.wrap_i64] <;> (have := LN.out; have := LM.out; omega)
      have hne : ∀ ad, A2 = some ad → ad.block ≠ b := fun ad e => by have := hbl ad e; have := HBS.out; omega
      have HNE := Lib.hid hne
      have HSB := Lib.hid hsb
      have HNC := Lib.hid (And.intro hnc hcm)
      clear hj hlt hheap hbl hne hsb hnc hcm e1
      go_wp2
      go_ret
      refine ⟨rfl, ⟨A2, c', ?_, ?_, HNC.out.1, HNC.out.2, HNE.out⟩, ?_⟩
      · rw [blk_set8 H2.out]; rfl
      · exact HSB.out.set (fun ad e => HNE.out ad e) _
      · exact (Out.of_below (F := fun k => k = b) HB.out).setCell (p := ⟨b, 2, none⟩) (.inl rfl) _
end Go.Proofs.YtknppiebncdjmaaGreat

/- Layer 8: the reference's Holder. -/
namespace Go.Proofs.YtknppiebncdjmaaGreat
set_option maxRecDepth 100000
set_option maxRecDepth 100000
open Go.RowKit

theorem holderP_none {hs : List Hd} {l : Lk} (h : ∀ (j : Nat) (p : Hd), hs[j]? = some p → lkEq p.1 l = false) : holderP hs l = none := by
  unfold holderP
  rw [List.find?_eq_none.2]; · rfl
  intro x hx
  obtain ⟨j, hj⟩ := List.mem_iff_getElem?.1 hx
  simp [h j x hj]
theorem holderP_some {hs : List Hd} {l : Lk} {i : Nat} {p : Hd} (hp : hs[i]? = some p) (e : lkEq p.1 l = true) (h : ∀ (j : Nat) (q : Hd), j < i → hs[j]? = some q → lkEq q.1 l = false) : holderP hs l = some p.2 := by
  induction hs generalizing i with
  | nil => cases hp
  | cons x xs ih =>
    unfold holderP
    cases i with
    | zero =>
      cases hp
      rw [List.find?_cons_of_pos (by exact e)]; rfl
    | succ i =>
      have h0 := h 0 x (by omega) rfl
      rw [List.find?_cons_of_neg (by simp [h0])]
      exact ih hp fun j q hj hq => h (j + 1) q (by omega) hq

set_option maxHeartbeats 2000000 in
theorem wrHolder {w : World} {b : Nat} {most : Int} {hs : List Hd} (h : RM w b most hs) (hn : hs.length ≤ 10000000) (l : Lk) :
    Calls Tryz.prog 106 #[.pointer (some ⟨b, 0, none⟩), lkV l] w fun e w' => e = .returned (.tuple #[.int .i64 ((holderP hs l).getD 0), .bool (holderP hs l).isSome]) ∧ Below w.heap.size w w' := by
  obtain ⟨A, c, h1, h2, -⟩ := h.ex
  obtain ⟨W, hW⟩ : ∃ W, w.alloc (.cells #[.string l.1, .string l.2] 42) = W := ⟨_, rfl⟩
  have HB := Lib.hid (show Below w.heap.size w W by rw [← hW]; exact (Below.refl _ _).alloc (Nat.le_refl _) _)
  have q0 : W.heap[w.heap.size]? = some (.cells #[.string l.1, .string l.2] 42 (0, 0)) := by rw [← hW]; exact heap_alloc_new _ _
  have q1 : W.cell? ⟨w.heap.size, 0, none⟩ = some (.string l.1) := cell_of_row _ _ 0 _ _ _ q0
  have q2 : W.cell? ⟨w.heap.size, 1, none⟩ = some (.string l.2) := cell_of_row _ _ 1 _ _ _ q0
  have c2 : W.cell? ⟨b, 2, none⟩ = some (.slice A hs.length c) := cell_of_row _ _ 2 _ _ _ (((HB.out).block b (Array.getElem?_eq_some_iff.1 h1).1).trans h1)
  have HS := Lib.hid (h2.gw HB.out)
  have HN := Lib.hid hn
  have HW := Lib.hid hW
  have qE := fun W a b c d => eqLk W a b c d
  clear h h1 h2 hW q0 hn
  unfold lkV
  go_enter Tryz.func106, Tryz.ntmps106
  go_upto_region 2 with fail
  rw [HW.out]
  go_loopw [6] (fun i' wr => ∃ j : Nat, i' = .int .i64 (j : Nat) ∧ j ≤ hs.length ∧ Below W.heap.size W wr ∧ ∀ (k : Nat) (q : Hd), k < j → hs[k]? = some q → lkEq q.1 l = false) (fun i' _ => hs.length - (intOf i').toNat)
  case atStart => exact ⟨0, rfl, Nat.zero_le _, Below.refl _ _, fun k q hk => by omega⟩
  case round =>
    rename World => wr
    obtain ⟨j, rfl, hj, hb, hno⟩ := hrel
    replace q1 := keep_below q1 hb
    replace q2 := keep_below q2 hb
    replace c2 := keep_below c2 hb
    have HS2 := Lib.hid (HS.out.gw hb)
    have HBW := Lib.hid hb
    clear hb
    by_cases hlt : j < hs.length
    · obtain ⟨p, hp⟩ : ∃ p, hs[j]? = some p := ⟨_, List.getElem?_eq_getElem hlt⟩
      obtain ⟨g, o, rfl, c0⟩ := HS2.out.at_ (cellsH_at _ _ _ hp).1
      obtain ⟨g1, o1, e1, c1⟩ := HS2.out.at_ (cellsH_at _ _ _ hp).2.1
      obtain ⟨g2, o2, e2, c3⟩ := HS2.out.at_ (cellsH_at _ _ _ hp).2.2
      cases e1; cases e2
      rw [Nat.mul_comm] at c0 c1 c3
      rw [← Nat.add_assoc] at c1 c3
      have i1 : (j : Int) < (hs.length : Int) := by omega
      have l1 : (j : Int) ≤ 10000000 := by have := HN.out; omega
      have HLT := Lib.hid hlt
      have HP := Lib.hid hp
      have HNO := Lib.hid hno
      clear hj hlt hp hno
      cases he : lkEq p.1 l
      · have he' : lkEq (p.1.1, p.1.2) (l.1, l.2) = false := he
        go_upto_region 4 with fail
        go_region
        go_wp2
        go_roundw
        case rel => exact ⟨j + 1, by go_num, HLT.out, HBW.out.drew, fun k q hk hq => by
          rcases Nat.lt_or_ge k j with h1 | h1
          · exact HNO.out k q h1 hq
          · have : k = j := by omega
            subst this
            rw [HP.out] at hq; cases hq; exact he⟩
        case measure => have := HLT.out; simp [intOf]; omega
      · have he' : lkEq (p.1.1, p.1.2) (l.1, l.2) = true := he
        go_upto_region 4 with fail
        go_region
        go_wp2
        refine bodyPost_ret (v := .tuple #[.int .i64 p.2, .bool true]) (by simp [results, Tryz.results106, go_sem]) rfl ⟨?_, below_next HB.out (by first | exact HBW.out | exact HBW.out.drew)⟩
        rw [holderP_some HP.out he HNO.out]; first | done | rfl
    · have i1 : ¬ (j : Int) < (hs.length : Int) := by omega
      have HNO := Lib.hid (show holderP hs l = none from holderP_none fun k p hk => hno k p (by have := (List.getElem?_eq_some_iff.1 hk).1; omega) hk)
      clear hj hlt hno
      go_wp2
      refine bodyPost_ret (v := .tuple #[.int .i64 0, .bool false]) (by simp [results, Tryz.results106, go_sem]) rfl ⟨?_, below_next HB.out (by first | exact HBW.out | exact HBW.out.drew)⟩
      rw [HNO.out]; first | done | rfl
end Go.Proofs.YtknppiebncdjmaaGreat
