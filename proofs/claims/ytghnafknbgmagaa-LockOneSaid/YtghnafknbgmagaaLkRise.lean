/- Layer 8: the reference's Rise. -/
import Derived.Test.YtghnafknbgmagaaLkOwn
import Derived.Test.YtghnafknbgmagaaDRow
import Derived.WalkLawsBesides
namespace Go.Proofs.Ytghnafknbgmagaa
set_option maxRecDepth 100000
set_option maxRecDepth 100000
open Go.RowKit

theorem run_uptoE {E : SEl} (hE : E.Ok) (W : World) (A : Option Addr) (n c t : Nat) (ht : t ≤ c) :
    (Instr.slice E.t (.slice A n c) none (some (.int .i64 (t : Int))) none).run Try.prog W = .ok (.slice A t c) W := by
  obtain ⟨i0, hi, hz0, hz1, hz2⟩ := info_parts hE.info
  rw [run_slice_h W E.t A n c (by rw [hE.el]; exact hE.und) .i64 (t : Int) (by omega) (by omega)]
  rw [hE.el]
  have hs : (sizeOf E.e).run Try.prog W = .ok E.s W := by simp [sizeOf, typeInfo, hi, hz1]
  rw [hs]
  simp [sliced, Result.andThen_ok]
  intro _
  cases A <;> simp [Addr.add]
theorem run_fromE {E : SEl} (hE : E.Ok) (W : World) (A : Option Addr) (n c f : Nat) (hf : f ≤ n) (hn : n ≤ c) :
    (Instr.slice E.t (.slice A n c) (some (.int .i64 (f : Int))) none none).run Try.prog W = .ok (.slice (if c = f then A else A.map (·.add (f * E.s))) (n - f) (c - f)) W := by
  obtain ⟨i0, hi, hz0, hz1, hz2⟩ := info_parts hE.info
  rw [run_slice_l W E.t A n c (by rw [hE.el]; exact hE.und) .i64 (f : Int) (by omega) (by omega)]
  rw [hE.el]
  have hs : (sizeOf E.e).run Try.prog W = .ok E.s W := by simp [sizeOf, typeInfo, hi, hz1]
  rw [hs]
  simp only [sliced, Result.andThen_ok, Int.toNat_natCast]
theorem SB.take {w : World} {A : Option Addr} {m k : Nat} {vs : List Value} (h : SB w A m vs) (hk : k ≤ m) : SB w A k (vs.take k) := by
  refine ⟨by rw [List.length_take, h.len]; omega, fun z hz => h.one z (List.mem_of_mem_take hz), fun hn => ?_⟩
  obtain ⟨g, o, e, hcell⟩ := h.cell (by omega)
  refine ⟨g, o, e, fun j u hj => hcell j u ?_⟩
  rw [List.getElem?_take] at hj
  split at hj
  · exact hj
  · cases hj
/-- What stands from element f on. -/
theorem SB.cut {w : World} {A : Option Addr} {n f c s : Nat} {vs : List Value} (h : SB w A (s * n) vs) (hf : f ≤ n) (hn : n ≤ c) : SB w (if c = f then A else A.map (·.add (f * s))) (s * (n - f)) (vs.drop (s * f)) := by
  have e1 : s * (n - f) = s * n - s * f := Nat.mul_sub ..
  have e2 : s * f ≤ s * n := Nat.mul_le_mul_left s hf
  refine ⟨by rw [List.length_drop, h.len, e1], fun z hz => h.one z (List.mem_of_mem_drop hz), fun h0 => ?_⟩
  have hlt : f < n := by
    rcases Nat.lt_or_ge f n with h1 | h1
    · exact h1
    · rw [show n - f = 0 by omega] at h0; simp at h0
  obtain ⟨g, o, rfl, hcell⟩ := h.cell (by omega)
  rw [if_neg (by omega)]
  refine ⟨g, o + f * s, by simp [Addr.add], fun j u hj => ?_⟩
  rw [List.getElem?_drop] at hj
  have := hcell _ u hj
  rw [show o + f * s + j = o + (s * f + j) by rw [Nat.mul_comm f s]; omega]
  exact this

def numC (l : List Int) : List Value := l.map (.int .i64)
theorem numC_len (l : List Int) : (numC l).length = l.length := by simp [numC]
theorem numC_at {l : List Int} {j : Nat} {x : Int} (h : l[j]? = some x) : (numC l)[j]? = some (.int .i64 x) := by simp [numC, h]
/-- The place of a number in a list. -/
def plN (l : List Int) (x : Int) : Nat := (l.takeWhile (decide <| · < x)).length
def insN (l : List Int) (x : Int) : List Int := if l[plN l x]? = some x then l else l.take (plN l x) ++ [x] ++ l.drop (plN l x)
/-- Numbers, rising, each once. -/
def riseP (l : List Int) : List Int := l.foldl insN []
theorem plN_le (l : List Int) (x : Int) : plN l x ≤ l.length := (List.takeWhile_prefix _).length_le
theorem plN_below : ∀ (l : List Int) (x : Int) (j : Nat) (a : Int), j < plN l x → l[j]? = some a → a < x
  | [], x, j, a, h, _ => by simp [plN] at h
  | b :: l, x, j, a, h, ha => by
    unfold plN at h
    by_cases hb : b < x
    · rw [List.takeWhile_cons_of_pos (by simpa using hb)] at h
      cases j with
      | zero => cases ha; exact hb
      | succ j => exact plN_below l x j a (by simpa [plN] using h) ha
    · rw [List.takeWhile_cons_of_neg (by simpa using hb)] at h
      simp at h
theorem plN_at : ∀ (l : List Int) (x a : Int), l[plN l x]? = some a → ¬ a < x
  | [], x, a, h => by simp [plN] at h
  | b :: l, x, a, h => by
    unfold plN at h
    by_cases hb : b < x
    · rw [List.takeWhile_cons_of_pos (by simpa using hb)] at h
      exact plN_at l x a (by simpa [plN] using h)
    · rw [List.takeWhile_cons_of_neg (by simpa using hb)] at h
      simp at h; subst h; exact hb
theorem insN_len (l : List Int) (x : Int) : (insN l x).length ≤ l.length + 1 := by
  unfold insN
  have := plN_le l x
  split <;> simp; omega
theorem rise_len (l : List Int) (j : Nat) : (riseP (l.take j)).length ≤ l.length := by
  have : ∀ (l out : List Int), (l.foldl insN out).length ≤ out.length + l.length := by
    intro l
    induction l with
    | nil => intro out; simp
    | cons x l ih => intro out; have h1 := ih (insN out x); have h2 := insN_len out x; simp only [List.foldl_cons, List.length_cons]; omega
  have h1 := this (l.take j) []
  have h2 := List.length_take_le' j l
  unfold riseP
  simp only [List.length_nil] at h1
  omega
theorem rise_take {l : List Int} {j : Nat} {x : Int} (h : l[j]? = some x) : riseP (l.take (j + 1)) = insN (riseP (l.take j)) x := by
  unfold riseP
  rw [List.take_add_one, h, List.foldl_append]
  rfl

theorem numC_one (l : List Int) : ∀ u ∈ numC l, u.oneCell' = true := by
  intro u hu
  simp only [numC, List.mem_map] at hu
  obtain ⟨x, -, rfl⟩ := hu
  rfl
theorem sb_num (X : World) (x : Int) : SB (X.alloc (.cells #[.int .i64 x] 2)) (some ⟨X.heap.size, 0, none⟩) (seN.s * 1) (numC [x]) := by
  refine ⟨rfl, numC_one _, fun _ => ⟨X.heap.size, 0, rfl, fun j u hj => ?_⟩⟩
  rw [cell_of_row _ _ _ _ _ _ (heap_alloc_new X (.cells #[.int .i64 x] 2))]
  simpa [numC] using hj

theorem SO.base {E : SEl} {base base' n n' : Nat} {w : World} {v : Value} {vs vs' : List Value} (h : SO E base w v n vs) (hb : base' ≤ base) (e1 : vs = vs') (e2 : n = n') : SO E base' w v n' vs' := by
  subst e1; subst e2
  exact ⟨own_base h.own fun k e => Nat.le_trans hb (h.own.lt k e).1, h.len, h.one⟩
set_option maxHeartbeats 8000000 in
theorem wrRise {w : World} {A : Option Addr} {c : Nat} {l : List Int} (hl : SB w A l.length (numC l)) (hn : l.length ≤ 4000000) :
    Calls Try.prog 38 #[.slice A l.length c] w fun e w' => ∃ v, e = .returned v ∧ SO seN w.heap.size w' v (riseP l).length (numC (riseP l)) ∧ Below w.heap.size w w' := by
  have HL := Lib.hid hl
  have HN := Lib.hid hn
  clear hl hn
  go_enter Try.func38, Try.ntmps38
  go_upto_region 3 with fail
  go_loopw [3, 4] (fun lv i' wr => ∃ j : Nat, i' = .int .i64 (j : Nat) ∧ j ≤ l.length ∧ SO seN w.heap.size wr lv (riseP (l.take j)).length (numC (riseP (l.take j))) ∧ Below w.heap.size w wr) (fun _ i' _ => l.length - (intOf i').toNat)
  case atStart => exact ⟨0, rfl, Nat.zero_le _, SO.nil _ _ _, Below.refl _ _⟩
  case round =>
    rename World => wr
    obtain ⟨j, rfl, hj, ho, hb⟩ := hrel
    have LR := Lib.hid (rise_len l j)
    by_cases hlt : j < l.length
    · obtain ⟨x, hx⟩ : ∃ x, l[j]? = some x := ⟨_, List.getElem?_eq_getElem hlt⟩
      have HT := Lib.hid (rise_take hx)
      obtain ⟨out, hout⟩ : ∃ out, riseP (l.take j) = out := ⟨_, rfl⟩
      rw [hout] at ho LR HT
      obtain ⟨A1, c1, rfl, hsb, hnc, hcm, hbl⟩ := ho.form
      rw [show seN.s * out.length = out.length from Nat.one_mul _] at hsb
      have HO := Lib.hid ho
      have HB := Lib.hid hb
      have HS := Lib.hid hsb
      have HC := Lib.hid (And.intro hnc hcm)
      obtain ⟨g, o, rfl, cx⟩ := (HL.out.gw hb).at_ (numC_at hx)
      have CX := Lib.hid cx
      have i1 : (j : Int) < (l.length : Int) := by omega
      have l1 : (j : Int) ≤ 4000000 := by have := HN.out; omega
      have HLT := Lib.hid hlt
      obtain ⟨q, hq⟩ : ∃ q, plN out x = q := ⟨_, rfl⟩
      have HQ := Lib.hid hq
      have hql := plN_le out x
      rw [hq] at hql
      have HQL := Lib.hid hql
      clear hj hlt hx hout ho hb hsb hnc hcm hbl cx hq hql
      go_upto_region 6 with fail
      go_loopw [5] (fun a' wz => ∃ a : Nat, a' = .int .i64 (a : Nat) ∧ a ≤ q ∧ Below wr.heap.size wr wz) (fun a' _ => q - (intOf a').toNat)
      case atStart => exact ⟨0, rfl, Nat.zero_le _, Below.refl _ _⟩
      case round =>
        rename World => wz
        obtain ⟨a, rfl, ha, hbz⟩ := hrel
        have cz := keep_below CX.out hbz
        have HBZ := Lib.hid hbz
        have HA := Lib.hid ha
        by_cases haq : a < q
        · obtain ⟨y, hy⟩ : ∃ y, out[a]? = some y := ⟨_, List.getElem?_eq_getElem (by have := HQL.out; omega)⟩
          have i2 : y < x := plN_below out x a y (by rw [HQ.out]; exact haq) hy
          obtain ⟨g1, o1, rfl, cy⟩ := (HS.out.gw hbz).at_ (numC_at hy)
          have i3 : (a : Int) < (out.length : Int) := by have := HQL.out; omega
          have l2 : (a : Int) ≤ 4000000 := by have := HN.out; have := HLT.out; have := LR.out; omega
          have HAQ := Lib.hid haq
          clear hy ha hbz haq
          go_upto_region 6 with fail
          go_region
          go_wp2
          go_roundw
          case rel => exact ⟨a + 1, by go_num, HAQ.out, HBZ.out.drew⟩
          case measure => have := HAQ.out; simp [intOf]; omega
        · have haq2 : a = q := by omega
          subst haq2
          have HA2 := Lib.hid (show a ≤ 4000000 by have := HN.out; have := LR.out; have := HQL.out; omega)
          have BZ := Lib.hid (below_next HB.out hbz)
          obtain ⟨A2, hA2⟩ : ∃ A2, (if c1 = a then A1 else A1.map (·.add (a * seN.s))) = A2 := ⟨_, rfl⟩
          have q1 : ∀ W, (Instr.slice 45 (.slice A1 out.length c1) none (some (.int .i64 (a : Int))) none).run Try.prog W = .ok (.slice A1 a c1) W := fun W => run_uptoE seN_ok W A1 out.length c1 a (by have := HQL.out; have := HC.out.1; omega)
          have q2 : ∀ W, (Instr.slice 45 (.slice A1 out.length c1) (some (.int .i64 (a : Int))) none none).run Try.prog W = .ok (.slice A2 (out.length - a) (c1 - a)) W := fun W => by rw [← hA2]; exact run_fromE seN_ok W A1 out.length c1 a HQL.out HC.out.1
          have P1 := Lib.hid (show ∀ W, Below wr.heap.size wr W → SB W A1 (seN.s * a) (numC (out.take a)) from fun W hW => by
            have h1 := (HS.out.gw hW).take HQL.out
            rw [show seN.s * a = a from Nat.one_mul _, show numC (out.take a) = (numC out).take a by simp [numC]]
            exact h1)
          have P2 := Lib.hid (show ∀ W, Below wr.heap.size wr W → SB W A2 (seN.s * (out.length - a)) (numC (out.drop a)) from fun W hW => by
            have h0 : SB W A1 (seN.s * out.length) (numC out) := by rw [show seN.s * out.length = out.length from Nat.one_mul _]; exact HS.out.gw hW
            have h1 := h0.cut HQL.out HC.out.1
            rw [hA2, show seN.s * a = a from Nat.one_mul _] at h1
            rw [show numC (out.drop a) = (numC out).drop a by simp [numC]]
            exact h1)
          have LA := Lib.hid (show out.length ≤ 4000000 by have := HN.out; have := LR.out; omega)
          have L1 := Lib.hid (show (out.take a).length = a by rw [List.length_take]; have := HQL.out; omega)
          clear hA2
          by_cases hqo : a < out.length
          · obtain ⟨y, hy⟩ : ∃ y, out[a]? = some y := ⟨_, List.getElem?_eq_getElem hqo⟩
            have i2 : ¬ y < x := plN_at out x y (by rw [HQ.out]; exact hy)
            obtain ⟨g1, o1, rfl, cy⟩ := (HS.out.gw hbz).at_ (numC_at hy)
            have i3 : (a : Int) < (out.length : Int) := by omega
            have l2 : (a : Int) ≤ 4000000 := by have := HN.out; have := HLT.out; have := LR.out; omega
            have HY := Lib.hid hy
            clear hy ha hbz haq
            go_upto_region 6 with fail
            go_region
            by_cases he : y = x
            · go_upto_region 8 with fail
              go_region
              go_wp2
              go_roundw
              case rel => exact ⟨j + 1, by go_num, HLT.out, by rw [HT.out, show insN out x = out by unfold insN; rw [HQ.out, if_pos (by rw [HY.out, he])]]; exact HO.out.below (by first | exact HBZ.out.drew.drew | exact HBZ.out.drew | exact HBZ.out), by first | exact BZ.out.drew.drew | exact BZ.out.drew⟩
              case measure => have := HLT.out; simp [intOf]; omega
            · have HNE := Lib.hid (show ¬ out[a]? = some x by rw [HY.out]; simpa using he)
              go_upto_region 8 with fail
              go_region
              have HIN := Lib.hid (show insN out x = out.take a ++ [x] ++ out.drop a by unfold insN; rw [HQ.out, if_neg HNE.out])
              go_upto_region 10 with (at_builtin; go_loud (refine so_append seN_ok (by rfl) (.const (.slice none 0 0)) (.tmp 47) (by rfl) _ (by rfl) (SO.nil seN wr.heap.size _) _ a c1 (numC (out.take a)) (by rfl) (P1.out _ (by first | exact HBZ.out.drew.drew | exact HBZ.out.drew)) (by have := HA2.out; omega) (by have := HBZ.out.size; simp; omega) ?_; intro v3 w3 o3 b3; have O3 := Lib.hid o3; have B3 := Lib.hid (show Below wr.heap.size wr w3 from Below.trans (by first | exact HBZ.out.drew.drew | exact HBZ.out.drew) b3); clear o3 b3))
              have cx3 := keep_below CX.out B3.out
              go_upto_region 11 with (at_builtin; go_loud (refine so_append seN_ok (by rfl) (.tmp 49) (.tmp 54) (by rfl) _ (by rfl) (O3.out.alloc _) (some ⟨w3.heap.size, 0, none⟩) 1 1 (numC [x]) (by rfl) (sb_num w3 x) (by have := HA2.out; simp; omega) (by have := B3.out.size; simp; omega) ?_; intro v4 w4 o4 b4; have O4 := Lib.hid o4; have B4 := Lib.hid (show Below wr.heap.size wr w4 from (B3.out.alloc B3.out.size _).trans b4); clear o4 b4))
              go_wp2_with (at_builtin; go_loud (refine so_append seN_ok (by rfl) (.tmp 56) (.tmp 59) (by rfl) _ (by rfl) O4.out A2 (out.length - a) (c1 - a) (numC (out.drop a)) (by rfl) (P2.out _ B4.out) (by have := HA2.out; have := LA.out; omega) B4.out.size ?_; intro v5 w5 o5 b5; have O5 := Lib.hid o5; have B5 := Lib.hid (show Below wr.heap.size wr w5 from B4.out.trans b5); clear o5 b5))
              go_roundw
              case rel => exact ⟨j + 1, by go_num, HLT.out, by rw [HT.out, HIN.out]; exact O5.out.base HB.out.size (by simp [numC]) (by simp [L1.out]; try omega), below_next HB.out B5.out⟩
              case measure => have := HLT.out; simp [intOf]; omega
          · have i3 : ¬ (a : Int) < (out.length : Int) := by omega
            have HNE := Lib.hid (show ¬ out[a]? = some x by rw [List.getElem?_eq_none (by omega)]; simp)
            clear ha hbz haq
            go_upto_region 6 with fail
            go_region
            go_upto_region 8 with fail
            go_region
            have HIN := Lib.hid (show insN out x = out.take a ++ [x] ++ out.drop a by unfold insN; rw [HQ.out, if_neg HNE.out])
            go_upto_region 10 with (at_builtin; go_loud (refine so_append seN_ok (by rfl) (.const (.slice none 0 0)) (.tmp 47) (by rfl) _ (by rfl) (SO.nil seN wr.heap.size _) _ a c1 (numC (out.take a)) (by rfl) (P1.out _ (by first | exact HBZ.out.drew.drew | exact HBZ.out.drew)) (by have := HA2.out; omega) (by have := HBZ.out.size; simp; omega) ?_; intro v3 w3 o3 b3; have O3 := Lib.hid o3; have B3 := Lib.hid (show Below wr.heap.size wr w3 from Below.trans (by first | exact HBZ.out.drew.drew | exact HBZ.out.drew) b3); clear o3 b3))
            have cx3 := keep_below CX.out B3.out
            go_upto_region 11 with (at_builtin; go_loud (refine so_append seN_ok (by rfl) (.tmp 49) (.tmp 54) (by rfl) _ (by rfl) (O3.out.alloc _) (some ⟨w3.heap.size, 0, none⟩) 1 1 (numC [x]) (by rfl) (sb_num w3 x) (by have := HA2.out; simp; omega) (by have := B3.out.size; simp; omega) ?_; intro v4 w4 o4 b4; have O4 := Lib.hid o4; have B4 := Lib.hid (show Below wr.heap.size wr w4 from (B3.out.alloc B3.out.size _).trans b4); clear o4 b4))
            go_wp2_with (at_builtin; go_loud (refine so_append seN_ok (by rfl) (.tmp 56) (.tmp 59) (by rfl) _ (by rfl) O4.out A2 (out.length - a) (c1 - a) (numC (out.drop a)) (by rfl) (P2.out _ B4.out) (by have := HA2.out; have := LA.out; omega) B4.out.size ?_; intro v5 w5 o5 b5; have O5 := Lib.hid o5; have B5 := Lib.hid (show Below wr.heap.size wr w5 from B4.out.trans b5); clear o5 b5))
            go_roundw
            case rel => exact ⟨j + 1, by go_num, HLT.out, by rw [HT.out, HIN.out]; exact O5.out.base HB.out.size (by simp [numC]) (by simp [L1.out]; try omega), below_next HB.out B5.out⟩
            case measure => have := HLT.out; simp [intOf]; omega
    · have hje : j = l.length := by omega
      subst hje
      have i1 : ¬ (l.length : Int) < (l.length : Int) := by omega
      rw [List.take_length] at ho
      have HO := Lib.hid ho
      have HB := Lib.hid hb
      clear hj hlt ho hb
      go_wp2
      go_ret
      exact ⟨_, rfl, HO.out, HB.out⟩
end Go.Proofs.Ytghnafknbgmagaa
