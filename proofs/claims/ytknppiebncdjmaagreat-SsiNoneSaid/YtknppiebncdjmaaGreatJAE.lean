import Derived.Test.YtknppiebncdjmaaGreatProg
import Derived.Test.YtknppiebncdjmaaGreatJAA
import Derived.Test.YtknppiebncdjmaaGreatSRow
import Derived.Laws.AppendOwnNone
import Derived.Deep.AppendLies
import Derived.Maps.AppendAt
import Derived.ProofKit
import Derived.Lib.AppendZerosOnto
import Derived.Deep.Cut
import Derived.Lib.SliceRun
import Derived.Deep.RegionWith
import Derived.Deep.RegionHeld3
import Derived.Deep.RegionLaw
import Derived.BigQuiet
import Derived.LoopTactic
import Derived.Laws.StructEq
import Derived.Deep.DeepAppendWide
import Derived.Test.YtknppiebncdjmaaGreatJAB
import Derived.Test.YtknppiebncdjmaaGreatDRow
import Derived.WalkLawsBesides
/- Layer 8: locks and who holds them, over plain lists; lists of structs in memory. -/
namespace Go.Proofs.YtknppiebncdjmaaGreat
set_option maxRecDepth 100000
set_option maxRecDepth 100000
open Go.RowKit

/-- A lock: its table, its key. -/
abbrev Lk := ByteArray × ByteArray
/-- A lock, and who holds it. -/
abbrev Hd := Lk × Int
def lkV (l : Lk) : Value := .agg #[.string l.1, .string l.2]
def cellsH (hs : List Hd) : List Value := hs.flatMap fun h => [Value.string h.1.1, Value.string h.1.2, Value.int .i64 h.2]
theorem cellsH_len (hs : List Hd) : (cellsH hs).length = 3 * hs.length := by
  induction hs with
  | nil => rfl
  | cons p ps ih => simp only [cellsH, List.flatMap_cons, List.length_append, List.length_cons, List.length_nil] at ih ⊢; omega
theorem cellsH_cons (p : Hd) (ps : List Hd) : cellsH (p :: ps) = Value.string p.1.1 :: Value.string p.1.2 :: Value.int .i64 p.2 :: cellsH ps := by simp [cellsH]
theorem cellsH_app (a b : List Hd) : cellsH (a ++ b) = cellsH a ++ cellsH b := by simp [cellsH]
theorem cellsH_one (ps : List Hd) : ∀ u ∈ cellsH ps, u.oneCell' = true := by
  intro u hu
  simp only [cellsH, List.mem_flatMap] at hu
  obtain ⟨p, -, hu⟩ := hu
  simp at hu
  rcases hu with rfl | rfl | rfl <;> rfl
theorem cellsH_at : ∀ (ps : List Hd) (j : Nat) (p : Hd), ps[j]? = some p → (cellsH ps)[3 * j]? = some (.string p.1.1) ∧ (cellsH ps)[3 * j + 1]? = some (.string p.1.2) ∧ (cellsH ps)[3 * j + 2]? = some (.int .i64 p.2)
  | [], _, _, h => by cases h
  | q :: ps, 0, p, h => by cases h; rw [cellsH_cons]; exact ⟨rfl, rfl, rfl⟩
  | q :: ps, j + 1, p, h => by
    have := cellsH_at ps j p h
    rw [cellsH_cons]
    exact this

/-- Are two locks one? -/
def lkEq (a b : Lk) : Bool := a.1.toList == b.1.toList && a.2.toList == b.2.toList
/-- Who holds a lock. -/
def holderP (hs : List Hd) (l : Lk) : Option Int := (hs.find? (fun h => lkEq h.1 l)).map (·.2)
/-- The reference's manager lies in block b. -/
structure RM (w : World) (b : Nat) (most : Int) (hs : List Hd) : Prop where
  ex : ∃ A c, w.heap[b]? = some (.cells #[.bool true, .int .i64 most, .slice A hs.length c] 35 (0, 0)) ∧ SB w A (3 * hs.length) (cellsH hs) ∧ hs.length ≤ c ∧ c ≤ maxLen ∧ ∀ ad, A = some ad → ad.block ≠ b
theorem RM.gw {w w' : World} {b : Nat} {most : Int} {hs : List Hd} (h : RM w b most hs) (g : Below w.heap.size w w') : RM w' b most hs := by
  obtain ⟨A, c, h1, h2, h3⟩ := h.ex
  exact ⟨A, c, (g.block b (Array.getElem?_eq_some_iff.1 h1).1).trans h1, h2.gw g, h3⟩
theorem eqLk (w : World) (a b c d : ByteArray) : (binOp .eql 42 (.agg #[.string a, .string b]) (.agg #[.string c, .string d])).run Tryz.prog w = .ok (.bool (lkEq (a, b) (c, d))) w := by
  have hs : Tryz.prog.underlying 42 = some (.struct (Tryz.prog.fieldsOf 42)) := by kernel_rfl
  have hp : Tryz.prog.stoodInHeld 42 = false := by kernel_rfl
  have hf : (Tryz.prog.fieldsOf 42).toList.map (fun f => (f.name == "_", f.type, f.offset)) = [(false, 9, 0), (false, 9, 1)] := by kernel_rfl
  have hu := Tryz.underlying9
  rw [run_eql_struct, run_equalIn_struct w 9999 _ _ _ hs hp]
  generalize (Tryz.prog.fieldsOf 42).toList = fs at hf
  obtain ⟨f, fs1, rfl, hf1, hf⟩ := List.map_eq_cons_iff.1 hf
  obtain ⟨g, fs2, rfl, hg1, hf⟩ := List.map_eq_cons_iff.1 hf
  have : fs2 = [] := by simpa using hf
  subst this
  simp only [Prod.mk.injEq] at hf1 hg1
  obtain ⟨f1, f2, f3⟩ := hf1
  obtain ⟨g1, g2, g3⟩ := hg1
  have f1' : f.name ≠ "_" := by simpa using f1
  have g1' : g.name ≠ "_" := by simpa using g1
  simp only [Op.eqFields, f1', g1', f2, f3, g2, g3, ne_eq, not_false_eq_true, if_true, Sem.run_bind]
  have e1 : (part 9 #[Value.string a, Value.string b] 0).run Tryz.prog w = .ok (.string a) w := by go_simp
  have e2 : (part 9 #[Value.string a, Value.string b] 1).run Tryz.prog w = .ok (.string b) w := by go_simp
  have e3 : (part 9 #[Value.string c, Value.string d] 0).run Tryz.prog w = .ok (.string c) w := by go_simp
  have e4 : (part 9 #[Value.string c, Value.string d] 1).run Tryz.prog w = .ok (.string d) w := by go_simp
  simp only [e1, e2, e3, e4, Result.andThen_ok, run_equalIn_string w 9998 _ _ _ hu]
  unfold lkEq
  cases h1 : (a.toList == c.toList) <;> cases h2 : (b.toList == d.toList) <;> simp [e2, e4, run_equalIn_string w 9998 _ _ _ hu, h2, Sem.run_ite]
end Go.Proofs.YtknppiebncdjmaaGreat

/- Layer 8: lists of structs that the call itself made: append. -/
namespace Go.Proofs.YtknppiebncdjmaaGreat
set_option maxRecDepth 100000
set_option maxRecDepth 100000
open Go.RowKit

def seH : SEl := ⟨33, 217, .agg #[.string ⟨#[]⟩, .string ⟨#[]⟩, .int .i64 0], 3, 40⟩
def seL : SEl := ⟨59, 42, .agg #[.string ⟨#[]⟩, .string ⟨#[]⟩], 2, 32⟩
theorem seH_ok : seH.Ok := ⟨by kernel_rfl, by kernel_rfl, by kernel_rfl, by decide, by decide, by decide⟩
theorem seL_ok : seL.Ok := ⟨by kernel_rfl, by kernel_rfl, by kernel_rfl, by decide, by decide, by decide⟩
section
variable {E : SEl} {base n : Nat} {w w' : World} {v : Value} {vs : List Value}
end
end Go.Proofs.YtknppiebncdjmaaGreat

/- Layer 8: the reference's Rise. -/
namespace Go.Proofs.YtknppiebncdjmaaGreat
set_option maxRecDepth 100000
set_option maxRecDepth 100000
open Go.RowKit

set_option maxHeartbeats 8000000 in
theorem wrRise {w : World} {A : Option Addr} {c : Nat} {l : List Int} (hl : SB w A l.length (numC l)) (hn : l.length ≤ 4000000) :
    Calls Tryz.prog 212 #[.slice A l.length c] w fun e w' => ∃ v, e = .returned v ∧ SO seN w.heap.size w' v (riseP l).length (numC (riseP l)) ∧ Below w.heap.size w w' := by
  have HL := Lib.hid hl
  have HN := Lib.hid hn
  clear hl hn
  go_enter Tryz.func212, Tryz.ntmps212
  go_upto_region 3 with fail
  go_loopw [3, 4] (fun lv i' wr => ∃ j : Nat, i' = .int .i64 (j : Nat) ∧ j ≤ l.length ∧ SO seN w.heap.size wr lv (riseP (l.take j)).length (numC (riseP (l.take j))) ∧ Below w.heap.size w wr) (fun _ i' _ => l.length - (intOf i').toNat)
  case atStart => exact ⟨0, rfl, Nat.zero_le _, SO.nil _ _ _, Below.refl _ _⟩
  case round =>
    rename World => wr
    obtain ⟨j, rfl, hj, ho, hb⟩ := hrel
    have LR := Lib.hid (rise_len l j)
    by_cases hlt : j < l.length
    · obtain ⟨x, hx⟩ : ∃ x, l[j]? = some x := ⟨_, List.getElem?_eq_getElem hlt⟩
      have HT := Lib.hid (rise_take hx)
      obtain ⟨out, hout⟩ : ∃ out, riseP (l.take j) = out := ⟨_, rfl⟩
      rw [hout] at ho LR HT
      obtain ⟨A1, c1, rfl, hsb, hnc, hcm, hbl⟩ := ho.form
      rw [show seN.s * out.length = out.length from Nat.one_mul _] at hsb
      have HO := Lib.hid ho
      have HB := Lib.hid hb
      have HS := Lib.hid hsb
      have HC := Lib.hid (And.intro hnc hcm)
      obtain ⟨g, o, rfl, cx⟩ := (HL.out.gw hb).at_ (numC_at hx)
      have CX := Lib.hid cx
      have i1 : (j : Int) < (l.length : Int) := by omega
      have l1 : (j : Int) ≤ 4000000 := by have := HN.out; omega
      have HLT := Lib.hid hlt
      obtain ⟨q, hq⟩ : ∃ q, plN out x = q := ⟨_, rfl⟩
      have HQ := Lib.hid hq
      have hql := plN_le out x
      rw [hq] at hql
      have HQL := Lib.hid hql
      clear hj hlt hx hout ho hb hsb hnc hcm hbl cx hq hql
      go_upto_region 6 with fail
      go_loopw [5] (fun a' wz => ∃ a : Nat, a' = .int .i64 (a : Nat) ∧ a ≤ q ∧ Below wr.heap.size wr wz) (fun a' _ => q - (intOf a').toNat)
      case atStart => exact ⟨0, rfl, Nat.zero_le _, Below.refl _ _⟩
      case round =>
        rename World => wz
        obtain ⟨a, rfl, ha, hbz⟩ := hrel
        have cz := keep_below CX.out hbz
        have HBZ := Lib.hid hbz
        have HA := Lib.hid ha
        by_cases haq : a < q
        · obtain ⟨y, hy⟩ : ∃ y, out[a]? = some y := ⟨_, List.getElem?_eq_getElem (by have := HQL.out; omega)⟩
          have i2 : y < x := plN_below out x a y (by rw [HQ.out]; exact haq) hy
          obtain ⟨g1, o1, rfl, cy⟩ := (HS.out.gw hbz).at_ (numC_at hy)
          have i3 : (a : Int) < (out.length : Int) := by have := HQL.out; omega
          have l2 : (a : Int) ≤ 4000000 := by have := HN.out; have := HLT.out; have := LR.out; omega
          have HAQ := Lib.hid haq
          clear hy ha hbz haq
          go_upto_region 6 with fail
          go_region
          go_wp2
          go_roundw
          case rel => exact ⟨a + 1, by go_num, HAQ.out, HBZ.out.drew⟩
          case measure => have := HAQ.out; simp [intOf]; omega
        · have haq2 : a = q := by omega
          subst haq2
          have HA2 := Lib.hid (show a ≤ 4000000 by have := HN.out; have := LR.out; have := HQL.out; omega)
          have BZ := Lib.hid (below_next HB.out hbz)
          obtain ⟨A2, hA2⟩ : ∃ A2, (if c1 = a then A1 else A1.map (·.add (a * seN.s))) = A2 := ⟨_, rfl⟩
          have q1 : ∀ W, (Instr.slice 75 (.slice A1 out.length c1) none (some (.int .i64 (a : Int))) none).run Tryz.prog W = .ok (.slice A1 a c1) W := fun W => run_uptoE seN_ok W A1 out.length c1 a (by have := HQL.out; have := HC.out.1; omega)
          have q2 : ∀ W, (Instr.slice 75 (.slice A1 out.length c1) (some (.int .i64 (a : Int))) none none).run Tryz.prog W = .ok (.slice A2 (out.length - a) (c1 - a)) W := fun W => by rw [← hA2]; exact run_fromE seN_ok W A1 out.length c1 a HQL.out HC.out.1
          have P1 := Lib.hid (show ∀ W, Below wr.heap.size wr W → SB W A1 (seN.s * a) (numC (out.take a)) from fun W hW => by
            have h1 := (HS.out.gw hW).take HQL.out
            rw [show seN.s * a = a from Nat.one_mul _, show numC (out.take a) = (numC out).take a by simp [numC]]
            exact h1)
          have P2 := Lib.hid (show ∀ W, Below wr.heap.size wr W → SB W A2 (seN.s * (out.length - a)) (numC (out.drop a)) from fun W hW => by
            have h0 : SB W A1 (seN.s * out.length) (numC out) := by rw [show seN.s * out.length = out.length from Nat.one_mul _]; exact HS.out.gw hW
            have h1 := h0.cut HQL.out HC.out.1
            rw [hA2, show seN.s * a = a from Nat.one_mul _] at h1
            rw [show numC (out.drop a) = (numC out).drop a by simp [numC]]
            exact h1)
          have LA := Lib.hid (show out.length ≤ 4000000 by have := HN.out; have := LR.out; omega)
          have L1 := Lib.hid (show (out.take a).length = a by rw [List.length_take]; have := HQL.out; omega)
          clear hA2
          by_cases hqo : a < out.length
          · obtain ⟨y, hy⟩ : ∃ y, out[a]? = some y := ⟨_, List.getElem?_eq_getElem hqo⟩
            have i2 : ¬ y < x := plN_at out x y (by rw [HQ.out]; exact hy)
            obtain ⟨g1, o1, rfl, cy⟩ := (HS.out.gw hbz).at_ (numC_at hy)
            have i3 : (a : Int) < (out.length : Int) := by omega
            have l2 : (a : Int) ≤ 4000000 := by have := HN.out; have := HLT.out; have := LR.out; omega
            have HY := Lib.hid hy
            clear hy ha hbz haq
            go_upto_region 6 with fail
            go_region
            by_cases he : y = x
            · go_upto_region 8 with fail
              go_region
              go_wp2
              go_roundw
              case rel => exact ⟨j + 1, by go_num, HLT.out, by rw [HT.out, show insN out x = out by unfold insN; rw [HQ.out, if_pos (by rw [HY.out, he])]]; exact HO.out.below (by first | exact HBZ.out.drew.drew | exact HBZ.out.drew | exact HBZ.out), by first | exact BZ.out.drew.drew | exact BZ.out.drew⟩
              case measure => have := HLT.out; simp [intOf]; omega
            · have HNE := Lib.hid (show ¬ out[a]? = some x by rw [HY.out]; simpa using he)
              go_upto_region 8 with fail
              go_region
              have HIN := Lib.hid (show insN out x = out.take a ++ [x] ++ out.drop a by unfold insN; rw [HQ.out, if_neg HNE.out])
              go_upto_region 10 with (at_builtin; go_loud (refine so_append seN_ok (by rfl) (.const (.slice none 0 0)) (.tmp 47) (by rfl) _ (by rfl) (SO.nil seN wr.heap.size _) _ a c1 (numC (out.take a)) (by rfl) (P1.out _ (by first | exact HBZ.out.drew.drew | exact HBZ.out.drew)) (by have := HA2.out; omega) (by have := HBZ.out.size; simp; omega) ?_; intro v3 w3 o3 b3; have O3 := Lib.hid o3; have B3 := Lib.hid (show Below wr.heap.size wr w3 from Below.trans (by first | exact HBZ.out.drew.drew | exact HBZ.out.drew) b3); clear o3 b3))
              have cx3 := keep_below CX.out B3.out
              go_upto_region 11 with (at_builtin; go_loud (refine so_append seN_ok (by rfl) (.tmp 49) (.tmp 54) (by rfl) _ (by rfl) (O3.out.alloc _) (some ⟨w3.heap.size, 0, none⟩) 1 1 (numC [x]) (by rfl) (sb_num w3 x) (by have := HA2.out; simp; omega) (by have := B3.out.size; simp; omega) ?_; intro v4 w4 o4 b4; have O4 := Lib.hid o4; have B4 := Lib.hid (show Below wr.heap.size wr w4 from (B3.out.alloc B3.out.size _).trans b4); clear o4 b4))
              go_wp2_with (at_builtin; go_loud (refine so_append seN_ok (by rfl) (.tmp 56) (.tmp 59) (by rfl) _ (by rfl) O4.out A2 (out.length - a) (c1 - a) (numC (out.drop a)) (by rfl) (P2.out _ B4.out) (by have := HA2.out; have := LA.out; omega) B4.out.size ?_; intro v5 w5 o5 b5; have O5 := Lib.hid o5; have B5 := Lib.hid (show Below wr.heap.size wr w5 from B4.out.trans b5); clear o5 b5))
              go_roundw
              case rel => exact ⟨j + 1, by go_num, HLT.out, by rw [HT.out, HIN.out]; exact O5.out.base HB.out.size (by simp [numC]) (by simp [L1.out]; try omega), below_next HB.out B5.out⟩
              case measure => have := HLT.out; simp [intOf]; omega
          · have i3 : ¬ (a : Int) < (out.length : Int) := by omega
            have HNE := Lib.hid (show ¬ out[a]? = some x by rw [List.getElem?_eq_none (by omega)]; simp)
            clear ha hbz haq
            go_upto_region 6 with fail
            go_region
            go_upto_region 8 with fail
            go_region
            have HIN := Lib.hid (show insN out x = out.take a ++ [x] ++ out.drop a by unfold insN; rw [HQ.out, if_neg HNE.out])
            go_upto_region 10 with (at_builtin; go_loud (refine so_append seN_ok (by rfl) (.const (.slice none 0 0)) (.tmp 47) (by rfl) _ (by rfl) (SO.nil seN wr.heap.size _) _ a c1 (numC (out.take a)) (by rfl) (P1.out _ (by first | exact HBZ.out.drew.drew | exact HBZ.out.drew)) (by have := HA2.out; omega) (by have := HBZ.out.size; simp; omega) ?_; intro v3 w3 o3 b3; have O3 := Lib.hid o3; have B3 := Lib.hid (show Below wr.heap.size wr w3 from Below.trans (by first | exact HBZ.out.drew.drew | exact HBZ.out.drew) b3); clear o3 b3))
            have cx3 := keep_below CX.out B3.out
            go_upto_region 11 with (at_builtin; go_loud (refine so_append seN_ok (by rfl) (.tmp 49) (.tmp 54) (by rfl) _ (by rfl) (O3.out.alloc _) (some ⟨w3.heap.size, 0, none⟩) 1 1 (numC [x]) (by rfl) (sb_num w3 x) (by have := HA2.out; simp; omega) (by have := B3.out.size; simp; omega) ?_; intro v4 w4 o4 b4; have O4 := Lib.hid o4; have B4 := Lib.hid (show Below wr.heap.size wr w4 from (B3.out.alloc B3.out.size _).trans b4); clear o4 b4))
            go_wp2_with (at_builtin; go_loud (refine so_append seN_ok (by rfl) (.tmp 56) (.tmp 59) (by rfl) _ (by rfl) O4.out A2 (out.length - a) (c1 - a) (numC (out.drop a)) (by rfl) (P2.out _ B4.out) (by have := HA2.out; have := LA.out; omega) B4.out.size ?_; intro v5 w5 o5 b5; have O5 := Lib.hid o5; have B5 := Lib.hid (show Below wr.heap.size wr w5 from B4.out.trans b5); clear o5 b5))
            go_roundw
            case rel => exact ⟨j + 1, by go_num, HLT.out, by rw [HT.out, HIN.out]; exact O5.out.base HB.out.size (by simp [numC]) (by simp [L1.out]; try omega), below_next HB.out B5.out⟩
            case measure => have := HLT.out; simp [intOf]; omega
    · have hje : j = l.length := by omega
      subst hje
      have i1 : ¬ (l.length : Int) < (l.length : Int) := by omega
      rw [List.take_length] at ho
      have HO := Lib.hid ho
      have HB := Lib.hid hb
      clear hj hlt ho hb
      go_wp2
      go_ret
      exact ⟨_, rfl, HO.out, HB.out⟩
end Go.Proofs.YtknppiebncdjmaaGreat

/- Layer 8: the reference's New, Less, Within. -/
namespace Go.Proofs.YtknppiebncdjmaaGreat
set_option maxRecDepth 100000
set_option maxRecDepth 100000
open Go.RowKit

/-- The order of locks. -/
def lessB (a b : Lk) : Bool := klB a.1 b.1 || (a.1.toList == b.1.toList && klB a.2 b.2)
/-- Is a key in a range? -/
def withinB (key lo hi : ByteArray) : Bool := !klB key lo && (hi.toList == [] || klB key hi)

/-- What New answers. -/
def newP (most : Int) : Value := if most < 1 ∨ 4096 < most then .tuple #[.agg #[.bool false, .int .i64 0, .slice none 0 0], .int .i64 1] else .tuple #[.agg #[.bool true, .int .i64 most, .slice none 0 0], .int .i64 0]
set_option maxHeartbeats 1000000 in
theorem wrNew (w : World) (most : Int) :
    Calls Tryz.prog 39 #[.int .i64 most] w fun e w' => e = .returned (newP most) ∧ Below w.heap.size w w' := by
  by_cases i1 : most < 1
  · have HE := Lib.hid (show newP most = _ from if_pos (.inl i1))
    go_enter Tryz.func39, Tryz.ntmps39
    go_wp2
    refine bodyPost_ret (v := .tuple #[.agg #[.bool false, .int .i64 0, .slice none 0 0], .int .i64 1]) (by simp [results, Tryz.results39, go_sem]) rfl ⟨by rw [HE.out], ?_⟩
    exact (Below.refl _ _).alloc (Nat.le_refl _) _
  · by_cases i2 : 4096 < most
    · have HE := Lib.hid (show newP most = _ from if_pos (.inr i2))
      go_enter Tryz.func39, Tryz.ntmps39
      go_wp2
      refine bodyPost_ret (v := .tuple #[.agg #[.bool false, .int .i64 0, .slice none 0 0], .int .i64 1]) (by simp [results, Tryz.results39, go_sem]) rfl ⟨by rw [HE.out], ?_⟩
      exact (Below.refl _ _).alloc (Nat.le_refl _) _
    · have HE := Lib.hid (show newP most = _ from if_neg (by omega))
      go_enter Tryz.func39, Tryz.ntmps39
      go_wp2
      refine bodyPost_ret (v := .tuple #[.agg #[.bool true, .int .i64 most, .slice none 0 0], .int .i64 0]) (by simp [results, Tryz.results39, go_sem]) rfl ⟨by rw [HE.out], ?_⟩
      exact (Below.refl _ _).alloc (Nat.le_refl _) _

set_option maxHeartbeats 1000000 in
theorem wrWithin (w : World) (key lo hi : ByteArray) :
    Calls Tryz.prog 191 #[.string key, .string lo, .string hi] w fun e w' => e = .returned (.bool (withinB key lo hi)) ∧ w' = w := by
  cases h1 : klB key lo <;> cases h2 : (hi.toList == []) <;> cases h3 : klB key hi
  all_goals
    have HE := Lib.hid (show withinB key lo hi = _ by unfold withinB; rw [h1, h2, h3])
    unfold klB at h1 h3
    go_enter Tryz.func191, Tryz.ntmps191
    go_wp2
    go_ret
    exact ⟨by rw [HE.out] <;> rfl, rfl⟩

set_option maxHeartbeats 2000000 in
theorem wrLess (w : World) (a b : Lk) :
    Calls Tryz.prog 153 #[lkV a, lkV b] w fun e w' => e = .returned (.bool (lessB a b)) ∧ Below w.heap.size w w' := by
  have HB := Lib.hid (show Below w.heap.size w ((w.alloc (.cells #[.string a.1, .string a.2] 42)).alloc (.cells #[.string b.1, .string b.2] 42)) from ((Below.refl _ _).alloc (Nat.le_refl _) _).alloc (by simp) _)
  unfold lkV
  cases h1 : klB a.1 b.1 <;> cases h2 : (a.1.toList == b.1.toList) <;> cases h3 : klB a.2 b.2
  all_goals
    have HE := Lib.hid (show lessB a b = _ by unfold lessB; rw [h1, h2, h3])
    unfold klB at h1 h3
    go_enter Tryz.func153, Tryz.ntmps153
    go_wp2
    go_ret
    exact ⟨by rw [HE.out] <;> rfl, HB.out⟩
end Go.Proofs.YtknppiebncdjmaaGreat

/- Layer 8: the reference's Holders. -/
namespace Go.Proofs.YtknppiebncdjmaaGreat
set_option maxRecDepth 100000
set_option maxRecDepth 100000
open Go.RowKit

def inH (table lo hi : ByteArray) (h : Hd) : Bool := h.1.1.toList == table.toList && withinB h.1.2 lo hi
/-- Who holds a row of a range, in the order of the list. -/
def whoP (hs : List Hd) (table lo hi : ByteArray) : List Int := (hs.filter (inH table lo hi)).map (·.2)
theorem whoP_take {hs : List Hd} {table lo hi : ByteArray} {j : Nat} {p : Hd} (hp : hs[j]? = some p) : whoP (hs.take (j + 1)) table lo hi = whoP (hs.take j) table lo hi ++ (if inH table lo hi p then [p.2] else []) := by
  unfold whoP
  rw [List.take_add_one, hp, List.filter_append, List.map_append]
  congr 1
  by_cases h : inH table lo hi p = true <;> simp [h]
theorem whoP_len (hs : List Hd) (table lo hi : ByteArray) (j : Nat) : (whoP (hs.take j) table lo hi).length ≤ hs.length := by
  unfold whoP
  rw [List.length_map]
  have h1 := List.length_filter_le (inH table lo hi) (hs.take j)
  have h2 := List.length_take_le' j hs
  omega

set_option maxHeartbeats 8000000 in
theorem wrHolders {w : World} {b : Nat} {most : Int} {hs : List Hd} (h : RM w b most hs) (hn : hs.length ≤ 4000000) (table lo hi : ByteArray) :
    Calls Tryz.prog 190 #[.pointer (some ⟨b, 0, none⟩), .string table, .string lo, .string hi] w fun e w' => ∃ v, e = .returned v ∧ SO seN w.heap.size w' v (riseP (whoP hs table lo hi)).length (numC (riseP (whoP hs table lo hi))) ∧ Below w.heap.size w w' := by
  obtain ⟨A, c, h1, h2, h3, h4, h5⟩ := h.ex
  have H1 := Lib.hid h1
  have HS := Lib.hid h2
  have HN := Lib.hid hn
  have HBS := Lib.hid (Array.getElem?_eq_some_iff.1 h1).1
  have CW := Lib.hid fun W k => wrWithin W k lo hi
  clear h h1 h2 h3 h4 h5 hn
  go_enter Tryz.func190, Tryz.ntmps190
  go_upto_region 3 with fail
  go_loopw [9, 10] (fun lv i' wr => ∃ j : Nat, i' = .int .i64 (j : Nat) ∧ j ≤ hs.length ∧ SO seN w.heap.size wr lv (whoP (hs.take j) table lo hi).length (numC (whoP (hs.take j) table lo hi)) ∧ Below w.heap.size w wr) (fun _ i' _ => hs.length - (intOf i').toNat)
  case atStart => exact ⟨0, rfl, Nat.zero_le _, SO.nil _ _ _, Below.refl _ _⟩
  case round =>
    rename World => wr
    obtain ⟨j, rfl, hj, ho, hb⟩ := hrel
    have HO := Lib.hid ho
    have HB := Lib.hid hb
    have c2 : wr.cell? ⟨b, 2, none⟩ = some (.slice A hs.length c) := cell_of_row _ _ 2 _ _ _ ((hb.block b HBS.out).trans H1.out)
    have HS2 := Lib.hid (HS.out.gw hb)
    have LL := Lib.hid (whoP_len hs table lo hi j)
    clear ho hb
    by_cases hlt : j < hs.length
    · obtain ⟨p, hp⟩ : ∃ p, hs[j]? = some p := ⟨_, List.getElem?_eq_getElem hlt⟩
      obtain ⟨g, o, rfl, c0⟩ := HS2.out.at_ (cellsH_at _ _ _ hp).1
      obtain ⟨g1, o1, e1, c1⟩ := HS2.out.at_ (cellsH_at _ _ _ hp).2.1
      obtain ⟨g2, o2, e2, c3⟩ := HS2.out.at_ (cellsH_at _ _ _ hp).2.2
      cases e1; cases e2
      rw [Nat.mul_comm] at c0 c1 c3
      rw [← Nat.add_assoc] at c1 c3
      have i1 : (j : Int) < (hs.length : Int) := by omega
      have l1 : (j : Int) ≤ 10000000 := by have := HN.out; omega
      have HLT := Lib.hid hlt
      have HT := Lib.hid (whoP_take (table := table) (lo := lo) (hi := hi) hp)
      clear hj hlt hp
      cases ht : (p.1.1.toList == table.toList)
      · have HE := Lib.hid (show inH table lo hi p = false by unfold inH; rw [ht]; rfl)
        go_wp2
        go_roundw
        case rel => exact ⟨j + 1, by go_num, HLT.out, by rw [HT.out, HE.out]; simp only [Bool.false_eq_true, if_false, List.append_nil]; exact HO.out, HB.out⟩
        case measure => have := HLT.out; simp [intOf]; omega
      · cases hw : withinB p.1.2 lo hi
        · have HE := Lib.hid (show inH table lo hi p = false by unfold inH; rw [ht, hw]; rfl)
          go_wp2_with (go_at_call 191; go_loud (refine (CW.out _ _).mono ?_; rintro e w1 ⟨rfl, hw1⟩; replace hw1 := hw1.symm; subst hw1; rw [hw]))
          go_roundw
          case rel => exact ⟨j + 1, by go_num, HLT.out, by rw [HT.out, HE.out]; simp only [Bool.false_eq_true, if_false, List.append_nil]; exact HO.out, HB.out⟩
          case measure => have := HLT.out; simp [intOf]; omega
        · have HE := Lib.hid (show inH table lo hi p = true by unfold inH; rw [ht, hw]; rfl)
          go_wp2_with (first
            | (go_at_call 191; go_loud (refine (CW.out _ _).mono ?_; rintro e w1 ⟨rfl, hw1⟩; replace hw1 := hw1.symm; subst hw1; rw [hw]))
            | (at_builtin; go_loud (refine so_append seN_ok (by rfl) (.tmp 45) (.tmp 54) (by rfl) _ (by rfl) (HO.out.alloc _) (some ⟨wr.heap.size, 0, none⟩) 1 1 (numC [p.2]) (by rfl) (sb_num wr p.2) (by have := LL.out; have := HN.out; simp; omega) (by have := HB.out.size; simp; omega) ?_; intro v3 w3 o3 b3; have O3 := Lib.hid o3; have B3 := Lib.hid b3; clear o3 b3)))
          go_roundw
          case rel => exact ⟨j + 1, by go_num, HLT.out, by rw [HT.out, HE.out]; simp only [if_true]; exact O3.out.base (Nat.le_refl _) (by simp [numC]) (by simp), (HB.out.alloc HB.out.size _).trans B3.out⟩
          case measure => have := HLT.out; simp [intOf]; omega
    · have hje : j = hs.length := by omega
      subst hje
      have i1 : ¬ (hs.length : Int) < (hs.length : Int) := by omega
      rw [List.take_length] at HO LL
      obtain ⟨A2, c', rfl, hsb, -, -, -⟩ := HO.out.form
      rw [show seN.s * (whoP hs table lo hi).length = (whoP hs table lo hi).length from Nat.one_mul _] at hsb
      have CR := Lib.hid (wrRise (c := c') hsb (by have := LL.out; have := HN.out; omega))
      clear hj hlt hsb
      go_wp2_with (go_at_call 212; go_loud (refine CR.out.mono ?_; rintro e w1 ⟨v1, rfl, ho1, hb1⟩; have O1 := Lib.hid ho1; have B1 := Lib.hid hb1; clear ho1 hb1))
      go_ret
      exact ⟨_, rfl, O1.out.base HB.out.size rfl rfl, below_next HB.out B1.out⟩
end Go.Proofs.YtknppiebncdjmaaGreat
