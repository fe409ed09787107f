/- The reference's call of take. -/
import Derived.Test.YtiappioofagpgaaDoorFromKey
namespace Go.Proofs.YtiappioofagpgaaDoor
open Go.RowKit

def TakeRet (p : Nat) (k : Int) (o : Option (KV × Nat)) : Value :=
  match o with
  | none => .tuple #[vA k 0 false ⟨#[]⟩ 0 0, .int .i64 (-1)]
  | some x => .tuple #[vKV x.1, .int .i64 (p + x.2 : Nat)]

set_option maxHeartbeats 4000000 in
set_option maxRecDepth 100000 in
theorem take_noint (s : ByteArray) (p : Nat) (w : World) (hs : s.size ≤ 140737488351232) (hp : p < s.size) (hc : ((s[p]).toNat : Int) = 1) (h9 : s.size < p + 9) :
    Calls Tryd.prog 12 #[.string s, .int .i64 p] w fun e w' => e = .returned (.tuple #[vA 1 0 false ⟨#[]⟩ 0 0, .int .i64 (-1)]) ∧ Below w.heap.size w w' := by
  have hst := run_store_complex Tryd.prog
  unfold vA
  go_enter Tryd.func12, Tryd.ntmps12
  go_wp2
  refine bodyPost_ret (v := .tuple #[.agg #[.int .i64 1, .int .i64 0, .bool false, .string ⟨#[]⟩, .complex .f64 0 0], .int .i64 (-1)]) (by simp [results, Tryd.results12, go_sem]; try first | omega | exact ⟨rfl, by omega⟩) rfl ?_
  exact ⟨rfl, by repeat (first | exact (Below.refl _ _).alloc (Nat.le_refl _) _ | refine Below.alloc ?_ (by simp) _ | refine Below.setCell ?_ (by simp) _)⟩

set_option maxHeartbeats 4000000 in
set_option maxRecDepth 100000 in
theorem take_int (s : ByteArray) (p : Nat) (w : World) (hs : s.size ≤ 140737488351232) (hp : p < s.size) (hc : ((s[p]).toNat : Int) = 1) (h9 : p + 9 ≤ s.size) :
    Calls Tryd.prog 12 #[.string s, .int .i64 p] w fun e w' => e = .returned (.tuple #[vA 1 (keyI (num8 ((strB s).drop (p + 1)) 8)) false ⟨#[]⟩ 0 0, .int .i64 ((p + 9 : Nat))]) ∧ Below w.heap.size w w' := by
  have hst := run_store_complex Tryd.prog
  unfold vA
  have HL : ((strB s).drop (p + 1)).length = s.size - (p + 1) := by rw [List.length_drop, strB_len]
  have HBY : ∀ z ∈ (strB s).drop (p + 1), 0 ≤ z ∧ z ≤ 255 := fun z hz => strB_byte s z (List.mem_of_mem_drop hz)
  have HG := Lib.hid fun k (hk : p + 1 + k < s.size) => show ((strB s).drop (p + 1)).getD k 0 = (s[p + 1 + k].toNat : Int) by
    rw [List.getD_eq_getElem?_getD, List.getElem?_drop, ← List.getD_eq_getElem?_getD]; exact strB_get s _ hk
  generalize (strB s).drop (p + 1) = L at HL HBY HG ⊢
  have HN := Lib.hid fun k (hk : k < L.length) => num8_succ L k hk
  have HB := Lib.hid fun k (hk : k ≤ L.length) => num8_bd L HBY k hk
  have HL2 := Lib.hid HL
  clear HL HBY
  go_enter Tryd.func12, Tryd.ntmps12
  go_wp2
  go_loop [7, 8] (fun u i => ∃ k : Nat, k ≤ 8 ∧ i = .int .i64 k ∧ u = .int .u64 (num8 L k)) (fun _ i => 8 - (intOf i).toNat)
  case atStart => exact ⟨0, by omega, rfl, rfl⟩
  case round =>
    obtain ⟨k, hk, rfl, rfl⟩ := hrel
    by_cases hlt : k < 8
    · have hks : p + 1 + k < s.size := by omega
      have hbd := HB.out k (by rw [HL2.out]; omega)
      have hpw := pow_256 k hlt
      have hn := Lib.hid (HN.out k (by rw [HL2.out]; omega))
      have hg := Lib.hid (HG.out k hks)
      have hb1 : num8 L k < 72057594037927936 := Int.lt_of_lt_of_le hbd.2 hpw
      have hb0 := hbd.1
      have hc0 : ((s[p + 1 + k]).toNat : Int) ≤ 255 := by have := (s[p + 1 + k]).toNat_lt; omega
      clear hbd hpw
      go_wp2
      go_round
      case rel => exact ⟨k + 1, by omega, by go_num, by rw [hn.out, hg.out]⟩
      case measure => simp [intOf]; omega
    · have : k = 8 := by omega
      subst this
      go_wp2
      refine bodyPost_ret (v := .tuple #[.agg #[.int .i64 1, .int .i64 (keyI (num8 L 8)), .bool false, .string ⟨#[]⟩, .complex .f64 0 0], .int .i64 ((p + 9 : Nat))]) (by simp [results, Tryd.results12, go_sem]; try first | omega | exact ⟨rfl, by omega⟩) rfl ?_
      exact ⟨rfl, by repeat (first | exact (Below.refl _ _).alloc (Nat.le_refl _) _ | refine Below.alloc ?_ (by simp) _ | refine Below.setCell ?_ (by simp) _)⟩

set_option maxHeartbeats 4000000 in
set_option maxRecDepth 100000 in
theorem take_bool (s : ByteArray) (p : Nat) (w : World) (hs : s.size ≤ 140737488351232) (hp : p < s.size) (hc : ((s[p]).toNat : Int) = 2) (h2 : p + 1 < s.size) (hd : ((s[p + 1]).toNat : Int) ≤ 1) :
    Calls Tryd.prog 12 #[.string s, .int .i64 p] w fun e w' => e = .returned (.tuple #[vA 2 0 (((s[p + 1]).toNat : Int) == 1) ⟨#[]⟩ 0 0, .int .i64 ((p + 2 : Nat))]) ∧ Below w.heap.size w w' := by
  have hst := run_store_complex Tryd.prog
  unfold vA
  go_enter Tryd.func12, Tryd.ntmps12
  go_wp2
  refine bodyPost_ret (v := .tuple #[.agg #[.int .i64 2, .int .i64 0, .bool (((s[p + 1]).toNat : Int) == 1), .string ⟨#[]⟩, .complex .f64 0 0], .int .i64 ((p + 2 : Nat))]) (by simp [results, Tryd.results12, go_sem]; try first | omega | exact ⟨rfl, by omega⟩) rfl ?_
  exact ⟨rfl, by repeat (first | exact (Below.refl _ _).alloc (Nat.le_refl _) _ | refine Below.alloc ?_ (by simp) _ | refine Below.setCell ?_ (by simp) _)⟩

set_option maxHeartbeats 4000000 in
set_option maxRecDepth 100000 in
theorem take_nobool (s : ByteArray) (p : Nat) (w : World) (hs : s.size ≤ 140737488351232) (hp : p < s.size) (hc : ((s[p]).toNat : Int) = 2) (h2 : p + 1 < s.size) (hd : 1 < ((s[p + 1]).toNat : Int)) :
    Calls Tryd.prog 12 #[.string s, .int .i64 p] w fun e w' => e = .returned (.tuple #[vA 2 0 false ⟨#[]⟩ 0 0, .int .i64 (-1)]) ∧ Below w.heap.size w w' := by
  have hst := run_store_complex Tryd.prog
  unfold vA
  go_enter Tryd.func12, Tryd.ntmps12
  go_wp2
  refine bodyPost_ret (v := .tuple #[.agg #[.int .i64 2, .int .i64 0, .bool false, .string ⟨#[]⟩, .complex .f64 0 0], .int .i64 (-1)]) (by simp [results, Tryd.results12, go_sem]; try first | omega | exact ⟨rfl, by omega⟩) rfl ?_
  exact ⟨rfl, by repeat (first | exact (Below.refl _ _).alloc (Nat.le_refl _) _ | refine Below.alloc ?_ (by simp) _ | refine Below.setCell ?_ (by simp) _)⟩

set_option maxHeartbeats 4000000 in
set_option maxRecDepth 100000 in
theorem take_empty (s : ByteArray) (p : Nat) (w : World) (hs : s.size ≤ 140737488351232) (hp : p < s.size) (hc : ((s[p]).toNat : Int) = 2) (h2 : p + 1 = s.size) :
    Calls Tryd.prog 12 #[.string s, .int .i64 p] w fun e w' => e = .returned (.tuple #[vA 2 0 false ⟨#[]⟩ 0 0, .int .i64 (-1)]) ∧ Below w.heap.size w w' := by
  have hst := run_store_complex Tryd.prog
  unfold vA
  have hge : (s.size : Int) ≤ (p : Int) + 1 := by omega
  clear h2
  go_enter Tryd.func12, Tryd.ntmps12
  go_wp2
  refine bodyPost_ret (v := .tuple #[.agg #[.int .i64 2, .int .i64 0, .bool false, .string ⟨#[]⟩, .complex .f64 0 0], .int .i64 (-1)]) (by simp [results, Tryd.results12, go_sem]; try first | omega | exact ⟨rfl, by omega⟩) rfl ?_
  exact ⟨rfl, by repeat (first | exact (Below.refl _ _).alloc (Nat.le_refl _) _ | refine Below.alloc ?_ (by simp) _ | refine Below.setCell ?_ (by simp) _)⟩

set_option maxHeartbeats 4000000 in
set_option maxRecDepth 100000 in
theorem take_other (s : ByteArray) (p : Nat) (w : World) (hs : s.size ≤ 140737488351232) (hp : p < s.size) (hc1 : ((s[p]).toNat : Int) ≠ 1) (hc2 : ((s[p]).toNat : Int) ≠ 2) (hc3 : ((s[p]).toNat : Int) ≠ 3) :
    Calls Tryd.prog 12 #[.string s, .int .i64 p] w fun e w' => e = .returned (.tuple #[vA ((s[p]).toNat : Int) 0 false ⟨#[]⟩ 0 0, .int .i64 (-1)]) ∧ Below w.heap.size w w' := by
  have hst := run_store_complex Tryd.prog
  unfold vA
  have g1 : (((s[p]).toNat : Int) == 1) = false := by simpa using hc1
  have g2 : (((s[p]).toNat : Int) == 2) = false := by simpa using hc2
  have g3 : (((s[p]).toNat : Int) == 3) = false := by simpa using hc3
  have hb2 : ((s[p]).toNat : Int) ≤ 255 := by have := (s[p]).toNat_lt; omega
  clear hc1 hc2 hc3
  go_enter Tryd.func12, Tryd.ntmps12
  go_wp2
  refine bodyPost_ret (v := .tuple #[.agg #[.int .i64 ((s[p]).toNat : Int), .int .i64 0, .bool false, .string ⟨#[]⟩, .complex .f64 0 0], .int .i64 (-1)]) (by simp [results, Tryd.results12, go_sem]; try first | omega | exact ⟨rfl, by omega⟩) rfl ?_
  exact ⟨rfl, by repeat (first | exact (Below.refl _ _).alloc (Nat.le_refl _) _ | refine Below.alloc ?_ (by simp) _ | refine Below.setCell ?_ (by simp) _)⟩

/-- What the reference's take leaves of bytes. -/
def TakeB (s : ByteArray) (p : Nat) (w : World) (e : Ending) (w' : World) : Prop :=
  match esc ((strB s).drop (p + 1)) with
  | none => e = .returned (.tuple #[vA 3 0 false ⟨#[]⟩ 0 0, .int .i64 (-1)]) ∧ Below w.heap.size w w'
  | some x => e = .returned (.tuple #[vA 3 0 false (strOfNums x.1) 0 0, .int .i64 (p + (1 + x.2) : Nat)]) ∧ Below w.heap.size w w'
theorem TakeB.no {s : ByteArray} {p : Nat} {w w' : World} {e : Ending} (h : esc ((strB s).drop (p + 1)) = none) (he : e = .returned (.tuple #[vA 3 0 false ⟨#[]⟩ 0 0, .int .i64 (-1)])) (hb : Below w.heap.size w w') : TakeB s p w e w' := by
  unfold TakeB; rw [h]; exact ⟨he, hb⟩
theorem TakeB.yes {s : ByteArray} {p : Nat} {w w' : World} {e : Ending} {b : List Int} {n : Nat} (h : esc ((strB s).drop (p + 1)) = some (b, n)) (he : e = .returned (.tuple #[vA 3 0 false (strOfNums b) 0 0, .int .i64 (p + (1 + n) : Nat)])) (hb : Below w.heap.size w w') : TakeB s p w e w' := by
  unfold TakeB; rw [h]; exact ⟨he, hb⟩
theorem below5 {B g : Nat} {w w' : World} {a b c d e : Value} (h : Below B w w') (hg : B ≤ g) : Below B w (((((w'.setCell ⟨g, 0, none⟩ a).setCell ⟨g, 1, none⟩ b).setCell ⟨g, 2, none⟩ c).setCell ⟨g, 3, none⟩ d).setCell ⟨g, 4, none⟩ e) :=
  ((((h.setCell hg _).setCell hg _).setCell hg _).setCell hg _).setCell hg _

set_option maxHeartbeats 8000000 in
set_option maxRecDepth 100000 in
theorem take_bytes (s : ByteArray) (p : Nat) (w : World) (hs : s.size ≤ 140737488351232) (hp : p < s.size) (hc : ((s[p]).toNat : Int) = 3) :
    Calls Tryd.prog 12 #[.string s, .int .i64 p] w (TakeB s p w) := by
  have hst := run_store_complex Tryd.prog
  go_enter Tryd.func12, Tryd.ntmps12
  go_wp2
  generalize hW : (w.alloc (.cells #[.int .i64 0, .int .i64 0, .bool false, .string ⟨#[]⟩, .complex .f64 0 0] 34)).alloc (.cells #[.int .i64 3, .int .i64 0, .bool false, .string ⟨#[]⟩, .complex .f64 0 0] 34) = W
  have r0 : W.heap[w.heap.size]? = some (.cells #[.int .i64 0, .int .i64 0, .bool false, .string ⟨#[]⟩, .complex .f64 0 0] 34 (0, 0)) := by subst hW; exact heap_alloc2_old _ _ _
  have r1 : W.heap[w.heap.size + 1]? = some (.cells #[.int .i64 3, .int .i64 0, .bool false, .string ⟨#[]⟩, .complex .f64 0 0] 34 (0, 0)) := by subst hW; exact heap_alloc2_new _ _ _
  have hz : w.heap.size + 1 < W.heap.size := by subst hW; simp
  have hbW : Below w.heap.size w W := by subst hW; exact ((Below.refl _ _).alloc (Nat.le_refl _) _).alloc (by simp) _
  clear hW
  have R0 := Lib.hid r0
  have R1 := Lib.hid r1
  clear r0 r1
  go_loopw [1, 9] (fun i v wr => ∃ (zs : List Int) (k : Nat), OB W.heap.size wr v zs ∧ i = .int .i64 k ∧ p + 1 ≤ k ∧ k ≤ s.size ∧ zs.length ≤ k ∧ Below W.heap.size W wr ∧ Hid (esc ((strB s).drop (p + 1)) = escS zs (k - (p + 1)) ((strB s).drop k))) (fun i _ _ => s.size - (intOf i).toNat)
  case atStart => exact ⟨[], p + 1, OB.nil _ _, by go_num, Nat.le_refl _, by omega, by simp, Below.refl _ _, Lib.hid (by rw [Nat.sub_self, escS_start])⟩
  case round =>
    obtain ⟨zs, k, hown, rfl, hpk, hk, hzk, hb, HR⟩ := hrel
    have hsz := hb.size
    have q0 := (hb.block w.heap.size (by omega)).trans R0.out
    have q1 := (hb.block (w.heap.size + 1) (by omega)).trans R1.out
    obtain ⟨⟨c0, c1, c2, c3, c4⟩, f0, f1, f2, f3, f4⟩ := row5 q0
    obtain ⟨⟨d0, d1, d2, d3, d4⟩, g0, g1, g2, g3, g4⟩ := row5 q1
    clear q0 q1
    have HBW := Lib.hid (below_next hbW hb)
    have HZW := Lib.hid (show w.heap.size + 1 < wr.heap.size by omega)
    by_cases hlt : k < s.size
    · have HD := Lib.hid (strB_drop s k hlt)
      have hcb : 0 ≤ ((s[k]).toNat : Int) ∧ ((s[k]).toNat : Int) ≤ 255 := ⟨by omega, by have := (s[k]).toNat_lt; omega⟩
      rcases hc0 : (((s[k]).toNat : Int) != 0) with _ | _
      · have hcz : ((s[k]).toNat : Int) = 0 := by simpa using hc0
        have HZ := Lib.hid hcz
        clear hcz
        by_cases hlt2 : k + 1 < s.size
        · have HD2 := Lib.hid (strB_drop s (k + 1) hlt2)
          rcases hd0 : (((s[k + 1]).toNat : Int) == 0) with _ | _
          · have hdz : ((s[k + 1]).toNat : Int) ≠ 0 := by simpa using hd0
            rcases hd1 : (((s[k + 1]).toNat : Int) != 255) with _ | _
            · have hd255 : ((s[k + 1]).toNat : Int) = 255 := by simpa using hd1
              have HR2 : Hid (esc ((strB s).drop (p + 1)) = escS (zs ++ [0]) (k + 2 - (p + 1)) ((strB s).drop (k + 2))) := Lib.hid (by
                rw [HR.out, HD.out, HD2.out, HZ.out, hd255, escS_own]; congr 1; omega)
              clear hd255 hdz c0 c1 c2 c3 c4 d0 d1 d2 d3 d4 f0 f1 f2 f3 f4 g0 g1 g2 g3 g4
              go_wp2_with (at_builtin; refine ob_append rfl (.tmp 109) (.tmp 110) rfl W.heap.size _ zs rfl (hown.alloc _) _ 1 1 [0] rfl (rb_one1 wr 0 (by omega)) (by omega) (by simp; omega) ?_; intro v' w1 hown' hb1 hg1)
              go_roundw
              case rel => exact ⟨_, k + 2, hown', by go_num, by omega, by omega, by simp; omega, (hb.alloc hsz _).trans hb1, HR2⟩
              case measure => simp [intOf]; omega
            · have hd255 : ((s[k + 1]).toNat : Int) ≠ 255 := by simpa using hd1
              have HR2 : Hid (esc ((strB s).drop (p + 1)) = none) := Lib.hid (by rw [HR.out, HD.out, HD2.out, HZ.out, escS_bad _ _ _ _ hdz hd255])
              clear hd255 hdz
              go_wp2
              refine bodyPost_ret (v := .tuple #[.agg #[.int .i64 3, .int .i64 0, .bool false, .string ⟨#[]⟩, .complex .f64 0 0], .int .i64 (-1)]) (by simp [results, Tryd.results12, go_sem, c0, c1, c2, c3, c4]) rfl ?_
              exact TakeB.no HR2.out rfl (below5 HBW.out (Nat.le_refl _))
          · have hdz : ((s[k + 1]).toNat : Int) = 0 := by simpa using hd0
            have HR2 : Hid (esc ((strB s).drop (p + 1)) = some (zs, k + 2 - (p + 1))) := Lib.hid (by rw [HR.out, HD.out, HD2.out, HZ.out, hdz, escS_end]; congr 2; omega)
            obtain ⟨A, c, rfl, hr, hc1, hm1⟩ := hown.form
            have hcv := rb_str hr c
            clear hdz hr
            go_wp2
            refine bodyPost_ret (v := .tuple #[.agg #[.int .i64 3, .int .i64 0, .bool false, .string (strOfNums zs), .complex .f64 0 0], .int .i64 (p + (1 + (k + 2 - (p + 1))) : Nat)]) (by simp [results, Tryd.results12, go_sem, c0, c1, c2, c3, c4]; try omega) rfl ?_
            exact TakeB.yes HR2.out rfl (below5 (HBW.out.setCell (Nat.le_succ _) _) (Nat.le_refl _))
        · have hke : k + 1 = s.size := by omega
          have HR2 : Hid (esc ((strB s).drop (p + 1)) = none) := Lib.hid (by
            rw [HR.out, HD.out, HZ.out, List.drop_eq_nil_of_le (by rw [strB_len]; omega), escS_one])
          clear hke
          go_wp2
          refine bodyPost_ret (v := .tuple #[.agg #[.int .i64 3, .int .i64 0, .bool false, .string ⟨#[]⟩, .complex .f64 0 0], .int .i64 (-1)]) (by simp [results, Tryd.results12, go_sem, c0, c1, c2, c3, c4]) rfl ?_
          exact TakeB.no HR2.out rfl (below5 HBW.out (Nat.le_refl _))
      · have hcz : ((s[k]).toNat : Int) ≠ 0 := by simpa using hc0
        have HR2 : Hid (esc ((strB s).drop (p + 1)) = escS (zs ++ [((s[k]).toNat : Int)]) (k + 1 - (p + 1)) ((strB s).drop (k + 1))) := Lib.hid (by rw [HR.out, HD.out, escS_step _ _ _ _ hcz]; congr 1; omega)
        clear hcz c0 c1 c2 c3 c4 d0 d1 d2 d3 d4 f0 f1 f2 f3 f4 g0 g1 g2 g3 g4
        go_wp2_with (at_builtin; refine ob_append rfl (.tmp 78) (.tmp 82) rfl W.heap.size _ zs rfl (hown.alloc _) _ 1 1 [((s[k]).toNat : Int)] rfl (rb_one1 wr _ hcb) (by omega) (by simp; omega) ?_; intro v' w1 hown' hb1 hg1)
        go_roundw
        case rel => exact ⟨_, k + 1, hown', by go_num, by omega, by omega, by simp; omega, (hb.alloc hsz _).trans hb1, HR2⟩
        case measure => simp [intOf]; omega
    · have HR2 : Hid (esc ((strB s).drop (p + 1)) = none) := Lib.hid (by rw [HR.out, List.drop_eq_nil_of_le (by rw [strB_len]; omega), escS_nil])
      go_wp2
      refine bodyPost_ret (v := .tuple #[.agg #[.int .i64 3, .int .i64 0, .bool false, .string ⟨#[]⟩, .complex .f64 0 0], .int .i64 (-1)]) (by simp [results, Tryd.results12, go_sem, c0, c1, c2, c3, c4]) rfl ?_
      exact TakeB.no HR2.out rfl (below5 HBW.out (Nat.le_refl _))

theorem take_is (s : ByteArray) (p : Nat) (w : World) (hs : s.size ≤ 140737488351232) (hp : p < s.size) :
    Calls Tryd.prog 12 #[.string s, .int .i64 p] w fun e w' => (∃ k, e = .returned (TakeRet p k (tkR ((strB s).drop p)))) ∧ Below w.heap.size w w' := by
  have hd := strB_drop s p hp
  have hl : ((strB s).drop (p + 1)).length = s.size - (p + 1) := by rw [List.length_drop, strB_len]
  rw [hd]
  have hgd : ∀ (h : p + 1 < s.size), ((strB s).drop (p + 1)).getD 0 0 = ((s[p + 1]).toNat : Int) := by
    intro h
    rw [List.getD_eq_getElem?_getD, List.getElem?_drop, ← List.getD_eq_getElem?_getD]
    exact strB_get s (p + 1) h
  by_cases c1 : ((s[p]).toNat : Int) = 1
  · by_cases h9 : p + 9 ≤ s.size
    · have e : tkR (((s[p]).toNat : Int) :: (strB s).drop (p + 1)) = some (⟨1, keyI (num8 ((strB s).drop (p + 1)) 8), false, []⟩, 9) := by
        rw [c1]; simp only [tkR, if_true, hl]; rw [if_pos (by omega)]
      rw [e]
      exact (take_int s p w hs hp c1 h9).mono fun e w' ⟨he, hb⟩ => ⟨⟨0, he⟩, hb⟩
    · have e : tkR (((s[p]).toNat : Int) :: (strB s).drop (p + 1)) = none := by
        rw [c1]; simp only [tkR, if_true, hl]; rw [if_neg (by omega)]
      rw [e]
      exact (take_noint s p w hs hp c1 (by omega)).mono fun e w' ⟨he, hb⟩ => ⟨⟨1, he⟩, hb⟩
  · by_cases c2 : ((s[p]).toNat : Int) = 2
    · by_cases h2 : p + 1 < s.size
      · have hg := hgd h2
        by_cases hd1 : ((s[p + 1]).toNat : Int) ≤ 1
        · have e : tkR (((s[p]).toNat : Int) :: (strB s).drop (p + 1)) = some (⟨2, 0, ((s[p + 1]).toNat : Int) == 1, []⟩, 2) := by
            rw [c2]; simp only [tkR, if_true, hl, hg]; rw [if_neg (by omega), if_pos ⟨by omega, hd1⟩]
          rw [e]
          exact (take_bool s p w hs hp c2 h2 hd1).mono fun e w' ⟨he, hb⟩ => ⟨⟨0, he⟩, hb⟩
        · have e : tkR (((s[p]).toNat : Int) :: (strB s).drop (p + 1)) = none := by
            rw [c2]; simp only [tkR, if_true, hl, hg]; rw [if_neg (by omega), if_neg (by omega)]
          rw [e]
          exact (take_nobool s p w hs hp c2 h2 (by omega)).mono fun e w' ⟨he, hb⟩ => ⟨⟨2, he⟩, hb⟩
      · have e : tkR (((s[p]).toNat : Int) :: (strB s).drop (p + 1)) = none := by
          rw [c2]; simp only [tkR, if_true, hl]; rw [if_neg (by omega), if_neg (by omega)]
        rw [e]
        exact (take_empty s p w hs hp c2 (by omega)).mono fun e w' ⟨he, hb⟩ => ⟨⟨2, he⟩, hb⟩
    · by_cases c3 : ((s[p]).toNat : Int) = 3
      · have e : tkR (((s[p]).toNat : Int) :: (strB s).drop (p + 1)) = (esc ((strB s).drop (p + 1))).map fun x => (⟨3, 0, false, x.1⟩, 1 + x.2) := by
          rw [c3]; simp only [tkR]; rw [if_neg (by omega), if_neg (by omega), if_pos trivial]
        rw [e]
        refine (take_bytes s p w hs hp c3).mono fun e w' h => ?_
        unfold TakeB at h
        cases he : esc ((strB s).drop (p + 1)) with
        | none => rw [he] at h; exact ⟨⟨3, h.1⟩, h.2⟩
        | some x => rw [he] at h; exact ⟨⟨3, h.1⟩, h.2⟩
      · have e : tkR (((s[p]).toNat : Int) :: (strB s).drop (p + 1)) = none := by
          simp only [tkR, c1, c2, c3, if_false]
        rw [e]
        exact (take_other s p w hs hp c1 c2 c3).mono fun e w' ⟨he, hb⟩ => ⟨⟨_, he⟩, hb⟩
end Go.Proofs.YtiappioofagpgaaDoor
