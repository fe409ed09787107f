/- The call of takeKeyBytes. -/
import Derived.Test.YtiappioofagpgaaDoorKeyInt
namespace Go.Proofs.YtiappioofagpgaaDoor
open Go.RowKit

theorem rb_one1 (w : World) (z : Int) (h : 0 ≤ z ∧ z ≤ 255) : RB (w.alloc (.cells #[.int .u8 z] 5)) (some ⟨w.heap.size, 0, none⟩) 1 [z] := by
  have := RB.new w (zs := [z]) (e := 5) (fr := (0, 0)) (by simpa using h)
  simpa using this
theorem strB_drop (s : ByteArray) (k : Nat) (h : k < s.size) : (strB s).drop k = (s[k].toNat : Int) :: (strB s).drop (k + 1) := by
  rw [List.drop_eq_getElem_cons (by rw [strB_len]; omega)]
  congr 1
  have := strB_get s k h
  rw [List.getD_eq_getElem?_getD, List.getElem?_eq_getElem (by rw [strB_len]; omega)] at this
  exact this

def TkbRet (o : Option (List Int × Nat)) : Value :=
  match o with
  | none => .tuple #[.string ⟨#[]⟩, .int .i64 0]
  | some x => .tuple #[.string (strOfNums x.1), .int .i64 x.2]
def short (x : List Int × Nat) : Bool := decide (x.1.length ≤ 4096)

theorem short_none {zs : List Int} {i : Nat} {R : List Int} (h : 4096 < zs.length) : (escS zs i R).filter short = none := by
  cases e : escS zs i R with
  | none => rfl
  | some x =>
    have := escS_len (b := x.1) (n := x.2) e
    simp [Option.filter, short]
    omega

set_option maxHeartbeats 4000000 in
set_option maxRecDepth 100000 in
theorem keyBytes_is (s : ByteArray) (w : World) (hs : s.size ≤ 140737488351232) :
    Calls Tryd.prog 20 #[.string s] w fun e w' => e = .returned (TkbRet ((esc (strB s)).filter short)) ∧ Below w.heap.size w w' := by
  go_enter Tryd.func20, Tryd.ntmps20
  go_wp2
  go_loopw [4, 5] (fun v i wr => ∃ (zs : List Int) (k : Nat), OB w.heap.size wr v zs ∧ i = .int .i64 k ∧ k ≤ s.size ∧ zs.length ≤ k ∧ Below w.heap.size w wr ∧ Hid (esc (strB s) = escS zs k ((strB s).drop k))) (fun _ i _ => s.size - (intOf i).toNat)
  case atStart => exact ⟨[], 0, OB.nil _ _, rfl, by omega, by simp, Below.refl _ _, Lib.hid (by rw [List.drop_zero, escS_start])⟩
  case round =>
    obtain ⟨zs, k, hown, rfl, hk, hzk, hb, HR⟩ := hrel
    have hsz := hb.size
    by_cases hlt : k < s.size
    · by_cases hz : zs.length ≤ 4096
      · have HD := Lib.hid (strB_drop s k hlt)
        have hcb : 0 ≤ ((s[k]).toNat : Int) ∧ ((s[k]).toNat : Int) ≤ 255 := ⟨by omega, by have := (s[k]).toNat_lt; omega⟩
        obtain ⟨A, c, rfl, -, hc1, hm1⟩ := hown.form
        have HL := Lib.hid (show (zs ++ [((s[k]).toNat : Int)]).length = zs.length + 1 by simp)
        rcases hc0 : (((s[k]).toNat : Int) != 0) with _ | _
        · have hcz : ((s[k]).toNat : Int) = 0 := by simpa using hc0
          have HZ := Lib.hid hcz
          clear hcz
          by_cases hlt2 : k + 1 < s.size
          · have HD2 := Lib.hid (strB_drop s (k + 1) hlt2)
            rcases hd0 : (((s[k + 1]).toNat : Int) == 0) with _ | _
            · have hdz : ((s[k + 1]).toNat : Int) ≠ 0 := by simpa using hd0
              rcases hd1 : (((s[k + 1]).toNat : Int) != 255) with _ | _
              · have hd255 : ((s[k + 1]).toNat : Int) = 255 := by simpa using hd1
                have HR2 : Hid (esc (strB s) = escS (zs ++ [((s[k]).toNat : Int)]) (k + 2) ((strB s).drop (k + 2))) := Lib.hid (by
                  rw [HR.out, HD.out, HD2.out, HZ.out, hd255, escS_own])
                clear hd255 hdz
                go_wp2_with (at_builtin; refine ob_append rfl (.tmp 17) (.tmp 21) rfl w.heap.size _ zs rfl (hown.alloc _) _ 1 1 [((s[k]).toNat : Int)] rfl (rb_one1 wr _ hcb) (by omega) (by simp; omega) ?_; intro v' w1 hown' hb1 hg1)
                go_roundw
                case rel => exact ⟨_, k + 2, hown', by go_num, by omega, by rw [HL.out]; omega, (hb.alloc hsz _).trans hb1, HR2⟩
                case measure => simp [intOf]; omega
              · have hd255 : ((s[k + 1]).toNat : Int) ≠ 255 := by simpa using hd1
                have HR2 : Hid ((esc (strB s)).filter short = none) := Lib.hid (by rw [HR.out, HD.out, HD2.out, HZ.out, escS_bad _ _ _ _ hdz hd255]; rfl)
                clear hd255 hdz
                go_wp2_with (at_builtin; refine ob_append rfl (.tmp 17) (.tmp 21) rfl w.heap.size _ zs rfl (hown.alloc _) _ 1 1 [((s[k]).toNat : Int)] rfl (rb_one1 wr _ hcb) (by omega) (by simp; omega) ?_; intro v' w1 hown' hb1 hg1)
                go_ret2
                exact ⟨by rw [HR2.out]; rfl, (hb.alloc hsz _).trans hb1⟩
            · have hdz : ((s[k + 1]).toNat : Int) = 0 := by simpa using hd0
              have HR2 : Hid ((esc (strB s)).filter short = some (zs, k + 2)) := Lib.hid (by rw [HR.out, HD.out, HD2.out, HZ.out, hdz, escS_end]; simp [Option.filter, short, hz])
              clear hdz
              go_wp2_with (at_builtin; refine ob_append rfl (.tmp 17) (.tmp 21) rfl w.heap.size _ zs rfl (hown.alloc _) _ 1 1 [((s[k]).toNat : Int)] rfl (rb_one1 wr _ hcb) (by omega) (by simp; omega) ?_; intro v' w1 hown' hb1 hg1; obtain ⟨A', c', hv', hr', hc', hm'⟩ := hown'.form; rw [HL.out] at hv' hr' hc'; subst hv'; have hcv := rb_str (hr'.take (k := zs.length) (by omega)) c'; rw [List.take_left] at hcv; clear hr' hown')
              go_ret2
              exact ⟨by rw [HR2.out]; rfl, (hb.alloc hsz _).trans hb1⟩
          · have hke : k + 1 = s.size := by omega
            have HR2 : Hid ((esc (strB s)).filter short = none) := Lib.hid (by
              rw [HR.out, HD.out, HZ.out, List.drop_eq_nil_of_le (by rw [strB_len]; omega), escS_one]; rfl)
            have heq : ((k : Int) + 1 == (s.size : Int)) = true := by simp; omega
            clear hke
            go_wp2_with (at_builtin; refine ob_append rfl (.tmp 17) (.tmp 21) rfl w.heap.size _ zs rfl (hown.alloc _) _ 1 1 [((s[k]).toNat : Int)] rfl (rb_one1 wr _ hcb) (by omega) (by simp; omega) ?_; intro v' w1 hown' hb1 hg1)
            go_ret2
            exact ⟨by rw [HR2.out]; rfl, (hb.alloc hsz _).trans hb1⟩
        · have hcz : ((s[k]).toNat : Int) ≠ 0 := by simpa using hc0
          have HR2 : Hid (esc (strB s) = escS (zs ++ [((s[k]).toNat : Int)]) (k + 1) ((strB s).drop (k + 1))) := Lib.hid (by rw [HR.out, HD.out, escS_step _ _ _ _ hcz])
          clear hcz
          go_wp2_with (at_builtin; refine ob_append rfl (.tmp 17) (.tmp 21) rfl w.heap.size _ zs rfl (hown.alloc _) _ 1 1 [((s[k]).toNat : Int)] rfl (rb_one1 wr _ hcb) (by omega) (by simp; omega) ?_; intro v' w1 hown' hb1 hg1)
          go_roundw
          case rel => exact ⟨_, k + 1, hown', by go_num, by omega, by rw [HL.out]; omega, (hb.alloc hsz _).trans hb1, HR2⟩
          case measure => simp [intOf]; omega
      · have HR2 : Hid ((esc (strB s)).filter short = none) := Lib.hid (by rw [HR.out]; exact short_none (by omega))
        obtain ⟨A, c, rfl, -, hc1, hm1⟩ := hown.form
        go_wp2
        go_ret2
        exact ⟨by rw [HR2.out]; rfl, hb⟩
    · have HR2 : Hid ((esc (strB s)).filter short = none) := Lib.hid (by rw [HR.out, List.drop_eq_nil_of_le (by rw [strB_len]; omega), escS_nil]; rfl)
      obtain ⟨A, c, rfl, -, hc1, hm1⟩ := hown.form
      go_wp2
      go_ret2
      exact ⟨by rw [HR2.out]; rfl, hb⟩
end Go.Proofs.YtiappioofagpgaaDoor
