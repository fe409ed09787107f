/- The calls of FromKey. -/
import Derived.Test.YtiappioofagpgaaDoorOwnV
namespace Go.Proofs.YtiappioofagpgaaDoor
open Go.RowKit

def strSize (v : Value) : Nat := match v with | .string t => t.size | _ => 0
/-- What FromKey leaves: the list, or no list and the error. -/
def FkRet (o : Option (List KV)) (w : World) (e : Ending) (w' : World) : Prop :=
  match o with
  | none => e = .returned (.tuple #[.slice none 0 0, .int .i64 40]) ∧ Below w.heap.size w w'
  | some l => ∃ v, e = .returned (.tuple #[v, .int .i64 0]) ∧ OV w.heap.size w' v l ∧ Below w.heap.size w w'

theorem tkP_pos : ∀ L x, tkP L = some x → 0 < x.2 := fun _ _ h => (tkR_size (tkP_tkR h)).1
theorem tkR_pos : ∀ L x, tkR L = some x → 0 < x.2 := fun _ _ h => (tkR_size h).1
theorem strB_cut (t : ByteArray) (n : Nat) : strB (t.extract n t.size) = (strB t).drop n := by
  have h1 : (t.extract n t.size).data.toList = t.data.toList.drop n := by
    rw [ByteArray.data_extract, Array.toList_extract, List.extract_eq_take_drop]
    rw [List.take_of_length_le (by simp)]
  simp only [strB, h1, List.map_drop]
theorem cut_size (t : ByteArray) (n : Nat) : (t.extract n t.size).size = t.size - n := by simp
theorem strB_ne (t : ByteArray) (h : 0 < t.size) : strB t ≠ [] := by
  intro e
  have := strB_len t
  rw [e] at this
  simp at this
  omega
theorem str_ne (t : ByteArray) (h : 0 < t.size) : t.toList.isEmpty = false := by
  rw [toList_data1, List.isEmpty_eq_false_iff, ← List.length_pos_iff]
  have : t.data.toList.length = t.size := by simp
  omega

set_option maxHeartbeats 4000000 in
set_option maxRecDepth 100000 in
theorem fromKey_is (s : ByteArray) (w : World) (hs : s.size ≤ 140737488351232) :
    Calls Tryd.prog 5 #[.string s] w (FkRet (fk tkP (strB s) []) w) := by
  have hst := run_store_complex Tryd.prog
  have KV0 := Lib.hid keyValue_is
  go_enter Tryd.func5, Tryd.ntmps5
  go_wp2
  go_loopw [0, 4] (fun x v wr => ∃ (t : ByteArray) (acc : List KV), x = .string t ∧ OV w.heap.size wr v acc ∧ acc.length ≤ 16 ∧ t.size ≤ s.size ∧ Below w.heap.size w wr ∧ Hid (fk tkP (strB s) [] = fk tkP (strB t) acc)) (fun x _ _ => strSize x)
  case atStart => exact ⟨s, [], rfl, OV.nil _ _, by simp, Nat.le_refl _, Below.refl _ _, rfl⟩
  case round =>
    obtain ⟨t, acc, rfl, hown, h16, hts, hb, HR⟩ := hrel
    have hsz := hb.size
    obtain ⟨A, c, rfl, hc1, hm1⟩ := hown.form
    rcases Nat.eq_zero_or_pos t.size with h0 | hpos
    · have hem : t.toList = [] := by
        rw [toList_data1]
        exact List.eq_nil_of_length_eq_zero (by have : t.data.toList.length = t.size := by simp
                                                omega)
      have HR2 : Hid (fk tkP (strB s) [] = some acc) := Lib.hid (by
        rw [HR.out, show strB t = [] from List.eq_nil_of_length_eq_zero (by rw [strB_len]; exact h0), fk_nil])
      clear h0
      go_wp2
      go_ret2
      unfold FkRet
      rw [HR2.out]
      exact ⟨_, rfl, hown, hb⟩
    · have hne := str_ne t hpos
      have hne2 : (t.toList = []) = False := by rw [← List.isEmpty_iff, hne]; simp
      have C := Lib.hid fun W => KV0.out t W (by omega) hpos
      have HN := Lib.hid (strB_ne t hpos)
      cases ho : tkP (strB t) with
      | none =>
        have HR2 : Hid (fk tkP (strB s) [] = none) := Lib.hid (by rw [HR.out, fk_none acc HN.out ho])
        rw [ho] at C
        unfold KvRet vA at C
        clear ho
        go_wp2_with fail
        refine (C.out _).mono ?_
        rintro e w1 ⟨rfl, hb1⟩
        go_wp2
        go_ret2
        unfold FkRet
        rw [HR2.out]
        exact ⟨rfl, (hb.trans (hb1.mono hsz)).alloc (by have := hb1.size; omega) _⟩
      | some x =>
        rw [ho] at C
        unfold KvRet vKV vA at C
        have hx := tkP_pos _ _ ho
        have hx2 := (tkR_size (tkP_tkR ho)).2
        rw [strB_len] at hx2
        have q0 : ((x.2 : Int) == 0) = false := by simp; omega
        by_cases hf : acc.length = 16
        · have HR2 : Hid (fk tkP (strB s) [] = none) := Lib.hid (by rw [HR.out, fk_full HN.out hf])
          have q1 : ((acc.length : Int) == 16) = true := by simp; omega
          clear ho
          go_wp2_with fail
          refine (C.out _).mono ?_
          rintro e w1 ⟨rfl, hb1⟩
          go_wp2
          go_ret2
          unfold FkRet
          rw [HR2.out]
          exact ⟨rfl, (hb.trans (hb1.mono hsz)).alloc (by have := hb1.size; omega) _⟩
        · have HR2 : Hid (fk tkP (strB s) [] = fk tkP (strB (t.extract x.2 t.size)) (acc ++ [x.1])) := Lib.hid (by rw [HR.out, fk_step tkP_pos HN.out ho hf, strB_cut])
          have hcs := Lib.hid (cut_size t x.2)
          have q1 : ((acc.length : Int) == 16) = false := by simp; omega
          clear ho
          go_wp2_with fail
          refine (C.out _).mono ?_
          rintro e w1 ⟨rfl, hb1⟩
          have hb2 := hb.trans (hb1.mono hsz)
          have hown1 := hown.below hb1
          have hz1 := hb2.size
          go_wp2_with (at_builtin; refine ov_append rfl (.tmp 21) (.tmp 23) rfl w.heap.size _ acc rfl ((hown1.alloc _).alloc _) (w1.heap.size + 1) 1 x.1 rfl (heap_alloc2_new _ _ _) (by omega) (by simp; omega) ?_; intro v' w2 hown2 hb3)
          go_roundw
          case rel => exact ⟨_, _, rfl, hown2, by simp; omega, by rw [hcs.out]; omega, ((hb2.alloc hz1 _).alloc (by simp; omega) _).trans hb3, HR2⟩
          case measure => simp only [strSize]; rw [hcs.out]; omega
end Go.Proofs.YtiappioofagpgaaDoor
