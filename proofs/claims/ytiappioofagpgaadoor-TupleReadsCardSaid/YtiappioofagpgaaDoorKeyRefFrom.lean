/- The reference's call of FromKey. -/
import Derived.Test.YtiappioofagpgaaDoorKeyRef
import Derived.Test.YtiappioofagpgaaDoorKeyTake
namespace Go.Proofs.YtiappioofagpgaaDoor
open Go.RowKit

set_option maxHeartbeats 4000000 in
set_option maxRecDepth 100000 in
theorem rfromKey_is (s : ByteArray) (w : World) (hs : s.size ≤ 140737488351232) :
    Calls Tryd.prog 6 #[.string s] w (FkRet ((fk tkR (strB s) []).filter fits) w) := by
  have hst := run_store_complex Tryd.prog
  have KV0 := Lib.hid take_is
  have CK := Lib.hid checkKey_is
  go_enter Tryd.func6, Tryd.ntmps6
  go_wp2
  go_loopw [4, 5] (fun v i wr => ∃ (p : Nat) (acc : List KV), i = .int .i64 p ∧ OV w.heap.size wr v acc ∧ acc.length ≤ 16 ∧ p ≤ s.size ∧ Below w.heap.size w wr ∧ (∀ x ∈ acc, KVok x) ∧ Hid (fk tkR (strB s) [] = fk tkR ((strB s).drop p) acc)) (fun _ i _ => s.size - (intOf i).toNat)
  case atStart => exact ⟨0, [], rfl, OV.nil _ _, by simp, by omega, Below.refl _ _, by simp, rfl⟩
  case round =>
    obtain ⟨p, acc, rfl, hown, h16, hts, hb, hok, HR⟩ := hrel
    have hsz := hb.size
    obtain ⟨A, c, rfl, hc1, hm1⟩ := hown.form
    by_cases hpos : p < s.size
    · have C := Lib.hid fun W => KV0.out s p W hs hpos
      have HN := Lib.hid (show (strB s).drop p ≠ [] by
        intro e
        have : ((strB s).drop p).length = s.size - p := by rw [List.length_drop, strB_len]
        rw [e] at this; simp at this; omega)
      cases ho : tkR ((strB s).drop p) with
      | none =>
        have HR2 : Hid ((fk tkR (strB s) []).filter fits = none) := Lib.hid (by rw [HR.out, fk_none acc HN.out ho]; rfl)
        rw [ho] at C
        unfold TakeRet vA at C
        clear ho hok
        go_wp2_with fail
        refine (C.out _).mono ?_
        rintro e w1 ⟨⟨k, rfl⟩, hb1⟩
        go_wp2
        go_ret2
        unfold FkRet
        rw [HR2.out]
        exact ⟨rfl, (hb.trans (hb1.mono hsz)).alloc (by have := hb1.size; omega) _⟩
      | some x =>
        rw [ho] at C
        unfold TakeRet vKV vA at C
        have hx := tkR_pos _ _ ho
        have hx2 := (tkR_size ho).2
        have hxok := tkR_ok _ _ ho
        rw [List.length_drop, strB_len] at hx2
        have q0 : decide (((p + x.2 : Nat) : Int) < 0) = false := by simp; omega
        by_cases hf : acc.length = 16
        · have HR2 : Hid ((fk tkR (strB s) []).filter fits = none) := Lib.hid (by rw [HR.out, fk_full HN.out hf]; rfl)
          have q1 : ((acc.length : Int) == 16) = true := by simp; omega
          clear ho hok
          go_wp2_with fail
          refine (C.out _).mono ?_
          rintro e w1 ⟨⟨k, rfl⟩, hb1⟩
          go_wp2
          go_ret2
          unfold FkRet
          rw [HR2.out]
          exact ⟨rfl, (hb.trans (hb1.mono hsz)).alloc (by have := hb1.size; omega) _⟩
        · have HR2 : Hid (fk tkR (strB s) [] = fk tkR ((strB s).drop (p + x.2)) (acc ++ [x.1])) := Lib.hid (by rw [HR.out, fk_step tkR_pos HN.out ho hf, List.drop_drop])
          have q1 : ((acc.length : Int) == 16) = false := by simp; omega
          have HOK : Hid (∀ y ∈ acc ++ [x.1], KVok y) := Lib.hid (fun y hy => by
            rcases List.mem_append.1 hy with hy | hy
            · exact hok y hy
            · simp at hy; subst hy; exact hxok)
          clear ho hok hxok
          go_wp2_with fail
          refine (C.out _).mono ?_
          rintro e w1 ⟨⟨k, rfl⟩, hb1⟩
          have hb2 := hb.trans (hb1.mono hsz)
          have hown1 := hown.below hb1
          have hz1 := hb2.size
          go_wp2_with (at_builtin; refine ov_append rfl (.tmp 25) (.tmp 27) rfl w.heap.size _ acc rfl ((hown1.alloc _).alloc _) (w1.heap.size + 1) 1 x.1 rfl (heap_alloc2_new _ _ _) (by omega) (by simp; omega) ?_; intro v' w2 hown2 hb3)
          go_roundw
          case rel => exact ⟨p + x.2, _, rfl, hown2, by simp; omega, by omega, ((hb2.alloc hz1 _).alloc (by simp; omega) _).trans hb3, HOK.out, HR2⟩
          case measure => simp [intOf]; omega
    · have HR2 : Hid (fk tkR (strB s) [] = some acc) := Lib.hid (by
        rw [HR.out, List.drop_eq_nil_of_le (by rw [strB_len]; omega), fk_nil])
      have CKx := Lib.hid (CK.out _ acc _ wr hown h16 hok)
      clear hok
      cases hfit : fits acc with
      | true =>
        rw [ckRet_yes hfit] at CKx
        have HR3 : Hid ((fk tkR (strB s) []).filter fits = some acc) := Lib.hid (by rw [HR2.out]; simp [Option.filter, hfit])
        clear hfit
        go_wp2_with fail
        refine CKx.out.mono ?_
        rintro e w1 ⟨rfl, hb1⟩
        go_wp2
        go_ret2
        unfold FkRet
        rw [HR3.out]
        exact ⟨_, rfl, hown.below hb1, hb.trans (hb1.mono hsz)⟩
      | false =>
        rw [ckRet_no hfit] at CKx
        have HR3 : Hid ((fk tkR (strB s) []).filter fits = none) := Lib.hid (by rw [HR2.out]; simp [Option.filter, hfit])
        clear hfit
        go_wp2_with fail
        refine CKx.out.mono ?_
        rintro e w1 ⟨rfl, hb1⟩
        go_wp2
        go_ret2
        unfold FkRet
        rw [HR3.out]
        exact ⟨rfl, hb.trans (hb1.mono hsz)⟩
end Go.Proofs.YtiappioofagpgaaDoor
