/- newInner. -/
import Derived.Test.YtlhpoliiojekeaaRank
namespace Go.Proofs.Ytlhpoliiojekeaa
set_option maxRecDepth 100000
open Go.RowKit

theorem kidsP_take_all' (kids : List Kid) : kidsP (kids.take kids.length) = kidsP kids := by rw [List.take_length]
theorem row_set3 {w : World} {g : Nat} {a b c : Value} {e : TypeId} (h : w.heap[g]? = some (.cells #[a, b, c] e (0, 0))) (v : Value) : (w.setCell ⟨g, 2, none⟩ v).drew.heap[g]? = some (.cells #[a, b, v] e (0, 0)) := by
  simp [World.setCell, World.drew, Array.getElem?_modify, h]

set_option maxHeartbeats 4000000 in
theorem wnewInner {ord d : Nat} {w : World} {A B : Option Addr} {c e : Nat} {ks : List ByteArray} {kids : List Kid} (hB : VB w B kids.length (kids.map Kid.v)) (hN : ∀ x ∈ kids, NodeAt ord w d x.v x.ps x.m) (hp : (kidsP kids).length ≤ 1152921504606846976) (hk : kids.length ≤ 100000) (he : kids.length ≤ e) :
    Calls Try.prog 57 #[.slice A ks.length c, .slice B kids.length e] w fun r w' => r = .returned (.pointer (some ⟨w.heap.size, 0, none⟩)) ∧ Below w.heap.size w w' ∧
      w'.heap[w.heap.size]? = some (.cells #[.slice A ks.length c, .slice B kids.length e, .int .i64 ((kidsP kids).length : Nat)] 109 (0, 0)) := by
  have HN := Lib.hid hN
  have HB := Lib.hid hB
  have HP := Lib.hid hp
  have hki : (kids.length : Int) ≤ 100000 := by omega
  obtain ⟨W, hW⟩ : ∃ W, w.alloc (.cells #[.slice A ks.length c, .slice B kids.length e, .int .i64 0] 109) = W := ⟨_, rfl⟩
  have R0 := Lib.hid (show W.heap[w.heap.size]? = some (.cells #[.slice A ks.length c, .slice B kids.length e, .int .i64 0] 109 (0, 0)) by rw [← hW]; exact heap_alloc_new w _)
  have B0 := Lib.hid (show Below w.heap.size w W by rw [← hW]; exact (Below.refl _ _).alloc (Nat.le_refl _) _)
  clear hB hN hp
  go_enter Try.func57, Try.ntmps57
  go_upto_region 3 with fail
  go_loopw [14] (fun i' wr => ∃ j : Nat, i' = .int .i64 (j : Nat) ∧ j ≤ kids.length ∧ Below w.heap.size w wr ∧ wr.heap[w.heap.size]? = some (.cells #[.slice A ks.length c, .slice B kids.length e, .int .i64 ((kidsP (kids.take j)).length : Nat)] 109 (0, 0))) (fun i' _ => kids.length - (intOf i').toNat)
  case atStart => exact ⟨0, rfl, Nat.zero_le _, B0.out, by simpa [kidsP] using R0.out⟩
  case round =>
    rename World => wr
    obtain ⟨j, rfl, hj, hb, hrow⟩ := hrel
    by_cases hlt : j < kids.length
    · obtain ⟨y, hy⟩ : ∃ y, kids[j]? = some y := ⟨_, List.getElem?_eq_getElem hlt⟩
      obtain ⟨ad, rfl, c3⟩ := (HB.out.below' hb).at_ (k := j) (u := y.v) (by simp [hy])
      have c2 : wr.cell? ⟨w.heap.size, 2, none⟩ = some (.int .i64 ((kidsP (kids.take j)).length : Nat)) := by rw [cell_of_row _ _ _ _ _ _ hrow]; rfl
      have f2 : wr.frozen? ⟨w.heap.size, 2, none⟩ = false := by simp [World.frozen?, hrow]
      have hn := kidsP_snoc kids j y hy
      have hle := kidsP_take_le kids (j + 1)
      have hpp := HP.out
      have HN2 := Lib.hid hn
      obtain ⟨u, hu⟩ : ∃ u, (kidsP (kids.take j)).length = u := ⟨_, rfl⟩
      rw [hu] at HN2 hn c2 hrow
      have hub : (u : Int) + (y.ps.length : Int) ≤ 1152921504606846976 := by omega
      have hji : (j : Int) < (kids.length : Int) := by omega
      have HJ := Lib.hid hlt
      have HROW := Lib.hid hrow
      have HBB := Lib.hid hb
      rcases wcount ((HN.out y (List.mem_of_getElem? hy)).below hb).drew with ⟨g', hv, hcc⟩ | ⟨g', hv, hcc⟩
      · rw [hv] at c3
        unfold lp at c3
        have CC := Lib.hid hcc
        clear hy hlt hb hrow hn hle hpp hu hv hcc hj
        go_upto_region 5 with fail
        go_region_with (go_at_call 95; go_loud (refine CC.out.mono ?_; rintro e w1 ⟨rfl, rfl⟩))
        all_goals
          go_wp2
        all_goals go_roundw
        all_goals first
          | (have := HJ.out; simp [intOf]; omega)
          | exact ⟨j + 1, by go_num, HJ.out, ((HBB.out.setCell (Nat.le_refl _) _).drew), by rw [show ((kidsP (kids.take (j + 1))).length : Int) = (u : Int) + (y.ps.length : Int) by rw [HN2.out]; omega]; exact row_set3 HROW.out _⟩
      · rw [hv] at c3
        unfold ip at c3
        have CC := Lib.hid hcc
        clear hy hlt hb hrow hn hle hpp hu hv hcc hj
        go_upto_region 5 with fail
        go_region_with (go_at_call 96; go_loud (refine CC.out.mono ?_; rintro e w1 ⟨rfl, rfl⟩))
        all_goals
          go_wp2
        all_goals go_roundw
        all_goals first
          | (have := HJ.out; simp [intOf]; omega)
          | exact ⟨j + 1, by go_num, HJ.out, ((HBB.out.setCell (Nat.le_refl _) _).drew), by rw [show ((kidsP (kids.take (j + 1))).length : Int) = (u : Int) + (y.ps.length : Int) by rw [HN2.out]; omega]; exact row_set3 HROW.out _⟩
    · obtain rfl : j = kids.length := by omega
      rw [kidsP_take_all'] at hrow
      have HROW := Lib.hid hrow
      have HBB := Lib.hid hb
      clear hlt hj hrow hb
      go_wp2
      go_ret
      exact ⟨rfl, HBB.out, HROW.out⟩
end Go.Proofs.Ytlhpoliiojekeaa
