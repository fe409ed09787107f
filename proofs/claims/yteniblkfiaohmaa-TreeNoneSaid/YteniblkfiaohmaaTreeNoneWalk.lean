/- TreeNone: nothing is answered of a tree that no call made: nil, and the zero one. -/
import Derived.Test.YteniblkfiaohmaaRangeNone
namespace Go.Proofs.Yteniblkfiaohmaa
set_option maxRecDepth 100000
open Go.RowKit

set_option maxHeartbeats 8000000 in
theorem walk_TreeNone (k k2 : ByteArray) (i : Int) (w : World) (_h0 : k.size ≤ 140737488351232) (_h1 : k2.size ≤ 140737488351232) (_h2 : -9223372036854775808 ≤ i ∧ i ≤ 9223372036854775807) : Calls Try.prog 8 #[.string k, .string k2, .int .i64 i] w fun e w' => e = .returned (.bool true) ∧ Below w.heap.size w w' := by
  clear _h0 _h1 _h2
  have LV := Lib.hid wlive
  refine (callsIn_wide (n := 10)).1 ?_
  refine callsIn_of_wp_marks Try.func8 rfl trivial ?_ rfl
  simp only [Try.ntmps8, List.size_toArray, List.length_cons, List.length_nil, Nat.reduceAdd, Nat.reduceSub, Array.replicate_succ, Array.replicate_zero, List.push_toArray, List.append_toArray, List.nil_append, List.cons_append]
  obtain ⟨W1, hW1⟩ : ∃ W1, w.alloc (.cells #[.bool false] 4) = W1 := ⟨_, rfl⟩
  have R1 := Lib.hid (show Cel W1 w.heap.size (.bool false) by rw [← hW1]; exact Cel.new w _ _)
  have B1 := Lib.hid (show Gw w W1 by rw [← hW1]; exact (Gw.refl _).alloc _)
  gi_wp2_with (refine ⟨trivial, ?_⟩; gi_at_call 12; refine (callsIn_wide.2 (LV.out _)).mono ?_; rintro e w2 ⟨rfl, g2⟩; have G2 := Lib.hid g2; clear g2)
  obtain ⟨W4, hW4⟩ : ∃ W4, (w2.alloc (.cells #[.int .i64 0, .nilIface] 63)).alloc (.cells #[.pointer none, .pointer (some ⟨w2.heap.size, 0, none⟩)] 24) = W4 := ⟨_, rfl⟩
  have G4 := Lib.hid (show Gw w2 W4 by rw [← hW4]; exact ((Gw.refl _).alloc _).alloc _)
  obtain ⟨T0, hT0⟩ : ∃ T0, w2.heap.size = T0 := ⟨_, rfl⟩
  obtain ⟨s, hs⟩ : ∃ s, w2.heap.size + 1 = s := ⟨_, rfl⟩
  have hrow : W4.heap[s]? = some (.cells #[.pointer none, .pointer (some ⟨T0, 0, none⟩)] 24 (0, 0)) := by
    rw [← hs, ← hW4, ← hT0, show w2.heap.size + 1 = (w2.alloc (.cells #[.int .i64 0, .nilIface] 63)).heap.size by simp]
    exact heap_alloc_new _ _
  have cz : W4.cell? ⟨T0, 1, none⟩ = some .nilIface := by
    rw [← hW4, ← hT0]
    refine keep_below ?_ ((Below.refl _ _).alloc (Nat.le_refl _) _)
    rw [cell_of_row _ _ _ _ _ _ (heap_alloc_new w2 _)]; rfl
  have e0 : W4.cell? ⟨s, 0, none⟩ = some (.pointer none) := by rw [cell_of_row _ _ _ _ _ _ hrow]; rfl
  have e1 : W4.cell? ⟨s, 1, none⟩ = some (.pointer (some ⟨T0, 0, none⟩)) := by rw [cell_of_row _ _ _ _ _ _ hrow]; rfl
  have E1 := Lib.hid e1
  have U0 := Lib.hid (unmade_nil W4)
  have U1 := Lib.hid (unmade_zero cz)
  have RR := Lib.hid (((R1.out.below G2.out).below G4.out))
  have BB := Lib.hid (B1.out.trans (G2.out.trans G4.out))
  rw [hW4, hs, hT0]
  clear hrow cz e1 hW1 hW4 hs hT0
  refine wpIn_loop_rounds 3 ?_
  rw [roundsIn_succ]
  have HC := Lib.hid (Gw.refl W4)
  have U := U0
  gi_wp2_with (refine ⟨trivial, ?_⟩; first
      | (gi_at_call 20; go_loud (refine (callsIn_wide.2 (n_get (Unmade.gw U.out HC.out) k)).mono ?_; rintro e w9 ⟨rfl, hw⟩; replace hw := hw.symm; subst hw))
      | (gi_at_call 24; go_loud (refine (callsIn_wide.2 (n_put (Unmade.gw U.out HC.out) k 1)).mono ?_; rintro e w9 ⟨rfl, b9⟩; replace HC := Lib.hid (HC.out.trans b9); clear b9))
      | (gi_at_call 26; go_loud (refine (callsIn_wide.2 (n_del (Unmade.gw U.out HC.out) k)).mono ?_; rintro e w9 ⟨rfl, b9⟩; replace HC := Lib.hid (HC.out.trans b9); clear b9))
      | (gi_at_call 22; go_loud (refine (callsIn_wide.2 (n_next (Unmade.gw U.out HC.out) k false)).mono ?_; rintro e w9 ⟨rfl, hw⟩; replace hw := hw.symm; subst hw))
      | (gi_at_call 19; go_loud (refine (callsIn_wide.2 (n_at (Unmade.gw U.out HC.out) i)).mono ?_; rintro e w9 ⟨rfl, hw⟩; replace hw := hw.symm; subst hw))
      | (gi_at_call 16; go_loud (refine (callsIn_wide.2 (n_scan (Unmade.gw U.out HC.out) k k2)).mono ?_; rintro e w9 ⟨rfl, b9⟩; replace HC := Lib.hid (HC.out.trans b9); clear b9))
      | (gi_at_call 18; go_loud (refine (callsIn_wide.2 (n_len (Unmade.gw U.out HC.out))).mono ?_; rintro e w9 ⟨rfl, hw⟩; replace hw := hw.symm; subst hw))
      | (gi_at_call 21; go_loud (refine (callsIn_wide.2 (n_rank (Unmade.gw U.out HC.out) k)).mono ?_; rintro e w9 ⟨rfl, hw⟩; replace hw := hw.symm; subst hw))
      | (gi_at_call 27; go_loud (refine (callsIn_wide.2 (n_nodes (Unmade.gw U.out HC.out))).mono ?_; rintro e w9 ⟨rfl, hw⟩; replace hw := hw.symm; subst hw))
      | (gi_at_call 28; go_loud (refine (callsIn_wide.2 (n_clone (Unmade.gw U.out HC.out))).mono ?_; rintro e w9 ⟨rfl, hw⟩; replace hw := hw.symm; subst hw))
      )
  have HCa := HC.out
  refine wp_range_none (by decide) rfl rfl ?_
  intro D1 X1 hD1 g1 hm1
  replace HC := Lib.hid (HC.out.trans g1)
  have G7 := Lib.hid g1
  have M1 := Lib.hid hm1
  have S1 := Lib.hid (Nat.le_trans (Below.size HCa) hD1)
  clear g1 hm1 hD1
  gi_wp2_with (refine ⟨trivial, ?_⟩; first
      | (gi_at_call 20; go_loud (refine (callsIn_wide.2 (n_get (Unmade.gw U.out HC.out) k)).mono ?_; rintro e w9 ⟨rfl, hw⟩; replace hw := hw.symm; subst hw))
      | (gi_at_call 24; go_loud (refine (callsIn_wide.2 (n_put (Unmade.gw U.out HC.out) k 1)).mono ?_; rintro e w9 ⟨rfl, b9⟩; replace HC := Lib.hid (HC.out.trans b9); clear b9))
      | (gi_at_call 26; go_loud (refine (callsIn_wide.2 (n_del (Unmade.gw U.out HC.out) k)).mono ?_; rintro e w9 ⟨rfl, b9⟩; replace HC := Lib.hid (HC.out.trans b9); clear b9))
      | (gi_at_call 22; go_loud (refine (callsIn_wide.2 (n_next (Unmade.gw U.out HC.out) k false)).mono ?_; rintro e w9 ⟨rfl, hw⟩; replace hw := hw.symm; subst hw))
      | (gi_at_call 19; go_loud (refine (callsIn_wide.2 (n_at (Unmade.gw U.out HC.out) i)).mono ?_; rintro e w9 ⟨rfl, hw⟩; replace hw := hw.symm; subst hw))
      | (gi_at_call 16; go_loud (refine (callsIn_wide.2 (n_scan (Unmade.gw U.out HC.out) k k2)).mono ?_; rintro e w9 ⟨rfl, b9⟩; replace HC := Lib.hid (HC.out.trans b9); clear b9))
      | (gi_at_call 18; go_loud (refine (callsIn_wide.2 (n_len (Unmade.gw U.out HC.out))).mono ?_; rintro e w9 ⟨rfl, hw⟩; replace hw := hw.symm; subst hw))
      | (gi_at_call 21; go_loud (refine (callsIn_wide.2 (n_rank (Unmade.gw U.out HC.out) k)).mono ?_; rintro e w9 ⟨rfl, hw⟩; replace hw := hw.symm; subst hw))
      | (gi_at_call 27; go_loud (refine (callsIn_wide.2 (n_nodes (Unmade.gw U.out HC.out))).mono ?_; rintro e w9 ⟨rfl, hw⟩; replace hw := hw.symm; subst hw))
      | (gi_at_call 28; go_loud (refine (callsIn_wide.2 (n_clone (Unmade.gw U.out HC.out))).mono ?_; rintro e w9 ⟨rfl, hw⟩; replace hw := hw.symm; subst hw))
      )
  have G01 := HC
  have e1 := keep_below E1.out HC.out
  clear e0 HC
  rw [roundsIn_succ]
  have HC := Lib.hid (Gw.refl X1)
  have U := Lib.hid (U1.out.gw G01.out)
  gi_wp2_with (refine ⟨trivial, ?_⟩; first
      | (gi_at_call 20; go_loud (refine (callsIn_wide.2 (n_get (Unmade.gw U.out HC.out) k)).mono ?_; rintro e w9 ⟨rfl, hw⟩; replace hw := hw.symm; subst hw))
      | (gi_at_call 24; go_loud (refine (callsIn_wide.2 (n_put (Unmade.gw U.out HC.out) k 1)).mono ?_; rintro e w9 ⟨rfl, b9⟩; replace HC := Lib.hid (HC.out.trans b9); clear b9))
      | (gi_at_call 26; go_loud (refine (callsIn_wide.2 (n_del (Unmade.gw U.out HC.out) k)).mono ?_; rintro e w9 ⟨rfl, b9⟩; replace HC := Lib.hid (HC.out.trans b9); clear b9))
      | (gi_at_call 22; go_loud (refine (callsIn_wide.2 (n_next (Unmade.gw U.out HC.out) k false)).mono ?_; rintro e w9 ⟨rfl, hw⟩; replace hw := hw.symm; subst hw))
      | (gi_at_call 19; go_loud (refine (callsIn_wide.2 (n_at (Unmade.gw U.out HC.out) i)).mono ?_; rintro e w9 ⟨rfl, hw⟩; replace hw := hw.symm; subst hw))
      | (gi_at_call 16; go_loud (refine (callsIn_wide.2 (n_scan (Unmade.gw U.out HC.out) k k2)).mono ?_; rintro e w9 ⟨rfl, b9⟩; replace HC := Lib.hid (HC.out.trans b9); clear b9))
      | (gi_at_call 18; go_loud (refine (callsIn_wide.2 (n_len (Unmade.gw U.out HC.out))).mono ?_; rintro e w9 ⟨rfl, hw⟩; replace hw := hw.symm; subst hw))
      | (gi_at_call 21; go_loud (refine (callsIn_wide.2 (n_rank (Unmade.gw U.out HC.out) k)).mono ?_; rintro e w9 ⟨rfl, hw⟩; replace hw := hw.symm; subst hw))
      | (gi_at_call 27; go_loud (refine (callsIn_wide.2 (n_nodes (Unmade.gw U.out HC.out))).mono ?_; rintro e w9 ⟨rfl, hw⟩; replace hw := hw.symm; subst hw))
      | (gi_at_call 28; go_loud (refine (callsIn_wide.2 (n_clone (Unmade.gw U.out HC.out))).mono ?_; rintro e w9 ⟨rfl, hw⟩; replace hw := hw.symm; subst hw))
      )
  have HCa := HC.out
  refine wp_range_none (by decide) rfl rfl ?_
  intro D2 X2 hD2 g2x hm2
  replace HC := Lib.hid (HC.out.trans g2x)
  have G8 := Lib.hid g2x
  have M2 := Lib.hid hm2
  have S2 := Lib.hid (Nat.le_trans (Below.size HCa) hD2)
  clear g2x hm2 hD2
  gi_wp2_with (refine ⟨trivial, ?_⟩; first
      | (gi_at_call 20; go_loud (refine (callsIn_wide.2 (n_get (Unmade.gw U.out HC.out) k)).mono ?_; rintro e w9 ⟨rfl, hw⟩; replace hw := hw.symm; subst hw))
      | (gi_at_call 24; go_loud (refine (callsIn_wide.2 (n_put (Unmade.gw U.out HC.out) k 1)).mono ?_; rintro e w9 ⟨rfl, b9⟩; replace HC := Lib.hid (HC.out.trans b9); clear b9))
      | (gi_at_call 26; go_loud (refine (callsIn_wide.2 (n_del (Unmade.gw U.out HC.out) k)).mono ?_; rintro e w9 ⟨rfl, b9⟩; replace HC := Lib.hid (HC.out.trans b9); clear b9))
      | (gi_at_call 22; go_loud (refine (callsIn_wide.2 (n_next (Unmade.gw U.out HC.out) k false)).mono ?_; rintro e w9 ⟨rfl, hw⟩; replace hw := hw.symm; subst hw))
      | (gi_at_call 19; go_loud (refine (callsIn_wide.2 (n_at (Unmade.gw U.out HC.out) i)).mono ?_; rintro e w9 ⟨rfl, hw⟩; replace hw := hw.symm; subst hw))
      | (gi_at_call 16; go_loud (refine (callsIn_wide.2 (n_scan (Unmade.gw U.out HC.out) k k2)).mono ?_; rintro e w9 ⟨rfl, b9⟩; replace HC := Lib.hid (HC.out.trans b9); clear b9))
      | (gi_at_call 18; go_loud (refine (callsIn_wide.2 (n_len (Unmade.gw U.out HC.out))).mono ?_; rintro e w9 ⟨rfl, hw⟩; replace hw := hw.symm; subst hw))
      | (gi_at_call 21; go_loud (refine (callsIn_wide.2 (n_rank (Unmade.gw U.out HC.out) k)).mono ?_; rintro e w9 ⟨rfl, hw⟩; replace hw := hw.symm; subst hw))
      | (gi_at_call 27; go_loud (refine (callsIn_wide.2 (n_nodes (Unmade.gw U.out HC.out))).mono ?_; rintro e w9 ⟨rfl, hw⟩; replace hw := hw.symm; subst hw))
      | (gi_at_call 28; go_loud (refine (callsIn_wide.2 (n_clone (Unmade.gw U.out HC.out))).mono ?_; rintro e w9 ⟨rfl, hw⟩; replace hw := hw.symm; subst hw))
      )
  rw [roundsIn_succ]
  have g3 := Lib.hid HC.out
  gi_wp2_with (refine ⟨trivial, ?_⟩; gi_at_call 12; refine (callsIn_wide.2 (LV.out _)).mono ?_; rintro e w3 ⟨rfl, b3⟩; have B3 := Lib.hid b3; have cr := ((RR.out.below (G01.out.trans HC.out)).below b3).1; have fr := ((RR.out.below (G01.out.trans HC.out)).below b3).2; clear b3)
  have hsz : w.heap.size < W4.heap.size := RR.out.lt
  have hend : Cel w3 w.heap.size (.bool false) := (RR.out.below (G01.out.trans HC.out)).below B3.out
  have hbl : Below w.heap.size w w3 := BB.out.trans (G01.out.trans (HC.out.trans B3.out))
  refine leaves_marks (fun Y => Below w.heap.size w Y ∧ Cel Y w.heap.size (.bool true)) W4.heap.size (fun Y D h hD ho => ⟨below_turn (o := .deferred (some [])) (b := 0) h.1 (Nat.le_refl _) (by omega) _, h.2.turn _ ho rfl⟩) (fun Y h => ?_) [D2, D1] _ ?_
    (fun D hD => ?_) ⟨hbl.setCell (p := ⟨w.heap.size, 0, none⟩) (Nat.le_refl _) _, hend.set_same _⟩
  · have hc5 := h.2.1
    exact ⟨.bool true, by simp [results, Try.f8, go_sem, hc5], rfl, h.1⟩
  · have h1 := (Array.getElem?_eq_some_iff.1 M1.out).1
    have h2 := S2.out
    simp; omega
  · have h1 := (Array.getElem?_eq_some_iff.1 M1.out).1
    have h2 := S2.out
    have h3 := S1.out
    have h4 := Below.size G01.out
    simp only [List.mem_cons, List.not_mem_nil, or_false] at hD
    rcases hD with rfl | rfl
    · exact ⟨by omega, (Below.heap_setCell _ _ _ _ (by show D ≠ w.heap.size; omega)).trans (stays_at _ _ M2.out B3.out)⟩
    · exact ⟨by omega, (Below.heap_setCell _ _ _ _ (by show D ≠ w.heap.size; omega)).trans (stays_at _ _ (stays_at _ _ M1.out HC.out) B3.out)⟩
end Go.Proofs.Yteniblkfiaohmaa
