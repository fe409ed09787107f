/- Layer 8: maps.Clone of a map of locks; a trial manager's Clone. -/
import Derived.Test.YtghnafknbgmagaaLkShelf
import Derived.Test.YtghnafknbgmagaaLkBegun
import Derived.Deep.RegionWith
import Derived.Deep.RegionHeld3
namespace Go.Proofs.Ytghnafknbgmagaa
set_option maxRecDepth 100000
set_option maxRecDepth 100000
open Go.RowKit Go.Maps Go.ChangeMaps Go.MapKept

theorem wmapClone {w : World} {r : Nat} {hs : List Hd} (h : MapAt w r hs) : Calls Try.prog 24 #[.map (some r)] w fun e w' => e = .returned (.map (some w.heap.size)) ∧ MapAt w' w.heap.size hs ∧ Below w.heap.size w w' := by
  obtain ⟨D, ho, hv⟩ := h
  have hcon := AnyW.maps_Clone_owns Try.cloneL 34 _ r hs.length D w ho
  change Calls Try.prog 24 _ _ _ at hcon
  refine hcon.mono ?_
  rintro e w' ⟨h1, h2, -, h3⟩
  exact ⟨h1, ⟨D, h2, hv⟩, h3⟩

set_option maxHeartbeats 2000000 in
theorem wkClone {w : World} {b r : Nat} {most : Int} {hs : List Hd} (h : MG w b r most hs) :
    Calls Try.prog 11 #[.pointer (some ⟨b, 0, none⟩)] w fun e w' => ∃ m2 r2, e = .returned (.pointer (some ⟨m2, 0, none⟩)) ∧ MG w' m2 r2 most hs ∧ w.heap.size ≤ m2 ∧ w.heap.size ≤ r2 ∧ Below w.heap.size w w' := by
  have c0 : w.cell? ⟨b, 0, none⟩ = some (.int .i64 most) := cell_of_row _ _ 0 _ _ _ h.blk
  have c1 : w.cell? ⟨b, 1, none⟩ = some (.map (some r)) := cell_of_row _ _ 1 _ _ _ h.blk
  have CM := Lib.hid (wkMade h)
  have CC := Lib.hid (wmapClone (h.below (Below.refl w.heap.size w).drew).map)
  have HM := Lib.hid h
  clear h
  go_enter Try.func11, Try.ntmps11
  go_upto_region 3 with (go_at_call 23; go_loud (refine CM.out.mono ?_; rintro e w1 ⟨rfl, hw⟩; replace hw := hw.symm; subst hw))
  go_region_held3 (fun w' => w'.cell? ⟨b, 0, none⟩ = some (.int .i64 most) ∧ w'.cell? ⟨b, 1, none⟩ = some (.map (some r))) (first | exact ⟨c0, c1⟩ | exact S2 | exact S3)
    (first | (go_at_call 24; go_loud (refine CC.out.mono ?_; rintro e w2 ⟨rfl, m2, g2⟩; have M2 := Lib.hid m2; have G2 := Lib.hid (show Below w.heap.size w w2 from (Below.refl w.heap.size w).drew.trans g2); have S2 : w2.cell? ⟨b, 0, none⟩ = some (.int .i64 most) ∧ w2.cell? ⟨b, 1, none⟩ = some (.map (some r)) := ⟨keep_below c0 G2.out, keep_below c1 G2.out⟩; have S3 : (w2.alloc (Obj.cells #[Value.int .i64 most, Value.map (some w.heap.size)] 56)).cell? ⟨b, 0, none⟩ = some (.int .i64 most) ∧ (w2.alloc (Obj.cells #[Value.int .i64 most, Value.map (some w.heap.size)] 56)).cell? ⟨b, 1, none⟩ = some (.map (some r)) := ⟨keep_below S2.1 ((Below.refl _ _).alloc (Nat.le_refl _) _), keep_below S2.2 ((Below.refl _ _).alloc (Nat.le_refl _) _)⟩; clear m2 g2)))
  all_goals
    go_wp2
    go_ret
    refine ⟨w2.heap.size, w.heap.size, rfl, ⟨heap_alloc_new w2 _, M2.out.block (((Below.refl w2.heap.size w2).alloc (Nat.le_refl _) _).block _ M2.out.lt), HM.out.m1, HM.out.m2, HM.out.len⟩, G2.out.size, Nat.le_refl _, G2.out.alloc G2.out.size _⟩
end Go.Proofs.Ytghnafknbgmagaa
