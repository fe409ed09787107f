/- The walk of TupleReads: FromKey and Above answer as the reference does. -/
import Derived.Test.YtiappioofagpgaaDoorKeyLists
import Derived.Test.YtiappioofagpgaaDoorKeyRefFrom
import Derived.Test.YtiappioofagpgaaDoorTupleAboveWalk
namespace Go.Proofs.YtiappioofagpgaaDoor
open Go.RowKit

/-- A slice of values, and the error beside it. -/
def FkV (o : Option (List KV)) (c : Int) (w : World) (e : Ending) (w' : World) : Prop :=
  ∃ v l, e = .returned (.tuple #[v, .int .i64 c]) ∧ OV w.heap.size w' v l ∧ l = o.getD [] ∧ Below w.heap.size w w'
theorem FkV.of {o : Option (List KV)} {w w' : World} {e : Ending} (h : FkRet o w e w') : FkV o (if o.isSome then 0 else 40) w e w' := by
  cases o with
  | none => obtain ⟨h1, h2⟩ := h; exact ⟨_, [], h1, OV.nil _ _, rfl, h2⟩
  | some l => obtain ⟨v, h1, h2, h3⟩ := h; exact ⟨v, l, h1, h2, rfl, h3⟩
theorem fk_len (tk : List Int → Option (KV × Nat)) : ∀ (f : Nat) (L : List Int) (acc l : List KV), acc.length ≤ 16 → fkG tk f L acc = some l → l.length ≤ 16
  | 0, _, _, _, _, h => by simp [fkG] at h
  | f + 1, L, acc, l, ha, h => by
    simp only [fkG] at h
    split at h
    · simp at h; subst h; exact ha
    · cases e : tk L with
      | none => rw [e] at h; simp at h
      | some x =>
        rw [e] at h
        simp only at h
        split at h
        · cases h
        · exact fk_len tk f _ _ _ (by simp; omega) h

set_option maxHeartbeats 4000000 in
set_option maxRecDepth 100000 in
theorem walk_reads (a0 u : ByteArray) (yes : Bool) (w : World) (hg : w.cell? ⟨1, 0, none⟩ = some (.int .u64 1)) (ha0 : a0.size ≤ 140737488351232)
    (A1 : ∀ W, Calls Tryd.prog 7 #[.string a0] W fun e w' => e = .returned (.tuple #[.string u, .bool yes]) ∧ Below W.heap.size W w')
    (A2 : ∀ W, Calls Tryd.prog 8 #[.string a0] W fun e w' => e = .returned (.tuple #[.string u, .bool yes]) ∧ Below W.heap.size W w') :
    Calls Tryd.prog 3 #[.string a0] w fun e w' => e = .returned (.bool true) ∧ Below w.heap.size w w' := by
  have B0 := Lib.hid begun_yes
  have G := Lib.hid hg
  have HA1 := Lib.hid A1
  have HA2 := Lib.hid A2
  have hag : fk tkP (strB a0) [] = (fk tkR (strB a0) []).filter fits := fk_agree _ _ _ (Nat.le_refl _) rfl
  have F1 := Lib.hid fun W => (fromKey_is a0 W ha0).mono fun e w' h => FkV.of h
  have F2 := Lib.hid fun W => (rfromKey_is a0 W ha0).mono fun e w' h => FkV.of h
  rw [← hag] at F2
  have HLen : Hid (((fk tkP (strB a0) []).getD []).length ≤ 1000000) := Lib.hid (by
    cases ho : fk tkP (strB a0) [] with
    | none => simp
    | some l => have := fk_len tkP _ _ _ _ (by simp) ho; simp; omega)
  generalize fk tkP (strB a0) [] = o at F1 F2 HLen
  generalize (if o.isSome then (0 : Int) else 40) = c at F1 F2
  have LY := Lib.hid lists_yes
  clear hg A1 A2 hag
  go_enter Tryd.func3, Tryd.ntmps3
  go_wp2_with fail
  refine (F1.out _).mono ?_
  rintro e w1 ⟨v1, l1, rfl, o1, e1, b1⟩
  have E1 := Lib.hid e1
  clear e1
  go_wp2_with fail
  refine (F2.out _).mono ?_
  rintro e w2 ⟨v2, l2, rfl, o2, e2, b2⟩
  have E2 := Lib.hid e2
  have o1' := o1.below b2
  have B2 := below_next b1 b2
  clear e2 o1 b1 b2
  go_wp2_with fail
  refine (HA1.out _).mono ?_
  rintro e w3 ⟨rfl, b3⟩
  have o1 := o1'.below b3
  have o2' := o2.below b3
  have B3 := below_next B2 b3
  clear o1' o2 B2 b3
  go_wp2_with fail
  refine (HA2.out _).mono ?_
  rintro e w4 ⟨rfl, b4⟩
  have o1' := o1.below b4
  have o2 := o2'.below b4
  have B4 := below_next B3 b4
  clear o1 o2' B3 b4
  go_wp2_with fail
  refine (B0.out _ (keep_below G.out B4)).mono ?_
  rintro e w5 ⟨rfl, b5⟩
  have o1 := o1'.below b5
  have o2' := o2.below b5
  have B5 := below_next B4 b5
  clear o1' o2 B4 b5
  obtain rfl : l1 = l2 := E1.out.trans E2.out.symm
  have HL := Lib.hid (show l1.length ≤ 1000000 by rw [E1.out]; exact HLen.out)
  go_wp2_with fail
  refine (LY.out _ _ l1 _ _ _ o1 o2' HL.out).mono ?_
  rintro e w6 ⟨rfl, b6⟩
  go_wp2
  go_ret
  exact ⟨rfl, below_next B5 b6⟩

theorem walk_TupleReads (a0 : ByteArray) (w : World) (hg : w.cell? ⟨1, 0, none⟩ = some (.int .u64 1)) (ha0 : a0.size ≤ 140737488351232) :
    Calls Tryd.prog 3 #[.string a0] w fun e w' => e = .returned (.bool true) ∧ Below w.heap.size w w' := by
  rcases last_not a0 a0.size (Nat.le_refl _) (fun i hi h => absurd hi (by omega)) with h | ⟨j, hj, hc, hall⟩
  · exact walk_reads a0 _ _ w hg ha0 (fun W => (above_none a0 W ha0 h).mono fun e w' ⟨h1, h2⟩ => ⟨h1, h2 ▸ Below.refl _ _⟩) (fun W => (rabove_none a0 W ha0 h).mono fun e w' ⟨h1, h2⟩ => ⟨h1, h2 ▸ Below.refl _ _⟩)
  · exact walk_reads a0 _ _ w hg ha0 (fun W => above_some a0 W ha0 j hj hc hall) (fun W => rabove_some a0 W ha0 j hj hc hall)
end Go.Proofs.YtiappioofagpgaaDoor
