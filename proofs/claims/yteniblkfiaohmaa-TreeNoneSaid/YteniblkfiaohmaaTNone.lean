/- A tree that no call made. -/
import Derived.Test.YteniblkfiaohmaaLive
namespace Go.Proofs.Yteniblkfiaohmaa
set_option maxRecDepth 100000
open Go.RowKit

def Unmade (w0 : World) (p : Value) : Prop := ∀ W, Gw w0 W → Calls Try.prog 38 #[p] W fun e w' => e = .returned (.bool false) ∧ w' = W
theorem Unmade.gw {w w' : World} {p : Value} (h : Unmade w p) (g : Gw w w') : Unmade w' p := fun W hW => h W (g.trans hW)
theorem unmade_nil (w : World) : Unmade w (.pointer none) := fun W _ => wmade_nil W
theorem unmade_zero {w : World} {T : Nat} (c : w.cell? ⟨T, 1, none⟩ = some .nilIface) : Unmade w (.pointer (some ⟨T, 0, none⟩)) := fun _ hW => wmade_zero (keep_below c hW)
theorem n_get {w : World} {p : Value} (h : Unmade w p) (k : ByteArray) : Calls Try.prog 20 #[p, .string k] w fun e w' => e = .returned (.tuple #[.int .i64 0, .bool false]) ∧ w' = w := by
  have MN := Lib.hid h
  clear h
  go_enter Try.func20, Try.ntmps20
  go_wp2_with (first | (go_at_call 38; refine (MN.out _ (by first | exact Gw.refl _ | exact (Gw.refl _).alloc _ | exact ((Gw.refl _).alloc _).alloc _)).mono ?_; rintro e w1 ⟨rfl, hw⟩; replace hw := hw.symm; subst hw))
  go_ret2
  exact ⟨rfl, rfl⟩
theorem n_put {w : World} {p : Value} (h : Unmade w p) (k : ByteArray) (z : Int) : Calls Try.prog 24 #[p, .string k, .int .i64 z] w fun e w' => e = .returned (.tuple #[.bool false, .int .i64 2]) ∧ Gw w w' := by
  have MN := Lib.hid h
  clear h
  go_enter Try.func24, Try.ntmps24
  go_wp2_with (first | (go_at_call 38; refine (MN.out _ (by first | exact Gw.refl _ | exact (Gw.refl _).alloc _ | exact ((Gw.refl _).alloc _).alloc _)).mono ?_; rintro e w1 ⟨rfl, hw⟩; replace hw := hw.symm; subst hw))
  go_ret2
  exact ⟨rfl, (by first | exact Gw.refl _ | exact (Gw.refl _).alloc _ | exact ((Gw.refl _).alloc _).alloc _)⟩
theorem n_del {w : World} {p : Value} (h : Unmade w p) (k : ByteArray) : Calls Try.prog 26 #[p, .string k] w fun e w' => e = .returned (.tuple #[.bool false, .int .i64 2]) ∧ Gw w w' := by
  have MN := Lib.hid h
  clear h
  go_enter Try.func26, Try.ntmps26
  go_wp2_with (first | (go_at_call 38; refine (MN.out _ (by first | exact Gw.refl _ | exact (Gw.refl _).alloc _ | exact ((Gw.refl _).alloc _).alloc _)).mono ?_; rintro e w1 ⟨rfl, hw⟩; replace hw := hw.symm; subst hw))
  go_ret2
  exact ⟨rfl, (by first | exact Gw.refl _ | exact (Gw.refl _).alloc _ | exact ((Gw.refl _).alloc _).alloc _)⟩
theorem n_len {w : World} {p : Value} (h : Unmade w p) : Calls Try.prog 18 #[p] w fun e w' => e = .returned (.int .i64 0) ∧ w' = w := by
  have MN := Lib.hid h
  clear h
  go_enter Try.func18, Try.ntmps18
  go_wp2_with (first | (go_at_call 38; refine (MN.out _ (by first | exact Gw.refl _ | exact (Gw.refl _).alloc _ | exact ((Gw.refl _).alloc _).alloc _)).mono ?_; rintro e w1 ⟨rfl, hw⟩; replace hw := hw.symm; subst hw))
  go_ret
  exact ⟨rfl, rfl⟩
theorem n_rank {w : World} {p : Value} (h : Unmade w p) (k : ByteArray) : Calls Try.prog 21 #[p, .string k] w fun e w' => e = .returned (.int .i64 0) ∧ w' = w := by
  have MN := Lib.hid h
  clear h
  go_enter Try.func21, Try.ntmps21
  go_wp2_with (first | (go_at_call 38; refine (MN.out _ (by first | exact Gw.refl _ | exact (Gw.refl _).alloc _ | exact ((Gw.refl _).alloc _).alloc _)).mono ?_; rintro e w1 ⟨rfl, hw⟩; replace hw := hw.symm; subst hw))
  go_ret
  exact ⟨rfl, rfl⟩
theorem n_nodes {w : World} {p : Value} (h : Unmade w p) : Calls Try.prog 27 #[p] w fun e w' => e = .returned (.slice none 0 0) ∧ w' = w := by
  have MN := Lib.hid h
  clear h
  go_enter Try.func27, Try.ntmps27
  go_wp2_with (first | (go_at_call 38; refine (MN.out _ (by first | exact Gw.refl _ | exact (Gw.refl _).alloc _ | exact ((Gw.refl _).alloc _).alloc _)).mono ?_; rintro e w1 ⟨rfl, hw⟩; replace hw := hw.symm; subst hw))
  go_ret
  exact ⟨rfl, rfl⟩
theorem n_clone {w : World} {p : Value} (h : Unmade w p) : Calls Try.prog 28 #[p] w fun e w' => e = .returned (.pointer none) ∧ w' = w := by
  have MN := Lib.hid h
  clear h
  go_enter Try.func28, Try.ntmps28
  go_wp2_with (first | (go_at_call 38; refine (MN.out _ (by first | exact Gw.refl _ | exact (Gw.refl _).alloc _ | exact ((Gw.refl _).alloc _).alloc _)).mono ?_; rintro e w1 ⟨rfl, hw⟩; replace hw := hw.symm; subst hw))
  go_ret
  exact ⟨rfl, rfl⟩
theorem n_scan {w : World} {p : Value} (h : Unmade w p) (k k2 : ByteArray) : Calls Try.prog 16 #[p, .string k, .string k2] w fun e w' => e = .returned (.func (.func 39) #[] #[]) ∧ Gw w w' := by
  have MN := Lib.hid h
  clear h
  go_enter Try.func16, Try.ntmps16
  go_wp2_with (first | (go_at_call 38; refine (MN.out _ (by first | exact Gw.refl _ | exact (Gw.refl _).alloc _ | exact ((Gw.refl _).alloc _).alloc _)).mono ?_; rintro e w1 ⟨rfl, hw⟩; replace hw := hw.symm; subst hw))
  go_ret
  exact ⟨rfl, (by first | exact Gw.refl _ | exact (Gw.refl _).alloc _ | exact ((Gw.refl _).alloc _).alloc _)⟩
theorem n_at {w : World} {p : Value} (h : Unmade w p) (i : Int) : Calls Try.prog 19 #[p, .int .i64 i] w fun e w' => e = .returned (.tuple #[.string ⟨#[]⟩, .int .i64 0, .bool false]) ∧ w' = w := by
  have LN := Lib.hid (n_len h)
  clear h
  by_cases h0 : i < 0
  · go_enter Try.func19, Try.ntmps19
    go_wp2
    go_ret3
    exact ⟨rfl, rfl⟩
  · have h1 : (0 : Int) ≤ i := by omega
    go_enter Try.func19, Try.ntmps19
    go_wp2_with (go_at_call 18; refine LN.out.mono ?_; rintro e w1 ⟨rfl, hw⟩; replace hw := hw.symm; subst hw)
    go_ret3
    exact ⟨rfl, rfl⟩
theorem n_next {w : World} {p : Value} (h : Unmade w p) (k : ByteArray) (b : Bool) : Calls Try.prog 22 #[p, .string k, .bool b] w fun e w' => e = .returned (.tuple #[.string ⟨#[]⟩, .int .i64 0, .bool false]) ∧ w' = w := by
  have C1 := Lib.hid (n_rank h k)
  have C2 := Lib.hid (n_get h k)
  have C3 := Lib.hid (n_at h 0)
  clear h
  go_enter Try.func22, Try.ntmps22
  go_wp2_with (first | (go_at_call 21; refine C1.out.mono ?_; rintro e w1 ⟨rfl, hw⟩; replace hw := hw.symm; subst hw) | (go_at_call 20; refine C2.out.mono ?_; rintro e w1 ⟨rfl, hw⟩; replace hw := hw.symm; subst hw) | (go_at_call 19; refine C3.out.mono ?_; rintro e w1 ⟨rfl, hw⟩; replace hw := hw.symm; subst hw))
  go_ret3
  exact ⟨rfl, rfl⟩
end Go.Proofs.Yteniblkfiaohmaa
