/- A log that no call made, a disk that no call made: each answer. -/
import Derived.Test.YtapjgancaldgaaaDNone
import Derived.Test.YtapjgancaldgaaaLBlocks
namespace Go.Proofs.Ytapjgancaldgaaa
set_option maxRecDepth 100000
open Go.RowKit

/-- A log that no call made. -/
def LU (w : World) (v : Value) : Prop := v = .pointer none ∨ ∃ b, v = .pointer (some ⟨b, 0, none⟩) ∧ w.cell? ⟨b, 0, none⟩ = some (.pointer none)
section
variable {w : World} {v : Value}
theorem nmade (h : LU w v) : Calls Try.prog 93 #[v] w fun e w' => e = .returned (.bool false) ∧ w = w' := by
  rcases h with rfl | ⟨b, rfl, hc⟩
  · go_enter Try.func93, Try.ntmps93
    go_wp2
    go_ret
    exact ⟨rfl, rfl⟩
  · go_enter Try.func93, Try.ntmps93
    go_wp2
    go_ret
    exact ⟨rfl, rfl⟩
theorem ngoes (h : LU w v) : Calls Try.prog 80 #[v] w fun e w' => e = .returned (.bool false) ∧ w = w' := by
  have hm := nmade h
  go_enter Try.func80, Try.ntmps80
  go_wp2_with (go_at_call 93; refine hm.mono ?_; rintro e w' ⟨rfl, rfl⟩)
  go_ret
  exact ⟨rfl, rfl⟩
theorem nroom (h : LU w v) : Calls Try.prog 42 #[v] w fun e w' => e = .returned (.int .i64 0) ∧ w = w' := by
  have hm := ngoes h
  go_enter Try.func42, Try.ntmps42
  go_wp2_with (go_at_call 80; refine hm.mono ?_; rintro e w' ⟨rfl, rfl⟩)
  go_ret
  exact ⟨rfl, rfl⟩
theorem ncount (h : LU w v) : Calls Try.prog 44 #[v] w fun e w' => e = .returned (.int .i64 0) ∧ w = w' := by
  have hm := ngoes h
  go_enter Try.func44, Try.ntmps44
  go_wp2_with (go_at_call 80; refine hm.mono ?_; rintro e w' ⟨rfl, rfl⟩)
  go_ret
  exact ⟨rfl, rfl⟩
theorem nrefuses (h : LU w v) (b : Value) : Calls Try.prog 81 #[v, b] w fun e w' => e = .returned (.int .i64 2) ∧ w = w' := by
  have hm := nmade h
  go_enter Try.func81, Try.ntmps81
  go_wp2_with (go_at_call 93; refine hm.mono ?_; rintro e w' ⟨rfl, rfl⟩)
  go_ret
  exact ⟨rfl, rfl⟩
theorem nappend (h : LU w v) (b : Value) : Calls Try.prog 45 #[v, b] w fun e w' => e = .returned (.int .i64 2) ∧ w = w' := by
  have hm := nrefuses h b
  go_enter Try.func45, Try.ntmps45
  go_wp2_with (go_at_call 81; refine hm.mono ?_; rintro e w' ⟨rfl, rfl⟩)
  go_ret
  exact ⟨rfl, rfl⟩
theorem ncheck (h : LU w v) (b : Value) : Calls Try.prog 46 #[v, b] w fun e w' => e = .returned (.int .i64 2) ∧ w = w' := by
  have hm := nrefuses h b
  go_enter Try.func46, Try.ntmps46
  go_wp2_with (go_at_call 81; refine hm.mono ?_; rintro e w' ⟨rfl, rfl⟩)
  go_ret
  exact ⟨rfl, rfl⟩
theorem nfind (h : Un w v) : Calls Try.prog 74 #[v] w fun e w' => e = .returned (.tuple #[.pointer none, .int .i64 2]) ∧ w = w' := by
  go_enter Try.func74, Try.ntmps74
  go_wp2_with (go_at_call 39; refine (ublocks h).mono ?_; rintro e w' ⟨rfl, rfl⟩)
  go_ret2
  exact ⟨rfl, rfl⟩
theorem nformat (h : Un w v) : Calls Try.prog 41 #[v] w fun e w' => e = .returned (.tuple #[.pointer none, .int .i64 2]) ∧ w = w' := by
  have hm := nfind h
  go_enter Try.func41, Try.ntmps41
  go_wp2_with (go_at_call 74; refine hm.mono ?_; rintro e w' ⟨rfl, rfl⟩)
  go_ret2
  exact ⟨rfl, rfl⟩
theorem nopen (h : Un w v) : Calls Try.prog 38 #[v] w fun e w' => e = .returned (.tuple #[.pointer none, .slice none 0 0, .int .i64 2]) ∧ w = w' := by
  have hm := nfind h
  go_enter Try.func38, Try.ntmps38
  go_wp2_with (go_at_call 74; refine hm.mono ?_; rintro e w' ⟨rfl, rfl⟩)
  go_ret3
  exact ⟨rfl, rfl⟩
end
end Go.Proofs.Ytapjgancaldgaaa
