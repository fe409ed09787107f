/- A disk that no call made; and begun. -/
import Derived.Test.YtapjgancaldgaaaDNew
namespace Go.Proofs.Ytapjgancaldgaaa
set_option maxRecDepth 100000
open Go.RowKit

/-- No call made it: nil, or all zero. -/
def Un (w : World) (p : Value) : Prop := p = .pointer none ∨ ∃ d, p = .pointer (some ⟨d, 0, none⟩) ∧ w.cell? ⟨d, 0, none⟩ = some (.slice none 0 0)
section
variable {w : World} {p : Value}
theorem umade (h : Un w p) : Calls Try.prog 49 #[p] w fun e w' => e = .returned (.bool false) ∧ w = w' := by
  rcases h with rfl | ⟨d, rfl, hc⟩
  · go_enter Try.func49, Try.ntmps49
    go_wp2
    go_ret
    exact ⟨rfl, rfl⟩
  · go_enter Try.func49, Try.ntmps49
    go_wp2
    go_ret
    exact ⟨rfl, rfl⟩
theorem urefusesAll (h : Un w p) : Calls Try.prog 55 #[p] w fun e w' => e = .returned (.int .i64 2) ∧ w = w' := by
  have m := umade h
  clear h
  go_enter Try.func55, Try.ntmps55
  go_wp2_with (go_at_call 49; refine m.mono ?_; rintro e w' ⟨rfl, rfl⟩)
  go_ret
  exact ⟨rfl, rfl⟩
theorem urefuses (h : Un w p) (n : Int) : Calls Try.prog 53 #[p, .int .i64 n] w fun e w' => e = .returned (.int .i64 2) ∧ w = w' := by
  have m := urefusesAll h
  clear h
  go_enter Try.func53, Try.ntmps53
  go_wp2_with (go_at_call 55; refine m.mono ?_; rintro e w' ⟨rfl, rfl⟩)
  go_ret
  exact ⟨rfl, rfl⟩
theorem uread (h : Un w p) (n : Int) : Calls Try.prog 59 #[p, .int .i64 n] w fun e w' => e = .returned (.tuple #[.slice none 0 0, .int .i64 2]) ∧ w = w' := by
  have m := urefuses h n
  clear h
  go_enter Try.func59, Try.ntmps59
  go_wp2_with (go_at_call 53; refine m.mono ?_; rintro e w' ⟨rfl, rfl⟩)
  go_ret2
  exact ⟨rfl, rfl⟩
theorem uwrite (h : Un w p) (n : Int) (v : Value) : Calls Try.prog 17 #[p, .int .i64 n, v] w fun e w' => e = .returned (.int .i64 2) ∧ w = w' := by
  have m := urefuses h n
  clear h
  go_enter Try.func17, Try.ntmps17
  go_wp2_with (go_at_call 53; refine m.mono ?_; rintro e w' ⟨rfl, rfl⟩)
  go_ret
  exact ⟨rfl, rfl⟩
theorem usync (h : Un w p) : Calls Try.prog 19 #[p] w fun e w' => e = .returned (.int .i64 2) ∧ w = w' := by
  have m := urefusesAll h
  clear h
  go_enter Try.func19, Try.ntmps19
  go_wp2_with (go_at_call 55; refine m.mono ?_; rintro e w' ⟨rfl, rfl⟩)
  go_ret
  exact ⟨rfl, rfl⟩
theorem uplan (h : Un w p) (n : Int) : Calls Try.prog 18 #[p, .int .i64 n] w fun e w' => e = .returned (.int .i64 2) ∧ w = w' := by
  have m := urefusesAll h
  clear h
  go_enter Try.func18, Try.ntmps18
  go_wp2_with (go_at_call 55; refine m.mono ?_; rintro e w' ⟨rfl, rfl⟩)
  go_ret
  exact ⟨rfl, rfl⟩
theorem ucrash (h : Un w p) (v : Value) : Calls Try.prog 28 #[p, v] w fun e w' => e = .returned (.int .i64 2) ∧ w = w' := by
  have m := umade h
  clear h
  go_enter Try.func28, Try.ntmps28
  go_wp2_with (go_at_call 49; refine m.mono ?_; rintro e w' ⟨rfl, rfl⟩)
  go_ret
  exact ⟨rfl, rfl⟩
theorem uoff (h : Un w p) : Calls Try.prog 25 #[p] w fun e w' => e = .returned (.bool false) ∧ w = w' := by
  have m := umade h
  clear h
  go_enter Try.func25, Try.ntmps25
  go_wp2_with (go_at_call 49; refine m.mono ?_; rintro e w' ⟨rfl, rfl⟩)
  go_ret
  exact ⟨rfl, rfl⟩
theorem ublocks (h : Un w p) : Calls Try.prog 39 #[p] w fun e w' => e = .returned (.int .i64 0) ∧ w = w' := by
  have m := umade h
  clear h
  go_enter Try.func39, Try.ntmps39
  go_wp2_with (go_at_call 49; refine m.mono ?_; rintro e w' ⟨rfl, rfl⟩)
  go_ret
  exact ⟨rfl, rfl⟩
theorem upending (h : Un w p) : Calls Try.prog 63 #[p] w fun e w' => e = .returned (.slice none 0 0) ∧ w = w' := by
  have m := umade h
  clear h
  go_enter Try.func63, Try.ntmps63
  go_wp2_with (go_at_call 49; refine m.mono ?_; rintro e w' ⟨rfl, rfl⟩)
  go_ret
  exact ⟨rfl, rfl⟩
theorem uimage (h : Un w p) : Calls Try.prog 64 #[p] w fun e w' => e = .returned (.tuple #[.slice none 0 0, .slice none 0 0]) ∧ w = w' := by
  have m := umade h
  clear h
  go_enter Try.func64, Try.ntmps64
  go_wp2_with (go_at_call 49; refine m.mono ?_; rintro e w' ⟨rfl, rfl⟩)
  go_ret2
  exact ⟨rfl, rfl⟩
theorem ucounts (h : Un w p) : Calls Try.prog 36 #[p] w fun e w' => e = .returned (.tuple #[.int .i64 0, .int .i64 0]) ∧ w = w' := by
  have m := umade h
  clear h
  go_enter Try.func36, Try.ntmps36
  go_wp2_with (go_at_call 49; refine m.mono ?_; rintro e w' ⟨rfl, rfl⟩)
  go_ret2
  exact ⟨rfl, rfl⟩
theorem uclone (h : Un w p) : Calls Try.prog 16 #[p] w fun e w' => e = .returned (.pointer none) ∧ w = w' := by
  have m := umade h
  clear h
  go_enter Try.func16, Try.ntmps16
  go_wp2_with (go_at_call 49; refine m.mono ?_; rintro e w' ⟨rfl, rfl⟩)
  go_ret
  exact ⟨rfl, rfl⟩
end

section
variable {F : Nat → Prop} {w w' : World} {d : Nat} {S : St}
theorem PD.stays (h : PD F w d S) (hk : ∀ k, k < w.heap.size → F k → w'.heap[k]? = w.heap[k]?) : PD F w' d S := by
  obtain ⟨nw, vl, vp, vn, h, hn⟩ := h
  exact ⟨nw, vl, vp, vn, h.stays hk, hn⟩
theorem PD.mono {F' : Nat → Prop} (h : PD F w d S) (hF : ∀ k, k < w.heap.size → F k → F' k) : PD F' w d S := by
  obtain ⟨nw, vl, vp, vn, h, hn⟩ := h
  exact ⟨nw, vl, vp, vn, h.mono hF, hn⟩
theorem PD.below (h : PD F w d S) (hb : Below w.heap.size w w') : PD F w' d S := h.stays fun k hk _ => hb.block k hk
theorem PD.alloc (h : PD F w d S) (o : Obj) : PD F (w.alloc o) d S := h.stays fun k hk _ => Below.heap_alloc _ _ _ hk
theorem PD.drew (h : PD F w d S) : PD F w.drew d S := h.stays fun _ _ _ => rfl
theorem PD.out {G : Nat → Prop} (h : PD F w d S) (ho : Out G w w') (hd : ∀ k, k < w.heap.size → F k → ¬ G k) : PD F w' d S := h.stays fun k hk hf => ho.block k hk (hd k hk hf)
theorem PD.shut (h : PD F w d S) : PD (fun k => F k ∧ k < w.heap.size) w d S := h.mono fun k hk hf => ⟨hf, hk⟩
theorem far_new {F : Nat → Prop} {B b m : Nat} (hb : B ≤ b) : Far (fun k => F k ∧ k < B) (some ⟨b, 0, none⟩) m := by
  intro ad e _ hh
  cases e
  exact Nat.lt_irrefl _ (Nat.lt_of_lt_of_le hh.2 hb)
theorem PD.wf (h : PD F w d S) : Wf S := by obtain ⟨_, _, _, _, h, _⟩ := h; exact h.wf
theorem pblocks (h : PD F w d S) : Calls Try.prog 39 #[.pointer (some ⟨d, 0, none⟩)] w fun e w' => e = .returned (.int .i64 (S.last.length : Int)) ∧ w = w' := by
  obtain ⟨_, _, _, _, h, _⟩ := h
  exact dblocks h
theorem poff (h : PD F w d S) : Calls Try.prog 25 #[.pointer (some ⟨d, 0, none⟩)] w fun e w' => e = .returned (.bool S.off) ∧ w = w' := by
  obtain ⟨_, _, _, _, h, _⟩ := h
  exact doff h
theorem pcounts (h : PD F w d S) : Calls Try.prog 36 #[.pointer (some ⟨d, 0, none⟩)] w fun e w' => e = .returned (.tuple #[.int .i64 S.writes, .int .i64 S.syncs]) ∧ w' = w.drew := by
  obtain ⟨_, _, _, _, h, _⟩ := h
  exact dcounts h
def planS (S : St) (n : Int) : St := if S.off then S else { S with plan := max n (-1) }
theorem pplan (h : PD F w d S) (n : Int) (hn : -9223372036854775808 ≤ n ∧ n ≤ 9223372036854775807) : Calls Try.prog 18 #[.pointer (some ⟨d, 0, none⟩), .int .i64 n] w (Codes F w d (planS S n) (if S.off then 22 else 0)) := by
  obtain ⟨_, _, _, _, h, hnw⟩ := h
  refine (dplan h n hn).mono ?_
  rintro e w' ⟨rfl, h1, o1⟩
  refine codes (by unfold planS; exact h1) ?_ o1
  unfold planS
  split
  · exact hnw
  · exact nwok_same hnw rfl rfl
end

theorem rb_zeros (w : World) (n : Nat) (h : n ≤ 281474976710656) : RB (w.alloc (.cells (madeCells #[.int .u8 0] n) 5)) (some ⟨w.heap.size, 0, none⟩) n (List.replicate n 0) := by
  have := (row_made w n).rb (fun z hz => by have := List.eq_of_mem_replicate hz; omega)
  simpa using this

theorem begun_true (w : World) : Calls Try.prog 24 #[] w fun e w' => e = .returned (.bool true) ∧ Below w.heap.size w w' := by
  have c1 := dnew w 1 (by omega)
  have hmk : ∀ w, (Instr.makeSlice 34 (.int .i64 64) (.int .i64 64)).run Try.prog w = .ok (.slice (some ⟨w.heap.size, 0, none⟩) 64 64) (w.alloc (.cells (madeCells #[.int .u8 0] 64) 5)) := fun w => run_make_bytes w 64 64 (by omega) (by omega) (by omega)
  go_enter Try.func24, Try.ntmps24
  go_wp2_with (first
    | (go_at_call 14; refine c1.mono ?_; rintro e w1 (⟨h, -, -⟩ | ⟨-, d, rfl, h1, b1⟩); exact absurd (by omega) h; have H1 := Lib.hid h1.shut; have B1 := Lib.hid b1; clear h1 b1)
    | (go_at_call 39; have hb := pblocks H1.out; rw [show ((newS (Int.toNat 1)).last.length : Int) = 1 from rfl] at hb; refine hb.mono ?_; rintro e w2 ⟨rfl, rfl⟩; clear hb)
    | (go_at_call 17; have hw := dwrite (H1.out.alloc (.cells (madeCells #[.int .u8 0] 64) 5)) 0 _ 64 64 _ (rb_zeros w1 64 (by omega)) (far_new (Nat.le_refl _)) (by omega) (by omega) (by decide); rw [show writeE (newS (Int.toNat 1)) 0 (List.replicate 64 (0 : Int)).length = 0 from rfl] at hw; refine hw.mono ?_; rintro e w3 ⟨rfl, -, o3⟩; clear hw; have O3 := Lib.hid o3; clear o3))
  go_ret
  exact ⟨rfl, (B1.out.alloc B1.out.size _).trans (O3.out.below (by simp; exact Nat.le_succ_of_le B1.out.size) (fun k hk hf => by omega))⟩
end Go.Proofs.Ytapjgancaldgaaa
