/- alikeInts and alikePending of what the program and the reference hold alike. -/
import Derived.Test.YtapjgancaldgaaaRImage
namespace Go.Proofs.Ytapjgancaldgaaa
set_option maxRecDepth 100000
open Go.RowKit

set_option maxHeartbeats 1000000 in
theorem lints {A B : Option Addr} {n : Nat} {zs : List Int} {w : World} (h1 : RI w A n zs) (h2 : RI w B n zs) (c d : Nat) (hn : n ≤ 140737488355328) :
    Calls Try.prog 66 #[.slice A n c, .slice B n d] w fun e w' => e = .returned (.bool true) ∧ ∃ m, w' = w.drewN m := by
  have H1 := Lib.hid h1
  have H2 := Lib.hid h2
  clear h1 h2
  go_enter Try.func66, Try.ntmps66
  go_wp2
  go_loopw [5, 13] (fun _ i wr => ∃ k m : Nat, i = .int .i64 (k : Nat) ∧ k ≤ n ∧ wr = w.drewN m) (fun _ i _ => n - (intOf i).toNat)
  case atStart => exact ⟨0, 0, rfl, Nat.zero_le _, rfl⟩
  case round =>
    obtain ⟨k, m, rfl, hk, hm⟩ := hrel
    by_cases hlt : k < n
    · obtain ⟨b1, o1, rfl, hc1⟩ := H1.out.cell (by omega)
      obtain ⟨b2, o2, rfl, hc2⟩ := H2.out.cell (by omega)
      have k1 : wr.cell? ⟨b1, o1 + k, none⟩ = some (.int .i64 (zs.getD k 0)) := by rw [hm]; exact hc1 k hlt
      have k2 : wr.cell? ⟨b2, o2 + k, none⟩ = some (.int .i64 (zs.getD k 0)) := by rw [hm]; exact hc2 k hlt
      obtain ⟨z, hz⟩ : ∃ z, z = zs.getD k 0 := ⟨_, rfl⟩
      rw [← hz] at k1 k2
      have hki : (k : Int) < (n : Int) := by omega
      have HM := Lib.hid hm
      clear hc1 hc2 hz hm
      go_wp2
      go_quiet (fail)
      go_wp2
      go_roundw
      case rel => exact ⟨k + 1, _, by go_num, hlt, by rw [HM.out, World.drewN_drewN]⟩
      case measure => simp [intOf]; omega
    · obtain rfl : k = n := by omega
      go_wp2
      go_ret
      exact ⟨rfl, m, rfl⟩

set_option maxHeartbeats 2000000 in
theorem lpendR {F : Nat → Prop} {w : World} {g : Nat} {l : List Wr} {L : List (Value × Value)} {G : List Nat} {vw : Value} {p gd gt : Nat} (h : PRow w g l.length l l.length L G) (h' : RWait F w vw l p gd gt) (hb : ∀ x ∈ l, B64 x.b) (hn : l.length ≤ 4398046511104) :
    Calls Try.prog 62 #[.slice (some ⟨g, 0, none⟩) l.length l.length, vw] w fun e w' => e = .returned (.bool true) ∧ ∃ m, w' = w.drewN m := by
  have hr := Lib.hid h
  have hr' := Lib.hid h'
  obtain ⟨A', cap', rfl⟩ := h'.form
  clear h h'
  go_enter Try.func62, Try.ntmps62
  go_wp2
  go_loopw [5, 13] (fun _ i wr => ∃ k m : Nat, i = .int .i64 (k : Nat) ∧ k ≤ l.length ∧ wr = w.drewN m) (fun _ i _ => l.length - (intOf i).toNat)
  case atStart => exact ⟨0, 0, rfl, Nat.zero_le _, rfl⟩
  case round =>
    obtain ⟨k, m, rfl, hk, hm⟩ := hrel
    by_cases hlt : k < l.length
    · obtain ⟨x, hx⟩ : ∃ x, l[k]? = some x := ⟨_, List.getElem?_eq_getElem (by omega)⟩
      have hxb := hb x (List.mem_of_getElem? hx)
      obtain ⟨b1, p1, p2, p3, -, -⟩ := hr.out.cells_ hlt x hx hxb
      obtain ⟨g', cap, hgv, -, -, -, -, -, hrow⟩ := hr'.out.row (by intro e; rw [e] at hlt; simp at hlt)
      injection hgv with hg1 hg2 hg3
      subst hg1
      subst hg3
      obtain ⟨b2, cb, q1, q2, -, q3, -⟩ := hrow k x hx
      have c1 : wr.cell? ⟨g, k * 2, none⟩ = some (.int .i64 (x.p : Int)) := by rw [hm]; exact p1
      have c2 : wr.cell? ⟨g, k * 2 + 1, none⟩ = some (.slice (some ⟨b1, 0, none⟩) 64 64) := by rw [hm]; exact p2
      have c3 : wr.cell? ⟨g', k * 2, none⟩ = some (.int .i64 (x.p : Int)) := by rw [hm]; exact q1
      have c4 : wr.cell? ⟨g', k * 2 + 1, none⟩ = some (.slice (some ⟨b2, 0, none⟩) 64 cb) := by rw [hm]; exact q2
      have R1 := Lib.hid (show RB wr (some ⟨b1, 0, none⟩) 64 x.b by rw [hm]; exact p3.drewN _)
      have R2 := Lib.hid (show RB wr (some ⟨b2, 0, none⟩) 64 x.b by rw [hm]; exact q3.drewN _)
      have hki : (k : Int) < (l.length : Int) := by omega
      have HM := Lib.hid hm
      clear p1 p2 p3 q1 q2 q3 hm hx hrow
      go_wp2
      go_quiet ((go_at_call 61; exact Calls.quiet_of_same (lalike_same 64 cb (R1.out.drewN _) (R2.out.drewN _))))
      go_wp2
      go_roundw
      case rel => exact ⟨k + 1, _, by go_num, hlt, by rw [HM.out, World.drewN_drewN]⟩
      case measure => simp [intOf]; omega
    · obtain rfl : k = l.length := by omega
      go_wp2
      go_ret
      exact ⟨rfl, m, rfl⟩
end Go.Proofs.Ytapjgancaldgaaa
