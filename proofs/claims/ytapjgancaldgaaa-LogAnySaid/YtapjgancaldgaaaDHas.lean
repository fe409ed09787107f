/- The laws' own helpers: has, alikePending of two rows that hold the same. -/
import Derived.Test.YtapjgancaldgaaaDWrites
import Derived.BigQuiet
import Derived.Deep.QuietTactic
namespace Go.Proofs.Ytapjgancaldgaaa
set_option maxRecDepth 100000
open Go.RowKit

theorem lalike_same {A B : Option Addr} {n m : Nat} (c d : Nat) {zs : List Int} {w : World} (h1 : RB w A n zs) (h2 : RB w B m zs) :
    Calls Try.prog 61 #[.slice A n c, .slice B m d] w fun e w' => e = .returned (.bool true) ∧ w' = w := (lalike c d h1 h2).mono (by
  rintro e w' ⟨rfl, rfl⟩
  exact ⟨by simp, rfl⟩)
theorem lalike_not {A B : Option Addr} {n m : Nat} (c d : Nat) {zs ys : List Int} {w : World} (h1 : RB w A n zs) (h2 : RB w B m ys) (hne : zs ≠ ys) :
    Calls Try.prog 61 #[.slice A n c, .slice B m d] w fun e w' => e = .returned (.bool false) ∧ w' = w := (lalike c d h1 h2).mono (by
  rintro e w' ⟨rfl, rfl⟩
  exact ⟨by simp [hne], rfl⟩)

theorem PRow.cells_ {w : World} {g n : Nat} {l : List Wr} {k : Nat} {L : List (Value × Value)} {G : List Nat} (h : PRow w g n l k L G) {i : Nat} (hi : i < k) (x : Wr) (hx : l[i]? = some x) (hb : B64 x.b) :
    ∃ b, w.cell? ⟨g, i * 2, none⟩ = some (.int .i64 (x.p : Int)) ∧ w.cell? ⟨g, i * 2 + 1, none⟩ = some (.slice (some ⟨b, 0, none⟩) 64 64) ∧ RB w (some ⟨b, 0, none⟩) 64 x.b ∧ g < b ∧ b < w.heap.size := by
  obtain ⟨b, e1, e2, e3⟩ := h.at_ i x hi hx
  have hs : ∀ y ∈ L, (pc y).length = 2 := fun y _ => rfl
  have hgt := h.gt b (List.mem_of_getElem? e1)
  have hil : i < L.length := (List.getElem?_eq_some_iff.1 e2).1
  have hn : i * 2 + 1 < n * 2 := by have := h.llen; omega
  refine ⟨b, ?_, ?_, ?_, hgt⟩
  · rw [h.own.cellAt (i * 2) (by omega)]
    have := flat_get L hs i 0 (by omega)
    rw [Nat.add_zero] at this
    rw [this, e2]; rfl
  · rw [h.own.cellAt (i * 2 + 1) (by omega), flat_get L hs i 1 (by omega), e2]; rfl
  · have := RB.block (w := w) (g := b) hb.byte e3
    rwa [hb.len] at this
theorem PRow.stays {w w' : World} {g n : Nat} {l : List Wr} {k : Nat} {L : List (Value × Value)} {G : List Nat} (h : PRow w g n l k L G) (hk : ∀ j, g ≤ j → j < w.heap.size → w'.heap[j]? = w.heap[j]?) (hs : w.heap.size ≤ w'.heap.size) : PRow w' g n l k L G :=
  ⟨own_stays h.own fun j e => by have : g = j := by simpa [Value.ownBlock] using e
                                 subst this; exact hk g (Nat.le_refl _) (h.own.lt g e).2, h.llen, h.glen, h.nodup, fun b hb => ⟨(h.gt b hb).1, Nat.lt_of_lt_of_le (h.gt b hb).2 hs⟩,
    fun i x hi hx => by
      obtain ⟨b, e1, e2, e3⟩ := h.at_ i x hi hx
      have hg := h.gt b (List.mem_of_getElem? e1)
      exact ⟨b, e1, e2, (hk b (Nat.le_of_lt hg.1) hg.2).trans e3⟩⟩

set_option maxHeartbeats 2000000 in
theorem lpend {w : World} {g g' n : Nat} {l : List Wr} {L L' : List (Value × Value)} {G G' : List Nat} (h : PRow w g n l n L G) (h' : PRow w g' n l n L' G') (hb : ∀ x ∈ l, B64 x.b) (hl : l.length = n) (hn : n ≤ 4398046511104) :
    Calls Try.prog 62 #[.slice (some ⟨g, 0, none⟩) n n, .slice (some ⟨g', 0, none⟩) n n] w fun e w' => e = .returned (.bool true) ∧ ∃ m, w' = w.drewN m := by
  have hr := Lib.hid h
  have hr' := Lib.hid h'
  clear h h'
  go_enter Try.func62, Try.ntmps62
  go_wp2
  go_loopw [5, 13] (fun _ i wr => ∃ k m : Nat, i = .int .i64 (k : Nat) ∧ k ≤ n ∧ wr = w.drewN m) (fun _ i _ => n - (intOf i).toNat)
  case atStart => exact ⟨0, 0, rfl, Nat.zero_le _, rfl⟩
  case round =>
    obtain ⟨k, m, rfl, hk, hm⟩ := hrel
    by_cases hlt : k < n
    · obtain ⟨x, hx⟩ : ∃ x, l[k]? = some x := ⟨_, List.getElem?_eq_getElem (by omega)⟩
      have hxb := hb x (List.mem_of_getElem? hx)
      obtain ⟨b1, p1, p2, p3, -, -⟩ := hr.out.cells_ hlt x hx hxb
      obtain ⟨b2, q1, q2, q3, -, -⟩ := hr'.out.cells_ hlt x hx hxb
      have c1 : wr.cell? ⟨g, k * 2, none⟩ = some (.int .i64 (x.p : Int)) := by rw [hm]; exact p1
      have c2 : wr.cell? ⟨g, k * 2 + 1, none⟩ = some (.slice (some ⟨b1, 0, none⟩) 64 64) := by rw [hm]; exact p2
      have c3 : wr.cell? ⟨g', k * 2, none⟩ = some (.int .i64 (x.p : Int)) := by rw [hm]; exact q1
      have c4 : wr.cell? ⟨g', k * 2 + 1, none⟩ = some (.slice (some ⟨b2, 0, none⟩) 64 64) := by rw [hm]; exact q2
      have R1 := Lib.hid (show RB wr (some ⟨b1, 0, none⟩) 64 x.b by rw [hm]; exact p3.drewN _)
      have R2 := Lib.hid (show RB wr (some ⟨b2, 0, none⟩) 64 x.b by rw [hm]; exact q3.drewN _)
      have hki : (k : Int) < (n : Int) := by omega
      have HM := Lib.hid hm
      clear p1 p2 p3 q1 q2 q3 hm hx
      go_wp2
      go_quiet ((go_at_call 61; exact Calls.quiet_of_same (lalike_same 64 64 (R1.out.drewN _) (R2.out.drewN _))))
      go_wp2
      go_roundw
      case rel => exact ⟨k + 1, _, by go_num, hlt, by rw [HM.out, World.drewN_drewN]⟩
      case measure => simp [intOf]; omega
    · obtain rfl : k = n := by omega
      go_wp2
      go_ret
      exact ⟨rfl, m, rfl⟩
end Go.Proofs.Ytapjgancaldgaaa
