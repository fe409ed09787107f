/- The laws' own helpers: has, alikePending of two rows that hold the same. -/
import Derived.Test.YtfeoihnjfngmpaaDWrites
import Derived.BigQuiet
import Derived.Deep.QuietTactic
namespace Go.Proofs.Ytfeoihnjfngmpaa
open Go.RowKit

set_option maxHeartbeats 1000000 in
theorem lhas {A : Option Addr} {n : Nat} {zs : List Int} {w : World} (h : RI w A n zs) (c : Nat) (hn : n ≤ 140737488355328) (x : Int) :
    Calls Try.prog 30 #[.slice A n c, .int .i64 x] w fun e w' => e = .returned (.bool (decide (x ∈ zs))) ∧ w = w' := by
  have HL := Lib.hid h.len
  go_enter Try.func30, Try.ntmps30
  go_wp2
  go_loopw [6, 9] (fun _ i wr => ∃ k : Nat, i = .int .i64 (k : Nat) ∧ k ≤ n ∧ w = wr ∧ ∀ j, j < k → zs.getD j 0 ≠ x) (fun _ i _ => n - (intOf i).toNat)
  case atStart => exact ⟨0, rfl, Nat.zero_le _, rfl, fun j hj => by omega⟩
  case round =>
    obtain ⟨k, rfl, hk, rfl, hno⟩ := hrel
    by_cases hlt : k < n
    · obtain ⟨b, o, rfl, hcell⟩ := h.cell (by omega)
      have ck := hcell k hlt
      have hki : (k : Int) < (n : Int) := by omega
      obtain ⟨z, hz⟩ : ∃ z, zs.getD k 0 = z := ⟨_, rfl⟩
      rw [hz] at ck
      have hkl : k < zs.length := by rw [HL.out]; exact hlt
      have hm : z ∈ zs := by rw [← hz, List.getD_eq_getElem?_getD, List.getElem?_eq_getElem hkl]; exact List.getElem_mem hkl
      have HN := Lib.hid hno
      have HZ := Lib.hid hz
      clear hno hz hcell hkl
      by_cases he : z = x
      · subst he
        have HE := Lib.hid (show decide (z ∈ zs) = true by simpa using hm)
        clear hm h
        go_wp2
        go_ret
        exact ⟨congrArg (fun b => Ending.returned (Value.bool b)) HE.out.symm, rfl⟩
      · have he2 : (z == x) = false := by simpa using he
        have HE := Lib.hid he
        clear hm he
        go_wp2
        go_roundw
        case rel => exact ⟨k + 1, by go_num, hlt, by first | rfl | trivial, fun j hj => by
          rcases Nat.lt_or_ge j k with h1 | h1
          · exact HN.out j h1
          · rw [show j = k by omega, HZ.out]; exact HE.out⟩
        case measure => simp [intOf]; omega
    · obtain rfl : k = n := by omega
      have hd : decide (x ∈ zs) = false := by
        refine decide_eq_false fun hm => ?_
        obtain ⟨j, hj⟩ := List.getElem?_of_mem hm
        have hjl : j < zs.length := (List.getElem?_eq_some_iff.1 hj).1
        exact hno j (by rw [HL.out] at hjl; exact hjl) (by rw [List.getD_eq_getElem?_getD, hj]; rfl)
      have HD := Lib.hid hd
      clear hno hd
      go_wp2
      go_ret
      exact ⟨congrArg (fun b => Ending.returned (Value.bool b)) HD.out.symm, rfl⟩

theorem lalike_same {A B : Option Addr} {n m : Nat} (c d : Nat) {zs : List Int} {w : World} (h1 : RB w A n zs) (h2 : RB w B m zs) :
    Calls Try.prog 26 #[.slice A n c, .slice B m d] w fun e w' => e = .returned (.bool true) ∧ w' = w := (lalike c d h1 h2).mono (by
  rintro e w' ⟨rfl, rfl⟩
  exact ⟨by simp, rfl⟩)
theorem lalike_not {A B : Option Addr} {n m : Nat} (c d : Nat) {zs ys : List Int} {w : World} (h1 : RB w A n zs) (h2 : RB w B m ys) (hne : zs ≠ ys) :
    Calls Try.prog 26 #[.slice A n c, .slice B m d] w fun e w' => e = .returned (.bool false) ∧ w' = w := (lalike c d h1 h2).mono (by
  rintro e w' ⟨rfl, rfl⟩
  exact ⟨by simp [hne], rfl⟩)

theorem PRow.cells_ {w : World} {g n : Nat} {l : List Wr} {k : Nat} {L : List (Value × Value)} {G : List Nat} (h : PRow w g n l k L G) {i : Nat} (hi : i < k) (x : Wr) (hx : l[i]? = some x) (hb : B64 x.b) :
    ∃ b, w.cell? ⟨g, i * 2, none⟩ = some (.int .i64 (x.p : Int)) ∧ w.cell? ⟨g, i * 2 + 1, none⟩ = some (.slice (some ⟨b, 0, none⟩) 64 64) ∧ RB w (some ⟨b, 0, none⟩) 64 x.b ∧ g < b ∧ b < w.heap.size := by
  obtain ⟨b, e1, e2, e3⟩ := h.at_ i x hi hx
  have hs : ∀ y ∈ L, (pc y).length = 2 := fun y _ => rfl
  have hgt := h.gt b (List.mem_of_getElem? e1)
  have hil : i < L.length := (List.getElem?_eq_some_iff.1 e2).1
  have hn : i * 2 + 1 < n * 2 := by have := h.llen; omega
  refine ⟨b, ?_, ?_, ?_, hgt⟩
  · rw [h.own.cellAt (i * 2) (by omega)]
    have := flat_get L hs i 0 (by omega)
    rw [Nat.add_zero] at this
    rw [this, e2]; rfl
  · rw [h.own.cellAt (i * 2 + 1) (by omega), flat_get L hs i 1 (by omega), e2]; rfl
  · have := RB.block (w := w) (g := b) hb.byte e3
    rwa [hb.len] at this
theorem PRow.stays {w w' : World} {g n : Nat} {l : List Wr} {k : Nat} {L : List (Value × Value)} {G : List Nat} (h : PRow w g n l k L G) (hk : ∀ j, g ≤ j → j < w.heap.size → w'.heap[j]? = w.heap[j]?) (hs : w.heap.size ≤ w'.heap.size) : PRow w' g n l k L G :=
  ⟨own_stays h.own fun j e => by have : g = j := by simpa [Value.ownBlock] using e
                                 subst this; exact hk g (Nat.le_refl _) (h.own.lt g e).2, h.llen, h.glen, h.nodup, fun b hb => ⟨(h.gt b hb).1, Nat.lt_of_lt_of_le (h.gt b hb).2 hs⟩,
    fun i x hi hx => by
      obtain ⟨b, e1, e2, e3⟩ := h.at_ i x hi hx
      have hg := h.gt b (List.mem_of_getElem? e1)
      exact ⟨b, e1, e2, (hk b (Nat.le_of_lt hg.1) hg.2).trans e3⟩⟩

set_option maxRecDepth 10000 in
set_option maxHeartbeats 2000000 in
theorem lpend {w : World} {g g' n : Nat} {l : List Wr} {L L' : List (Value × Value)} {G G' : List Nat} (h : PRow w g n l n L G) (h' : PRow w g' n l n L' G') (hb : ∀ x ∈ l, B64 x.b) (hl : l.length = n) (hn : n ≤ 4398046511104) :
    Calls Try.prog 29 #[.slice (some ⟨g, 0, none⟩) n n, .slice (some ⟨g', 0, none⟩) n n] w fun e w' => e = .returned (.bool true) ∧ ∃ m, w' = w.drewN m := by
  have hr := Lib.hid h
  have hr' := Lib.hid h'
  clear h h'
  go_enter Try.func29, Try.ntmps29
  go_wp2
  go_loopw [5, 13] (fun _ i wr => ∃ k m : Nat, i = .int .i64 (k : Nat) ∧ k ≤ n ∧ wr = w.drewN m) (fun _ i _ => n - (intOf i).toNat)
  case atStart => exact ⟨0, 0, rfl, Nat.zero_le _, rfl⟩
  case round =>
    obtain ⟨k, m, rfl, hk, hm⟩ := hrel
    by_cases hlt : k < n
    · obtain ⟨x, hx⟩ : ∃ x, l[k]? = some x := ⟨_, List.getElem?_eq_getElem (by omega)⟩
      have hxb := hb x (List.mem_of_getElem? hx)
      obtain ⟨b1, p1, p2, p3, -, -⟩ := hr.out.cells_ hlt x hx hxb
      obtain ⟨b2, q1, q2, q3, -, -⟩ := hr'.out.cells_ hlt x hx hxb
      have c1 : wr.cell? ⟨g, k * 2, none⟩ = some (.int .i64 (x.p : Int)) := by rw [hm]; exact p1
      have c2 : wr.cell? ⟨g, k * 2 + 1, none⟩ = some (.slice (some ⟨b1, 0, none⟩) 64 64) := by rw [hm]; exact p2
      have c3 : wr.cell? ⟨g', k * 2, none⟩ = some (.int .i64 (x.p : Int)) := by rw [hm]; exact q1
      have c4 : wr.cell? ⟨g', k * 2 + 1, none⟩ = some (.slice (some ⟨b2, 0, none⟩) 64 64) := by rw [hm]; exact q2
      have R1 := Lib.hid (show RB wr (some ⟨b1, 0, none⟩) 64 x.b by rw [hm]; exact p3.drewN _)
      have R2 := Lib.hid (show RB wr (some ⟨b2, 0, none⟩) 64 x.b by rw [hm]; exact q3.drewN _)
      have hki : (k : Int) < (n : Int) := by omega
      have HM := Lib.hid hm
      clear p1 p2 p3 q1 q2 q3 hm hx
      go_wp2
      go_quiet ((go_at_call 26; exact Calls.quiet_of_same (lalike_same 64 64 (R1.out.drewN _) (R2.out.drewN _))))
      go_wp2
      go_roundw
      case rel => exact ⟨k + 1, _, by go_num, hlt, by rw [HM.out, World.drewN_drewN]⟩
      case measure => simp [intOf]; omega
    · obtain rfl : k = n := by omega
      go_wp2
      go_ret
      exact ⟨rfl, m, rfl⟩
end Go.Proofs.Ytfeoihnjfngmpaa
