/- Layer 11: slices.Values and what its function value promises. -/
import Derived.Test.YtbmgeobmmpaghaaGreatDoorSeSo
import Derived.Test.YtbmgeobmmpaghaaGreatDoorCel
import Derived.RangeFuncNested
import Derived.RangeFuncBound
import Derived.RangeFuncCalls
import Derived.RangeFuncLeaves
import Derived.Shelf.Abstract
import Derived.OwnWalkIn
import Derived.TacticsInMore
import Derived.LoopNIn
import Derived.LoopIn
import Derived.WalkKit
import Derived.Stop.RegionWithIn
import Derived.WalkLawsBesides
set_option linter.unusedVariables false
namespace Go.Proofs.YtbmgeobmmpaghaaGreatDoor
set_option maxRecDepth 100000
open Go.RowKit Go.Shelf

attribute [local go_sem] Oper.semAt_some

/-- What lies below a block stays. -/
def KB (N0 : Nat) (A B : World) : Prop := ∀ k, k < N0 → B.heap[k]? = A.heap[k]?
theorem KB.refl (N0 : Nat) (A : World) : KB N0 A A := fun _ _ => rfl
theorem KB.trans {N0 : Nat} {A B C : World} (h : KB N0 A B) (k : KB N0 B C) : KB N0 A C := fun i hi => (k i hi).trans (h i hi)
theorem KB.cell {N0 : Nat} {A B : World} (h : KB N0 A B) {p : Addr} {v : Value} (hc : A.cell? p = some v) (hp : p.block < N0) : B.cell? p = some v :=
  (World.cell?_of_block (w := A) (h _ hp)).trans hc
theorem KB.of_below {N0 : Nat} {A B : World} (h : Below A.heap.size A B) (hN : N0 ≤ A.heap.size) : KB N0 A B := fun k hk => h.block k (by omega)
def encI11 (x : Int) : Array Value := #[.int .i64 x]
theorem wsValues (A : Option Addr) (n c : Nat) (W : World) : Calls Tryz.prog 65 #[.slice A n c] W fun e w' => e = .returned (.func (.func 82) #[] #[.pointer (some ⟨W.heap.size, 0, none⟩)]) ∧ w' = W.alloc (.cells #[.slice A n c] 22) := by
  go_enter Tryz.func65, Tryz.ntmps65
  go_wp2
  go_ret
  exact ⟨rfl, rfl⟩
theorem YieldAt.anyDepthI {m : Nat} (m' : Nat) {P : Program} {l : Nat} {args : Array Value} {W : World} {R : Ending → World → Prop} (h : YieldAt Fence.wide m P l args W R) : YieldAt Fence.wide m' P l args W R := by
  obtain ⟨fn, tmps, assign, body, hy, hR⟩ := h
  exact ⟨fn, tmps, assign, body, hy, ⟨hR.1, fun c cs _ => hR.2 c cs (room_wide _)⟩⟩
set_option maxHeartbeats 8000000 in
theorem hands_values (m N0 bv : Nat) (A : Option Addr) (n c : Nat) (cs : List Int) (V : World) (hc : V.cell? ⟨bv, 0, none⟩ = some (.slice A n c)) (hs : SB V A n (numC cs)) (hl : cs.length = n) (hn : n ≤ 4096) (hb : bv < N0) (hA : ∀ ad, A = some ad → 0 < n → ad.block < N0) (hN : N0 ≤ V.heap.size) :
    Hands Fence.wide m Tryz.prog 82 #[.pointer (some ⟨bv, 0, none⟩)] encI11 (fun pre _ _ => pre.length < n) (KB N0) (fun xs => xs = cs) (fun _ => True) V := by
  intro l J Jx W hW hJ hJx hY h0
  have YY := Lib.hid (fun pre x X (hX : J pre X) (hp : pre.length < n) => YieldAt.anyDepthI 8 (hY pre x X hX hp))
  have HS := Lib.hid (hs.gw hW)
  have c0 := keep_below hc hW
  have HL := Lib.hid hl
  have HN := Lib.hid hn
  have HB := Lib.hid hb
  have HA := Lib.hid hA
  have H0 := Lib.hid h0
  clear hY hJ hJx h0 hc hs hl hn hb hA hN hW
  refine callsIn_wide.2 ?_
  simp only [List.append_toArray, List.cons_append, List.nil_append]
  go_enter Tryz.func82, Tryz.ntmps82
  go_upto_region 1 with fail
  clear c0
  go_loopw [7] (fun i wr => ∃ j : Nat, i = .int .i64 (j : Nat) ∧ j ≤ n ∧ J (cs.take j) wr ∧ KB N0 W wr) (fun i _ => n - (intOf i).toNat)
  case atStart => exact ⟨0, rfl, Nat.zero_le _, by rw [List.take_zero]; exact H0.out, KB.refl _ _⟩
  case round =>
    rename World => wr
    obtain ⟨j, rfl, hj, hJj, hK⟩ := hrel
    by_cases hlt : j < n
    · obtain ⟨x, hx⟩ : ∃ x, cs[j]? = some x := ⟨_, List.getElem?_eq_getElem (by rw [HL.out]; exact hlt)⟩
      obtain ⟨g, o, rfl, q0⟩ := HS.out.num hx
      have c0 := hK.cell q0 (HA.out ⟨g, o, none⟩ rfl (by omega))
      have HT := Lib.hid (show cs.take (j + 1) = cs.take j ++ [x] by rw [List.take_add_one, hx]; rfl)
      have i1 : (j : Int) < (n : Int) := by omega
      have l1 : (j : Int) ≤ 4096 := by have := HN.out; omega
      have HLT := Lib.hid hlt
      have HK := Lib.hid hK
      have HJ := Lib.hid hJj
      clear hx q0 hj hlt hJj hK
      go_upto_region 3 with fail
      obtain ⟨fn, tmps, assign, body, hy, hR⟩ := YY.out (cs.take j) x wr HJ.out (by rw [List.length_take, HL.out]; have := HLT.out; omega)
      have HRR := Lib.hid hR
      unfold encI11 at hy
      clear hR
      refine (wpIn_wide (n := 9)).1 ?_
      gi_wp2
      refine HRR.out.mono ?_
      rintro e W2 hb
      have HB2 := Lib.hid hb
      clear hb HRR
      · obtain ⟨rfl, hj, hk⟩ | ⟨rfl, hx⟩ := HB2.out
        · have GJ := Lib.hid (show J (cs.take (j + 1)) W2 by rw [HT.out]; exact hj)
          have GK := Lib.hid (HK.out.trans hk)
          clear hj hk HB2 hy
          gi_wp2
          go_wp2
          go_roundw
          case rel => exact ⟨j + 1, by go_num, HLT.out, GJ.out, GK.out⟩
          case measure => have := HLT.out; simp [intOf]; omega
        · have GX := Lib.hid hx
          clear hx HB2 hy
          gi_wp2
          go_wp2
          refine bodyPost_ret (results_none rfl _ _ _) rfl ?_
          first | exact ⟨⟨_, rfl⟩, .inr ⟨_, trivial, GX.out⟩⟩ | exact .inr ⟨_, GX.out⟩ | exact ⟨⟨_, rfl⟩, .inr ⟨_, GX.out⟩⟩
    · obtain rfl : j = n := by omega
      have i1 : ¬ (j : Int) < (j : Int) := by omega
      have HJ := Lib.hid (show J cs wr by rw [← HL.out, List.take_length] at hJj; exact hJj)
      clear hj hlt hJj hK
      go_wp2
      go_end0
      first | exact ⟨⟨_, rfl⟩, .inl HJ.out⟩ | exact ⟨⟨_, rfl⟩, .inl ⟨_, rfl, HJ.out⟩⟩ | exact .inl HJ.out
end Go.Proofs.YtbmgeobmmpaghaaGreatDoor
