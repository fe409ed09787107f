/- wire.Frames: the function value that it makes, and what that value promises. -/
import Derived.RangeFuncNested
import Derived.RangeFuncBound
import Derived.RangeFuncCalls
import Derived.RangeFuncLeaves
import Derived.Shelf.Abstract
import Derived.WalkKit
import Derived.OwnWalkIn
import Derived.TacticsInMore
import Derived.LoopNIn
import Derived.LoopIn
import Derived.Test.YthodmnekljbljaaOver
import Derived.Test.YthodmnekljbljaaTakeFrame
namespace Go.Proofs.Ythodmnekljbljaa
open Go.RowKit Go.Shelf

attribute [local go_sem] Oper.semAt_some

/-- A frame that was gone through: its place, its content, the value that holds the content. -/
abbrev Fr := Nat × List Int × Value
/-- The place behind the frames that were gone through. -/
def placeF (xs : List Fr) : Nat := (xs.map fun x => x.2.1.length + 8).sum
theorem placeF_nil : placeF [] = 0 := rfl
theorem placeF_snoc (xs : List Fr) (x : Fr) : placeF (xs ++ [x]) = placeF xs + (x.2.1.length + 8) := by simp [placeF]
theorem placeF_len (xs : List Fr) : xs.length ≤ placeF xs := by
  induction xs with
  | nil => simp [placeF]
  | cons x xs ih => simp only [placeF, List.map_cons, List.sum_cons, List.length_cons] at *; omega

theorem takeFrame_fits {zs ct : List Int} {p s : Nat} (h : takeFrame zs (p : Int) = (ct, s, 0)) : s = ct.length + 8 ∧ p + s ≤ zs.length := by
  unfold takeFrame at h
  simp only [Int.toNat_natCast] at h
  split at h
  · simp at h
  · split at h
    · simp at h
    · split at h
      · simp at h
      · split at h
        · simp at h
        · rename_i h1 h2 h3 h4
          simp only [Prod.mk.injEq, and_true] at h
          obtain ⟨rfl, rfl⟩ := h
          simp only [List.length_take, List.length_drop]
          omega

/-- The next frame, in memory of its own from block b on. -/
def okF (zs : List Int) (b : Nat) (pre : List Fr) (x : Fr) (W : World) : Prop :=
  x.1 = placeF pre ∧ takeFrame zs (placeF pre : Nat) = (x.2.1, x.2.1.length + 8, 0) ∧ OB b W x.2.2 x.2.1
def allF (zs : List Int) (xs : List Fr) : Prop := placeF xs ≤ zs.length ∧ (takeFrame zs (placeF xs : Nat)).2.2 ≠ 0
/-- The blocks from i on below j lie as they lay. -/
def KeepF (i j : Nat) (A B : World) : Prop := A.heap.size ≤ B.heap.size ∧ ∀ k, i ≤ k → k < j → B.heap[k]? = A.heap[k]?
theorem KeepF.trans {i j : Nat} {A B C : World} (h : KeepF i j A B) (k : KeepF i j B C) : KeepF i j A C := ⟨Nat.le_trans h.1 k.1, fun m h1 h2 => (k.2 m h1 h2).trans (h.2 m h1 h2)⟩
theorem KeepF.turn {i j : Nat} (A : World) (l : Nat) (o o' : Obj) (hj : j ≤ l) (_ : A.heap[l]? = some o) (_ : o.isCells = false) : KeepF i j A (A.putObj l o') :=
  ⟨(grownBy_putObj' A l o').size, fun k _ h2 => World.putObj_heap_other (by omega)⟩
theorem KeepF.cell {i j : Nat} {A B : World} (h : KeepF i j A B) {p : Addr} (h1 : i ≤ p.block) (h2 : p.block < j) : B.cell? p = A.cell? p := World.cell?_of_block (w := A) (h.2 _ h1 h2)
theorem KeepF.rb {i j g n : Nat} {A B : World} {zs : List Int} (h : KeepF i j A B) (h1 : i ≤ g) (h2 : g < j) (hr : RB A (some ⟨g, 0, none⟩) n zs) : RB B (some ⟨g, 0, none⟩) n zs :=
  ⟨hr.len, hr.byte, fun hn => by
    obtain ⟨ad, e, hc⟩ := hr.cell hn
    cases e
    refine ⟨_, rfl, fun q hq => ?_⟩
    have hadd : (⟨g, 0, none⟩ : Addr).add q = ⟨g, q, none⟩ := by unfold Addr.add; split <;> simp_all
    have := hc q hq
    rw [hadd] at this ⊢
    exact (h.cell (p := ⟨g, q, none⟩) h1 h2).trans this⟩

theorem frames_wrap {p q m : Nat} (hm : m ≤ 140737488355328) (h : p + (q + 8) ≤ m) : wrap64 ((p : Int) + ((q : Int) + 8)) = ((p + (q + 8) : Nat) : Int) := by unfold wrap64; omega
theorem frames_less {p q m : Nat} (h : p + (q + 8) ≤ m) : m - (intOf (.int .i64 ((p + (q + 8) : Nat) : Int))).toNat < m - (intOf (.int .i64 ((p : Nat) : Int))).toNat := by
  simp only [intOf, Int.toNat_natCast]; omega

set_option maxRecDepth 100000 in
set_option maxHeartbeats 2000000 in
theorem frames1 (n l B g i j m c b : Nat) (zs : List Int) (hm : m ≤ 140737488355328) (hmc : m ≤ c) (hB : i ≤ B ∧ B < j) (hg : i ≤ g ∧ g < j) (J Jx : List Fr → World → Prop) (hJ : ∀ s, Stays (J s))
    (hY : ∀ pre x A, J pre A → okF zs b pre x A → YieldAt Fence.wide (n - 1) Try.prog l #[.int .i64 (x.1 : Nat), x.2.2] A fun e C =>
      (e = .returned (.bool true) ∧ J (pre ++ [x]) C ∧ KeepF i j A C) ∨ (e = .returned (.bool false) ∧ Jx (pre ++ [x]) C))
    (W : World) (hb : b ≤ W.heap.size) (hsz : ∀ s A, J s A → b ≤ A.heap.size) (hc : W.cell? ⟨B, 0, none⟩ = some (.slice (some ⟨g, 0, none⟩) m c)) (hr : RB W (some ⟨g, 0, none⟩) m zs) (h0 : J [] W) :
    CallsIn Fence.wide n Try.prog 42 #[.func (.yield l) #[] #[], .pointer (some ⟨B, 0, none⟩)] W fun e C => (∃ v, e = .returned v) ∧
      ((∃ xs, allF zs xs ∧ J xs C) ∨ (∃ pre, True ∧ Jx pre C)) := by
  refine callsIn_of_wp Try.func42 rfl trivial ?_ rfl
  simp only [Try.ntmps42, List.size_toArray, List.length_cons, List.length_nil, Nat.reduceAdd, Nat.reduceSub, Array.replicate_succ, Array.replicate_zero, List.push_toArray, List.append_toArray, List.nil_append, List.cons_append]
  have hl := hr.len
  gi_wp2
  gi_loopw [3] (fun p wr => ∃ pre : List Fr, p = .int .i64 (placeF pre : Nat) ∧ placeF pre ≤ m ∧ J pre wr ∧ wr.cell? ⟨B, 0, none⟩ = some (.slice (some ⟨g, 0, none⟩) m c) ∧ RB wr (some ⟨g, 0, none⟩) m zs) (fun p _ => m - (intOf p).toNat)
  case atStart => exact ⟨[], rfl, Nat.zero_le _, h0, hc, hr⟩
  case round =>
    obtain ⟨pre, rfl, hp, hj, hcr, hrr⟩ := hrel
    obtain ⟨p, hpp⟩ : ∃ p, Hid (p = placeF pre) := ⟨_, rfl⟩
    obtain ⟨ct, s, y, ht⟩ : ∃ ct s y, Hid (takeFrame zs (p : Nat) = (ct, s, y)) := ⟨_, _, _, rfl⟩
    rw [← hpp.out] at hp ⊢
    have T := wtakeFrame (some ⟨g, 0, none⟩) m c zs (p : Nat) wr hrr hm hmc
    rw [ht.out] at T
    have hbr := hsz _ _ hj
    by_cases hy : y = 0
    · subst hy
      obtain ⟨hs, hps⟩ := takeFrame_fits ht.out
      subst hs
      gi_wp2_with (refine ⟨trivial, fun h => (by cases h), ?_⟩; gi_at_call 32; refine (callsIn_wide.2 T).mono ?_; rintro e w1 ⟨v, rfl, ho, hb1⟩; clear T; obtain ⟨fn, tmps, assign, body, hyy, hR⟩ := hY pre (p, ct, v) w1 (hJ _ _ _ hj hb1) ⟨hpp.out, by rw [← hpp.out]; exact ht.out, ho.mono hbr⟩; dsimp only at hyy)
      have hrw := hrr.below' hb1
      have hcw := keep_below hcr hb1
      refine ⟨fun h => (by cases h), hR.mono ?_⟩
      rintro e C (⟨rfl, hJ3, hk3⟩ | ⟨rfl, hJx3⟩)
      · have hc3 := (hk3.cell (p := ⟨B, 0, none⟩) hB.1 hB.2).trans hcw
        have hr3 := hk3.rb hg.1 hg.2 hrw
        have hlt : p + (ct.length + 8) ≤ m := hl ▸ hps
        have hw : wrap64 ((p : Int) + ((ct.length : Int) + 8)) = ((p + (ct.length + 8) : Nat) : Int) := frames_wrap hm hlt
        have hq : placeF (pre ++ [(p, ct, v)]) = p + (ct.length + 8) := by rw [placeF_snoc, ← hpp.out]
        clear hm
        gi_wp2
        go_roundw
        case rel => exact ⟨pre ++ [(p, ct, v)], by rw [hw, hq], by rw [hq]; exact hlt, hJ3, hc3, hr3⟩
        case measure =>
          rw [hw]
          exact frames_less hlt
      · gi_wp2
        refine bodyPost_ret (results_none rfl _ _ _) rfl ?_
        exact ⟨⟨_, rfl⟩, .inr ⟨pre ++ [(p, ct, v)], trivial, hJx3⟩⟩
    · have hy2 : ((y : Int) != 0) = true := by simp; omega
      gi_wp2_with (refine ⟨trivial, fun h => (by cases h), ?_⟩; gi_at_call 32; refine (callsIn_wide.2 T).mono ?_; rintro e w1 ⟨v, rfl, ho, hb1⟩; clear T)
      refine ⟨fun _ h => (by cases h), ?_⟩
      gi_wp2
      refine bodyPost_ret (results_none rfl _ _ _) rfl ?_
      exact ⟨⟨_, rfl⟩, .inl ⟨pre, ⟨by rw [← hpp.out, hl]; exact hp, by rw [← hpp.out, ht.out]; exact hy⟩, hJ _ _ _ hj hb1⟩⟩

/-- The function value that Frames hands back, where its two blocks lie among those from i on below j. -/
theorem hands_frames (n B g i j m c : Nat) (zs : List Int) (V : World) (hm : m ≤ 140737488355328) (hmc : m ≤ c) (hB : i ≤ B ∧ B < j) (hg : i ≤ g ∧ g < j)
    (hc : V.cell? ⟨B, 0, none⟩ = some (.slice (some ⟨g, 0, none⟩) m c)) (hr : RB V (some ⟨g, 0, none⟩) m zs) :
    Hands Fence.wide n Try.prog 42 #[.pointer (some ⟨B, 0, none⟩)] (fun x : Fr => #[.int .i64 (x.1 : Nat), x.2.2]) (okF zs V.heap.size) (KeepF i j) (allF zs) (fun _ => True) V := by
  intro l J Jx W hW hJ _ hY h0
  refine (frames1 n l B g i j m c V.heap.size zs hm hmc hB hg (fun s A => J s A ∧ V.heap.size ≤ A.heap.size) Jx (fun s A C h hb => ⟨hJ s A C h.1 hb, Nat.le_trans h.2 hb.size⟩)
    (fun pre x A hj ho => ?_) W hW.size (fun s A h => h.2) (keep_below hc hW) (hr.below' hW) ⟨h0, hW.size⟩).mono ?_
  · obtain ⟨fn, tmps, assign, body, hy, hR⟩ := hY pre x A hj.1 ho
    refine ⟨fn, tmps, assign, body, hy, hR.mono ?_⟩
    rintro e C (⟨he, h1, h2⟩ | h)
    · exact .inl ⟨he, ⟨h1, Nat.le_trans hj.2 h2.1⟩, h2⟩
    · exact .inr h
  · rintro e C ⟨hv, ⟨xs, ha, hj⟩ | h⟩
    · exact ⟨hv, .inl ⟨xs, ha, hj.1⟩⟩
    · exact ⟨hv, .inr h⟩

/-- The marks of loops that are over lead to no call. -/
def markF (D : Nat) : Deferred := { target := .collected D, args := #[] }
theorem leaves_marks {F : Fence} {n : Nat} {P : Program} {fn : Func} {tmps : Array Value} {R : Ending → World → Prop} (T : World → Prop) (s : Nat)
    (hT : ∀ W D, T W → s ≤ D → W.heap[D]? = some (.deferred (some [])) → T (W.putObj D (.deferred none))) (hR : ∀ W, T W → LeavesInM F n P fn tmps R [] .returning W) :
    ∀ (Ds : List Nat) (W : World), Ds.Nodup → (∀ D, D ∈ Ds → s ≤ D ∧ W.heap[D]? = some (.deferred (some []))) → T W → LeavesInM F n P fn tmps R (Ds.map markF) .returning W := by
  intro Ds
  induction Ds with
  | nil => exact fun W _ _ h => hR W h
  | cons D Ds ih =>
    intro W hn hd ht
    obtain ⟨h1, h2⟩ := List.nodup_cons.1 hn
    obtain ⟨hs, hD⟩ := hd D (List.mem_cons_self ..)
    refine ⟨by simp, .inl ⟨D, _, rfl, run_takeDeferred hD, ih _ h2 (fun E hE => ⟨(hd E (List.mem_cons_of_mem _ hE)).1, ?_⟩) (hT _ _ ht hs hD)⟩⟩
    rw [World.putObj_heap_other (fun e => h1 (by rw [← e]; exact hE))]
    exact (hd E (List.mem_cons_of_mem _ hE)).2

end Go.Proofs.Ythodmnekljbljaa
