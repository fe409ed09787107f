/- Layer 12: Name. -/
import Derived.Test.YtagangneoibbcaaDoorLyWs2
set_option linter.unusedVariables false
namespace Go.Proofs.YtagangneoibbcaaDoor
set_option maxRecDepth 100000
set_option maxRecDepth 100000
open Go.RowKit

/-- A name, words of the language among them. -/
def nameOk (s : ByteArray) : Bool := decide (1 ≤ s.size) && decide (s.size ≤ 32) && lowB (chP (strB s) 0) && (strB s).all innB
def nameB (s : ByteArray) : Bool := nameOk s && !isWordB s
theorem low_gap {c : Int} (h : lowB c = true) : gapB c = false ∧ c ≠ 35 ∧ innB c = true := by
  unfold lowB at h
  have h2 := of_decide_eq_true h
  refine ⟨by unfold gapB; simp; omega, by omega, by unfold innB lowB; simp [h2]⟩
theorem tw_all {p : Int → Bool} : ∀ {l : List Int}, l.all p = true → l.takeWhile p = l
  | [], _ => rfl
  | a :: l, h => by
    rw [List.all_cons, Bool.and_eq_true] at h
    rw [List.takeWhile_cons, if_pos h.1, tw_all h.2]
theorem all_tw (p : Int → Bool) : ∀ (l : List Int), (l.takeWhile p).all p = true
  | [] => rfl
  | a :: l => by
    rw [List.takeWhile_cons]
    split
    · rename_i h; rw [List.all_cons, h, all_tw p l]; rfl
    · rfl
theorem name_yes {s : ByteArray} (h : nameOk s = true) : skipN false (strB s) = 0 ∧ strB s ≠ [] ∧ oneP 0 (strB s) = ⟨⟨1, s, 0, 0, ⟨#[]⟩, 0⟩, (strB s).length, 0⟩ := by
  unfold nameOk at h
  simp only [Bool.and_eq_true, decide_eq_true_eq] at h
  obtain ⟨⟨⟨h1, h2⟩, h3⟩, h4⟩ := h
  have hl := strB_len s
  have hne : strB s ≠ [] := fun e => by rw [e] at hl; simp at hl; omega
  refine ⟨?_, hne, ?_⟩
  · obtain ⟨c, r, hc⟩ := List.exists_cons_of_ne_nil hne
    rw [hc] at h3 ⊢
    rw [chP_0] at h3
    exact skip_tok (low_gap h3).1 (low_gap h3).2.1 r
  · unfold oneP nameP
    rw [if_pos h3, tw_all h4, if_neg (by omega), nums_strB12]
theorem name_no {s : ByteArray} {b : Nat} (h : nameOk s = false) (hb : b + skipN false ((strB s).drop b) ≤ (strB s).length ∨ True) (hne : (strB s).drop b ≠ []) (h0 : (oneP b ((strB s).drop b)).e = 0) : ¬ ((oneP b ((strB s).drop b)).tk.k = 1 ∧ (oneP b ((strB s).drop b)).tk.t = s) := by
  rintro ⟨hk, ht⟩
  obtain ⟨R, hR⟩ : ∃ R, (strB s).drop b = R := ⟨_, rfl⟩
  rw [hR] at hk ht h0 hne
  have hlow : lowB (chP R 0) = true := by
    by_cases hl : lowB (chP R 0) = true
    · exact hl
    · exfalso
      unfold oneP at hk
      rw [if_neg hl] at hk
      split at hk
      · unfold intP at hk; split at hk <;> simp [Tk.zero] at hk
      · split at hk
        · unfold textP at hk; split at hk
          · simp [Tk.zero] at hk
          · split at hk <;> simp [Tk.zero] at hk
        · unfold signP at hk; split at hk <;> simp [Tk.zero] at hk
  unfold oneP nameP at ht h0
  rw [if_pos hlow] at ht h0
  by_cases h32 : 32 < (R.takeWhile innB).length
  · rw [if_pos h32] at h0; simp at h0
  rw [if_neg h32] at ht
  have ht : strOfNums (R.takeWhile innB) = s := ht
  have hs : strB s = R.takeWhile innB := by
    rw [← ht, strB_nums12]
    intro z hz
    have h1 := (List.takeWhile_prefix innB).sublist.mem hz
    rw [← hR] at h1
    exact strB_byte s z (List.mem_of_mem_drop h1)
  have hlen := (List.takeWhile_prefix innB (l := R)).length_le
  rw [← hs] at hlen
  have hRl : R.length = (strB s).length - b := by rw [← hR, List.length_drop]
  have hpos : 0 < R.length := List.length_pos_iff.2 hne
  have hb0 : b = 0 := by omega
  subst hb0
  rw [List.drop_zero] at hR
  subst hR
  have hall : (strB s).all innB = true := by rw [hs]; exact all_tw _ _
  have hl := strB_len s
  unfold nameOk at h
  rw [hlow, hall, decide_eq_true (by omega : 1 ≤ s.size), decide_eq_true (by rw [← hs] at h32; omega : s.size ≤ 32)] at h
  cases h
set_option maxHeartbeats 16000000 in
theorem wName (s : ByteArray) (w : World) (h : WordsAt w) (he : ErrAt w) (hs : s.size ≤ 140737488351232) : Calls Tryd.prog 18 #[.string s] w fun e w' => e = .returned (.bool (nameB s)) ∧ Below w.heap.size w w' := by
  obtain ⟨L, hL⟩ : ∃ L, strB s = L := ⟨_, rfl⟩
  obtain ⟨W0, hW0⟩ : ∃ X, w.alloc (.cells #[.string s, .int .i64 0, .int .i64 0, .string ⟨#[]⟩, .int .i64 0, .int .i64 0, .bool false, .string ⟨#[]⟩, .complex .f64 0 0, .int .i64 0, .int .i64 0, .int .i64 0] 50) = X := ⟨_, rfl⟩
  have HW0 := Lib.hid hW0
  have B0 := Lib.hid (show Below w.heap.size w W0 by rw [← hW0]; exact (Below.refl _ _).alloc (Nat.le_refl _) _)
  have R0 : Rd W0 w.heap.size s 0 Tk.zero 0 0 := by rw [← hW0]; exact heap_alloc_new w _
  have HWD := Lib.hid (h.below B0.out)
  have S0 := Lib.hid (show W0.heap.size = w.heap.size + 1 by rw [← hW0]; simp)
  have HWG := Lib.hid (show 0 < w.heap.size by
    have h0 := h 0 (.string ⟨#[97, 100, 100]⟩) rfl
    exact World.block_lt_of_cell? w _ h0)
  have CN := Lib.hid (wNext R0 (he.below B0.out) he.lt (Nat.zero_le _) hs)
  have CW := Lib.hid fun W (hW : WordsAt W) => wIsWord s W hW
  have WK := Lib.hid (show ∀ X, Out (fun k => k = w.heap.size) W0 X → WordsAt X ∧ Below w.heap.size w X from fun X o => ⟨fun j v hj => o.cell (HWD.out j v hj) (fun e => by have e : 0 = w.heap.size := e; have := HWG.out; omega), B0.out.trans (o.below (B := w.heap.size) (by rw [S0.out]; omega) (fun i hi e => by have e : i = w.heap.size := e; omega))⟩)
  obtain ⟨q, hq⟩ : ∃ q, nameB s = q := ⟨_, rfl⟩
  have HQ := Lib.hid hq
  obtain ⟨g, hg⟩ : ∃ g, w.heap.size = g := ⟨_, rfl⟩
  have HGW := Lib.hid hg
  have hst := run_store_cx Tryd.prog
  rw [hg] at CN WK
  rw [hL] at CN
  have HLS := Lib.hid hL
  rw [hq]
  by_cases hn : nameOk s = true
  · obtain ⟨n1, n2, n3⟩ := name_yes hn
    rw [hL] at n1 n2 n3
    have CN := Lib.hid ((CN.out.mono fun e w' h => h.one_ (by rw [List.drop_zero, n1]; intro e; exact n2 (List.length_eq_zero_iff.1 e.symm))))
    rw [List.drop_zero, Nat.zero_add, n1, List.drop_zero, n3] at CN
    have CN := Lib.hid ((CN.out.mono fun e w' h => h.yes_ rfl))
    have HQ2 := Lib.hid (show q = !isWordB s by rw [← hq]; unfold nameB; rw [hn]; rfl)
    clear hn n1 n2 n3 hW0 R0 h he hs hL hq hg
    obtain ⟨q2, hq2⟩ : ∃ q, isWordB s = q := ⟨_, rfl⟩
    rw [hq2] at CW HQ2
    clear hq2
    go_enter Tryd.func18, Tryd.ntmps18
    go_wp2_with (first
      | (go_at_call 27; go_loud (rw [HW0.out, HGW.out]; refine CN.out.mono ?_; rintro e w1 ⟨rfl, r1, o1⟩; have W1 := Lib.hid (WK.out _ o1); have c2 : w1.cell? ⟨g, 2, none⟩ = some (.int .i64 1) := r1.cell 2; have c3 : w1.cell? ⟨g, 3, none⟩ = some (.string s) := r1.cell 3; clear r1 o1))
      | (go_at_call 32; go_loud (refine (CW.out _ W1.out.1).mono ?_; rintro e w2 ⟨rfl, rfl⟩)))
    go_ret
    exact ⟨ret_bool HQ2.out.symm, HGW.out ▸ W1.out.2⟩
  · have hn : nameOk s = false := by simpa using hn
    have HQ2 := Lib.hid (show false = q by rw [← hq]; unfold nameB; rw [hn]; rfl)
    by_cases hend : 0 + skipN false (L.drop 0) = L.length
    · have CN := Lib.hid (CN.out.mono fun e w' h => h.end_ hend)
      clear hn hend hW0 R0 h he hs hL hq hg
      go_enter Tryd.func18, Tryd.ntmps18
      go_wp2_with (go_at_call 27; go_loud (rw [HW0.out, HGW.out]; refine CN.out.mono ?_; rintro e w1 ⟨o1, rfl, -⟩; have W1 := Lib.hid (WK.out _ o1); clear o1))
      go_ret
      exact ⟨ret_bool HQ2.out, HGW.out ▸ W1.out.2⟩
    · have CN := Lib.hid (CN.out.mono fun e w' h => h.one_ hend)
      obtain ⟨b, hb⟩ : ∃ b, 0 + skipN false (L.drop 0) = b := ⟨_, rfl⟩
      have hbl : b ≤ L.length := by rw [← hb, Nat.zero_add]; have := skipN_le false (L.drop 0); rwa [List.length_drop, Nat.sub_zero] at this
      rw [hb] at CN hend
      by_cases h0 : (oneP b (L.drop b)).e = 0
      · have hno := name_no hn (.inr trivial) (b := b) (by rw [hL]; intro e; have := congrArg List.length e; rw [List.length_drop] at this; simp at this; omega) (by rw [hL]; exact h0)
        rw [hL] at hno
        have CN := Lib.hid (CN.out.mono fun e w' h => h.yes_ h0)
        obtain ⟨o, hoo⟩ : ∃ o, oneP b (L.drop b) = o := ⟨_, rfl⟩
        rw [hoo] at CN hno
        obtain ⟨y, hy⟩ : ∃ y, o.tk = y := ⟨_, rfl⟩
        rw [hy] at CN hno
        obtain ⟨yk, yt, yvk, yvi, yvb, ya⟩ := y
        dsimp only at hno CN
        clear hn hend hW0 R0 h he hs hL hq hg hbl hb h0 hoo hy
        by_cases hk : yk = 1
        · subst hk
          have ht : (yt.toList == s.toList) = false := by simpa using toList_ne (fun e => hno ⟨rfl, e⟩)
          clear hno
          go_enter Tryd.func18, Tryd.ntmps18
          go_wp2_with (go_at_call 27; go_loud (rw [HW0.out, HGW.out]; refine CN.out.mono ?_; rintro e w1 ⟨rfl, r1, o1⟩; have W1 := Lib.hid (WK.out _ o1); have c2 : w1.cell? ⟨g, 2, none⟩ = some (.int .i64 1) := r1.cell 2; have c3 : w1.cell? ⟨g, 3, none⟩ = some (.string yt) := r1.cell 3; clear r1 o1))
          go_ret
          exact ⟨ret_bool HQ2.out, HGW.out ▸ W1.out.2⟩
        · have hk2 : (yk == 1) = false := by simpa using hk
          clear hno
          go_enter Tryd.func18, Tryd.ntmps18
          go_wp2_with (go_at_call 27; go_loud (rw [HW0.out, HGW.out]; refine CN.out.mono ?_; rintro e w1 ⟨rfl, r1, o1⟩; have W1 := Lib.hid (WK.out _ o1); have c2 : w1.cell? ⟨g, 2, none⟩ = some (.int .i64 yk) := r1.cell 2; have c3 : w1.cell? ⟨g, 3, none⟩ = some (.string yt) := r1.cell 3; clear r1 o1))
          go_ret
          exact ⟨ret_bool HQ2.out, HGW.out ▸ W1.out.2⟩
      · have CN := Lib.hid (CN.out.mono fun e w' h => h.no_ h0)
        clear hn hend hW0 R0 h he hs hL hq hg hbl hb h0
        go_enter Tryd.func18, Tryd.ntmps18
        go_wp2_with (go_at_call 27; go_loud (rw [HW0.out, HGW.out]; refine CN.out.mono ?_; rintro e w1 ⟨rfl, -, o1⟩; have W1 := Lib.hid (WK.out _ o1); clear o1))
        go_ret
        exact ⟨ret_bool HQ2.out, HGW.out ▸ W1.out.2⟩
end Go.Proofs.YtagangneoibbcaaDoor
