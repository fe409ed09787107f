/- Layer 12: the ends of whole numbers and of texts. -/
import Derived.Test.YtagangneoibbcaaDoorLxE
set_option linter.unusedVariables false
namespace Go.Proofs.YtagangneoibbcaaDoor
set_option maxRecDepth 100000
set_option maxRecDepth 100000
open Go.RowKit Go.Shelf

/-- strconv.ErrRange is there. -/
def ErrAt (w : World) : Prop := ∃ te pe, w.cell? ⟨3, 0, none⟩ = some (.iface te pe)
theorem ErrAt.lt {w : World} (h : ErrAt w) : 3 < w.heap.size := by
  obtain ⟨te, pe, h⟩ := h
  exact World.block_lt_of_cell? w _ h
theorem ErrAt.below {w w' : World} (h : ErrAt w) (hb : Below w.heap.size w w') : ErrAt w' := by
  obtain ⟨te, pe, h⟩ := h
  exact ⟨te, pe, keep_below h hb⟩
theorem ErrAt.out {w w' : World} {g : Nat} (h : ErrAt w) (o : Out (fun k => k = g) w w') (hg : 3 < g) : ErrAt w' := by
  obtain ⟨te, pe, h⟩ := h
  exact ⟨te, pe, o.cell h (fun e => by have : 3 = g := e; omega)⟩

theorem mem_tw (q : Int → Bool) : ∀ (l : List Int) (z : Int), z ∈ l.takeWhile q → q z = true
  | [], z, h => by simp at h
  | a :: r, z, h => by
    rw [List.takeWhile_cons] at h
    split at h
    · rcases List.mem_cons.1 h with rfl | h
      · assumption
      · exact mem_tw q r z h
    · simp at h
theorem wParse (t : ByteArray) (w : World) (h : ∀ z ∈ strB t, digB z = true) (hne : 0 < t.size) (ht : t.size ≤ 65536) (hn : numP (strB t) < 9223372036854775808) :
    Calls Tryd.prog 63 #[.string t, .int .i64 10, .int .i64 64] w fun e w' => e = .returned (.tuple #[.int .i64 (numP (strB t) : Nat), .nilIface]) ∧ Below w.heap.size w w' := by
  have hp := parse_digits t h hne
  rw [if_pos hn] at hp
  refine (Any.strconv_ParseInt_10_at64_ok Tryd.parseI t (by omega) _ hp w).mono ?_
  rintro e w' ⟨he, hw⟩
  refine ⟨he, ?_⟩
  rcases hw with rfl | ⟨u, rfl⟩
  · exact Below.refl _ _
  · exact Lib.bytesWorld_below _ _ _
theorem wParseNo (t : ByteArray) (w : World) (h : ∀ z ∈ strB t, digB z = true) (hne : 0 < t.size) (ht : t.size ≤ 65536) (hn : ¬ numP (strB t) < 9223372036854775808) (he : ErrAt w) :
    Calls Tryd.prog 63 #[.string t, .int .i64 10, .int .i64 64] w fun e w' => ∃ k N, e = .returned (.tuple #[.int .i64 k, .iface 97 (.pointer (some ⟨N, 0, none⟩))]) ∧ Below w.heap.size w w' := by
  have hp := parse_digits t h hne
  rw [if_neg hn] at hp
  obtain ⟨te, pe, he⟩ := he
  refine (Any.strconv_ParseInt_10_at64_range Tryd.parseI t (by omega) hp (.iface te pe) w he (.inr ⟨te, pe, rfl⟩)).mono ?_
  rintro e w' ⟨N, he, -, -, hb⟩
  exact ⟨_, N, he, hb⟩

section
variable {w : World} {g i : Nat} {s : ByteArray} {x : Tk} {f p : Int}
set_option maxHeartbeats 8000000 in
theorem wEndNumber (h : Rd w g s i x f p) (hE : ErrAt w) (b : Nat) (hb : b < i) (hi : i ≤ s.size) (hs : s.size ≤ 65536) (hn : (((strB s).drop b).takeWhile digB) = ((strB s).drop b).take (i - b)) (h1 : lowB (chP (strB s) i) = false) (h2 : chP (strB s) i ≠ 95) :
    Calls Tryd.prog 47 #[.pointer (some ⟨g, 0, none⟩), .int .i64 (b : Nat)] w (EndIs g s x f p w (intP b ((strB s).drop b)) b b) := by
  have hl : (((strB s).drop b).take (i - b)).length = i - b := by rw [List.length_take, List.length_drop, strB_len]; omega
  have c0 : w.cell? ⟨g, 0, none⟩ = some (.string s) := h.cell 0
  have c1 : w.cell? ⟨g, 1, none⟩ = some (.int .i64 (i : Nat)) := h.cell 1
  have i1 : (b : Int) ≤ (i : Int) := by omega
  have i2 : (i : Int) ≤ (s.size : Int) := by omega
  have i0 : (0 : Int) ≤ (b : Int) := by omega
  obtain ⟨t, ht⟩ : ∃ t, s.extract b i = t := ⟨_, rfl⟩
  have htB : strB t = ((strB s).drop b).take (i - b) := by rw [← ht, strB_sub]
  have hts : t.size = i - b := by rw [← ht, sub_size _ _ _ hi]
  have hdig : ∀ z ∈ strB t, digB z = true := by
    intro z hz
    rw [htB, ← hn] at hz
    exact mem_tw _ _ _ hz
  have hbad : badN ((strB s).drop b) = (decide (9223372036854775808 ≤ numP (strB t)) || (decide (chP (strB t) 0 = 48) && decide (1 < t.size))) := by
    unfold badN
    rw [hn, hl, ← htB, chP_drop, show b + (i - b) = i by omega, h1, hts]
    rw [show decide (chP (strB s) i = 95) = false by simpa using h2, Bool.false_or, Bool.false_or]
    congr 3
    have e0 := chP_in (L := strB s) (i := b) (by rw [strB_len]; omega)
    have e1 : strB t = chP (strB s) b :: ((strB s).drop (b + 1)).take (i - b - 1) := by
      rw [htB, e0]
      obtain ⟨m, hm⟩ : ∃ m, i - b = m + 1 := ⟨i - b - 1, by omega⟩
      rw [hm, List.take_succ_cons]; rfl
    rw [e1, chP_0, e0, chP_0]
  have ho : intP b ((strB s).drop b) = if badN ((strB s).drop b) then ⟨Tk.zero, 0, 122⟩ else ⟨⟨2, ⟨#[]⟩, 1, (numP (strB t) : Nat), ⟨#[]⟩, b⟩, i - b, 0⟩ := by
    unfold intP; rw [hn, hl, ← htB]
  have ht1 : 0 < t.size := by omega
  have hc0 : chP (strB t) 0 = ((t[0]'ht1).toNat : Int) := chP_at t 0 ht1
  rw [hc0] at hbad
  rw [hbad] at ho
  have HI := Lib.hid (show i = b + (i - b) by omega)
  have HT := Lib.hid ht
  have tz : (t.size : Int) ≤ 65536 := by omega
  have tz0 : (0 : Int) < (t.size : Int) := by omega
  have HR := Lib.hid h
  have HE := Lib.hid hE
  by_cases hv : numP (strB t) < 9223372036854775808
  · have CP := Lib.hid fun W => wParse t W hdig ht1 (by omega) hv
    rw [show decide (9223372036854775808 ≤ numP (strB t)) = false by simpa using hv, Bool.false_or] at ho
    obtain ⟨v, hvv⟩ : ∃ v, numP (strB t) = v := ⟨_, rfl⟩
    rw [hvv] at ho CP hv
    rcases hz : (((t[0]'ht1).toNat : Int) == 48) with _ | _
    · rw [show decide (((t[0]'ht1).toNat : Int) = 48) = false by simpa using hz, Bool.false_and, if_neg (by simp)] at ho
      rw [ho]
      clear ho hbad hc0 htB hn hdig h1 h2 hl h ht hE hts hb hi hvv
      go_enter Tryd.func47, Tryd.ntmps47
      go_wp2
      go_quiet (fail)
      obtain ⟨W1, hW1⟩ : ∃ W, w.drewN nq = W := ⟨_, rfl⟩
      have R1 := Lib.hid (show Rd W1 g s i x f p by rw [← hW1]; exact HR.out.drewN nq)
      have O1 := Lib.hid (show Out (fun k => k = g) w W1 by rw [← hW1]; exact Out.drewN (Out.refl _ _) nq)
      have E1 := Lib.hid (show ErrAt W1 by rw [← hW1]; exact HE.out)
      rw [hW1, HT.out]
      clear hW1 c0 c1
      go_wp2_with (first | (go_at_call 61; go_loud (refine (wFound (R1.out.below B1.out) ⟨2, ⟨#[]⟩, 1, v, ⟨#[]⟩, b⟩).mono ?_; rintro e w2 ⟨rfl, r2, o2⟩; have R2 := Lib.hid r2; have O2 := Lib.hid o2; clear r2 o2)) | (go_at_call 63; go_loud (refine (CP.out _).mono ?_; rintro e w1 ⟨rfl, b1⟩; have B1 := Lib.hid b1; clear b1)))
      go_ret
      exact EndIs.yes rfl ((O1.out.then (Out.of_below B1.out _)).then O2.out) (HI.out ▸ R2.out)
    · by_cases hlen : 1 < t.size
      · rw [show decide (((t[0]'ht1).toNat : Int) = 48) = true by simpa using hz, Bool.true_and, show decide (1 < t.size) = true by simpa using hlen, if_pos rfl] at ho
        rw [ho]
        have tz1 : (1 : Int) < (t.size : Int) := by omega
        clear ho hbad hc0 htB hn hdig h1 h2 hl h ht hE hts hb hi hvv hlen
        go_enter Tryd.func47, Tryd.ntmps47
        go_wp2
        go_quiet (fail)
        obtain ⟨W1, hW1⟩ : ∃ W, w.drewN nq = W := ⟨_, rfl⟩
        have R1 := Lib.hid (show Rd W1 g s i x f p by rw [← hW1]; exact HR.out.drewN nq)
        have O1 := Lib.hid (show Out (fun k => k = g) w W1 by rw [← hW1]; exact Out.drewN (Out.refl _ _) nq)
        have E1 := Lib.hid (show ErrAt W1 by rw [← hW1]; exact HE.out)
        rw [hW1, HT.out]
        clear hW1 c0 c1
        go_wp2_with (first | (go_at_call 46; go_loud (refine (wWrong (R1.out.below B1.out) (b : Nat) 122).mono ?_; rintro e w2 ⟨rfl, r2, o2⟩; have R2 := Lib.hid r2; have O2 := Lib.hid o2; clear r2 o2)) | (go_at_call 63; go_loud (refine (CP.out _).mono ?_; rintro e w1 ⟨rfl, b1⟩; have B1 := Lib.hid b1; clear b1)))
        go_ret
        exact EndIs.no (by decide) ((O1.out.then (Out.of_below B1.out _)).then O2.out) i R2.out
      · rw [show decide (((t[0]'ht1).toNat : Int) = 48) = true by simpa using hz, Bool.true_and, show decide (1 < t.size) = false by simpa using hlen, if_neg (by simp)] at ho
        rw [ho]
        have tz1 : ¬ (1 : Int) < (t.size : Int) := by omega
        clear ho hbad hc0 htB hn hdig h1 h2 hl h ht hE hts hb hi hvv hlen
        go_enter Tryd.func47, Tryd.ntmps47
        go_wp2
        go_quiet (fail)
        obtain ⟨W1, hW1⟩ : ∃ W, w.drewN nq = W := ⟨_, rfl⟩
        have R1 := Lib.hid (show Rd W1 g s i x f p by rw [← hW1]; exact HR.out.drewN nq)
        have O1 := Lib.hid (show Out (fun k => k = g) w W1 by rw [← hW1]; exact Out.drewN (Out.refl _ _) nq)
        have E1 := Lib.hid (show ErrAt W1 by rw [← hW1]; exact HE.out)
        rw [hW1, HT.out]
        clear hW1 c0 c1
        go_wp2_with (first | (go_at_call 61; go_loud (refine (wFound (R1.out.below B1.out) ⟨2, ⟨#[]⟩, 1, v, ⟨#[]⟩, b⟩).mono ?_; rintro e w2 ⟨rfl, r2, o2⟩; have R2 := Lib.hid r2; have O2 := Lib.hid o2; clear r2 o2)) | (go_at_call 63; go_loud (refine (CP.out _).mono ?_; rintro e w1 ⟨rfl, b1⟩; have B1 := Lib.hid b1; clear b1)))
        go_ret
        exact EndIs.yes rfl ((O1.out.then (Out.of_below B1.out _)).then O2.out) (HI.out ▸ R2.out)
  · have CP := Lib.hid fun W (hW : ErrAt W) => wParseNo t W hdig ht1 (by omega) hv hW
    rw [show decide (9223372036854775808 ≤ numP (strB t)) = true by simpa using hv, Bool.true_or, if_pos rfl] at ho
    rw [ho]
    clear ho hbad hc0 htB hn hdig h1 h2 hl h ht hE hts hb hi hv
    go_enter Tryd.func47, Tryd.ntmps47
    go_wp2
    go_quiet (fail)
    obtain ⟨W1, hW1⟩ : ∃ W, w.drewN nq = W := ⟨_, rfl⟩
    have R1 := Lib.hid (show Rd W1 g s i x f p by rw [← hW1]; exact HR.out.drewN nq)
    have O1 := Lib.hid (show Out (fun k => k = g) w W1 by rw [← hW1]; exact Out.drewN (Out.refl _ _) nq)
    have E1 := Lib.hid (show ErrAt W1 by rw [← hW1]; exact HE.out)
    rw [hW1, HT.out]
    clear hW1 c0 c1
    go_wp2_with (first | (go_at_call 46; go_loud (refine (wWrong (R1.out.below B1.out) (b : Nat) 122).mono ?_; rintro e w2 ⟨rfl, r2, o2⟩; have R2 := Lib.hid r2; have O2 := Lib.hid o2; clear r2 o2)) | (go_at_call 63; go_loud (refine (CP.out _ E1.out).mono ?_; rintro e w1 ⟨k1, N1, rfl, b1⟩; have B1 := Lib.hid b1; clear b1)))
    go_ret
    exact EndIs.no (by decide) ((O1.out.then (Out.of_below B1.out _)).then O2.out) i R2.out
end
end Go.Proofs.YtagangneoibbcaaDoor
