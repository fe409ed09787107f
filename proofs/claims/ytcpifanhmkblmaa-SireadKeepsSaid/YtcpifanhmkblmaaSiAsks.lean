/- Layer 9: the law's asks: both sides answer alike. -/
import Derived.Test.YtcpifanhmkblmaaSiBegun
import Derived.Test.YtcpifanhmkblmaaSiOpen
import Derived.Deep.RegionHeld3
namespace Go.Proofs.Ytcpifanhmkblmaa
set_option maxRecDepth 100000
set_option maxRecDepth 100000
open Go.RowKit

theorem wf_of9 {x : Int} (h : -9223372036854775808 ≤ x ∧ x ≤ 9223372036854775807) : (Lit.int .i64 x).wf = true := by
  simpa [Lit.wf, IntKind.min, IntKind.max, IntKind.bits, IntKind.signed] using h
theorem txP_le (L : List Nt) (f : Nt → Bool) : (txP L f).length ≤ L.length := by
  have := txP_len L f L.length
  rwa [List.take_length] at this
theorem ofP_le (L : List Nt) (t : Int) : (ofP L t).length ≤ L.length := by
  have := ofP_len L t L.length
  rwa [List.take_length] at this
section
variable {M : World → (Nat → Prop) → Nat → Nat → List Nt → Prop}

set_option maxHeartbeats 16000000 in
theorem wasks_readers (I : Api9 M) {w0 w : World} {G : Nat → Prop} {r b most : Nat} {L : List Nt} (h : Two9 M w0 w G r b most L L) (o : OpS) (hk : o.kind = 2) (ht : (Lit.int .i64 o.tx).wf = true) (h1 : o.x.tb.size ≤ 140737488351232) (h2 : o.key.size ≤ 140737488351232) :
    Calls Try.prog 16 #[.pointer (some ⟨r, 0, none⟩), .pointer (some ⟨b, 0, none⟩), .agg #[.int .i64 o.kind, .int .i64 o.tx, .string o.x.tb, .int .i64 o.x.kd, .string o.x.lo, .string o.x.hi, .string o.key]] w
      fun e w' => e = .returned (.bool true) ∧ Below w.heap.size w w' := by
  obtain ⟨kind, tx, ⟨tb, kd, lo, hi⟩, key⟩ := o
  simp only at hk ht h1 h2 ⊢
  subst hk
  obtain ⟨W, hW⟩ : ∃ W, w.alloc (.cells #[.int .i64 2, .int .i64 tx, .string tb, .int .i64 kd, .string lo, .string hi, .string key] 33) = W := ⟨_, rfl⟩
  have HW := Lib.hid hW
  have hB : Below w.heap.size w W := by rw [← hW]; exact (Below.refl _ _).alloc (Nat.le_refl _) _
  have q0 : W.heap[w.heap.size]? = some (.cells #[.int .i64 2, .int .i64 tx, .string tb, .int .i64 kd, .string lo, .string hi, .string key] 33 (0, 0)) := by rw [← hW]; exact heap_alloc_new _ _
  have x0 : W.cell? ⟨w.heap.size, 0, none⟩ = some (.int .i64 2) := cell_of_row _ _ 0 _ _ _ q0
  have S0 : W.cell? ⟨w.heap.size, 1, none⟩ = some (.int .i64 tx) ∧ W.cell? ⟨w.heap.size, 2, none⟩ = some (.string tb) ∧ W.cell? ⟨w.heap.size, 6, none⟩ = some (.string key) :=
    ⟨cell_of_row _ _ 1 _ _ _ q0, cell_of_row _ _ 2 _ _ _ q0, cell_of_row _ _ 6 _ _ _ q0⟩
  have HB := Lib.hid hB
  have TW := Lib.hid (h.below I hB)
  have SK := Lib.hid (fun (W' : World) (hb : Below W.heap.size W W') => (⟨keep_below S0.1 hb, keep_below S0.2.1 hb, keep_below S0.2.2 hb⟩ : W'.cell? ⟨w.heap.size, 1, none⟩ = some (.int .i64 tx) ∧ W'.cell? ⟨w.heap.size, 2, none⟩ = some (.string tb) ∧ W'.cell? ⟨w.heap.size, 6, none⟩ = some (.string key)))
  have HL := Lib.hid (show L.length ≤ 3000000 by have := h.k.len; omega)
  have CP := Lib.hid (fun w2 (g : Below W.heap.size W w2) => I.readers (TW.out.below I g).m tb key h1 h2)
  have CR := Lib.hid (fun w2 (g : Below W.heap.size W w2) => wrReaders (TW.out.below I g).n HL.out tb key)
  have CE := Lib.hid (show (txP L fun n => hasP n.2 tb key).length ≤ 10000000 by have := txP_le L (fun n => hasP n.2 tb key); have := HL.out; omega)
  obtain ⟨l, hl⟩ : ∃ l, (txP L fun n => hasP n.2 tb key) = l := ⟨_, rfl⟩
  rw [hl] at CP CR CE
  clear h hW hB q0 ht h1 h2 hl
  go_enter Try.func16, Try.ntmps16
  go_upto_region 3 with fail
  rw [HW.out]
  have HX := Lib.hid (Below.refl W.heap.size W)
  go_region_held3 (fun w' => w'.cell? ⟨w.heap.size, 1, none⟩ = some (.int .i64 tx) ∧ w'.cell? ⟨w.heap.size, 2, none⟩ = some (.string tb) ∧ w'.cell? ⟨w.heap.size, 6, none⟩ = some (.string key))
    (first | exact S0 | exact SA | exact SB | exact SC)
    (first
      | (go_at_call 21; go_loud (refine (CP.out _ (Below.refl W.heap.size W).drew).mono ?_; rintro e w3 ⟨v3, rfl, o3, g3⟩; obtain ⟨A3, c3, hv3, hs3⟩ := o3.num rfl; subst hv3; have S3 := Lib.hid hs3; have G3 := Lib.hid ((Below.refl W.heap.size W).drew.trans g3); have SA := SK.out w3 G3.out; clear g3 o3 hs3))
      | (go_at_call 41; go_loud (refine (CR.out _ G3.out).mono ?_; rintro e w4 ⟨v4, rfl, o4, g4⟩; obtain ⟨A4, c4, hv4, hs4⟩ := o4.num rfl; subst hv4; have S4 := Lib.hid hs4; have S3b := Lib.hid (S3.out.gw g4); have G4 := Lib.hid (below_next G3.out g4); have SB := SK.out w4 G4.out; clear g4 o4 hs4))
      | (go_at_call 31; go_loud (refine (weqN S3b.out S4.out CE.out).mono ?_; rintro e w5 ⟨rfl, g5⟩; have G5 := Lib.hid (below_next G4.out g5); have SC := SK.out w5 G5.out; clear g5)))
  all_goals
    go_wp2
    go_ret
    exact ⟨rfl, below_next HB.out G5.out⟩

set_option maxHeartbeats 16000000 in
theorem wasks_of (I : Api9 M) {w0 w : World} {G : Nat → Prop} {r b most : Nat} {L : List Nt} (h : Two9 M w0 w G r b most L L) (o : OpS) (hk : o.kind = 3) (ht : (Lit.int .i64 o.tx).wf = true) (h1 : o.x.tb.size ≤ 140737488351232) (h2 : o.key.size ≤ 140737488351232) :
    Calls Try.prog 16 #[.pointer (some ⟨r, 0, none⟩), .pointer (some ⟨b, 0, none⟩), .agg #[.int .i64 o.kind, .int .i64 o.tx, .string o.x.tb, .int .i64 o.x.kd, .string o.x.lo, .string o.x.hi, .string o.key]] w
      fun e w' => e = .returned (.bool true) ∧ Below w.heap.size w w' := by
  obtain ⟨kind, tx, ⟨tb, kd, lo, hi⟩, key⟩ := o
  simp only at hk ht h1 h2 ⊢
  subst hk
  obtain ⟨W, hW⟩ : ∃ W, w.alloc (.cells #[.int .i64 3, .int .i64 tx, .string tb, .int .i64 kd, .string lo, .string hi, .string key] 33) = W := ⟨_, rfl⟩
  have HW := Lib.hid hW
  have hB : Below w.heap.size w W := by rw [← hW]; exact (Below.refl _ _).alloc (Nat.le_refl _) _
  have q0 : W.heap[w.heap.size]? = some (.cells #[.int .i64 3, .int .i64 tx, .string tb, .int .i64 kd, .string lo, .string hi, .string key] 33 (0, 0)) := by rw [← hW]; exact heap_alloc_new _ _
  have x0 : W.cell? ⟨w.heap.size, 0, none⟩ = some (.int .i64 3) := cell_of_row _ _ 0 _ _ _ q0
  have S0 : W.cell? ⟨w.heap.size, 1, none⟩ = some (.int .i64 tx) ∧ W.cell? ⟨w.heap.size, 2, none⟩ = some (.string tb) ∧ W.cell? ⟨w.heap.size, 6, none⟩ = some (.string key) :=
    ⟨cell_of_row _ _ 1 _ _ _ q0, cell_of_row _ _ 2 _ _ _ q0, cell_of_row _ _ 6 _ _ _ q0⟩
  have HB := Lib.hid hB
  have TW := Lib.hid (h.below I hB)
  have SK := Lib.hid (fun (W' : World) (hb : Below W.heap.size W W') => (⟨keep_below S0.1 hb, keep_below S0.2.1 hb, keep_below S0.2.2 hb⟩ : W'.cell? ⟨w.heap.size, 1, none⟩ = some (.int .i64 tx) ∧ W'.cell? ⟨w.heap.size, 2, none⟩ = some (.string tb) ∧ W'.cell? ⟨w.heap.size, 6, none⟩ = some (.string key)))
  have HL := Lib.hid (show L.length ≤ 3000000 by have := h.k.len; omega)
  have CP := Lib.hid (fun w2 (g : Below W.heap.size W w2) => I.of (TW.out.below I g).m tx ht)
  have CR := Lib.hid (fun w2 (g : Below W.heap.size W w2) => wrOf (TW.out.below I g).n HL.out tx)
  have CE := Lib.hid (show (ofP L tx).length ≤ 10000000 by have := ofP_le L tx; have := HL.out; omega)
  obtain ⟨l, hl⟩ : ∃ l, (ofP L tx) = l := ⟨_, rfl⟩
  rw [hl] at CP CR CE
  clear h hW hB q0 ht h1 h2 hl
  go_enter Try.func16, Try.ntmps16
  go_upto_region 5 with fail
  rw [HW.out]
  have HX := Lib.hid (Below.refl W.heap.size W)
  go_region_held3 (fun w' => w'.cell? ⟨w.heap.size, 1, none⟩ = some (.int .i64 tx) ∧ w'.cell? ⟨w.heap.size, 2, none⟩ = some (.string tb) ∧ w'.cell? ⟨w.heap.size, 6, none⟩ = some (.string key))
    (first | exact S0 | exact SA | exact SB | exact SC)
    (first
      | (go_at_call 27; go_loud (refine (CP.out _ (Below.refl W.heap.size W).drew).mono ?_; rintro e w3 ⟨v3, rfl, o3, g3⟩; obtain ⟨A3, c3, hv3, hs3⟩ := o3.rds rfl; subst hv3; have S3 := Lib.hid hs3; have G3 := Lib.hid ((Below.refl W.heap.size W).drew.trans g3); have SA := SK.out w3 G3.out; clear g3 o3 hs3))
      | (go_at_call 43; go_loud (refine (CR.out _ G3.out).mono ?_; rintro e w4 ⟨v4, rfl, o4, g4⟩; obtain ⟨A4, c4, hv4, hs4⟩ := o4.rds rfl; subst hv4; have S4 := Lib.hid hs4; have S3b := Lib.hid (S3.out.gw g4); have G4 := Lib.hid (below_next G3.out g4); have SB := SK.out w4 G4.out; clear g4 o4 hs4))
      | (go_at_call 42; go_loud (refine (weqR S3b.out S4.out CE.out).mono ?_; rintro e w5 ⟨rfl, g5⟩; have G5 := Lib.hid (below_next G4.out g5); have SC := SK.out w5 G5.out; clear g5)))
  all_goals
    go_wp2
    go_ret
    exact ⟨rfl, below_next HB.out G5.out⟩

set_option maxHeartbeats 16000000 in
theorem wasks_txns (I : Api9 M) {w0 w : World} {G : Nat → Prop} {r b most : Nat} {L : List Nt} (h : Two9 M w0 w G r b most L L) (o : OpS) (hk : o.kind = 4) (ht : (Lit.int .i64 o.tx).wf = true) (h1 : o.x.tb.size ≤ 140737488351232) (h2 : o.key.size ≤ 140737488351232) :
    Calls Try.prog 16 #[.pointer (some ⟨r, 0, none⟩), .pointer (some ⟨b, 0, none⟩), .agg #[.int .i64 o.kind, .int .i64 o.tx, .string o.x.tb, .int .i64 o.x.kd, .string o.x.lo, .string o.x.hi, .string o.key]] w
      fun e w' => e = .returned (.bool true) ∧ Below w.heap.size w w' := by
  obtain ⟨kind, tx, ⟨tb, kd, lo, hi⟩, key⟩ := o
  simp only at hk ht h1 h2 ⊢
  subst hk
  obtain ⟨W, hW⟩ : ∃ W, w.alloc (.cells #[.int .i64 4, .int .i64 tx, .string tb, .int .i64 kd, .string lo, .string hi, .string key] 33) = W := ⟨_, rfl⟩
  have HW := Lib.hid hW
  have hB : Below w.heap.size w W := by rw [← hW]; exact (Below.refl _ _).alloc (Nat.le_refl _) _
  have q0 : W.heap[w.heap.size]? = some (.cells #[.int .i64 4, .int .i64 tx, .string tb, .int .i64 kd, .string lo, .string hi, .string key] 33 (0, 0)) := by rw [← hW]; exact heap_alloc_new _ _
  have x0 : W.cell? ⟨w.heap.size, 0, none⟩ = some (.int .i64 4) := cell_of_row _ _ 0 _ _ _ q0
  have S0 : W.cell? ⟨w.heap.size, 1, none⟩ = some (.int .i64 tx) ∧ W.cell? ⟨w.heap.size, 2, none⟩ = some (.string tb) ∧ W.cell? ⟨w.heap.size, 6, none⟩ = some (.string key) :=
    ⟨cell_of_row _ _ 1 _ _ _ q0, cell_of_row _ _ 2 _ _ _ q0, cell_of_row _ _ 6 _ _ _ q0⟩
  have HB := Lib.hid hB
  have TW := Lib.hid (h.below I hB)
  have SK := Lib.hid (fun (W' : World) (hb : Below W.heap.size W W') => (⟨keep_below S0.1 hb, keep_below S0.2.1 hb, keep_below S0.2.2 hb⟩ : W'.cell? ⟨w.heap.size, 1, none⟩ = some (.int .i64 tx) ∧ W'.cell? ⟨w.heap.size, 2, none⟩ = some (.string tb) ∧ W'.cell? ⟨w.heap.size, 6, none⟩ = some (.string key)))
  have HL := Lib.hid (show L.length ≤ 3000000 by have := h.k.len; omega)
  have CP := Lib.hid (fun w2 (g : Below W.heap.size W w2) => I.txns (TW.out.below I g).m)
  have CR := Lib.hid (fun w2 (g : Below W.heap.size W w2) => wrTxns (TW.out.below I g).n HL.out)
  have CE := Lib.hid (show (txP L fun _ => true).length ≤ 10000000 by have := txP_le L (fun _ => true); have := HL.out; omega)
  obtain ⟨l, hl⟩ : ∃ l, (txP L fun _ => true) = l := ⟨_, rfl⟩
  rw [hl] at CP CR CE
  clear h hW hB q0 ht h1 h2 hl
  go_enter Try.func16, Try.ntmps16
  go_upto_region 7 with fail
  rw [HW.out]
  go_wp2_with (first
      | (go_at_call 26; go_loud (refine (CP.out _ (Below.refl W.heap.size W)).mono ?_; rintro e w3 ⟨v3, rfl, o3, g3⟩; obtain ⟨A3, c3, hv3, hs3⟩ := o3.num rfl; subst hv3; have S3 := Lib.hid hs3; have G3 := Lib.hid g3; clear g3 o3 hs3))
      | (go_at_call 17; go_loud (refine (CR.out _ G3.out).mono ?_; rintro e w4 ⟨v4, rfl, o4, g4⟩; obtain ⟨A4, c4, hv4, hs4⟩ := o4.num rfl; subst hv4; have S4 := Lib.hid hs4; have S3b := Lib.hid (S3.out.gw g4); have G4 := Lib.hid (below_next G3.out g4); clear g4 o4 hs4))
      | (go_at_call 31; go_loud (refine (weqN S3b.out S4.out CE.out).mono ?_; rintro e w5 ⟨rfl, g5⟩; have G5 := Lib.hid (below_next G4.out g5); clear g5)))
  go_ret
  exact ⟨rfl, below_next HB.out G5.out⟩

set_option maxHeartbeats 16000000 in
theorem wasks_len (I : Api9 M) {w0 w : World} {G : Nat → Prop} {r b most : Nat} {L : List Nt} (h : Two9 M w0 w G r b most L L) (o : OpS) (hk : ¬ o.kind = 2 ∧ ¬ o.kind = 3 ∧ ¬ o.kind = 4) (ht : (Lit.int .i64 o.tx).wf = true) (h1 : o.x.tb.size ≤ 140737488351232) (h2 : o.key.size ≤ 140737488351232) :
    Calls Try.prog 16 #[.pointer (some ⟨r, 0, none⟩), .pointer (some ⟨b, 0, none⟩), .agg #[.int .i64 o.kind, .int .i64 o.tx, .string o.x.tb, .int .i64 o.x.kd, .string o.x.lo, .string o.x.hi, .string o.key]] w
      fun e w' => e = .returned (.bool true) ∧ Below w.heap.size w w' := by
  obtain ⟨kind, tx, ⟨tb, kd, lo, hi⟩, key⟩ := o
  simp only at hk ht h1 h2 ⊢

  obtain ⟨W, hW⟩ : ∃ W, w.alloc (.cells #[.int .i64 kind, .int .i64 tx, .string tb, .int .i64 kd, .string lo, .string hi, .string key] 33) = W := ⟨_, rfl⟩
  have HW := Lib.hid hW
  have hB : Below w.heap.size w W := by rw [← hW]; exact (Below.refl _ _).alloc (Nat.le_refl _) _
  have q0 : W.heap[w.heap.size]? = some (.cells #[.int .i64 kind, .int .i64 tx, .string tb, .int .i64 kd, .string lo, .string hi, .string key] 33 (0, 0)) := by rw [← hW]; exact heap_alloc_new _ _
  have x0 : W.cell? ⟨w.heap.size, 0, none⟩ = some (.int .i64 kind) := cell_of_row _ _ 0 _ _ _ q0
  have S0 : W.cell? ⟨w.heap.size, 1, none⟩ = some (.int .i64 tx) ∧ W.cell? ⟨w.heap.size, 2, none⟩ = some (.string tb) ∧ W.cell? ⟨w.heap.size, 6, none⟩ = some (.string key) :=
    ⟨cell_of_row _ _ 1 _ _ _ q0, cell_of_row _ _ 2 _ _ _ q0, cell_of_row _ _ 6 _ _ _ q0⟩
  have HB := Lib.hid hB
  have TW := Lib.hid (h.below I hB)
  have SK := Lib.hid (fun (W' : World) (hb : Below W.heap.size W W') => (⟨keep_below S0.1 hb, keep_below S0.2.1 hb, keep_below S0.2.2 hb⟩ : W'.cell? ⟨w.heap.size, 1, none⟩ = some (.int .i64 tx) ∧ W'.cell? ⟨w.heap.size, 2, none⟩ = some (.string tb) ∧ W'.cell? ⟨w.heap.size, 6, none⟩ = some (.string key)))
  have HL := Lib.hid (show L.length ≤ 3000000 by have := h.k.len; omega)
  have CP := Lib.hid (fun w2 (g : Below W.heap.size W w2) => I.len (TW.out.below I g).m)
  have CR := Lib.hid (fun w2 (g : Below W.heap.size W w2) => wrLen (TW.out.below I g).n)
  have k2 : (kind == 2) = false := by simpa using hk.1
  have k3 : (kind == 3) = false := by simpa using hk.2.1
  have k4 : (kind == 4) = false := by simpa using hk.2.2
  clear h hW hB q0 ht h1 h2 hk
  go_enter Try.func16, Try.ntmps16
  go_upto_region 1 with fail
  rw [HW.out]
  go_wp2_with (first
      | (go_at_call 23; go_loud (refine (CP.out _ (Below.refl W.heap.size W)).mono ?_; rintro e w3 ⟨rfl, g3⟩; have G3 := Lib.hid g3; clear g3))
      | (go_at_call 44; go_loud (refine (CR.out _ G3.out).mono ?_; rintro e w4 ⟨rfl, hw⟩; replace hw := hw.symm; subst hw)))
  go_ret
  exact ⟨by simp, below_next HB.out G3.out⟩

/-- Whatever is asked, both sides answer alike. -/
theorem wasks9 (I : Api9 M) {w0 w : World} {G : Nat → Prop} {r b most : Nat} {L : List Nt} (h : Two9 M w0 w G r b most L L) (o : OpS) (ht : (Lit.int .i64 o.tx).wf = true) (h1 : o.x.tb.size ≤ 140737488351232) (h2 : o.key.size ≤ 140737488351232) :
    Calls Try.prog 16 #[.pointer (some ⟨r, 0, none⟩), .pointer (some ⟨b, 0, none⟩), .agg #[.int .i64 o.kind, .int .i64 o.tx, .string o.x.tb, .int .i64 o.x.kd, .string o.x.lo, .string o.x.hi, .string o.key]] w
      fun e w' => e = .returned (.bool true) ∧ Below w.heap.size w w' := by
  by_cases k2 : o.kind = 2
  · exact wasks_readers I h o k2 ht h1 h2
  by_cases k3 : o.kind = 3
  · exact wasks_of I h o k3 ht h1 h2
  by_cases k4 : o.kind = 4
  · exact wasks_txns I h o k4 ht h1 h2
  exact wasks_len I h o ⟨k2, k3, k4⟩ ht h1 h2
end
end Go.Proofs.Ytcpifanhmkblmaa
