/- Layer 8: the law's step: Holder, Release, Len, Holders, Held, Clone. -/
import Derived.Test.YtghnafknbgmagaaLkStep
namespace Go.Proofs.Ytghnafknbgmagaa
set_option maxRecDepth 100000
set_option maxRecDepth 100000
open Go.RowKit Go.Maps Go.ChangeMaps Go.MapKept


set_option maxHeartbeats 8000000 in
theorem wstep_else {w : World} {m r b : Nat} {most : Int} {hs : List Hd} (h : Two8 w m r b most hs) (o : OpK)  (hk2 : o.kind < 0 ∨ 5 < o.kind) :
    Calls Try.prog 14 #[.pointer (some ⟨m, 0, none⟩), .pointer (some ⟨b, 0, none⟩), .agg #[.int .i64 o.kind, .int .i64 o.tx, .int .i64 o.snap, .int .i64 o.last, .string o.at_.1, .string o.at_.2, .string o.hi]] w
      fun e w' => e = .returned (.bool true) ∧ Two8 w' m r b most hs ∧ Below w.heap.size w w' := by
  obtain ⟨kind, tx, snap, last, ⟨tb, ky⟩, hi⟩ := o
  simp only at hk2 ⊢
  obtain ⟨W, hW⟩ : ∃ W, w.alloc (.cells #[.int .i64 kind, .int .i64 tx, .int .i64 snap, .int .i64 last, .string tb, .string ky, .string hi] 36) = W := ⟨_, rfl⟩
  have HW := Lib.hid hW
  have hB : Below w.heap.size w W := by rw [← hW]; exact (Below.refl _ _).alloc (Nat.le_refl _) _
  have q0 : W.heap[w.heap.size]? = some (.cells #[.int .i64 kind, .int .i64 tx, .int .i64 snap, .int .i64 last, .string tb, .string ky, .string hi] 36 (0, 0)) := by rw [← hW]; exact heap_alloc_new _ _
  have x0 : W.cell? ⟨w.heap.size, 0, none⟩ = some (.int .i64 kind) := cell_of_row _ _ 0 _ _ _ q0
  have x1 : W.cell? ⟨w.heap.size, 1, none⟩ = some (.int .i64 tx) := cell_of_row _ _ 1 _ _ _ q0
  have x4 : W.cell? ⟨w.heap.size, 4, none⟩ = some (.string tb) := cell_of_row _ _ 4 _ _ _ q0
  have x5 : W.cell? ⟨w.heap.size, 5, none⟩ = some (.string ky) := cell_of_row _ _ 5 _ _ _ q0
  have x6 : W.cell? ⟨w.heap.size, 6, none⟩ = some (.string hi) := cell_of_row _ _ 6 _ _ _ q0
  have hlen : hs.length ≤ 4000000 := by have := h.mg.len; have := h.mg.m2; omega
  have M0 := Lib.hid (h.mg.below hB)
  have R0 := Lib.hid (h.rm.gw hB)
  have HB := Lib.hid hB
  have HN := Lib.hid hlen
  have i0 : ¬ kind = 0 := by omega
  have i1 : ¬ kind = 1 := by omega
  have i2 : ¬ kind = 2 := by omega
  have i3 : ¬ kind = 3 := by omega
  have i4 : ¬ kind = 4 := by omega
  have i5 : ¬ kind = 5 := by omega
  clear h hW hB q0 hlen hk2
  go_enter Try.func14, Try.ntmps14
  go_upto_region 1 with fail
  rw [HW.out]
  go_wp2
  go_ret
  exact ⟨rfl, ⟨M0.out, R0.out⟩, HB.out⟩

set_option maxHeartbeats 8000000 in
theorem wstep_holder {w : World} {m r b : Nat} {most : Int} {hs : List Hd} (h : Two8 w m r b most hs) (o : OpK) (hk : o.kind = 1) (hz : Sz o.at_) :
    Calls Try.prog 14 #[.pointer (some ⟨m, 0, none⟩), .pointer (some ⟨b, 0, none⟩), .agg #[.int .i64 o.kind, .int .i64 o.tx, .int .i64 o.snap, .int .i64 o.last, .string o.at_.1, .string o.at_.2, .string o.hi]] w
      fun e w' => e = .returned (.bool true) ∧ Two8 w' m r b most hs ∧ Below w.heap.size w w' := by
  obtain ⟨kind, tx, snap, last, ⟨tb, ky⟩, hi⟩ := o
  simp only at hk hz ⊢
  subst hk
  obtain ⟨W, hW⟩ : ∃ W, w.alloc (.cells #[.int .i64 1, .int .i64 tx, .int .i64 snap, .int .i64 last, .string tb, .string ky, .string hi] 36) = W := ⟨_, rfl⟩
  have HW := Lib.hid hW
  have hB : Below w.heap.size w W := by rw [← hW]; exact (Below.refl _ _).alloc (Nat.le_refl _) _
  have q0 : W.heap[w.heap.size]? = some (.cells #[.int .i64 1, .int .i64 tx, .int .i64 snap, .int .i64 last, .string tb, .string ky, .string hi] 36 (0, 0)) := by rw [← hW]; exact heap_alloc_new _ _
  have x0 : W.cell? ⟨w.heap.size, 0, none⟩ = some (.int .i64 1) := cell_of_row _ _ 0 _ _ _ q0
  have x1 : W.cell? ⟨w.heap.size, 1, none⟩ = some (.int .i64 tx) := cell_of_row _ _ 1 _ _ _ q0
  have x4 : W.cell? ⟨w.heap.size, 4, none⟩ = some (.string tb) := cell_of_row _ _ 4 _ _ _ q0
  have x5 : W.cell? ⟨w.heap.size, 5, none⟩ = some (.string ky) := cell_of_row _ _ 5 _ _ _ q0
  have x6 : W.cell? ⟨w.heap.size, 6, none⟩ = some (.string hi) := cell_of_row _ _ 6 _ _ _ q0
  have hlen : hs.length ≤ 4000000 := by have := h.mg.len; have := h.mg.m2; omega
  have M0 := Lib.hid (h.mg.below hB)
  have R0 := Lib.hid (h.rm.gw hB)
  have HB := Lib.hid hB
  have HN := Lib.hid hlen
  have CP := Lib.hid (fun w2 (g : Below W.heap.size W w2) => wkHolder (M0.out.below g) hz)
  have CR := Lib.hid (fun w2 (g : Below W.heap.size W w2) => wrHolder (R0.out.gw g) (by omega) (tb, ky))
  clear h hW hB q0 hlen hz
  go_enter Try.func14, Try.ntmps14
  go_upto_region 1 with fail
  rw [HW.out]
  unfold lkV at CP CR
  go_upto_region 6 with (go_at_call 16; go_loud (refine (CP.out _ (Below.refl _ _)).mono ?_; rintro e w2 ⟨rfl, g2⟩; have G2 := Lib.hid g2; clear g2))
  have y4 := keep_below x4 G2.out
  have y5 := keep_below x5 G2.out
  go_upto_region 7 with (go_at_call 29; go_loud (refine (CR.out _ G2.out).mono ?_; rintro e w3 ⟨rfl, g3⟩; have G3 := Lib.hid (below_next G2.out g3); clear g3))
  go_wp2
  go_ret
  exact ⟨by simp, ⟨M0.out.below G3.out, R0.out.gw G3.out⟩, below_next HB.out G3.out⟩

set_option maxHeartbeats 8000000 in
theorem wstep_len {w : World} {m r b : Nat} {most : Int} {hs : List Hd} (h : Two8 w m r b most hs) (o : OpK) (hk : o.kind = 5) :
    Calls Try.prog 14 #[.pointer (some ⟨m, 0, none⟩), .pointer (some ⟨b, 0, none⟩), .agg #[.int .i64 o.kind, .int .i64 o.tx, .int .i64 o.snap, .int .i64 o.last, .string o.at_.1, .string o.at_.2, .string o.hi]] w
      fun e w' => e = .returned (.bool true) ∧ Two8 w' m r b most hs ∧ Below w.heap.size w w' := by
  obtain ⟨kind, tx, snap, last, ⟨tb, ky⟩, hi⟩ := o
  simp only at hk ⊢
  subst hk
  obtain ⟨W, hW⟩ : ∃ W, w.alloc (.cells #[.int .i64 5, .int .i64 tx, .int .i64 snap, .int .i64 last, .string tb, .string ky, .string hi] 36) = W := ⟨_, rfl⟩
  have HW := Lib.hid hW
  have hB : Below w.heap.size w W := by rw [← hW]; exact (Below.refl _ _).alloc (Nat.le_refl _) _
  have q0 : W.heap[w.heap.size]? = some (.cells #[.int .i64 5, .int .i64 tx, .int .i64 snap, .int .i64 last, .string tb, .string ky, .string hi] 36 (0, 0)) := by rw [← hW]; exact heap_alloc_new _ _
  have x0 : W.cell? ⟨w.heap.size, 0, none⟩ = some (.int .i64 5) := cell_of_row _ _ 0 _ _ _ q0
  have x1 : W.cell? ⟨w.heap.size, 1, none⟩ = some (.int .i64 tx) := cell_of_row _ _ 1 _ _ _ q0
  have x4 : W.cell? ⟨w.heap.size, 4, none⟩ = some (.string tb) := cell_of_row _ _ 4 _ _ _ q0
  have x5 : W.cell? ⟨w.heap.size, 5, none⟩ = some (.string ky) := cell_of_row _ _ 5 _ _ _ q0
  have x6 : W.cell? ⟨w.heap.size, 6, none⟩ = some (.string hi) := cell_of_row _ _ 6 _ _ _ q0
  have hlen : hs.length ≤ 4000000 := by have := h.mg.len; have := h.mg.m2; omega
  have M0 := Lib.hid (h.mg.below hB)
  have R0 := Lib.hid (h.rm.gw hB)
  have HB := Lib.hid hB
  have HN := Lib.hid hlen
  have CP := Lib.hid (fun n => wkLen (M0.out.below (below_drewN8 W n)))
  obtain ⟨A, c, h1, -⟩ := R0.out.ex
  have c2 : W.cell? ⟨b, 2, none⟩ = some (.slice A hs.length c) := cell_of_row _ _ 2 _ _ _ h1
  clear h hW hB q0 hlen h1
  go_enter Try.func14, Try.ntmps14
  go_upto_region 15 with fail
  rw [HW.out]
  go_quiet ((go_at_call 15; (try simp only [World.drewN_drewN]); exact Calls.quiet_of_same (CP.out _)))
  go_wp2
  go_ret
  exact ⟨by simp, ⟨M0.out.below (below_drewN8 W _), R0.out.gw (below_drewN8 W _)⟩, below_next HB.out (below_drewN8 W _)⟩
set_option maxHeartbeats 8000000 in
theorem wstep_release {w : World} {m r b : Nat} {most : Int} {hs : List Hd} (h : Two8 w m r b most hs) (o : OpK) (hk : o.kind = 4) :
    Calls Try.prog 14 #[.pointer (some ⟨m, 0, none⟩), .pointer (some ⟨b, 0, none⟩), .agg #[.int .i64 o.kind, .int .i64 o.tx, .int .i64 o.snap, .int .i64 o.last, .string o.at_.1, .string o.at_.2, .string o.hi]] w
      fun e w' => e = .returned (.bool true) ∧ Two8 w' m r b most (releaseP hs o.tx) ∧ Out (fun k => k = r ∨ k = b) w w' := by
  obtain ⟨kind, tx, snap, last, ⟨tb, ky⟩, hi⟩ := o
  simp only at hk ⊢
  subst hk
  obtain ⟨W, hW⟩ : ∃ W, w.alloc (.cells #[.int .i64 4, .int .i64 tx, .int .i64 snap, .int .i64 last, .string tb, .string ky, .string hi] 36) = W := ⟨_, rfl⟩
  have HW := Lib.hid hW
  have hB : Below w.heap.size w W := by rw [← hW]; exact (Below.refl _ _).alloc (Nat.le_refl _) _
  have q0 : W.heap[w.heap.size]? = some (.cells #[.int .i64 4, .int .i64 tx, .int .i64 snap, .int .i64 last, .string tb, .string ky, .string hi] 36 (0, 0)) := by rw [← hW]; exact heap_alloc_new _ _
  have x0 : W.cell? ⟨w.heap.size, 0, none⟩ = some (.int .i64 4) := cell_of_row _ _ 0 _ _ _ q0
  have x1 : W.cell? ⟨w.heap.size, 1, none⟩ = some (.int .i64 tx) := cell_of_row _ _ 1 _ _ _ q0
  have x4 : W.cell? ⟨w.heap.size, 4, none⟩ = some (.string tb) := cell_of_row _ _ 4 _ _ _ q0
  have x5 : W.cell? ⟨w.heap.size, 5, none⟩ = some (.string ky) := cell_of_row _ _ 5 _ _ _ q0
  have x6 : W.cell? ⟨w.heap.size, 6, none⟩ = some (.string hi) := cell_of_row _ _ 6 _ _ _ q0
  have hlen : hs.length ≤ 4000000 := by have := h.mg.len; have := h.mg.m2; omega
  have M0 := Lib.hid (h.mg.below hB)
  have R0 := Lib.hid (h.rm.gw hB)
  have HB := Lib.hid hB
  have HN := Lib.hid hlen
  have M1 := M0.out.below (Below.refl W.heap.size W).drew
  have R1 := R0.out.gw (Below.refl W.heap.size W).drew
  have CP := Lib.hid (wkRelease M1 tx)
  have CR := Lib.hid (fun w2 (R2 : RM w2 b most hs) => wrRelease R2 hlen tx)
  have HM := Lib.hid M1
  have HR := Lib.hid R1
  have LT := Lib.hid (show r < w.heap.size ∧ b < w.heap.size by
    obtain ⟨A, c, h1, -⟩ := h.rm.ex
    exact ⟨h.mg.map.lt, (Array.getElem?_eq_some_iff.1 h1).1⟩)
  obtain ⟨an, han⟩ : ∃ an, releaseP hs tx = an := ⟨_, rfl⟩
  rw [han] at CP CR
  have S0 : W.cell? ⟨w.heap.size, 1, none⟩ = some (.int .i64 tx) := x1
  clear h hW hB q0 M1 R1 hlen x1 x4 x5 x6
  go_enter Try.func14, Try.ntmps14
  go_upto_region 13 with fail
  rw [HW.out]
  go_region_held3 (fun w' => w'.cell? ⟨w.heap.size, 1, none⟩ = some (.int .i64 tx))
    (first | exact S0 | exact S2 | exact S3)
    (first
      | (go_at_call 13; go_loud (refine CP.out.mono ?_; rintro e w2 ⟨rfl, m2, o2⟩; have M2 := Lib.hid m2; have O2 := Lib.hid o2; have R2 := Lib.hid (HR.out.out_map HM.out.map o2); have S2 : w2.cell? ⟨w.heap.size, 1, none⟩ = some (.int .i64 tx) := o2.cell S0 (by have := LT.out.1; show ¬ _ = _; simp; omega); clear m2 o2 CP))
      | (go_at_call 30; go_loud (refine (CR.out _ R2.out).mono ?_; rintro e w3 ⟨rfl, r3, o3⟩; have R3 := Lib.hid r3; have O3 := Lib.hid o3; have M3 := Lib.hid (M2.out.out_ref R2.out o3); have S3 : w3.cell? ⟨w.heap.size, 1, none⟩ = some (.int .i64 tx) := o3.cell S2 (by have := LT.out.2; show ¬ _ = _; simp; omega); clear r3 o3 CR)))
  all_goals
    go_wp2
    go_ret
    rw [han]
    refine ⟨by first | rfl | simp, ⟨M3.out, R3.out⟩, ?_⟩
    exact ((Out.of_below HB.out.drew _).then (O2.out.mono fun _ _ h => .inl h)).then (O3.out.mono fun _ _ h => .inr h)

/-- What a manager's Holders and Held must answer. -/
def HoldersIs (m r : Nat) (most : Int) (hs : List Hd) (table lo hi : ByteArray) : Prop := ∀ w, MG w m r most hs → Calls Try.prog 20 #[.pointer (some ⟨m, 0, none⟩), .string table, .string lo, .string hi] w fun e w' => ∃ v, e = .returned v ∧ SO seN w.heap.size w' v (riseP (whoP hs table lo hi)).length (numC (riseP (whoP hs table lo hi))) ∧ Below w.heap.size w w'
def HeldIs (m r : Nat) (most : Int) (hs : List Hd) (tx : Int) : Prop := ∀ w, MG w m r most hs → Calls Try.prog 17 #[.pointer (some ⟨m, 0, none⟩), .int .i64 tx] w fun e w' => ∃ v, e = .returned v ∧ SO seL w.heap.size w' v (heldP hs tx).length (cellsL (heldP hs tx)) ∧ Below w.heap.size w w'
theorem whoR_len (hs : List Hd) (table lo hi : ByteArray) : (riseP (whoP hs table lo hi)).length ≤ hs.length := by
  have h1 := rise_len (whoP hs table lo hi) (whoP hs table lo hi).length
  rw [List.take_length] at h1
  have h2 := whoP_len hs table lo hi hs.length
  rw [List.take_length] at h2
  omega
theorem heldR_len (hs : List Hd) (tx : Int) : (heldP hs tx).length ≤ hs.length := by
  have h1 := heldP_len hs tx hs.length
  rwa [List.take_length] at h1

set_option maxHeartbeats 8000000 in
theorem wstep_held {w : World} {m r b : Nat} {most : Int} {hs : List Hd} (h : Two8 w m r b most hs) (o : OpK) (hk : o.kind = 3) (hC : HeldIs m r most hs o.tx) :
    Calls Try.prog 14 #[.pointer (some ⟨m, 0, none⟩), .pointer (some ⟨b, 0, none⟩), .agg #[.int .i64 o.kind, .int .i64 o.tx, .int .i64 o.snap, .int .i64 o.last, .string o.at_.1, .string o.at_.2, .string o.hi]] w
      fun e w' => e = .returned (.bool true) ∧ Two8 w' m r b most hs ∧ Below w.heap.size w w' := by
  obtain ⟨kind, tx, snap, last, ⟨tb, ky⟩, hi⟩ := o
  simp only at hk hC ⊢
  subst hk
  obtain ⟨W, hW⟩ : ∃ W, w.alloc (.cells #[.int .i64 3, .int .i64 tx, .int .i64 snap, .int .i64 last, .string tb, .string ky, .string hi] 36) = W := ⟨_, rfl⟩
  have HW := Lib.hid hW
  have hB : Below w.heap.size w W := by rw [← hW]; exact (Below.refl _ _).alloc (Nat.le_refl _) _
  have q0 : W.heap[w.heap.size]? = some (.cells #[.int .i64 3, .int .i64 tx, .int .i64 snap, .int .i64 last, .string tb, .string ky, .string hi] 36 (0, 0)) := by rw [← hW]; exact heap_alloc_new _ _
  have x0 : W.cell? ⟨w.heap.size, 0, none⟩ = some (.int .i64 3) := cell_of_row _ _ 0 _ _ _ q0
  have x1 : W.cell? ⟨w.heap.size, 1, none⟩ = some (.int .i64 tx) := cell_of_row _ _ 1 _ _ _ q0
  have x4 : W.cell? ⟨w.heap.size, 4, none⟩ = some (.string tb) := cell_of_row _ _ 4 _ _ _ q0
  have x5 : W.cell? ⟨w.heap.size, 5, none⟩ = some (.string ky) := cell_of_row _ _ 5 _ _ _ q0
  have x6 : W.cell? ⟨w.heap.size, 6, none⟩ = some (.string hi) := cell_of_row _ _ 6 _ _ _ q0
  have hlen : hs.length ≤ 4000000 := by have := h.mg.len; have := h.mg.m2; omega
  have M0 := Lib.hid (h.mg.below hB)
  have R0 := Lib.hid (h.rm.gw hB)
  have HB := Lib.hid hB
  have HN := Lib.hid hlen
  have CP := Lib.hid (hC _ (M0.out.below (Below.refl W.heap.size W).drew))
  have CR := Lib.hid (fun w2 (g : Below W.heap.size W w2) => wrHeld (R0.out.gw g) hlen tx)
  have LL := Lib.hid (heldR_len hs tx)
  have S0 : W.cell? ⟨w.heap.size, 1, none⟩ = some (.int .i64 tx) := x1
  obtain ⟨q, hq⟩ : ∃ q, heldP hs tx = q := ⟨_, rfl⟩
  rw [hq] at CP CR LL
  clear h hW hB q0 hlen x1 x4 x5 x6 hq
  go_enter Try.func14, Try.ntmps14
  go_upto_region 11 with fail
  rw [HW.out]
  go_region_held3 (fun w' => w'.cell? ⟨w.heap.size, 1, none⟩ = some (.int .i64 tx))
    (first | exact S0 | exact S2 | exact S3 | exact S4)
    (first
      | (go_at_call 17; go_loud (refine CP.out.mono ?_; rintro e w2 ⟨v2, rfl, o2, g2⟩; obtain ⟨A2, c2, rfl, s2, -, -, -⟩ := o2.form; have SB2 := Lib.hid s2; have G2 := Lib.hid (show Below W.heap.size W w2 from (Below.refl W.heap.size W).drew.trans g2); have S2 := keep_below S0 G2.out; clear o2 g2 s2 CP))
      | (go_at_call 19; go_loud (refine (CR.out _ G2.out).mono ?_; rintro e w3 ⟨v3, rfl, o3, g3⟩; obtain ⟨A3, c3, rfl, s3, -, -, -⟩ := o3.form; have SB3 := Lib.hid s3; have SB2 := Lib.hid (SB2.out.gw g3); have G3 := Lib.hid (below_next G2.out g3); have S3 := keep_below S0 G3.out; clear o3 g3 s3 CR))
      | (go_at_call 18; go_loud (refine (wsameLocks SB2.out SB3.out (by have := LL.out; have := HN.out; omega)).mono ?_; rintro e w4 ⟨rfl, g4⟩; have G4 := Lib.hid (below_next G3.out g4); have S4 := keep_below S0 G4.out; clear g4)))
  all_goals
    go_wp2
    go_ret
    exact ⟨rfl, ⟨M0.out.below G4.out, R0.out.gw G4.out⟩, below_next HB.out G4.out⟩

set_option maxHeartbeats 8000000 in
theorem wstep_holders {w : World} {m r b : Nat} {most : Int} {hs : List Hd} (h : Two8 w m r b most hs) (o : OpK) (hk : o.kind = 2) (hC : HoldersIs m r most hs o.at_.1 o.at_.2 o.hi) :
    Calls Try.prog 14 #[.pointer (some ⟨m, 0, none⟩), .pointer (some ⟨b, 0, none⟩), .agg #[.int .i64 o.kind, .int .i64 o.tx, .int .i64 o.snap, .int .i64 o.last, .string o.at_.1, .string o.at_.2, .string o.hi]] w
      fun e w' => e = .returned (.bool true) ∧ Two8 w' m r b most hs ∧ Below w.heap.size w w' := by
  obtain ⟨kind, tx, snap, last, ⟨tb, ky⟩, hi⟩ := o
  simp only at hk hC ⊢
  subst hk
  obtain ⟨W, hW⟩ : ∃ W, w.alloc (.cells #[.int .i64 2, .int .i64 tx, .int .i64 snap, .int .i64 last, .string tb, .string ky, .string hi] 36) = W := ⟨_, rfl⟩
  have HW := Lib.hid hW
  have hB : Below w.heap.size w W := by rw [← hW]; exact (Below.refl _ _).alloc (Nat.le_refl _) _
  have q0 : W.heap[w.heap.size]? = some (.cells #[.int .i64 2, .int .i64 tx, .int .i64 snap, .int .i64 last, .string tb, .string ky, .string hi] 36 (0, 0)) := by rw [← hW]; exact heap_alloc_new _ _
  have x0 : W.cell? ⟨w.heap.size, 0, none⟩ = some (.int .i64 2) := cell_of_row _ _ 0 _ _ _ q0
  have x1 : W.cell? ⟨w.heap.size, 1, none⟩ = some (.int .i64 tx) := cell_of_row _ _ 1 _ _ _ q0
  have x4 : W.cell? ⟨w.heap.size, 4, none⟩ = some (.string tb) := cell_of_row _ _ 4 _ _ _ q0
  have x5 : W.cell? ⟨w.heap.size, 5, none⟩ = some (.string ky) := cell_of_row _ _ 5 _ _ _ q0
  have x6 : W.cell? ⟨w.heap.size, 6, none⟩ = some (.string hi) := cell_of_row _ _ 6 _ _ _ q0
  have hlen : hs.length ≤ 4000000 := by have := h.mg.len; have := h.mg.m2; omega
  have M0 := Lib.hid (h.mg.below hB)
  have R0 := Lib.hid (h.rm.gw hB)
  have HB := Lib.hid hB
  have HN := Lib.hid hlen
  have CP := Lib.hid (hC _ (M0.out.below (Below.refl W.heap.size W).drew))
  have CR := Lib.hid (fun w2 (g : Below W.heap.size W w2) => wrHolders (R0.out.gw g) hlen tb ky hi)
  have LL := Lib.hid (whoR_len hs tb ky hi)
  have S0 : W.cell? ⟨w.heap.size, 4, none⟩ = some (.string tb) ∧ W.cell? ⟨w.heap.size, 5, none⟩ = some (.string ky) ∧ W.cell? ⟨w.heap.size, 6, none⟩ = some (.string hi) := ⟨x4, x5, x6⟩
  obtain ⟨q, hq⟩ : ∃ q, riseP (whoP hs tb ky hi) = q := ⟨_, rfl⟩
  rw [hq] at CP CR LL
  clear h hW hB q0 hlen x1 x4 x5 x6 hq
  go_enter Try.func14, Try.ntmps14
  go_upto_region 9 with fail
  rw [HW.out]
  go_region_held3 (fun w' => w'.cell? ⟨w.heap.size, 4, none⟩ = some (.string tb) ∧ w'.cell? ⟨w.heap.size, 5, none⟩ = some (.string ky) ∧ w'.cell? ⟨w.heap.size, 6, none⟩ = some (.string hi))
    (first | exact S0 | exact S2 | exact S3 | exact S4)
    (first
      | (go_at_call 20; go_loud (refine CP.out.mono ?_; rintro e w2 ⟨v2, rfl, o2, g2⟩; obtain ⟨A2, c2, rfl, s2, -, -, -⟩ := o2.form; have SB2 := Lib.hid s2; have G2 := Lib.hid (show Below W.heap.size W w2 from (Below.refl W.heap.size W).drew.trans g2); have S2 : w2.cell? ⟨w.heap.size, 4, none⟩ = some (.string tb) ∧ w2.cell? ⟨w.heap.size, 5, none⟩ = some (.string ky) ∧ w2.cell? ⟨w.heap.size, 6, none⟩ = some (.string hi) := ⟨keep_below S0.1 G2.out, keep_below S0.2.1 G2.out, keep_below S0.2.2 G2.out⟩; clear o2 g2 s2 CP))
      | (go_at_call 22; go_loud (refine (CR.out _ G2.out).mono ?_; rintro e w3 ⟨v3, rfl, o3, g3⟩; obtain ⟨A3, c3, rfl, s3, -, -, -⟩ := o3.form; have SB3 := Lib.hid s3; have SB2 := Lib.hid (SB2.out.gw g3); have G3 := Lib.hid (below_next G2.out g3); have S3 : w3.cell? ⟨w.heap.size, 4, none⟩ = some (.string tb) ∧ w3.cell? ⟨w.heap.size, 5, none⟩ = some (.string ky) ∧ w3.cell? ⟨w.heap.size, 6, none⟩ = some (.string hi) := ⟨keep_below S0.1 G3.out, keep_below S0.2.1 G3.out, keep_below S0.2.2 G3.out⟩; clear o3 g3 s3 CR))
      | (go_at_call 21; go_loud (refine (wsameNumbers (by simpa [seN] using SB2.out) (by simpa [seN] using SB3.out) (by have := LL.out; have := HN.out; omega)).mono ?_; rintro e w4 ⟨rfl, g4⟩; have G4 := Lib.hid (below_next G3.out g4); have S4 : w4.cell? ⟨w.heap.size, 4, none⟩ = some (.string tb) ∧ w4.cell? ⟨w.heap.size, 5, none⟩ = some (.string ky) ∧ w4.cell? ⟨w.heap.size, 6, none⟩ = some (.string hi) := ⟨keep_below S0.1 G4.out, keep_below S0.2.1 G4.out, keep_below S0.2.2 G4.out⟩; clear g4)))
  all_goals
    go_wp2
    go_ret
    exact ⟨rfl, ⟨M0.out.below G4.out, R0.out.gw G4.out⟩, below_next HB.out G4.out⟩
end Go.Proofs.Ytghnafknbgmagaa
