import Derived.Test.YthpbcibjohakkaaLFind
import Derived.Test.YthpbcibjohakkaaLOpen
import Derived.Test.YthpbcibjohakkaaJAT
/- The small calls of a log that a call made: made, goesOn, Room, Count, refuses, end, place. -/
namespace Go.Proofs.Ythpbcibjohakkaa
set_option maxRecDepth 100000
set_option maxRecDepth 100000
open Go.RowKit
section
variable {w : World} {L d size slot : Nat} {m : Mk} {stamp used count : Nat} {over : Bool}
theorem wmade (h : LgAt w L d size slot m stamp used count over) : Calls Try.prog 58 #[.pointer (some ⟨L, 0, none⟩)] w fun e w' => e = .returned (.bool true) ∧ w = w' := by
  have c0 := h.c0
  clear h
  go_enter Try.func58, Try.ntmps58
  go_wp2
  go_ret
  exact ⟨rfl, rfl⟩
theorem wgoesOn (h : LgAt w L d size slot m stamp used count over) : Calls Try.prog 39 #[.pointer (some ⟨L, 0, none⟩)] w fun e w' => e = .returned (.bool (!over)) ∧ w = w' := by
  have c9 := h.c9
  have CM := Lib.hid (wmade h)
  clear h
  go_enter Try.func39, Try.ntmps39
  go_wp2_with (go_at_call 58; refine CM.out.mono ?_; rintro e w' ⟨rfl, rfl⟩)
  go_ret
  exact ⟨rfl, rfl⟩
theorem wroom (h : LgAt w L d size slot m stamp used count over) (hu : used ≤ size) (hs : size ≤ 16384) : Calls Try.prog 19 #[.pointer (some ⟨L, 0, none⟩)] w fun e w' => e = .returned (.int .i64 ((if over = true then 0 else size - used : Nat) : Int)) ∧ Below w.heap.size w w' := by
  have c1 : w.cell? ⟨L, 1, none⟩ = some (.int .i64 (size : Int)) := h.c1
  have c7 : w.cell? ⟨L, 7, none⟩ = some (.int .i64 (used : Int)) := h.c7
  have CG := Lib.hid (wgoesOn h)
  have HU := Lib.hid hu
  have hw : IntKind.i64.wrap ((size : Int) - (used : Int)) = (size : Int) - (used : Int) := by rw [IntKind.wrap_i64]; omega
  have HE := Lib.hid (show (((size - used : Nat)) : Int) = (size : Int) - (used : Int) by omega)
  clear h hu hs
  cases over
  · go_enter Try.func19, Try.ntmps19
    go_upto_region 3 with (go_at_call 39; refine CG.out.mono ?_; rintro e w' ⟨rfl, rfl⟩)
    go_quiet (fail)
    go_wp2
    go_ret
    exact ⟨congrArg (fun z => Ending.returned (.int .i64 z)) HE.out.symm, rfl, rfl, rfl, Nat.le_refl _, fun _ _ => rfl⟩
  · go_enter Try.func19, Try.ntmps19
    go_wp2_with (go_at_call 39; refine CG.out.mono ?_; rintro e w' ⟨rfl, rfl⟩)
    go_ret
    exact ⟨rfl, Below.refl _ _⟩
theorem wcount (h : LgAt w L d size slot m stamp used count over) : Calls Try.prog 21 #[.pointer (some ⟨L, 0, none⟩)] w fun e w' => e = .returned (.int .i64 ((if over = true then 0 else count : Nat) : Int)) ∧ Below w.heap.size w w' := by
  have c8 := h.c8
  have CG := Lib.hid (wgoesOn h)
  clear h
  cases over
  · go_enter Try.func21, Try.ntmps21
    go_wp2_with (go_at_call 39; refine CG.out.mono ?_; rintro e w' ⟨rfl, rfl⟩)
    go_ret
    exact ⟨rfl, Below.refl _ _⟩
  · go_enter Try.func21, Try.ntmps21
    go_wp2_with (go_at_call 39; refine CG.out.mono ?_; rintro e w' ⟨rfl, rfl⟩)
    go_ret
    exact ⟨rfl, Below.refl _ _⟩
/-- Why a record of n bytes is not taken. -/
def refuseC (over : Bool) (n : Nat) : Int := if over = true then 7 else if 65536 < n then 3 else 0
theorem wrefuses (h : LgAt w L d size slot m stamp used count over) (A : Option Addr) (n c : Nat) : Calls Try.prog 45 #[.pointer (some ⟨L, 0, none⟩), .slice A n c] w fun e w' => e = .returned (.int .i64 (refuseC over n)) ∧ w = w' := by
  have c9 := h.c9
  have CM := Lib.hid (wmade h)
  clear h
  unfold refuseC
  cases over
  · by_cases hn : 65536 < n
    · have h1 : (65536 : Int) < (n : Int) := by omega
      rw [if_neg (by decide), if_pos hn]
      clear hn
      go_enter Try.func45, Try.ntmps45
      go_wp2_with (go_at_call 58; refine CM.out.mono ?_; rintro e w' ⟨rfl, rfl⟩)
      go_ret
      exact ⟨rfl, rfl⟩
    · have h1 : ¬ (65536 : Int) < (n : Int) := by omega
      rw [if_neg (by decide), if_neg hn]
      clear hn
      go_enter Try.func45, Try.ntmps45
      go_wp2_with (go_at_call 58; refine CM.out.mono ?_; rintro e w' ⟨rfl, rfl⟩)
      go_ret
      exact ⟨rfl, rfl⟩
  · rw [if_pos rfl]
    go_enter Try.func45, Try.ntmps45
    go_wp2_with (go_at_call 58; refine CM.out.mono ?_; rintro e w' ⟨rfl, rfl⟩)
    go_ret
    exact ⟨rfl, rfl⟩
end
end Go.Proofs.Ythpbcibjohakkaa

/- The calls end and place of a log. -/
namespace Go.Proofs.Ythpbcibjohakkaa
set_option maxRecDepth 100000
set_option maxRecDepth 100000
open Go.RowKit
section
variable {w : World} {L d size slot : Nat} {m : Mk} {stamp used count : Nat} {over : Bool}
theorem wend (h : LgAt w L d size slot m stamp used count over) (e : Int) : Calls Try.prog 47 #[.pointer (some ⟨L, 0, none⟩), .int .i64 e] w fun r w' => r = .returned (.int .i64 e) ∧ LgAt w' L d size slot m stamp used count true ∧ w.grownBy w' (some L) := by
  have c9 := h.c9
  have f9 := h.f 9
  have H9 := Lib.hid (show LgAt (w.setCell ⟨L, 9, none⟩ (.bool true)) L d size slot m stamp used count true from blk_set h 9 (.bool true))
  clear h
  go_enter Try.func47, Try.ntmps47
  go_wp2
  go_ret
  exact ⟨rfl, H9.out, grown_setCell _ _ _ _⟩
theorem wplace (h : LgAt w L d size slot m stamp used count over) (hs : size ≤ 16384) (a i : Nat) (ha : a ≤ 1) (hi : i ≤ 65536) : Calls Try.prog 53 #[.pointer (some ⟨L, 0, none⟩), .int .i64 (a : Int), .int .i64 (i : Int)] w fun r w' => r = .returned (.int .i64 ((2 + a * size + i : Nat) : Int)) ∧ w = w' := by
  have c1 := h.c1
  obtain ⟨q, hq⟩ : ∃ q, a * size = q := ⟨_, rfl⟩
  have hqb : q ≤ 16384 := by
    rcases Nat.le_one_iff_eq_zero_or_eq_one.1 ha with e | e <;> subst e <;> omega
  have hq1 : (a : Int) * (size : Int) = (q : Int) := by rw [← hq]; simp
  have hw1 : IntKind.i64.wrap (q : Int) = (q : Int) := by rw [IntKind.wrap_i64]; omega
  have hw2 : IntKind.i64.wrap (2 + (q : Int)) = 2 + (q : Int) := by rw [IntKind.wrap_i64]; omega
  have hw3 : IntKind.i64.wrap (2 + (q : Int) + (i : Int)) = 2 + (q : Int) + (i : Int) := by rw [IntKind.wrap_i64]; omega
  have HE := Lib.hid (show ((2 + q + i : Nat) : Int) = 2 + (q : Int) + (i : Int) by omega)
  rw [hq]
  clear h hq hqb ha hi hs
  go_enter Try.func53, Try.ntmps53
  go_wp2
  go_ret
  exact ⟨congrArg (fun z => Ending.returned (.int .i64 z)) HE.out.symm, rfl⟩
end
end Go.Proofs.Ythpbcibjohakkaa

/- lay: a record's pieces, written one behind the other. -/
namespace Go.Proofs.Ythpbcibjohakkaa
set_option maxRecDepth 100000
set_option maxRecDepth 100000
open Go.RowKit

theorem LgAt.below {w w' : World} {L d size slot : Nat} {m : Mk} {stamp used count : Nat} {over : Bool} (h : LgAt w L d size slot m stamp used count over) (hb : Below w.heap.size w w') : LgAt w' L d size slot m stamp used count over := (hb.block L h.lt).trans h
theorem LgAt.out {w w' : World} {L d size slot : Nat} {m : Mk} {stamp used count : Nat} {over : Bool} {F : Nat → Prop} (h : LgAt w L d size slot m stamp used count over) (ho : Out F w w') (hF : ¬ F L) : LgAt w' L d size slot m stamp used count over := (ho.block L h.lt hF).trans h

theorem run_mid (w : World) (A : Option Addr) (n c f t : Nat) (h1 : f ≤ t) (h2 : t ≤ c) :
    (Instr.slice 33 (.slice A n c) (some (.int .i64 (f : Int))) (some (.int .i64 (t : Int))) none).run Try.prog w = .ok (.slice (if c = f then A else A.map (·.add f)) (t - f) (c - f)) w := by
  obtain ⟨i0, hi, hz0, hz1, hz2⟩ := info_parts info_u8
  rw [run_slice_lh w 33 A n c Try.underlying33 .i64 .i64 (f : Int) (t : Int) (by omega) (by omega) (by omega)]
  rw [show Try.prog.elem 33 = 5 by kernel_rfl]
  have hs : (sizeOf 5).run Try.prog w = .ok 1 w := by simp [sizeOf, typeInfo, hi, hz1]
  rw [hs]
  simp only [sliced, Result.andThen_ok, Int.toNat_natCast, Nat.mul_one]

/-- What a call on a log leaves that writes: the code; the disk; the log; what was there. -/
def Laid (F : Nat → Prop) (w : World) (d L : Nat) (R : St × Int) (size slot : Nat) (m : Mk) (stamp used count : Nat) (over : Bool) (e : Ending) (w' : World) : Prop :=
  e = .returned (.int .i64 R.2) ∧ PD (Gr F w) w' d R.1 ∧ LgAt w' L d size slot m stamp used count over ∧ Out (fun k => F k ∨ k = L) w w'

set_option maxHeartbeats 8000000 in
theorem wlay {F : Nat → Prop} {w : World} {d L size slot : Nat} {m : Mk} {stamp used count : Nat} {over : Bool} {S : St} (h : PD F w d S) (lg : LgAt w L d size slot m stamp used count over) (hL : ¬ F L)
    (A : Option Addr) (n c : Nat) (zs : List Int) (hr : RB w A n zs) (hA : ∀ ad, A = some ad → 0 < n → ¬ F ad.block) (hn : n ≤ c) (hc : c ≤ 9223372036854775807) (hn2 : n ≤ 65536) (a at_ : Nat) (ha : a ≤ 1) (hat : at_ ≤ 16384) (hsz : size ≤ 16384) (hst : stamp < maxSt) (hp : S.pend.length ≤ 1000000) :
    Calls Try.prog 46 #[.pointer (some ⟨L, 0, none⟩), .slice A n c, .int .i64 (a : Int), .int .i64 (at_ : Int)] w
      (Laid F w d L (runWS S (layW zs (stamp + 1) size a at_)) size slot m (stamp + 1) used count over) := by
  obtain ⟨s1, hs⟩ : ∃ s1, stamp + 1 = s1 := ⟨_, rfl⟩
  rw [hs]
  have hs2 : s1 ≤ maxSt := by omega
  have hzn := hr.len
  have hnb : nblocks n ≤ 1639 := nblocks_le n 1639 (by omega) (by omega)
  have NB := Lib.hid fun W => wblocksN n W (by omega)
  have c6 := lg.c6
  have f6 := lg.f 6
  have hs1 : (stamp : Int) + 1 ≤ 9223372036854775807 := by unfold maxSt at hst; omega
  have HST := Lib.hid hs2
  have LG1 := Lib.hid (lg.setStamp s1)
  have HD := Lib.hid (h.out (w' := w.setCell ⟨L, 6, none⟩ (.int .u64 (s1 : Int))) (G := fun k => k = L) ((Out.refl (fun k => k = L) w).setCell (p := ⟨L, 6, none⟩) (.inl rfl) _) (fun k _ hf he => hL (he ▸ hf)))
  have HO := Lib.hid ((Out.refl (fun k => F k ∨ k = L) w).setCell (p := ⟨L, 6, none⟩) (.inl (.inr rfl)) (.int .u64 (s1 : Int)))
  have HR := Lib.hid (((Out.refl (fun k => k = L) w).setCell (p := ⟨L, 6, none⟩) (.inl rfl) (.int .u64 (s1 : Int))).rb hr (fun ad e h0 => lg.farB hr ad e h0))
  have HFR := Lib.hid (fun ad (e : A = some ad) (h0 : 0 < n) => show ¬ F ad.block ∧ ad.block < w.heap.size from ⟨hA ad e h0, by
    obtain ⟨ad', e', hcell⟩ := hr.cell h0
    rw [e] at e'
    injection e' with e'
    subst e'
    have := World.block_lt_of_cell? w _ (hcell 0 h0)
    rwa [block_add] at this⟩)
  have HL := Lib.hid hL
  have HLT := Lib.hid lg.lt
  have HZN := Lib.hid hzn
  have HNB := Lib.hid hnb
  have HP := Lib.hid hp
  have e1 : (stamp : Int) + 1 = (s1 : Int) := by omega
  have E1 := Lib.hid e1
  clear h hr hA hL hst hzn hnb hp e1 hs hs2
  go_enter Try.func46, Try.ntmps46
  go_wp2_with (go_at_call 28; refine (NB.out _).mono ?_; rintro e w1 ⟨rfl, rfl⟩)
  clear c6 f6 NB
  rw [E1.out]
  clear hs1 lg
  generalize hW : w.setCell ⟨L, 6, none⟩ (.int .u64 (s1 : Int)) = W0 at LG1 HD HO HR
  generalize hLW : layW zs s1 size a at_ = LW
  have LWl := Lib.hid (show LW.length = nblocks n by rw [← hLW, layW_len, HZN.out])
  have LWg := Lib.hid (fun k (hk : k < nblocks n) => show LW.getD k (0, []) = (2 + a * size + (at_ + k), blockOf (pieceB ⟨s1, n, k, (zs.drop (k * 40)).take (min (k * 40 + 40) n - k * 40)⟩)) by
    rw [← hLW, layW_get _ _ _ _ _ _ (by rw [HZN.out]; exact hk), HZN.out])
  have HLW := Lib.hid hLW
  clear hLW hW
  go_loopw [24] (fun i wr => ∃ k : Nat, i = .int .i64 k ∧ k ≤ nblocks n ∧ Hid ((runW S (LW.take k)).2 = 0 ∧ (runW S (LW.take k)).1.pend.length ≤ S.pend.length + k) ∧ Hid (PD (Gr F w) wr d (runW S (LW.take k)).1) ∧ Hid (LgAt wr L d size slot m s1 used count over) ∧ Hid (Out (fun k => F k ∨ k = L) w wr) ∧ Hid (RB wr A n zs)) (fun i _ => nblocks n - (intOf i).toNat)
  case atStart => exact ⟨0, rfl, by omega, Lib.hid ⟨rfl, by simp [runW]⟩, Lib.hid (HD.out.mono fun _ _ h => .inl h), LG1, HO, HR⟩
  case round =>
    obtain ⟨k, rfl, hk, HK, HPD, HLG, HOU, HRB⟩ := hrel
    have hnb := HNB.out
    by_cases hlt : k < nblocks n
    · obtain ⟨f, hf⟩ : ∃ f, k * 40 = f := ⟨_, rfl⟩
      obtain ⟨t, ht⟩ : ∃ t, min (f + 40) n = t := ⟨_, rfl⟩
      have hfn : f ≤ n := by rw [← hf]; exact nblocks_lt n k hlt
      have hft : f ≤ t := by omega
      have htn : t ≤ n := by omega
      have ht40 : t - f ≤ 40 := by omega
      have BD := Lib.hid fun W => show Calls Try.prog 60 #[.int .i64 (k : Int), .int .i64 (n : Int)] W fun e w' => e = .returned (.tuple #[.int .i64 (f : Int), .int .i64 (t : Int)]) ∧ W = w' by
        have := wbounds k n W (by omega) hn2
        rw [hf, ht] at this
        exact this
      have HG := Lib.hid (show LW.getD k (0, []) = (2 + a * size + (at_ + k), blockOf (pieceB ⟨s1, n, k, (zs.drop f).take (t - f)⟩)) by
        have := LWg.out k hlt
        rw [hf, ht] at this
        exact this)
      have HMID := Lib.hid (HRB.out.mid f t hft htn hn)
      have c6 := HLG.out.c6
      have HF := Lib.hid (show n = 0 ∨ f < n by
        rcases Nat.eq_zero_or_pos n with h0 | h0
        · exact .inl h0
        · right; rw [← hf]; unfold nblocks at hlt; split at hlt <;> omega)
      clear hf ht
      obtain ⟨A', hA'⟩ : ∃ A', (if c = f then A else A.map (·.add f)) = A' := ⟨_, rfl⟩
      rw [hA'] at HMID
      have B : Below wr.heap.size wr wr.drew := (Below.refl _ _).drew
      have hsl : ∀ W, (Instr.slice 33 (.slice A n c) (some (.int .i64 (f : Int))) (some (.int .i64 (t : Int))) none).run Try.prog W = .ok (.slice A' (t - f) (c - f)) W := fun W => by rw [run_mid W A n c f t hft (by omega), hA']
      go_upto_region 6 with (go_at_call 60; refine (BD.out _).mono ?_; rintro e w2 ⟨rfl, rfl⟩)
      clear BD
      go_region_held3 (fun w' => w'.cell? ⟨L, 6, none⟩ = some (.int .u64 (s1 : Int))) (first | exact c6 | exact keep_below c6 B | exact keep_below c6 (B.alloc B.size _)) (fail)
      have hr0 : (wr.alloc (.cells #[.int .u64 (s1 : Int), .int .i64 (n : Int), .int .i64 (k : Int), .slice A' (t - f) (c - f)] 86)).heap[wr.heap.size]? = some (.cells #[.int .u64 (s1 : Int), .int .i64 (n : Int), .int .i64 (k : Int), .slice A' (t - f) (c - f)] 86 (0, 0)) := heap_alloc_new wr _
      generalize hW1 : (wr.alloc (.cells #[.int .u64 (s1 : Int), .int .i64 (n : Int), .int .i64 (k : Int), .slice A' (t - f) (c - f)] 86)).drew = W1
      have B1 : Below wr.heap.size wr W1 := by rw [← hW1]; exact ((Below.refl _ _).alloc (Nat.le_refl _) _).drew
      have hr1 : W1.heap[wr.heap.size]? = some (.cells #[.int .u64 (s1 : Int), .int .i64 (n : Int), .int .i64 (k : Int), .slice A' (t - f) (c - f)] 86 (0, 0)) := by rw [← hW1]; exact hr0
      have hz1 : wr.heap.size < W1.heap.size := by rw [← hW1]; simp
      have p0 : W1.cell? ⟨wr.heap.size, 0, none⟩ = some (.int .u64 (s1 : Int)) := by rw [cell_of_row _ _ _ _ _ _ hr1]; rfl
      have p1 : W1.cell? ⟨wr.heap.size, 1, none⟩ = some (.int .i64 (n : Int)) := by rw [cell_of_row _ _ _ _ _ _ hr1]; rfl
      have p2 : W1.cell? ⟨wr.heap.size, 2, none⟩ = some (.int .i64 (k : Int)) := by rw [cell_of_row _ _ _ _ _ _ hr1]; rfl
      have p3 : W1.cell? ⟨wr.heap.size, 3, none⟩ = some (.slice A' (t - f) (c - f)) := by rw [cell_of_row _ _ _ _ _ _ hr1]; rfl
      have LG := HLG.out.below B1
      have c0 := LG.c0
      have HPD2 := Lib.hid (HPD.out.shut.below B1)
      have HRB2 := Lib.hid (HMID.out.below' B1)
      clear hr0 hW1 hr1 c6 hsl B hA'
      have B : Below W1.heap.size W1 W1.drew := (Below.refl _ _).drew
      obtain ⟨pp, hpp⟩ : ∃ pp, 2 + a * size + (at_ + k) = pp := ⟨_, rfl⟩
      have PL := Lib.hid fun W (hlg : LgAt W L d size slot m s1 used count over) => show Calls Try.prog 53 #[.pointer (some ⟨L, 0, none⟩), .int .i64 (a : Int), .int .i64 ((at_ : Int) + (k : Int))] W fun r w' => r = .returned (.int .i64 (pp : Int)) ∧ W = w' by
        have := wplace hlg hsz a (at_ + k) ha (by omega)
        rw [hpp, Int.natCast_add] at this
        exact this
      have q0 : IntKind.i64.wrap ((at_ : Int) + (k : Int)) = (at_ : Int) + (k : Int) := IntWalk.i64_in _ (by omega)
      have hch : ((zs.drop f).take (t - f)).length = t - f := HMID.out.len
      obtain ⟨Z, hZ⟩ : ∃ Z, pieceB ⟨s1, n, k, (zs.drop f).take (t - f)⟩ = Z := ⟨_, rfl⟩
      have hZl : Z.length ≤ 56 := by
        rw [← hZ]; exact pieceB_len _ HST.out hn2 (by simp only; omega) (by simp only; omega)
      have HZL := Lib.hid hZl
      have CT := Lib.hid fun W (hrb : RB W A' (t - f) ((zs.drop f).take (t - f))) => show Calls Try.prog 61 #[.agg #[.int .u64 (s1 : Int), .int .i64 (n : Int), .int .i64 (k : Int), .slice A' (t - f) (c - f)]] W (MadeB W Z) by
        rw [← hZ]; exact wpieceContent ⟨s1, n, k, (zs.drop f).take (t - f)⟩ A' (t - f) (c - f) W hrb ht40 HST.out hn2 (by simp only; omega)
      rw [hpp, hZ] at HG
      have HPL := Lib.hid (show (runW S (LW.take k)).1.pend.length < 2199023255552 by have := HK.out.2; have := HP.out; omega)
      have nL : ¬ ((fun j => Gr F w j ∧ j < wr.heap.size) L) := fun hh => by
        rcases hh.1 with h1 | h1
        · exact HL.out h1
        · exact absurd HLT.out (by omega)
      have nP : ¬ ((fun j => Gr F w j ∧ j < wr.heap.size) wr.heap.size) := fun hh => absurd hh.2 (by omega)
      have NL := Lib.hid nL
      have NP := Lib.hid nP
      have LGH := Lib.hid LG
      clear hpp hch hZ hZl nL nP LG
      go_wp2
      go_region_held3 (fun w' => w'.cell? ⟨L, 0, none⟩ = some (.pointer (some ⟨d, 0, none⟩)) ∧ w'.cell? ⟨wr.heap.size, 0, none⟩ = some (.int .u64 (s1 : Int)) ∧ w'.cell? ⟨wr.heap.size, 1, none⟩ = some (.int .i64 (n : Int)) ∧ w'.cell? ⟨wr.heap.size, 2, none⟩ = some (.int .i64 (k : Int)) ∧ w'.cell? ⟨wr.heap.size, 3, none⟩ = some (.slice A' (t - f) (c - f)))
        (first | exact ⟨c0, p0, p1, p2, p3⟩ | exact ⟨keep_below c0 B, keep_below p0 B, keep_below p1 B, keep_below p2 B, keep_below p3 B⟩ | exact KK)
        (first
          | (go_at_call 53; refine (PL.out _ (LGH.out.below B)).mono ?_; rintro e w9 ⟨rfl, rfl⟩)
          | (go_at_call 61; refine (CT.out _ (HRB2.out.below' B)).mono ?_; intro e w9 hm; obtain ⟨v9, rfl, ob9, hb9⟩ := hm; obtain ⟨A9, c9, rfl, hr9, -, -⟩ := ob9.form; replace B := below_next B hb9; clear hb9 ob9)
          | (go_at_call 56; refine (wwriteBlock (HPD2.out.below B) pp _ _ _ Z hr9 HZL.out HPL.out).mono ?_; rintro e w9 ⟨rfl, hpd, hout⟩; have KK := (⟨hout.cell (keep_below c0 B) NL.out, hout.cell (keep_below p0 B) NP.out, hout.cell (keep_below p1 B) NP.out, hout.cell (keep_below p2 B) NP.out, hout.cell (keep_below p3 B) NP.out⟩ : w9.cell? ⟨L, 0, none⟩ = some (.pointer (some ⟨d, 0, none⟩)) ∧ w9.cell? ⟨wr.heap.size, 0, none⟩ = some (.int .u64 (s1 : Int)) ∧ w9.cell? ⟨wr.heap.size, 1, none⟩ = some (.int .i64 (n : Int)) ∧ w9.cell? ⟨wr.heap.size, 2, none⟩ = some (.int .i64 (k : Int)) ∧ w9.cell? ⟨wr.heap.size, 3, none⟩ = some (.slice A' (t - f) (c - f)))))
      have HZ1 := Lib.hid (show w.heap.size ≤ wr.heap.size from HOU.out.size)
      have HS1 : Hid (runW S (LW.take (k + 1)) = (writeS (runW S (LW.take k)).1 (pp : Int) (blockOf Z), writeE (runW S (LW.take k)).1 (pp : Int) 64)) := Lib.hid (by
        rw [runW_take S LW k (by rw [LWl.out]; exact hlt) HK.out.1, HG.out])
      have HPe : Hid ((writeS (runW S (LW.take k)).1 (pp : Int) (blockOf Z)).pend.length ≤ S.pend.length + (k + 1)) := Lib.hid (by
        have := writeS_pend (runW S (LW.take k)).1 (pp : Int) (blockOf Z)
        have := HK.out.2
        omega)
      have BB := Lib.hid (below_next B1 B)
      have PD9 := Lib.hid (hpd.mono (F' := Gr F w) fun j _ hj => by
        rcases hj with hj | hj
        · exact hj.1
        · right; have := BB.out.size; have := HZ1.out; omega)
      have LG9 := Lib.hid ((LGH.out.below B).out hout NL.out)
      have OU9 := Lib.hid ((HOU.out.then (Out.of_below BB.out _)).trans hout (fun i hi hj => by
        rcases hj.1 with h1 | h1
        · exact .inl h1
        · omega))
      have RB9 := Lib.hid (hout.rb (HRB.out.below' BB.out) (fun ad e h0 hj => by
        have h1 := HFR.out ad e h0
        rcases hj.1 with h2 | h2
        · exact h1.1 h2
        · have := h1.2; omega))
      clear hpd hout KK hr9 B c0 p0 p1 p2 p3 hz1 B1 q0
      obtain ⟨ec, hec⟩ : ∃ ec, writeE (runW S (LW.take k)).1 (pp : Int) 64 = ec := ⟨_, rfl⟩
      rw [hec] at HS1 ⊢
      clear hec
      by_cases h0 : ec = 0
      · subst h0
        go_wp2
        go_roundw
        case rel => exact ⟨k + 1, by go_num, by omega, Lib.hid (by rw [HS1.out]; exact ⟨rfl, HPe.out⟩), Lib.hid (by rw [HS1.out]; exact PD9.out), LG9, OU9, RB9⟩
        case measure => simp [intOf]; omega
      · have hne : (ec != 0) = true := by simpa using h0
        have HE : Hid (runWS S LW = (writeS (runW S (LW.take k)).1 (pp : Int) (blockOf Z), ec)) := Lib.hid (by
          unfold runWS
          rw [runW_stop S LW (k + 1) (by rw [HS1.out]; exact h0), HS1.out, if_neg h0])
        clear h0
        go_wp2
        go_ret
        unfold Laid
        try rw [HLW.out]
        rw [HE.out]
        exact ⟨rfl, PD9.out, LG9.out, OU9.out⟩
    · obtain rfl : k = nblocks n := by omega
      have HT := Lib.hid (show LW.take (nblocks n) = LW from List.take_of_length_le (by rw [LWl.out]; omega))
      rw [HT.out] at HK HPD
      have c0 := HLG.out.c0
      have DS := Lib.hid (dsync HPD.out.shut (by have := HK.out.2; have := HP.out; omega))
      have NL := Lib.hid (show ¬ (Gr F w L ∧ L < wr.heap.size) from fun hh => by
        rcases hh.1 with h1 | h1
        · exact HL.out h1
        · exact absurd HLT.out (by omega))
      go_wp2_with (go_at_call 54; refine DS.out.mono ?_; rintro e w9 ⟨rfl, hpd, hout⟩)
      go_ret
      unfold Laid runWS
      try rw [HLW.out]
      rw [if_pos HK.out.1]
      refine ⟨rfl, hpd.mono fun j _ hj => ?_, HLG.out.out hout NL.out, HOU.out.trans hout fun i hi hj => ?_⟩
      · rcases hj with hj | hj
        · exact hj.1
        · right; have := HOU.out.size; omega
      · rcases hj.1 with h1 | h1
        · exact .inl h1
        · omega
end Go.Proofs.Ythpbcibjohakkaa
