/- The walk of LockFirst: of two with one snapshot that both want a row, one takes it, whatever comes between. -/
import Derived.Test.YtghnafknbgmagaaLkLaw
namespace Go.Proofs.Ytghnafknbgmagaa
set_option maxRecDepth 100000
set_option maxRecDepth 100000
open Go.RowKit Go.Maps Go.ChangeMaps Go.MapKept

/-- A transaction 1 holds this lock, and no other. -/
structure InvF (hs : List Hd) (l : Lk) : Prop where
  has : (l, 1) ∈ hs
  no1 : ∀ x ∈ hs, x.2 = 1 → x.1 = l
theorem InvF.start (l : Lk) : InvF [(l, 1)] l := ⟨by simp, fun x hx _ => by rw [List.mem_singleton.1 hx]⟩
theorem InvF.release {hs : List Hd} {l : Lk} (h : InvF hs l) {tx : Int} (ht : 2 < tx) : InvF (releaseP hs tx) l := by
  unfold releaseP
  exact ⟨List.mem_filter.2 ⟨h.has, by simp; omega⟩, fun x hx => h.no1 x (List.mem_filter.1 hx).1⟩
theorem InvF.take {most : Int} {hs : List Hd} {l : Lk} (h : InvF hs l) {tx : Int} (ht : 2 < tx) (snap last : Int) (k : Lk) : InvF (takeP most hs tx snap last k).2 l := by
  unfold takeP
  split
  · exact h
  · split
    · split <;> exact h
    · split
      · exact h
      · split
        · exact h
        · refine ⟨List.mem_append.2 (.inl h.has), fun x hx e => ?_⟩
          rcases List.mem_append.1 hx with hx | hx
          · exact h.no1 x hx e
          · rw [List.mem_singleton.1 hx] at e; simp at e; omega
theorem InvF.holds {hs : List Hd} {l : Lk} (h : InvF hs l) (ho : Once hs) : holderP hs l = some 1 := (holder_some ho).2 h.has
theorem InvF.second {most : Int} {hs : List Hd} {l : Lk} (h : InvF hs l) (ho : Once hs) {sn : Int} (h0 : 0 ≤ sn) : takeP most hs 2 sn sn l = (80, hs) := by
  unfold takeP
  rw [if_neg (by omega), h.holds ho]
  simp
theorem first_take {sn : Int} (h0 : 0 ≤ sn) (l : Lk) : takeP 4096 [] 1 sn sn l = (0, [(l, 1)]) := by
  unfold takeP
  rw [if_neg (by omega)]
  simp [holderP]
theorem InvF.but {hs : List Hd} {l : Lk} (h : InvF hs l) (ho : Once hs) : releaseP hs 1 = hs.filter fun x => !decide (x.1 = l) := by
  unfold releaseP
  refine List.filter_congr fun x hx => ?_
  have : x.2 = 1 ↔ x.1 = l := ⟨h.no1 x hx, fun e => by rw [ho.eq hx h.has e]⟩
  simp [this]
theorem InvF.len {hs : List Hd} {l : Lk} (h : InvF hs l) (ho : Once hs) : (hs.length : Int) - ((releaseP hs 1).length : Int) = 1 := by
  rw [h.but ho]
  have := but_len ho h.has
  omega
theorem InvF.none {hs : List Hd} {l : Lk} (h : InvF hs l) (ho : Once hs) : holderP (releaseP hs 1) l = none := by
  rw [h.but ho, holder_but, if_pos rfl]
theorem InvF.late {most : Int} {hs : List Hd} {l : Lk} (h : InvF hs l) (ho : Once hs) {sn : Int} (h0 : 0 ≤ sn) : takeP most (releaseP hs 1) 2 sn (sn + 1) l = (81, releaseP hs 1) := by
  unfold takeP
  rw [if_neg (by omega), h.none ho]
  simp only
  rw [if_pos (by omega)]
theorem InvF.takes {hs : List Hd} {l : Lk} (h : InvF hs l) (ho : Once hs) (hl : (hs.length : Int) ≤ 4096) {sn : Int} (h0 : 0 ≤ sn) : takeP 4096 (releaseP hs 1) 2 (sn + 1) (sn + 1) l = (0, releaseP hs 1 ++ [(l, 2)]) := by
  unfold takeP
  rw [if_neg (by omega), h.none ho]
  simp only
  rw [if_neg (by omega), if_neg (by have := h.len ho; omega)]
theorem below_outR {w0 w w' : World} {r : Nat} (h : Below w0.heap.size w0 w) (hr : w0.heap.size ≤ r) (g : Out (fun k => k = r) w w') : Below w0.heap.size w0 w' := h.trans (g.below h.size fun i hi e => by omega)

set_option maxHeartbeats 16000000 in
theorem walk_LockFirst (sn : Int) (l : Lk) (A1 : Option Addr) (n1 c1 : Nat) (z1 : List OpK) (w : World) (hsn : -9223372036854775808 ≤ sn ∧ sn ≤ 9223372036854775807) (hl : Sz l) (h1 : RK w A1 n1 z1) (hn1 : n1 ≤ c1) (hc1 : c1 ≤ maxLen) :
    Calls Try.prog 5 #[.int .i64 sn, .agg #[.string l.1, .string l.2], .slice A1 n1 c1] w fun e w' => e = .returned (.bool true) ∧ Below w.heap.size w w' := by
  obtain ⟨lt, lk⟩ := l
  dsimp only
  have CB := Lib.hid (fun W => wbegun8 W)
  have CN := Lib.hid (fun W => wkNew (w := W) (most := 4096) (by omega))
  have CT := Lib.hid (fun W m r hs (M : MG W m r 4096 hs) tx sn la (ht : (Lit.int .i64 tx).wf = true) => wkTake M hl tx sn la ht)
  unfold lkV at CT
  dsimp only at CT
  obtain ⟨W, hW⟩ : ∃ W, w.alloc (.cells #[.string lt, .string lk] 34) = W := ⟨_, rfl⟩
  have HW := Lib.hid hW
  have HB := Lib.hid (show Below w.heap.size w W by rw [← hW]; exact (Below.refl _ _).alloc (Nat.le_refl _) _)
  have q0 : W.heap[w.heap.size]? = some (.cells #[.string lt, .string lk] 34 (0, 0)) := by rw [← hW]; exact heap_alloc_new _ _
  have Q0 := Lib.hid q0
  have HWZ := Lib.hid (show w.heap.size < W.heap.size from (Array.getElem?_eq_some_iff.1 q0).1)
  have H1 := Lib.hid (h1.below HB.out)
  have HC := Lib.hid (show n1 ≤ 9223372036854775807 by simp only [maxLen] at hc1; omega)
  have HL := Lib.hid hl
  obtain ⟨sn1, sn2⟩ := hsn
  clear hW q0 h1 hl
  go_enter Try.func5, Try.ntmps5
  go_upto_region 1 with fail
  rw [HW.out]
  go_upto_region 6 with (first
    | (go_at_call 10; go_loud (refine (CB.out _).mono ?_; rintro e w2 ⟨rfl, b2⟩; have B2 := Lib.hid b2; clear b2))
    | (go_at_call 8; go_loud (refine (CN.out _).mono ?_; rintro e w3 ⟨rfl, m3, b3⟩; have M3 := Lib.hid m3; have B3 := Lib.hid (below_next B2.out b3); clear b3 m3)))
  obtain ⟨r, hr⟩ : ∃ r, w2.heap.size = r := ⟨_, rfl⟩
  obtain ⟨m, hm⟩ : ∃ m, r + 1 = m := ⟨_, rfl⟩
  have hrl : W.heap.size ≤ r := by have := B2.out.size; omega
  rw [hr] at M3
  rw [hm] at M3
  rw [hr, hm]
  have HRL := Lib.hid hrl
  have PW := Lib.hid (show w.heap.size ≠ r by have := HWZ.out; omega)
  have q3 : w3.heap[w.heap.size]? = some (.cells #[.string lt, .string lk] 34 (0, 0)) := (B3.out.block _ HWZ.out).trans Q0.out
  have p0 : w3.cell? ⟨w.heap.size, 0, none⟩ = some (.string lt) := cell_of_row _ _ 0 _ _ _ q3
  have p1 : w3.cell? ⟨w.heap.size, 1, none⟩ = some (.string lk) := cell_of_row _ _ 1 _ _ _ q3
  clear hr hm hrl q3
  by_cases hs0 : sn < 0
  · have C1 := Lib.hid (CT.out _ _ _ _ M3.out 1 sn 0 (by decide))
    rw [show takeP 4096 [] 1 sn 0 (lt, lk) = (1, []) by unfold takeP; rw [if_pos (by omega)]] at C1
    clear CT
    go_wp2_with (go_at_call 12; go_loud (refine C1.out.mono ?_; rintro e w4 ⟨rfl, m4, o4⟩; have B4 := Lib.hid (below_outR B3.out HRL.out o4); clear m4 o4))
    go_ret
    exact ⟨rfl, below_next HB.out B4.out⟩
  · by_cases hs1 : 4611686018427387904 < sn
    · have C1 := Lib.hid (CT.out _ _ _ _ M3.out 1 sn 0 (by decide))
      obtain ⟨q, hq⟩ : ∃ q, (takeP 4096 [] 1 sn 0 (lt, lk)).1 = q := ⟨_, rfl⟩
      rw [hq] at C1
      have i0 : 0 < sn := by omega
      clear CT hq
      by_cases h1q : q = 1
      · subst h1q
        go_wp2_with (go_at_call 12; go_loud (refine C1.out.mono ?_; rintro e w4 ⟨rfl, m4, o4⟩; have B4 := Lib.hid (below_outR B3.out HRL.out o4); clear m4 o4))
        go_ret
        exact ⟨rfl, below_next HB.out B4.out⟩
      · go_wp2_with (go_at_call 12; go_loud (refine C1.out.mono ?_; rintro e w4 ⟨rfl, m4, o4⟩; have B4 := Lib.hid (below_outR B3.out HRL.out o4); clear m4 o4))
        go_ret
        exact ⟨by simp, below_next HB.out B4.out⟩
    · have h0 : 0 ≤ sn := by omega
      have C1 := Lib.hid (CT.out _ _ _ _ M3.out 1 sn sn (by decide))
      rw [first_take h0] at C1
      have C2 := Lib.hid (fun W hs (M : MG W m r 4096 hs) (I : InvF hs (lt, lk)) => CT.out _ _ _ _ M 2 sn sn (by decide))
      have T2 := Lib.hid (fun W hs (M : MG W m r 4096 hs) (I : InvF hs (lt, lk)) => InvF.second (most := 4096) I M.map.once h0)
      go_upto_region 10 with (first
        | (go_at_call_of 12 (Value.int .i64 1); go_loud (refine C1.out.mono ?_; rintro e w4 ⟨rfl, m4, o4⟩; have M4 := Lib.hid m4; have B4 := Lib.hid (below_outR B3.out HRL.out o4); have p0' := o4.cell p0 PW.out; have p1' := o4.cell p1 PW.out; clear m4 o4))
        | (go_at_call_of 12 (Value.int .i64 2); go_loud (have CC := C2.out _ _ M4.out (InvF.start _); rw [T2.out _ _ M4.out (InvF.start _)] at CC; refine CC.mono ?_; rintro e w5 ⟨rfl, m5, o5⟩; have M5 := Lib.hid m5; have B5 := Lib.hid (below_outR B4.out HRL.out o5); have p0'' := o5.cell p0' PW.out; have p1'' := o5.cell p1' PW.out; clear m5 o5 CC)))
      have S5 := Lib.hid (And.intro p0'' p1'')
      clear p0 p1 p0' p1' p0'' p1'' C1 B4 M4
      go_upto_region 11 with fail
      go_loopw [50] (fun i wr => ∃ (j : Nat) (hs : List Hd), i = .int .i64 (j : Nat) ∧ j ≤ n1 ∧ MG wr m r 4096 hs ∧ InvF hs (lt, lk) ∧ Below W.heap.size W wr ∧ (wr.cell? ⟨w.heap.size, 0, none⟩ = some (.string lt) ∧ wr.cell? ⟨w.heap.size, 1, none⟩ = some (.string lk))) (fun i _ => n1 - (intOf i).toNat)
      case atStart => exact ⟨0, _, rfl, Nat.zero_le _, M5.out, InvF.start _, B5.out, S5.out⟩
      case round =>
        rename World => wr
        clear M5 B5 S5
        obtain ⟨j, hs, rfl, hj, hM, hI, hB, p0, p1⟩ := hrel
        have HM := Lib.hid hM
        have HI := Lib.hid hI
        by_cases hlt : j < n1
        · obtain ⟨x, hx⟩ : ∃ x, z1[j]? = some x := ⟨_, List.getElem?_eq_getElem (by have := H1.out.len; omega)⟩
          have HO := Lib.hid (H1.out.is x (List.mem_of_getElem? hx))
          obtain ⟨ab, ao, rfl, q0, q1, q2, q3, q4, q5, q6⟩ := (H1.out.below hB).at_ hx
          have SZ := Lib.hid (show Sz x.at_ from HO.out.sz)
          have WF := Lib.hid (wf_of HO.out.rt)
          obtain ⟨kind, tx, snap, last, ⟨tb, ky⟩, hi⟩ := x
          dsimp only at q0 q1 q2 q3 q4 q5 q6 SZ WF
          have i1 : (j : Int) < (n1 : Int) := by omega
          have jb : (j : Int) < 9223372036854775807 := by have := HC.out; omega
          have HLT := Lib.hid hlt
          obtain ⟨Y, hY⟩ : ∃ Y, wr.alloc (.cells #[.int .i64 kind, .int .i64 tx, .int .i64 snap, .int .i64 last, .string tb, .string ky, .string hi] 36) = Y := ⟨_, rfl⟩
          have HY := Lib.hid hY
          have rY := heap_alloc_new wr (.cells #[.int .i64 kind, .int .i64 tx, .int .i64 snap, .int .i64 last, .string tb, .string ky, .string hi] 36)
          rw [hY] at rY
          have gY : Below wr.heap.size wr Y := by rw [← hY]; exact (Below.refl _ _).alloc (Nat.le_refl _) _
          have y0 : Y.cell? ⟨wr.heap.size, 0, none⟩ = some (.int .i64 kind) := cell_of_row _ _ 0 _ _ _ rY
          have y1 : Y.cell? ⟨wr.heap.size, 1, none⟩ = some (.int .i64 tx) := cell_of_row _ _ 1 _ _ _ rY
          have y2 : Y.cell? ⟨wr.heap.size, 2, none⟩ = some (.int .i64 snap) := cell_of_row _ _ 2 _ _ _ rY
          have y3 : Y.cell? ⟨wr.heap.size, 3, none⟩ = some (.int .i64 last) := cell_of_row _ _ 3 _ _ _ rY
          have y4 : Y.cell? ⟨wr.heap.size, 4, none⟩ = some (.string tb) := cell_of_row _ _ 4 _ _ _ rY
          have y5 : Y.cell? ⟨wr.heap.size, 5, none⟩ = some (.string ky) := cell_of_row _ _ 5 _ _ _ rY
          have z0 := keep_below p0 gY
          have z1' := keep_below p1 gY
          have ZZ := Lib.hid (And.intro z0 z1')
          have MY := Lib.hid (hM.below gY)
          have BY := Lib.hid (below_next hB gY)
          have NR := Lib.hid (show wr.heap.size ≠ r by have := hM.map.lt; omega)
          have hne := fun W => neqLk W tb ky lt lk
          obtain ⟨nq, hnq⟩ : ∃ q, lkEq (tb, ky) (lt, lk) = q := ⟨_, rfl⟩
          simp only [hnq] at hne
          have CK := Lib.hid (wkTake MY.out SZ.out tx snap last WF.out)
          unfold lkV at CK
          dsimp only at CK
          have CR := Lib.hid (fun W hs (M : MG W m r 4096 hs) => wkRelease M tx)
          clear hx hM hI rY gY hlt hY p0 p1 hnq hB
          go_upto_region 13 with fail
          rw [HY.out]
          clear q0 q1 q2 q3 q4 q5 q6
          by_cases hk0 : kind = 0
          · subst hk0
            by_cases ht : 2 < tx
            · cases nq
              · go_wp2_with (go_at_call 12; go_loud (refine CK.out.mono ?_; rintro e w7 ⟨rfl, m7, o7⟩; have M7 := Lib.hid m7; have B7 := Lib.hid (below_outR BY.out HRL.out o7); have S7 := Lib.hid (And.intro (o7.cell ZZ.out.1 PW.out) (o7.cell ZZ.out.2 PW.out)); have x0 := o7.cell y0 NR.out; clear m7 o7))
                go_roundw
                case rel => exact ⟨j + 1, _, by go_num, HLT.out, M7.out, HI.out.take (by assumption) _ _ _, B7.out, S7.out⟩
                case measure => have := HLT.out; simp [intOf]; omega
              · go_wp2
                go_roundw
                case rel => exact ⟨j + 1, _, by go_num, HLT.out, MY.out, HI.out, BY.out, ZZ.out⟩
                case measure => have := HLT.out; simp [intOf]; omega
            · go_wp2
              go_roundw
              case rel => exact ⟨j + 1, _, by go_num, HLT.out, MY.out, HI.out, BY.out, ZZ.out⟩
              case measure => have := HLT.out; simp [intOf]; omega
          · have hk0' : (kind == 0) = false := by simpa using hk0
            by_cases hk4 : kind = 4
            · subst hk4
              clear hk0 hk0'
              by_cases ht : 2 < tx
              · go_wp2_with (go_at_call 13; go_loud (refine (CR.out _ _ MY.out).mono ?_; rintro e w7 ⟨rfl, m7, o7⟩; have M7 := Lib.hid m7; have B7 := Lib.hid (below_outR BY.out HRL.out o7); have S7 := Lib.hid (And.intro (o7.cell ZZ.out.1 PW.out) (o7.cell ZZ.out.2 PW.out)); clear m7 o7))
                go_roundw
                case rel => exact ⟨j + 1, _, by go_num, HLT.out, M7.out, HI.out.release (by assumption), B7.out, S7.out⟩
                case measure => have := HLT.out; simp [intOf]; omega
              · go_wp2
                go_roundw
                case rel => exact ⟨j + 1, _, by go_num, HLT.out, MY.out, HI.out, BY.out, ZZ.out⟩
                case measure => have := HLT.out; simp [intOf]; omega
            · have hk4' : (kind == 4) = false := by simpa using hk4
              clear hk0 hk4
              go_wp2
              go_roundw
              case rel => exact ⟨j + 1, _, by go_num, HLT.out, MY.out, HI.out, BY.out, ZZ.out⟩
              case measure => have := HLT.out; simp [intOf]; omega
        · obtain rfl : j = n1 := by omega
          have i1 : ¬ (j : Int) < (j : Int) := by omega
          have CE := C2.out _ _ HM.out HI.out
          rw [T2.out _ _ HM.out HI.out] at CE
          have C5 := Lib.hid CE
          have CL := Lib.hid (fun W (M : MG W m r 4096 hs) => wkRelease M 1)
          rw [HI.out.len HM.out.map.once] at CL
          have C6 := Lib.hid (fun W (M : MG W m r 4096 (releaseP hs 1)) => CT.out _ _ _ _ M 2 sn (sn + 1) (by decide))
          rw [HI.out.late HM.out.map.once h0] at C6
          have C7 := Lib.hid (fun W (M : MG W m r 4096 (releaseP hs 1)) => CT.out _ _ _ _ M 2 (sn + 1) (sn + 1) (by decide))
          rw [HI.out.takes HM.out.map.once HM.out.len h0] at C7
          have B9 := Lib.hid hB
          have S9 := Lib.hid (And.intro p0 p1)
          clear hM hI hB hlt hj CE C2 T2 CT
          go_upto_region 20 with (first
            | (go_at_call 12; go_loud (refine C5.out.mono ?_; rintro e w5 ⟨rfl, m5, o5⟩; have M5 := Lib.hid m5; have B5 := Lib.hid (below_outR B9.out HRL.out o5); have S5 := Lib.hid (And.intro (o5.cell S9.out.1 PW.out) (o5.cell S9.out.2 PW.out)); clear m5 o5))
            | (go_at_call 13; go_loud (refine (CL.out _ M5.out).mono ?_; rintro e w6 ⟨rfl, m6, o6⟩; have M6 := Lib.hid m6; have B6 := Lib.hid (below_outR B5.out HRL.out o6); have S6 := Lib.hid (And.intro (o6.cell S5.out.1 PW.out) (o6.cell S5.out.2 PW.out)); clear m6 o6)))
          clear p0 p1 C5
          obtain ⟨p0, p1⟩ := S6.out
          obtain ⟨su, hsu⟩ : ∃ su, sn + 1 = su := ⟨_, rfl⟩
          rw [hsu] at C6 C7
          have hwr : IntKind.i64.wrap (sn + 1) = su := by rw [← hsu]; simp only [IntKind.wrap, IntKind.bits, IntKind.signed]; simp; omega
          go_wp2_with (first
            | (go_at_call 12; refine (C6.out _ M6.out).mono ?_; rintro e w7 ⟨rfl, m7, o7⟩; have M7 := Lib.hid m7; have B7 := Lib.hid (below_outR B6.out HRL.out o7); replace p0 := o7.cell p0 PW.out; replace p1 := o7.cell p1 PW.out; clear m7 o7 C6)
            | (go_at_call 12; go_loud (refine (C7.out _ M7.out).mono ?_; rintro e w8 ⟨rfl, m8, o8⟩; have B8 := Lib.hid (below_outR B7.out HRL.out o8); clear m8 o8)))
          go_ret
          exact ⟨rfl, below_next HB.out B8.out⟩
end Go.Proofs.Ytghnafknbgmagaa
