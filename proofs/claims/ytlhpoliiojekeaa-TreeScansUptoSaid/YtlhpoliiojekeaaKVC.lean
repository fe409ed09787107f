import Derived.Test.YtlhpoliiojekeaaVL
/- slices.Grow of nil, slices.Concat, slices.Clone, swapped: texts. -/
namespace Go.Proofs.Ytlhpoliiojekeaa
set_option maxRecDepth 100000
open Go.RowKit

set_option maxHeartbeats 2000000 in
theorem wgrowNilS (w : World) (n : Nat) (hn : n ≤ 1048576) : Calls Try.prog 77 #[.slice none 0 0, .int .i64 (n : Int)] w (MadeV elS w []) := by
  by_cases h0 : n = 0
  · subst h0
    go_enter Try.func77, Try.ntmps77
    go_wp2
    go_ret
    exact ⟨_, rfl, VO.nil _ _ _, Below.refl _ _⟩
  · obtain ⟨i0, hi, hz0, hz1, hz2⟩ := info_parts okS.info
    have hz2' : i0.bytes ≤ 16 := by rw [hz2]; exact okS.small
    have hmul : n * i0.bytes ≤ n * 16 := Nat.mul_le_mul_left n hz2'
    have hfit : Builtin.nextslicecap (0 + n) 0 * i0.bytes ≤ 281474976710656 := by
      have : Builtin.nextslicecap (0 + n) 0 = n := by unfold Builtin.nextslicecap; simp; omega
      rw [this]; omega
    have hrun := fun ty => Lib.run_append_grow_zeros (P := Try.prog) w 36 3 ty 9 i0 elS.z .i64 .i64 Try.underlying36 Try.underlying3 hi hz0 none 0 0 [] (by simp [Builtin.firstCells]) n (by omega) (by rw [hz1]; decide) (by omega) (by omega) (by omega) hfit
    have hge := grownCap_ge w (0 + n) 0 9
    have hle := grownCap_le_maxLen w (0 + n) 0 9 (by simp only [maxLen]; omega)
    generalize grownCap w (0 + n) 0 9 = cap at hrun hge hle
    obtain ⟨W, hW⟩ : ∃ W, W = w.drew.alloc (.cells ((([] : List Value).toArray ++ Builtin.zeroCells elS.z.cells n ++ Builtin.zeroCells elS.z.cells (cap - (0 + n)))) 9) := ⟨_, rfl⟩
    rw [← hW] at hrun
    rw [Nat.zero_add] at hrun hge
    have HO := Lib.hid (show VO elS w.heap.size W (.slice (some ⟨w.heap.size, 0, none⟩) 0 cap) [] from ⟨⟨rfl, .inr ⟨w.heap.size, cap, _, rfl, Nat.le_refl _, by rw [hW]; exact heap_alloc_new w.drew _, Nat.zero_le _, hle, by simp [size_zeroCells, okS.zc]; omega, by simp⟩⟩, by simp⟩)
    have HB := Lib.hid (show Below w.heap.size w W by rw [hW]; exact ((Below.refl w.heap.size w).drew).alloc (Nat.le_refl w.heap.size) _)
    have h1 : (0 : Int) < (n : Int) := by omega
    have hc0 : ¬ cap = 0 := by omega
    have hw1 : IntKind.i64.wrap (n : Int) = (n : Int) := by rw [IntKind.wrap_i64]; omega
    have h2 : ¬ (n : Int) < 0 := by omega
    have HR := Lib.hid hrun
    clear hrun hW hfit hi hz0 hz1 hz2 hge hle hz2' hmul
    go_enter Try.func77, Try.ntmps77
    go_wp2_with (at_builtin; refine list_app_run (by rfl) (.tmp 20) (.tmp 21) 36 3 (by rfl) (.slice none 0 0) (.int .i64 (n : Int)) _ (by rfl) (by rfl) HR.out ?_)
    go_ret
    exact ⟨_, rfl, HO.out, HB.out⟩

set_option maxHeartbeats 4000000 in
theorem wconcatS (w : World) (g : Nat) (ps : List Part) (k : Nat) (h : PartsAt elS w g ps) (hk : ps.length = k) (hk2 : k ≤ 1048576) (hs : sumN ps ≤ 1048576) :
    Calls Try.prog 71 #[.slice (some ⟨g, 0, none⟩) k k] w (MadeV elS w (ps.flatMap Part.z)) := by
  have H := Lib.hid h
  have HK := Lib.hid hk
  have HS := Lib.hid hs
  have hki : (k : Int) ≤ 1048576 := by omega
  clear h hk hs hk2
  go_enter Try.func71, Try.ntmps71
  go_upto_region 3 with fail
  go_loopw [3, 11] (fun sz i wr => ∃ j : Nat, i = .int .i64 (j : Nat) ∧ sz = .int .i64 (sumN (ps.take j) : Nat) ∧ j ≤ k ∧ wr = w) (fun _ i _ => k - (intOf i).toNat)
  case atStart => exact ⟨0, rfl, rfl, Nat.zero_le _, rfl⟩
  case round =>
    obtain ⟨j, rfl, rfl, hj, rfl⟩ := hrel
    by_cases hlt : j < k
    · obtain ⟨p, hp⟩ : ∃ p, ps[j]? = some p := ⟨_, List.getElem?_eq_getElem (by rw [HK.out]; exact hlt)⟩
      have c0 := H.out.cell hp
      have HN := Lib.hid (show sumN (ps.take (j + 1)) = sumN (ps.take j) + p.n by rw [List.take_add_one, hp, Option.toList_some, sumN_snoc])
      obtain ⟨u, hu⟩ : ∃ u, sumN (ps.take j) = u := ⟨_, rfl⟩
      rw [hu] at HN ⊢
      have hub : (u : Int) + (p.n : Int) ≤ 1048576 := by have h1 := HN.out; have h2 := sumN_take ps (j + 1); have h3 := HS.out; omega
      have hnn : ¬ (u : Int) + (p.n : Int) < 0 := by omega
      have hki2 : (j : Int) < (k : Int) := by omega
      have HJ := Lib.hid hlt
      clear hp hlt hj hu
      go_wp2
      go_roundw
      case rel => exact ⟨j + 1, by go_num, by rw [HN.out]; go_num, HJ.out, by first | rfl | trivial⟩
      case measure => have := HJ.out; simp [intOf]; omega
    · obtain rfl : j = k := by omega
      have hall : ps.take j = ps := List.take_of_length_le (by rw [HK.out]; exact Nat.le_refl _)
      rw [hall]
      have CG := Lib.hid (wgrowNilS wr (sumN ps) HS.out)
      unfold MadeV at CG
      clear hall hlt hj
      go_upto_region 10 with (go_at_call 77; go_loud (refine CG.out.mono ?_; rintro e w1 ⟨v, rfl, o1, b1⟩; have O1 := Lib.hid o1; have B1 := Lib.hid b1; clear o1 b1 CG))
      go_upto_region 11 with fail
      go_loopw [6, 27] (fun v i w2 => ∃ k : Nat, i = .int .i64 (k : Nat) ∧ k ≤ j ∧ VO elS wr.heap.size w2 v ((ps.take k).flatMap Part.z) ∧ Below wr.heap.size wr w2) (fun _ i _ => j - (intOf i).toNat)
      case atStart => exact ⟨0, rfl, Nat.zero_le _, O1.out, B1.out⟩
      case round =>
        rename World => w2
        obtain ⟨k, rfl, hk, hO, hB⟩ := hrel
        by_cases hlt : k < j
        · obtain ⟨p, hp⟩ : ∃ p, ps[k]? = some p := ⟨_, List.getElem?_eq_getElem (by rw [HK.out]; exact hlt)⟩
          have H2 := H.out.below hB
          have c0 := H2.cell hp
          have HR := Lib.hid (H2.is p (List.mem_of_getElem? hp))
          have HN := Lib.hid (show (ps.take (k + 1)).flatMap Part.z = (ps.take k).flatMap Part.z ++ p.z by rw [List.take_add_one, hp, Option.toList_some]; simp)
          have HSZ := Lib.hid (show ((ps.take k).flatMap Part.z).length + p.n ≤ 1048576 by
            rw [flat_len_sum (fun q hq => H.out.is q (List.mem_of_mem_take hq))]
            have h1 := sumN_take ps (k + 1)
            rw [List.take_add_one, hp, Option.toList_some, sumN_snoc] at h1
            have h2 := HS.out
            omega)
          have hki2 : (k : Int) < (j : Int) := by omega
          have HJ := Lib.hid hlt
          have HO := Lib.hid hO
          have HB := Lib.hid hB
          obtain ⟨zs, hzs⟩ : ∃ zs, (ps.take k).flatMap Part.z = zs := ⟨_, rfl⟩
          rw [hzs] at HO HN HSZ
          clear hp hlt hk H2 hO hB hzs
          go_wp2_with (at_builtin; refine vo_append elS okS rfl (.tmp 31) (.tmp 32) rfl wr.heap.size _ zs rfl HO.out p.A p.n p.c p.z rfl HR.out HSZ.out HB.out.size ?_; intro v3 w3 o3 b3 g3; have O3 := Lib.hid o3; have B3 := Lib.hid (HB.out.trans b3); clear o3 b3 g3)
          go_roundw
          case rel => exact ⟨k + 1, by go_num, HJ.out, by rw [HN.out]; exact O3.out, B3.out⟩
          case measure => have := HJ.out; simp [intOf]; omega
        · obtain rfl : k = j := by omega
          have hall : ps.take k = ps := List.take_of_length_le (by rw [HK.out]; exact Nat.le_refl _)
          rw [hall] at hO
          have HO := Lib.hid hO
          have HB := Lib.hid hB
          clear hall hlt hk hO hB
          go_wp2
          go_ret
          exact ⟨_, rfl, HO.out, HB.out⟩

theorem concatNewS {w : World} {ps : List Part} (k : Nat) (hk : ps.length = k) (hk2 : k ≤ 1048576) (h : AccAt w ps) (hs : sumN ps ≤ 1048576) (W : World) (hW : W = w.alloc (.cells (ps.map Part.v).toArray 36)) :
    Calls Try.prog 71 #[.slice (some ⟨w.heap.size, 0, none⟩) k k] W (MadeV elS w (ps.flatMap Part.z)) := by
  subst hW
  exact (wconcatS _ _ ps k (PartsAt.new h) hk hk2 hs).mono fun e w' hm => MadeV.up ((Below.refl _ _).alloc (Nat.le_refl _) _) hm

theorem concatNewDS {w : World} {ps : List Part} (k : Nat) (hk : ps.length = k) (hk2 : k ≤ 1048576) (h : AccAt w ps) (hs : sumN ps ≤ 1048576) (W : World) (hW : W = (w.alloc (.cells (ps.map Part.v).toArray 36)).drew) :
    Calls Try.prog 71 #[.slice (some ⟨w.heap.size, 0, none⟩) k k] W (MadeV elS w (ps.flatMap Part.z)) := by
  subst hW
  exact (wconcatS _ _ ps k (PartsAt.new h).drew hk hk2 hs).mono fun e w' hm => MadeV.up (((Below.refl _ _).alloc (Nat.le_refl _) _).drew) hm

set_option maxHeartbeats 4000000 in
theorem wswappedS (w : World) (A B : Option Addr) (n c m d f t : Nat) (l o : List Value) (hl : VB w A n l) (hc : n ≤ c) (ho : VB w B m o) (hft : f ≤ t) (htn : t ≤ n) (hn : n ≤ 1000) (hm : m ≤ 1000) :
    Calls Try.prog 59 #[.slice A n c, .int .i64 (f : Int), .int .i64 (t : Int), .slice B m d] w (MadeV elS w (l.take f ++ (o ++ l.drop t))) := by
  obtain ⟨A', hA'⟩ : ∃ A', (if c = t then A else A.map (·.add t)) = A' := ⟨_, rfl⟩
  have q1 : ∀ W, (Instr.slice 36 (.slice A n c) none (some (.int .i64 (f : Int))) none).run Try.prog W = .ok (.slice A f c) W := fun W => run_upto elS okS W A n c f (by omega)
  have q2 : ∀ W, (Instr.slice 36 (.slice A n c) (some (.int .i64 (t : Int))) none none).run Try.prog W = .ok (.slice A' (n - t) (c - t)) W := fun W => by rw [← hA']; exact run_from elS okS W A n c t htn hc
  have CC := Lib.hid fun (w : World) (h : AccAt w [⟨A, f, c, l.take f⟩, ⟨B, m, d, o⟩, ⟨A', n - t, c - t, l.drop t⟩]) W hW => concatNewDS (w := w) 3 rfl (by decide) h (by simp [sumN]; omega) W hW
  have HA : AccAt w [⟨A, f, c, l.take f⟩, ⟨B, m, d, o⟩, ⟨A', n - t, c - t, l.drop t⟩] := by
    refine ((AccAt.nil w).cons (c - t) ?_ |>.cons d ho |>.cons c (hl.take (by omega)))
    rw [← hA']; exact hl.cut htn c hc
  have HA2 := Lib.hid HA
  clear HA hA' hl ho
  go_enter Try.func59, Try.ntmps59
  go_wp2
  go_region_with (go_at_call 71; go_loud (refine (CC.out _ HA2.out _ (by rfl)).mono ?_; rintro e w1 ⟨v, rfl, o1, b1⟩; have O1 := Lib.hid (show VO elS w.heap.size w1 v (l.take f ++ (o ++ l.drop t)) by simpa using o1); have B1 := Lib.hid b1; clear o1 b1))
  go_wp2
  go_ret
  exact ⟨_, rfl, O1.out, B1.out⟩

set_option maxHeartbeats 4000000 in
theorem wcloneS (w : World) (A : Option Addr) (n c : Nat) (l : List Value) (hl : VB w A n l) (hn : n ≤ 1048576) :
    Calls Try.prog 60 #[.slice A n c] w (MadeV elS w l) := by
  have qT : ∀ (w : World) (a : Option Addr) (n c n' c' : Nat), (binOp .eql 36 (.slice a n c) (.slice none n' c')).run Try.prog w = .ok (.bool a.isNone) w := fun w a n c n' c' => Lib.run_eql_slice_nil w _ _ a n c n' c' Try.underlying36
  rcases A with _ | ad
  · have hz : n = 0 := by
      rcases Nat.eq_zero_or_pos n with h0 | h0
      · exact h0
      · obtain ⟨ad, e, _⟩ := hl.cell h0
        cases e
    subst hz
    have hz : l = [] := List.eq_nil_of_length_eq_zero hl.len
    subst hz
    go_enter Try.func60, Try.ntmps60
    go_wp2
    go_ret
    exact ⟨_, rfl, VO.nil _ _ _, Below.refl _ _⟩
  · have HL := Lib.hid hl
    have HN := Lib.hid hn
    obtain ⟨W, hW⟩ : ∃ W, w.alloc (.cells #[] 9) = W := ⟨_, rfl⟩
    have O0 : Hid (VO elS w.heap.size W (.slice (some ⟨w.heap.size, 0, none⟩) 0 0) []) := Lib.hid ⟨⟨rfl, .inr ⟨w.heap.size, 0, _, rfl, Nat.le_refl _, by rw [← hW]; exact heap_alloc_new w _, Nat.le_refl _, by simp [maxLen], by simp, by simp⟩⟩, by simp⟩
    have B0 := Lib.hid (show Below w.heap.size w W by rw [← hW]; exact (Below.refl _ _).alloc (Nat.le_refl _) _)
    clear hl hn
    go_enter Try.func60, Try.ntmps60
    go_wp2_with (at_builtin; refine vo_append elS okS rfl (.tmp 5) (.tmp 6) rfl w.heap.size _ [] (by rfl) O0.out (some ad) n c l (by rfl) (HL.out.below' B0.out) (by have := HN.out; simp; omega) B0.out.size ?_; intro v3 w3 o3 b3 g3; have O3 := Lib.hid o3; have B3 := Lib.hid (B0.out.trans b3); clear o3 b3 g3)
    go_ret
    exact ⟨_, rfl, O3.out, B3.out⟩
end Go.Proofs.Ytlhpoliiojekeaa

/- slices.Grow of nil, slices.Concat, slices.Clone, swapped: numbers. -/
namespace Go.Proofs.Ytlhpoliiojekeaa
set_option maxRecDepth 100000
open Go.RowKit

set_option maxHeartbeats 2000000 in
theorem wgrowNilI (w : World) (n : Nat) (hn : n ≤ 1048576) : Calls Try.prog 76 #[.slice none 0 0, .int .i64 (n : Int)] w (MadeV elI w []) := by
  by_cases h0 : n = 0
  · subst h0
    go_enter Try.func76, Try.ntmps76
    go_wp2
    go_ret
    exact ⟨_, rfl, VO.nil _ _ _, Below.refl _ _⟩
  · obtain ⟨i0, hi, hz0, hz1, hz2⟩ := info_parts okI.info
    have hz2' : i0.bytes ≤ 16 := by rw [hz2]; exact okI.small
    have hmul : n * i0.bytes ≤ n * 16 := Nat.mul_le_mul_left n hz2'
    have hfit : Builtin.nextslicecap (0 + n) 0 * i0.bytes ≤ 281474976710656 := by
      have : Builtin.nextslicecap (0 + n) 0 = n := by unfold Builtin.nextslicecap; simp; omega
      rw [this]; omega
    have hrun := fun ty => Lib.run_append_grow_zeros (P := Try.prog) w 99 3 ty 2 i0 elI.z .i64 .i64 Try.underlying99 Try.underlying3 hi hz0 none 0 0 [] (by simp [Builtin.firstCells]) n (by omega) (by rw [hz1]; decide) (by omega) (by omega) (by omega) hfit
    have hge := grownCap_ge w (0 + n) 0 2
    have hle := grownCap_le_maxLen w (0 + n) 0 2 (by simp only [maxLen]; omega)
    generalize grownCap w (0 + n) 0 2 = cap at hrun hge hle
    obtain ⟨W, hW⟩ : ∃ W, W = w.drew.alloc (.cells ((([] : List Value).toArray ++ Builtin.zeroCells elI.z.cells n ++ Builtin.zeroCells elI.z.cells (cap - (0 + n)))) 2) := ⟨_, rfl⟩
    rw [← hW] at hrun
    rw [Nat.zero_add] at hrun hge
    have HO := Lib.hid (show VO elI w.heap.size W (.slice (some ⟨w.heap.size, 0, none⟩) 0 cap) [] from ⟨⟨rfl, .inr ⟨w.heap.size, cap, _, rfl, Nat.le_refl _, by rw [hW]; exact heap_alloc_new w.drew _, Nat.zero_le _, hle, by simp [size_zeroCells, okI.zc]; omega, by simp⟩⟩, by simp⟩)
    have HB := Lib.hid (show Below w.heap.size w W by rw [hW]; exact ((Below.refl w.heap.size w).drew).alloc (Nat.le_refl w.heap.size) _)
    have h1 : (0 : Int) < (n : Int) := by omega
    have hc0 : ¬ cap = 0 := by omega
    have hw1 : IntKind.i64.wrap (n : Int) = (n : Int) := by rw [IntKind.wrap_i64]; omega
    have h2 : ¬ (n : Int) < 0 := by omega
    have HR := Lib.hid hrun
    clear hrun hW hfit hi hz0 hz1 hz2 hge hle hz2' hmul
    go_enter Try.func76, Try.ntmps76
    go_wp2_with (at_builtin; refine list_app_run (by rfl) (.tmp 20) (.tmp 21) 99 3 (by rfl) (.slice none 0 0) (.int .i64 (n : Int)) _ (by rfl) (by rfl) HR.out ?_)
    go_ret
    exact ⟨_, rfl, HO.out, HB.out⟩

set_option maxHeartbeats 4000000 in
theorem wconcatI (w : World) (g : Nat) (ps : List Part) (k : Nat) (h : PartsAt elI w g ps) (hk : ps.length = k) (hk2 : k ≤ 1048576) (hs : sumN ps ≤ 1048576) :
    Calls Try.prog 70 #[.slice (some ⟨g, 0, none⟩) k k] w (MadeV elI w (ps.flatMap Part.z)) := by
  have H := Lib.hid h
  have HK := Lib.hid hk
  have HS := Lib.hid hs
  have hki : (k : Int) ≤ 1048576 := by omega
  clear h hk hs hk2
  go_enter Try.func70, Try.ntmps70
  go_upto_region 3 with fail
  go_loopw [3, 11] (fun sz i wr => ∃ j : Nat, i = .int .i64 (j : Nat) ∧ sz = .int .i64 (sumN (ps.take j) : Nat) ∧ j ≤ k ∧ wr = w) (fun _ i _ => k - (intOf i).toNat)
  case atStart => exact ⟨0, rfl, rfl, Nat.zero_le _, rfl⟩
  case round =>
    obtain ⟨j, rfl, rfl, hj, rfl⟩ := hrel
    by_cases hlt : j < k
    · obtain ⟨p, hp⟩ : ∃ p, ps[j]? = some p := ⟨_, List.getElem?_eq_getElem (by rw [HK.out]; exact hlt)⟩
      have c0 := H.out.cell hp
      have HN := Lib.hid (show sumN (ps.take (j + 1)) = sumN (ps.take j) + p.n by rw [List.take_add_one, hp, Option.toList_some, sumN_snoc])
      obtain ⟨u, hu⟩ : ∃ u, sumN (ps.take j) = u := ⟨_, rfl⟩
      rw [hu] at HN ⊢
      have hub : (u : Int) + (p.n : Int) ≤ 1048576 := by have h1 := HN.out; have h2 := sumN_take ps (j + 1); have h3 := HS.out; omega
      have hnn : ¬ (u : Int) + (p.n : Int) < 0 := by omega
      have hki2 : (j : Int) < (k : Int) := by omega
      have HJ := Lib.hid hlt
      clear hp hlt hj hu
      go_wp2
      go_roundw
      case rel => exact ⟨j + 1, by go_num, by rw [HN.out]; go_num, HJ.out, by first | rfl | trivial⟩
      case measure => have := HJ.out; simp [intOf]; omega
    · obtain rfl : j = k := by omega
      have hall : ps.take j = ps := List.take_of_length_le (by rw [HK.out]; exact Nat.le_refl _)
      rw [hall]
      have CG := Lib.hid (wgrowNilI wr (sumN ps) HS.out)
      unfold MadeV at CG
      clear hall hlt hj
      go_upto_region 10 with (go_at_call 76; go_loud (refine CG.out.mono ?_; rintro e w1 ⟨v, rfl, o1, b1⟩; have O1 := Lib.hid o1; have B1 := Lib.hid b1; clear o1 b1 CG))
      go_upto_region 11 with fail
      go_loopw [6, 27] (fun v i w2 => ∃ k : Nat, i = .int .i64 (k : Nat) ∧ k ≤ j ∧ VO elI wr.heap.size w2 v ((ps.take k).flatMap Part.z) ∧ Below wr.heap.size wr w2) (fun _ i _ => j - (intOf i).toNat)
      case atStart => exact ⟨0, rfl, Nat.zero_le _, O1.out, B1.out⟩
      case round =>
        rename World => w2
        obtain ⟨k, rfl, hk, hO, hB⟩ := hrel
        by_cases hlt : k < j
        · obtain ⟨p, hp⟩ : ∃ p, ps[k]? = some p := ⟨_, List.getElem?_eq_getElem (by rw [HK.out]; exact hlt)⟩
          have H2 := H.out.below hB
          have c0 := H2.cell hp
          have HR := Lib.hid (H2.is p (List.mem_of_getElem? hp))
          have HN := Lib.hid (show (ps.take (k + 1)).flatMap Part.z = (ps.take k).flatMap Part.z ++ p.z by rw [List.take_add_one, hp, Option.toList_some]; simp)
          have HSZ := Lib.hid (show ((ps.take k).flatMap Part.z).length + p.n ≤ 1048576 by
            rw [flat_len_sum (fun q hq => H.out.is q (List.mem_of_mem_take hq))]
            have h1 := sumN_take ps (k + 1)
            rw [List.take_add_one, hp, Option.toList_some, sumN_snoc] at h1
            have h2 := HS.out
            omega)
          have hki2 : (k : Int) < (j : Int) := by omega
          have HJ := Lib.hid hlt
          have HO := Lib.hid hO
          have HB := Lib.hid hB
          obtain ⟨zs, hzs⟩ : ∃ zs, (ps.take k).flatMap Part.z = zs := ⟨_, rfl⟩
          rw [hzs] at HO HN HSZ
          clear hp hlt hk H2 hO hB hzs
          go_wp2_with (at_builtin; refine vo_append elI okI rfl (.tmp 31) (.tmp 32) rfl wr.heap.size _ zs rfl HO.out p.A p.n p.c p.z rfl HR.out HSZ.out HB.out.size ?_; intro v3 w3 o3 b3 g3; have O3 := Lib.hid o3; have B3 := Lib.hid (HB.out.trans b3); clear o3 b3 g3)
          go_roundw
          case rel => exact ⟨k + 1, by go_num, HJ.out, by rw [HN.out]; exact O3.out, B3.out⟩
          case measure => have := HJ.out; simp [intOf]; omega
        · obtain rfl : k = j := by omega
          have hall : ps.take k = ps := List.take_of_length_le (by rw [HK.out]; exact Nat.le_refl _)
          rw [hall] at hO
          have HO := Lib.hid hO
          have HB := Lib.hid hB
          clear hall hlt hk hO hB
          go_wp2
          go_ret
          exact ⟨_, rfl, HO.out, HB.out⟩

theorem concatNewI {w : World} {ps : List Part} (k : Nat) (hk : ps.length = k) (hk2 : k ≤ 1048576) (h : AccAt w ps) (hs : sumN ps ≤ 1048576) (W : World) (hW : W = w.alloc (.cells (ps.map Part.v).toArray 99)) :
    Calls Try.prog 70 #[.slice (some ⟨w.heap.size, 0, none⟩) k k] W (MadeV elI w (ps.flatMap Part.z)) := by
  subst hW
  exact (wconcatI _ _ ps k (PartsAt.new h) hk hk2 hs).mono fun e w' hm => MadeV.up ((Below.refl _ _).alloc (Nat.le_refl _) _) hm

theorem concatNewDI {w : World} {ps : List Part} (k : Nat) (hk : ps.length = k) (hk2 : k ≤ 1048576) (h : AccAt w ps) (hs : sumN ps ≤ 1048576) (W : World) (hW : W = (w.alloc (.cells (ps.map Part.v).toArray 99)).drew) :
    Calls Try.prog 70 #[.slice (some ⟨w.heap.size, 0, none⟩) k k] W (MadeV elI w (ps.flatMap Part.z)) := by
  subst hW
  exact (wconcatI _ _ ps k (PartsAt.new h).drew hk hk2 hs).mono fun e w' hm => MadeV.up (((Below.refl _ _).alloc (Nat.le_refl _) _).drew) hm

set_option maxHeartbeats 4000000 in
theorem wswappedI (w : World) (A B : Option Addr) (n c m d f t : Nat) (l o : List Value) (hl : VB w A n l) (hc : n ≤ c) (ho : VB w B m o) (hft : f ≤ t) (htn : t ≤ n) (hn : n ≤ 1000) (hm : m ≤ 1000) :
    Calls Try.prog 58 #[.slice A n c, .int .i64 (f : Int), .int .i64 (t : Int), .slice B m d] w (MadeV elI w (l.take f ++ (o ++ l.drop t))) := by
  obtain ⟨A', hA'⟩ : ∃ A', (if c = t then A else A.map (·.add t)) = A' := ⟨_, rfl⟩
  have q1 : ∀ W, (Instr.slice 99 (.slice A n c) none (some (.int .i64 (f : Int))) none).run Try.prog W = .ok (.slice A f c) W := fun W => run_upto elI okI W A n c f (by omega)
  have q2 : ∀ W, (Instr.slice 99 (.slice A n c) (some (.int .i64 (t : Int))) none none).run Try.prog W = .ok (.slice A' (n - t) (c - t)) W := fun W => by rw [← hA']; exact run_from elI okI W A n c t htn hc
  have CC := Lib.hid fun (w : World) (h : AccAt w [⟨A, f, c, l.take f⟩, ⟨B, m, d, o⟩, ⟨A', n - t, c - t, l.drop t⟩]) W hW => concatNewDI (w := w) 3 rfl (by decide) h (by simp [sumN]; omega) W hW
  have HA : AccAt w [⟨A, f, c, l.take f⟩, ⟨B, m, d, o⟩, ⟨A', n - t, c - t, l.drop t⟩] := by
    refine ((AccAt.nil w).cons (c - t) ?_ |>.cons d ho |>.cons c (hl.take (by omega)))
    rw [← hA']; exact hl.cut htn c hc
  have HA2 := Lib.hid HA
  clear HA hA' hl ho
  go_enter Try.func58, Try.ntmps58
  go_wp2
  go_region_with (go_at_call 70; go_loud (refine (CC.out _ HA2.out _ (by rfl)).mono ?_; rintro e w1 ⟨v, rfl, o1, b1⟩; have O1 := Lib.hid (show VO elI w.heap.size w1 v (l.take f ++ (o ++ l.drop t)) by simpa using o1); have B1 := Lib.hid b1; clear o1 b1))
  go_wp2
  go_ret
  exact ⟨_, rfl, O1.out, B1.out⟩

set_option maxHeartbeats 4000000 in
theorem wcloneI (w : World) (A : Option Addr) (n c : Nat) (l : List Value) (hl : VB w A n l) (hn : n ≤ 1048576) :
    Calls Try.prog 68 #[.slice A n c] w (MadeV elI w l) := by
  have qT : ∀ (w : World) (a : Option Addr) (n c n' c' : Nat), (binOp .eql 99 (.slice a n c) (.slice none n' c')).run Try.prog w = .ok (.bool a.isNone) w := fun w a n c n' c' => Lib.run_eql_slice_nil w _ _ a n c n' c' Try.underlying99
  rcases A with _ | ad
  · have hz : n = 0 := by
      rcases Nat.eq_zero_or_pos n with h0 | h0
      · exact h0
      · obtain ⟨ad, e, _⟩ := hl.cell h0
        cases e
    subst hz
    have hz : l = [] := List.eq_nil_of_length_eq_zero hl.len
    subst hz
    go_enter Try.func68, Try.ntmps68
    go_wp2
    go_ret
    exact ⟨_, rfl, VO.nil _ _ _, Below.refl _ _⟩
  · have HL := Lib.hid hl
    have HN := Lib.hid hn
    obtain ⟨W, hW⟩ : ∃ W, w.alloc (.cells #[] 2) = W := ⟨_, rfl⟩
    have O0 : Hid (VO elI w.heap.size W (.slice (some ⟨w.heap.size, 0, none⟩) 0 0) []) := Lib.hid ⟨⟨rfl, .inr ⟨w.heap.size, 0, _, rfl, Nat.le_refl _, by rw [← hW]; exact heap_alloc_new w _, Nat.le_refl _, by simp [maxLen], by simp, by simp⟩⟩, by simp⟩
    have B0 := Lib.hid (show Below w.heap.size w W by rw [← hW]; exact (Below.refl _ _).alloc (Nat.le_refl _) _)
    clear hl hn
    go_enter Try.func68, Try.ntmps68
    go_wp2_with (at_builtin; refine vo_append elI okI rfl (.tmp 5) (.tmp 6) rfl w.heap.size _ [] (by rfl) O0.out (some ad) n c l (by rfl) (HL.out.below' B0.out) (by have := HN.out; simp; omega) B0.out.size ?_; intro v3 w3 o3 b3 g3; have O3 := Lib.hid o3; have B3 := Lib.hid (B0.out.trans b3); clear o3 b3 g3)
    go_ret
    exact ⟨_, rfl, O3.out, B3.out⟩
end Go.Proofs.Ytlhpoliiojekeaa

/- slices.Grow of nil, slices.Concat, slices.Clone, swapped: nodes. -/
namespace Go.Proofs.Ytlhpoliiojekeaa
set_option maxRecDepth 100000
open Go.RowKit

set_option maxHeartbeats 2000000 in
theorem wgrowNilN (w : World) (n : Nat) (hn : n ≤ 1048576) : Calls Try.prog 78 #[.slice none 0 0, .int .i64 (n : Int)] w (MadeV elN w []) := by
  by_cases h0 : n = 0
  · subst h0
    go_enter Try.func78, Try.ntmps78
    go_wp2
    go_ret
    exact ⟨_, rfl, VO.nil _ _ _, Below.refl _ _⟩
  · obtain ⟨i0, hi, hz0, hz1, hz2⟩ := info_parts okN.info
    have hz2' : i0.bytes ≤ 16 := by rw [hz2]; exact okN.small
    have hmul : n * i0.bytes ≤ n * 16 := Nat.mul_le_mul_left n hz2'
    have hfit : Builtin.nextslicecap (0 + n) 0 * i0.bytes ≤ 281474976710656 := by
      have : Builtin.nextslicecap (0 + n) 0 = n := by unfold Builtin.nextslicecap; simp; omega
      rw [this]; omega
    have hrun := fun ty => Lib.run_append_grow_zeros (P := Try.prog) w 90 3 ty 80 i0 elN.z .i64 .i64 Try.underlying90 Try.underlying3 hi hz0 none 0 0 [] (by simp [Builtin.firstCells]) n (by omega) (by rw [hz1]; decide) (by omega) (by omega) (by omega) hfit
    have hge := grownCap_ge w (0 + n) 0 80
    have hle := grownCap_le_maxLen w (0 + n) 0 80 (by simp only [maxLen]; omega)
    generalize grownCap w (0 + n) 0 80 = cap at hrun hge hle
    obtain ⟨W, hW⟩ : ∃ W, W = w.drew.alloc (.cells ((([] : List Value).toArray ++ Builtin.zeroCells elN.z.cells n ++ Builtin.zeroCells elN.z.cells (cap - (0 + n)))) 80) := ⟨_, rfl⟩
    rw [← hW] at hrun
    rw [Nat.zero_add] at hrun hge
    have HO := Lib.hid (show VO elN w.heap.size W (.slice (some ⟨w.heap.size, 0, none⟩) 0 cap) [] from ⟨⟨rfl, .inr ⟨w.heap.size, cap, _, rfl, Nat.le_refl _, by rw [hW]; exact heap_alloc_new w.drew _, Nat.zero_le _, hle, by simp [size_zeroCells, okN.zc]; omega, by simp⟩⟩, by simp⟩)
    have HB := Lib.hid (show Below w.heap.size w W by rw [hW]; exact ((Below.refl w.heap.size w).drew).alloc (Nat.le_refl w.heap.size) _)
    have h1 : (0 : Int) < (n : Int) := by omega
    have hc0 : ¬ cap = 0 := by omega
    have hw1 : IntKind.i64.wrap (n : Int) = (n : Int) := by rw [IntKind.wrap_i64]; omega
    have h2 : ¬ (n : Int) < 0 := by omega
    have HR := Lib.hid hrun
    clear hrun hW hfit hi hz0 hz1 hz2 hge hle hz2' hmul
    go_enter Try.func78, Try.ntmps78
    go_wp2_with (at_builtin; refine list_app_run (by rfl) (.tmp 20) (.tmp 21) 90 3 (by rfl) (.slice none 0 0) (.int .i64 (n : Int)) _ (by rfl) (by rfl) HR.out ?_)
    go_ret
    exact ⟨_, rfl, HO.out, HB.out⟩

set_option maxHeartbeats 4000000 in
theorem wconcatN (w : World) (g : Nat) (ps : List Part) (k : Nat) (h : PartsAt elN w g ps) (hk : ps.length = k) (hk2 : k ≤ 1048576) (hs : sumN ps ≤ 1048576) :
    Calls Try.prog 75 #[.slice (some ⟨g, 0, none⟩) k k] w (MadeV elN w (ps.flatMap Part.z)) := by
  have H := Lib.hid h
  have HK := Lib.hid hk
  have HS := Lib.hid hs
  have hki : (k : Int) ≤ 1048576 := by omega
  clear h hk hs hk2
  go_enter Try.func75, Try.ntmps75
  go_upto_region 3 with fail
  go_loopw [3, 11] (fun sz i wr => ∃ j : Nat, i = .int .i64 (j : Nat) ∧ sz = .int .i64 (sumN (ps.take j) : Nat) ∧ j ≤ k ∧ wr = w) (fun _ i _ => k - (intOf i).toNat)
  case atStart => exact ⟨0, rfl, rfl, Nat.zero_le _, rfl⟩
  case round =>
    obtain ⟨j, rfl, rfl, hj, rfl⟩ := hrel
    by_cases hlt : j < k
    · obtain ⟨p, hp⟩ : ∃ p, ps[j]? = some p := ⟨_, List.getElem?_eq_getElem (by rw [HK.out]; exact hlt)⟩
      have c0 := H.out.cell hp
      have HN := Lib.hid (show sumN (ps.take (j + 1)) = sumN (ps.take j) + p.n by rw [List.take_add_one, hp, Option.toList_some, sumN_snoc])
      obtain ⟨u, hu⟩ : ∃ u, sumN (ps.take j) = u := ⟨_, rfl⟩
      rw [hu] at HN ⊢
      have hub : (u : Int) + (p.n : Int) ≤ 1048576 := by have h1 := HN.out; have h2 := sumN_take ps (j + 1); have h3 := HS.out; omega
      have hnn : ¬ (u : Int) + (p.n : Int) < 0 := by omega
      have hki2 : (j : Int) < (k : Int) := by omega
      have HJ := Lib.hid hlt
      clear hp hlt hj hu
      go_wp2
      go_roundw
      case rel => exact ⟨j + 1, by go_num, by rw [HN.out]; go_num, HJ.out, by first | rfl | trivial⟩
      case measure => have := HJ.out; simp [intOf]; omega
    · obtain rfl : j = k := by omega
      have hall : ps.take j = ps := List.take_of_length_le (by rw [HK.out]; exact Nat.le_refl _)
      rw [hall]
      have CG := Lib.hid (wgrowNilN wr (sumN ps) HS.out)
      unfold MadeV at CG
      clear hall hlt hj
      go_upto_region 10 with (go_at_call 78; go_loud (refine CG.out.mono ?_; rintro e w1 ⟨v, rfl, o1, b1⟩; have O1 := Lib.hid o1; have B1 := Lib.hid b1; clear o1 b1 CG))
      go_upto_region 11 with fail
      go_loopw [6, 27] (fun v i w2 => ∃ k : Nat, i = .int .i64 (k : Nat) ∧ k ≤ j ∧ VO elN wr.heap.size w2 v ((ps.take k).flatMap Part.z) ∧ Below wr.heap.size wr w2) (fun _ i _ => j - (intOf i).toNat)
      case atStart => exact ⟨0, rfl, Nat.zero_le _, O1.out, B1.out⟩
      case round =>
        rename World => w2
        obtain ⟨k, rfl, hk, hO, hB⟩ := hrel
        by_cases hlt : k < j
        · obtain ⟨p, hp⟩ : ∃ p, ps[k]? = some p := ⟨_, List.getElem?_eq_getElem (by rw [HK.out]; exact hlt)⟩
          have H2 := H.out.below hB
          have c0 := H2.cell hp
          have HR := Lib.hid (H2.is p (List.mem_of_getElem? hp))
          have HN := Lib.hid (show (ps.take (k + 1)).flatMap Part.z = (ps.take k).flatMap Part.z ++ p.z by rw [List.take_add_one, hp, Option.toList_some]; simp)
          have HSZ := Lib.hid (show ((ps.take k).flatMap Part.z).length + p.n ≤ 1048576 by
            rw [flat_len_sum (fun q hq => H.out.is q (List.mem_of_mem_take hq))]
            have h1 := sumN_take ps (k + 1)
            rw [List.take_add_one, hp, Option.toList_some, sumN_snoc] at h1
            have h2 := HS.out
            omega)
          have hki2 : (k : Int) < (j : Int) := by omega
          have HJ := Lib.hid hlt
          have HO := Lib.hid hO
          have HB := Lib.hid hB
          obtain ⟨zs, hzs⟩ : ∃ zs, (ps.take k).flatMap Part.z = zs := ⟨_, rfl⟩
          rw [hzs] at HO HN HSZ
          clear hp hlt hk H2 hO hB hzs
          go_wp2_with (at_builtin; refine vo_append elN okN rfl (.tmp 31) (.tmp 32) rfl wr.heap.size _ zs rfl HO.out p.A p.n p.c p.z rfl HR.out HSZ.out HB.out.size ?_; intro v3 w3 o3 b3 g3; have O3 := Lib.hid o3; have B3 := Lib.hid (HB.out.trans b3); clear o3 b3 g3)
          go_roundw
          case rel => exact ⟨k + 1, by go_num, HJ.out, by rw [HN.out]; exact O3.out, B3.out⟩
          case measure => have := HJ.out; simp [intOf]; omega
        · obtain rfl : k = j := by omega
          have hall : ps.take k = ps := List.take_of_length_le (by rw [HK.out]; exact Nat.le_refl _)
          rw [hall] at hO
          have HO := Lib.hid hO
          have HB := Lib.hid hB
          clear hall hlt hk hO hB
          go_wp2
          go_ret
          exact ⟨_, rfl, HO.out, HB.out⟩

theorem concatNewN {w : World} {ps : List Part} (k : Nat) (hk : ps.length = k) (hk2 : k ≤ 1048576) (h : AccAt w ps) (hs : sumN ps ≤ 1048576) (W : World) (hW : W = w.alloc (.cells (ps.map Part.v).toArray 90)) :
    Calls Try.prog 75 #[.slice (some ⟨w.heap.size, 0, none⟩) k k] W (MadeV elN w (ps.flatMap Part.z)) := by
  subst hW
  exact (wconcatN _ _ ps k (PartsAt.new h) hk hk2 hs).mono fun e w' hm => MadeV.up ((Below.refl _ _).alloc (Nat.le_refl _) _) hm

theorem concatNewDN {w : World} {ps : List Part} (k : Nat) (hk : ps.length = k) (hk2 : k ≤ 1048576) (h : AccAt w ps) (hs : sumN ps ≤ 1048576) (W : World) (hW : W = (w.alloc (.cells (ps.map Part.v).toArray 90)).drew) :
    Calls Try.prog 75 #[.slice (some ⟨w.heap.size, 0, none⟩) k k] W (MadeV elN w (ps.flatMap Part.z)) := by
  subst hW
  exact (wconcatN _ _ ps k (PartsAt.new h).drew hk hk2 hs).mono fun e w' hm => MadeV.up (((Below.refl _ _).alloc (Nat.le_refl _) _).drew) hm

set_option maxHeartbeats 4000000 in
theorem wswappedN (w : World) (A B : Option Addr) (n c m d f t : Nat) (l o : List Value) (hl : VB w A n l) (hc : n ≤ c) (ho : VB w B m o) (hft : f ≤ t) (htn : t ≤ n) (hn : n ≤ 1000) (hm : m ≤ 1000) :
    Calls Try.prog 66 #[.slice A n c, .int .i64 (f : Int), .int .i64 (t : Int), .slice B m d] w (MadeV elN w (l.take f ++ (o ++ l.drop t))) := by
  obtain ⟨A', hA'⟩ : ∃ A', (if c = t then A else A.map (·.add t)) = A' := ⟨_, rfl⟩
  have q1 : ∀ W, (Instr.slice 90 (.slice A n c) none (some (.int .i64 (f : Int))) none).run Try.prog W = .ok (.slice A f c) W := fun W => run_upto elN okN W A n c f (by omega)
  have q2 : ∀ W, (Instr.slice 90 (.slice A n c) (some (.int .i64 (t : Int))) none none).run Try.prog W = .ok (.slice A' (n - t) (c - t)) W := fun W => by rw [← hA']; exact run_from elN okN W A n c t htn hc
  have CC := Lib.hid fun (w : World) (h : AccAt w [⟨A, f, c, l.take f⟩, ⟨B, m, d, o⟩, ⟨A', n - t, c - t, l.drop t⟩]) W hW => concatNewDN (w := w) 3 rfl (by decide) h (by simp [sumN]; omega) W hW
  have HA : AccAt w [⟨A, f, c, l.take f⟩, ⟨B, m, d, o⟩, ⟨A', n - t, c - t, l.drop t⟩] := by
    refine ((AccAt.nil w).cons (c - t) ?_ |>.cons d ho |>.cons c (hl.take (by omega)))
    rw [← hA']; exact hl.cut htn c hc
  have HA2 := Lib.hid HA
  clear HA hA' hl ho
  go_enter Try.func66, Try.ntmps66
  go_wp2
  go_region_with (go_at_call 75; go_loud (refine (CC.out _ HA2.out _ (by rfl)).mono ?_; rintro e w1 ⟨v, rfl, o1, b1⟩; have O1 := Lib.hid (show VO elN w.heap.size w1 v (l.take f ++ (o ++ l.drop t)) by simpa using o1); have B1 := Lib.hid b1; clear o1 b1))
  go_wp2
  go_ret
  exact ⟨_, rfl, O1.out, B1.out⟩

set_option maxHeartbeats 4000000 in
theorem wcloneN (w : World) (A : Option Addr) (n c : Nat) (l : List Value) (hl : VB w A n l) (hn : n ≤ 1048576) :
    Calls Try.prog 69 #[.slice A n c] w (MadeV elN w l) := by
  have qT : ∀ (w : World) (a : Option Addr) (n c n' c' : Nat), (binOp .eql 90 (.slice a n c) (.slice none n' c')).run Try.prog w = .ok (.bool a.isNone) w := fun w a n c n' c' => Lib.run_eql_slice_nil w _ _ a n c n' c' Try.underlying90
  rcases A with _ | ad
  · have hz : n = 0 := by
      rcases Nat.eq_zero_or_pos n with h0 | h0
      · exact h0
      · obtain ⟨ad, e, _⟩ := hl.cell h0
        cases e
    subst hz
    have hz : l = [] := List.eq_nil_of_length_eq_zero hl.len
    subst hz
    go_enter Try.func69, Try.ntmps69
    go_wp2
    go_ret
    exact ⟨_, rfl, VO.nil _ _ _, Below.refl _ _⟩
  · have HL := Lib.hid hl
    have HN := Lib.hid hn
    obtain ⟨W, hW⟩ : ∃ W, w.alloc (.cells #[] 80) = W := ⟨_, rfl⟩
    have O0 : Hid (VO elN w.heap.size W (.slice (some ⟨w.heap.size, 0, none⟩) 0 0) []) := Lib.hid ⟨⟨rfl, .inr ⟨w.heap.size, 0, _, rfl, Nat.le_refl _, by rw [← hW]; exact heap_alloc_new w _, Nat.le_refl _, by simp [maxLen], by simp, by simp⟩⟩, by simp⟩
    have B0 := Lib.hid (show Below w.heap.size w W by rw [← hW]; exact (Below.refl _ _).alloc (Nat.le_refl _) _)
    clear hl hn
    go_enter Try.func69, Try.ntmps69
    go_wp2_with (at_builtin; refine vo_append elN okN rfl (.tmp 5) (.tmp 6) rfl w.heap.size _ [] (by rfl) O0.out (some ad) n c l (by rfl) (HL.out.below' B0.out) (by have := HN.out; simp; omega) B0.out.size ?_; intro v3 w3 o3 b3 g3; have O3 := Lib.hid o3; have B3 := Lib.hid (B0.out.trans b3); clear o3 b3 g3)
    go_ret
    exact ⟨_, rfl, O3.out, B3.out⟩
end Go.Proofs.Ytlhpoliiojekeaa
