import Derived.Test.YthpbcibjohakkaaLOpen
import Derived.BigQuiet
import Derived.Test.YthpbcibjohakkaaJAJ
/- The reference: records that can be read (Recs), New, Room. -/
namespace Go.Proofs.Ythpbcibjohakkaa
set_option maxRecDepth 100000
set_option maxRecDepth 100000
open Go.RowKit

/-- Records in memory, each readable; all in blocks of G. -/
structure Recs (G : Nat → Prop) (w : World) (base : Nat) (v : Value) (rs : List (List Int)) (vs : List Value) : Prop where
  own : w.ownsRow base 33 1 v rs.length vs
  row : ∀ k, v.ownBlock = some k → G k
  at_ : ∀ (i : Nat) (r : List Int), rs[i]? = some r → ∃ B c, vs[i]? = some (.slice B r.length c) ∧ r.length ≤ c ∧ c ≤ 9223372036854775807 ∧ RB w B r.length r ∧ (∀ ad, B = some ad → 0 < r.length → G ad.block)
theorem Recs.nil (G : Nat → Prop) (w : World) (base : Nat) : Recs G w base (.slice none 0 0) [] [] := ⟨World.ownsRow_nil _ _ _ _, fun k e => by simp [Value.ownBlock] at e, fun i r h => by simp at h⟩
theorem Recs.stays {G : Nat → Prop} {w w' : World} {base : Nat} {v : Value} {rs : List (List Int)} {vs : List Value} (h : Recs G w base v rs vs) (hk : ∀ k, k < w.heap.size → G k → w'.heap[k]? = w.heap[k]?) : Recs G w' base v rs vs :=
  ⟨own_stays h.own fun k e => hk k (h.own.lt k e).2 (h.row k e), h.row, fun i r hr => by
    obtain ⟨B, c, e, h1, h2, hrb, hg⟩ := h.at_ i r hr
    refine ⟨B, c, e, h1, h2, ⟨hrb.len, hrb.byte, fun hn => ?_⟩, hg⟩
    obtain ⟨ad, e0, hc⟩ := hrb.cell hn
    exact ⟨ad, e0, fun j hj => (World.cell?_of_block (w := w) (a := ad.add j) (by rw [show (ad.add j).block = ad.block from by unfold Addr.add; split <;> rfl]; exact hk ad.block (rb_lt hrb ad e0 hn) (hg ad e0 hn))).trans (hc j hj)⟩⟩
theorem Recs.below {G : Nat → Prop} {w w' : World} {base : Nat} {v : Value} {rs : List (List Int)} {vs : List Value} (h : Recs G w base v rs vs) (hb : Below w.heap.size w w') : Recs G w' base v rs vs := h.stays fun k hk _ => hb.block k hk
theorem Recs.form {G : Nat → Prop} {w : World} {base : Nat} {v : Value} {rs : List (List Int)} {vs : List Value} (h : Recs G w base v rs vs) : ∃ A cap, v = .slice A rs.length cap ∧ (0 < rs.length → ∃ g, A = some ⟨g, 0, none⟩) := by
  rcases h.own.2 with ⟨hv, h0⟩ | ⟨g, cap, cur, hv, _⟩
  · have : rs.length = 0 := by first | exact h0 | exact h0.1 | omega
    exact ⟨none, 0, by rw [hv, this], fun h => by omega⟩
  · exact ⟨_, cap, hv, fun _ => ⟨g, rfl⟩⟩
theorem Recs.cell {G : Nat → Prop} {w : World} {base g cap : Nat} {rs : List (List Int)} {vs : List Value} (h : Recs G w base (.slice (some ⟨g, 0, none⟩) rs.length cap) rs vs) (i : Nat) (r : List Int) (hr : rs[i]? = some r) :
    ∃ B c, w.cell? ⟨g, i, none⟩ = some (.slice B r.length c) := by
  obtain ⟨B, c, e, _⟩ := h.at_ i r hr
  have hi := (List.getElem?_eq_some_iff.1 hr).1
  exact ⟨B, c, by rw [h.own.cellAt i (by omega)]; exact e⟩

theorem rnew (w : World) (n : Nat) (hn : n ≤ 16384) :
    Calls Try.prog 16 #[.int .i64 (n : Int)] w fun e w' => e = .returned (.tuple #[.agg #[.int .i64 (((n : Int) - 2).tdiv 2), .slice none 0 0], .bool (decide (6 ≤ n))]) ∧ Below w.heap.size w w' := by
  have hni : (n : Int) ≤ 16384 := by omega
  have hb : decide ((6 : Int) ≤ (n : Int)) = decide (6 ≤ n) := by congr 1; simp; omega
  have h12 : -1 ≤ ((n : Int) - 2).tdiv 2 ∧ ((n : Int) - 2).tdiv 2 ≤ 16384 := by
    rcases (by omega : n = 0 ∨ n = 1 ∨ 2 ≤ n) with rfl | rfl | h
    · decide
    · decide
    · rw [Int.tdiv_eq_ediv_of_nonneg (by omega)]; omega
  obtain ⟨h1, h2⟩ := h12
  obtain ⟨q, hq⟩ : ∃ q, ((n : Int) - 2).tdiv 2 = q := ⟨_, rfl⟩
  rw [hq] at h1 h2 ⊢
  go_enter Try.func16, Try.ntmps16
  go_wp2
  refine bodyPost_ret (v := .tuple #[.agg #[.int .i64 q, .slice none 0 0], .bool (decide (6 ≤ n))]) (by simp [results, Try.results16, go_sem, hb]) rfl ⟨rfl, ?_⟩
  exact ((Below.refl _ _).alloc (Nat.le_refl _) _)

theorem usedOf_take (rs : List (List Int)) (a : Nat) : usedOf (rs.take a) ≤ usedOf rs := by
  conv => rhs; rw [← List.take_append_drop a rs]
  unfold usedOf
  rw [List.map_append, List.sum_append]
  omega

set_option maxHeartbeats 2000000 in
theorem rroom (w : World) (G : Nat → Prop) (base k : Nat) (v : Value) (rs : List (List Int)) (vs : List Value) (h : Recs G w base v rs vs) (hu : usedOf rs ≤ k) (hk : k ≤ 16384) (hl : ∀ r ∈ rs, r.length ≤ 655360) :
    Calls Try.prog 20 #[.agg #[.int .i64 (k : Int), v]] w fun e w' => e = .returned (.int .i64 ((k - usedOf rs : Nat) : Int)) ∧ Below w.heap.size w w' := by
  obtain ⟨A, cap, rfl, hA⟩ := h.form
  have HV := Lib.hid h
  have HL := Lib.hid hl
  have HU := Lib.hid hu
  have hki : (k : Int) ≤ 16384 := by omega
  have hnl : rs.length ≤ 16384 := by have := usedOf_ge rs; omega
  have hnli : (rs.length : Int) ≤ 16384 := by omega
  obtain ⟨W, hW⟩ : ∃ W, w.alloc (.cells #[.int .i64 (k : Int), .slice A rs.length cap] 27) = W := ⟨_, rfl⟩
  have HW := Lib.hid hW
  have q0 := Lib.hid (show W.heap[w.heap.size]? = some (.cells #[.int .i64 (k : Int), .slice A rs.length cap] 27 (0, 0)) by rw [← hW]; exact heap_alloc_new _ _)
  have HB := Lib.hid (show Below w.heap.size w W by rw [← hW]; exact (Below.refl _ _).alloc (Nat.le_refl _) _)
  clear h hl hW hu
  go_enter Try.func20, Try.ntmps20
  have c0 : W.cell? ⟨w.heap.size, 0, none⟩ = some (.int .i64 (k : Int)) := cell_of_row _ _ 0 _ _ _ q0.out
  have c1 : W.cell? ⟨w.heap.size, 1, none⟩ = some (.slice A rs.length cap) := cell_of_row _ _ 1 _ _ _ q0.out
  go_wp2
  rw [HW.out]
  go_loopw [3, 4] (fun nv i wr => ∃ a : Nat, i = .int .i64 (a : Nat) ∧ a ≤ rs.length ∧ nv = .int .i64 ((k : Int) - (usedOf (rs.take a) : Int)) ∧ wr = W) (fun _ i _ => rs.length - (intOf i).toNat)
  case atStart => exact ⟨0, rfl, Nat.zero_le _, by simp [usedOf], rfl⟩
  case round =>
    obtain ⟨a, rfl, ha, rfl, rfl⟩ := hrel
    by_cases hlt : a < rs.length
    · obtain ⟨r, hr⟩ : ∃ r, rs[a]? = some r := ⟨_, List.getElem?_eq_getElem hlt⟩
      obtain ⟨g, rfl⟩ := hA (by omega)
      obtain ⟨B, c, hc⟩ := (HV.out.below HB.out).cell a r hr
      have hai : (a : Int) < (rs.length : Int) := by omega
      have hl1 := HL.out r (List.mem_of_getElem? hr)
      have hsum : usedOf (rs.take (a + 1)) = usedOf (rs.take a) + nblocks r.length := by
        rw [List.take_add_one, hr]; exact usedOf_snoc _ _
      have hle : usedOf (rs.take (a + 1)) ≤ usedOf rs := usedOf_take rs (a + 1)
      have hk0 := HU.out
      obtain ⟨u, hu⟩ : ∃ u, usedOf (rs.take a) = u := ⟨_, rfl⟩
      obtain ⟨nb, hnb⟩ : ∃ nb, nblocks r.length = nb := ⟨_, rfl⟩
      have CB := Lib.hid fun W' => rblocksN r.length W' (by omega)
      rw [hu, hnb] at hsum
      rw [hnb] at CB
      have hun : u + nb ≤ k := by omega
      have hui : (u : Int) + (nb : Int) ≤ (k : Int) := by omega
      rw [hu]
      have HSUM := Lib.hid hsum
      clear hle hk0 hr hu hnb hsum
      go_wp2_with (go_at_call 13; refine (CB.out _).mono ?_; rintro e w1 ⟨rfl, rfl⟩)
      go_roundw
      case rel => exact ⟨a + 1, by go_num, hlt, by rw [HSUM.out, show (k : Int) - ((u + nb : Nat) : Int) = (k : Int) - (u : Int) - (nb : Int) from by omega], trivial⟩
      case measure => simp [intOf]; omega
    · obtain rfl : a = rs.length := by omega
      have hk0 := HU.out
      go_wp2
      go_ret
      exact ⟨by rw [List.take_length, show ((k - usedOf rs : Nat) : Int) = (k : Int) - (usedOf rs : Int) from by omega]; rfl, HB.out⟩
end Go.Proofs.Ythpbcibjohakkaa

/- The reference: Same. -/
namespace Go.Proofs.Ythpbcibjohakkaa
set_option maxRecDepth 100000
set_option maxRecDepth 100000
open Go.RowKit

theorem Recs.drewN {G : Nat → Prop} {w : World} {base : Nat} {v : Value} {rs : List (List Int)} {vs : List Value} (h : Recs G w base v rs vs) (m : Nat) : Recs G (w.drewN m) base v rs vs := h.stays fun _ _ _ => rfl

set_option maxHeartbeats 2000000 in
theorem rsame (w : World) {G H : Nat → Prop} {b1 b2 : Nat} {v1 v2 : Value} {rs ts : List (List Int)} {vs us : List Value} (h1 : Recs G w b1 v1 rs vs) (h2 : Recs H w b2 v2 ts us) (hn : rs.length ≤ 140737488355328) :
    Calls Try.prog 27 #[v1, v2] w fun e w' => e = .returned (.bool (decide (rs = ts))) ∧ ∃ m, w' = w.drewN m := by
  obtain ⟨A, ca, rfl, hA⟩ := h1.form
  obtain ⟨B, cb, rfl, hB⟩ := h2.form
  by_cases hl : rs.length = ts.length
  · have hli : (rs.length : Int) = (ts.length : Int) := by omega
    have H1 := Lib.hid h1
    have H2 := Lib.hid h2
    have HL := Lib.hid hl
    obtain ⟨n, hnn⟩ : ∃ n, rs.length = n := ⟨_, rfl⟩
    have HN := Lib.hid hnn
    rw [← hl, hnn] at hB ⊢
    rw [hnn] at hA hn
    clear h1 h2 hl hli hnn
    go_enter Try.func27, Try.ntmps27
    go_wp2
    go_loopw [5] (fun i wr => ∃ k m : Nat, i = .int .i64 (k : Nat) ∧ k ≤ n ∧ rs.take k = ts.take k ∧ wr = w.drewN m) (fun i _ => n - (intOf i).toNat)
    case atStart => exact ⟨0, 0, rfl, Nat.zero_le _, by simp, rfl⟩
    case round =>
      obtain ⟨k, m, rfl, hk, htk, hm⟩ := hrel
      by_cases hlt : k < n
      · obtain ⟨r, hr⟩ : ∃ r, rs[k]? = some r := ⟨_, List.getElem?_eq_getElem (by rw [HN.out]; exact hlt)⟩
        obtain ⟨t, ht⟩ : ∃ t, ts[k]? = some t := ⟨_, List.getElem?_eq_getElem (by rw [← HL.out, HN.out]; exact hlt)⟩
        obtain ⟨g1, rfl⟩ := hA (by omega)
        obtain ⟨g2, rfl⟩ := hB (by omega)
        have R1 := H1.out.drewN m
        have R2 := H2.out.drewN m
        rw [← hm] at R1 R2
        obtain ⟨X, cx, e1, -, -, rb1, -⟩ := R1.at_ k r hr
        obtain ⟨Y, cy, e2, -, -, rb2, -⟩ := R2.at_ k t ht
        have c1 : wr.cell? ⟨g1, k, none⟩ = some (.slice X r.length cx) := by rw [R1.own.cellAt k (by rw [HN.out]; omega)]; exact e1
        have c2 : wr.cell? ⟨g2, k, none⟩ = some (.slice Y t.length cy) := by rw [R2.own.cellAt k (by rw [← HL.out, HN.out]; omega)]; exact e2
        have s1 := fun m => rb_str (rb1.drewN m) cx
        have s2 := fun m => rb_str (rb2.drewN m) cy
        have hki : (k : Int) < (n : Int) := by omega
        have HM := Lib.hid hm
        have HTK := Lib.hid htk
        have HR := Lib.hid hr
        have HT := Lib.hid ht
        have HLT := Lib.hid hlt
        by_cases he : r = t
        · subst he
          clear R1 R2 e1 e2 rb1 rb2 hm htk hr ht hlt
          go_wp2
          go_quiet (fail)
          go_wp2
          go_roundw
          case rel =>
            refine ⟨k + 1, _, by go_num, HLT.out, ?_, by rw [HM.out, World.drewN_drewN]⟩
            rw [List.take_add_one, List.take_add_one, HR.out, HT.out, HTK.out]
          case measure => have := HLT.out; simp [intOf]; omega
        · have hs : ¬ (strOfNums r).toList = (strOfNums t).toList := fun e => he (bytes_inj rb1.byte rb2.byte (by rw [Lib.strOfNums_toList, Lib.strOfNums_toList] at e; exact e))
          have hsb : ((strOfNums r).toList == (strOfNums t).toList) = false := by simpa using hs
          have HNE := Lib.hid (show rs ≠ ts from fun e => he (by rw [e, HT.out] at hr; injection hr with hr; exact hr.symm))
          clear R1 R2 e1 e2 rb1 rb2 hm htk hr ht hlt he
          go_wp2
          go_quiet (fail)
          go_wp2
          try rw [Exit.noGoto_ret]
          go_ret
          exact ⟨by rw [decide_eq_false HNE.out]; rfl, _, by rw [HM.out, World.drewN_drewN]⟩
      · obtain rfl : k = n := by omega
        have HE := Lib.hid (show rs = ts by
          have h := htk
          rw [List.take_of_length_le (by rw [HN.out]; exact Nat.le_refl _), List.take_of_length_le (by rw [← HL.out, HN.out]; exact Nat.le_refl _)] at h
          exact h)
        have HM := Lib.hid hm
        clear htk hm
        go_wp2
        go_ret
        exact ⟨by rw [decide_eq_true HE.out]; rfl, m, HM.out⟩
  · have hli : ¬ (rs.length : Int) = (ts.length : Int) := by omega
    have HNE := Lib.hid (show rs ≠ ts from fun e => hl (by rw [e]))
    clear h1 h2 hl
    go_enter Try.func27, Try.ntmps27
    go_wp2
    go_ret
    exact ⟨by rw [decide_eq_false HNE.out]; rfl, 0, rfl⟩
end Go.Proofs.Ythpbcibjohakkaa

/- The reference: Checked. -/
namespace Go.Proofs.Ythpbcibjohakkaa
set_option maxRecDepth 100000
set_option maxRecDepth 100000
open Go.RowKit

/-- What the reference makes of a record more: all in new blocks, but for the bytes. -/
def FreshOr (G : Nat → Prop) (w : World) (B : Option Addr) (j : Nat) : Prop := G j ∨ w.heap.size ≤ j ∨ ∃ ad, B = some ad ∧ ad.block = j
theorem Recs.one {w w5 : World} {g cap n c base : Nat} {B : Option Addr} {zs : List Int} (own : w5.ownsRow base 33 1 (.slice (some ⟨g, 0, none⟩) 1 cap) 1 ([] ++ [.slice B n c])) (hg : w.heap.size ≤ g) (hr : RB w5 B n zs) (hn : n ≤ c) (hc : c ≤ 9223372036854775807) :
    Recs (FreshOr (fun _ => False) w B) w5 base (.slice (some ⟨g, 0, none⟩) 1 cap) [zs] [.slice B n c] := by
  have hl : zs.length = n := hr.len
  subst hl
  refine ⟨own, fun k e => ?_, fun i r hi => ?_⟩
  · have e : g = k := by simpa [Value.ownBlock] using e
    subst e; exact .inr (.inl hg)
  · cases i with
    | zero =>
      simp only [List.getElem?_cons_zero, Option.some.injEq] at hi
      subst hi
      exact ⟨B, c, rfl, hn, hc, hr, fun ad e _ => .inr (.inr ⟨ad, e, rfl⟩)⟩
    | succ i => simp at hi

set_option maxHeartbeats 4000000 in
theorem rchecked_long (w : World) (k : Nat) (A : Option Addr) (m cap : Nat) (B : Option Addr) (n c : Nat) (hn2 : 65536 < n) (hn3 : n ≤ 9223372036854775807) :
    Calls Try.prog 33 #[.agg #[.int .i64 (k : Int), .slice A m cap], .slice B n c] w fun e w' => e = .returned (.tuple #[.agg #[.int .i64 (k : Int), .slice A m cap], .int .i64 3]) ∧ Below w.heap.size w w' := by
  have h1 : (65536 : Int) < (n : Int) := by omega
  go_enter Try.func33, Try.ntmps33
  go_wp2
  refine bodyPost_ret (v := .tuple #[.agg #[.int .i64 (k : Int), .slice A m cap], .int .i64 3]) (by simp [results, Try.results33, go_sem]) rfl ⟨rfl, ?_⟩
  exact ((Below.refl _ _).alloc (Nat.le_refl _) _).alloc (by simp) _
set_option maxHeartbeats 4000000 in
theorem rchecked_full (w : World) (k : Nat) (A : Option Addr) (m cap : Nat) (B : Option Addr) (n c : Nat) (hn2 : n ≤ 65536) (hk : k ≤ 16384) (hfull : k < nblocks n) :
    Calls Try.prog 33 #[.agg #[.int .i64 (k : Int), .slice A m cap], .slice B n c] w fun e w' => e = .returned (.tuple #[.agg #[.int .i64 (k : Int), .slice A m cap], .int .i64 4]) ∧ Below w.heap.size w w' := by
  have h1 : ¬ (65536 : Int) < (n : Int) := by omega
  have NB := Lib.hid fun W => rblocksN n W (by omega)
  obtain ⟨nb, hnb⟩ : ∃ nb, nblocks n = nb := ⟨_, rfl⟩
  rw [hnb] at hfull NB
  have NBq := Lib.hid fun W => (NB.out W).mono fun e w' (h : _ ∧ _) => (⟨h.1, h.2.symm⟩ : e = .returned (.int .i64 (nb : Int)) ∧ w' = W)
  have h2 : (k : Int) < (nb : Int) := by omega
  obtain ⟨W2, hW2⟩ : ∃ W, (w.alloc (Obj.cells #[.int .i64 (k : Int), .slice A m cap] 27)).alloc (Obj.cells #[.int .i64 0, .slice none 0 0] 27) = W := ⟨_, rfl⟩
  have HW2 := Lib.hid hW2
  have hs2 : W2.heap.size = w.heap.size + 2 := by rw [← hW2]; simp
  have q0 := Lib.hid (show W2.heap[w.heap.size]? = some (.cells #[.int .i64 (k : Int), .slice A m cap] 27 (0, 0)) by rw [← hW2]; exact heap_alloc2_old _ _ _)
  have q1 := Lib.hid (show W2.heap[w.heap.size + 1]? = some (.cells #[.int .i64 0, .slice none 0 0] 27 (0, 0)) by rw [← hW2]; exact heap_alloc2_new _ _ _)
  have HB := Lib.hid (show Below w.heap.size w W2 by rw [← hW2]; exact ((Below.refl _ _).alloc (Nat.le_refl _) _).alloc (by simp) _)
  clear hW2 hs2
  go_enter Try.func33, Try.ntmps33
  go_upto_region 3 with fail
  rw [HW2.out]
  have c0 : W2.cell? ⟨w.heap.size, 0, none⟩ = some (.int .i64 (k : Int)) := cell_of_row _ _ 0 _ _ _ q0.out
  go_quiet ((go_at_call 13; exact Calls.quiet_of_same (NBq.out _)))
  obtain ⟨W3, hW3⟩ : ∃ W, W = W2.drewN nq := ⟨_, rfl⟩
  rw [← hW3]
  have k0 : W3.cell? ⟨w.heap.size, 0, none⟩ = some (.int .i64 (k : Int)) := by rw [hW3]; exact c0
  have k1 : W3.cell? ⟨w.heap.size, 1, none⟩ = some (.slice A m cap) := by rw [hW3]; exact cell_of_row _ _ 1 _ _ _ q0.out
  have j0 : W3.cell? ⟨w.heap.size + 1, 0, none⟩ = some (.int .i64 0) := by rw [hW3]; exact cell_of_row _ _ 0 _ _ _ q1.out
  have j1 : W3.cell? ⟨w.heap.size + 1, 1, none⟩ = some (.slice none 0 0) := by rw [hW3]; exact cell_of_row _ _ 1 _ _ _ q1.out
  have f0 : W3.frozen? ⟨w.heap.size + 1, 0, none⟩ = false := by rw [hW3]; exact frozen_of_row _ _ _ _ _ q1.out
  have f1 : W3.frozen? ⟨w.heap.size + 1, 1, none⟩ = false := by rw [hW3]; exact frozen_of_row _ _ _ _ _ q1.out
  have HB3 := Lib.hid (show Below w.heap.size w W3 by rw [hW3]; exact HB.out.trans ((Joins.below_draws _ _ _)))
  clear c0 hW3
  go_wp2
  refine bodyPost_ret (v := .tuple #[.agg #[.int .i64 (k : Int), .slice A m cap], .int .i64 4]) (by simp [results, Try.results33, go_sem, j0, j1]) rfl ⟨rfl, ?_⟩
  exact (HB3.out.setCell (p := ⟨w.heap.size + 1, 0, none⟩) (by simp) _).setCell (p := ⟨w.heap.size + 1, 1, none⟩) (by simp) _
set_option maxHeartbeats 4000000 in
theorem rchecked_do (w : World) (k : Nat) (A : Option Addr) (m cap : Nat) (B : Option Addr) (n c : Nat) (zs : List Int) (hr : RB w B n zs) (hn : n ≤ c) (hc : c ≤ 9223372036854775807) (hn2 : n ≤ 65536) (hk : k ≤ 16384) (hfit : nblocks n ≤ k) :
    Calls Try.prog 33 #[.agg #[.int .i64 (k : Int), .slice A m cap], .slice B n c] w fun e w' => ∃ v vs, e = .returned (.tuple #[.agg #[.int .i64 (k : Int), v], .int .i64 0]) ∧ Recs (FreshOr (fun _ => False) w B) w' w.heap.size v [zs] vs ∧ Below w.heap.size w w' := by
  have h1 : ¬ (65536 : Int) < (n : Int) := by omega
  have NB := Lib.hid fun W => rblocksN n W (by omega)
  obtain ⟨nb, hnb⟩ : ∃ nb, nblocks n = nb := ⟨_, rfl⟩
  rw [hnb] at hfit NB
  have NBq := Lib.hid fun W => (NB.out W).mono fun e w' (h : _ ∧ _) => (⟨h.1, h.2.symm⟩ : e = .returned (.int .i64 (nb : Int)) ∧ w' = W)
  have h2 : ¬ (k : Int) < (nb : Int) := by omega
  have HR := Lib.hid hr
  obtain ⟨W2, hW2⟩ : ∃ W, (w.alloc (Obj.cells #[.int .i64 (k : Int), .slice A m cap] 27)).alloc (Obj.cells #[.int .i64 0, .slice none 0 0] 27) = W := ⟨_, rfl⟩
  have HW2 := Lib.hid hW2
  have hs2 : W2.heap.size = w.heap.size + 2 := by rw [← hW2]; simp
  have q0 := Lib.hid (show W2.heap[w.heap.size]? = some (.cells #[.int .i64 (k : Int), .slice A m cap] 27 (0, 0)) by rw [← hW2]; exact heap_alloc2_old _ _ _)
  have q1 := Lib.hid (show W2.heap[w.heap.size + 1]? = some (.cells #[.int .i64 0, .slice none 0 0] 27 (0, 0)) by rw [← hW2]; exact heap_alloc2_new _ _ _)
  have HB := Lib.hid (show Below w.heap.size w W2 by rw [← hW2]; exact ((Below.refl _ _).alloc (Nat.le_refl _) _).alloc (by simp) _)
  clear hW2 hr
  go_enter Try.func33, Try.ntmps33
  go_upto_region 3 with fail
  rw [HW2.out]
  have c0 : W2.cell? ⟨w.heap.size, 0, none⟩ = some (.int .i64 (k : Int)) := cell_of_row _ _ 0 _ _ _ q0.out
  go_quiet ((go_at_call 13; exact Calls.quiet_of_same (NBq.out _)))
  obtain ⟨W3, hW3⟩ : ∃ W, W = W2.drewN nq := ⟨_, rfl⟩
  rw [← hW3]
  have k0 : W3.cell? ⟨w.heap.size, 0, none⟩ = some (.int .i64 (k : Int)) := by rw [hW3]; exact c0
  have hs3 : W3.heap.size = w.heap.size + 2 := by rw [hW3]; exact hs2
  have Q1 := Lib.hid (show W3.heap[w.heap.size + 1]? = some (.cells #[.int .i64 0, .slice none 0 0] 27 (0, 0)) by rw [hW3]; exact q1.out)
  have HB3 := Lib.hid (show Below w.heap.size w W3 by rw [hW3]; exact HB.out.trans ((Joins.below_draws _ _ _)))
  obtain ⟨W4, hW4⟩ : ∃ W, W3.alloc (Obj.cells #[.int .i64 (k : Int), .slice none 0 0] 27) = W := ⟨_, rfl⟩
  obtain ⟨W5, hW5⟩ : ∃ W, W4.alloc (Obj.cells #[.slice B n c] 33) = W := ⟨_, rfl⟩
  have HW4 := Lib.hid hW4
  have HW5 := Lib.hid hW5
  have S4 := Lib.hid (show W4.heap.size = w.heap.size + 3 by rw [← hW4]; simp [hs3])
  have S5 := Lib.hid (show W5.heap.size = w.heap.size + 4 by rw [← hW5]; simp [S4.out])
  have B4 := Lib.hid (show Below W3.heap.size W3 W4 by rw [← hW4]; exact (Below.refl _ _).alloc (Nat.le_refl _) _)
  have B5 := Lib.hid (show Below W4.heap.size W4 W5 by rw [← hW5]; exact (Below.refl _ _).alloc (Nat.le_refl _) _)
  have r4 : W4.heap[w.heap.size + 2]? = some (.cells #[.int .i64 (k : Int), .slice none 0 0] 27 (0, 0)) := by rw [← hW4, ← hs3]; exact heap_alloc_new _ _
  have R5 := Lib.hid (show W5.heap[w.heap.size + 2]? = some (.cells #[.int .i64 (k : Int), .slice none 0 0] 27 (0, 0)) by rw [B5.out.block _ (by rw [S4.out]; omega)]; exact r4)
  have P5 := Lib.hid (show W5.heap[w.heap.size + 1]? = some (.cells #[.int .i64 0, .slice none 0 0] 27 (0, 0)) by rw [B5.out.block _ (by rw [S4.out]; omega), B4.out.block _ (by rw [hs3]; omega)]; exact Q1.out)
  have N5 := Lib.hid (show W5.heap[W4.heap.size]? = some (.cells #[.slice B n c] 33 (0, 0)) by rw [← hW5]; exact heap_alloc_new _ _)
  have c41 : W4.cell? ⟨w.heap.size + 2, 1, none⟩ = some (.slice none 0 0) := cell_of_row _ _ 1 _ _ _ r4
  have S3 := Lib.hid hs3
  obtain ⟨vn, hvn⟩ : ∃ vn, vn = Value.slice none 0 0 := ⟨_, rfl⟩
  rw [← hvn] at c41
  have HF := Lib.hid (show ∀ w6, W5.grownBy w6 vn.ownBlock → w6.heap[w.heap.size + 2]? = some (.cells #[.int .i64 (k : Int), .slice none 0 0] 27 (0, 0)) ∧ w6.heap[w.heap.size + 1]? = some (.cells #[.int .i64 0, .slice none 0 0] 27 (0, 0)) ∧ Below w.heap.size w w6 from fun w6 gr => by
    subst hvn
    refine ⟨(gr.block _ (by rw [S5.out]; omega) (by simp [Value.ownBlock])).trans R5.out, (gr.block _ (by rw [S5.out]; omega) (by simp [Value.ownBlock])).trans P5.out, ?_⟩
    have hb5 : Below w.heap.size w W5 := HB3.out.trans ((B4.out.mono (by rw [hs3]; omega)).trans (B5.out.mono (by rw [S4.out]; omega)))
    exact hb5.grown gr hb5.size (fun k e => by simp [Value.ownBlock] at e))
  have O5 := Lib.hid (show W5.ownsRow (w.heap.size + 4) 33 1 vn 0 [] by rw [hvn]; exact World.ownsRow_nil W5 (w.heap.size + 4) 33 1)
  have HAT := Lib.hid (show ∀ g, vn.ownBlock = some g ∨ g = W5.heap.size → g = w.heap.size + 4 from fun g e => e.elim (fun e => by rw [hvn] at e; simp [Value.ownBlock] at e) (fun e => by rw [e, S5.out]))
  clear c0 hW3 hW4 hW5 hs3 hs2 r4 hvn
  go_upto_region 6 with fail
  rw [HW4.out, S3.out]
  go_wp2_with (at_builtin; rw [HW5.out]; refine list_app_sl (by rfl) (.tmp 22) (.tmp 24) (by rfl) (w.heap.size + 4) vn 0 [] (by rfl) O5.out W4.heap.size 1 (.slice B n c) (by rfl) N5.out rfl (by decide) (by rw [S5.out]; exact Nat.le_refl _) ?_; intro g6 cap6 w6 own6 gr6 at6; have R6 := (HF.out w6 gr6).1; have P6 := (HF.out w6 gr6).2.1; have B6 := Lib.hid (HF.out w6 gr6).2.2; have OWN6 := Lib.hid own6; have G6 := Lib.hid (HAT.out g6 at6); have x1 : w6.cell? ⟨w.heap.size + 2, 1, none⟩ = some (.slice none 0 0) := cell_of_row _ _ 1 _ _ _ R6; have f1 : w6.frozen? ⟨w.heap.size + 2, 1, none⟩ = false := frozen_of_row _ _ _ _ _ R6; have x0 : w6.cell? ⟨w.heap.size + 2, 0, none⟩ = some (.int .i64 (k : Int)) := cell_of_row _ _ 0 _ _ _ R6; have j0 : w6.cell? ⟨w.heap.size + 1, 0, none⟩ = some (.int .i64 0) := cell_of_row _ _ 0 _ _ _ P6; have j1 : w6.cell? ⟨w.heap.size + 1, 1, none⟩ = some (.slice none 0 0) := cell_of_row _ _ 1 _ _ _ P6; have g0 : w6.frozen? ⟨w.heap.size + 1, 0, none⟩ = false := frozen_of_row _ _ _ _ _ P6; have g1 : w6.frozen? ⟨w.heap.size + 1, 1, none⟩ = false := frozen_of_row _ _ _ _ _ P6; clear own6 gr6 at6 R6 P6 c41)
  have HB9 := Lib.hid (((B6.out.setCell (p := ⟨w.heap.size + 2, 1, none⟩) (by simp) (Value.slice (some ⟨g6, 0, none⟩) 1 cap6)).setCell (p := ⟨w.heap.size + 1, 0, none⟩) (by simp) (.int .i64 (k : Int))).setCell (p := ⟨w.heap.size + 1, 1, none⟩) (by simp) (Value.slice (some ⟨g6, 0, none⟩) 1 cap6))
  refine bodyPost_ret (v := .tuple #[.agg #[.int .i64 (k : Int), .slice (some ⟨g6, 0, none⟩) 1 cap6], .int .i64 0]) (by simp [results, Try.results33, go_sem, j0, j1]) rfl ⟨_, rfl, ⟨[.slice B n c], ?_⟩, HB9.out⟩
  refine Recs.one ?_ (by rw [G6.out]; omega) (HR.out.below' HB9.out) hn hc
  refine own_base (own_stays OWN6.out fun j e => ?_) (fun j e => ?_)
  · have e : g6 = j := by simpa [Value.ownBlock] using e
    have := G6.out
    rw [heap_setCell_ne _ _ _ _ _ (by omega), heap_setCell_ne _ _ _ _ _ (by omega), heap_setCell_ne _ _ _ _ _ (by omega)]
  · have e : g6 = j := by simpa [Value.ownBlock] using e
    have := G6.out
    omega
end Go.Proofs.Ythpbcibjohakkaa
