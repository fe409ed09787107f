import Derived.Test.YtapjgancaldgaaaKRD
/- The reference's Image. -/
namespace Go.Proofs.Ytapjgancaldgaaa
set_option maxRecDepth 100000
open Go.RowKit

section
variable {F : Nat → Prop} {w : World} {p : Nat} {S : St} {vs : List Value} {gd cd gt ct : Nat} {vw : Value}
theorem rafter4 {W1 w2 : World} {g4 : Nat} {u4 u5 : Value} {z4 z5 : List Int} (h4 : OB w.heap.size W1 u4 z4) (h5 : OI w.heap.size W1 u5 z5) (h45 : ∀ j, u4.ownBlock = some j → u5.ownBlock ≠ some j)
    (hg : W1.grownBy w2 u4.ownBlock) (hat : u4.ownBlock = some g4 ∨ g4 = W1.heap.size) (hb : Below w.heap.size w W1) (hd : Rf (fun k => F k ∧ k < w.heap.size) W1 p S vs gd cd gt ct vw) :
    OI w.heap.size w2 u5 z5 ∧ (∀ (n cap : Nat) j, (Value.slice (some ⟨g4, 0, none⟩) n cap).ownBlock = some j → u5.ownBlock ≠ some j) ∧ Below w.heap.size w w2 ∧ Rf (fun k => F k ∧ k < w.heap.size) w2 p S vs gd cd gt ct vw := by
  refine ⟨OI.stays h5 fun j e => hg.block j (h5.lt j e).2 (fun e2 => h45 j e2.symm e), fun n cap j e e5 => ?_, hb.grown hg hb.size (fun k e => (h4.own.lt k e).1), ?_⟩
  · have ej : g4 = j := by simpa [Value.ownBlock] using e
    subst ej
    rcases hat with e2 | e2
    · exact h45 _ e2 e5
    · have := (h5.lt _ e5).2; omega
  · exact hd.stays (fun k hk hf => hg.block k hk (fun e => by have := (h4.own.lt k e.symm).1; have := hf.2; omega)) hg.size
theorem rafter5 {w2 w3 : World} {u5 : Value} {z4 z5 : List Int} {g4 n4 cap4 g5 : Nat} {o : Obj} (h4 : OB w.heap.size w2 (.slice (some ⟨g4, 0, none⟩) n4 cap4) z4) (h5 : OI w.heap.size w2 u5 z5)
    (h45 : ∀ (n cap : Nat) j, (Value.slice (some ⟨g4, 0, none⟩) n cap).ownBlock = some j → u5.ownBlock ≠ some j) (hg : (w2.alloc o).grownBy w3 u5.ownBlock) (hat : u5.ownBlock = some g5 ∨ g5 = (w2.alloc o).heap.size)
    (hb : Below w.heap.size w w2) (hd : Rf (fun k => F k ∧ k < w.heap.size) w2 p S vs gd cd gt ct vw) :
    OB w.heap.size w3 (.slice (some ⟨g4, 0, none⟩) n4 cap4) z4 ∧ (∀ (n n' cap cap' : Nat) j, (Value.slice (some ⟨g4, 0, none⟩) n cap).ownBlock = some j → (Value.slice (some ⟨g5, 0, none⟩) n' cap').ownBlock ≠ some j) ∧ Below w.heap.size w w3 ∧ Rf (fun k => F k ∧ k < w.heap.size) w3 p S vs gd cd gt ct vw := by
  have hk : ∀ k, k < w2.heap.size → u5.ownBlock ≠ some k → w3.heap[k]? = w2.heap[k]? := fun k hk hn => (hg.block k (by simp; omega) (fun e => hn e.symm)).trans (Below.heap_alloc _ _ _ hk)
  refine ⟨h4.stays fun j e => hk j (h4.own.lt j e).2 (h45 _ _ j e), fun n n' cap cap' j e e5 => ?_, (hb.alloc hb.size o).grown hg (by simp; exact Nat.le_succ_of_le hb.size) (fun k e => (h5.lt k e).1), ?_⟩
  · have ej : g4 = j := by simpa [Value.ownBlock] using e
    have ej5 : g5 = j := by simpa [Value.ownBlock] using e5
    subst ej
    subst ej5
    rcases hat with e2 | e2
    · exact h45 0 0 _ rfl e2
    · have hlt := (h4.own.lt g5 rfl).2
      rw [World.size_alloc] at e2
      omega
  · exact hd.stays (fun k hkk hf => hk k hkk (fun e => by have := (h5.lt k e).1; have := hf.2; omega)) (Nat.le_trans (by simp) hg.size)

set_option maxHeartbeats 2000000 in
theorem rimage (h : RD F w p S) : Calls Try.prog 65 #[.pointer (some ⟨p, 0, none⟩)] w (ImageIs w S.last) := by
  obtain ⟨vs, gd, cd, gt, ct, vw, h⟩ := h
  have h := h.mono (F' := fun k => F k ∧ k < w.heap.size) (fun k hk hf => ⟨hf, hk⟩)
  have hlo := h.wf.lo
  have hhi := h.wf.hi
  have H0 := Lib.hid h
  clear h
  go_enter Try.func65, Try.ntmps65
  go_wp2
  go_loopw [4, 5, 6] (fun v4 v5 i wr => ∃ k : Nat, i = .int .i64 (k : Nat) ∧ k ≤ S.last.length ∧ OB w.heap.size wr v4 (imgB (S.last.take k)) ∧ OI w.heap.size wr v5 (tornN S.last k) ∧ (∀ j, v4.ownBlock = some j → v5.ownBlock ≠ some j) ∧ Below w.heap.size w wr ∧ Rf (fun k => F k ∧ k < w.heap.size) wr p S vs gd cd gt ct vw) (fun _ _ i _ => S.last.length - (intOf i).toNat)
  case atStart => exact ⟨0, rfl, Nat.zero_le _, OB.nil _ _, World.ownsRow_nil _ _ _ _, fun j e => by simp [Value.ownBlock] at e, Below.refl _ _, H0.out⟩
  case round =>
    obtain ⟨k, rfl, hk, h4, h5, h45, hB, hd⟩ := hrel
    have c3 := hd.cell 3
    by_cases hlt : k < S.last.length
    · obtain ⟨c, hc⟩ : ∃ c, S.last[k]? = some c := ⟨_, List.getElem?_eq_getElem hlt⟩
      have hcb := hd.wf.lb c (List.mem_of_getElem? hc)
      obtain ⟨gb, capb, hv, hcapb, rbb, -, -, -⟩ := hd.at_ k c hc
      obtain ⟨v1, v2⟩ := hd.dataAt hv
      have hki : (k : Int) < (S.last.length : Int) := by omega
      have HSZ := Lib.hid (show (imgB (S.last.take k)).length + 64 ≤ 140737488355328 by rw [imgB_len _ (fun y hy => hd.wf.lb y (List.mem_of_mem_take hy)), List.length_take]; omega)
      have HNX := Lib.hid (show imgB (S.last.take k) ++ c.b = imgB (S.last.take (k + 1)) by rw [List.take_add_one, hc]; simp [imgB])
      have HTB := Lib.hid (show (tornN S.last k).length ≤ 4398046511104 by have := tornN_len S.last k; omega)
      have H4 := Lib.hid h4
      have H5 := Lib.hid h5
      have HBB := Lib.hid hB
      have HD := Lib.hid hd
      have RBB := Lib.hid rbb
      have HC := Lib.hid hc
      have HLT := Lib.hid hlt
      have HCL := Lib.hid hcb.len
      clear h4 h5 hB hd rbb hv v2
      cases htc : c.t with
      | true =>
        have HT := Lib.hid htc
        clear htc hc
        go_wp2_with (first
          | (at_builtin; refine ob_append_far rfl (.tmp 16) (.tmp 23) rfl w.heap.size u4 (imgB (S.last.take k)) rfl H4.out (some ⟨gb, 0, none⟩) 64 capb c.b rfl RBB.out (by decide) HSZ.out HBB.out.size ?_; intro g4 cap4 w2 ho4 hg4 hat4; have fx := rafter4 H4.out H5.out h45 hg4 hat4 HBB.out HD.out; have H42 := Lib.hid ho4; have H52 := Lib.hid fx.1; have H452 := Lib.hid fx.2.1; have HB2 := Lib.hid fx.2.2.1; have HD2 := Lib.hid fx.2.2.2; have d4 := fx.2.2.2.cell 4; have dt := (fx.2.2.2.tornAt HC.out).1; rw [HT.out] at dt; clear fx ho4 hg4 hat4)
          | (at_builtin; have H53 := Lib.hid (OI.stays H52.out (w' := w2.alloc (.cells #[.int .i64 (k : Int)] 3)) fun j e => Below.heap_alloc _ _ _ (H52.out.lt j e).2); have hc3 : (w2.alloc (.cells #[.int .i64 (k : Int)] 3)).cell? ⟨w2.heap.size, 0, none⟩ = some (.int .i64 (k : Int)) := (by rw [cell_of_row _ _ _ _ _ _ (heap_alloc_new _ _)]; rfl); refine oi_append rfl (.tmp 32) (.tmp 34) rfl w.heap.size u5 (tornN S.last k) rfl H53.out w2.heap.size 1 (k : Int) rfl hc3 HTB.out (by simp; exact Nat.le_succ_of_le HB2.out.size) ?_; intro g5 cap5 w3 ho5 hg5 hat5))
        obtain ⟨q4, q45, qb, qd⟩ := rafter5 H42.out H52.out H452.out hg5 hat5 HB2.out HD2.out
        go_roundw
        case rel =>
          rw [HNX.out] at q4
          have e4 : (imgB (S.last.take k)).length + c.b.length = (imgB (S.last.take (k + 1))).length := by rw [← HNX.out, List.length_append]
          have e5 : (tornN S.last k).length + 1 = (tornN S.last k ++ [(k : Int)]).length := by simp
          refine ⟨k + 1, by go_num, HLT.out, ?_, ?_, fun j e => q45 _ _ _ _ j e, qb, qd⟩
          · rw [e4]; exact q4
          · rw [e5, tornN_true HC.out HT.out]; exact ho5
        case measure => simp [intOf]; omega
      | false =>
        have HT := Lib.hid htc
        clear htc hc
        go_wp2_with (at_builtin; refine ob_append_far rfl (.tmp 16) (.tmp 23) rfl w.heap.size u4 (imgB (S.last.take k)) rfl H4.out (some ⟨gb, 0, none⟩) 64 capb c.b rfl RBB.out (by decide) HSZ.out HBB.out.size ?_; intro g4 cap4 w2 ho4 hg4 hat4; have fx := rafter4 H4.out H5.out h45 hg4 hat4 HBB.out HD.out; have H42 := Lib.hid ho4; have H52 := Lib.hid fx.1; have H452 := Lib.hid fx.2.1; have HB2 := Lib.hid fx.2.2.1; have HD2 := Lib.hid fx.2.2.2; have d4 := fx.2.2.2.cell 4; have dt := (fx.2.2.2.tornAt HC.out).1; rw [HT.out] at dt; clear fx ho4 hg4 hat4)
        go_roundw
        case rel =>
          have h4 := H42.out
          rw [HNX.out] at h4
          have e4 : (imgB (S.last.take k)).length + c.b.length = (imgB (S.last.take (k + 1))).length := by rw [← HNX.out, List.length_append]
          refine ⟨k + 1, by go_num, HLT.out, ?_, ?_, fun j e => H452.out _ _ j e, HB2.out, HD2.out⟩
          · rw [e4]; exact h4
          · rw [tornN_false HC.out HT.out]; exact H52.out
        case measure => simp [intOf]; omega
    · obtain rfl : k = S.last.length := by omega
      rw [List.take_length] at h4
      go_wp2
      go_ret2
      exact ⟨_, _, rfl, h4, h5, h45, hB⟩
end
end Go.Proofs.Ytapjgancaldgaaa

/- alikeInts and alikePending of what the program and the reference hold alike. -/
namespace Go.Proofs.Ytapjgancaldgaaa
set_option maxRecDepth 100000
open Go.RowKit

set_option maxHeartbeats 1000000 in
theorem lints {A B : Option Addr} {n : Nat} {zs : List Int} {w : World} (h1 : RI w A n zs) (h2 : RI w B n zs) (c d : Nat) (hn : n ≤ 140737488355328) :
    Calls Try.prog 66 #[.slice A n c, .slice B n d] w fun e w' => e = .returned (.bool true) ∧ ∃ m, w' = w.drewN m := by
  have H1 := Lib.hid h1
  have H2 := Lib.hid h2
  clear h1 h2
  go_enter Try.func66, Try.ntmps66
  go_wp2
  go_loopw [5, 13] (fun _ i wr => ∃ k m : Nat, i = .int .i64 (k : Nat) ∧ k ≤ n ∧ wr = w.drewN m) (fun _ i _ => n - (intOf i).toNat)
  case atStart => exact ⟨0, 0, rfl, Nat.zero_le _, rfl⟩
  case round =>
    obtain ⟨k, m, rfl, hk, hm⟩ := hrel
    by_cases hlt : k < n
    · obtain ⟨b1, o1, rfl, hc1⟩ := H1.out.cell (by omega)
      obtain ⟨b2, o2, rfl, hc2⟩ := H2.out.cell (by omega)
      have k1 : wr.cell? ⟨b1, o1 + k, none⟩ = some (.int .i64 (zs.getD k 0)) := by rw [hm]; exact hc1 k hlt
      have k2 : wr.cell? ⟨b2, o2 + k, none⟩ = some (.int .i64 (zs.getD k 0)) := by rw [hm]; exact hc2 k hlt
      obtain ⟨z, hz⟩ : ∃ z, z = zs.getD k 0 := ⟨_, rfl⟩
      rw [← hz] at k1 k2
      have hki : (k : Int) < (n : Int) := by omega
      have HM := Lib.hid hm
      clear hc1 hc2 hz hm
      go_wp2
      go_quiet (fail)
      go_wp2
      go_roundw
      case rel => exact ⟨k + 1, _, by go_num, hlt, by rw [HM.out, World.drewN_drewN]⟩
      case measure => simp [intOf]; omega
    · obtain rfl : k = n := by omega
      go_wp2
      go_ret
      exact ⟨rfl, m, rfl⟩

set_option maxHeartbeats 2000000 in
theorem lpendR {F : Nat → Prop} {w : World} {g : Nat} {l : List Wr} {L : List (Value × Value)} {G : List Nat} {vw : Value} {p gd gt : Nat} (h : PRow w g l.length l l.length L G) (h' : RWait F w vw l p gd gt) (hb : ∀ x ∈ l, B64 x.b) (hn : l.length ≤ 4398046511104) :
    Calls Try.prog 62 #[.slice (some ⟨g, 0, none⟩) l.length l.length, vw] w fun e w' => e = .returned (.bool true) ∧ ∃ m, w' = w.drewN m := by
  have hr := Lib.hid h
  have hr' := Lib.hid h'
  obtain ⟨A', cap', rfl⟩ := h'.form
  clear h h'
  go_enter Try.func62, Try.ntmps62
  go_wp2
  go_loopw [5, 13] (fun _ i wr => ∃ k m : Nat, i = .int .i64 (k : Nat) ∧ k ≤ l.length ∧ wr = w.drewN m) (fun _ i _ => l.length - (intOf i).toNat)
  case atStart => exact ⟨0, 0, rfl, Nat.zero_le _, rfl⟩
  case round =>
    obtain ⟨k, m, rfl, hk, hm⟩ := hrel
    by_cases hlt : k < l.length
    · obtain ⟨x, hx⟩ : ∃ x, l[k]? = some x := ⟨_, List.getElem?_eq_getElem (by omega)⟩
      have hxb := hb x (List.mem_of_getElem? hx)
      obtain ⟨b1, p1, p2, p3, -, -⟩ := hr.out.cells_ hlt x hx hxb
      obtain ⟨g', cap, hgv, -, -, -, -, -, hrow⟩ := hr'.out.row (by intro e; rw [e] at hlt; simp at hlt)
      injection hgv with hg1 hg2 hg3
      subst hg1
      subst hg3
      obtain ⟨b2, cb, q1, q2, -, q3, -⟩ := hrow k x hx
      have c1 : wr.cell? ⟨g, k * 2, none⟩ = some (.int .i64 (x.p : Int)) := by rw [hm]; exact p1
      have c2 : wr.cell? ⟨g, k * 2 + 1, none⟩ = some (.slice (some ⟨b1, 0, none⟩) 64 64) := by rw [hm]; exact p2
      have c3 : wr.cell? ⟨g', k * 2, none⟩ = some (.int .i64 (x.p : Int)) := by rw [hm]; exact q1
      have c4 : wr.cell? ⟨g', k * 2 + 1, none⟩ = some (.slice (some ⟨b2, 0, none⟩) 64 cb) := by rw [hm]; exact q2
      have R1 := Lib.hid (show RB wr (some ⟨b1, 0, none⟩) 64 x.b by rw [hm]; exact p3.drewN _)
      have R2 := Lib.hid (show RB wr (some ⟨b2, 0, none⟩) 64 x.b by rw [hm]; exact q3.drewN _)
      have hki : (k : Int) < (l.length : Int) := by omega
      have HM := Lib.hid hm
      clear p1 p2 p3 q1 q2 q3 hm hx hrow
      go_wp2
      go_quiet ((go_at_call 61; exact Calls.quiet_of_same (lalike_same 64 cb (R1.out.drewN _) (R2.out.drewN _))))
      go_wp2
      go_roundw
      case rel => exact ⟨k + 1, _, by go_num, hlt, by rw [HM.out, World.drewN_drewN]⟩
      case measure => simp [intOf]; omega
    · obtain rfl : k = l.length := by omega
      go_wp2
      go_ret
      exact ⟨rfl, m, rfl⟩
end Go.Proofs.Ytapjgancaldgaaa

/- Rows of pending writes, as the reference lays them anew. -/
namespace Go.Proofs.Ytapjgancaldgaaa
set_option maxRecDepth 100000
open Go.RowKit

theorem RWait.list {F : Nat → Prop} {w : World} {g cap : Nat} {l : List Wr} {p gd gt : Nat} (h : RWait F w (.slice (some ⟨g, 0, none⟩) l.length cap) l p gd gt) (hn : l ≠ []) :
    ∃ L : List (Value × Value), L.length = l.length ∧ (∀ j u, (L.flatMap pc)[j]? = some u → w.cell? ((⟨g, 0, none⟩ : Addr).add j) = some u) ∧ (∀ u ∈ L.flatMap pc, u.oneCell' = true) ∧
      (∀ (i : Nat) (x : Wr), l[i]? = some x → ∃ b cb, L[i]? = some (.int .i64 (x.p : Int), .slice (some ⟨b, 0, none⟩) 64 cb) ∧ 64 ≤ cb ∧ RB w (some ⟨b, 0, none⟩) 64 x.b ∧ b < w.heap.size ∧ F b ∧ b ≠ p ∧ b ≠ gd ∧ b ≠ gt) := by
  obtain ⟨g', cap', e, _, _, _, _, _, hrow⟩ := h.row hn
  injection e with e1 e2 e3
  injection e1 with e1
  injection e1 with e1
  subst e1
  have hs : ∀ y : Value × Value, (pc y).length = 2 := fun y => rfl
  let L : List (Value × Value) := (List.range l.length).map fun i => ((w.cell? ⟨g, i * 2, none⟩).getD undef, (w.cell? ⟨g, i * 2 + 1, none⟩).getD undef)
  have hL : L.length = l.length := by simp [L]
  have hat : ∀ (i : Nat) (x : Wr), l[i]? = some x → ∃ b cb, L[i]? = some (.int .i64 (x.p : Int), .slice (some ⟨b, 0, none⟩) 64 cb) ∧ w.cell? ⟨g, i * 2, none⟩ = some (.int .i64 (x.p : Int)) ∧ w.cell? ⟨g, i * 2 + 1, none⟩ = some (.slice (some ⟨b, 0, none⟩) 64 cb) ∧ 64 ≤ cb ∧ RB w (some ⟨b, 0, none⟩) 64 x.b ∧ b < w.heap.size ∧ F b ∧ b ≠ p ∧ b ≠ gd ∧ b ≠ gt := fun i x hx => by
    obtain ⟨b, cb, c1, c2, r⟩ := hrow i x hx
    have hil : i < l.length := (List.getElem?_eq_some_iff.1 hx).1
    exact ⟨b, cb, by simp [L, hil, c1, c2], c1, c2, r⟩
  refine ⟨L, hL, fun j u hu => ?_, fun u hu => ?_, fun i x hx => ?_⟩
  · have hj : j < L.length * 2 := by
      have := (List.getElem?_eq_some_iff.1 hu).1
      rwa [flat_len' (s := 2) L (fun y _ => hs y)] at this
    obtain ⟨i, r, hr, rfl⟩ : ∃ i r, r < 2 ∧ j = i * 2 + r := ⟨j / 2, j % 2, by omega, by omega⟩
    rw [flat_get L (fun y _ => hs y) i r hr] at hu
    have hil : i < l.length := by omega
    obtain ⟨x, hx⟩ : ∃ x, l[i]? = some x := ⟨_, List.getElem?_eq_getElem hil⟩
    obtain ⟨b, cb, e1, c1, c2, _⟩ := hat i x hx
    rw [e1] at hu
    rw [Addr.add_mid, Nat.zero_add]
    have : r = 0 ∨ r = 1 := by omega
    rcases this with rfl | rfl
    · simp [pc] at hu; subst hu; exact c1
    · simp [pc] at hu; subst hu; exact c2
  · obtain ⟨y, hy, hu2⟩ := List.mem_flatMap.1 hu
    obtain ⟨i, hi⟩ := List.getElem?_of_mem hy
    have hil : i < l.length := by have := (List.getElem?_eq_some_iff.1 hi).1; omega
    obtain ⟨x, hx⟩ : ∃ x, l[i]? = some x := ⟨_, List.getElem?_eq_getElem hil⟩
    obtain ⟨b, cb, e1, _⟩ := hat i x hx
    rw [hi] at e1
    cases e1
    simp [pc] at hu2
    rcases hu2 with rfl | rfl <;> rfl
  · obtain ⟨b, cb, e1, _, _, r⟩ := hat i x hx
    exact ⟨b, cb, e1, r⟩

theorem rwait_own {F : Nat → Prop} {w : World} {base g cap : Nat} {l : List Wr} {L : List (Value × Value)} {p gd gt : Nat} (own : w.ownsRow base 114 2 (.slice (some ⟨g, 0, none⟩) l.length cap) l.length (L.flatMap pc)) (hn : l ≠ []) (hL : L.length = l.length)
    (hg : F g ∧ g ≠ p ∧ g ≠ gd ∧ g ≠ gt) (hat : ∀ (i : Nat) (x : Wr), l[i]? = some x → ∃ b cb, L[i]? = some (.int .i64 (x.p : Int), .slice (some ⟨b, 0, none⟩) 64 cb) ∧ 64 ≤ cb ∧ RB w (some ⟨b, 0, none⟩) 64 x.b ∧ b < w.heap.size ∧ F b ∧ b ≠ p ∧ b ≠ gd ∧ b ≠ gt) :
    RWait F w (.slice (some ⟨g, 0, none⟩) l.length cap) l p gd gt :=
  ⟨fun e => absurd e hn, fun _ => ⟨g, cap, rfl, (own.lt g rfl).2, hg.1, hg.2.1, hg.2.2.1, hg.2.2.2, fun i x hx => by
    obtain ⟨b, cb, e, r⟩ := hat i x hx
    have hs : ∀ y ∈ L, (pc y).length = 2 := fun y _ => rfl
    have hil : i < l.length := (List.getElem?_eq_some_iff.1 hx).1
    refine ⟨b, cb, ?_, ?_, r⟩
    · rw [own.cellAt (i * 2) (by omega)]
      have := flat_get L hs i 0 (by omega)
      rw [Nat.add_zero] at this
      rw [this, e]; rfl
    · rw [own.cellAt (i * 2 + 1) (by omega), flat_get L hs i 1 (by omega), e]; rfl⟩⟩
end Go.Proofs.Ytapjgancaldgaaa

/- The reference's Write. -/
namespace Go.Proofs.Ytapjgancaldgaaa
set_option maxRecDepth 100000
open Go.RowKit

theorem wpList_appP {w : World} {ops : Array Oper} {rest : List Oper} {o : Oper} {a : Act} {Q : Exit → Act → World → Prop} (hgd : o.guard = none) (s x : Operand)
    (ho : o.op = .call { callee := .builtin .append, args := #[s, x], argTypes := #[29, 29] }) (vs vx v : Value) (w' : World) (hs : a.eval s = vs) (hx : a.eval x = vx)
    (hrun : (Builtin.append_ #[29, 29] o.type #[vs, vx]).run Try.prog w = .ok v w') (h : wpList Try.prog ops Q rest (a.put o.dst v) w') : wpList Try.prog ops Q (o :: rest) a w := by
  refine wpList_plain hgd fun K hK => ?_
  unfold Oper.wp
  simp [execOp, ho, resolve, invoke, builtin, hs, hx, hrun, Result.andThen]
  exact hK _ _ h

def WAt (F : Nat → Prop) (w : World) (l : List Wr) (L : List (Value × Value)) (p gd gt : Nat) : Prop :=
  ∀ (i : Nat) (x : Wr), l[i]? = some x → ∃ b cb, L[i]? = some (.int .i64 (x.p : Int), .slice (some ⟨b, 0, none⟩) 64 cb) ∧ 64 ≤ cb ∧ RB w (some ⟨b, 0, none⟩) 64 x.b ∧ b < w.heap.size ∧ F b ∧ b ≠ p ∧ b ≠ gd ∧ b ≠ gt
theorem WAt.stays {F F' : Nat → Prop} {w w' : World} {l : List Wr} {L : List (Value × Value)} {p gd gt : Nat} (h : WAt F w l L p gd gt) (hb : Below w.heap.size w w') (hF : ∀ k, F k → F' k) : WAt F' w' l L p gd gt := fun i x hx => by
  obtain ⟨b, cb, e, hc, rb, lb, fb, m⟩ := h i x hx
  exact ⟨b, cb, e, hc, rb.below' hb, Nat.lt_of_lt_of_le lb hb.size, hF b fb, m⟩

/-- The row of waiting writes once more, in memory of its own. -/
theorem wait_copy {F : Nat → Prop} {w : World} {ops : Array Oper} {rest : List Oper} {o : Oper} {a : Act} {Q : Exit → Act → World → Prop} (hgd : o.guard = none) (s x : Operand)
    (ho : o.op = .call { callee := .builtin .append, args := #[s, x], argTypes := #[29, 29] }) {vw : Value} {l : List Wr} {p gd gt : Nat} (hs : a.eval s = .slice none 0 0) (hx : a.eval x = vw) (h : RWait F w vw l p gd gt) (hm : l.length ≤ 4398046511104)
    (K : ∀ v1 w2 L, w2.ownsRow w.heap.size 114 2 v1 l.length (L.flatMap pc) → L.length = l.length → WAt F w l L p gd gt → Below w.heap.size w w2 → wpList Try.prog ops Q rest (a.put o.dst v1) w2) : wpList Try.prog ops Q (o :: rest) a w := by
  obtain ⟨i0, hi, hz0, hz1, hz2⟩ := info_parts infoP
  by_cases hn : l = []
  · subst hn
    have := h.nil_ rfl
    subst this
    have hrun := run_append_nothing (P := Try.prog) w (base := w.heap.size) (size := 2) 29 o.type i0 Try.underlying29 hi (World.ownsRow_nil _ _ _ _) 0
    exact wpList_appP hgd s x ho _ _ _ _ hs hx hrun (K _ w [] (World.ownsRow_nil _ _ _ _) rfl (fun i x hx => by simp at hx) (Below.refl _ _))
  · obtain ⟨g, cap, rfl, _⟩ := h.row hn
    obtain ⟨L, hL, hcell, hone, hat⟩ := h.list hn
    have hpos : 0 < l.length := Nat.pos_of_ne_zero (fun e => hn (List.eq_nil_of_length_eq_zero e))
    obtain ⟨g', cap', w', hrun, h1, h2, h3, -⟩ := run_append_far (P := Try.prog) w w.heap.size 29 o.type 114 i0 _ 2 32 Try.underlying29 hi hz0 hz1 hz2 (by rfl) (by decide) (.slice none 0 0) 0 [] (World.ownsRow_nil _ _ _ _) ⟨g, 0, none⟩ l.length cap (L.flatMap pc) (by rw [flat_len' (s := 2) L (fun y _ => rfl), hL]) hcell hone hpos (by simp only [maxLen]; omega) (by omega) (Nat.le_refl _)
    have hb : Below w.heap.size w w' := ⟨h2.os, h2.tape, h2.output, h2.size, fun k hk => h2.block k hk (by simp [Value.ownBlock])⟩
    refine wpList_appP hgd s x ho _ _ _ _ hs hx hrun (K _ w' L ?_ hL ?_ hb)
    · simpa using h1
    · exact hat
end Go.Proofs.Ytapjgancaldgaaa

/- The walk of the reference's Write. -/
namespace Go.Proofs.Ytapjgancaldgaaa
set_option maxRecDepth 100000
open Go.RowKit

theorem wait_more {w : World} {ops : Array Oper} {rest : List Oper} {o : Oper} {a : Act} {Q : Exit → Act → World → Prop} (hgd : o.guard = none) (s x : Operand)
    (ho : o.op = .call { callee := .builtin .append, args := #[s, x], argTypes := #[29, 29] }) {v1 : Value} {base m : Nat} {L : List (Value × Value)} (hs : a.eval s = v1) (own : w.ownsRow base 114 2 v1 m (L.flatMap pc))
    (B : Nat) (hx : a.eval x = .slice (some ⟨B, 0, none⟩) 1 1) (k b cb : Nat) (k0 : w.cell? ⟨B, 0, none⟩ = some (.int .i64 (k : Int))) (k1 : w.cell? ⟨B, 1, none⟩ = some (.slice (some ⟨b, 0, none⟩) 64 cb)) (hm : m ≤ 4398046511104) (hbase : base ≤ w.heap.size)
    (K : ∀ g cap w5, w5.ownsRow base 114 2 (.slice (some ⟨g, 0, none⟩) (m + 1) cap) (m + 1) ((L ++ [(Value.int .i64 (k : Int), Value.slice (some ⟨b, 0, none⟩) 64 cb)]).flatMap pc) → w.grownBy w5 v1.ownBlock → (v1.ownBlock = some g ∨ g = w.heap.size) → wpList Try.prog ops Q rest (a.put o.dst (.slice (some ⟨g, 0, none⟩) (m + 1) cap)) w5) : wpList Try.prog ops Q (o :: rest) a w := by
  obtain ⟨i0, hi, hz0, hz1, hz2⟩ := info_parts infoP
  refine wpList_append_far w hgd s x 29 ho base 114 i0 _ 2 32 Try.underlying29 hi hz0 hz1 hz2 (by rfl) (by decide) v1 m _ hs own ⟨B, 0, none⟩ 1 1 [.int .i64 (k : Int), .slice (some ⟨b, 0, none⟩) 64 cb] hx rfl ?_ (by simp; exact ⟨rfl, rfl⟩) (by decide) (by simp only [maxLen]; omega) (by omega) hbase ?_
  · intro j u hu
    have hj : j = 0 ∨ j = 1 := by have := (List.getElem?_eq_some_iff.1 hu).1; simp at this; omega
    rcases hj with rfl | rfl
    · simp at hu; subst hu; exact k0
    · simp at hu; subst hu; rw [Addr.add_mid]; exact k1
  · intro g cap w5 h1 h2 h3
    exact K g cap w5 (by rw [List.flatMap_append]; exact h1) h2 h3

set_option maxHeartbeats 2000000 in
theorem rwrite {F : Nat → Prop} {w : World} {p : Nat} {S : St} (h : RD F w p S) (n : Int) (A : Option Addr) (m c : Nat) (zs : List Int) (hz : RB w A m zs) (hA : Far F A m) (hm : S.pend.length < 2199023255552) :
    Calls Try.prog 26 #[.pointer (some ⟨p, 0, none⟩), .int .i64 n, .slice A m c] w (RCodes F w p (writeS S n zs) (writeE S n zs.length)) := by
  obtain ⟨vs, gd, cd, gt, ct, vw, h⟩ := h
  have c0 := h.cell 0
  have c1 := h.cell 1
  have c3 := h.cell 3
  have sp := h.spend_
  have hlen := hz.len
  unfold writeS writeE
  by_cases ho : S.off = true
  · rw [if_pos ho, if_pos ho]
    rw [ho] at c1
    have HE := Lib.hid (rcodes (c := 22) h (Out.refl F w))
    clear h ho sp hz hlen
    go_enter Try.func26, Try.ntmps26
    go_wp2
    go_ret
    exact HE.out
  · rw [if_neg ho, if_neg ho]
    have ho2 : S.off = false := by simpa using ho
    rw [ho2] at c1
    clear ho2
    by_cases hp : 0 ≤ n ∧ n < (S.last.length : Int)
    · rw [if_neg (not_not_intro hp), if_neg (not_not_intro hp)]
      obtain ⟨k, rfl⟩ := Int.eq_ofNat_of_zero_le hp.1
      have hkd : decide ((S.last.length : Int) ≤ (k : Int)) = false := by simp; omega
      have hki : (k : Int) < (S.last.length : Int) := hp.2
      by_cases h64 : m = 64
      · rw [if_neg (show ¬ (zs.length ≠ 64) by omega), if_neg (show ¬ (zs.length ≠ 64) by omega)]
        by_cases hpl : S.plan = 0
        · have e0 : spendE S = 22 := by unfold spendE; rw [if_pos hpl]
          have e1 : rpow S = false := by unfold rpow; simp [hpl]
          rw [e0, if_pos hpl]
          rw [e1] at sp
          subst h64
          clear h ho hpl e0 e1 hz hlen hp
          go_enter Try.func26, Try.ntmps26
          go_wp2_with (go_at_call 69; refine sp.mono ?_; rintro e w1 ⟨rfl, h1, o1⟩; have HE := Lib.hid (rcodes (c := 22) h1 o1); clear h1 o1)
          go_ret
          exact HE.out
        · have e0 : spendE S = 0 := by unfold spendE; rw [if_neg hpl]
          have e1 : rpow S = true := by unfold rpow; simp [hpl]
          rw [e0, if_neg hpl]
          rw [e1] at sp
          obtain ⟨T, hT⟩ : ∃ T, T = spendS S := ⟨_, rfl⟩
          rw [← hT] at sp ⊢
          have hl : S.last = T.last := by rw [hT, spendS_last]
          have hp2 : S.pend = T.pend := by rw [hT, spendS_pend]
          have hwr : S.writes = T.writes := by rw [hT]; unfold spendS; split <;> (try split) <;> rfl
          rw [hp2, hwr]
          rw [hp2] at hm
          rw [hl] at hki
          subst h64
          have HZ := Lib.hid hz
          have HA := Lib.hid hA
          have HKI := Lib.hid hki
          have HM := Lib.hid (show T.pend.length ≤ 4398046511104 by omega)
          have HZB := Lib.hid (show B64 zs from ⟨hlen, hz.byte⟩)
          have hki0 : (k : Int) < (S.last.length : Int) := hp.2
          clear h ho hpl e0 e1 hz hlen hp hT hl hp2 hwr hA hki
          go_enter Try.func26, Try.ntmps26
          go_upto_region 11 with (go_at_call 69; refine sp.mono ?_; rintro e w1 ⟨rfl, h1, o1⟩; have d5 := h1.cell 5; have H1 := Lib.hid h1; have O1 := Lib.hid o1; have RZ1 := Lib.hid (o1.rb HZ.out (fun ad e hpos hf => HA.out ad e hpos hf)); clear h1 o1 sp)
          go_upto_region 12 with (first
            | (at_builtin; refine wait_copy rfl (.const (.slice none 0 0)) (.tmp 42) rfl rfl rfl H1.out.wait HM.out ?_; intro v1 w2 L own2 hL2 at2 b2; have OW2 := Lib.hid own2; have HL2 := Lib.hid hL2; have AT2 := Lib.hid at2; have B2 := Lib.hid b2; have RZ2 := Lib.hid (RZ1.out.below' b2); clear own2 hL2 at2 b2)
            | (go_at_call 70; refine (rcopied w2 A c zs RZ2.out).mono ?_; rintro e w3 ⟨cb, rfl, hcb, rb3, b3, l3⟩; obtain ⟨W4, hW4⟩ : ∃ W, W = w3.alloc (.cells #[.int .i64 (k : Int), .slice (some ⟨w2.heap.size, 0, none⟩) 64 cb] 114) := ⟨_, rfl⟩; have q0 : W4.heap[w3.heap.size]? = some (.cells #[.int .i64 (k : Int), .slice (some ⟨w2.heap.size, 0, none⟩) 64 cb] 114 (0, 0)) := (by rw [hW4]; exact heap_alloc_new _ _); have b4 : Below w3.heap.size w3 W4 := (by rw [hW4]; exact (Below.refl _ _).alloc (Nat.le_refl _) _); have hW4r := hW4.symm; have a0 : W4.cell? ⟨w3.heap.size, 0, none⟩ = some (.int .i64 (k : Int)) := (by rw [cell_of_row _ _ _ _ _ _ q0]; rfl); have a1 : W4.cell? ⟨w3.heap.size, 1, none⟩ = some (.slice (some ⟨w2.heap.size, 0, none⟩) 64 cb) := (by rw [cell_of_row _ _ _ _ _ _ q0]; rfl); have B24 := Lib.hid (show Below w2.heap.size w2 W4 from b3.trans (b4.mono b3.size)); have RB4 := Lib.hid (rb3.below' b4); have L4 := Lib.hid (show w2.heap.size < W4.heap.size from Nat.lt_of_lt_of_le l3 b4.size); have OW4 := Lib.hid (own_stays (w' := W4) OW2.out (fun j e => B24.out.block j (OW2.out.lt j e).2)); clear hW4 q0 b4 rb3 b3 l3)
            | (at_builtin; refine wait_more rfl (.tmp 43) (.tmp 48) rfl rfl OW4.out w3.heap.size rfl k w2.heap.size cb a0 a1 HM.out (Nat.le_trans B2.out.size B24.out.size) ?_; intro g cap5 w5 own5 gr5 at5; have OW5 := Lib.hid own5; have GR5 := Lib.hid gr5; have AT5 := Lib.hid at5; have B15 := Lib.hid (show Below w1.heap.size w1 w5 from ((B2.out.trans (B24.out.mono B2.out.size)).grown gr5 (Nat.le_trans B2.out.size B24.out.size) (fun k e => (OW4.out.lt k e).1))); have h5 := H1.out.below B15.out; have e5 := h5.cell 5; have f5 := h5.frozen 5; clear h5 own5 gr5 at5))
          have h5 := H1.out.below B15.out
          have e6 := h5.cell 6
          have f6 := h5.frozen 6
          have hw1 : w.heap.size ≤ w1.heap.size := O1.out.size
          have hp1 := H1.out.plt
          have hd1 := H1.out.dlt
          have ht1 := H1.out.tlt
          have hg1 : w1.heap.size ≤ g := (OW5.out.lt g rfl).1
          have h12 : w1.heap.size ≤ w2.heap.size := B2.out.size
          have HWT := Lib.hid (show RWait (Gr F w) w5 (.slice (some ⟨g, 0, none⟩) (T.pend.length + 1) cap5) (T.pend ++ [⟨k, zs⟩]) p gd gt by
            have hl : (T.pend ++ [(⟨k, zs⟩ : Wr)]).length = T.pend.length + 1 := by simp
            have own5 := OW5.out
            rw [← hl] at own5 ⊢
            refine rwait_own own5 (by simp) (by rw [hl]; simp [HL2.out]) ⟨.inr (by omega), by omega, by omega, by omega⟩ (fun i x hx => ?_)
            have at1 := AT2.out.stays B15.out (F' := Gr F w) (fun _ hf => .inl hf)
            by_cases hi : i < T.pend.length
            · rw [List.getElem?_append_left hi] at hx
              obtain ⟨b, cb', e, r⟩ := at1 i x hx
              exact ⟨b, cb', by rw [List.getElem?_append_left (by rw [HL2.out]; exact hi)]; exact e, r⟩
            · have hil := (List.getElem?_eq_some_iff.1 hx).1
              rw [hl] at hil
              obtain rfl : i = T.pend.length := by omega
              rw [List.getElem?_append_right (Nat.le_refl _)] at hx
              simp at hx
              subst hx
              refine ⟨w2.heap.size, cb, by rw [List.getElem?_append_right (by rw [HL2.out]; exact Nat.le_refl _), HL2.out]; simp, hcb, rb_stays RB4.out (GR5.out.block _ L4.out (fun e => by have := (OW2.out.lt _ e.symm).2; omega)), Nat.lt_of_lt_of_le L4.out GR5.out.size, .inr (by omega), by omega, by omega, by omega⟩)
          have HWF := Lib.hid (show (∀ x ∈ T.pend ++ [(⟨k, zs⟩ : Wr)], B64 x.b) ∧ ∀ x ∈ T.pend ++ [(⟨k, zs⟩ : Wr)], x.p < T.last.length from ⟨fun x hx => by
            rcases List.mem_append.1 hx with hx | hx
            · exact H1.out.wf.pb x hx
            · simp at hx; subst hx; exact HZB.out, fun x hx => by
            rcases List.mem_append.1 hx with hx | hx
            · exact H1.out.wf.pp x hx
            · simp at hx; subst hx; have := HKI.out; show k < _; omega⟩)
          have H5 := Lib.hid (h5.mono (F' := Gr F w) (fun _ _ hf => .inl hf))
          have HO := Lib.hid ((((O1.out.then (Out.of_below B15.out F))).setCell (p := ⟨p, 5, none⟩) (.inl H1.out.fp) (.slice (some ⟨g, 0, none⟩) (T.pend.length + 1) cap5)).setCell (p := ⟨p, 6, none⟩) (.inl H1.out.fp) (.int .i64 (wrap64 (T.writes + 1))))
          clear h5
          go_wp2
          go_ret
          refine ⟨rfl, ⟨vs, gd, cd, gt, ct, (.slice (some ⟨g, 0, none⟩) (T.pend.length + 1) cap5), ?_⟩, HO.out⟩
          refine H5.out.head ((w5.setCell ⟨p, 5, none⟩ (.slice (some ⟨g, 0, none⟩) (T.pend.length + 1) cap5)).setCell ⟨p, 6, none⟩ (.int .i64 (wrap64 (T.writes + 1)))) { T with pend := T.pend ++ [⟨k, zs⟩], writes := wrap64 (T.writes + 1) } (.slice (some ⟨g, 0, none⟩) (T.pend.length + 1) cap5) rfl HWF.out.1 HWF.out.2 H1.out.wf.pl (by rw [blk_set (blk_set H5.out.blk 5 _)]; rfl) (fun k _ hk => (heap_setCell_ne _ _ _ _ k hk).trans (heap_setCell_ne _ _ _ _ k hk)) (by simp [World.setCell]) ?_
          exact HWT.out.stays (fun k _ _ hk _ _ => (heap_setCell_ne _ _ _ _ k hk).trans (heap_setCell_ne _ _ _ _ k hk)) (by simp [World.setCell]) (fun _ _ h => h)
      · rw [if_pos (show zs.length ≠ 64 by omega), if_pos (show zs.length ≠ 64 by omega)]
        have HE := Lib.hid (rcodes (c := 21) h (Out.refl F w))
        have h65 : ((m : Int) != 64) = true := by simp; omega
        clear h sp hz hlen ho hp
        go_enter Try.func26, Try.ntmps26
        go_wp2
        go_ret
        exact HE.out
    · rw [if_pos hp, if_pos hp]
      have HE := Lib.hid (rcodes (c := 20) h (Out.refl F w))
      have hrest : n < 0 ∨ (¬ n < 0 ∧ (S.last.length : Int) ≤ n) := by omega
      clear h sp hz hlen ho
      go_enter Try.func26, Try.ntmps26
      rcases hrest with h1 | ⟨h1, h2⟩
      · clear hp
        go_wp2
        go_ret
        exact HE.out
      · have h3 : decide (n < 0) = false := by simp; omega
        clear hp
        go_wp2
        go_ret
        exact HE.out
end Go.Proofs.Ytapjgancaldgaaa
