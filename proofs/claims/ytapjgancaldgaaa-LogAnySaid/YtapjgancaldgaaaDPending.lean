/- The call of Pending. -/
import Derived.Test.YtapjgancaldgaaaDCrash
namespace Go.Proofs.Ytapjgancaldgaaa
set_option maxRecDepth 100000
open Go.RowKit

def pc (x : Value × Value) : List Value := [x.1, x.2]
theorem pc_len (x : Value × Value) : (pc x).length = 2 := rfl
def pz : Value × Value := (.int .i64 0, .slice none 0 0)
theorem infoP : (Try.prog.info? 114).map (fun i => (i.zero, i.size, i.bytes)) = some (some (.agg (pc pz).toArray), 2, 32) := by kernel_rfl
theorem run_makeP (w : World) (n : Nat) (h : n ≤ 4398046511104) : (Instr.makeSlice 29 (.int .i64 (n : Int)) (.int .i64 (n : Int))).run Try.prog w = .ok (.slice (some ⟨w.heap.size, 0, none⟩) n n) (w.alloc (.cells ((List.replicate n pz).flatMap pc).toArray 114)) := by
  obtain ⟨i0, hi, hz0, hz1, hz2⟩ := info_parts infoP
  have h1 := run_make (P := Try.prog) w 29 114 i0 (.agg (pc pz).toArray) Try.underlying29 hi hz0 .i64 .i64 n n (by omega) (by omega) (by rw [hz2]; omega) (by omega)
  rw [hz1] at h1
  simp only [Int.toNat_natCast] at h1
  rw [h1]
  congr 3
  exact made_flat pc pz 2 rfl (by omega) _ rfl n

theorem dlist' (zs : List Int) (w : World) (hl : zs.length = 64) :
    Calls Try.prog 84 #[.agg (bc zs).toArray] w fun e w' => e = .returned (.slice (some ⟨w.heap.size, 0, none⟩) 64 64) ∧ ByteBlk w' w.heap.size 95 zs ∧ Below w.heap.size w w' ∧ w.heap.size < w'.heap.size := by
  refine (dlist (bc zs) w (by rw [bc_len, hl])).mono ?_
  rintro e w' ⟨rfl, rfl⟩
  exact ⟨rfl, heap_alloc_new _ _, (Below.refl _ _).alloc (Nat.le_refl _) _, by simp⟩

/-- A row of n pending writes at block g: the first k are those of l, their bytes in the blocks G. -/
structure PRow (w : World) (g n : Nat) (l : List Wr) (k : Nat) (L : List (Value × Value)) (G : List Nat) : Prop where
  own : w.ownsRow 0 114 2 (.slice (some ⟨g, 0, none⟩) n n) n (L.flatMap pc)
  llen : L.length = n
  glen : G.length = k
  nodup : G.Nodup
  gt : ∀ b ∈ G, g < b ∧ b < w.heap.size
  at_ : ∀ (i : Nat) (x : Wr), i < k → l[i]? = some x → ∃ b, G[i]? = some b ∧ L[i]? = some (.int .i64 (x.p : Int), .slice (some ⟨b, 0, none⟩) 64 64) ∧ ByteBlk w b 95 x.b

theorem PRow.step {w w4 w5 : World} {g n : Nat} {l : List Wr} {k : Nat} {L : List (Value × Value)} {G : List Nat} (h : PRow w g n l k L G) (hk : k < n) (x : Wr) (hx : l[k]? = some x) (hb4 : Below w.heap.size w w4) (B : Nat) (hB : w.heap.size ≤ B) (hblk : ByteBlk w4 B 95 x.b)
    (hw5 : w5 = (w4.setCell ⟨g, k * 2, none⟩ (.int .i64 (x.p : Int))).setCell ⟨g, k * 2 + 1, none⟩ (.slice (some ⟨B, 0, none⟩) 64 64)) : PRow w5 g n l (k + 1) (L.set k (.int .i64 (x.p : Int), .slice (some ⟨B, 0, none⟩) 64 64)) (G ++ [B]) := by
  have hgl : g < w.heap.size := (h.own.lt g rfl).2
  have hs : ∀ y ∈ L, (pc y).length = 2 := fun y _ => rfl
  have h4 : w4.ownsRow 0 114 2 (.slice (some ⟨g, 0, none⟩) n n) n (L.flatMap pc) := own_stays h.own fun j e => hb4.block j (h.own.lt j e).2
  have h5 := own_setCells (pc (.int .i64 (x.p : Int), .slice (some ⟨B, 0, none⟩) 64 64)) (k * 2) h4
  rw [flat_put L hs k (by rw [h.llen]; exact hk) _ rfl] at h5
  have he : (w4.setCells g (k * 2) (pc (.int .i64 (x.p : Int), .slice (some ⟨B, 0, none⟩) 64 64))) = w5 := by rw [hw5]; rfl
  rw [he] at h5
  have hot : ∀ j, j ≠ g → w5.heap[j]? = w4.heap[j]? := fun j hj => by rw [← he]; exact heap_setCells g _ _ _ j hj
  have hsz : w5.heap.size = w4.heap.size := by rw [← he]; exact (setCells_rest g _ _ _).2.2.2
  have hBl : B < w4.heap.size := (Array.getElem?_eq_some_iff.1 hblk).1
  refine ⟨h5, by simp [h.llen], by simp [h.glen], ?_, ?_, ?_⟩
  · refine List.nodup_append.2 ⟨h.nodup, by simp, fun a ha b hb => ?_⟩
    simp at hb
    subst hb
    have := (h.gt a ha).2
    omega
  · intro b hb
    rcases List.mem_append.1 hb with hb | hb
    · have := h.gt b hb; have := hb4.size; omega
    · simp at hb; subst hb; omega
  · intro i y hi hy
    rcases Nat.lt_or_ge i k with h1 | h1
    · obtain ⟨b, e1, e2, e3⟩ := h.at_ i y h1 hy
      have hbm := h.gt b (List.mem_of_getElem? e1)
      refine ⟨b, by rw [List.getElem?_append_left (by rw [h.glen]; exact h1)]; exact e1, by rw [List.getElem?_set_ne (by omega)]; exact e2, ?_⟩
      exact (hot b (by omega)).trans ((hb4.block b hbm.2).trans e3)
    · obtain rfl : i = k := by omega
      obtain rfl : x = y := Option.some.inj (hx.symm.trans hy)
      refine ⟨B, by rw [List.getElem?_append_right (by rw [h.glen]; exact Nat.le_refl _), h.glen]; simp, by rw [List.getElem?_set_self (by rw [h.llen]; exact hk)], ?_⟩
      exact (hot B (by omega)).trans hblk

theorem keep2 {w : World} {B g : Nat} {v : Value} {cs : List Value} {o : Nat} (h : w.cell? ⟨B, 0, none⟩ = some v ∧ w.rangeAt B o cs) (hg : g ≠ B) (j : Nat) (u1 u2 : Value) :
    ((w.setCell ⟨g, j, none⟩ u1).setCell ⟨g, j + 1, none⟩ u2).cell? ⟨B, 0, none⟩ = some v ∧ ((w.setCell ⟨g, j, none⟩ u1).setCell ⟨g, j + 1, none⟩ u2).rangeAt B o cs := by
  refine ⟨?_, fun i x hx => ?_⟩
  · rw [World.cell?_setCell_far _ _ _ _ (by simpa using hg), World.cell?_setCell_far _ _ _ _ (by simpa using hg)]; exact h.1
  · rw [World.cell?_setCell_far _ _ _ _ (by simpa using hg), World.cell?_setCell_far _ _ _ _ (by simpa using hg)]; exact h.2 i x hx

/-- What Pending leaves. -/
def PendIs (w : World) (l : List Wr) (e : Ending) (w' : World) : Prop :=
  ∃ L G, e = .returned (.slice (some ⟨w.heap.size, 0, none⟩) l.length l.length) ∧ PRow w' w.heap.size l.length l l.length L G ∧ Below w.heap.size w w'

set_option maxHeartbeats 2000000 in
theorem dpending {F : Nat → Prop} {w : World} {d : Nat} {S : St} (h : PD F w d S) (hm : S.pend.length < 2199023255552) :
    Calls Try.prog 63 #[.pointer (some ⟨d, 0, none⟩)] w (PendIs w S.pend) := by
  obtain ⟨nw, vl, vp, vn, h, hn⟩ := h.shut
  have md := dmade h
  have c1 := h.c1
  obtain ⟨Ap, capp, rfl, hAp⟩ := h.pgen
  have hmk := run_makeP w S.pend.length (by omega)
  obtain ⟨W0, hW0⟩ : ∃ W, W = w.alloc (.cells ((List.replicate S.pend.length pz).flatMap pc).toArray 114) := ⟨_, rfl⟩
  rw [← hW0] at hmk
  have c1' : W0.cell? ⟨d, 1, none⟩ = some (.slice Ap S.pend.length capp) := by rw [hW0]; exact (h.alloc _).c1
  have H0 := Lib.hid (show Dv (fun k => F k ∧ k < w.heap.size) W0 d S nw vl (.slice Ap S.pend.length capp) vn by rw [hW0]; exact h.alloc _)
  have B0 := Lib.hid (show Below w.heap.size w W0 by rw [hW0]; exact (Below.refl _ _).alloc (Nat.le_refl _) _)
  have R0 := Lib.hid (show PRow W0 w.heap.size S.pend.length S.pend 0 (List.replicate S.pend.length pz) [] by
    have hfl : ((List.replicate S.pend.length pz).flatMap pc).length = S.pend.length * 2 := by rw [flat_len' (s := 2) _ (fun y _ => rfl)]; simp
    refine ⟨⟨hfl, .inr ⟨w.heap.size, S.pend.length, _, rfl, Nat.zero_le _, by rw [hW0]; exact heap_alloc_new _ _, Nat.le_refl _, by simp only [maxLen]; omega, by simpa using hfl, by rw [List.take_of_length_le (by simp [hfl])]⟩⟩, by simp, rfl, by simp, by simp, fun i x hi => by omega⟩)
  clear h hn hW0
  go_enter Try.func63, Try.ntmps63
  go_wp2_with (go_at_call 49; refine md.mono ?_; rintro e w' ⟨rfl, rfl⟩)
  go_loopw [4, 5, 20] (fun _ _ i wr => ∃ (k : Nat) (L : List (Value × Value)) (G : List Nat), i = .int .i64 (k : Nat) ∧ k ≤ S.pend.length ∧ PRow wr w.heap.size S.pend.length S.pend k L G ∧ Below w.heap.size w wr ∧ Dv (fun k => F k ∧ k < w.heap.size) wr d S nw vl (.slice Ap S.pend.length capp) vn) (fun _ _ i _ => S.pend.length - (intOf i).toNat)
  case atStart => exact ⟨0, _, _, rfl, Nat.zero_le _, R0.out, B0.out, H0.out⟩
  case round =>
    obtain ⟨k, L, G, rfl, hk, hR, hB, hd⟩ := hrel
    by_cases hlt : k < S.pend.length
    · obtain ⟨gp, rfl⟩ := hAp (by omega)
      obtain ⟨x, hx⟩ : ∃ x, S.pend[k]? = some x := ⟨_, List.getElem?_eq_getElem hlt⟩
      have hxb := hd.wf.pb x (List.mem_of_getElem? hx)
      have HX := Lib.hid hx
      have HR := Lib.hid (hd.pendAt hx)
      have HI := Lib.hid (show (Try.prog.info? 100).map (·.size) = some x.cells.length by rw [Wr.len hxb]; rfl)
      have hz := run_zero83
      have hst := forget_laid hd x hxb
      have hcl := Wr.len hxb
      have hb1 : Below wr.heap.size wr (wr.alloc (.cells x.cells.toArray 100)) := (Below.refl _ _).alloc (Nat.le_refl _) _
      have hw1 : (wr.alloc (.cells x.cells.toArray 100)).heap[wr.heap.size]? = some (.cells x.cells.toArray 100 (0, 0)) := heap_alloc_new _ _
      have hki : (k : Int) < (S.pend.length : Int) := by omega
      generalize wr.alloc (.cells x.cells.toArray 100) = W1 at hst hb1 hw1
      have p1 : W1.cell? ⟨wr.heap.size, 0, none⟩ = some (.int .i64 (x.p : Int)) := by rw [cell_of_row _ _ _ _ _ _ hw1]; rfl
      have p2 : W1.rangeAt wr.heap.size 1 (bc x.b) := fun j v hv => by rw [cell_of_row _ _ _ _ _ _ hw1]; simp [Wr.cells, Nat.add_comm 1 j, hv]
      have hS0 : W1.cell? ⟨wr.heap.size, 0, none⟩ = some (.int .i64 (x.p : Int)) ∧ W1.rangeAt wr.heap.size 1 (bc x.b) := ⟨p1, p2⟩
      have HS0 := Lib.hid hS0
      have hwl := Lib.hid (show wr.heap.size < W1.heap.size from (Array.getElem?_eq_some_iff.1 hw1).1)
      have HPR := Lib.hid hR
      have HB := Lib.hid hB
      have HD := Lib.hid hd
      have HB1 := Lib.hid hb1
      have HK := Lib.hid hlt
      have HG := Lib.hid (show w.heap.size ≠ wr.heap.size from Nat.ne_of_lt (hR.own.lt _ rfl).2)
      have HFL := Lib.hid (show k * 2 + 2 ≤ (L.flatMap pc).length by rw [hR.own.1]; omega)
      clear hx hd hR hB hb1 hw1 p1 p2 hS0
      go_wp2_with (with_reducible refine wpList_load_mid rfl 100 (.tmp 23) rfl gp (k * 65) rfl x.cells _ HR.out Try.underlying100 rfl HI.out ?_)
      have hu78 := Try.underlying95
      have hi78 : (Try.prog.info? 95).map (·.size) = some (bc x.b).length := by rw [bc_len, hxb.len]; rfl
      have hS0 := HS0.out
      have hS1 : W1.drew.cell? ⟨wr.heap.size, 0, none⟩ = some (.int .i64 (x.p : Int)) ∧ W1.drew.rangeAt wr.heap.size 1 (bc x.b) := HS0.out
      clear HR HI hz hst hcl HS0
      go_region_held3 (fun w' => w'.cell? ⟨wr.heap.size, 0, none⟩ = some (.int .i64 (x.p : Int)) ∧ w'.rangeAt wr.heap.size 1 (bc x.b)) (first | exact hS1 | exact hS4 | exact hS5)
        (first
          | (go_at_call 84; refine (dlist' x.b _ hxb.len).mono ?_; rintro e w4 ⟨rfl, hblk, hb4, hsz4⟩; obtain ⟨W5, hW5⟩ : ∃ W, W = (w4.setCell ⟨w.heap.size, k * 2, none⟩ (.int .i64 (x.p : Int))).setCell ⟨w.heap.size, k * 2 + 1, none⟩ (.slice (some ⟨W1.heap.size, 0, none⟩) 64 64) := ⟨_, rfl⟩; have R5 := HPR.out.step HK.out x HX.out (HB1.out.trans ((show Below W1.heap.size W1 w4 from ⟨hb4.os, hb4.tape, hb4.output, hb4.size, hb4.block⟩).mono HB1.out.size)) W1.heap.size HB1.out.size hblk hW5; have hb4' : Below wr.heap.size wr w4 := HB1.out.trans ((show Below W1.heap.size W1 w4 from ⟨hb4.os, hb4.tape, hb4.output, hb4.size, hb4.block⟩).mono HB1.out.size); have hrow4 : w4.ownsRow 0 114 2 (.slice (some ⟨w.heap.size, 0, none⟩) S.pend.length S.pend.length) S.pend.length (L.flatMap pc) := own_stays HPR.out.own fun j e => hb4'.block j (HPR.out.own.lt j e).2; have hT := own_there hrow4 (k * 2) 2 HFL.out; have hk0 := (hT 0 (by omega)).1; have hk1 := (hT 1 (by omega)).1; have hf0 := (hT 0 (by omega)).2; have hf1 := (hT 1 (by omega)).2; obtain ⟨u0, hu0⟩ := Option.isSome_iff_exists.1 hk0; obtain ⟨u1, hu1⟩ := Option.isSome_iff_exists.1 hk1; have hS4 : w4.cell? ⟨wr.heap.size, 0, none⟩ = some (.int .i64 (x.p : Int)) ∧ w4.rangeAt wr.heap.size 1 (bc x.b) := ⟨keep_below hS1.1 hb4, rangeAt_below hS1.2 hb4⟩; have hS5 := keep2 hS4 HG.out (k * 2) (.int .i64 (x.p : Int)) (.slice (some ⟨W1.heap.size, 0, none⟩) 64 64); rw [Nat.add_zero] at hu0 hf0; have hu1' : ∀ v, (w4.setCell ⟨w.heap.size, k * 2, none⟩ v).cell? ⟨w.heap.size, k * 2 + 1, none⟩ = some u1 := (fun v => by rw [World.cell?_setCell_other _ _ _ _ (by simp)]; exact hu1); have HB4 := Lib.hid hb4'; clear hk0 hk1 hT hrow4 hblk hb4 hb4' hsz4; have HR5 := Lib.hid R5; have HW5 := Lib.hid hW5; clear R5 hW5))
      rw [← HW5.out]
      have HBW := Lib.hid (show Below w.heap.size w W5 by rw [HW5.out]; exact ((HB.out.trans (HB4.out.mono HB.out.size)).setCell (p := ⟨w.heap.size, k * 2, none⟩) (Nat.le_refl _) _).setCell (p := ⟨w.heap.size, k * 2 + 1, none⟩) (Nat.le_refl _) _)
      have HDW := Lib.hid (HD.out.stays (w' := W5) fun j hj hf => by
        rw [HW5.out, heap_setCell_ne _ _ _ _ _ (Nat.ne_of_lt hf.2), heap_setCell_ne _ _ _ _ _ (Nat.ne_of_lt hf.2)]
        exact HB4.out.block j hj)
      clear hS0 hS1 hS4 hS5 hu0 hu1 hu1' hf0 hf1 hu78 hi78
      go_wp2
      go_roundw
      case rel => exact ⟨k + 1, _, _, by go_num, hlt, HR5.out, HBW.out, HDW.out⟩
      case measure => simp [intOf]; omega
    · obtain rfl : k = S.pend.length := by omega
      go_wp2
      go_ret
      exact ⟨L, G, rfl, hR, hB⟩
end Go.Proofs.Ytapjgancaldgaaa
