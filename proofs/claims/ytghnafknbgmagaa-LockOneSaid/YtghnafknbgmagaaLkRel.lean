/- Layer 8: the reference's Release. -/
import Derived.Test.YtghnafknbgmagaaLkOwn
import Derived.Test.YtghnafknbgmagaaDRow
namespace Go.Proofs.Ytghnafknbgmagaa
set_option maxRecDepth 100000
set_option maxRecDepth 100000
open Go.RowKit

def releaseP (hs : List Hd) (tx : Int) : List Hd := hs.filter fun h => !decide (h.2 = tx)
theorem releaseP_take {hs : List Hd} {tx : Int} {j : Nat} {p : Hd} (hp : hs[j]? = some p) : releaseP (hs.take (j + 1)) tx = releaseP (hs.take j) tx ++ (if p.2 = tx then [] else [p]) := by
  unfold releaseP
  rw [List.take_add_one, hp, List.filter_append]
  congr 1
  by_cases h : p.2 = tx <;> simp [h]
theorem releaseP_len (hs : List Hd) (tx : Int) (j : Nat) : (releaseP (hs.take j) tx).length ≤ hs.length := by
  unfold releaseP
  have h1 := List.length_filter_le (fun h : Hd => !decide (h.2 = tx)) (hs.take j)
  have h2 := List.length_take_le' j hs
  omega

/-- A block's cells as a slice of one. -/
theorem sb_one {w : World} {g : Nat} {cs : List Value} {e : TypeId} {fr : Nat × Nat} (h : w.heap[g]? = some (.cells cs.toArray e fr)) (ho : ∀ u ∈ cs, u.oneCell' = true) {m : Nat} (hm : cs.length = m) : SB w (some ⟨g, 0, none⟩) m cs :=
  ⟨hm, ho, fun _ => ⟨g, 0, rfl, fun j u hj => by rw [cell_of_row w g _ _ e fr h]; simpa using hj⟩⟩

theorem sb_held (X : World) (p : Hd) : SB (X.alloc (.cells #[.string p.1.1, .string p.1.2, .int .i64 p.2] 66)) (some ⟨X.heap.size, 0, none⟩) (seH.s * 1) (cellsH [p]) :=
  sb_one (cs := cellsH [p]) (heap_alloc_new X _) (cellsH_one _) (cellsH_len _)
theorem blk_set8 {w : World} {d : Nat} {cs : Array Value} {t : TypeId} (h : w.heap[d]? = some (.cells cs t (0, 0))) (j : Nat) (v : Value) : (w.setCell ⟨d, j, none⟩ v).heap[d]? = some (.cells (cs.setIfInBounds j v) t (0, 0)) := heap_setCell_same w d j cs t v h
theorem heap_set8 (w : World) (b o : Nat) (u : Value) (k : Nat) (hk : k ≠ b) : (w.setCell ⟨b, o, none⟩ u).heap[k]? = w.heap[k]? := heap_setCells b [u] o w k hk
theorem SB.set {w : World} {A : Option Addr} {m : Nat} {vs : List Value} (h : SB w A m vs) {b o : Nat} (hn : ∀ ad, A = some ad → ad.block ≠ b) (u : Value) : SB (w.setCell ⟨b, o, none⟩ u) A m vs :=
  ⟨h.len, h.one, fun h0 => by
    obtain ⟨g, q, e, hc⟩ := h.cell h0
    have hg : g ≠ b := hn _ e
    exact ⟨g, q, e, fun j u hj => (World.cell?_of_block (w := w) (a := ⟨g, q + j, none⟩) (heap_set8 _ _ _ _ _ hg)).trans (hc j u hj)⟩⟩
set_option maxHeartbeats 2000000 in
theorem wrRelease {w : World} {b : Nat} {most : Int} {hs : List Hd} (h : RM w b most hs) (hn : hs.length ≤ 4000000) (tx : Int) :
    Calls Try.prog 30 #[.pointer (some ⟨b, 0, none⟩), .int .i64 tx] w fun e w' => e = .returned (.int .i64 ((hs.length : Int) - ((releaseP hs tx).length : Int))) ∧ RM w' b most (releaseP hs tx) ∧ Out (fun k => k = b) w w' := by
  obtain ⟨A, c, h1, h2, h3, h4, h5⟩ := h.ex
  have H1 := Lib.hid h1
  have HS := Lib.hid h2
  have HN := Lib.hid hn
  have HBS := Lib.hid (Array.getElem?_eq_some_iff.1 h1).1
  clear h h1 h2 h3 h4 h5 hn
  go_enter Try.func30, Try.ntmps30
  go_upto_region 3 with fail
  go_loopw [5, 6] (fun lv i' wr => ∃ j : Nat, i' = .int .i64 (j : Nat) ∧ j ≤ hs.length ∧ SO seH w.heap.size wr lv (releaseP (hs.take j) tx).length (cellsH (releaseP (hs.take j) tx)) ∧ Below w.heap.size w wr) (fun _ i' _ => hs.length - (intOf i').toNat)
  case atStart => exact ⟨0, rfl, Nat.zero_le _, SO.nil _ _ _, Below.refl _ _⟩
  case round =>
    rename World => wr
    obtain ⟨j, rfl, hj, ho, hb⟩ := hrel
    have HO := Lib.hid ho
    have HB := Lib.hid hb
    have c2 : wr.cell? ⟨b, 2, none⟩ = some (.slice A hs.length c) := cell_of_row _ _ 2 _ _ _ ((hb.block b HBS.out).trans H1.out)
    have HS2 := Lib.hid (HS.out.gw hb)
    have LL := Lib.hid (releaseP_len hs tx j)
    clear ho hb
    by_cases hlt : j < hs.length
    · obtain ⟨p, hp⟩ : ∃ p, hs[j]? = some p := ⟨_, List.getElem?_eq_getElem hlt⟩
      obtain ⟨g, o, rfl, c0⟩ := HS2.out.at_ (cellsH_at _ _ _ hp).1
      obtain ⟨g1, o1, e1, c1⟩ := HS2.out.at_ (cellsH_at _ _ _ hp).2.1
      obtain ⟨g2, o2, e2, c3⟩ := HS2.out.at_ (cellsH_at _ _ _ hp).2.2
      cases e1; cases e2
      rw [Nat.mul_comm] at c0 c1 c3
      rw [← Nat.add_assoc] at c1 c3
      have i1 : (j : Int) < (hs.length : Int) := by omega
      have l1 : (j : Int) ≤ 10000000 := by have := HN.out; omega
      have HLT := Lib.hid hlt
      have HT := Lib.hid (releaseP_take (tx := tx) hp)
      clear hj hlt hp
      by_cases he : p.2 = tx
      · go_wp2
        go_roundw
        case rel => exact ⟨j + 1, by go_num, HLT.out, by rw [HT.out, if_pos he, List.append_nil]; exact HO.out, HB.out⟩
        case measure => have := HLT.out; simp [intOf]; omega
      · go_wp2_with (at_builtin; go_loud (refine so_append seH_ok (by rfl) (.tmp 27) (.tmp 35) (by rfl) _ (by rfl) (HO.out.alloc _) (some ⟨wr.heap.size, 0, none⟩) 1 1 (cellsH [p]) (by rfl) (sb_held wr p) (by have := LL.out; have := HN.out; simp; omega) (by have := HB.out.size; simp; omega) ?_; intro v3 w3 o3 b3; have O3 := Lib.hid o3; have B3 := Lib.hid b3; clear o3 b3))
        go_roundw
        case rel => exact ⟨j + 1, by go_num, HLT.out, by rw [HT.out, if_neg he, List.length_append, cellsH_app]; exact O3.out, (HB.out.alloc HB.out.size _).trans B3.out⟩
        case measure => have := HLT.out; simp [intOf]; omega
    · have hje : j = hs.length := by omega
      subst hje
      have i1 : ¬ (hs.length : Int) < (hs.length : Int) := by omega
      have e1 : releaseP (hs.take hs.length) tx = releaseP hs tx := by rw [List.take_length]
      rw [e1] at HO LL
      obtain ⟨A2, c', rfl, hsb, hnc, hcm, hbl⟩ := HO.out.form
      have hheap : wr.heap[b]? = _ := (HB.out.block b HBS.out).trans H1.out
      have f2 : wr.frozen? ⟨b, 2, none⟩ = false := frozen_of_row _ _ _ _ _ hheap
      have H2 := Lib.hid hheap
      have LN := Lib.hid (show (hs.length : Int) ≤ 4000000 by have := HN.out; omega)
      have LM := Lib.hid (show ((releaseP hs tx).length : Int) ≤ hs.length by have := LL.out; omega)
      have ew : IntKind.i64.wrap ((hs.length : Int) - ((releaseP hs tx).length : Int)) = (hs.length : Int) - ((releaseP hs tx).length : Int) := by rw [IntKind.wrap_i64] <;> (have := LN.out; have := LM.out; omega)
      have hne : ∀ ad, A2 = some ad → ad.block ≠ b := fun ad e => by have := hbl ad e; have := HBS.out; omega
      have HNE := Lib.hid hne
      have HSB := Lib.hid hsb
      have HNC := Lib.hid (And.intro hnc hcm)
      clear hj hlt hheap hbl hne hsb hnc hcm e1
      go_wp2
      go_ret
      refine ⟨rfl, ⟨A2, c', ?_, ?_, HNC.out.1, HNC.out.2, HNE.out⟩, ?_⟩
      · rw [blk_set8 H2.out]; rfl
      · exact HSB.out.set (fun ad e => HNE.out ad e) _
      · exact (Out.of_below (F := fun k => k = b) HB.out).setCell (p := ⟨b, 2, none⟩) (.inl rfl) _
end Go.Proofs.Ytghnafknbgmagaa
