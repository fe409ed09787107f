import Derived.Test.YtcpifanhmkblmaaJAS
import Derived.Lib.SliceRun
/- Layer 9: slices.Insert of one pointer ahead of others where there is no room; all of Insert. -/
namespace Go.Proofs.Ytcpifanhmkblmaa
set_option maxRecDepth 100000
set_option maxRecDepth 100000
open Go.RowKit

section
variable {w : World}
set_option maxHeartbeats 4000000 in
/-- Ahead of others, where there is no room. -/
theorem wIns_grow {g n c i : Nat} {cur cs : List Value} (h : Rw w g c cur) (hcs : cur.take n = cs) (hi : i < n) (hnc : n ≤ c) (hr : c < n + 1) (hn : n ≤ 100000) (h1 : ∀ v ∈ cs, v.oneCell' = true) {vb : Nat} {u : Value} (hvb : w.cell? ⟨vb, 0, none⟩ = some u) (hu : u.oneCell' = true) :
    Calls Try.prog 69 #[.slice (some ⟨g, 0, none⟩) n c, .int .i64 (i : Nat), .slice (some ⟨vb, 0, none⟩) 1 1] w fun e w' => ∃ (G : Nat) (row : List Value), (row.length = G ∧ G ≤ maxLen ∧ n + 1 ≤ G ∧ row.take i = cs.take i) ∧
      e = .returned (.slice (some ⟨w.heap.size, 0, none⟩) (n + 1) G) ∧ w' = (((w.alloc (.cells row.toArray 74)).drew.setCells w.heap.size i [u]).drew).setCells w.heap.size (i + 1) (cs.drop i) := by
  obtain ⟨i0, hi0, hz0, hz1, hz2⟩ := info_parts ptInfo
  have hlen := h.len
  have hcl : cs.length = n := by rw [← hcs, List.length_take]; omega
  have hdl : (cs.drop i).length = n - i := by rw [List.length_drop, hcl]
  have hcell : ∀ j v, cs[j]? = some v → w.cell? ⟨g, j, none⟩ = some v := fun j v hj => by
    rw [← hcs, List.getElem?_take] at hj
    split at hj
    · exact h.cell hj
    · cases hj
  have hbw := (Array.getElem?_eq_some_iff.1 h.heap.1).1
  have hvw : vb < w.heap.size := World.block_lt_of_cell? _ _ hvb
  have hold : (Builtin.firstCells i0.size i (.slice (some ⟨g, 0, none⟩) i c)).run Try.prog w.drew = .ok (cs.take i).toArray w.drew := by
    rw [hz1]
    exact run_firstCells_some w.drew 1 i ⟨g, 0, none⟩ i c (cs.take i) (by rw [List.length_take]; omega) (fun j v hj => by
      rw [Addr.add_lit, Nat.zero_add]
      rw [List.getElem?_take] at hj
      split at hj
      · exact hcell j v hj
      · cases hj)
  obtain ⟨G, row, r1, r2, r3, r4, hrz⟩ : ∃ (G : Nat) (row : List Value), row.length = G ∧ G ≤ maxLen ∧ n + 1 ≤ G ∧ row.take i = cs.take i ∧ ∀ ty, (Builtin.append_ #[67, 3] ty #[.slice (some ⟨g, 0, none⟩) i c, .int .i64 ((n : Int) + 1 - (i : Int))]).run Try.prog w =
      .ok (.slice (some ⟨w.heap.size, 0, none⟩) (n + 1) G) (w.drew.alloc (.cells row.toArray 74)) := by
    have hG := grownCap_ge w (n + 1) c 74
    have hG2 := grownCap_le_maxLen w (n + 1) c 74 (by simp only [maxLen]; omega)
    refine ⟨grownCap w (n + 1) c 74, cs.take i ++ (Builtin.zeroCells (Value.pointer none).cells (n + 1 - i)).toList ++ (Builtin.zeroCells (Value.pointer none).cells (grownCap w (n + 1) c 74 - (n + 1))).toList, ?_, hG2, hG, ?_, fun ty => ?_⟩
    · simp [Builtin.zeroCells, Value.cells, hcl]; omega
    · rw [List.append_assoc, List.take_left' (by simp [hcl]; omega)]
    · have hx := Lib.run_append_grow_zeros w 67 3 ty 74 i0 _ .i64 .i64 Try.underlying67 Try.underlying3 hi0 hz0 (some ⟨g, 0, none⟩) i c (cs.take i) hold (n + 1 - i) (by omega) (by omega) (by omega) (by omega) (by rw [hz2]; omega)
        (by rw [hz2, show i + (n + 1 - i) = n + 1 by omega]; exact growslice_fits hr (by omega))
      rw [show i + (n + 1 - i) = n + 1 by omega] at hx
      rw [show (n : Int) + 1 - (i : Int) = ((n + 1 - i : Nat) : Int) by omega, hx]
      congr 4
      apply Array.ext'
      simp
  obtain ⟨W1, hW1⟩ : ∃ W1, W1 = w.drew.alloc (.cells row.toArray 74) := ⟨_, rfl⟩
  rw [← hW1] at hrz
  have R1 : Rw W1 w.heap.size G row := by
    rw [hW1, ← r1]
    exact Rw.new w.drew row (by rw [r1]; exact r2)
  have hO : ∀ b j v, b < w.heap.size → w.cell? ⟨b, j, none⟩ = some v → W1.cell? ⟨b, j, none⟩ = some v := fun b j v hb hc => by
    rw [hW1]
    exact keep_below hc ((Below.refl w.heap.size w).drew.alloc (Nat.le_refl _) _)
  have hcpA : ∀ (W : World), W.heap = W1.heap → ∀ ty dc, (Builtin.copy_ #[67, 66] ty #[.slice (some ⟨w.heap.size, i, none⟩) (n + 1 - i) dc, .slice (some ⟨vb, 0, none⟩) 1 1]).run Try.prog W = .ok (goInt [u].length) (W.setCells w.heap.size i [u]) := fun W hh ty dc => by
    refine run_cpP (g := w.heap.size) (c := G) (R1.block (by rw [hh])) (m := 1) rfl (by omega) _ _ _ _ _ (by simp only [Nat.min_def]; split <;> omega) (fun j v hj => ?_) (by simpa using hu) _ _
    match j, hj with
    | 0, hj => cases hj; rw [Addr.add_lit]; exact (World.cell?_of_block (w := W1) (by rw [hh])).trans (hO vb 0 _ hvw hvb)
  have hcpB : ∀ (W : World), W.heap = (W1.setCells w.heap.size i [u]).heap → ∀ ty dc sc, (Builtin.copy_ #[67, 67] ty #[.slice (some ⟨w.heap.size, i + 1, none⟩) (n - i) dc, .slice (some ⟨g, i, none⟩) (n - i) sc]).run Try.prog W = .ok (goInt (cs.drop i).length) (W.setCells w.heap.size (i + 1) (cs.drop i)) := fun W hh ty dc sc => by
    refine run_cpP (g := w.heap.size) (c := G) ((R1.set i [u]).block (by rw [hh])) hdl (by omega) _ _ _ _ _ (by simp only [Nat.min_def]; split <;> omega) (fun j v hj => ?_) (fun v hv => h1 v (List.mem_of_mem_drop hv)) _ _
    rw [Addr.add_lit]
    rw [List.getElem?_drop] at hj
    refine (World.cell?_of_block (w := W1) ?_).trans (hO g _ _ hbw (hcell _ _ hj))
    rw [hh]
    exact heap_setCells _ _ _ _ _ (by show g ≠ _; omega)
  have hG63 : G ≤ 9223372036854775807 := by unfold maxLen at r2; omega
  have hz2 : ¬ ((i : Int) = (n : Int)) := by omega
  have hz3 : (c : Int) < (n : Int) + 1 := by omega
  have hw1 : IntKind.i64.wrap ((i : Int) + 1) = (i : Int) + 1 := by rw [IntKind.wrap_i64]; omega
  have hb1 : (0 : Int) ≤ (i : Int) + 1 := by omega
  have hin : i ≤ n := by omega
  have htn : ((i : Int) + 1).toNat = i + 1 := by omega
  have hGi : ¬ (G = i) := by omega
  have hGim : ¬ (G = i + 1) := by omega
  have hci : ¬ (c = i) := by omega
  have hb3 : (i : Int) ≤ (n : Int) + 1 := by omega
  have hb4 : (i : Int) + 1 ≤ (n : Int) + 1 := by omega
  have hb5 : (i : Int) ≤ (n : Int) := by omega
  have mixed : Try.prog.follows Departure.mixedOrders = true := by kernel_rfl
  have RR := Lib.hid (And.intro r1 (And.intro r2 (And.intro r3 r4)))
  subst hW1
  have hE1 : ((w.alloc (.cells row.toArray 74)).drew).heap = (w.drew.alloc (.cells row.toArray 74)).heap := rfl
  have hF1 : (((w.alloc (.cells row.toArray 74)).drew.setCells w.heap.size i [u]).drew).heap = ((w.drew.alloc (.cells row.toArray 74)).setCells w.heap.size i [u]).heap := rfl
  clear R1 hO r1 r2 r3 r4 h hvb hold hi0 hz0 hz1 hcell hbw hvw hlen hcl hdl hcs
  go_enter Try.func69, Try.ntmps69
  go_wp2_with (first
    | (at_builtin; refine Lib.wpList_append_run _ rfl _ _ _ _ rfl _ _ rfl rfl _ _ (hrz _) ?_)
    | (at_builtin; refine wp_copyP rfl _ _ 67 66 rfl _ _ rfl rfl (hcpA _ hE1 _ _) ?_))
  go_region_law_o (refine step_copyP rfl _ _ 67 67 rfl (.slice (some ⟨w.heap.size, i + 1, none⟩) (n - i) (G - (i + 1))) (.slice (some ⟨g, i, none⟩) (n - i) (c - i)) (by simp [Act.eval, Act.put]) (by simp [Act.eval, Act.put]) (hcpB _ hF1 3 (G - (i + 1)) (c - i)) ?_)
  go_wp2
  go_ret
  exact ⟨G, row, RR.out, rfl, rfl⟩
end
end Go.Proofs.Ytcpifanhmkblmaa

/- Layer 9: slices.Insert of one pointer, whatever the room; slices.Replace by one. -/
namespace Go.Proofs.Ytcpifanhmkblmaa
set_option maxRecDepth 100000
set_option maxRecDepth 100000
open Go.RowKit

section
variable {w : World}
/-- What a call made of a list of pointers. -/
structure InsIs (w w' : World) (v v' : Value) (ps : List Nat) : Prop where
  pv : PV w' v' ps
  own : ∃ g, v'.ownBlock = some g ∧ (v.ownBlock = some g ∨ w.heap.size ≤ g)
  out : Out (fun k => v.ownBlock = some k) w w'
theorem ptC_app (xs ys : List Nat) : ptC (xs ++ ys) = ptC xs ++ ptC ys := List.map_append
theorem ins_len (ps : List Nat) {i : Nat} (hi : i ≤ ps.length) (p : Nat) : (ps.take i ++ [p] ++ ps.drop i).length = ps.length + 1 := by simp; omega
theorem wInsertP {v : Value} {ps : List Nat} (h : PV w v ps) {i : Nat} (hi : i ≤ ps.length) (hn : ps.length ≤ 100000) {vb p : Nat} (hvb : w.heap[vb]? = some (.cells #[ptV p] 74 (0, 0))) (hne : v.ownBlock ≠ some vb) :
    Calls Try.prog 69 #[v, .int .i64 (i : Nat), .slice (some ⟨vb, 0, none⟩) 1 1] w fun e w' => ∃ v', e = .returned v' ∧ InsIs w w' v v' (ps.take i ++ [p] ++ ps.drop i) := by
  have hcv : w.cell? ⟨vb, 0, none⟩ = some (ptV p) := cell_of_row _ _ 0 _ _ _ hvb
  have hlen := ins_len ps hi p
  have hpc : ptC (ps.take i ++ [p] ++ ps.drop i) = (ptC ps).take i ++ [ptV p] ++ (ptC ps).drop i := by simp [ptC]
  have hnew : ∀ {row : List Value}, row.length ≤ maxLen → ps.length + 1 ≤ row.length → row.take (ps.length + 1) = ptC ps ++ [ptV p] → ps.length = i → PV (w.drew.alloc (.cells row.toArray 74)) (.slice (some ⟨w.heap.size, 0, none⟩) (ps.length + 1) row.length) (ps.take i ++ [p] ++ ps.drop i) := fun {row} h1 h2 h3 h4 => by
    subst h4
    refine .inr ⟨w.heap.size, row.length, row, by rw [hlen], Rw.new w.drew row h1, by rw [hlen]; exact h2, ?_⟩
    rw [hlen, h3, hpc, List.take_of_length_le (by rw [ptC_len]; exact Nat.le_refl _), List.drop_eq_nil_of_le (by rw [ptC_len]; exact Nat.le_refl _), List.append_nil]
  have hend : ∀ {c : Nat} {A : Option Addr}, v = .slice A ps.length c → c < ps.length + 1 → ps.length = i →
      Calls Try.prog 69 #[v, .int .i64 (i : Nat), .slice (some ⟨vb, 0, none⟩) 1 1] w fun e w' => ∃ v', e = .returned v' ∧ InsIs w w' v v' (ps.take i ++ [p] ++ ps.drop i) := fun {c A} hv hr hi2 => by
    have := wIns_new h hv hr hn hcv rfl
    rw [hi2] at this
    refine this.mono ?_
    rintro e w' ⟨row, ⟨h1, h2, h3⟩, he, rfl⟩
    rw [← hi2] at h2 h3
    refine ⟨_, he, by rw [← hi2]; simpa [hi2] using hnew h1 h2 h3 hi2, ⟨_, rfl, .inr (Nat.le_refl _)⟩, Out.of_below ((Below.refl w.heap.size w).drew.alloc (Nat.le_refl _) _) _⟩
  rcases h with ⟨rfl, rfl⟩ | ⟨g, c, cur, rfl, h1, h2, h3⟩
  · exact hend rfl (by simp) (by simp at hi; simp [hi])
  · have hne2 : vb ≠ g := fun e => hne (by rw [e]; rfl)
    have hone : ∀ u ∈ ptC ps, u.oneCell' = true := ptC_one ps
    have hcl : (ptC ps).length = ps.length := ptC_len ps
    rcases Nat.lt_or_ge i ps.length with hlt | hge
    · rcases Nat.lt_or_ge c (ps.length + 1) with hr | hr
      · refine (wIns_grow h1 h3 hlt h2 hr hn hone hcv rfl).mono ?_
        rintro e w' ⟨G, row, ⟨r1, r2, r3, r4⟩, he, rfl⟩
        have RN : Rw (w.alloc (.cells row.toArray 74)) w.heap.size G row := by rw [← r1]; exact Rw.new w row (by rw [r1]; exact r2)
        have RF := ((RN.drew.set i [ptV p]).drew.set (i + 1) ((ptC ps).drop i))
        refine ⟨_, he, .inr ⟨w.heap.size, G, _, by rw [hlen], RF, by rw [hlen]; exact r3, ?_⟩, ⟨_, rfl, .inr (Nat.le_refl _)⟩, ?_⟩
        · rw [hlen, hpc]
          have hd : ((ptC ps).drop i).length = ps.length - i := by rw [List.length_drop, hcl]
          have hp1 : (putL row i [ptV p]).length = row.length := putL_len _ _ _
          apply List.ext_getElem?
          intro j
          rw [List.getElem?_take]
          by_cases hj : j < ps.length + 1
          · rw [if_pos hj, putL_get _ _ _ _ (by rw [hp1, hd]; omega), hd]
            rcases Nat.lt_trichotomy j i with a1 | a1 | a1
            · rw [if_neg (by omega), putL_get _ _ _ _ (by simp; omega), if_neg (by omega), List.append_assoc, List.getElem?_append_left (by rw [List.length_take]; omega), ← r4, List.getElem?_take, if_pos a1]
            · subst a1
              rw [if_neg (by omega), putL_get _ _ _ _ (by simp; omega), if_pos (by simp), List.append_assoc, List.getElem?_append_right (by rw [List.length_take]; omega), List.length_take, hcl]
              simp [show j - min j ps.length = 0 by omega]
            · rw [if_pos (by omega), List.append_assoc, List.getElem?_append_right (by rw [List.length_take]; omega), List.length_take, hcl, List.getElem?_append_right (by simp; omega)]
              congr 1
              simp; omega
          · rw [if_neg hj, List.getElem?_eq_none (by simp [hcl]; omega)]
        · refine Out.setCells (Out.drew (Out.setCells (Out.drew (Out.alloc (Out.refl _ _) _)) (.inr ?_) _ _)) (.inr ?_) _ _ <;> exact Nat.le_refl _
      · refine (wIns_shift h1 h3 hlt hr hone hvb hne2 rfl).mono ?_
        rintro e w' ⟨he, rfl⟩
        refine ⟨_, he, .inr ⟨g, c, _, by rw [hlen], (h1.drew.set _ _).set _ _, by rw [hlen]; exact hr, ?_⟩, ⟨_, rfl, .inl rfl⟩, by refine Out.setCells (Out.setCells (Out.drew (Out.refl _ _)) (.inl ?_) _ _) (.inl ?_) _ _ <;> rfl⟩
        rw [hlen, hpc]
        exact ins_take h3 hcl hlt (by rw [h1.len]; exact hr)
    · have hi2 : ps.length = i := by omega
      rcases Nat.lt_or_ge c (ps.length + 1) with hr | hr
      · exact hend rfl hr hi2
      · have := wIns_end h1 hr hcv (show (ptV p).oneCell' = true from rfl)
        rw [hi2] at this
        refine (by rw [hi2]; exact this : Calls _ _ _ _ _).mono ?_
        rintro e w' ⟨he, rfl⟩
        refine ⟨_, he, .inr ⟨g, c, _, by rw [hlen, hi2], h1.set _ _, by rw [hlen]; exact hr, ?_⟩, ⟨_, rfl, .inl rfl⟩, by refine Out.setCells (Out.refl _ _) (.inl ?_) _ _ <;> rfl⟩
        rw [hlen, hpc]
        apply List.ext_getElem?
        intro j
        have hcj : ∀ j, j < ps.length → (ptC ps)[j]? = cur[j]? := fun j hj => by rw [← h3, List.getElem?_take, if_pos hj]
        have hcur := h1.len
        rw [List.getElem?_take]
        by_cases hj : j < ps.length + 1
        · rw [if_pos hj, putL_get _ _ _ _ (by simp; omega)]
          by_cases a1 : j < i
          · rw [if_neg (by omega), List.append_assoc, List.getElem?_append_left (by rw [List.length_take]; omega), List.getElem?_take, if_pos a1, hcj j (by omega)]
          · have : j = i := by omega
            subst this
            rw [if_pos (by simp), List.append_assoc, List.getElem?_append_right (by rw [List.length_take]; omega), List.length_take, hcl]
            simp [show j - min j ps.length = 0 by omega]
        · rw [if_neg hj, List.getElem?_eq_none (by simp [hcl]; omega)]
end
end Go.Proofs.Ytcpifanhmkblmaa

/- Layer 9: slices.Replace by one pointer. -/
namespace Go.Proofs.Ytcpifanhmkblmaa
set_option maxRecDepth 100000
set_option maxRecDepth 100000
open Go.RowKit

section
variable {w : World}
set_option maxHeartbeats 2000000 in
/-- Nothing goes. -/
theorem wRep_none {v : Value} {ps : List Nat} (h : PV w v ps) {i : Nat} (hi : i ≤ ps.length) (hn : ps.length ≤ 100000) {vb p : Nat} (hvb : w.heap[vb]? = some (.cells #[ptV p] 74 (0, 0))) (hne : v.ownBlock ≠ some vb) :
    Calls Try.prog 57 #[v, .int .i64 (i : Nat), .int .i64 (i : Nat), .slice (some ⟨vb, 0, none⟩) 1 1] w fun e w' => ∃ v', e = .returned v' ∧ InsIs w w' v v' (ps.take i ++ [p] ++ ps.drop i) := by
  have CI := Lib.hid (wInsertP h hi hn hvb hne)
  obtain ⟨A, c, hv, hsb, h1, h2⟩ := h.sb
  have h3 : c ≤ 9223372036854775807 := by unfold maxLen at h2; omega
  have h4 : i ≤ c := by omega
  clear hsb h h2 hvb hne
  subst hv
  obtain ⟨n, hN⟩ : ∃ n, ps.length = n := ⟨_, rfl⟩
  obtain ⟨qs, hQ⟩ : ∃ qs, ps.take i ++ [p] ++ ps.drop i = qs := ⟨_, rfl⟩
  rw [hQ] at CI ⊢
  rw [hN] at *
  clear hQ hN
  have hc : c = i ∨ ¬ c = i := by omega
  rcases hc with rfl | hci
  all_goals
   go_enter Try.func57, Try.ntmps57
   go_wp2_with (go_at_call 69; go_loud (refine CI.out.mono ?_; rintro e w1 ⟨v', rfl, I⟩; have I := Lib.hid I))
   go_ret
   exact ⟨_, rfl, I.out⟩
theorem run_clr0 (W : World) (A : Option Addr) (c : Nat) (ty : TypeId) : (Builtin.clear_ #[67] ty #[.slice A 0 c]).run Try.prog W = .ok (.tuple #[]) W := by
  have hu := Try.underlying67
  cases A <;> simp [Builtin.clear_, run_underlying hu]
theorem run_clrP {g c : Nat} {cur : List Value} (h : Rw w g c cur) {o n : Nat} (ho : o + n ≤ c) (cc : Nat) (ty : TypeId) :
    (Builtin.clear_ #[67] ty #[.slice (some ⟨g, o, none⟩) n cc]).run Try.prog w = .ok (.tuple #[]) (w.setCells g o (List.replicate n (.pointer none))) := by
  rcases Nat.eq_zero_or_pos n with h0 | h0
  · subst h0; exact run_clr0 w _ _ _
  · exact Lib.run_clear_slice w _ 74 ty _ Try.underlying67 (fun W => by
      obtain ⟨i0, hi, hz0, hz1, hz2⟩ := info_parts ptInfo
      simp [zeroValue, typeInfo, hi, hz0]) rfl rfl g o n cc h0 (fun j hj => h.there (by omega)) (fun j hj => h.frozenAt _)
set_option maxHeartbeats 4000000 in
/-- All from one on go. -/
theorem wRep_tail {g n c i : Nat} {cur : List Value} (h : Rw w g c cur) (hi : i < n) (hnc : n ≤ c) {vb : Nat} {u : Value} (hvb : w.heap[vb]? = some (.cells #[u] 74 (0, 0))) (hu : u.oneCell' = true) :
    Calls Try.prog 57 #[.slice (some ⟨g, 0, none⟩) n c, .int .i64 (i : Nat), .int .i64 (n : Nat), .slice (some ⟨vb, 0, none⟩) 1 1] w fun e w' => e = .returned (.slice (some ⟨g, 0, none⟩) (i + 1) c) ∧ w' = (w.setCells g i [u]).setCells g (i + 1) (List.replicate (n - (i + 1)) (.pointer none)) := by
  have hcv : w.cell? ⟨vb, 0, none⟩ = some u := cell_of_row _ _ 0 _ _ _ hvb
  have hrun := fun ty => run_appP h (n := i) (by omega) hcv hu 1 ty
  have hclr := fun ty cc => run_clrP (h.set i [u]) (o := i + 1) (n := n - (i + 1)) (by omega) cc ty
  have hc : c ≤ 9223372036854775807 := by have := h.heap.2; unfold maxLen at this; omega
  have i1 : ¬ ((i : Int) = (n : Int)) := by omega
  have i2 : (i : Int) ≤ (n : Int) := by omega
  have i3 : i ≤ n := by omega
  have i4 : i ≤ c := by omega
  have i5 : ¬ (c = i) := by omega
  by_cases hl : i + 1 < n
  · have i7 : (i : Int) + 1 < (n : Int) := by omega
    have i8 : (i : Int) + 1 ≤ (n : Int) := by omega
    have i9 : ((i : Int) + 1).toNat = i + 1 := by omega
    have i10 : (0 : Int) ≤ (i : Int) + 1 := by omega
    have i6 : ¬ (c = i + 1) := by omega
    clear h hvb hcv
    go_enter Try.func57, Try.ntmps57
    go_wp2_with (first
      | (at_builtin; refine Lib.wpList_append_run _ rfl _ _ _ _ rfl _ _ rfl rfl _ _ (hrun _) ?_)
      | (at_builtin; refine wp_clearP rfl _ 67 rfl _ rfl (hclr _ _) ?_))
    go_ret
    exact ⟨rfl, rfl⟩
  · have i7 : ¬ (i : Int) + 1 < (n : Int) := by omega
    have i8 : n - (i + 1) = 0 := by omega
    rw [i8]
    clear h hvb hcv hclr
    go_enter Try.func57, Try.ntmps57
    go_wp2_with (first
      | (at_builtin; refine Lib.wpList_append_run _ rfl _ _ _ _ rfl _ _ rfl rfl _ _ (hrun _) ?_))
    go_ret
    exact ⟨rfl, rfl⟩
end
end Go.Proofs.Ytcpifanhmkblmaa
