import Derived.Test.YtknppiebncdjmaaGreatJAY
import Derived.Lib.SliceRun
import Derived.Test.YtknppiebncdjmaaGreatJAO
import Derived.Test.YtknppiebncdjmaaGreatJAE
set_option linter.unusedVariables false
namespace Go.Proofs.YtknppiebncdjmaaGreat
set_option maxRecDepth 100000
open Go.RowKit

section
variable {w : World}
structure InsIs (w w' : World) (v v' : Value) (ps : List Nat) : Prop where
  pv : PV w' v' ps
  own : ∃ g, v'.ownBlock = some g ∧ (v.ownBlock = some g ∨ w.heap.size ≤ g)
  out : Out (fun k => v.ownBlock = some k) w w'
theorem ins_len (ps : List Nat) {i : Nat} (hi : i ≤ ps.length) (p : Nat) : (ps.take i ++ [p] ++ ps.drop i).length = ps.length + 1 := by simp; omega
theorem wInsertP {v : Value} {ps : List Nat} (h : PV w v ps) {i : Nat} (hi : i ≤ ps.length) (hn : ps.length ≤ 100000) {vb p : Nat} (hvb : w.heap[vb]? = some (.cells #[ptV p] 163 (0, 0))) (hne : v.ownBlock ≠ some vb) :
    Calls Tryz.prog 181 #[v, .int .i64 (i : Nat), .slice (some ⟨vb, 0, none⟩) 1 1] w fun e w' => ∃ v', e = .returned v' ∧ InsIs w w' v v' (ps.take i ++ [p] ++ ps.drop i) := by
  have hcv : w.cell? ⟨vb, 0, none⟩ = some (ptV p) := cell_of_row _ _ 0 _ _ _ hvb
  have hlen := ins_len ps hi p
  have hpc : ptC (ps.take i ++ [p] ++ ps.drop i) = (ptC ps).take i ++ [ptV p] ++ (ptC ps).drop i := by simp [ptC]
  have hnew : ∀ {row : List Value}, row.length ≤ maxLen → ps.length + 1 ≤ row.length → row.take (ps.length + 1) = ptC ps ++ [ptV p] → ps.length = i → PV (w.drew.alloc (.cells row.toArray 163)) (.slice (some ⟨w.heap.size, 0, none⟩) (ps.length + 1) row.length) (ps.take i ++ [p] ++ ps.drop i) := fun {row} h1 h2 h3 h4 => by
    subst h4
    refine .inr ⟨w.heap.size, row.length, row, by rw [hlen], Rw.new w.drew row h1, by rw [hlen]; exact h2, ?_⟩
    rw [hlen, h3, hpc, List.take_of_length_le (by rw [ptC_len]; exact Nat.le_refl _), List.drop_eq_nil_of_le (by rw [ptC_len]; exact Nat.le_refl _), List.append_nil]
  have hend : ∀ {c : Nat} {A : Option Addr}, v = .slice A ps.length c → c < ps.length + 1 → ps.length = i →
      Calls Tryz.prog 181 #[v, .int .i64 (i : Nat), .slice (some ⟨vb, 0, none⟩) 1 1] w fun e w' => ∃ v', e = .returned v' ∧ InsIs w w' v v' (ps.take i ++ [p] ++ ps.drop i) := fun {c A} hv hr hi2 => by
    have := wIns_new h hv hr hn hcv rfl
    rw [hi2] at this
    refine this.mono ?_
    rintro e w' ⟨row, ⟨h1, h2, h3⟩, he, rfl⟩
    rw [← hi2] at h2 h3
    refine ⟨_, he, by rw [← hi2]; simpa [hi2] using hnew h1 h2 h3 hi2, ⟨_, rfl, .inr (Nat.le_refl _)⟩, Out.of_below ((Below.refl w.heap.size w).drew.alloc (Nat.le_refl _) _) _⟩
  rcases h with ⟨rfl, rfl⟩ | ⟨g, c, cur, rfl, h1, h2, h3⟩
  · exact hend rfl (by simp) (by simp at hi; simp [hi])
  · have hne2 : vb ≠ g := fun e => hne (by rw [e]; rfl)
    have hone : ∀ u ∈ ptC ps, u.oneCell' = true := ptC_one ps
    have hcl : (ptC ps).length = ps.length := ptC_len ps
    rcases Nat.lt_or_ge i ps.length with hlt | hge
    · rcases Nat.lt_or_ge c (ps.length + 1) with hr | hr
      · refine (wIns_grow h1 h3 hlt h2 hr hn hone hcv rfl).mono ?_
        rintro e w' ⟨G, row, ⟨r1, r2, r3, r4⟩, he, rfl⟩
        have RN : Rw (w.alloc (.cells row.toArray 163)) w.heap.size G row := by rw [← r1]; exact Rw.new w row (by rw [r1]; exact r2)
        have RF := ((RN.drew.set i [ptV p]).drew.set (i + 1) ((ptC ps).drop i))
        refine ⟨_, he, .inr ⟨w.heap.size, G, _, by rw [hlen], RF, by rw [hlen]; exact r3, ?_⟩, ⟨_, rfl, .inr (Nat.le_refl _)⟩, ?_⟩
        · rw [hlen, hpc]
          have hd : ((ptC ps).drop i).length = ps.length - i := by rw [List.length_drop, hcl]
          have hp1 : (putL row i [ptV p]).length = row.length := putL_len _ _ _
          apply List.ext_getElem?
          intro j
          rw [List.getElem?_take]
          by_cases hj : j < ps.length + 1
          · rw [if_pos hj, putL_get _ _ _ _ (by rw [hp1, hd]; omega), hd]
            rcases Nat.lt_trichotomy j i with a1 | a1 | a1
            · rw [if_neg (by omega), putL_get _ _ _ _ (by simp; omega), if_neg (by omega), List.append_assoc, List.getElem?_append_left (by rw [List.length_take]; omega), ← r4, List.getElem?_take, if_pos a1]
            · subst a1
              rw [if_neg (by omega), putL_get _ _ _ _ (by simp; omega), if_pos (by simp), List.append_assoc, List.getElem?_append_right (by rw [List.length_take]; omega), List.length_take, hcl]
              simp [show j - min j ps.length = 0 by omega]
            · rw [if_pos (by omega), List.append_assoc, List.getElem?_append_right (by rw [List.length_take]; omega), List.length_take, hcl, List.getElem?_append_right (by simp; omega)]
              congr 1
              simp; omega
          · rw [if_neg hj, List.getElem?_eq_none (by simp [hcl]; omega)]
        · refine Out.setCells (Out.drew (Out.setCells (Out.drew (Out.alloc (Out.refl _ _) _)) (.inr ?_) _ _)) (.inr ?_) _ _ <;> exact Nat.le_refl _
      · refine (wIns_shift h1 h3 hlt hr hone hvb hne2 rfl).mono ?_
        rintro e w' ⟨he, rfl⟩
        refine ⟨_, he, .inr ⟨g, c, _, by rw [hlen], (h1.drew.set _ _).set _ _, by rw [hlen]; exact hr, ?_⟩, ⟨_, rfl, .inl rfl⟩, by refine Out.setCells (Out.setCells (Out.drew (Out.refl _ _)) (.inl ?_) _ _) (.inl ?_) _ _ <;> rfl⟩
        rw [hlen, hpc]
        exact ins_take h3 hcl hlt (by rw [h1.len]; exact hr)
    · have hi2 : ps.length = i := by omega
      rcases Nat.lt_or_ge c (ps.length + 1) with hr | hr
      · exact hend rfl hr hi2
      · have := wIns_end h1 hr hcv (show (ptV p).oneCell' = true from rfl)
        rw [hi2] at this
        refine (by rw [hi2]; exact this : Calls _ _ _ _ _).mono ?_
        rintro e w' ⟨he, rfl⟩
        refine ⟨_, he, .inr ⟨g, c, _, by rw [hlen, hi2], h1.set _ _, by rw [hlen]; exact hr, ?_⟩, ⟨_, rfl, .inl rfl⟩, by refine Out.setCells (Out.refl _ _) (.inl ?_) _ _ <;> rfl⟩
        rw [hlen, hpc]
        apply List.ext_getElem?
        intro j
        have hcj : ∀ j, j < ps.length → (ptC ps)[j]? = cur[j]? := fun j hj => by rw [← h3, List.getElem?_take, if_pos hj]
        have hcur := h1.len
        rw [List.getElem?_take]
        by_cases hj : j < ps.length + 1
        · rw [if_pos hj, putL_get _ _ _ _ (by simp; omega)]
          by_cases a1 : j < i
          · rw [if_neg (by omega), List.append_assoc, List.getElem?_append_left (by rw [List.length_take]; omega), List.getElem?_take, if_pos a1, hcj j (by omega)]
          · have : j = i := by omega
            subst this
            rw [if_pos (by simp), List.append_assoc, List.getElem?_append_right (by rw [List.length_take]; omega), List.length_take, hcl]
            simp [show j - min j ps.length = 0 by omega]
        · rw [if_neg hj, List.getElem?_eq_none (by simp [hcl]; omega)]
end
end Go.Proofs.YtknppiebncdjmaaGreat

namespace Go.Proofs.YtknppiebncdjmaaGreat
set_option maxRecDepth 100000
open Go.RowKit

section
variable {w : World}
set_option maxHeartbeats 2000000 in
theorem wRep_none {v : Value} {ps : List Nat} (h : PV w v ps) {i : Nat} (hi : i ≤ ps.length) (hn : ps.length ≤ 100000) {vb p : Nat} (hvb : w.heap[vb]? = some (.cells #[ptV p] 163 (0, 0))) (hne : v.ownBlock ≠ some vb) :
    Calls Tryz.prog 143 #[v, .int .i64 (i : Nat), .int .i64 (i : Nat), .slice (some ⟨vb, 0, none⟩) 1 1] w fun e w' => ∃ v', e = .returned v' ∧ InsIs w w' v v' (ps.take i ++ [p] ++ ps.drop i) := by
  have CI := Lib.hid (wInsertP h hi hn hvb hne)
  obtain ⟨A, c, hv, hsb, h1, h2⟩ := h.sb
  have h3 : c ≤ 9223372036854775807 := by unfold maxLen at h2; omega
  have h4 : i ≤ c := by omega
  clear hsb h h2 hvb hne
  subst hv
  obtain ⟨n, hN⟩ : ∃ n, ps.length = n := ⟨_, rfl⟩
  obtain ⟨qs, hQ⟩ : ∃ qs, ps.take i ++ [p] ++ ps.drop i = qs := ⟨_, rfl⟩
  rw [hQ] at CI ⊢
  rw [hN] at *
  clear hQ hN
  have hc : c = i ∨ ¬ c = i := by omega
  rcases hc with rfl | hci
  all_goals
   go_enter Tryz.func143, Tryz.ntmps143
   go_wp2_with (go_at_call 181; go_loud (refine CI.out.mono ?_; rintro e w1 ⟨v', rfl, I⟩; have I := Lib.hid I))
   go_ret
   exact ⟨_, rfl, I.out⟩
theorem run_clr0 (W : World) (A : Option Addr) (c : Nat) (ty : TypeId) : (Builtin.clear_ #[162] ty #[.slice A 0 c]).run Tryz.prog W = .ok (.tuple #[]) W := by
  have hu := Tryz.underlying162
  cases A <;> simp [Builtin.clear_, run_underlying hu]
theorem run_clrP {g c : Nat} {cur : List Value} (h : Rw w g c cur) {o n : Nat} (ho : o + n ≤ c) (cc : Nat) (ty : TypeId) :
    (Builtin.clear_ #[162] ty #[.slice (some ⟨g, o, none⟩) n cc]).run Tryz.prog w = .ok (.tuple #[]) (w.setCells g o (List.replicate n (.pointer none))) := by
  rcases Nat.eq_zero_or_pos n with h0 | h0
  · subst h0; exact run_clr0 w _ _ _
  · exact Lib.run_clear_slice w _ 163 ty _ Tryz.underlying162 (fun W => by
      obtain ⟨i0, hi, hz0, hz1, hz2⟩ := info_parts ptInfo
      simp [zeroValue, typeInfo, hi, hz0]) rfl rfl g o n cc h0 (fun j hj => h.there (by omega)) (fun j hj => h.frozenAt _)
set_option maxHeartbeats 4000000 in
theorem wRep_tail {g n c i : Nat} {cur : List Value} (h : Rw w g c cur) (hi : i < n) (hnc : n ≤ c) {vb : Nat} {u : Value} (hvb : w.heap[vb]? = some (.cells #[u] 163 (0, 0))) (hu : u.oneCell' = true) :
    Calls Tryz.prog 143 #[.slice (some ⟨g, 0, none⟩) n c, .int .i64 (i : Nat), .int .i64 (n : Nat), .slice (some ⟨vb, 0, none⟩) 1 1] w fun e w' => e = .returned (.slice (some ⟨g, 0, none⟩) (i + 1) c) ∧ w' = (w.setCells g i [u]).setCells g (i + 1) (List.replicate (n - (i + 1)) (.pointer none)) := by
  have hcv : w.cell? ⟨vb, 0, none⟩ = some u := cell_of_row _ _ 0 _ _ _ hvb
  have hrun := fun ty => run_appP h (n := i) (by omega) hcv hu 1 ty
  have hclr := fun ty cc => run_clrP (h.set i [u]) (o := i + 1) (n := n - (i + 1)) (by omega) cc ty
  have hc : c ≤ 9223372036854775807 := by have := h.heap.2; unfold maxLen at this; omega
  have i1 : ¬ ((i : Int) = (n : Int)) := by omega
  have i2 : (i : Int) ≤ (n : Int) := by omega
  have i3 : i ≤ n := by omega
  have i4 : i ≤ c := by omega
  have i5 : ¬ (c = i) := by omega
  by_cases hl : i + 1 < n
  · have i7 : (i : Int) + 1 < (n : Int) := by omega
    have i8 : (i : Int) + 1 ≤ (n : Int) := by omega
    have i9 : ((i : Int) + 1).toNat = i + 1 := by omega
    have i10 : (0 : Int) ≤ (i : Int) + 1 := by omega
    have i6 : ¬ (c = i + 1) := by omega
    clear h hvb hcv
    go_enter Tryz.func143, Tryz.ntmps143
    go_wp2_with (first
      | (at_builtin; refine Lib.wpList_append_run _ rfl _ _ _ _ rfl _ _ rfl rfl _ _ (hrun _) ?_)
      | (at_builtin; refine wp_clearP rfl _ 162 rfl _ rfl (hclr _ _) ?_))
    go_ret
    exact ⟨rfl, rfl⟩
  · have i7 : ¬ (i : Int) + 1 < (n : Int) := by omega
    have i8 : n - (i + 1) = 0 := by omega
    rw [i8]
    clear h hvb hcv hclr
    go_enter Tryz.func143, Tryz.ntmps143
    go_wp2_with (first
      | (at_builtin; refine Lib.wpList_append_run _ rfl _ _ _ _ rfl _ _ rfl rfl _ _ (hrun _) ?_))
    go_ret
    exact ⟨rfl, rfl⟩
end
end Go.Proofs.YtknppiebncdjmaaGreat

namespace Go.Proofs.YtknppiebncdjmaaGreat
set_option maxRecDepth 100000
open Go.RowKit

section
variable {w : World}
set_option maxHeartbeats 8000000 in
theorem wRep_mid {g n c i j t : Nat} {cur cs : List Value} (h : Rw w g c cur) (hcs : cur.take n = cs) (h1 : ∀ v ∈ cs, v.oneCell' = true) (hi : i < j) (hj : j < n) (hnc : n ≤ c) (ht : t = i + 1 + (n - j)) {vb : Nat} {u : Value} (hvb : w.heap[vb]? = some (.cells #[u] 163 (0, 0))) (hne : vb ≠ g) (hu : u.oneCell' = true) :
    Calls Tryz.prog 143 #[.slice (some ⟨g, 0, none⟩) n c, .int .i64 (i : Nat), .int .i64 (j : Nat), .slice (some ⟨vb, 0, none⟩) 1 1] w fun e w' => e = .returned (.slice (some ⟨g, 0, none⟩) t c) ∧ w' = (((w.drew.setCells g i [u]).drew).setCells g (i + 1) (cs.drop j)).setCells g t (List.replicate (n - t) (.pointer none)) := by
  have hlen := h.len
  have hcl : cs.length = n := by rw [← hcs, List.length_take]; omega
  have hdl : (cs.drop j).length = n - j := by rw [List.length_drop, hcl]
  have hcell : ∀ k v, cs[k]? = some v → cur[k]? = some v := fun k v hk => by
    rw [← hcs, List.getElem?_take] at hk
    split at hk
    · exact hk
    · cases hk
  have R0 : Rw w.drew g c cur := h
  have hcp1 : ∀ ty dL dc, 1 ≤ dL → (Builtin.copy_ #[162, 161] ty #[.slice (some ⟨g, i, none⟩) dL dc, .slice (some ⟨vb, 0, none⟩) 1 1]).run Tryz.prog w.drew = .ok (goInt [u].length) (w.drew.setCells g i [u]) := fun ty dL dc hd => by
    refine run_cpP R0 (m := 1) rfl (by omega) _ _ _ _ _ (by simp only [Nat.min_def]; split <;> omega) (fun k v hk => ?_) (by simpa using hu) _ _
    match k, hk with
    | 0, hk => cases hk; rw [Addr.add_lit]; exact cell_of_row _ _ 0 _ _ _ hvb
  obtain ⟨W1, hW1⟩ : ∃ W1, W1 = w.drew.setCells g i [u] := ⟨_, rfl⟩
  rw [← hW1] at hcp1 ⊢
  have R1 : Rw W1.drew g c (putL cur i [u]) := by rw [hW1]; exact R0.set _ _
  have hcp2 : ∀ ty dc sc, (Builtin.copy_ #[162, 162] ty #[.slice (some ⟨g, i + 1, none⟩) (t - (i + 1)) dc, .slice (some ⟨g, j, none⟩) (n - j) sc]).run Tryz.prog W1.drew = .ok (goInt (cs.drop j).length) (W1.drew.setCells g (i + 1) (cs.drop j)) := fun ty dc sc => by
    refine run_cpP R1 hdl (by omega) _ _ _ _ _ (by simp only [Nat.min_def]; split <;> omega) (fun k v hk => ?_) (fun v hv => h1 v (List.mem_of_mem_drop hv)) _ _
    rw [Addr.add_lit]
    refine R1.cell ?_
    rw [List.getElem?_drop] at hk
    rw [putL_get _ _ _ _ (by simp; omega), if_neg (by simp; omega)]
    exact hcell _ _ hk
  obtain ⟨W2, hW2⟩ : ∃ W2, W2 = W1.drew.setCells g (i + 1) (cs.drop j) := ⟨_, rfl⟩
  rw [← hW2] at hcp2 ⊢
  have R2 : Rw W2 g c (putL (putL cur i [u]) (i + 1) (cs.drop j)) := by rw [hW2]; exact R1.set _ _
  have hclr := fun ty cc => run_clrP R2 (o := t) (n := n - t) (by omega) cc ty
  have hc63 : c ≤ 9223372036854775807 := by have := h.heap.2; unfold maxLen at this; omega
  have a1 : ¬ ((i : Int) = (j : Int)) := by omega
  have a2 : (i : Int) ≤ (j : Int) := by omega
  have a3 : j ≤ c := by omega
  have a4 : i ≤ c := by omega
  have a5 : ¬ ((j : Int) = (n : Int)) := by omega
  have a6 : ¬ (c = i) := by omega
  have a7 : ¬ (c = j) := by omega
  have a8 : j ≤ n := by omega
  have a9 : i ≤ n := by omega
  have a10 : (j : Int) ≤ (n : Int) := by omega
  have a11 : IntKind.i64.wrap ((i : Int) + 1) = (i : Int) + 1 := by rw [IntKind.wrap_i64]; omega
  have a12 : IntKind.i64.wrap ((i : Int) + 1 + ((n - j : Nat) : Int)) = (t : Int) := by rw [IntKind.wrap_i64]; omega
  have a13 : ¬ ((c : Int) < (t : Int)) := by omega
  have a14 : (i : Int) + 1 ≤ (j : Int) := by omega
  have a15 : t ≤ c := by omega
  have a16 : t ≤ n := by omega
  have a17 : i ≤ t := by omega
  have a18 : (i : Int) + 1 ≤ (t : Int) := by omega
  have a19 : ((i : Int) + 1).toNat = i + 1 := by omega
  have a20 : (0 : Int) ≤ (i : Int) + 1 := by omega
  have a21 : ¬ (c = i + 1) := by omega
  have a22 : (t : Int) ≤ (n : Int) := by omega
  have a24 : 1 ≤ t - i := by omega
  have a25 : (i : Int) ≤ (t : Int) := by omega
  have mixed : Tryz.prog.follows Departure.mixedOrders = true := by kernel_rfl
  have HN := Lib.hid (show t = n ∨ t < n by omega)
  have HX := Lib.hid (show t < n → ¬ (c = t) by omega)
  clear ht hcell R0 R2 R1 hcl hdl hlen h hvb hcs hW1 hW2
  rcases HN.out with hn | hn
  · have hcl0 := fun A ty cc => run_clr0 W2 A cc ty
    have hz : (W2.setCells g t (List.replicate (n - t) (.pointer none))) = W2 := by rw [hn, Nat.sub_self]; rfl
    rw [hz]
    have hz2 : n - t = 0 := by omega
    clear hz hclr HX HN
    subst hn
    rw [Nat.sub_self] at hz2
    clear hz2 a22 a16 a8 a5
    have hct : c = t ∨ ¬ c = t := by omega
    rcases hct with rfl | hct
    all_goals
     go_enter Tryz.func143, Tryz.ntmps143
     go_wp2
     go_region
     go_wp2_with (at_builtin; refine wp_copyP rfl _ _ 162 161 rfl _ _ rfl rfl (hcp1 _ _ _ a24) ?_)
     go_region_law_o (refine step_copyP rfl _ _ 162 162 rfl _ _ (by simp [Act.eval, Act.put]) (by simp [Act.eval, Act.put]) (hcp2 _ _ _) ?_)
     go_wp2_with (at_builtin; refine wp_clearP rfl _ 162 rfl _ rfl (hcl0 _ _ _) ?_)
     go_ret
     exact ⟨rfl, rfl⟩
  have a23 := HX.out hn
  clear HN HX
  go_enter Tryz.func143, Tryz.ntmps143
  go_wp2
  go_region
  go_wp2_with (at_builtin; refine wp_copyP rfl _ _ 162 161 rfl _ _ rfl rfl (hcp1 _ _ _ a24) ?_)
  go_region_law_o (refine step_copyP rfl _ _ 162 162 rfl _ _ (by simp [Act.eval, Act.put]) (by simp [Act.eval, Act.put]) (hcp2 _ _ _) ?_)
  go_wp2_with (at_builtin; refine wp_clearP rfl _ 162 rfl _ rfl (hclr _ _) ?_)
  go_ret
  exact ⟨rfl, rfl⟩
end
end Go.Proofs.YtknppiebncdjmaaGreat

namespace Go.Proofs.YtknppiebncdjmaaGreat
set_option maxRecDepth 100000
open Go.RowKit

section
variable {w : World}
theorem wReplaceP {v : Value} {ps : List Nat} (h : PV w v ps) {i j : Nat} (hij : i ≤ j) (hj : j ≤ ps.length) (hn : ps.length ≤ 100000) {vb p : Nat} (hvb : w.heap[vb]? = some (.cells #[ptV p] 163 (0, 0))) (hne : v.ownBlock ≠ some vb) :
    Calls Tryz.prog 143 #[v, .int .i64 (i : Nat), .int .i64 (j : Nat), .slice (some ⟨vb, 0, none⟩) 1 1] w fun e w' => ∃ v', e = .returned v' ∧ InsIs w w' v v' (ps.take i ++ [p] ++ ps.drop j) := by
  rcases Nat.eq_or_lt_of_le hij with rfl | hlt
  · exact wRep_none h hj hn hvb hne
  · rcases h with ⟨rfl, rfl⟩ | ⟨g, c, cur, rfl, h1, h2, h3⟩
    · simp at hj; omega
    · have hne2 : vb ≠ g := fun e => hne (by rw [e]; rfl)
      have hone : ∀ u ∈ ptC ps, u.oneCell' = true := ptC_one ps
      have hcl : (ptC ps).length = ps.length := ptC_len ps
      have hcj : ∀ k, k < ps.length → (ptC ps)[k]? = cur[k]? := fun k hk => by rw [← h3, List.getElem?_take, if_pos hk]
      have hcur := h1.len
      have hpc : ptC (ps.take i ++ [p] ++ ps.drop j) = (ptC ps).take i ++ [ptV p] ++ (ptC ps).drop j := by simp [ptC]
      have hlen : (ps.take i ++ [p] ++ ps.drop j).length = i + 1 + (ps.length - j) := by simp; omega
      have hd : ((ptC ps).drop j).length = ps.length - j := by rw [List.length_drop, hcl]
      rcases Nat.eq_or_lt_of_le hj with rfl | hjl
      · refine (wRep_tail h1 hlt h2 hvb (show (ptV p).oneCell' = true from rfl)).mono ?_
        rintro e w' ⟨he, rfl⟩
        have hlen2 : (ps.take i ++ [p] ++ ps.drop ps.length).length = i + 1 := by rw [hlen]; omega
        refine ⟨_, he, .inr ⟨g, c, _, by rw [hlen2], (h1.set _ _).set _ _, by rw [hlen2]; omega, ?_⟩, ⟨_, rfl, .inl rfl⟩, by refine Out.setCells (Out.setCells (Out.refl _ _) (.inl ?_) _ _) (.inl ?_) _ _ <;> rfl⟩
        rw [hlen2, hpc]
        apply List.ext_getElem?
        intro k
        rw [List.getElem?_take]
        by_cases hk : k < i + 1
        · rw [if_pos hk, putL_get _ _ _ _ (by rw [putL_len]; simp; omega), if_neg (by omega), putL_get _ _ _ _ (by simp; omega)]
          by_cases a1 : k < i
          · rw [if_neg (by omega), List.append_assoc, List.getElem?_append_left (by rw [List.length_take]; omega), List.getElem?_take, if_pos a1, hcj k (by omega)]
          · have : k = i := by omega
            subst this
            rw [if_pos (by simp), List.append_assoc, List.getElem?_append_right (by rw [List.length_take]; omega), List.length_take, hcl]
            simp [show k - min k ps.length = 0 by omega]
        · rw [if_neg hk, List.getElem?_eq_none (by simp [hcl]; omega)]
      · refine (wRep_mid h1 h3 hone hlt hjl h2 rfl hvb hne2 (show (ptV p).oneCell' = true from rfl)).mono ?_
        rintro e w' ⟨he, rfl⟩
        refine ⟨_, he, .inr ⟨g, c, _, by rw [hlen], ((h1.drew.set i [ptV p]).drew.set (i + 1) ((ptC ps).drop j)).set _ _, by rw [hlen]; omega, ?_⟩, ⟨_, rfl, .inl rfl⟩, by refine Out.setCells (Out.setCells (Out.drew (Out.setCells (Out.drew (Out.refl _ _)) (.inl ?_) _ _)) (.inl ?_) _ _) (.inl ?_) _ _ <;> rfl⟩
        rw [hlen, hpc]
        apply List.ext_getElem?
        intro k
        rw [List.getElem?_take]
        by_cases hk : k < i + 1 + (ps.length - j)
        · rw [if_pos hk, putL_get _ _ _ _ (by rw [putL_len, putL_len]; simp; omega), if_neg (by omega), putL_get _ _ _ _ (by rw [putL_len, hd]; omega), hd]
          rcases Nat.lt_trichotomy k i with a1 | a1 | a1
          · rw [if_neg (by omega), putL_get _ _ _ _ (by simp; omega), if_neg (by omega), List.append_assoc, List.getElem?_append_left (by rw [List.length_take]; omega), List.getElem?_take, if_pos a1, hcj k (by omega)]
          · subst a1
            rw [if_neg (by omega), putL_get _ _ _ _ (by simp; omega), if_pos (by simp), List.append_assoc, List.getElem?_append_right (by rw [List.length_take]; omega), List.length_take, hcl]
            simp [show k - min k ps.length = 0 by omega]
          · rw [if_pos (by omega), List.append_assoc, List.getElem?_append_right (by rw [List.length_take]; omega), List.length_take, hcl, List.getElem?_append_right (by simp; omega)]
            congr 1
            simp; omega
        · rw [if_neg hk, List.getElem?_eq_none (by simp [hcl]; omega)]
end
end Go.Proofs.YtknppiebncdjmaaGreat

namespace Go.Proofs.YtknppiebncdjmaaGreat
set_option maxRecDepth 100000
open Go.RowKit Go.Sort

def RdAt (w : World) (p : Nat) (x : Rd) : Prop := w.heap[p]? = some (.cells #[.string x.tb, .int .i64 x.kd, .string x.lo, .string x.hi] 114 (0, 0))
theorem grow_none (w : World) : grow w #[] = w := by
  unfold grow
  rw [Array.append_empty]
theorem RdAt.block {w w' : World} {p : Nat} {x : Rd} (h : RdAt w p x) (hb : w'.heap[p]? = w.heap[p]?) : RdAt w' p x := hb.trans h
theorem RdAt.lt {w : World} {p : Nat} {x : Rd} (h : RdAt w p x) : p < w.heap.size := (Array.getElem?_eq_some_iff.1 h).1
theorem RdAt.cells {w : World} {p : Nat} {x : Rd} (h : RdAt w p x) : w.cell? ⟨p, 0, none⟩ = some (.string x.tb) ∧ w.cell? ⟨p, 1, none⟩ = some (.int .i64 x.kd) ∧ w.cell? ⟨p, 2, none⟩ = some (.string x.lo) ∧ w.cell? ⟨p, 3, none⟩ = some (.string x.hi) :=
  ⟨cell_of_row _ _ 0 _ _ _ h, cell_of_row _ _ 1 _ _ _ h, cell_of_row _ _ 2 _ _ _ h, cell_of_row _ _ 3 _ _ _ h⟩
structure NL (w : World) (v : Value) (ls : List (Nat × Rd)) : Prop where
  pv : PV w v (ls.map (·.1))
  rd : ∀ q ∈ ls, RdAt w q.1 q.2
theorem NL.nil (w : World) : NL w (.slice none 0 0) [] := ⟨PV.nil w, by simp⟩
theorem NL.gw {w w' : World} {v : Value} {ls : List (Nat × Rd)} (h : NL w v ls) (hb : Below w.heap.size w w') : NL w' v ls :=
  ⟨h.pv.block fun k hk => hb.block k (h.pv.lt k hk), fun q hq => (h.rd q hq).block (hb.block _ (h.rd q hq).lt)⟩
theorem NL.form {w : World} {v : Value} {ls : List (Nat × Rd)} (h : NL w v ls) : ∃ A c, v = .slice A ls.length c ∧ ls.length ≤ c ∧ c ≤ maxLen ∧ ∀ (j : Nat) (q : Nat × Rd), ls[j]? = some q → ∃ g, A = some ⟨g, 0, none⟩ ∧ w.cell? ⟨g, j, none⟩ = some (ptV q.1) ∧ RdAt w q.1 q.2 := by
  rcases h.pv with ⟨rfl, e⟩ | ⟨g, c, cur, rfl, h1, h2, h3⟩
  · have : ls = [] := List.map_eq_nil_iff.1 e
    subst this
    exact ⟨none, 0, rfl, Nat.le_refl _, by simp [maxLen], fun j q hj => by simp at hj⟩
  · refine ⟨_, c, by rw [List.length_map], by simpa using h2, h1.heap.2, fun j q hj => ⟨g, rfl, ?_, h.rd q (List.mem_of_getElem? hj)⟩⟩
    refine h1.cell ?_
    have : (cur.take (ls.map (·.1)).length)[j]? = some (ptV q.1) := by rw [h3]; simp [ptC, hj]
    rw [List.getElem?_take] at this
    split at this
    · exact this
    · cases this
def begP (xs : List Rd) (key : ByteArray) : Nat := xs.countP fun x => !klB key x.lo
def begAt (xs : List Rd) (key : ByteArray) (i : Nat) : Bool := (xs[i]?).elim true fun x => klB key x.lo
theorem begP_range : ∀ (xs : List Rd) (key : ByteArray), (List.range xs.length).countP (fun i => !begAt xs key i) = begP xs key
  | [], key => rfl
  | x :: xs, key => by
    have ih := begP_range xs key
    rw [List.length_cons, List.range_succ_eq_map, List.countP_cons, List.countP_map]
    unfold begP at ih ⊢
    rw [List.countP_cons, ← ih]
    rfl
theorem begAt_mono {xs : List Rd} (h : xs.Pairwise fun a b => klB b.lo a.lo = false) (key : ByteArray) (a b : Nat) (hab : a ≤ b) (hb : b < xs.length) (ha : begAt xs key a = true) : begAt xs key b = true := by
  unfold begAt at *
  rw [List.getElem?_eq_getElem (by omega)] at ha
  rw [List.getElem?_eq_getElem hb]
  simp only [Option.elim_some] at ha ⊢
  rcases Nat.eq_or_lt_of_le hab with rfl | hlt
  · exact ha
  · exact klB_lt_le ha (List.pairwise_iff_getElem.1 h a b (by omega) hb hlt)

set_option maxHeartbeats 2000000 in
theorem wpBeg1 {w : World} {bl bk : Nat} {v : Value} {key : ByteArray} {ls : List (Nat × Rd)} (h : NL w v ls) (hl : w.cell? ⟨bl, 0, none⟩ = some v) (hk : w.cell? ⟨bk, 0, none⟩ = some (.string key)) {i : Nat} (hi : i < ls.length) :
    Calls Tryz.prog 179 #[.int .i64 (i : Nat), .pointer (some ⟨bl, 0, none⟩), .pointer (some ⟨bk, 0, none⟩)] w fun e w' => e = .returned (.bool (begAt (ls.map (·.2)) key i)) ∧ ∃ q, w' = w.drewN q := by
  obtain ⟨q, hq⟩ : ∃ q, ls[i]? = some q := ⟨_, List.getElem?_eq_getElem hi⟩
  have hb : begAt (ls.map (·.2)) key i = !(Op.bytesLess q.2.lo.toList key.toList || q.2.lo.toList == key.toList) := by
    unfold begAt
    rw [List.getElem?_map, hq, ← bl_le8]
    rfl
  obtain ⟨A, c, rfl, h1, h2, h3⟩ := h.form
  obtain ⟨g, rfl, c1, hr⟩ := h3 i q hq
  obtain ⟨x0, x1, x2, x3⟩ := hr.cells
  have h4 : (i : Int) < (ls.length : Int) := by omega
  unfold ptV at c1
  clear h h3 hr hq h2 h1 hi
  cases e1 : Op.bytesLess q.2.lo.toList key.toList <;> cases e2 : (q.2.lo.toList == key.toList)
  all_goals
    have HM := Lib.hid (show begAt (ls.map (·.2)) key i = _ by rw [hb, e1, e2])
    clear hb
    go_enter Tryz.func179, Tryz.ntmps179
    go_upto_region 1 with fail
    go_quiet (fail)
    go_wp2
    go_ret
    exact ⟨by rw [HM.out] <;> rfl, _, rfl⟩
set_option maxHeartbeats 2000000 in
theorem wpBeg {w : World} {v : Value} {key : ByteArray} {ls : List (Nat × Rd)} (h : NL w v ls) (hn : ls.length ≤ 100000) (hs : (ls.map (·.2)).Pairwise fun a b => klB b.lo a.lo = false) :
    Calls Tryz.prog 141 #[v, .string key] w fun e w' => e = .returned (.int .i64 (begP (ls.map (·.2)) key : Nat)) ∧ Below w.heap.size w w' := by
  obtain ⟨W, hW⟩ : ∃ W, (w.alloc (.cells #[v] 162)).alloc (.cells #[.string key] 9) = W := ⟨_, rfl⟩
  have HW := Lib.hid hW
  have b1 : Below w.heap.size w (w.alloc (.cells #[v] 162)) := below_alloc9 _ _
  have b2 : Below w.heap.size w W := by rw [← hW]; exact b1.alloc b1.size _
  have HB := Lib.hid b2
  have c0 : W.cell? ⟨w.heap.size, 0, none⟩ = some v := by rw [← hW]; exact cell_alloc_sl _ (cell_new_sl _ _ _)
  have c1 : W.cell? ⟨w.heap.size + 1, 0, none⟩ = some (.string key) := by
    rw [← hW]
    have := cell_new_sl (w.alloc (.cells #[v] 162)) (.string key) 9
    rw [World.size_alloc] at this
    exact this
  have hN := h.gw b2
  have hlW : W.heap.size = w.heap.size + 2 := by rw [← hW]; simp
  have eg : ∀ args w, (callFunc 179 args).run Tryz.prog w = .ok (.enter 179 args) w := enters_of Tryz.func179 (by kernel_rfl) rfl
  have hcon := Any.sort_Search Tryz.searchL 179 #[.pointer (some ⟨w.heap.size, 0, none⟩), .pointer (some ⟨w.heap.size + 1, 0, none⟩)] ls.length (begAt (ls.map (·.2)) key) W eg (by omega)
    (fun m os i hi => by
      have hb := below_grown_sl W.heap.size W m os (Nat.le_refl _)
      have := wpBeg1 (hN.gw hb) (keep_below c0 hb) (keep_below c1 hb) hi
      refine this.mono ?_
      rintro e w' ⟨h1, q, rfl⟩
      exact ⟨h1, q, #[], (grow_none _).symm⟩)
    (fun a b hab hb ha => begAt_mono hs key a b hab (by simpa using hb) ha)
  change Calls Tryz.prog 157 _ _ _ at hcon
  rw [show (List.range ls.length).countP (fun i => !begAt (ls.map (·.2)) key i) = begP (ls.map (·.2)) key by rw [← begP_range, List.length_map]] at hcon
  have HC := Lib.hid hcon
  obtain ⟨A, c, rfl, h1, h2, h3⟩ := h.form
  have h4 : c ≤ 9223372036854775807 := by unfold maxLen at h2; omega
  generalize begP (ls.map (·.2)) key = b at HC ⊢
  clear hcon h3 hN hW b1 b2 h h2 hs
  go_enter Tryz.func141, Tryz.ntmps141
  go_upto_region 1 with fail
  rw [HW.out]
  go_wp2_with (go_at_call 157; go_loud (refine HC.out.mono ?_; rintro e w1 ⟨rfl, q, os, rfl⟩))
  go_ret
  exact ⟨rfl, below_next HB.out (below_grown_sl _ _ _ _ (Nat.le_refl _))⟩
end Go.Proofs.YtknppiebncdjmaaGreat

namespace Go.Proofs.YtknppiebncdjmaaGreat
set_option maxRecDepth 100000

theorem ends_lo {x : Rd} (h : mayP x = true) : (endsP x).1 = x.lo := by
  unfold endsP
  rcases may_kd h with h1 | h1 | h1
  · rw [if_pos h1]
  · rw [if_neg (by omega), if_pos h1]
  · rw [if_neg (by omega), if_neg (by omega)]
    unfold mayP at h
    rw [if_neg (by omega), if_neg (by omega), if_pos h1] at h
    simp only [Bool.and_eq_true, isE_is, decide_eq_true_eq] at h
    exact h.1.symm
def leE (a b : Rd) : Bool := !(endsP b).2.2 || ((endsP a).2.2 && !klB (endsP b).2.1 (endsP a).2.1)
theorem leE_total (a b : Rd) : leE a b = true ∨ leE b a = true := by
  unfold leE
  cases (endsP a).2.2 <;> cases (endsP b).2.2 <;> simp
  cases h : klB (endsP b).2.1 (endsP a).2.1
  · exact .inl rfl
  · exact .inr (klB_asymm h)
theorem leE_trans {a b c : Rd} (h1 : leE a b = true) (h2 : leE b c = true) : leE a c = true := by
  unfold leE at *
  cases ha : (endsP a).2.2 <;> cases hb : (endsP b).2.2 <;> cases hc : (endsP c).2.2 <;> simp_all
  cases h : klB (endsP c).2.1 (endsP a).2.1
  · rfl
  · have := klB_lt_le h h1
    rw [this] at h2; cases h2
theorem covers_is {a b : Rd} (ha : mayP a = true) (hb : mayP b = true) (ht : a.tb = b.tb) : coversP a b = (!klB b.lo a.lo && leE b a) := by
  unfold coversP leE
  rw [ha, hb, ht, ends_lo ha, ends_lo hb]
  simp
structure OrdL (tb : ByteArray) (xs : List Rd) : Prop where
  may : ∀ x ∈ xs, mayP x = true ∧ x.tb = tb
  ord : xs.Pairwise fun a b => klB a.lo b.lo = true
  apart : xs.Pairwise fun a b => coversP a b = false ∧ coversP b a = false
theorem OrdL.nil (tb : ByteArray) : OrdL tb [] := ⟨by simp, List.Pairwise.nil, List.Pairwise.nil⟩
theorem OrdL.one {x : Rd} (h : mayP x = true) : OrdL x.tb [x] := ⟨by simpa using h, List.pairwise_singleton _ _, List.pairwise_singleton _ _⟩
theorem OrdL.weak {tb : ByteArray} {xs : List Rd} (h : OrdL tb xs) : xs.Pairwise fun a b => klB b.lo a.lo = false := h.ord.imp fun h => klB_asymm h
theorem OrdL.ends {tb : ByteArray} {xs : List Rd} (h : OrdL tb xs) : xs.Pairwise fun a b => leE a b = true ∧ leE b a = false := by
  have h2 := List.Pairwise.and h.ord h.apart
  refine List.Pairwise.imp_of_mem ?_ h2
  rintro a b ha hb ⟨h3, h4, -⟩
  obtain ⟨ma, ta⟩ := h.may a ha
  obtain ⟨mb, tb'⟩ := h.may b hb
  rw [covers_is ma mb (ta.trans tb'.symm), klB_asymm h3] at h4
  have h5 : leE b a = false := by simpa using h4
  exact ⟨(leE_total a b).resolve_right (by rw [h5]; simp), h5⟩
def begN (xs : List Rd) (key : ByteArray) : Nat := xs.countP fun x => !klB key x.lo
theorem weak_split {xs : List Rd} (h : xs.Pairwise fun a b => klB b.lo a.lo = false) (key : ByteArray) : ∀ i x, xs[i]? = some x → (klB key x.lo = false ↔ i < begN xs key) := by
  induction xs with
  | nil => intro i x hx; simp at hx
  | cons y xs ih =>
    obtain ⟨h1, h2⟩ := List.pairwise_cons.1 h
    intro i x hx
    unfold begN
    rw [List.countP_cons]
    cases hy : klB key y.lo with
    | false =>
      simp only [Bool.not_false, if_true]
      cases i with
      | zero => cases hx; simp [hy]
      | succ i =>
        have := ih h2 i x hx
        unfold begN at this
        rw [this]; omega
    | true =>
      have h0 : xs.countP (fun x => !klB key x.lo) = 0 := List.countP_eq_zero.2 fun z hz => by
        rw [klB_lt_le hy (h1 z hz)]; simp
      rw [h0]
      simp only [Bool.not_true, Bool.false_eq_true, if_false, Nat.not_lt_zero, iff_false, Nat.add_zero]
      cases i with
      | zero => cases hx; rw [hy]; simp
      | succ i =>
        have hm : x ∈ xs := List.mem_of_getElem? hx
        rw [klB_lt_le hy (h1 x hm)]; simp
theorem begN_le (xs : List Rd) (key : ByteArray) : begN xs key ≤ xs.length := List.countP_le_length
def coverP (xs : List Rd) (x : Rd) : Bool := decide (0 < begN xs x.lo) && (xs[begN xs x.lo - 1]?).elim false fun y => coversP y x
theorem cover_any {tb : ByteArray} {xs : List Rd} (h : OrdL tb xs) {x : Rd} (hm : mayP x = true) (ht : x.tb = tb) : coverP xs x = xs.any fun y => coversP y x := by
  have hsp := weak_split h.weak x.lo
  cases ha : xs.any fun y => coversP y x with
  | false =>
    rw [List.any_eq_false] at ha
    unfold coverP
    cases hx : xs[begN xs x.lo - 1]? with
    | none => simp
    | some y =>
      have := ha y (List.mem_of_getElem? hx)
      simp [this]
  | true =>
    obtain ⟨y, hy, hc⟩ := List.any_eq_true.1 ha
    obtain ⟨i, hi⟩ := List.getElem?_of_mem hy
    obtain ⟨my, ty⟩ := h.may y hy
    rw [covers_is my hm (ty.trans ht.symm)] at hc
    simp only [Bool.and_eq_true, Bool.not_eq_true'] at hc
    have h1 := (hsp i y hi).1 hc.1
    have h2 := begN_le xs x.lo
    obtain ⟨z, hz⟩ : ∃ z, xs[begN xs x.lo - 1]? = some z := ⟨_, List.getElem?_eq_getElem (by omega)⟩
    have hzm := List.mem_of_getElem? hz
    obtain ⟨mz, tz⟩ := h.may z hzm
    have h3 := (hsp _ z hz).2 (by omega)
    have h4 : leE y z = true := by
      rcases Nat.eq_or_lt_of_le (show i ≤ begN xs x.lo - 1 by omega) with e | e
      · rw [← e, hi] at hz
        cases hz
        exact (leE_total y y).elim id id
      · have hp := List.pairwise_iff_getElem.1 h.ends i (begN xs x.lo - 1) (by omega) (by omega) e
        rw [List.getElem?_eq_getElem (by omega)] at hi hz
        cases hi; cases hz
        exact hp.1
    unfold coverP
    rw [hz]
    simp only [Option.elim_some, Bool.and_eq_true, decide_eq_true_eq]
    refine ⟨by omega, ?_⟩
    rw [covers_is mz hm (tz.trans ht.symm), h3, leE_trans hc.2 h4]
    rfl
def firstN (xs : List Rd) (x : Rd) : Nat := if 0 < begN xs x.lo ∧ ((xs[begN xs x.lo - 1]?).elim false fun y => coversP x y) = true then begN xs x.lo - 1 else begN xs x.lo
def lastN (xs : List Rd) (x : Rd) : Nat := firstN xs x + ((xs.drop (firstN xs x)).takeWhile (coversP x)).length
def withP (xs : List Rd) (x : Rd) : List Rd := xs.take (firstN xs x) ++ [x] ++ xs.drop (lastN xs x)
theorem first_le (xs : List Rd) (x : Rd) : firstN xs x ≤ xs.length := by
  have := begN_le xs x.lo
  unfold firstN
  split <;> omega
theorem last_le (xs : List Rd) (x : Rd) : lastN xs x ≤ xs.length := by
  have := first_le xs x
  have h2 := (List.takeWhile_prefix (coversP x) (l := xs.drop (firstN xs x))).length_le
  rw [List.length_drop] at h2
  unfold lastN
  omega
theorem takeWhile_true {α : Type} (f : α → Bool) : ∀ (l : List α) (y : α), y ∈ l.takeWhile f → f y = true
  | [], y, h => by simp at h
  | a :: l, y, h => by
    cases ha : f a with
    | false => rw [List.takeWhile_cons_of_neg (by rw [ha]; simp)] at h; simp at h
    | true =>
      rw [List.takeWhile_cons_of_pos ha] at h
      rcases List.mem_cons.1 h with e | e
      · rw [e]; exact ha
      · exact takeWhile_true f l y e
theorem with_split {tb : ByteArray} {xs : List Rd} (h : OrdL tb xs) {x : Rd} (hm : mayP x = true) (ht : x.tb = tb) (hn : xs.any (fun y => coversP y x) = false) :
    (∀ y ∈ xs.take (firstN xs x), coversP x y = false ∧ klB y.lo x.lo = true) ∧ (∀ y ∈ xs.drop (lastN xs x), coversP x y = false ∧ klB x.lo y.lo = true) ∧
      ∀ y ∈ (xs.drop (firstN xs x)).takeWhile (coversP x), coversP x y = true := by
  have hsp := weak_split h.weak x.lo
  have hb := begN_le xs x.lo
  have hcx : ∀ y ∈ xs, coversP x y = (!klB y.lo x.lo && leE y x) := fun y hy => covers_is hm (h.may y hy).1 (ht.trans (h.may y hy).2.symm)
  have hcy : ∀ y ∈ xs, (klB x.lo y.lo = true ∨ leE x y = false) := fun y hy => by
    have h1 := List.any_eq_false.1 hn y hy
    rw [covers_is (h.may y hy).1 hm ((h.may y hy).2.trans ht.symm)] at h1
    cases h2 : klB x.lo y.lo
    · rw [h2] at h1; simp at h1; exact .inr h1
    · exact .inl rfl
  have hA : ∀ i y, xs[i]? = some y → i < firstN xs x → coversP x y = false ∧ klB y.lo x.lo = true := fun i y hi hf => by
    have hym := List.mem_of_getElem? hi
    have hib : i < begN xs x.lo := by unfold firstN at hf; split at hf <;> omega
    have hle := (hsp i y hi).2 hib
    have hlt : klB y.lo x.lo = true := by
      cases hlt : klB y.lo x.lo with
      | true => rfl
      | false =>
        exfalso
        have heq := klB_tri hlt hle
        have hxy : leE x y = false := (hcy y hym).resolve_left (by rw [hle]; simp)
        have hyx : leE y x = true := (leE_total y x).resolve_right (by rw [hxy]; simp)
        have hc : coversP x y = true := by rw [hcx y hym, hlt, hyx]; rfl
        have hlast : i = begN xs x.lo - 1 := by
          rcases Nat.lt_or_ge i (begN xs x.lo - 1) with e | e
          · exfalso
            obtain ⟨z, hz⟩ : ∃ z, xs[begN xs x.lo - 1]? = some z := ⟨_, List.getElem?_eq_getElem (by omega)⟩
            have h1 := (hsp _ z hz).2 (by omega)
            have hp := List.pairwise_iff_getElem.1 h.ord i (begN xs x.lo - 1) (by omega) (by omega) e
            rw [List.getElem?_eq_getElem (by omega)] at hi hz
            cases hi; cases hz
            rw [heq, h1] at hp
            cases hp
          · omega
        unfold firstN at hf
        rw [← hlast, hi] at hf
        simp only [Option.elim_some, hc, and_true] at hf
        rw [if_pos (by omega)] at hf
        omega
    exact ⟨by rw [hcx y hym, hlt]; rfl, hlt⟩
  have hfl : firstN xs x ≤ begN xs x.lo := by unfold firstN; split <;> omega
  have hlast : begN xs x.lo ≤ lastN xs x := by
    unfold lastN
    by_cases hc : 0 < begN xs x.lo ∧ ((xs[begN xs x.lo - 1]?).elim false fun y => coversP x y) = true
    · have hf : firstN xs x = begN xs x.lo - 1 := by unfold firstN; rw [if_pos hc]
      rw [hf]
      obtain ⟨z, hz⟩ : ∃ z, xs[begN xs x.lo - 1]? = some z := ⟨_, List.getElem?_eq_getElem (by omega)⟩
      have hc2 := hc.2
      rw [hz] at hc2
      simp only [Option.elim_some] at hc2
      rw [List.drop_eq_getElem_cons (by omega)]
      rw [List.getElem?_eq_getElem (by omega)] at hz
      cases hz
      rw [List.takeWhile_cons_of_pos hc2]
      simp; omega
    · have hf : firstN xs x = begN xs x.lo := by unfold firstN; rw [if_neg hc]
      rw [hf]; omega
  refine ⟨fun y hy => ?_, fun y hy => ?_, fun y hy => takeWhile_true _ _ y hy⟩
  · obtain ⟨i, hi⟩ := List.getElem?_of_mem hy
    rw [List.getElem?_take] at hi
    split at hi
    · exact hA i y hi ‹_›
    · cases hi
  · obtain ⟨k, hk⟩ := List.getElem?_of_mem hy
    rw [List.getElem?_drop] at hk
    have hym := List.mem_of_getElem? hk
    have hlt : klB x.lo y.lo = true := by
      cases h1 : klB x.lo y.lo with
      | true => rfl
      | false => have := (hsp _ y hk).1 h1; omega
    refine ⟨?_, hlt⟩
    have hkl : lastN xs x < xs.length := by
      have := (List.getElem?_eq_some_iff.1 hk).1
      omega
    obtain ⟨z, hz⟩ : ∃ z, xs[lastN xs x]? = some z := ⟨_, List.getElem?_eq_getElem hkl⟩
    have hzm := List.mem_of_getElem? hz
    have hzc : coversP x z = false := by
      have hd : (xs.drop (firstN xs x))[((xs.drop (firstN xs x)).takeWhile (coversP x)).length]? = some z := by rw [List.getElem?_drop]; exact hz
      generalize xs.drop (firstN xs x) = l at hd
      clear hz
      induction l with
      | nil => simp at hd
      | cons a l ih =>
        cases ha : coversP x a with
        | false => rw [List.takeWhile_cons_of_neg (by rw [ha]; simp)] at hd; simp at hd; rw [← hd]; exact ha
        | true => rw [List.takeWhile_cons_of_pos ha] at hd; simp at hd; exact ih hd
    have hzl : klB z.lo x.lo = false := by
      cases h1 : klB x.lo z.lo with
      | true => exact klB_asymm h1
      | false => have := (hsp _ z hz).1 h1; omega
    have hze : leE z x = false := by
      rw [hcx z hzm, hzl] at hzc
      simpa using hzc
    rw [hcx y hym]
    have : leE y x = false := by
      cases h1 : leE y x with
      | false => rfl
      | true =>
        rcases Nat.eq_zero_or_pos k with e | e
        · subst e; rw [Nat.add_zero, hz] at hk; cases hk; rw [hze] at h1; cases h1
        · have hlt2 := (List.getElem?_eq_some_iff.1 hk).1
          have hp := List.pairwise_iff_getElem.1 h.ends (lastN xs x) (lastN xs x + k) hkl hlt2 (by omega)
          rw [List.getElem?_eq_getElem hkl] at hz
          rw [List.getElem?_eq_getElem hlt2] at hk
          cases hz; cases hk
          rw [leE_trans hp.1 h1] at hze
          cases hze
    rw [this]; simp
theorem with_is {tb : ByteArray} {xs : List Rd} (h : OrdL tb xs) {x : Rd} (hm : mayP x = true) (ht : x.tb = tb) (hn : xs.any (fun y => coversP y x) = false) :
    OrdL tb (withP xs x) ∧ (withP xs x).Perm ((xs.filter fun y => !coversP x y) ++ [x]) := by
  obtain ⟨h1, h2, h3⟩ := with_split h hm ht hn
  have hany := List.any_eq_false.1 hn
  have hxs : xs = xs.take (firstN xs x) ++ ((xs.drop (firstN xs x)).takeWhile (coversP x) ++ xs.drop (lastN xs x)) := by
    conv => lhs; rw [← List.take_append_drop (firstN xs x) xs]
    congr 1
    conv => lhs; rw [← List.takeWhile_append_dropWhile (p := coversP x) (l := xs.drop (firstN xs x))]
    congr 1
    unfold lastN
    rw [← List.drop_drop]
    generalize xs.drop (firstN xs x) = l
    induction l with
    | nil => simp
    | cons a l ih =>
      cases ha : coversP x a with
      | false => rw [List.takeWhile_cons_of_neg (by rw [ha]; simp), List.dropWhile_cons_of_neg (by rw [ha]; simp)]; rfl
      | true => rw [List.takeWhile_cons_of_pos ha, List.dropWhile_cons_of_pos ha, ih]; rfl
  have hsub1 : (xs.take (firstN xs x)).Sublist xs := List.take_sublist _ _
  have hsub2 : (xs.drop (lastN xs x)).Sublist xs := List.drop_sublist _ _
  have hsub : (xs.take (firstN xs x) ++ xs.drop (lastN xs x)).Sublist xs := by
    conv => rhs; rw [hxs]
    exact (List.Sublist.refl _).append (List.sublist_append_right _ _)
  have hpw : ∀ {R : Rd → Rd → Prop}, xs.Pairwise R → (∀ y ∈ xs.take (firstN xs x), R y x) → (∀ y ∈ xs.drop (lastN xs x), R x y) → (withP xs x).Pairwise R := fun {R} hR ha hc => by
    have h0 := List.pairwise_append.1 (hR.sublist hsub)
    unfold withP
    rw [List.append_assoc, List.pairwise_append]
    refine ⟨h0.1, ?_, ?_⟩
    · rw [List.singleton_append, List.pairwise_cons]
      exact ⟨hc, h0.2.1⟩
    · intro a ha' b hb
      rcases List.mem_cons.1 (by simpa using hb : b ∈ x :: _) with e | e
      · rw [e]; exact ha a ha'
      · exact h0.2.2 a ha' b e
  refine ⟨⟨fun y hy => ?_, hpw h.ord (fun y hy => (h1 y hy).2) (fun y hy => (h2 y hy).2), hpw h.apart (fun y hy => ⟨by simpa using hany y (hsub1.subset hy), (h1 y hy).1⟩) (fun y hy => ⟨(h2 y hy).1, by simpa using hany y (hsub2.subset hy)⟩)⟩, ?_⟩
  · unfold withP at hy
    simp only [List.mem_append, List.mem_singleton] at hy
    rcases hy with (hy | hy) | hy
    · exact h.may y (hsub1.subset hy)
    · rw [hy]; exact ⟨hm, ht⟩
    · exact h.may y (hsub2.subset hy)
  · have hf : xs.filter (fun y => !coversP x y) = xs.take (firstN xs x) ++ xs.drop (lastN xs x) := by
      conv => lhs; rw [hxs]
      rw [List.filter_append, List.filter_append, List.filter_eq_self.2 (fun y hy => by rw [(h1 y hy).1]; rfl), List.filter_eq_nil_iff.2 (fun y hy => by rw [h3 y hy]; simp), List.filter_eq_self.2 (fun y hy => by rw [(h2 y hy).1]; rfl)]
      rfl
    rw [hf]
    unfold withP
    rw [List.append_assoc, List.append_assoc]
    exact (List.Perm.refl _).append List.perm_append_comm
end Go.Proofs.YtknppiebncdjmaaGreat
