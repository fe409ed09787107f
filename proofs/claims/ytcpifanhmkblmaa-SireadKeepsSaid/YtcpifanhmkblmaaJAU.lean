import Derived.Test.YtcpifanhmkblmaaJAT
import Derived.Test.YtcpifanhmkblmaaProg
import Derived.Shelf.SlGeneric
import Derived.Shelf.SlSorted.Search
import Derived.Ground.SlsoProg
import Derived.Test.YtcpifanhmkblmaaJAR
/- Layer 9: slices.Replace by one pointer of some in the middle; all of Replace. -/
namespace Go.Proofs.Ytcpifanhmkblmaa
set_option maxRecDepth 100000
set_option maxRecDepth 100000
open Go.RowKit

section
variable {w : World}
set_option maxHeartbeats 8000000 in
theorem wRep_mid {g n c i j t : Nat} {cur cs : List Value} (h : Rw w g c cur) (hcs : cur.take n = cs) (h1 : ∀ v ∈ cs, v.oneCell' = true) (hi : i < j) (hj : j < n) (hnc : n ≤ c) (ht : t = i + 1 + (n - j)) {vb : Nat} {u : Value} (hvb : w.heap[vb]? = some (.cells #[u] 74 (0, 0))) (hne : vb ≠ g) (hu : u.oneCell' = true) :
    Calls Try.prog 57 #[.slice (some ⟨g, 0, none⟩) n c, .int .i64 (i : Nat), .int .i64 (j : Nat), .slice (some ⟨vb, 0, none⟩) 1 1] w fun e w' => e = .returned (.slice (some ⟨g, 0, none⟩) t c) ∧ w' = (((w.drew.setCells g i [u]).drew).setCells g (i + 1) (cs.drop j)).setCells g t (List.replicate (n - t) (.pointer none)) := by
  have hlen := h.len
  have hcl : cs.length = n := by rw [← hcs, List.length_take]; omega
  have hdl : (cs.drop j).length = n - j := by rw [List.length_drop, hcl]
  have hcell : ∀ k v, cs[k]? = some v → cur[k]? = some v := fun k v hk => by
    rw [← hcs, List.getElem?_take] at hk
    split at hk
    · exact hk
    · cases hk
  have R0 : Rw w.drew g c cur := h
  have hcp1 : ∀ ty dL dc, 1 ≤ dL → (Builtin.copy_ #[67, 66] ty #[.slice (some ⟨g, i, none⟩) dL dc, .slice (some ⟨vb, 0, none⟩) 1 1]).run Try.prog w.drew = .ok (goInt [u].length) (w.drew.setCells g i [u]) := fun ty dL dc hd => by
    refine run_cpP R0 (m := 1) rfl (by omega) _ _ _ _ _ (by simp only [Nat.min_def]; split <;> omega) (fun k v hk => ?_) (by simpa using hu) _ _
    match k, hk with
    | 0, hk => cases hk; rw [Addr.add_lit]; exact cell_of_row _ _ 0 _ _ _ hvb
  obtain ⟨W1, hW1⟩ : ∃ W1, W1 = w.drew.setCells g i [u] := ⟨_, rfl⟩
  rw [← hW1] at hcp1 ⊢
  have R1 : Rw W1.drew g c (putL cur i [u]) := by rw [hW1]; exact R0.set _ _
  have hcp2 : ∀ ty dc sc, (Builtin.copy_ #[67, 67] ty #[.slice (some ⟨g, i + 1, none⟩) (t - (i + 1)) dc, .slice (some ⟨g, j, none⟩) (n - j) sc]).run Try.prog W1.drew = .ok (goInt (cs.drop j).length) (W1.drew.setCells g (i + 1) (cs.drop j)) := fun ty dc sc => by
    refine run_cpP R1 hdl (by omega) _ _ _ _ _ (by simp only [Nat.min_def]; split <;> omega) (fun k v hk => ?_) (fun v hv => h1 v (List.mem_of_mem_drop hv)) _ _
    rw [Addr.add_lit]
    refine R1.cell ?_
    rw [List.getElem?_drop] at hk
    rw [putL_get _ _ _ _ (by simp; omega), if_neg (by simp; omega)]
    exact hcell _ _ hk
  obtain ⟨W2, hW2⟩ : ∃ W2, W2 = W1.drew.setCells g (i + 1) (cs.drop j) := ⟨_, rfl⟩
  rw [← hW2] at hcp2 ⊢
  have R2 : Rw W2 g c (putL (putL cur i [u]) (i + 1) (cs.drop j)) := by rw [hW2]; exact R1.set _ _
  have hclr := fun ty cc => run_clrP R2 (o := t) (n := n - t) (by omega) cc ty
  have hc63 : c ≤ 9223372036854775807 := by have := h.heap.2; unfold maxLen at this; omega
  have a1 : ¬ ((i : Int) = (j : Int)) := by omega
  have a2 : (i : Int) ≤ (j : Int) := by omega
  have a3 : j ≤ c := by omega
  have a4 : i ≤ c := by omega
  have a5 : ¬ ((j : Int) = (n : Int)) := by omega
  have a6 : ¬ (c = i) := by omega
  have a7 : ¬ (c = j) := by omega
  have a8 : j ≤ n := by omega
  have a9 : i ≤ n := by omega
  have a10 : (j : Int) ≤ (n : Int) := by omega
  have a11 : IntKind.i64.wrap ((i : Int) + 1) = (i : Int) + 1 := by rw [IntKind.wrap_i64]; omega
  have a12 : IntKind.i64.wrap ((i : Int) + 1 + ((n - j : Nat) : Int)) = (t : Int) := by rw [IntKind.wrap_i64]; omega
  have a13 : ¬ ((c : Int) < (t : Int)) := by omega
  have a14 : (i : Int) + 1 ≤ (j : Int) := by omega
  have a15 : t ≤ c := by omega
  have a16 : t ≤ n := by omega
  have a17 : i ≤ t := by omega
  have a18 : (i : Int) + 1 ≤ (t : Int) := by omega
  have a19 : ((i : Int) + 1).toNat = i + 1 := by omega
  have a20 : (0 : Int) ≤ (i : Int) + 1 := by omega
  have a21 : ¬ (c = i + 1) := by omega
  have a22 : (t : Int) ≤ (n : Int) := by omega
  have a24 : 1 ≤ t - i := by omega
  have a25 : (i : Int) ≤ (t : Int) := by omega
  have mixed : Try.prog.follows Departure.mixedOrders = true := by kernel_rfl
  have HN := Lib.hid (show t = n ∨ t < n by omega)
  have HX := Lib.hid (show t < n → ¬ (c = t) by omega)
  clear ht hcell R0 R2 R1 hcl hdl hlen h hvb hcs hW1 hW2
  rcases HN.out with hn | hn
  · have hcl0 := fun A ty cc => run_clr0 W2 A cc ty
    have hz : (W2.setCells g t (List.replicate (n - t) (.pointer none))) = W2 := by rw [hn, Nat.sub_self]; rfl
    rw [hz]
    have hz2 : n - t = 0 := by omega
    clear hz hclr HX HN
    subst hn
    rw [Nat.sub_self] at hz2
    clear hz2 a22 a16 a8 a5
    have hct : c = t ∨ ¬ c = t := by omega
    rcases hct with rfl | hct
    all_goals
     go_enter Try.func57, Try.ntmps57
     go_wp2
     go_region
     go_wp2_with (at_builtin; refine wp_copyP rfl _ _ 67 66 rfl _ _ rfl rfl (hcp1 _ _ _ a24) ?_)
     go_region_law_o (refine step_copyP rfl _ _ 67 67 rfl _ _ (by simp [Act.eval, Act.put]) (by simp [Act.eval, Act.put]) (hcp2 _ _ _) ?_)
     go_wp2_with (at_builtin; refine wp_clearP rfl _ 67 rfl _ rfl (hcl0 _ _ _) ?_)
     go_ret
     exact ⟨rfl, rfl⟩
  have a23 := HX.out hn
  clear HN HX
  go_enter Try.func57, Try.ntmps57
  go_wp2
  go_region
  go_wp2_with (at_builtin; refine wp_copyP rfl _ _ 67 66 rfl _ _ rfl rfl (hcp1 _ _ _ a24) ?_)
  go_region_law_o (refine step_copyP rfl _ _ 67 67 rfl _ _ (by simp [Act.eval, Act.put]) (by simp [Act.eval, Act.put]) (hcp2 _ _ _) ?_)
  go_wp2_with (at_builtin; refine wp_clearP rfl _ 67 rfl _ rfl (hclr _ _) ?_)
  go_ret
  exact ⟨rfl, rfl⟩
end
end Go.Proofs.Ytcpifanhmkblmaa

/- Layer 9: slices.Replace by one pointer, whatever goes. -/
namespace Go.Proofs.Ytcpifanhmkblmaa
set_option maxRecDepth 100000
set_option maxRecDepth 100000
open Go.RowKit

section
variable {w : World}
theorem wReplaceP {v : Value} {ps : List Nat} (h : PV w v ps) {i j : Nat} (hij : i ≤ j) (hj : j ≤ ps.length) (hn : ps.length ≤ 100000) {vb p : Nat} (hvb : w.heap[vb]? = some (.cells #[ptV p] 74 (0, 0))) (hne : v.ownBlock ≠ some vb) :
    Calls Try.prog 57 #[v, .int .i64 (i : Nat), .int .i64 (j : Nat), .slice (some ⟨vb, 0, none⟩) 1 1] w fun e w' => ∃ v', e = .returned v' ∧ InsIs w w' v v' (ps.take i ++ [p] ++ ps.drop j) := by
  rcases Nat.eq_or_lt_of_le hij with rfl | hlt
  · exact wRep_none h hj hn hvb hne
  · rcases h with ⟨rfl, rfl⟩ | ⟨g, c, cur, rfl, h1, h2, h3⟩
    · simp at hj; omega
    · have hne2 : vb ≠ g := fun e => hne (by rw [e]; rfl)
      have hone : ∀ u ∈ ptC ps, u.oneCell' = true := ptC_one ps
      have hcl : (ptC ps).length = ps.length := ptC_len ps
      have hcj : ∀ k, k < ps.length → (ptC ps)[k]? = cur[k]? := fun k hk => by rw [← h3, List.getElem?_take, if_pos hk]
      have hcur := h1.len
      have hpc : ptC (ps.take i ++ [p] ++ ps.drop j) = (ptC ps).take i ++ [ptV p] ++ (ptC ps).drop j := by simp [ptC]
      have hlen : (ps.take i ++ [p] ++ ps.drop j).length = i + 1 + (ps.length - j) := by simp; omega
      have hd : ((ptC ps).drop j).length = ps.length - j := by rw [List.length_drop, hcl]
      rcases Nat.eq_or_lt_of_le hj with rfl | hjl
      · refine (wRep_tail h1 hlt h2 hvb (show (ptV p).oneCell' = true from rfl)).mono ?_
        rintro e w' ⟨he, rfl⟩
        have hlen2 : (ps.take i ++ [p] ++ ps.drop ps.length).length = i + 1 := by rw [hlen]; omega
        refine ⟨_, he, .inr ⟨g, c, _, by rw [hlen2], (h1.set _ _).set _ _, by rw [hlen2]; omega, ?_⟩, ⟨_, rfl, .inl rfl⟩, by refine Out.setCells (Out.setCells (Out.refl _ _) (.inl ?_) _ _) (.inl ?_) _ _ <;> rfl⟩
        rw [hlen2, hpc]
        apply List.ext_getElem?
        intro k
        rw [List.getElem?_take]
        by_cases hk : k < i + 1
        · rw [if_pos hk, putL_get _ _ _ _ (by rw [putL_len]; simp; omega), if_neg (by omega), putL_get _ _ _ _ (by simp; omega)]
          by_cases a1 : k < i
          · rw [if_neg (by omega), List.append_assoc, List.getElem?_append_left (by rw [List.length_take]; omega), List.getElem?_take, if_pos a1, hcj k (by omega)]
          · have : k = i := by omega
            subst this
            rw [if_pos (by simp), List.append_assoc, List.getElem?_append_right (by rw [List.length_take]; omega), List.length_take, hcl]
            simp [show k - min k ps.length = 0 by omega]
        · rw [if_neg hk, List.getElem?_eq_none (by simp [hcl]; omega)]
      · refine (wRep_mid h1 h3 hone hlt hjl h2 rfl hvb hne2 (show (ptV p).oneCell' = true from rfl)).mono ?_
        rintro e w' ⟨he, rfl⟩
        refine ⟨_, he, .inr ⟨g, c, _, by rw [hlen], ((h1.drew.set i [ptV p]).drew.set (i + 1) ((ptC ps).drop j)).set _ _, by rw [hlen]; omega, ?_⟩, ⟨_, rfl, .inl rfl⟩, by refine Out.setCells (Out.setCells (Out.drew (Out.setCells (Out.drew (Out.refl _ _)) (.inl ?_) _ _)) (.inl ?_) _ _) (.inl ?_) _ _ <;> rfl⟩
        rw [hlen, hpc]
        apply List.ext_getElem?
        intro k
        rw [List.getElem?_take]
        by_cases hk : k < i + 1 + (ps.length - j)
        · rw [if_pos hk, putL_get _ _ _ _ (by rw [putL_len, putL_len]; simp; omega), if_neg (by omega), putL_get _ _ _ _ (by rw [putL_len, hd]; omega), hd]
          rcases Nat.lt_trichotomy k i with a1 | a1 | a1
          · rw [if_neg (by omega), putL_get _ _ _ _ (by simp; omega), if_neg (by omega), List.append_assoc, List.getElem?_append_left (by rw [List.length_take]; omega), List.getElem?_take, if_pos a1, hcj k (by omega)]
          · subst a1
            rw [if_neg (by omega), putL_get _ _ _ _ (by simp; omega), if_pos (by simp), List.append_assoc, List.getElem?_append_right (by rw [List.length_take]; omega), List.length_take, hcl]
            simp [show k - min k ps.length = 0 by omega]
          · rw [if_pos (by omega), List.append_assoc, List.getElem?_append_right (by rw [List.length_take]; omega), List.length_take, hcl, List.getElem?_append_right (by simp; omega)]
            congr 1
            simp; omega
        · rw [if_neg hk, List.getElem?_eq_none (by simp [hcl]; omega)]
end
end Go.Proofs.Ytcpifanhmkblmaa

/- Layer 9: sort.Search at this seat, in plain words (made by program: wip/law/XSpShelfSLay.lean.tpl). -/
namespace Go.Proofs
set_option maxRecDepth 100000
open Go.Shelf
def Try.searchL_ren : Go.Shelf.Ren := ⟨fun | 16 => 67 | n => n, fun | 3 => 3 | 35 => 102 | 4 => 4 | 38 => 99 | n => n, fun | n => n⟩
theorem Try.searchL : Go.Proofs.SlLaysO.n16 Try.prog Try.searchL_ren := {
  mixed := by kernel_rfl
  f16 := Try.func67.trans (congrArg some (by kernel_rfl))
  t3 := Try.underlying3
  a3 := Try.isAgg3
  z3 := Try.sizeOf3
  v3 := Try.zeroValue3
  t4 := Try.underlying4
  a4 := Try.isAgg4
  z4 := Try.sizeOf4
  v4 := Try.zeroValue4
  t35 := Try.underlying102
  a35 := Try.isAgg102
  z35 := Try.sizeOf102
  v35 := Try.zeroValue102
  t38 := Try.underlying99
  a38 := Try.isAgg99
  z38 := Try.sizeOf99
  v38 := Try.zeroValue99 }
end Go.Proofs

/- Layer 9: notes of a transaction and a table in memory; how many of them begin at a key or below it. -/
namespace Go.Proofs.Ytcpifanhmkblmaa
set_option maxRecDepth 100000
set_option maxRecDepth 100000
open Go.RowKit Go.Sort

/-- Block p is this note. -/
def RdAt (w : World) (p : Nat) (x : Rd) : Prop := w.heap[p]? = some (.cells #[.string x.tb, .int .i64 x.kd, .string x.lo, .string x.hi] 31 (0, 0))
theorem grow_none (w : World) : grow w #[] = w := by
  unfold grow
  rw [Array.append_empty]
theorem RdAt.block {w w' : World} {p : Nat} {x : Rd} (h : RdAt w p x) (hb : w'.heap[p]? = w.heap[p]?) : RdAt w' p x := hb.trans h
theorem RdAt.lt {w : World} {p : Nat} {x : Rd} (h : RdAt w p x) : p < w.heap.size := (Array.getElem?_eq_some_iff.1 h).1
theorem RdAt.cells {w : World} {p : Nat} {x : Rd} (h : RdAt w p x) : w.cell? ⟨p, 0, none⟩ = some (.string x.tb) ∧ w.cell? ⟨p, 1, none⟩ = some (.int .i64 x.kd) ∧ w.cell? ⟨p, 2, none⟩ = some (.string x.lo) ∧ w.cell? ⟨p, 3, none⟩ = some (.string x.hi) :=
  ⟨cell_of_row _ _ 0 _ _ _ h, cell_of_row _ _ 1 _ _ _ h, cell_of_row _ _ 2 _ _ _ h, cell_of_row _ _ 3 _ _ _ h⟩
/-- The value is a list of notes, each in its block. -/
structure NL (w : World) (v : Value) (ls : List (Nat × Rd)) : Prop where
  pv : PV w v (ls.map (·.1))
  rd : ∀ q ∈ ls, RdAt w q.1 q.2
theorem NL.nil (w : World) : NL w (.slice none 0 0) [] := ⟨PV.nil w, by simp⟩
theorem NL.gw {w w' : World} {v : Value} {ls : List (Nat × Rd)} (h : NL w v ls) (hb : Below w.heap.size w w') : NL w' v ls :=
  ⟨h.pv.block fun k hk => hb.block k (h.pv.lt k hk), fun q hq => (h.rd q hq).block (hb.block _ (h.rd q hq).lt)⟩
theorem NL.form {w : World} {v : Value} {ls : List (Nat × Rd)} (h : NL w v ls) : ∃ A c, v = .slice A ls.length c ∧ ls.length ≤ c ∧ c ≤ maxLen ∧ ∀ (j : Nat) (q : Nat × Rd), ls[j]? = some q → ∃ g, A = some ⟨g, 0, none⟩ ∧ w.cell? ⟨g, j, none⟩ = some (ptV q.1) ∧ RdAt w q.1 q.2 := by
  rcases h.pv with ⟨rfl, e⟩ | ⟨g, c, cur, rfl, h1, h2, h3⟩
  · have : ls = [] := List.map_eq_nil_iff.1 e
    subst this
    exact ⟨none, 0, rfl, Nat.le_refl _, by simp [maxLen], fun j q hj => by simp at hj⟩
  · refine ⟨_, c, by rw [List.length_map], by simpa using h2, h1.heap.2, fun j q hj => ⟨g, rfl, ?_, h.rd q (List.mem_of_getElem? hj)⟩⟩
    refine h1.cell ?_
    have : (cur.take (ls.map (·.1)).length)[j]? = some (ptV q.1) := by rw [h3]; simp [ptC, hj]
    rw [List.getElem?_take] at this
    split at this
    · exact this
    · cases this
/-- How many begin at a key or below it. -/
def begP (xs : List Rd) (key : ByteArray) : Nat := xs.countP fun x => !klB key x.lo
def begAt (xs : List Rd) (key : ByteArray) (i : Nat) : Bool := (xs[i]?).elim true fun x => klB key x.lo
theorem begP_range : ∀ (xs : List Rd) (key : ByteArray), (List.range xs.length).countP (fun i => !begAt xs key i) = begP xs key
  | [], key => rfl
  | x :: xs, key => by
    have ih := begP_range xs key
    rw [List.length_cons, List.range_succ_eq_map, List.countP_cons, List.countP_map]
    unfold begP at ih ⊢
    rw [List.countP_cons, ← ih]
    rfl
theorem begAt_mono {xs : List Rd} (h : xs.Pairwise fun a b => klB b.lo a.lo = false) (key : ByteArray) (a b : Nat) (hab : a ≤ b) (hb : b < xs.length) (ha : begAt xs key a = true) : begAt xs key b = true := by
  unfold begAt at *
  rw [List.getElem?_eq_getElem (by omega)] at ha
  rw [List.getElem?_eq_getElem hb]
  simp only [Option.elim_some] at ha ⊢
  rcases Nat.eq_or_lt_of_le hab with rfl | hlt
  · exact ha
  · exact klB_lt_le ha (List.pairwise_iff_getElem.1 h a b (by omega) hb hlt)

set_option maxHeartbeats 2000000 in
theorem wpBeg1 {w : World} {bl bk : Nat} {v : Value} {key : ByteArray} {ls : List (Nat × Rd)} (h : NL w v ls) (hl : w.cell? ⟨bl, 0, none⟩ = some v) (hk : w.cell? ⟨bk, 0, none⟩ = some (.string key)) {i : Nat} (hi : i < ls.length) :
    Calls Try.prog 68 #[.int .i64 (i : Nat), .pointer (some ⟨bl, 0, none⟩), .pointer (some ⟨bk, 0, none⟩)] w fun e w' => e = .returned (.bool (begAt (ls.map (·.2)) key i)) ∧ ∃ q, w' = w.drewN q := by
  obtain ⟨q, hq⟩ : ∃ q, ls[i]? = some q := ⟨_, List.getElem?_eq_getElem hi⟩
  have hb : begAt (ls.map (·.2)) key i = !(Op.bytesLess q.2.lo.toList key.toList || q.2.lo.toList == key.toList) := by
    unfold begAt
    rw [List.getElem?_map, hq, ← bl_le8]
    rfl
  obtain ⟨A, c, rfl, h1, h2, h3⟩ := h.form
  obtain ⟨g, rfl, c1, hr⟩ := h3 i q hq
  obtain ⟨x0, x1, x2, x3⟩ := hr.cells
  have h4 : (i : Int) < (ls.length : Int) := by omega
  unfold ptV at c1
  clear h h3 hr hq h2 h1 hi
  cases e1 : Op.bytesLess q.2.lo.toList key.toList <;> cases e2 : (q.2.lo.toList == key.toList)
  all_goals
    have HM := Lib.hid (show begAt (ls.map (·.2)) key i = _ by rw [hb, e1, e2])
    clear hb
    go_enter Try.func68, Try.ntmps68
    go_upto_region 1 with fail
    go_quiet (fail)
    go_wp2
    go_ret
    exact ⟨by rw [HM.out] <;> rfl, _, rfl⟩
set_option maxHeartbeats 2000000 in
theorem wpBeg {w : World} {v : Value} {key : ByteArray} {ls : List (Nat × Rd)} (h : NL w v ls) (hn : ls.length ≤ 100000) (hs : (ls.map (·.2)).Pairwise fun a b => klB b.lo a.lo = false) :
    Calls Try.prog 56 #[v, .string key] w fun e w' => e = .returned (.int .i64 (begP (ls.map (·.2)) key : Nat)) ∧ Below w.heap.size w w' := by
  obtain ⟨W, hW⟩ : ∃ W, (w.alloc (.cells #[v] 67)).alloc (.cells #[.string key] 9) = W := ⟨_, rfl⟩
  have HW := Lib.hid hW
  have b1 : Below w.heap.size w (w.alloc (.cells #[v] 67)) := below_alloc9 _ _
  have b2 : Below w.heap.size w W := by rw [← hW]; exact b1.alloc b1.size _
  have HB := Lib.hid b2
  have c0 : W.cell? ⟨w.heap.size, 0, none⟩ = some v := by rw [← hW]; exact cell_alloc_sl _ (cell_new_sl _ _ _)
  have c1 : W.cell? ⟨w.heap.size + 1, 0, none⟩ = some (.string key) := by
    rw [← hW]
    have := cell_new_sl (w.alloc (.cells #[v] 67)) (.string key) 9
    rw [World.size_alloc] at this
    exact this
  have hN := h.gw b2
  have hlW : W.heap.size = w.heap.size + 2 := by rw [← hW]; simp
  have eg : ∀ args w, (callFunc 68 args).run Try.prog w = .ok (.enter 68 args) w := enters_of Try.func68 (by kernel_rfl) rfl
  have hcon := Any.sort_Search Try.searchL 68 #[.pointer (some ⟨w.heap.size, 0, none⟩), .pointer (some ⟨w.heap.size + 1, 0, none⟩)] ls.length (begAt (ls.map (·.2)) key) W eg (by omega)
    (fun m os i hi => by
      have hb := below_grown_sl W.heap.size W m os (Nat.le_refl _)
      have := wpBeg1 (hN.gw hb) (keep_below c0 hb) (keep_below c1 hb) hi
      refine this.mono ?_
      rintro e w' ⟨h1, q, rfl⟩
      exact ⟨h1, q, #[], (grow_none _).symm⟩)
    (fun a b hab hb ha => begAt_mono hs key a b hab (by simpa using hb) ha)
  change Calls Try.prog 67 _ _ _ at hcon
  rw [show (List.range ls.length).countP (fun i => !begAt (ls.map (·.2)) key i) = begP (ls.map (·.2)) key by rw [← begP_range, List.length_map]] at hcon
  have HC := Lib.hid hcon
  obtain ⟨A, c, rfl, h1, h2, h3⟩ := h.form
  have h4 : c ≤ 9223372036854775807 := by unfold maxLen at h2; omega
  generalize begP (ls.map (·.2)) key = b at HC ⊢
  clear hcon h3 hN hW b1 b2 h h2 hs
  go_enter Try.func56, Try.ntmps56
  go_upto_region 1 with fail
  rw [HW.out]
  go_wp2_with (go_at_call 67; go_loud (refine HC.out.mono ?_; rintro e w1 ⟨rfl, q, os, rfl⟩))
  go_ret
  exact ⟨rfl, below_next HB.out (below_grown_sl _ _ _ _ (Nat.le_refl _))⟩
end Go.Proofs.Ytcpifanhmkblmaa
