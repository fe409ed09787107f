import Derived.Test.YtnpeankmmojebaaGreatDoorSeRk
import Derived.Test.YtnpeankmmojebaaGreatDoorJBA
import Derived.Test.YtnpeankmmojebaaGreatDoorJBH
/- Layer 11: the reference's more: all orders, as many as are asked for. -/
set_option linter.unusedVariables false
namespace Go.Proofs.YtnpeankmmojebaaGreatDoor
set_option maxRecDepth 100000
set_option maxRecDepth 100000
open Go.RowKit

/-- Lists of numbers in a list of the call's own, from block base on. -/
def FL (base : Nat) (w : World) (v : Value) (F : List (List Int)) : Prop := ∃ vs : List Value, SO seS base w v F.length vs ∧ ∀ (i : Nat) u l, vs[i]? = some u → F[i]? = some l → ∃ A c, u = .slice A l.length c ∧ SB w A l.length (numC l) ∧ ∀ ad, A = some ad → 0 < l.length → v.ownBlock ≠ some ad.block
theorem SB.blt {w : World} {A : Option Addr} {m : Nat} {vs : List Value} (h : SB w A m vs) (h0 : 0 < m) {ad : Addr} (e : A = some ad) : ad.block < w.heap.size := by
  obtain ⟨g, q, e2, hc⟩ := h.cell h0
  rw [e2] at e
  cases e
  obtain ⟨u, hu⟩ : ∃ u, vs[0]? = some u := ⟨_, List.getElem?_eq_getElem (by rw [h.len]; exact h0)⟩
  have h1 := hc 0 u hu
  unfold World.cell? at h1
  rcases Nat.lt_or_ge g w.heap.size with k | k
  · exact k
  · dsimp only at h1
    rw [Array.getElem?_eq_none (by exact k)] at h1
    cases h1
theorem SB.out0 {F : Nat → Prop} {w w' : World} {A : Option Addr} {m : Nat} {vs : List Value} (h : SB w A m vs) (o : Out F w w') (hF : 0 < m → ∀ ad, A = some ad → ¬ F ad.block) : SB w' A m vs :=
  ⟨h.len, h.one, fun h0 => by
    obtain ⟨g, q, rfl, hc⟩ := h.cell h0
    exact ⟨g, q, rfl, fun j u hj => o.cell (hc j u hj) (hF h0 ⟨g, q, none⟩ rfl)⟩⟩
section
variable {base : Nat} {w w' : World} {v : Value} {F : List (List Int)}
theorem FL.nil (base : Nat) (w : World) : FL base w (.slice none 0 0) [] := ⟨[], SO.nil _ _ _, by simp⟩
theorem FL.form (h : FL base w v F) : ∃ A c, v = .slice A F.length c := by
  obtain ⟨vs, h1, -⟩ := h
  obtain ⟨A, c, e, -⟩ := h1.form
  exact ⟨A, c, e⟩
theorem FL.own (h : FL base w v F) {k : Nat} (hk : v.ownBlock = some k) : base ≤ k ∧ k < w.heap.size := by
  obtain ⟨vs, h1, -⟩ := h
  exact h1.own.lt k hk
theorem FL.below (h : FL base w v F) (hb : Below w.heap.size w w') : FL base w' v F := by
  obtain ⟨vs, h1, h2⟩ := h
  exact ⟨vs, h1.below hb, fun i u l hu hl => by
    obtain ⟨A, c, e, hs, hn⟩ := h2 i u l hu hl
    exact ⟨A, c, e, hs.gw hb, hn⟩⟩
/-- One more list, that lies in a block of its own. -/
theorem FL.snoc {vs : List Value} (h2 : ∀ (i : Nat) u l, vs[i]? = some u → F[i]? = some l → ∃ A c, u = .slice A l.length c ∧ SB w A l.length (numC l) ∧ ∀ ad, A = some ad → 0 < l.length → v.ownBlock ≠ some ad.block) (hv : vs.length = F.length) {A : Option Addr} {c g cap : Nat} {l : List Int} (hl : SB w A l.length (numC l)) (hA : ∀ ad, A = some ad → 0 < l.length → v.ownBlock ≠ some ad.block)
    (hs : SO seS base w' (.slice (some ⟨g, 0, none⟩) (F.length + 1) cap) (F.length + 1) (vs ++ [.slice A l.length c])) (o : Out (fun k => v.ownBlock = some k) w w') (hg : v.ownBlock = some g ∨ w.heap.size ≤ g) :
    FL base w' (.slice (some ⟨g, 0, none⟩) (F.length + 1) cap) (F ++ [l]) := by
  have key : ∀ (A : Option Addr) (l : List Int), SB w A l.length (numC l) → (∀ ad, A = some ad → 0 < l.length → v.ownBlock ≠ some ad.block) → SB w' A l.length (numC l) ∧ ∀ ad, A = some ad → 0 < l.length → (Value.slice (some ⟨g, 0, none⟩) (F.length + 1) cap).ownBlock ≠ some ad.block := fun A l h hA => by
    refine ⟨h.out0 o fun h0 ad e k => hA ad e h0 k, fun ad e h0 k => ?_⟩
    have hgk : g = ad.block := by simpa [Value.ownBlock] using k
    rcases hg with q | q
    · exact hA ad e h0 (by rw [q, hgk])
    · have := h.blt h0 e; omega
  refine ⟨vs ++ [.slice A l.length c], by rw [List.length_append, List.length_singleton]; exact hs, fun i u l2 hu hl2 => ?_⟩
  rcases Nat.lt_or_ge i F.length with q | q
  · rw [List.getElem?_append_left (by omega)] at hu
    rw [List.getElem?_append_left q] at hl2
    obtain ⟨A2, c2, e, hs2, hn2⟩ := h2 i u l2 hu hl2
    have := key A2 l2 hs2 hn2
    exact ⟨A2, c2, e, this.1, this.2⟩
  · rw [List.getElem?_append_right (by omega)] at hu
    rw [List.getElem?_append_right q] at hl2
    have hi : i - F.length = 0 := by
      have := (List.getElem?_eq_some_iff.1 hl2).1
      simp at this; omega
    rw [hv, hi] at hu
    rw [hi] at hl2
    simp at hu hl2
    subst hu hl2
    have := key A l hl hA
    exact ⟨A, c, rfl, this.1, this.2⟩
end
/-- A list literal of one list. -/
theorem sb_slice1 (X : World) (u : Value) (hu : u.oneCell' = true) : SB (X.alloc (.cells #[u] 22)) (some ⟨X.heap.size, 0, none⟩) (seS.s * 1) [u] := by
  refine ⟨rfl, fun z hz => by rw [List.mem_singleton.1 hz]; exact hu, fun _ => ⟨X.heap.size, 0, rfl, fun j z hj => ?_⟩⟩
  rw [cell_of_row _ _ _ _ _ _ (heap_alloc_new X _)]
  simpa using hj
section
variable {w0 : World} {A B gA : Option Addr} {n c m d gc q most : Nat} {cs : List Int} {ac : List Ac}
/-- What more promises, with so much left. -/
def MoreC (w0 : World) (A : Option Addr) (n c : Nat) (B : Option Addr) (m d : Nat) (gA : Option Addr) (gc q : Nat) (cs : List Int) (ac : List Ac) (most f : Nat) : Prop := ∀ (w : World) (K : List Nat) (oA : Option Addr) (oc k : Nat) (F : List (List Int)) (vF : Value), Below w0.heap.size w0 w → LayP (edgeH cs ac) n K → K.length = k → n = k + f →
  SB w oA k (numC (numsP cs K)) → FL w0.heap.size w vF F → F.length ≤ most → (0 < k → ∀ ad, oA = some ad → vF.ownBlock ≠ some ad.block) →
  Calls Tryz.prog 31 #[histV A n c B m d, .slice gA q gc, .slice oA k oc, vF, .int .i64 (most : Nat)] w fun e w' => ∃ v, e = .returned v ∧ FL w0.heap.size w' v ((F ++ (allP (edgeH cs ac) n f K).map (numsP cs)).take most) ∧ Out (fun k => vF.ownBlock = some k) w w' ∧ ∀ k, v.ownBlock = some k → vF.ownBlock = some k ∨ w.heap.size ≤ k
set_option maxHeartbeats 32000000 in
/-- No more are asked for. -/
theorem wrMoreEnough (h0 : Hist w0 A n c B m d cs ac) {f : Nat} {w : World} {K : List Nat} {oA : Option Addr} {oc k : Nat} {F : List (List Int)} {vF : Value} (hb : Below w0.heap.size w0 w) (hF : FL w0.heap.size w vF F) (hm : F.length = most) (h64 : most ≤ 256) :
    Calls Tryz.prog 31 #[histV A n c B m d, .slice gA q gc, .slice oA k oc, vF, .int .i64 (most : Nat)] w fun e w' => ∃ v, e = .returned v ∧ FL w0.heap.size w' v ((F ++ (allP (edgeH cs ac) n f K).map (numsP cs)).take most) ∧ Out (fun k => vF.ownBlock = some k) w w' ∧ ∀ k, v.ownBlock = some k → vF.ownBlock = some k ∨ w.heap.size ≤ k := by
  obtain ⟨W1, hB⟩ := (h0.gw hb).box
  have HB := Lib.hid hB
  have HW := Lib.hid hB.eq
  have HF := Lib.hid (hF.below hB.below)
  obtain ⟨vA, vc, rfl⟩ := hF.form
  have HT := Lib.hid (show (F ++ (allP (edgeH cs ac) n f K).map (numsP cs)).take most = F by rw [← hm]; exact List.take_left)
  rw [hm] at HF ⊢
  unfold histV
  clear h0 hb hF hB hm
  go_enter Tryz.func31, Tryz.ntmps31
  go_upto_region 1 with fail
  rw [HW.out]
  go_wp2
  go_ret
  exact ⟨_, rfl, by rw [HT.out]; exact HF.out, Out.of_below HB.out.below _, fun k hk => .inl hk⟩
set_option maxHeartbeats 64000000 in
/-- An order is whole. -/
theorem wrMoreFull (h0 : Hist w0 A n c B m d cs ac) (hn : n ≤ 4096) {w : World} {K : List Nat} {oA : Option Addr} {oc : Nat} {F : List (List Int)} {vF : Value} (hb : Below w0.heap.size w0 w) (hK : K.length = n) (hs : SB w oA n (numC (numsP cs K))) (hF : FL w0.heap.size w vF F) (hm : F.length < most) (h64 : most ≤ 256) :
    Calls Tryz.prog 31 #[histV A n c B m d, .slice gA q gc, .slice oA n oc, vF, .int .i64 (most : Nat)] w fun e w' => ∃ v, e = .returned v ∧ FL w0.heap.size w' v ((F ++ (allP (edgeH cs ac) n 0 K).map (numsP cs)).take most) ∧ Out (fun k => vF.ownBlock = some k) w w' ∧ ∀ k, v.ownBlock = some k → vF.ownBlock = some k ∨ w.heap.size ≤ k := by
  obtain ⟨W1, hB⟩ := (h0.gw hb).box
  have HB := Lib.hid hB
  have HW := Lib.hid hB.eq
  have hFW := hF.below hB.below
  obtain ⟨vA, vc, rfl⟩ := hF.form
  obtain ⟨vs, hso, hin⟩ := hFW
  have x0 := hB.x0
  have HOW := Lib.hid (fun (k : Nat) (hk : (Value.slice vA F.length vc).ownBlock = some k) => (hF.own hk).2)
  have HSO := Lib.hid hso
  have HIN := Lib.hid hin
  have HSB := Lib.hid (hs.gw hB.below)
  have HT := Lib.hid (show (F ++ (allP (edgeH cs ac) n 0 K).map (numsP cs)).take most = F ++ [numsP cs K] by
    rw [allP_full hK, List.map_cons, List.map_nil, List.take_of_length_le (by simp; omega)])
  have HNL := Lib.hid (show (numsP cs K).length = n by simp [numsP, hK])
  have HVL := Lib.hid (show vs.length = F.length by have := hso.len; rw [this]; exact Nat.one_mul _)
  obtain ⟨p, hp⟩ : ∃ p, F.length = p := ⟨_, rfl⟩
  have HP := Lib.hid hp
  have i1 : (p : Int) < (most : Int) := by omega
  have i2 : (p : Int) ≤ 256 := by omega
  have HN := Lib.hid hn
  have HB0 := Lib.hid (Nat.le_trans hb.size hB.below.size)
  rw [hp] at HOW HIN ⊢
  have HSO := Lib.hid (show SO seS w0.heap.size W1 (.slice vA p vc) p vs by rw [← hp]; exact hso)
  unfold histV
  clear h0 hb hF hB hm hso hin hs hK hp hn
  go_enter Tryz.func31, Tryz.ntmps31
  go_upto_region 1 with fail
  rw [HW.out]
  go_upto_region 6 with (at_builtin; go_loud (refine so_append seI_ok (by rfl) (.tmp 26) (.tmp 27) (by rfl) _ (by rfl) (SO.nil seI W1.heap.size W1) oA n oc (numC (numsP cs K)) (by rfl) (by have e : seI.s * n = n := Nat.one_mul _; rw [e]; exact HSB.out) (by have := HN.out; omega) (Nat.le_refl _) ?_; intro v5 w5 o5 b5; have O5 := Lib.hid o5; have B5 := Lib.hid b5; clear o5 b5))
  clear x0
  obtain ⟨A5, c5, rfl, h5, hn5, hm5, hb5⟩ := O5.out.form
  have h5 : SB w5 A5 n (numC (numsP cs K)) := by
    have e : seI.s * (0 + n) = n := by rw [Nat.zero_add]; exact Nat.one_mul _
    rw [e] at h5; exact h5
  have e5 : Value.slice A5 (0 + n) c5 = .slice A5 n c5 := by rw [Nat.zero_add]
  rw [e5]
  have H5 := Lib.hid h5
  have HB5 := Lib.hid hb5
  obtain ⟨W6, hW6⟩ : ∃ W, w5.alloc (.cells #[.slice A5 n c5] 22) = W := ⟨_, rfl⟩
  have HW6 := Lib.hid hW6
  have b6 : Below w5.heap.size w5 W6 := hW6 ▸ alloc_below11 w5 _
  have B6 := Lib.hid b6
  have SBX := Lib.hid (show SB W6 (some ⟨w5.heap.size, 0, none⟩) (seS.s * 1) [.slice A5 n c5] from hW6 ▸ sb_slice1 w5 (.slice A5 n c5) rfl)
  have SOX := Lib.hid (HSO.out.below (B5.out.trans (b6.mono B5.out.size)))
  clear h5 hb5 hn5 hm5 e5 hW6 b6
  go_wp2_with (at_builtin; rw [HW6.out]; go_loud (refine so_appendL seS_ok (by rfl) (.tmp 29) (.tmp 31) (by rfl) _ (by rfl) SOX.out w5.heap.size 1 [.slice A5 n c5] (by rfl) SBX.out (by simp only [seS]; omega) (by simp only [maxLen]; omega) (Nat.le_trans HB0.out (Nat.le_trans B5.out.size B6.out.size)) ?_; intro g4 c4 w4 o4 hg4 hl4; have O4 := Lib.hid o4; have G4 := Lib.hid (And.intro hg4 hl4); clear o4 hg4 hl4))
  go_ret
  have hsz := B5.out.size
  have hsz6 := B6.out.size
  have hszB := HB.out.below.size
  have o46 : Out (fun k => (Value.slice vA p vc).ownBlock = some k) W6 w4 := (Out.refl _ _).grown G4.out.1 fun k e => .inl e
  have hfl := FL.snoc (F := F) (v := .slice vA p vc) (w := W6) (w' := w4) (base := w0.heap.size) (vs := vs) (A := A5) (c := c5) (g := g4) (cap := c4) (l := numsP cs K) (fun i u l hu hl => by
    obtain ⟨A, c, e, hs, hn⟩ := HIN.out i u l hu hl
    exact ⟨A, c, e, hs.gw (B5.out.trans (B6.out.mono B5.out.size)), hn⟩) HVL.out (by rw [HNL.out]; exact H5.out.gw B6.out) (fun ad e _ k => by
    have h1 := HB5.out ad e
    have h2 := HOW.out _ k
    omega) (by rw [HP.out, HNL.out]; exact O4.out) o46 (G4.out.2.imp id fun e => by omega)
  rw [HP.out] at hfl
  refine ⟨_, rfl, by rw [HT.out]; exact hfl, ((Out.of_below HB.out.below _).then (Out.of_below (B5.out.trans (B6.out.mono B5.out.size)) _)).then o46, fun k hk => ?_⟩
  have hgk : g4 = k := by simpa [Value.ownBlock] using hk
  rcases G4.out.2 with e | e
  · exact .inl (hgk ▸ e)
  · right; omega
end
end Go.Proofs.YtnpeankmmojebaaGreatDoor

/- Layer 11: the reference's more, on its way; Orders. -/
namespace Go.Proofs.YtnpeankmmojebaaGreatDoor
set_option maxRecDepth 100000
set_option maxRecDepth 100000
open Go.RowKit

theorem take_more {α : Type} (k : Nat) (X Y : List α) : (X.take k ++ Y).take k = (X ++ Y).take k := by
  rcases Nat.lt_or_ge X.length k with h | h
  · rw [List.take_of_length_le (Nat.le_of_lt h)]
  · rw [List.take_append_of_le_length (by rw [List.length_take]; omega), List.take_append_of_le_length h, List.take_take, Nat.min_self]
/-- All orders that begin so and go on with one of the first ranks. -/
def preP (E : Eg) (n f : Nat) (K : List Nat) (i : Nat) : List (List Nat) := ((List.range i).filter fun v => rdyB E K v).flatMap fun v => allP E n f (K ++ [v])
theorem pre_next (E : Eg) (n f : Nat) (K : List Nat) (i : Nat) : preP E n f K (i + 1) = preP E n f K i ++ if rdyB E K i then allP E n f (K ++ [i]) else [] := by
  unfold preP
  rw [List.range_succ, List.filter_append, List.flatMap_append]
  cases h : rdyB E K i <;> simp [h]
theorem pre_all {E : Eg} {n f : Nat} {K : List Nat} (h : K.length ≠ n) : preP E n f K n = allP E n (f + 1) K := by
  rw [allP, if_neg h]; rfl
section
variable {w0 : World} {A B gA : Option Addr} {n c m d gc q most : Nat} {cs : List Int} {ac : List Ac}
set_option maxHeartbeats 64000000 in
theorem wrMoreStep (h0 : Hist w0 A n c B m d cs ac) (hR : Right cs ac) (hg : SB w0 gA (3 * (graphP cs ac).length) (cellsE dpC (graphP cs ac))) (hq : (graphP cs ac).length = q) (h64 : most ≤ 256) {f : Nat} (ih : MoreC w0 A n c B m d gA gc q cs ac most f)
    {w : World} {K : List Nat} {oA : Option Addr} {oc k : Nat} {F : List (List Int)} {vF : Value} (hb : Below w0.heap.size w0 w) (hL : LayP (edgeH cs ac) n K) (hK : K.length = k) (hf : n = k + (f + 1)) (hs : SB w oA k (numC (numsP cs K))) (hF : FL w0.heap.size w vF F) (hm : F.length < most)
    (hd : 0 < k → ∀ ad, oA = some ad → vF.ownBlock ≠ some ad.block) :
    Calls Tryz.prog 31 #[histV A n c B m d, .slice gA q gc, .slice oA k oc, vF, .int .i64 (most : Nat)] w fun e w' => ∃ v, e = .returned v ∧ FL w0.heap.size w' v ((F ++ (allP (edgeH cs ac) n (f + 1) K).map (numsP cs)).take most) ∧ Out (fun k => vF.ownBlock = some k) w w' ∧ ∀ k, v.ownBlock = some k → vF.ownBlock = some k ∨ w.heap.size ≤ k := by
  obtain ⟨W1, hB⟩ := (h0.gw hb).box
  have HB := Lib.hid hB
  have HW := Lib.hid hB.eq
  have x0 := hB.x0
  have X0 := Lib.hid hB.x0
  have X1 := Lib.hid hB.x1
  have hn : n ≤ 4096 := by rw [← h0.cl]; exact hR.lc
  have hcl : cs.length = n := h0.cl
  have HOW := Lib.hid (fun (k : Nat) (hk : vF.ownBlock = some k) => hF.own hk)
  have hFW := hF.below hB.below
  obtain ⟨vA, vc, rfl⟩ := hF.form
  have HFW := Lib.hid hFW
  have HSB := Lib.hid (hs.gw hB.below)
  have HSD := Lib.hid hs
  have HNL := Lib.hid (show (numsP cs K).length = k by simp [numsP, hK])
  have HRL := Lib.hid (show (riseP cs).length = n by rw [hR.rl]; exact hcl)
  have HOK := Lib.hid (fun (r : Nat) (t : Int) (hr : (riseP cs)[r]? = some t) => ok_rdy (ac := ac) hR (K := K) (by rw [hcl]; exact hL.lt) hr)
  have HNS := Lib.hid (fun (v : Nat) (t : Int) (h : (riseP cs)[v]? = some t) => nums_snoc (K := K) h)
  have CS := Lib.hid (wrSorted (c := c) hB.h.cb hcl hn hR.nd)
  have HG := Lib.hid hg
  have HQ := Lib.hid hq
  have HQL := Lib.hid (show q ≤ 8192 by
    rw [← hq]
    have h1 := graph_len cs ac ac []
    have h2 := hR.la
    simp only [List.length_nil] at h1
    unfold graphP; omega)
  have HL := Lib.hid hL
  have HIH := Lib.hid ih
  have HBW := Lib.hid hb
  have HD := Lib.hid hd
  have HKF := Lib.hid (And.intro hK hf)
  have HN := Lib.hid hn
  have HM := Lib.hid hm
  obtain ⟨p, hp⟩ : ∃ p, F.length = p := ⟨_, rfl⟩
  have i1 : (p : Int) < (most : Int) := by omega
  have i2 : (p : Int) ≤ 256 := by omega
  have k1 : ¬ (k : Int) = (n : Int) := by omega
  have k1' : ((k : Int) == (n : Int)) = false := by simp; omega
  have k4 : (k : Int) ≤ 4096 := by omega
  have HP := Lib.hid hp
  rw [hp] at HOW HFW HD ⊢
  unfold histV
  clear h0 hb hF hB hm hs hK hp hn hcl hR hg hq ih hL hf hd hFW
  go_enter Tryz.func31, Tryz.ntmps31
  go_upto_region 1 with fail
  rw [HW.out]
  go_upto_region 8 with (go_at_call 49; go_loud (refine CS.out.mono ?_; rintro e w2 ⟨vN, rfl, sN, b2⟩; have B2 := Lib.hid b2; have SN := Lib.hid sN; clear b2 sN))
  clear x0
  obtain ⟨nA, nc, rfl, hnm, -, -, hnb⟩ := SN.out.form
  rw [HRL.out] at hnm
  have e1 : seI.s * n = n := Nat.one_mul _
  rw [e1] at hnm
  simp only [HRL.out]
  have HNM := Lib.hid hnm
  have HNB := Lib.hid hnb
  clear hnm hnb e1
  have HS2 := Lib.hid (HSB.out.gw B2.out)
  have HF2 := Lib.hid (HFW.out.below B2.out)
  have hsz1 := HB.out.size
  have hsz2 := B2.out.size
  have HSZ := Lib.hid (show w.heap.size + 1 ≤ w2.heap.size by omega)
  have BW2 := Lib.hid (show Below w0.heap.size w0 w2 from (HBW.out.trans (HB.out.below.mono HBW.out.size)).trans (B2.out.mono (Nat.le_trans HBW.out.size HB.out.below.size)))
  have X02 := Lib.hid (keep_below X0.out B2.out)
  have X12 := Lib.hid (keep_below X1.out B2.out)
  clear hsz1 hsz2
  go_upto_region 9 with fail
  go_loopw [3, 13] (fun fv iv wr => ∃ (i : Nat) (G : List (List Int)), iv = .int .i64 (i : Nat) ∧ i ≤ n ∧ FL w0.heap.size wr fv G ∧ G = (F ++ (preP (edgeH cs ac) n f K i).map (numsP cs)).take most ∧ Out (fun k => (Value.slice vA p vc).ownBlock = some k ∨ w2.heap.size ≤ k) w2 wr ∧ ∀ k, fv.ownBlock = some k → (Value.slice vA p vc).ownBlock = some k ∨ w2.heap.size ≤ k) (fun _ iv _ => n - (intOf iv).toNat)
  case atStart =>
    refine ⟨0, F, rfl, Nat.zero_le _, HF2.out, ?_, Out.refl _ _, fun k hk => .inl hk⟩
    rw [show preP (edgeH cs ac) n f K 0 = [] by rfl, List.map_nil, List.append_nil, List.take_of_length_le (by have := HM.out; omega)]
  case round =>
    rename World => wr
    obtain ⟨i, G, rfl, hi, hfl, hge, ho, hof⟩ := hrel
    obtain ⟨fA, fc, rfl⟩ := hfl.form
    have HFL := Lib.hid hfl
    have HGE := Lib.hid hge
    have HOW2 := Lib.hid ho
    have HOF := Lib.hid hof
    have HGL := Lib.hid (show G.length ≤ most by rw [hge, List.length_take]; exact Nat.min_le_left _ _)
    have y0 : wr.cell? ⟨w.heap.size, 0, none⟩ = some (.slice A n c) := ho.cell X02.out fun e => e.elim (fun q => by have := (HOW.out _ q).2; have : w.heap.size < w.heap.size := this; omega) fun q => by have q : w2.heap.size ≤ w.heap.size := q; have := HSZ.out; omega
    have y1 : wr.cell? ⟨w.heap.size, 1, none⟩ = some (.slice B m d) := ho.cell X12.out fun e => e.elim (fun q => by have := (HOW.out _ q).2; have : w.heap.size < w.heap.size := this; omega) fun q => by have q : w2.heap.size ≤ w.heap.size := q; have := HSZ.out; omega
    have hsd : SB wr oA k (numC (numsP cs K)) := HS2.out.out0 ho fun h0 ad e q => q.elim (HD.out h0 ad e) fun q => by have := HS2.out.blt h0 e; omega
    have hnm : SB wr nA n (numC (riseP cs)) := HNM.out.out0 ho fun h0 ad e q => q.elim (fun q => by have h1 := (HOW.out _ q).2; have h2 := HNB.out ad e; have h3 := HB.out.size; omega) fun q => by have := HNM.out.blt h0 e; omega
    have bwr : Below w0.heap.size w0 wr := ((Out.of_below BW2.out (fun k => w0.heap.size ≤ k)).then (ho.mono fun i _ e => e.elim (fun q => (HOW.out _ q).1) fun q => Nat.le_trans BW2.out.size q)).below (Nat.le_refl _) (fun i hi h => by have h : w0.heap.size ≤ i := h; omega)
    have BWR := Lib.hid bwr
    have HSDR := Lib.hid hsd
    by_cases hin : i < n
    · obtain ⟨x, hx⟩ : ∃ x, (riseP cs)[i]? = some x := ⟨_, List.getElem?_eq_getElem (by rw [HRL.out]; exact hin)⟩
      obtain ⟨g3, o3, rfl, u0⟩ := hnm.num hx
      have j1 : (i : Int) < (n : Int) := by omega
      have j2 : (i : Int) ≤ 4096 := by have := HN.out; omega
      have HIN := Lib.hid hin
      have CAX := Lib.hid (wrAt (c := oc) hsd HNL.out (by omega) x)
      have CFX := Lib.hid (wrFree (gc := gc) (oc := oc) (HG.out.gw bwr) HQ.out HQL.out hsd HNL.out (by omega) x)
      have hok := HOK.out i x hx
      have HNX := Lib.hid (HNS.out i x hx)
      have HNMR := Lib.hid hnm
      unfold okR at hok
      obtain ⟨pp, hpp⟩ : ∃ p, plcP (numsP cs K) x = p := ⟨_, rfl⟩
      rw [hpp] at CAX hok
      clear hi hfl hge ho hof hsd hnm bwr hx hin hpp
      by_cases hp0 : pp < 0
      · cases hfr : freeB (graphP cs ac) (numsP cs K) x with
        | false =>
          have hrd : rdyB (edgeH cs ac) K i = false := by rw [← hok, hfr, Bool.and_false]
          rw [hfr] at CFX
          clear hok hfr
          have HPN := Lib.hid (show (preP (edgeH cs ac) n f K (i + 1)) = preP (edgeH cs ac) n f K i by rw [pre_next, hrd, if_neg (by simp), List.append_nil])
          clear hrd
          go_wp2_with (first
            | (go_at_call 29; go_loud (refine CAX.out.mono ?_; rintro e wz ⟨rfl, hw⟩; replace hw := hw.symm; subst hw))
            | (go_at_call 30; go_loud (refine CFX.out.mono ?_; rintro e wz ⟨rfl, hw⟩; replace hw := hw.symm; subst hw)))
          go_roundw
          case rel => exact ⟨i + 1, G, by go_num, HIN.out, HFL.out, by rw [HPN.out]; exact HGE.out, HOW2.out, HOF.out⟩
          case measure => have := HIN.out; simp [intOf]; omega
        | true =>
          have hrd : rdyB (edgeH cs ac) K i = true := by rw [← hok, hfr, decide_eq_true hp0]; rfl
          rw [hfr] at CFX
          have HRD := Lib.hid hrd
          clear hok hfr hrd
          go_upto_region 13 with (first
            | (go_at_call 29; go_loud (refine CAX.out.mono ?_; rintro e wz ⟨rfl, hw⟩; replace hw := hw.symm; subst hw))
            | (go_at_call 30; go_loud (refine CFX.out.mono ?_; rintro e wz ⟨rfl, hw⟩; replace hw := hw.symm; subst hw)))
          go_upto_region 14 with (at_builtin; go_loud (refine so_append seI_ok (by rfl) (.tmp 58) (.tmp 59) (by rfl) _ (by rfl) (SO.nil seI wr.heap.size wr) oA k oc (numC (numsP cs K)) (by rfl) (by have e : seI.s * k = k := Nat.one_mul _; rw [e]; exact HSDR.out) (by omega) (Nat.le_refl _) ?_; intro v5 w5 o5 b5; have O5 := Lib.hid o5; have B5 := Lib.hid b5; have u5 := keep_below u0 b5; clear o5 b5))
          clear u0
          go_upto_region 15 with (at_builtin; go_loud (refine so_append seI_ok (by rfl) (.tmp 61) (.tmp 66) (by rfl) v5 (by rfl) (O5.out.alloc (.cells #[.int .i64 x] 3)) (some ⟨w5.heap.size, 0, none⟩) 1 1 [.int .i64 x] (by rfl) (sb_int1Z w5 x) (by omega) (by have := B5.out.size; simp; omega) ?_; intro v6 w6 o6 b6; have O6 := Lib.hid o6; have B6 := Lib.hid (B5.out.trans (((alloc_below11 w5 (.cells #[.int .i64 x] 3)).mono B5.out.size).trans b6)); clear o6 b6))
          clear u5
          obtain ⟨A6, c6, rfl, h6, -, -, hb6⟩ := O6.out.form
          have h6 : SB w6 A6 (k + 1) (numC (numsP cs (K ++ [i]))) := by
            have e : seI.s * (0 + k + 1) = k + 1 := by rw [Nat.zero_add]; exact Nat.one_mul _
            rw [e] at h6
            rw [HNX.out]
            have e2 : numC (numsP cs K ++ [x]) = [] ++ numC (numsP cs K) ++ [.int .i64 x] := by simp [numC]
            rw [e2]; exact h6
          have e6 : Value.slice A6 (0 + k + 1) c6 = .slice A6 (k + 1) c6 := by rw [Nat.zero_add]
          rw [e6]
          have z0 := keep_below y0 B6.out
          have z1 := keep_below y1 B6.out
          have CM := Lib.hid (HIH.out w6 (K ++ [i]) A6 c6 (k + 1) G (.slice fA G.length fc) (BWR.out.trans (B6.out.mono BWR.out.size)) (.snoc HL.out HIN.out HRD.out) (by rw [List.length_append, List.length_singleton, HKF.out.1]) (by have := HKF.out.2; omega) h6 (HFL.out.below B6.out) HGL.out (fun _ ad e q => by have h1 := hb6 ad e; have h2 := (HFL.out.own q).2; omega))
          unfold histV at CM
          clear y0 y1 h6 e6 hb6
          go_wp2_with (go_at_call 31; go_loud (refine CM.out.mono ?_; rintro e w7 ⟨v7, rfl, f7, o7, q7⟩; have F7 := Lib.hid f7; have O7 := Lib.hid o7; have Q7 := Lib.hid q7; clear f7 o7 q7))
          go_roundw
          case rel =>
            refine ⟨i + 1, _, by go_num, HIN.out, F7.out, ?_, ?_, ?_⟩
            · rw [pre_next, HRD.out, if_pos rfl, List.map_append, ← List.append_assoc, HGE.out, take_more]
            · exact (HOW2.out.trans (Out.of_below B6.out (fun _ => False)) fun _ _ h => h.elim).trans O7.out fun j hj e => (HOF.out j e).imp id fun q => q
            · intro j hj
              rcases Q7.out j hj with e | e
              · exact HOF.out j e
              · right
                have := HOW2.out.size; have := B6.out.size; omega
          case measure => have := HIN.out; simp [intOf]; omega
      · have hrd : rdyB (edgeH cs ac) K i = false := by rw [← hok, decide_eq_false hp0, Bool.false_and]
        clear hok
        have HPN := Lib.hid (show (preP (edgeH cs ac) n f K (i + 1)) = preP (edgeH cs ac) n f K i by rw [pre_next, hrd, if_neg (by simp), List.append_nil])
        clear hrd
        go_wp2_with (first
          | (go_at_call 29; go_loud (refine CAX.out.mono ?_; rintro e wz ⟨rfl, hw⟩; replace hw := hw.symm; subst hw))
          | (go_at_call 30; go_loud (refine CFX.out.mono ?_; rintro e wz ⟨rfl, hw⟩; replace hw := hw.symm; subst hw)))
        go_roundw
        case rel => exact ⟨i + 1, G, by go_num, HIN.out, HFL.out, by rw [HPN.out]; exact HGE.out, HOW2.out, HOF.out⟩
        case measure => have := HIN.out; simp [intOf]; omega
    · obtain rfl : i = n := by omega
      have j1 : ¬ (i : Int) < (i : Int) := by omega
      have HPA := Lib.hid (pre_all (E := edgeH cs ac) (n := i) (f := f) (K := K) (by have := HKF.out; omega))
      clear hi hfl hge ho hof hsd hnm bwr hin
      go_wp2
      go_ret
      refine ⟨_, rfl, by rw [← HPA.out, ← HGE.out]; exact HFL.out, ((Out.of_below HB.out.below _).then (Out.of_below B2.out _)).then (HOW2.out.mono fun i hi e => e.elim id fun q => absurd hi (by omega)), fun k hk => (HOF.out k hk).imp id fun q => by have := HSZ.out; omega⟩
end
end Go.Proofs.YtnpeankmmojebaaGreatDoor
