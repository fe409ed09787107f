import Derived.Test.YtnpeankmmojebaaGreatDoorJBA
import Derived.Test.YtnpeankmmojebaaGreatDoorSeSt
import Derived.Test.YtnpeankmmojebaaGreatDoorSeG
/- Layer 11: a walk's next. -/
set_option linter.unusedVariables false
namespace Go.Proofs.YtnpeankmmojebaaGreatDoor
set_option maxRecDepth 100000
set_option maxRecDepth 100000
open Go.RowKit

/-- Whatever is laid down can be laid down to the end. -/
def Ends11 (E : Eg) (n : Nat) : Prop := ∀ K N, LayP E n K → FillP E n K N → N.length = n
theorem Ends11.of_full {E : Eg} {n : Nat} {M : List Nat} (hE : EdOk E n) (h : LayP E n M) (hl : M.length = n) : Ends11 E n := fun K N hK hF => Classical.byContradiction fun hne => by
  obtain ⟨r, k, hr, hw⟩ := (hF.lay hK).round hE hF.over hne
  exact h.noround r (h.all hl r hr) k hw
section
variable {w : World} {gw gb b2 n : Nat} {ns : List Int} {E : Eg} {M : List Nat}
set_option maxHeartbeats 32000000 in
theorem wsNxt (h : WkAt w gw gb b2 n ns E M) (hE : EdOk E n) (hl : E.length ≤ 8192) (hn : n ≤ 4096) (hT : TzAt w) (hg : 0 < b2) (hL : LayP E n M) (hA : Ends11 E n) :
    Calls Tryz.prog 34 #[.pointer (some ⟨gw, 0, none⟩)] w fun e w' => e = .returned (.bool (!(remP E n M).isEmpty)) ∧ (∀ M' Q, remP E n M = M' :: Q → Q = remP E n M' ∧ LayP E n M' ∧ M'.length = n ∧ WkAt w' gw gb b2 n ns E M') ∧ Out (fun k => b2 ≤ k) w w' := by
  have H := Lib.hid h
  have HE := Lib.hid hE
  have HL := Lib.hid hl
  have HN := Lib.hid hn
  have HT := Lib.hid hT
  have HGB := Lib.hid hg
  have HG := Lib.hid (show ¬ b2 ≤ 0 by omega)
  have HLY := Lib.hid hL
  have HA := Lib.hid hA
  obtain ⟨P, hP⟩ : ∃ P, remP E n M = P := ⟨_, rfl⟩
  have HP := Lib.hid hP
  rw [hP]
  clear h hE hl hn hT hg hL hA hP
  go_enter Tryz.func34, Tryz.ntmps34
  go_upto_region 1 with fail
  go_loopg [3] (n + 1) (fun gk v wr => ∃ K, WkAt wr gw gb b2 n ns E K ∧ LayP E n K ∧ Out (fun k => b2 ≤ k) w wr ∧ remP E n K = P ∧ K.length + 1 ≤ gk)
  case atStart => exact ⟨M, H.out, HLY.out, Out.refl _ _, HP.out, by have := HLY.out.le; omega⟩
  case round =>
    rename World => wr
    obtain ⟨K, hw, hK, hout, hrem, hgk⟩ := hrel
    rcases List.eq_nil_or_concat K with rfl | ⟨K0, x, rfl⟩
    · obtain ⟨A, c, An, cn, c0, c1, -, g0, -, -, hcl, hcm⟩ := hw.cells
      have c1 : wr.cell? ⟨gw, 1, none⟩ = some (.slice A 0 c) := c1
      have HO := Lib.hid hout
      have hPe : P = [] := hrem.symm
      subst hPe
      clear hw hK hout hrem hgk hcl hcm
      go_wp2
      go_ret
      exact ⟨rfl, fun M' Q e => absurd e (by simp), HO.out⟩
    · obtain ⟨A, c, An, cn, c0, c1, -, g0, -, -, hcl, hcm⟩ := hw.cells
      rw [List.concat_eq_append] at *
      have hle := hK.le
      obtain ⟨hK0, hx, hrx⟩ := hK.last
      obtain ⟨k, hk⟩ : ∃ k, K0.length = k := ⟨_, rfl⟩
      rw [show (K0 ++ [x]).length = k + 1 by simp [hk]] at c1 hle hgk
      have k0 : (0 : Int) < (k : Int) + 1 := by omega
      have x4 : (x : Int) ≤ 4096 := by have := HN.out; omega
      have CT := Lib.hid (wsTake hw HE.out HL.out HN.out hK)
      have HO := Lib.hid hout
      have HGK := Lib.hid (And.intro hgk hle)
      have HX := Lib.hid hx
      have HK := Lib.hid hK
      have HK0 := Lib.hid hK0
      have HREM := Lib.hid hrem
      have HKL := Lib.hid hk
      clear hw hK hout hrem hgk hcl hcm hle hK0 hx hrx hk
      go_upto_region 3 with (go_at_call 50; go_loud (refine CT.out.mono ?_; rintro e w2 ⟨rfl, k2, o2⟩; have K2 := Lib.hid k2; have O2 := Lib.hid (HO.out.then o2); clear k2 o2))
      clear c0 c1 g0
      have CR := Lib.hid (K2.out.ready (HT.out.out O2.out HG.out) HN.out (r := x + 1) HX.out)
      go_upto_region 4 with (go_at_call 47; go_loud (refine CR.out.mono ?_; rintro e w3 ⟨rfl, o3, ho3, rfl⟩; have O3 := Lib.hid ho3; clear ho3))
      rcases O3.out with ⟨rfl, hnone⟩ | ⟨v, rfl, hxv, hv, hr, hleast⟩
      · have HR2 := Lib.hid (show remP E n K0 = P by
          rw [← HREM.out, remP_snoc, restP_none, List.nil_append]
          intro u h1 h2
          have := hnone u h1 h2
          unfold rwP at this
          rw [decide_eq_true h2, Bool.true_and] at this; exact this)
        clear hnone
        go_wp2
        go_roundg (gk - 1)
        case measure => have := HGK.out; omega
        case rel => exact ⟨K0, K2.out, HK0.out, O2.out, HR2.out, by have := HGK.out; have := HKL.out; omega⟩
      · unfold rwP at hr
        rw [Bool.and_eq_true] at hr
        have HV := Lib.hid (And.intro hv (And.intro hr.2 hxv))
        have HLE := Lib.hid (show ∀ u, x + 1 ≤ u → u < v → rdyB E K0 u = false from fun u h1 h2 => by
          have := hleast u h1 h2
          unfold rwP at this
          rw [decide_eq_true (Nat.lt_trans h2 hv), Bool.true_and] at this; exact this)
        have CL := Lib.hid (wsLay K2.out HE.out HL.out HN.out HK0.out hv hr.2)
        have v0 : (0 : Int) ≤ (v : Int) := by omega
        clear hxv hv hr hleast
        go_wp2_with (first
          | (go_at_call 48; go_loud (refine CL.out.mono ?_; rintro e w4 ⟨rfl, k4, o4⟩; have K4 := Lib.hid k4; have O4 := Lib.hid (O2.out.then o4); have CF := Lib.hid (wsFill k4 HE.out HL.out HN.out (HT.out.out O4.out HG.out) HGB.out (.snoc HK0.out HV.out.1 HV.out.2.1)); clear k4 o4))
          | (go_at_call 27; go_loud (refine CF.out.mono ?_; rintro e w5 ⟨N5, f5, k5, o5, rfl⟩; have F5 := Lib.hid f5; have K5 := Lib.hid k5; have O5 := Lib.hid (O4.out.then o5); have N5L := Lib.hid (HA.out _ N5 (.snoc HK0.out HV.out.1 HV.out.2.1) f5); clear f5 k5 o5)))
        go_ret
        have hrm := remP_next HK.out HV.out.2.2 HV.out.1 HV.out.2.1 HLE.out F5.out N5L.out
        rw [HREM.out] at hrm
        refine ⟨by rw [hrm, decide_eq_true N5L.out]; rfl, fun M' Q e => ?_, O5.out⟩
        rw [hrm] at e
        injection e with e1 e2
        subst e1 e2
        exact ⟨rfl, F5.out.lay (.snoc HK0.out HV.out.1 HV.out.2.1), N5L.out, K5.out⟩
end
end Go.Proofs.YtnpeankmmojebaaGreatDoor

/- Layer 11: slices.IndexFunc with round's function: the first neighbour that lies so far from the aim. -/
namespace Go.Proofs.YtnpeankmmojebaaGreatDoor
set_option maxRecDepth 100000
set_option maxRecDepth 100000
open Go.RowKit

theorem wsRound1 {w : World} {b3 b9 g n c x z left : Nat} (hb : w.cell? ⟨b3, 0, none⟩ = some (.slice (some ⟨g, 0, none⟩) n c)) (hl : w.cell? ⟨b9, 0, none⟩ = some (.int .i64 (left : Nat))) (hx : w.cell? ⟨g, x, none⟩ = some (.int .i64 (z : Nat))) (hxn : x < n) :
    Calls Tryz.prog 59 #[.int .i64 (x : Nat), .pointer (some ⟨b3, 0, none⟩), .pointer (some ⟨b9, 0, none⟩)] w fun e w' => e = .returned (.bool (decide (z = left))) ∧ Below w.heap.size w w' := by
  have hq : decide ((z : Int) = (left : Int)) = decide (z = left) := by
    by_cases h : z = left
    · simp [h]
    · have : ¬ (z : Int) = (left : Int) := by omega
      simp [h, this]
  have i1 : (x : Int) < (n : Int) := by omega
  have HQ := Lib.hid hq
  clear hxn hq
  go_enter Tryz.func59, Tryz.ntmps59
  go_upto_region 1 with fail
  go_region
  all_goals
    (go_wp2
     go_ret
     exact ⟨by rw [← HQ.out]; first | rfl | simp, (Below.refl _ _).drew⟩)
set_option maxHeartbeats 16000000 in
theorem wsIdx2 {w : World} {b3 b9 g n c left k ic : Nat} {A : Option Addr} {us st : List Nat} (hs : SB w A k (numN us)) (hk : us.length = k) (hk2 : k ≤ 8192) (hb : w.cell? ⟨b3, 0, none⟩ = some (.slice (some ⟨g, 0, none⟩) n c)) (hl : w.cell? ⟨b9, 0, none⟩ = some (.int .i64 (left : Nat))) (hx : ∀ x, x < n → w.cell? ⟨g, x, none⟩ = some (.int .i64 (gN st x : Nat))) (hu : ∀ u ∈ us, u < n) (he : ∃ u ∈ us, gN st u = left) :
    Calls Tryz.prog 58 #[.slice A k ic, .func (.func 59) #[] #[.pointer (some ⟨b3, 0, none⟩), .pointer (some ⟨b9, 0, none⟩)]] w fun e w' => ∃ j u : Nat, e = .returned (.int .i64 (j : Nat)) ∧ us[j]? = some u ∧ gN st u = left ∧ (∀ i y, i < j → us[i]? = some y → gN st y ≠ left) ∧ Below w.heap.size w w' := by
  have HS := Lib.hid hs
  have HK := Lib.hid hk
  have HK2 := Lib.hid hk2
  have HB := Lib.hid hb
  have HL := Lib.hid hl
  have HX := Lib.hid hx
  have HU := Lib.hid hu
  have HE := Lib.hid he
  clear hs hk hk2 hb hl hx hu he
  go_enter Tryz.func58, Tryz.ntmps58
  go_upto_region 2 with fail
  go_loopw [8] (fun i wr => ∃ j : Nat, i = .int .i64 (j : Nat) ∧ j ≤ k ∧ (∀ i y, i < j → us[i]? = some y → gN st y ≠ left) ∧ Below w.heap.size w wr) (fun i _ => k - (intOf i).toNat)
  case atStart => exact ⟨0, rfl, Nat.zero_le _, fun i y h => absurd h (Nat.not_lt_zero _), Below.refl _ _⟩
  case round =>
    rename World => wr
    obtain ⟨j, rfl, hj, ha, hbl⟩ := hrel
    by_cases hlt : j < k
    · obtain ⟨x, hx⟩ : ∃ x, us[j]? = some x := ⟨_, List.getElem?_eq_getElem (by rw [HK.out]; exact hlt)⟩
      obtain ⟨g', o, rfl, c0⟩ := (HS.out.gw hbl).at_ (numN_at hx)
      have i1 : (j : Int) < (k : Int) := by omega
      have l1 : (j : Int) ≤ 8192 := by have := HK2.out; omega
      have l2 : (0 : Int) ≤ (j : Int) := by omega
      have hxn := HU.out x (List.mem_of_getElem? hx)
      have CR := Lib.hid (wsRound1 (keep_below HB.out hbl) (keep_below HL.out hbl) (keep_below (HX.out x hxn) hbl) hxn)
      have HA := Lib.hid ha
      have HXX := Lib.hid hx
      have HLT := Lib.hid hlt
      have HBL := Lib.hid hbl
      by_cases hp : gN st x = left
      · have HP := Lib.hid hp
        rw [show decide (gN st x = left) = true by simpa using hp] at CR
        clear hp hx ha hj hlt hxn hbl
        go_wp2_with (go_at_call 59; go_loud (refine CR.out.mono ?_; rintro e w3 ⟨rfl, hw⟩; have HW := Lib.hid hw; clear hw))
        go_ret
        exact ⟨j, x, rfl, HXX.out, HP.out, HA.out, below_next HBL.out HW.out⟩
      · have HP := Lib.hid hp
        rw [show decide (gN st x = left) = false by simpa using hp] at CR
        clear hp hx ha hj hlt hxn hbl
        go_wp2_with (go_at_call 59; go_loud (refine CR.out.mono ?_; rintro e w3 ⟨rfl, hw⟩; have HW := Lib.hid hw; clear hw))
        go_roundw
        case rel => exact ⟨j + 1, by go_num, HLT.out, fun i y hi hy => by
          rcases Nat.lt_or_ge i j with h1 | h1
          · exact HA.out i y h1 hy
          · have e : i = j := by omega
            rw [e, HXX.out] at hy
            rw [← Option.some.inj hy]; exact HP.out, below_next HBL.out HW.out⟩
        case measure => have := HLT.out; simp [intOf]; omega
    · exfalso
      obtain ⟨u, hu, hul⟩ := HE.out
      obtain ⟨i, hi⟩ := List.mem_iff_getElem?.1 hu
      have := (List.getElem?_eq_some_iff.1 hi).1
      have hk := HK.out
      exact ha i u (by omega) hi hul
end Go.Proofs.YtnpeankmmojebaaGreatDoor

/- Layer 11: the shortest round as it is looked for, plainly. -/
namespace Go.Proofs.YtnpeankmmojebaaGreatDoor
set_option maxRecDepth 100000

/-- Among the ranks below j: the first one of those with the shortest round. -/
structure Sel (E : Eg) (n j f : Nat) (st : List Nat) : Prop where
  lt : f < j
  is : StepsIs E n f st
  pos : 0 < gN st f
  least : ∀ r, r < j → ∀ i, Way E i r r → gN st f ≤ i
  first : ∀ r, r < f → ¬ Way E (gN st f) r r
def NoRd (E : Eg) (j : Nat) : Prop := ∀ r, r < j → ∀ k, ¬ Way E k r r
section
variable {E : Eg} {n j f : Nat} {st s : List Nat}
theorem NoRd.more (h : NoRd E j) (hs : StepsIs E n j s) (h0 : gN s j = 0) : NoRd E (j + 1) := fun r hr k => by
  rcases Nat.lt_or_ge r j with h1 | h1
  · exact h r h1 k
  · have : r = j := by omega
    rw [this]; exact hs.none h0 k
theorem NoRd.sel (h : NoRd E j) (hs : StepsIs E n j s) (h0 : 0 < gN s j) : Sel E n (j + 1) j s where
  lt := Nat.lt_succ_self _
  is := hs
  pos := h0
  least r hr i hw := by
    rcases Nat.lt_or_ge r j with h1 | h1
    · exact absurd hw (h r h1 i)
    · have : r = j := by omega
      rw [this] at hw
      exact (hs.some h0).1.2 i hw
  first r hr := h r hr _
theorem Sel.more (h : Sel E n j f st) (hs : StepsIs E n j s) (h0 : gN s j = 0 ∨ gN st f ≤ gN s j) : Sel E n (j + 1) f st where
  lt := Nat.lt_succ_of_lt h.lt
  is := h.is
  pos := h.pos
  least r hr i hw := by
    rcases Nat.lt_or_ge r j with h1 | h1
    · exact h.least r h1 i hw
    · have e : r = j := by omega
      rw [e] at hw
      rcases Nat.eq_zero_or_pos (gN s j) with h2 | h2
      · exact absurd hw (hs.none h2 i)
      · rcases h0 with k | k
        · omega
        · exact Nat.le_trans k ((hs.some h2).1.2 i hw)
  first := h.first
theorem Sel.new (h : Sel E n j f st) (hs : StepsIs E n j s) (h0 : 0 < gN s j) (h1 : gN s j < gN st f) : Sel E n (j + 1) j s where
  lt := Nat.lt_succ_self _
  is := hs
  pos := h0
  least r hr i hw := by
    rcases Nat.lt_or_ge r j with h2 | h2
    · have := h.least r h2 i hw; omega
    · have : r = j := by omega
      rw [this] at hw
      exact (hs.some h0).1.2 i hw
  first r hr hw := by have := h.least r hr _ hw; omega
/-- A round's beginning: from its last one 'at' left + 1 edges lead to f. -/
structure Ch (E : Eg) (n f k : Nat) (L : List Nat) (at_ left : Nat) : Prop where
  len : L.length + left = k
  hd : L[0]? = some f
  last : L[L.length - 1]? = some at_
  dist : DistIs E (left + 1) at_ f
  lt : ∀ r ∈ L, r < n
  chain : ∀ i x y, i + 1 < L.length → L[i]? = some x → L[i + 1]? = some y → ((x, y) ∈ E ∧ DistIs E (k - (i + 1)) y f) ∧ ∀ z, (x, z) ∈ E → DistIs E (k - (i + 1)) z f → y ≤ z
theorem Ch.start {k : Nat} (h : Sel E n n f st) (hk : gN st f = k) : Ch E n f k [f] f (k - 1) where
  len := by have := h.pos; simp; omega
  hd := rfl
  last := rfl
  dist := by
    have := h.pos
    rw [show k - 1 + 1 = gN st f by omega]
    exact (h.is.some h.pos).1
  lt r hr := by rw [List.mem_singleton.1 hr]; exact h.lt
  chain i x y hi := absurd hi (by simp)
theorem Ch.found {k left at_ : Nat} {L : List Nat} (h : Ch E n f k L at_ left) (hs : Sel E n n f st) (hk : gN st f = k) (h0 : 0 < left) : ∃ u ∈ outsP E at_, gN st u = left := by
  obtain ⟨y, hy, hd⟩ := dist_next h.dist h0
  have := h.len
  have hl := (List.getElem?_eq_some_iff.1 h.hd).1
  exact ⟨y, mem_outs.2 hy, (((hs.is.some hs.pos).2 left y h0 (by omega)).2 hd)⟩
theorem Ch.next {k left at_ j u : Nat} {L : List Nat} (hE : EdOk E n) (h : Ch E n f k L at_ (left + 1)) (hs : Sel E n n f st) (hk : gN st f = k) (hr : (outsP E at_).Pairwise (· ≤ ·)) (hu : (outsP E at_)[j]? = some u) (he : gN st u = left + 1) (hf : ∀ i y, i < j → (outsP E at_)[i]? = some y → gN st y ≠ left + 1) : Ch E n f k (L ++ [u]) u left := by
  have hl := (List.getElem?_eq_some_iff.1 h.hd).1
  have hlen := h.len
  have hiff := (hs.is.some hs.pos).2
  have hmu : (at_, u) ∈ E := mem_outs.1 (List.mem_of_getElem? hu)
  have hdu : DistIs E (left + 1) u f := (hiff (left + 1) u (by omega) (by omega)).1 he
  refine ⟨by simp; omega, by rw [List.getElem?_append_left hl]; exact h.hd, by simp, hdu, fun r hm => ?_, fun i x y hi hx hy => ?_⟩
  · rcases List.mem_append.1 hm with k1 | k1
    · exact h.lt r k1
    · rw [List.mem_singleton.1 k1]; exact (hE.lt _ hmu).2
  · rw [List.length_append, List.length_singleton] at hi
    rcases Nat.lt_or_ge (i + 1) L.length with h1 | h1
    · rw [List.getElem?_append_left (by omega)] at hx
      rw [List.getElem?_append_left h1] at hy
      exact h.chain i x y h1 hx hy
    · have ei : i = L.length - 1 := by omega
      rw [List.getElem?_append_left (by omega), ei, h.last] at hx
      have ey : L.length = i + 1 := by omega
      rw [← ey, List.getElem?_append_right (Nat.le_refl _), Nat.sub_self] at hy
      have hxa : at_ = x := Option.some.inj hx
      have hyu : u = y := by simpa using hy
      subst hxa hyu
      have e : k - (i + 1) = left + 1 := by omega
      rw [e]
      refine ⟨⟨hmu, hdu⟩, fun z hz hdz => ?_⟩
      have hgz : gN st z = left + 1 := (hiff (left + 1) z (by omega) (by omega)).2 hdz
      obtain ⟨i2, hi2⟩ := List.mem_iff_getElem?.1 (mem_outs.2 hz)
      have hji : j ≤ i2 := by
        rcases Nat.lt_or_ge i2 j with h2 | h2
        · exact absurd hgz (hf i2 z h2 hi2)
        · exact h2
      rcases Nat.lt_or_ge j i2 with h2 | h2
      · have hj := (List.getElem?_eq_some_iff.1 hu).1
        have hi3 := (List.getElem?_eq_some_iff.1 hi2).1
        have := List.pairwise_iff_getElem.1 hr j i2 hj hi3 h2
        rw [List.getElem?_eq_getElem hj] at hu
        rw [List.getElem?_eq_getElem hi3] at hi2
        rw [Option.some.inj hu, Option.some.inj hi2] at this
        exact this
      · have : i2 = j := by omega
        rw [this, hu] at hi2
        rw [Option.some.inj hi2]; exact Nat.le_refl _
theorem Ch.round {k at_ : Nat} {L : List Nat} (h : Ch E n f k L at_ 0) (hs : Sel E n n f st) (hk : gN st f = k) : RoundIs E n L := by
  have hlen := h.len
  refine .inr ⟨f, k, hs.lt, by rw [← hk]; exact (hs.is.some hs.pos).1.1, fun r j hr hw => by rw [← hk]; exact hs.least r hr j hw, fun r hr => by rw [← hk]; exact hs.first r hr, by omega, h.hd, fun i x y hi => h.chain i x y (by omega)⟩
theorem NoRd.round (h : NoRd E n) : RoundIs E n [] := .inl ⟨rfl, fun r k hr => h r hr k⟩
end
end Go.Proofs.YtnpeankmmojebaaGreatDoor
