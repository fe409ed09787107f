import Derived.Test.YtnpeankmmojebaaDoorJBD
import Derived.Deep.LoopGhost
/- Layer 11: newWalk. -/
set_option linter.unusedVariables false
namespace Go.Proofs.YtnpeankmmojebaaDoor
set_option maxRecDepth 100000
set_option maxRecDepth 100000
open Go.RowKit

theorem WkM.start {W : World} {gb gt gr b2 n : Nat} (E : Eg) (h1 : SO seI b2 W (.slice (some ⟨gt, 0, none⟩) n n) n (List.replicate n (.int .i64 0))) (h2 : SO seU b2 W (.slice (some ⟨gr, 0, none⟩) (n / 64 + 1) (n / 64 + 1)) (n / 64 + 1) (List.replicate (n / 64 + 1) (.int .u64 0))) (hne : gt ≠ gr) (hb : b2 ≤ W.heap.size) :
    WkM (W.alloc (.cells #[.pointer (some ⟨gb, 0, none⟩), .slice none 0 0, .slice (some ⟨gt, 0, none⟩) n n, .slice (some ⟨gr, 0, none⟩) (n / 64 + 1) (n / 64 + 1)] 62)) W.heap.size gb gt gr b2 n (.slice none 0 0) [] (wnP E 0) (rnP E 0) where
  row := heap_alloc_new W _
  laid := SO.nil _ _ _
  waits := by
    have := h1.below (alloc_below11 W (.cells #[.pointer (some ⟨gb, 0, none⟩), .slice none 0 0, .slice (some ⟨gt, 0, none⟩) n n, .slice (some ⟨gr, 0, none⟩) (n / 64 + 1) (n / 64 + 1)] 62))
    rw [← numN_rep] at this
    have e : (List.range n).map (wnP E 0) = List.replicate n 0 := by
      apply List.ext_getElem
      · simp
      · intro i k1 k2; simp [wnP]
    rw [e]; exact this
  ready := by
    refine ⟨List.replicate (n / 64 + 1) 0, ⟨by simp, fun i x hx => ?_⟩, ?_⟩
    · rw [List.getElem?_replicate] at hx
      split at hx
      · cases hx; exact ⟨by omega, fun b _ => by simp [rnP]⟩
      · cases hx
    · have := h2.below (alloc_below11 W (.cells #[.pointer (some ⟨gb, 0, none⟩), .slice none 0 0, .slice (some ⟨gt, 0, none⟩) n n, .slice (some ⟨gr, 0, none⟩) (n / 64 + 1) (n / 64 + 1)] 62))
      rw [← numU_rep] at this
      exact this
  top v _ := by simp [rnP]
  lo := hb
  ne := by
    have h3 := (h1.own.lt gt rfl).2
    have h4 := (h2.own.lt gr rfl).2
    exact ⟨by omega, by omega, hne⟩
  nl k hk := by cases hk
/-- A list of ins, where it lies. -/
theorem NetW.inAt {W : World} {gb b2 n x : Nat} {ns : List Int} {E : Eg} (h : NetW W gb b2 n ns E) (hx : x < n) : ∃ gi A c, W.cell? ⟨gb, 2, none⟩ = some (.slice (some ⟨gi, 0, none⟩) n n) ∧ W.cell? ⟨gi, x, none⟩ = some (.slice A (insP E x).length c) ∧ ∀ ad, A = some ad → ad.block < b2 := by
  obtain ⟨go, gi, base, An, cn, vo, vi, hB, hbb, hown⟩ := h
  obtain ⟨v, hv⟩ : ∃ v, vi[x]? = some v := ⟨_, List.getElem?_eq_getElem (by rw [hB.vil]; exact hx)⟩
  obtain ⟨A, c, rfl, hs, -⟩ := (hB.inL hv (LIf_at hx)).form
  refine ⟨gi, A, c, hB.cells.2.2, hB.inC hv, fun ad e => ?_⟩
  subst e
  exact hown (n + x) _ ad.block (by rw [List.getElem?_append_right (by rw [hB.vol]; omega), hB.vol, Nat.add_sub_cancel_left]; exact hv) rfl
theorem WkM.congr {W : World} {gw gb gt gr b2 n : Nat} {vl : Value} {L : List Nat} {Wf Wg : Nat → Nat} {R : Nat → Bool} (h : WkM W gw gb gt gr b2 n vl L Wf R) (he : ∀ v, v < n → Wf v = Wg v) : WkM W gw gb gt gr b2 n vl L Wg R :=
  ⟨h.row, h.laid, by
    have e : (List.range n).map Wg = (List.range n).map Wf := List.map_congr_left fun v hv => (he v (List.mem_range.1 hv)).symm
    rw [e]; exact h.waits, h.ready, h.top, h.lo, h.ne, h.nl⟩
section
variable {w : World} {gb n : Nat} {ns : List Int} {E : Eg}
set_option maxHeartbeats 16000000 in
theorem wsNewWalk (h : NetAt w gb n ns E) (hl : E.length ≤ 8192) (hn : n ≤ 4096) :
    Calls Tryd.prog 17 #[.pointer (some ⟨gb, 0, none⟩)] w fun e w' => ∃ gw, e = .returned (.pointer (some ⟨gw, 0, none⟩)) ∧ WkAt w' gw gb w.heap.size n ns E [] ∧ Below w.heap.size w w' := by
  have hW := h.toW
  obtain ⟨go, gi, base, An, cn, vo, vi, hB⟩ := h
  have x0 := hB.cells.1
  obtain ⟨q, hq⟩ : ∃ q, n / 64 = q := ⟨_, rfl⟩
  have q64 : (q : Int) ≤ 64 := by omega
  have eq : (n : Int) / 64 = (q : Int) := by omega
  have n4 : (n : Int) ≤ 4096 := by omega
  obtain ⟨u1, mk1, so1, b1, l1⟩ := so_make seI_ok rfl rfl rfl w.drew n (by omega) w.heap.size (Nat.le_refl _)
  obtain ⟨u2, mk2, so2, b2, l2⟩ := so_make seU_ok rfl rfl rfl u1 (q + 1) (by omega) w.heap.size b1.size
  obtain ⟨v1, mk3, so3, b3, l3⟩ := so_make seU_ok rfl rfl rfl w.drew (q + 1) (by omega) w.heap.size (Nat.le_refl _)
  obtain ⟨v2, mk4, so4, b4, l4⟩ := so_make seI_ok rfl rfl rfl v1 n (by omega) w.heap.size b3.size
  have mk1 : (Instr.makeSlice 22 (.int .i64 (n : Int)) (.int .i64 (n : Int))).run Tryd.prog w.drew = .ok (.slice (some ⟨w.heap.size, 0, none⟩) n n) u1 := mk1
  have mk2 : (Instr.makeSlice 60 (.int .i64 ((q : Int) + 1)) (.int .i64 ((q : Int) + 1))).run Tryd.prog u1 = .ok (.slice (some ⟨u1.heap.size, 0, none⟩) (q + 1) (q + 1)) u2 := mk2
  have mk3 : (Instr.makeSlice 60 (.int .i64 ((q : Int) + 1)) (.int .i64 ((q : Int) + 1))).run Tryd.prog w.drew = .ok (.slice (some ⟨w.heap.size, 0, none⟩) (q + 1) (q + 1)) v1 := mk3
  have mk4 : (Instr.makeSlice 22 (.int .i64 (n : Int)) (.int .i64 (n : Int))).run Tryd.prog v1 = .ok (.slice (some ⟨v1.heap.size, 0, none⟩) n n) v2 := mk4
  have bd : Below w.heap.size w w.drew := below_drew11 w
  have y1 : u1.cell? ⟨gb, 0, none⟩ = some (.slice An n cn) := keep_below x0 (bd.trans b1)
  have y3 : v1.cell? ⟨gb, 0, none⟩ = some (.slice An n cn) := keep_below x0 (bd.trans b3)
  have HB1 := Lib.hid (bd.trans b1)
  have HB2 := Lib.hid b2
  have HB3 := Lib.hid (bd.trans b3)
  have HB4 := Lib.hid b4
  have HW := Lib.hid hW
  have HB := Lib.hid hB
  have HL := Lib.hid hl
  have HQ := Lib.hid hq
  have S1 := Lib.hid so1
  have S2 := Lib.hid so2
  have S3 := Lib.hid so3
  have S4 := Lib.hid so4
  have HLT := Lib.hid (And.intro l1 (And.intro l2 (And.intro l3 l4)))
  have KA := Lib.hid (show WkM (u2.alloc (.cells #[.pointer (some ⟨gb, 0, none⟩), .slice none 0 0, .slice (some ⟨w.heap.size, 0, none⟩) n n, .slice (some ⟨u1.heap.size, 0, none⟩) (q + 1) (q + 1)] 62)) u2.heap.size gb w.heap.size u1.heap.size w.heap.size n (.slice none 0 0) [] (wnP E 0) (rnP E 0) by
    have := WkM.start (gb := gb) E (W := u2) (gt := w.heap.size) (gr := u1.heap.size) (b2 := w.heap.size) (n := n) (so1.below b2) (by rw [hq]; exact so2) (by have h1 : w.heap.size < u1.heap.size := l1; omega) (Nat.le_trans b1.size b2.size)
    rw [hq] at this; exact this)
  have KB := Lib.hid (show WkM (v2.alloc (.cells #[.pointer (some ⟨gb, 0, none⟩), .slice none 0 0, .slice (some ⟨v1.heap.size, 0, none⟩) n n, .slice (some ⟨w.heap.size, 0, none⟩) (q + 1) (q + 1)] 62)) v2.heap.size gb v1.heap.size w.heap.size w.heap.size n (.slice none 0 0) [] (wnP E 0) (rnP E 0) by
    have := WkM.start (gb := gb) E (W := v2) (gt := v1.heap.size) (gr := w.heap.size) (b2 := w.heap.size) (n := n) so4 (by rw [hq]; exact so3.below b4) (by have h1 : w.heap.size < v1.heap.size := l3; omega) (Nat.le_trans b3.size b4.size)
    rw [hq] at this; exact this)
  have BA := Lib.hid (show ∀ o, Below w.heap.size w (u2.alloc o) from fun o => ((bd.trans b1).trans (b2.mono b1.size)).trans ((alloc_below11 u2 o).mono (Nat.le_trans b1.size b2.size)))
  have BB := Lib.hid (show ∀ o, Below w.heap.size w (v2.alloc o) from fun o => ((bd.trans b3).trans (b4.mono b3.size)).trans ((alloc_below11 v2 o).mono (Nat.le_trans b3.size b4.size)))
  clear hW hB hl hq so1 so2 so3 so4 b1 b2 b3 b4 l1 l2 l3 l4 bd
  go_enter Tryd.func17, Tryd.ntmps17
  go_upto_region 1 with fail
  go_cut [3] (fun v3 wx => ∃ gw gt gr, v3 = .pointer (some ⟨gw, 0, none⟩) ∧ WkM wx gw gb gt gr w.heap.size n (.slice none 0 0) [] (wnP E 0) (rnP E 0) ∧ Below w.heap.size w wx)
  case first =>
    go_region
    all_goals (go_wp2_with fail; go_meet; first | exact ⟨_, _, _, rfl, KA.out, BA.out _⟩ | exact ⟨_, _, _, rfl, KB.out, BB.out _⟩)
  case rest =>
    obtain ⟨gw, gt, gr, rfl, hM, hb⟩ := hcut
    rename World => w3
    clear y1 y3 mk1 mk2 mk3 mk4
    have x3 := keep_below x0 hb
    have M3 := Lib.hid hM
    have B3 := Lib.hid hb
    clear hM hb x0
    have HN := Lib.hid hn
    go_upto_region 3 with fail
    clear x3
    go_loopw [27] (fun i wr => ∃ j : Nat, i = .int .i64 (j : Nat) ∧ j ≤ n ∧ WkM wr gw gb gt gr w.heap.size n (.slice none 0 0) [] (wnP E j) (rnP E j) ∧ Below w.heap.size w wr) (fun i _ => n - (intOf i).toNat)
    case atStart => exact ⟨0, rfl, Nat.zero_le _, M3.out, B3.out⟩
    case round =>
      rename World => wr
      obtain ⟨j, rfl, hj, hm, hb⟩ := hrel
      by_cases hlt : j < n
      · obtain ⟨gi2, IA, ic, z2, zi, -⟩ := (HW.out.below hb).inAt hlt
        obtain ⟨p, hp⟩ : ∃ p, (insP E j).length = p := ⟨_, rfl⟩
        rw [hp] at zi
        have hpl : (p : Int) ≤ 8192 := by have := insP_len E j; have := HL.out; omega
        have c2 := hm.cells.2.2.1
        obtain ⟨t0, tf⟩ := hm.wait hlt
        have hset := hm.setWait hlt p
        rw [show (fun u => if u = j then p else wnP E j u) = wnP E (j + 1) by rw [← hp]; exact wn_step E j] at hset
        have gtb : w.heap.size ≤ gt := hm.glt.2.1.1
        obtain ⟨W2, hW2⟩ : ∃ W, wr.setCell ⟨gt, j, none⟩ (.int .i64 (p : Nat)) = W := ⟨_, rfl⟩
        rw [hW2] at hset
        have bset : Below w.heap.size w W2 := hW2 ▸ ((Out.of_below hb (fun _ => False)).setCell (p := ⟨gt, j, none⟩) (.inr gtb) (.int .i64 (p : Nat))).below (Nat.le_refl _) (fun _ _ h => h)
        have i1 : (j : Int) < (n : Int) := by omega
        have hsetd := hset.below (below_drew11 W2)
        have c2' := hsetd.cells.2.2.1
        have t0' := (hsetd.wait hlt).1
        rw [show wnP E (j + 1) j = p by unfold wnP; rw [if_pos (Nat.lt_succ_self _)]; exact hp] at t0'
        have HSET := Lib.hid hsetd
        have BSET := Lib.hid (below_next bset (below_drew11 W2))
        have HW2 := Lib.hid hW2
        have HP := Lib.hid hp
        have HJ := Lib.hid hlt
        clear hj hm hb hset hsetd bset hW2 hp hlt gtb
        obtain ⟨W3, hW3⟩ : ∃ W, W2.drew = W := ⟨_, rfl⟩
        rw [hW3] at c2' t0' HSET BSET
        have HW3 := Lib.hid hW3
        clear hW3
        go_upto_region 5 with fail
        go_region
        rw [HW2.out, HW3.out]
        clear z2 zi c2 t0 tf
        by_cases hp0 : p = 0
        · subst hp0
          go_wp2_with (go_at_call 31; go_loud (refine (wsFlip HSET.out HN.out HJ.out).mono ?_; rintro e w8 ⟨rfl, m8, o8⟩; rw [rn_flip E j HP.out] at m8; have M8 := Lib.hid m8; have B8 := Lib.hid (((Out.of_below BSET.out (fun k => w.heap.size ≤ k)).then (o8.mono fun i _ q => by have := HSET.out.glt.2.2.1; omega)).below (Nat.le_refl _) (fun i hi h => by have h : w.heap.size ≤ i := h; omega)); clear m8 o8))
          go_roundw
          case rel => exact ⟨j + 1, by go_num, HJ.out, M8.out, B8.out⟩
          case measure => have := HJ.out; simp [intOf]; omega
        · have p0 : ((p : Int) == 0) = false := by simpa using hp0
          have HK3 := Lib.hid (rn_keep E j (by rw [HP.out]; exact hp0))
          go_wp2
          go_roundw
          case rel => exact ⟨j + 1, by go_num, HJ.out, by rw [← HK3.out]; exact HSET.out, BSET.out⟩
          case measure => have := HJ.out; simp [intOf]; omega
      · obtain rfl : j = n := by omega
        have i1 : ¬ (j : Int) < (j : Int) := by omega
        have M := Lib.hid hm
        have B := Lib.hid hb
        clear hj hlt hm hb
        go_wp2
        go_ret
        refine ⟨gw, rfl, ⟨gt, gr, .slice none 0 0, ?_, HW.out.below B.out⟩, B.out⟩
        rw [← rn_all]
        exact M.out.congr fun v hv => by rw [wtnW_nil]; unfold wnP; rw [if_pos hv]
end
end Go.Proofs.YtnpeankmmojebaaDoor

/- Layer 11: a walk's fill and order. -/
namespace Go.Proofs.YtnpeankmmojebaaDoor
set_option maxRecDepth 100000
set_option maxRecDepth 100000
open Go.RowKit

theorem TzAt.out {w w' : World} (h : TzAt w) {F : Nat → Prop} (o : Out F w w') (hF : ¬ F 0) : TzAt w' := fun j v hj => o.cell (h j v hj) hF
theorem fill_set11 {Z : List Value} {j k : Nat} {z : Value} (hz : Z[j]? = some z) (hl : Z.length = k) (x0 : Value) : (Z.take j ++ List.replicate (k - j) x0).set j z = Z.take (j + 1) ++ List.replicate (k - (j + 1)) x0 := by
  have hj := (List.getElem?_eq_some_iff.1 hz).1
  have e1 : (Z.take j).length = j := by rw [List.length_take]; omega
  rw [List.set_append_right _ _ (by omega), e1, Nat.sub_self, show k - j = (k - (j + 1)) + 1 by omega, List.replicate_succ, List.set_cons_zero, List.take_add_one, hz, Option.toList_some, List.append_assoc]
  rfl
section
variable {w : World} {gw gb b2 n : Nat} {ns : List Int} {E : Eg} {L : List Nat}
/-- A walk's cells. -/
theorem WkAt.cells (h : WkAt w gw gb b2 n ns E L) : ∃ A c An cn, w.cell? ⟨gw, 0, none⟩ = some (.pointer (some ⟨gb, 0, none⟩)) ∧ w.cell? ⟨gw, 1, none⟩ = some (.slice A L.length c) ∧ SB w A L.length (numN L) ∧ w.cell? ⟨gb, 0, none⟩ = some (.slice An n cn) ∧ SB w An n (numC ns) ∧ ns.length = n ∧ L.length ≤ c ∧ c ≤ maxLen := by
  obtain ⟨gt, gr, vl, hM, hN⟩ := h
  obtain ⟨go, gi, base, An, cn, vo, vi, hB, hbb, hown⟩ := hN
  obtain ⟨A, c, rfl, hs, hc, hm, -⟩ := hM.laid.form
  have e : seI.s * L.length = L.length := Nat.one_mul _
  rw [e] at hs
  exact ⟨A, c, An, cn, hM.cells.1, hM.cells.2.1, hs, hB.cells.1, hB.nb, hB.nl, hc, hm⟩
theorem WkAt.ready (h : WkAt w gw gb b2 n ns E L) (hT : TzAt w) (hn : n ≤ 4096) {r : Nat} (hr : r ≤ n) :
    Calls Tryd.prog 35 #[.pointer (some ⟨gw, 0, none⟩), .int .i64 (r : Nat)] w fun e w' => w' = w ∧ ∃ o, NxtIs (rwP E n L) n r o ∧ e = .returned (.int .i64 o) := by
  obtain ⟨gt, gr, vl, hM, hN⟩ := h
  exact wsReady hM hT hn hr
set_option maxHeartbeats 16000000 in
theorem wsFill (h : WkAt w gw gb b2 n ns E L) (hE : EdOk E n) (hl : E.length ≤ 8192) (hn : n ≤ 4096) (hT : TzAt w) (hg : 0 < b2) (hL : LayP E n L) :
    Calls Tryd.prog 19 #[.pointer (some ⟨gw, 0, none⟩)] w fun e w' => ∃ M, FillP E n L M ∧ WkAt w' gw gb b2 n ns E M ∧ Out (fun k => b2 ≤ k) w w' ∧ e = .returned (.bool (decide (M.length = n))) := by
  have C0 := Lib.hid (h.ready hT hn (Nat.zero_le n))
  have H := Lib.hid h
  have HE := Lib.hid hE
  have HL := Lib.hid hl
  have HN := Lib.hid hn
  have HT := Lib.hid hT
  have HG := Lib.hid (show ¬ b2 ≤ 0 by omega)
  have HLY := Lib.hid hL
  clear h hE hl hn hT hg hL
  go_enter Tryd.func19, Tryd.ntmps19
  go_upto_region 2 with (go_at_call 35; go_loud (refine C0.out.mono ?_; rintro e w1 ⟨rfl, o, ho, rfl⟩; have O0 := Lib.hid ho; clear ho))
  go_loopg [3] (n + 1) (fun gk v wr => ∃ K o, v = .int .i64 o ∧ NxtIs (rwP E n K) n 0 o ∧ WkAt wr gw gb b2 n ns E K ∧ LayP E n K ∧ Out (fun k => b2 ≤ k) w1 wr ∧ (∀ M, FillP E n K M → FillP E n L M) ∧ n + 1 ≤ gk + K.length)
  case atStart => exact ⟨L, o, rfl, O0.out, H.out, HLY.out, Out.refl _ _, fun _ h => h, by omega⟩
  case round =>
    rename World => wr
    obtain ⟨K, o, rfl, ho, hw, hK, hout, hF, hgk⟩ := hrel
    have hKl := hK.le
    rcases ho with ⟨rfl, hnone⟩ | ⟨v, rfl, -, hv, hr, hleast⟩
    · have hst : FillP E n K K := .stop fun v hv => by
        have := hnone v (Nat.zero_le _) hv
        unfold rwP at this
        rw [decide_eq_true hv, Bool.true_and] at this; exact this
      have HF := Lib.hid (hF K hst)
      obtain ⟨A, c, An, cn, c0, c1, -, g0, -, -, hcl, hcm⟩ := hw.cells
      have HW := Lib.hid hw
      have HO := Lib.hid hout
      obtain ⟨k, hk⟩ : ∃ k, K.length = k := ⟨_, rfl⟩
      rw [hk] at c1
      have k4 : (k : Int) ≤ 4096 := by have := HN.out; omega
      have n4 : (n : Int) ≤ 4096 := by have := HN.out; omega
      have HK := Lib.hid hk
      clear hw hK hout hF hgk hKl hnone hst hk hcl hcm C0
      by_cases hkn : k = n
      · subst hkn
        go_wp2
        go_region
        all_goals go_wp2
        all_goals go_ret
        all_goals exact ⟨K, HF.out, HW.out.below (below_drew11 _), HO.out.then (Out.of_below (below_drew11 _) _), by rw [decide_eq_true HK.out]; first | rfl | simp⟩
      · have e0 : ((k : Int) == (n : Int)) = false := by simp; omega
        go_wp2
        go_region
        all_goals go_wp2
        all_goals go_ret
        all_goals exact ⟨K, HF.out, HW.out.below (below_drew11 _), HO.out.then (Out.of_below (below_drew11 _) _), by rw [HK.out, decide_eq_false hkn]; first | rfl | simp [e0]⟩
    · unfold rwP at hr
      rw [Bool.and_eq_true] at hr
      have hr2 := hr.2
      have hst : ∀ M, FillP E n (K ++ [v]) M → FillP E n L M := fun M hM => hF M (.step hv hr2 (fun u hu => by
        have := hleast u (Nat.zero_le _) hu
        unfold rwP at this
        rw [decide_eq_true (Nat.lt_trans hu hv), Bool.true_and] at this; exact this) hM)
      have HF := Lib.hid hst
      have CL := Lib.hid (wsLay hw HE.out HL.out HN.out hK hv hr2)
      have HK := Lib.hid (LayP.snoc hK hv hr2)
      have HO := Lib.hid hout
      have HGK := Lib.hid (And.intro hgk hKl)
      have v0 : (0 : Int) ≤ (v : Int) := by omega
      clear hw hK hout hF hgk hKl hleast hst hr hr2 C0
      go_wp2_with (first
        | (go_at_call 36; go_loud (refine CL.out.mono ?_; rintro e w2 ⟨rfl, k2, o2⟩; have K2 := Lib.hid k2; have O2 := Lib.hid (HO.out.then o2); clear k2 o2))
        | (go_at_call 35; go_loud (refine (K2.out.ready (HT.out.out O2.out HG.out) HN.out (Nat.zero_le n)).mono ?_; rintro e w3 ⟨rfl, o3, ho3, rfl⟩; have O3 := Lib.hid ho3; clear ho3)))
      go_roundg (gk - 1)
      case measure => have := HGK.out; omega
      case rel => exact ⟨K ++ [v], o3, rfl, O3.out, K2.out, HK.out, O2.out, HF.out, by have := HGK.out; rw [List.length_append, List.length_singleton]; omega⟩
set_option maxHeartbeats 16000000 in
theorem wsOrd (h : WkAt w gw gb b2 n ns E L) (hn : n ≤ 4096) (hL : LayP E n L) :
    Calls Tryd.prog 20 #[.pointer (some ⟨gw, 0, none⟩)] w fun e w' => ∃ v, e = .returned v ∧ SO seI w.heap.size w' v L.length (numC (L.map fun r => ns.getD r 0)) ∧ Below w.heap.size w w' := by
  obtain ⟨A, c, An, cn, c0, c1, sl, g0, sn, nl, hcl, hcm⟩ := h.cells
  have hle := hL.le
  obtain ⟨k, hk⟩ : ∃ k, L.length = k := ⟨_, rfl⟩
  rw [hk] at c1 sl
  obtain ⟨w1, mk1, so1, b1, l1⟩ := so_make seI_ok rfl rfl rfl w k (by omega) w.heap.size (Nat.le_refl _)
  have mk1 : (Instr.makeSlice 22 (.int .i64 (k : Int)) (.int .i64 (k : Int))).run Tryd.prog w = .ok (.slice (some ⟨w.heap.size, 0, none⟩) k k) w1 := mk1
  have k4 : (k : Int) ≤ 4096 := by omega
  have y1 := keep_below c1 b1
  have HS := Lib.hid sl
  have HNS := Lib.hid sn
  have B1 := Lib.hid b1
  have S1 := Lib.hid so1
  have HK := Lib.hid hk
  have HNL := Lib.hid nl
  have HLT := Lib.hid hL.lt
  have HC := Lib.hid (And.intro hn hle)
  have X0 := Lib.hid c0
  have X1 := Lib.hid g0
  clear h hn hL hk sl sn so1 b1 l1 hcl hcm hle nl
  go_enter Tryd.func20, Tryd.ntmps20
  go_upto_region 3 with fail
  clear c0 c1 g0 y1
  obtain ⟨Z, hZ⟩ : ∃ Z : List Value, Z = numC (L.map fun r => ns.getD r 0) := ⟨_, rfl⟩
  have HZ := Lib.hid hZ
  have HZL := Lib.hid (show Z.length = k by rw [hZ]; simp [numC, HK.out])
  clear hZ
  go_loopw [17] (fun i wr => ∃ j : Nat, i = .int .i64 (j : Nat) ∧ j ≤ k ∧ SO seI w.heap.size wr (.slice (some ⟨w.heap.size, 0, none⟩) k k) k (Z.take j ++ List.replicate (k - j) (.int .i64 0)) ∧ Below w.heap.size w wr) (fun i _ => k - (intOf i).toNat)
  case atStart => exact ⟨0, rfl, Nat.zero_le _, S1.out, B1.out⟩
  case round =>
    rename World => wr
    obtain ⟨j, rfl, hj, hs, hb⟩ := hrel
    by_cases hlt : j < k
    · obtain ⟨r, hr⟩ : ∃ r, L[j]? = some r := ⟨_, List.getElem?_eq_getElem (by rw [HK.out]; exact hlt)⟩
      have hrn := HLT.out r (List.mem_of_getElem? hr)
      obtain ⟨z, hz⟩ : ∃ z, ns[r]? = some z := ⟨_, List.getElem?_eq_getElem (by rw [HNL.out]; exact hrn)⟩
      obtain ⟨g, o, rfl, u0⟩ := (HS.out.gw hb).num (l := L.map fun (k : Nat) => (k : Int)) (by rw [List.getElem?_map, hr]; rfl)
      obtain ⟨g2, o2, rfl, u1⟩ := (HNS.out.gw hb).num hz
      have d0 := keep_below X0.out hb
      have d1 := keep_below X1.out hb
      have hzj : Z[j]? = some (.int .i64 z) := by
        rw [HZ.out]
        unfold numC
        rw [List.getElem?_map, List.getElem?_map, hr]
        simp [List.getD_eq_getElem?_getD, hz]
      obtain ⟨t0, ht0⟩ : ∃ t, (Z.take j ++ List.replicate (k - j) (Value.int .i64 0))[j]? = some t := ⟨_, List.getElem?_eq_getElem (by rw [List.length_append, List.length_take, List.length_replicate, HZL.out]; omega)⟩
      have f0 : wr.cell? ⟨w.heap.size, j, none⟩ = some t0 := by
        rcases hs.cell1 j with q | q
        · exact q.trans ht0
        · have := (List.getElem?_eq_some_iff.1 ht0).1; omega
      have f1 : wr.frozen? ⟨w.heap.size, j, none⟩ = false := hs.own.frozenAt j
      have hset := hs.set1 j (.int .i64 z) rfl
      rw [fill_set11 hzj HZL.out] at hset
      have hbs : Below w.heap.size w (wr.setCell ⟨w.heap.size, j, none⟩ (.int .i64 z)) := ((Out.of_below hb (fun _ => False)).setCell (p := ⟨w.heap.size, j, none⟩) (.inr (Nat.le_refl _)) (.int .i64 z)).below (Nat.le_refl _) (fun _ _ h => h)
      have i1 : (j : Int) < (k : Int) := by omega
      have rn : (r : Int) < (n : Int) := by omega
      have n4 : (n : Int) ≤ 4096 := by have := HC.out; omega
      have HSET := Lib.hid hset
      have HBS := Lib.hid hbs
      have HJ := Lib.hid hlt
      clear hj hs hb hr hrn hz hzj ht0 hset hbs hlt
      go_wp2
      go_roundw
      case rel => exact ⟨j + 1, by go_num, HJ.out, HSET.out, HBS.out⟩
      case measure => have := HJ.out; simp [intOf]; omega
    · obtain rfl : j = k := by omega
      have i1 : ¬ (j : Int) < (j : Int) := by omega
      rw [Nat.sub_self, List.replicate_zero, List.append_nil, List.take_of_length_le (by rw [HZL.out]; exact Nat.le_refl _), HZ.out] at hs
      have S := Lib.hid hs
      have B := Lib.hid hb
      clear hj hlt hs hb
      go_wp2
      go_ret
      exact ⟨_, rfl, by rw [HK.out]; exact S.out, B.out⟩
end
end Go.Proofs.YtnpeankmmojebaaDoor
