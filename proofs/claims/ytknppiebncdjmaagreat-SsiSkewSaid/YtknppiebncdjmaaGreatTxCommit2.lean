/- Layer 10: Commit: no room to keep it; done. (Written by wip/gen/mkcommit.py.) -/
import Derived.Test.YtknppiebncdjmaaGreatJAV
set_option linter.unusedVariables false
namespace Go.Proofs.YtknppiebncdjmaaGreat
set_option maxRecDepth 100000
open Go.RowKit Go.Maps Go.ChangeMaps Go.MapKept

theorem Mem10.wideOut {M : MF} {w : World} {b ab kb fb lm lr rr : Nat} {GR : Nat → Prop} {c : Cp10} {P : Pg} (I : Api9 M) (h : Mem10 M w b ab kb fb lm lr rr GR c P) {w2 w3 : World} (b2 : Below w.heap.size w w2) {k : KpR} (hk : KpOk w2 k) (hg : ∀ g, BlV k.val g → w.heap.size ≤ g) (o : Out (BlG b ab kb fb lr GR) w2 w3) : KpOk w3 k ∧ ∀ g, BlV k.val g → g ∉ [b, ab, kb, fb, lr] ∧ ¬ GR g := by
  have hl := (h.lt I).1
  refine ⟨hk.kept (fun g hgg => o.block g (hk.lt g hgg) fun hb => ?_) o.size, fun g hgg => ⟨fun hm => ?_, fun hm => ?_⟩⟩
  · have := hl g hb; have := hg g hgg; omega
  · have := hl g (.inl hm); have := hg g hgg; omega
  · have := hl g (.inr hm); have := hg g hgg; omega
section
variable {M : MF} {w : World} {b ab kb fb lm lr rr : Nat} {GR : Nat → Prop} {c : Cp10} {P : Pg}
set_option maxHeartbeats 16000000 in
theorem wxCommit2 (I : Api9 M) (h : Mem10 M w b ab kb fb lm lr rr GR c P) (hc : PgOk c P) {tx : Int} (hx : (Lit.int .i64 tx).wf = true) (ha : isAct P tx = true) (hbo : bothF (flgOf P tx) = false) (hke : keepsG P tx = true) (hfu : c.kept ≤ (P.kep.length : Int)) :
    Calls Tryz.prog 32 #[.pointer (some ⟨b, 0, none⟩), .int .i64 tx] w fun e w' => e = .returned (.tuple #[.int .i64 0, .int .i64 4]) ∧ LeftG M w w' b ab kb fb lm lr rr GR c (abortG P tx) := by
  have CR := Lib.hid (wxRef h hc hx)
  unfold refG at CR
  rw [ha] at CR
  obtain ⟨-, -, -, -, -, -, c6, c7, c8, c9, c10⟩ := h.cells
  have CH := Lib.hid (wkHeld h.lok tx)
  have CT := Lib.hid (fun (w1 : World) (m : Mem10 M w1 b ab kb fb lm lr rr GR c P) => I.txns m.rds)
  have CA := Lib.hid (fun (w1 : World) (m : Mem10 M w1 b ab kb fb lm lr rr GR c P) => wxAbort I m hc hx)
  have KC := Lib.hid (show ∀ w1, Mem10 M w1 b ab kb fb lm lr rr GR c P → w1.cell? ⟨b, 6, none⟩ = some (.map (some ab)) ∧ w1.cell? ⟨b, 8, none⟩ = some (.map (some fb)) ∧ w1.cell? ⟨b, 10, none⟩ = some (.pointer (some ⟨rr, 0, none⟩)) from fun w1 m => ⟨m.cells.2.2.2.2.2.2.1, m.cells.2.2.2.2.2.2.2.2.1, m.cells.2.2.2.2.2.2.2.2.2.2⟩)
  have QF := Lib.hid (fun (w1 : World) (m : Mem10 M w1 b ab kb fb lm lr rr GR c P) => show (Instr.lookup 88 (.map (some fb)) (.int .i64 tx) false).run Tryz.prog w1 = .ok (.agg #[.bool (flgOf P tx).1, .bool (flgOf P tx).2]) w1 from look_flg m.flg hx)
  have CB := Lib.hid (fun W => show Calls Tryz.prog 79 #[.agg #[.bool (flgOf P tx).1, .bool (flgOf P tx).2]] W fun e w' => e = .returned (.bool false) ∧ Below W.heap.size W w' from by rw [← hbo]; exact wxBoth W _ _)
  obtain ⟨na, hna⟩ : ∃ n, (actM P.act).length = n := ⟨_, rfl⟩
  have hna2 : P.act.length = na := by rw [← hna]; exact (enc_len _ _).symm
  have HNA := Lib.hid hna
  obtain ⟨nh, hnh⟩ : ∃ n, (heldP P.H tx).length = n := ⟨_, rfl⟩
  obtain ⟨nk, hnk⟩ : ∃ n, P.kep.length = n := ⟨_, rfl⟩
  have QN := Lib.hid (fun (w1 : World) (m : Mem10 M w1 b ab kb fb lm lr rr GR c P) => show ∀ ty, (Builtin.len_ #[87] ty #[.map (some kb)]).run Tryz.prog w1 = .ok (.int .i64 (nk : Nat)) w1 from fun ty => by rw [← hnk]; exact kep_len m ty)
  have HTL := Lib.hid (show (txP P.L fun _ => true).length ≤ 10000000 by
    have h1 := tx_len (L := P.L) (f := fun _ => true)
    have h2 := I.inv h.rds
    have h3 := h2.1.cap
    have h4 := h2.2.2.2
    omega)
  have HM := Lib.hid h
  have HC := Lib.hid hc
  have HX := Lib.hid hx
  obtain ⟨qt, hqt⟩ : ∃ q, decide (tx ∈ txP P.L fun _ => true) = q := ⟨_, rfl⟩
  have CN := Lib.hid (fun (W : World) (A : Option Addr) (d : Nat) (h1 : SB W A (txP P.L fun _ => true).length (numC (txP P.L fun _ => true))) => show Calls Tryz.prog 78 #[.slice A (txP P.L fun _ => true).length d, .int .i64 tx] W fun e w' => e = .returned (.bool qt) ∧ Below W.heap.size W w' from by rw [← hqt]; exact wcontainsN h1 HTL.out tx)
  have HKQ : keepsG P tx = (decide (1 < na) && (decide (0 < nh) || qt)) := by unfold keepsG; rw [hna2, hnh, hqt]
  rw [hnh] at CH
  rw [hke] at HKQ
  have i9 : (nk : Int) ≥ c.kept := by rw [← hnk]; exact hfu
  clear h hc hx ha hbo hke hfu hna hna2 hnh hnk hqt
  cases h2 : decide (1 < na) with
  | false => rw [h2] at HKQ; cases HKQ
  | true =>
    have i2 : (1 : Int) < (na : Int) := by have : 1 < na := (by simpa using h2); omega
    cases h1 : decide (0 < nh) with
    | true =>
      have i1 : (0 : Int) < (nh : Int) := by have : 0 < nh := (by simpa using h1); omega
      clear h1 h2 HKQ
      go_enter Tryz.func32, Tryz.ntmps32
      go_upto_region 10 with (first
      | (go_at_call 48; go_loud (refine CR.out.mono ?_; rintro e w1 ⟨rfl, hw⟩; replace hw := hw.symm; subst hw))
      | (go_at_call 77; go_loud (refine CH.out.mono ?_; rintro e w2 ⟨v, rfl, o2, b2⟩; have M2 := Lib.hid (HM.out.below I b2); have B2 := Lib.hid b2; obtain ⟨c6, c8, c10⟩ := KC.out _ M2.out; have qF := QF.out _ M2.out; have o2k := o2; obtain ⟨A, d, rfl, -, -, -, -⟩ := o2.form; have O2 := Lib.hid o2k; clear o2 o2k b2))
      | (at_len; (refine wp_lenN KI HNA.out (by rfl) (.tmp 29) (by rfl) (by rfl) M2.out.act Tryz.underlying86 ?_))
      | (go_at_call 45; go_loud (refine (CT.out _ M2.out).mono ?_; rintro e w3 ⟨v3, rfl, o3, b3⟩; obtain ⟨A3, d3, rfl, sb3, hn3, hm3, ha3⟩ := o3.form; have B3 := Lib.hid b3; have M3 := Lib.hid (M2.out.below I b3); obtain ⟨c6, c8, c10⟩ := KC.out _ M3.out; have qF := QF.out _ M3.out; have CC := Lib.hid (CN.out _ A3 d3 (by rw [show seN.s = 1 from rfl, Nat.one_mul] at sb3; exact sb3)); clear o3 b3 sb3 hn3 hm3 ha3))
      | (go_at_call 78; go_loud (refine CC.out.mono ?_; rintro e w4 ⟨rfl, b4⟩; have B4 := Lib.hid (below_next B3.out b4); have M4 := Lib.hid (M3.out.below I b4); obtain ⟨c6, c8, c10⟩ := KC.out _ M4.out; have qF := QF.out _ M4.out; clear b4))
      | (go_at_call 79; go_loud (refine (CB.out _).mono ?_; rintro e w5 ⟨rfl, b5⟩; have B5 := Lib.hid (show Below w2.heap.size w2 w5 by first | exact below_next B4.out b5 | exact b5); clear b5)))
      have M5 := Lib.hid (M2.out.below I B5.out)
      have qN := QN.out _ (M5.out.below I (Below.refl w5.heap.size w5).drew)
      obtain ⟨k0, k1, k2, k3, k4, k5, k6, k7, k8, k9, k10⟩ := M5.out.cells
      have AB := Lib.hid (CA.out _ (M5.out.below I (Below.refl w5.heap.size w5).drew))
      go_region
      go_wp2_with (go_at_call 52; go_loud (refine AB.out.mono ?_; rintro e w6 ⟨rfl, l6⟩; have L6 := Lib.hid (show LeftG M w5.drew w6 b ab kb fb lm lr rr GR c (abortG P tx) from l6); clear l6))
      refine bodyPost_ret (v := .tuple #[.int .i64 0, .int .i64 4]) (by simp [results, Tryz.results32, go_sem]) rfl ⟨rfl, L6.out.after (below_next B2.out (below_next B5.out (Below.refl w5.heap.size w5).drew))⟩
    | false =>
      have i1 : ¬ (0 : Int) < (nh : Int) := by have : ¬ 0 < nh := (by simpa using h1); omega
      have hq : qt = true := by rw [h1, h2] at HKQ; simpa using HKQ.symm
      subst hq
      clear h1 h2 HKQ
      go_enter Tryz.func32, Tryz.ntmps32
      go_upto_region 10 with (first
      | (go_at_call 48; go_loud (refine CR.out.mono ?_; rintro e w1 ⟨rfl, hw⟩; replace hw := hw.symm; subst hw))
      | (go_at_call 77; go_loud (refine CH.out.mono ?_; rintro e w2 ⟨v, rfl, o2, b2⟩; have M2 := Lib.hid (HM.out.below I b2); have B2 := Lib.hid b2; obtain ⟨c6, c8, c10⟩ := KC.out _ M2.out; have qF := QF.out _ M2.out; have o2k := o2; obtain ⟨A, d, rfl, -, -, -, -⟩ := o2.form; have O2 := Lib.hid o2k; clear o2 o2k b2))
      | (at_len; (refine wp_lenN KI HNA.out (by rfl) (.tmp 29) (by rfl) (by rfl) M2.out.act Tryz.underlying86 ?_))
      | (go_at_call 45; go_loud (refine (CT.out _ M2.out).mono ?_; rintro e w3 ⟨v3, rfl, o3, b3⟩; obtain ⟨A3, d3, rfl, sb3, hn3, hm3, ha3⟩ := o3.form; have B3 := Lib.hid b3; have M3 := Lib.hid (M2.out.below I b3); obtain ⟨c6, c8, c10⟩ := KC.out _ M3.out; have qF := QF.out _ M3.out; have CC := Lib.hid (CN.out _ A3 d3 (by rw [show seN.s = 1 from rfl, Nat.one_mul] at sb3; exact sb3)); clear o3 b3 sb3 hn3 hm3 ha3))
      | (go_at_call 78; go_loud (refine CC.out.mono ?_; rintro e w4 ⟨rfl, b4⟩; have B4 := Lib.hid (below_next B3.out b4); have M4 := Lib.hid (M3.out.below I b4); obtain ⟨c6, c8, c10⟩ := KC.out _ M4.out; have qF := QF.out _ M4.out; clear b4))
      | (go_at_call 79; go_loud (refine (CB.out _).mono ?_; rintro e w5 ⟨rfl, b5⟩; have B5 := Lib.hid (show Below w2.heap.size w2 w5 by first | exact below_next B4.out b5 | exact b5); clear b5)))
      have M5 := Lib.hid (M2.out.below I B5.out)
      have qN := QN.out _ (M5.out.below I (Below.refl w5.heap.size w5).drew)
      obtain ⟨k0, k1, k2, k3, k4, k5, k6, k7, k8, k9, k10⟩ := M5.out.cells
      have AB := Lib.hid (CA.out _ (M5.out.below I (Below.refl w5.heap.size w5).drew))
      go_region
      go_wp2_with (go_at_call 52; go_loud (refine AB.out.mono ?_; rintro e w6 ⟨rfl, l6⟩; have L6 := Lib.hid (show LeftG M w5.drew w6 b ab kb fb lm lr rr GR c (abortG P tx) from l6); clear l6))
      refine bodyPost_ret (v := .tuple #[.int .i64 0, .int .i64 4]) (by simp [results, Tryz.results32, go_sem]) rfl ⟨rfl, L6.out.after (below_next B2.out (below_next B5.out (Below.refl w5.heap.size w5).drew))⟩
theorem kp_of_so {H : List Hd} {tx u : Int} {base n : Nat} {w : World} {v : Value} (ho : Once H) (hl : H.length ≤ 4096) (hn : (heldP H tx).length = n) (h : SO seL base w v n (cellsL (heldP H tx))) (hu : 0 ≤ u ∧ u ≤ 1000000000000000000) : KpOk w ⟨v, heldP H tx, u⟩ := by
  obtain ⟨A, c, rfl, h1, h2, h3, -⟩ := h.form
  refine ⟨⟨A, c, by rw [hn], by rw [hn]; exact h1, by rw [hn]; exact h2, h3⟩, fun g hg => (h.bl g hg).2, ?_, (held_is ho tx).1, hu⟩
  have := held_len H tx
  show (heldP H tx).length ≤ 4096
  omega
theorem gone1_kep (P : Pg) (tx : Int) : (gone1 P tx).kep = P.kep ∧ (gone1 P tx).begun = P.begun ∧ (gone1 P tx).act = P.act ∧ (gone1 P tx).flg = P.flg := by unfold gone1; split <;> exact ⟨rfl, rfl, rfl, rfl⟩
theorem gone2_now (P : Pg) (tx : Int) (v : Value) : (gone2 P tx v).now = (gone1 P tx).now := by unfold gone2; split <;> rfl
theorem end_now (P : Pg) (tx : Int) : (endG P tx).now = P.now := rfl
theorem gone2_ok {c : Cp10} {P : Pg} {tx : Int} (hc : PgOk c P) (hn : P.now + 1 ≤ 2000000000000000000) (ha : isAct P tx = true) (hf : keepsG P tx = true → (P.kep.length : Int) < c.kept) (v : Value) : PgOk c (gone2 P tx v) := by
  obtain ⟨e1, e2, e3, e4⟩ := gone1_kep P tx
  have hnow : P.now ≤ (gone1 P tx).now ∧ (gone1 P tx).now ≤ P.now + 1 := by
    unfold gone1
    split
    · exact ⟨by show P.now ≤ P.now + 1; omega, by show P.now + 1 ≤ P.now + 1; omega⟩
    · exact ⟨Int.le_refl _, by omega⟩
  have hw := hc.nw
  have hax : ∃ s, (tx, s) ∈ P.act := by
    unfold isAct at ha
    obtain ⟨s, hs⟩ := Option.isSome_iff_exists.1 ha
    exact ⟨s, getA_mem hs⟩
  unfold gone2
  split
  · rename_i hk
    have h1 := hf hk
    refine ⟨hc.ca, hc.ck, by show ((gone1 P tx).act.length : Int) ≤ _; rw [e3]; exact hc.na, ?_, by show (gone1 P tx).flg.length ≤ _; rw [e4]; exact hc.nf, by show 0 ≤ (gone1 P tx).begun ∧ (gone1 P tx).begun ≤ _; rw [e2]; exact hc.bg, by show 0 ≤ (gone1 P tx).now ∧ (gone1 P tx).now ≤ _; omega, fun p hp => ?_, fun p hp => ?_, fun p hp => ?_⟩
    · have := put_lenA (l := P.kep) tx (⟨v, heldP P.H tx, P.begun⟩ : KpR)
      show ((putA P.kep tx _).length : Int) ≤ _
      omega
    · have hp : p ∈ (gone1 P tx).act := hp
      rw [e3] at hp
      obtain ⟨a, b, c', d⟩ := hc.ax p hp
      exact ⟨a, by show p.1 ≤ (gone1 P tx).begun; rw [e2]; exact b, c', by show p.2 ≤ (gone1 P tx).now; omega⟩
    · obtain ⟨p1, p2⟩ := p
      show 1 ≤ p1 ∧ p1 ≤ (gone1 P tx).begun
      rw [e2]
      rcases mem_putA.1 (show (p1, p2) ∈ putA P.kep tx _ from hp) with ⟨h2, -⟩ | ⟨h2, -⟩
      · exact hc.kx (p1, p2) h2
      · obtain ⟨s, hs⟩ := hax
        rw [h2]
        exact ⟨(hc.ax _ hs).1, (hc.ax _ hs).2.1⟩
    · have hp : p ∈ (gone1 P tx).flg := hp
      rw [e4] at hp
      show 1 ≤ p.1 ∧ p.1 ≤ (gone1 P tx).begun
      rw [e2]
      exact hc.fx p hp
  · refine ⟨hc.ca, hc.ck, by show ((gone1 P tx).act.length : Int) ≤ _; rw [e3]; exact hc.na, by show ((gone1 P tx).kep.length : Int) ≤ _; rw [e1]; exact hc.nk, ?_, by show 0 ≤ (gone1 P tx).begun ∧ (gone1 P tx).begun ≤ _; rw [e2]; exact hc.bg, by show 0 ≤ (gone1 P tx).now ∧ (gone1 P tx).now ≤ _; omega, fun p hp => ?_, fun p hp => ?_, fun p hp => ?_⟩
    · show (delA (gone1 P tx).flg tx).length ≤ _
      rw [e4]
      exact Nat.le_trans (del_lenA tx) hc.nf
    · have hp : p ∈ (gone1 P tx).act := hp
      rw [e3] at hp
      obtain ⟨a, b, c', d⟩ := hc.ax p hp
      exact ⟨a, by show p.1 ≤ (gone1 P tx).begun; rw [e2]; exact b, c', by show p.2 ≤ (gone1 P tx).now; omega⟩
    · have hp : p ∈ (gone1 P tx).kep := hp
      rw [e1] at hp
      show 1 ≤ p.1 ∧ p.1 ≤ (gone1 P tx).begun
      rw [e2]
      exact hc.kx p hp
    · have hp : p ∈ delA (gone1 P tx).flg tx := hp
      obtain ⟨p1, p2⟩ := p
      have hp := (mem_delA.1 hp).1
      rw [e4] at hp
      show 1 ≤ p1 ∧ p1 ≤ (gone1 P tx).begun
      rw [e2]
      exact hc.fx (p1, p2) hp
set_option maxHeartbeats 32000000 in
theorem wxCommit3 (I : Api9 M) (h : Mem10 M w b ab kb fb lm lr rr GR c P) (hc : PgOk c P) {tx : Int} (hx : (Lit.int .i64 tx).wf = true) (ha : isAct P tx = true) (hbo : bothF (flgOf P tx) = false) (hfu : keepsG P tx = true → (P.kep.length : Int) < c.kept) (hnn : P.now + 1 ≤ 2000000000000000000) :
    Calls Tryz.prog 32 #[.pointer (some ⟨b, 0, none⟩), .int .i64 tx] w fun e w' => e = .returned (.tuple #[.int .i64 (gone1 P tx).now, .int .i64 0]) ∧ ∃ v, (∀ g, BlV v g → w.heap.size ≤ g) ∧ LeftB M w w' b ab kb fb lm lr rr GR c (endG (gone2 P tx v) tx) := by
  have CR := Lib.hid (wxRef h hc hx)
  unfold refG at CR
  rw [ha] at CR
  obtain ⟨-, -, -, -, -, -, c6, c7, c8, c9, c10⟩ := h.cells
  have CH := Lib.hid (wkHeld h.lok tx)
  have CT := Lib.hid (fun (w1 : World) (m : Mem10 M w1 b ab kb fb lm lr rr GR c P) => I.txns m.rds)
  have CA := Lib.hid (fun (w1 : World) (m : Mem10 M w1 b ab kb fb lm lr rr GR c P) => wxAbort I m hc hx)
  have KC := Lib.hid (show ∀ w1, Mem10 M w1 b ab kb fb lm lr rr GR c P → w1.cell? ⟨b, 6, none⟩ = some (.map (some ab)) ∧ w1.cell? ⟨b, 8, none⟩ = some (.map (some fb)) ∧ w1.cell? ⟨b, 10, none⟩ = some (.pointer (some ⟨rr, 0, none⟩)) from fun w1 m => ⟨m.cells.2.2.2.2.2.2.1, m.cells.2.2.2.2.2.2.2.2.1, m.cells.2.2.2.2.2.2.2.2.2.2⟩)
  have QF := Lib.hid (fun (w1 : World) (m : Mem10 M w1 b ab kb fb lm lr rr GR c P) => show (Instr.lookup 88 (.map (some fb)) (.int .i64 tx) false).run Tryz.prog w1 = .ok (.agg #[.bool (flgOf P tx).1, .bool (flgOf P tx).2]) w1 from look_flg m.flg hx)
  have CB := Lib.hid (fun W => show Calls Tryz.prog 79 #[.agg #[.bool (flgOf P tx).1, .bool (flgOf P tx).2]] W fun e w' => e = .returned (.bool false) ∧ Below W.heap.size W w' from by rw [← hbo]; exact wxBoth W _ _)
  obtain ⟨na, hna⟩ : ∃ n, (actM P.act).length = n := ⟨_, rfl⟩
  have hna2 : P.act.length = na := by rw [← hna]; exact (enc_len _ _).symm
  have HNA := Lib.hid hna
  obtain ⟨nh, hnh⟩ : ∃ n, (heldP P.H tx).length = n := ⟨_, rfl⟩
  obtain ⟨nk, hnk⟩ : ∃ n, P.kep.length = n := ⟨_, rfl⟩
  have QN := Lib.hid (fun (w1 : World) (m : Mem10 M w1 b ab kb fb lm lr rr GR c P) => show ∀ ty, (Builtin.len_ #[87] ty #[.map (some kb)]).run Tryz.prog w1 = .ok (.int .i64 (nk : Nat)) w1 from fun ty => by rw [← hnk]; exact kep_len m ty)
  have HTL := Lib.hid (show (txP P.L fun _ => true).length ≤ 10000000 by
    have h1 := tx_len (L := P.L) (f := fun _ => true)
    have h2 := I.inv h.rds
    have h3 := h2.1.cap
    have h4 := h2.2.2.2
    omega)
  have HM := Lib.hid h
  have HC := Lib.hid hc
  have HX := Lib.hid hx
  obtain ⟨qt, hqt⟩ : ∃ q, decide (tx ∈ txP P.L fun _ => true) = q := ⟨_, rfl⟩
  have CN := Lib.hid (fun (W : World) (A : Option Addr) (d : Nat) (h1 : SB W A (txP P.L fun _ => true).length (numC (txP P.L fun _ => true))) => show Calls Tryz.prog 78 #[.slice A (txP P.L fun _ => true).length d, .int .i64 tx] W fun e w' => e = .returned (.bool qt) ∧ Below W.heap.size W w' from by rw [← hqt]; exact wcontainsN h1 HTL.out tx)
  have HKQ : keepsG P tx = (decide (1 < na) && (decide (0 < nh) || qt)) := by unfold keepsG; rw [hna2, hnh, hqt]
  rw [hnh] at CH
  have HNH := Lib.hid hnh
  have HNK := Lib.hid hnk
  have HKL := Lib.hid (show nk ≤ 1024 by have := hc.nk; have := hc.ck; omega)
  have HNN := Lib.hid hnn
  have HAA := Lib.hid ha
  have HFU := Lib.hid hfu
  have HLK := Lib.hid h.lok.map.once
  have HHL := Lib.hid (show P.H.length ≤ 4096 by have := h.lok.len; have := h.lok.m2; omega)
  obtain ⟨nw, hnw⟩ : ∃ n, P.now = n := ⟨_, rfl⟩
  have i3 : 0 ≤ nw ∧ nw + 1 ≤ 2000000000000000000 := by rw [← hnw]; exact ⟨hc.nw.1, hnn⟩
  obtain ⟨i3, i4⟩ := i3
  have i5 : (nw == 9223372036854775807) = false := by have : nw ≠ 9223372036854775807 := (by omega); simpa using this
  have HNW := Lib.hid hnw
  have HBGR := Lib.hid hc.bg
  have hfu2 : keepsG P tx = true → ¬ (nk : Int) ≥ c.kept := fun e => by have := hfu e; rw [hnk] at this; omega
  clear h hc hx ha hbo hna hna2 hnh hnk hqt hnw hnn hfu
  cases h2 : decide (1 < na) with
  | false =>
    have i2 : ¬ (1 : Int) < (na : Int) := by have : ¬ 1 < na := (by simpa using h2); omega
    have hke : keepsG P tx = false := by rw [HKQ, h2]; rfl
    have HKE := Lib.hid hke
    cases h1 : decide (0 < nh) with
    | true =>
      have i1 : (0 : Int) < (nh : Int) := by have : 0 < nh := (by simpa using h1); omega
      have HI1 := Lib.hid i1
      clear h1 h2 HKQ hke hfu2
      go_enter Tryz.func32, Tryz.ntmps32
      go_upto_region 10 with (first
      | (go_at_call 48; go_loud (refine CR.out.mono ?_; rintro e w1 ⟨rfl, hw⟩; replace hw := hw.symm; subst hw))
      | (go_at_call 77; go_loud (refine CH.out.mono ?_; rintro e w2 ⟨v, rfl, o2, b2⟩; have M2 := Lib.hid (HM.out.below I b2); have B2 := Lib.hid b2; obtain ⟨c6, c8, c10⟩ := KC.out _ M2.out; have qF := QF.out _ M2.out; have o2k := o2; obtain ⟨A, d, rfl, -, -, -, -⟩ := o2.form; have O2 := Lib.hid o2k; clear o2 o2k b2))
      | (at_len; (refine wp_lenN KI HNA.out (by rfl) (.tmp 29) (by rfl) (by rfl) M2.out.act Tryz.underlying86 ?_))
      | (go_at_call 45; go_loud (refine (CT.out _ M2.out).mono ?_; rintro e w3 ⟨v3, rfl, o3, b3⟩; obtain ⟨A3, d3, rfl, sb3, hn3, hm3, ha3⟩ := o3.form; have B3 := Lib.hid b3; have M3 := Lib.hid (M2.out.below I b3); obtain ⟨c6, c8, c10⟩ := KC.out _ M3.out; have qF := QF.out _ M3.out; have CC := Lib.hid (CN.out _ A3 d3 (by rw [show seN.s = 1 from rfl, Nat.one_mul] at sb3; exact sb3)); clear o3 b3 sb3 hn3 hm3 ha3))
      | (go_at_call 78; go_loud (refine CC.out.mono ?_; rintro e w4 ⟨rfl, b4⟩; have B4 := Lib.hid (below_next B3.out b4); have M4 := Lib.hid (M3.out.below I b4); obtain ⟨c6, c8, c10⟩ := KC.out _ M4.out; have qF := QF.out _ M4.out; clear b4))
      | (go_at_call 79; go_loud (refine (CB.out _).mono ?_; rintro e w5 ⟨rfl, b5⟩; have B5 := Lib.hid (show Below w2.heap.size w2 w5 by first | exact below_next B4.out b5 | exact b5); clear b5)))
      have M5 := Lib.hid (M2.out.below I B5.out)
      have MD := Lib.hid (M5.out.below I (Below.refl w5.heap.size w5).drew)
      have qN := QN.out _ MD.out
      obtain ⟨k0, k1, k2, k3, k4, k5, k6, k7, k8, k9, k10⟩ := M5.out.cells
      rw [HNW.out] at k4
      have KP := Lib.hid (fun u => (kp_of_so (u := u) HLK.out HHL.out HNH.out O2.out))
      have BL := Lib.hid O2.out.bl
      go_region
      have fz : w5.frozen? ⟨b, 4, none⟩ = false := frozen_of_row _ _ _ _ _ M5.out.blk
      obtain ⟨V, hV⟩ : ∃ V, (w5.setCell ⟨b, 4, none⟩ (.int .i64 (nw + 1))).drew = V := ⟨_, rfl⟩
      have mv : Mem10 M V b ab kb fb lm lr rr GR c { P with now := nw + 1 } := by rw [← hV]; exact (M5.out.putNow I (nw + 1)).below I (Below.refl _ _).drew
      have OV := Lib.hid (show Out (BlG b ab kb fb lr GR) w2 V by rw [← hV]; exact ((Out.of_below B5.out _).then (Out.setCell (F := BlG b ab kb fb lr GR) (Out.refl _ w5) (.inl (.inl (by simp))) _)).drew)
      have MV := Lib.hid mv
      obtain ⟨-, -, -, -, -, v5, v6, v7, v8, v9, v10⟩ := mv.cells
      have CRL := Lib.hid (wkRelease mv.lok tx)
      obtain ⟨q, hq⟩ : ∃ q : Int, ((({ P with now := nw + 1 } : Pg).H.length : Int) - ((releaseP ({ P with now := nw + 1 } : Pg).H tx).length : Int)) = q := ⟨_, rfl⟩
      rw [hq] at CRL
      have HV := Lib.hid hV
      clear mv hV hq
      go_upto_region 16 with fail
      rw [HV.out]
      clear fz k0 k1 k2 k3 k4 k5 k6 k7 k8 k9 k10
      go_upto_region 19 with (go_at_call 80; go_loud (refine CRL.out.mono ?_; rintro e w6 ⟨rfl, l6, o6⟩; have M6 := Lib.hid (MV.out.setLok I o6 l6); have O6 := Lib.hid (OV.out.then (o6.mono fun k _ e => .inl (by simp [show k = lr from e]))); clear l6 o6))
      have PE := Lib.hid (show ({ P with now := nw + 1, H := releaseP P.H tx } : Pg) = gone1 P tx by unfold gone1; rw [HNH.out, if_pos (by have := HI1.out; omega), HNW.out])
      have M7 := Lib.hid (show Mem10 M w6 b ab kb fb lm lr rr GR c (gone1 P tx) by rw [← PE.out]; exact M6.out)
      have GK := Lib.hid (gone1_kep P tx)
      obtain ⟨-, -, -, -, y4, y5, y6, y7, y8, y9, y10⟩ := M7.out.cells
      rw [GK.out.2.1] at y5
      have CF := Lib.hid (wxForget I M7.out HX.out)
      go_upto_region 20 with (go_at_call 81; go_loud (refine CF.out.mono ?_; rintro e w7 ⟨rfl, GR7, m7, g7, o7⟩; have M8 := Lib.hid (show Mem10 M w7 b ab kb fb lm lr rr GR7 c (gone2 P tx (.slice A nh d)) by rw [show gone2 P tx (.slice A nh d) = forgetG (gone1 P tx) tx by unfold gone2; rw [if_neg (by rw [HKE.out]; simp)]]; exact m7); have G7 := Lib.hid g7; have O7 := Lib.hid (O6.out.then (o7.mono fun k _ e => e.elim (fun e => .inl (by simp [e])) fun e => .inr e)); clear m7 g7 o7))
      have CE := Lib.hid (wxEnd I M8.out (gone2_ok HC.out HNN.out HAA.out HFU.out (.slice A nh d)) HX.out)
      go_wp2_with (go_at_call 82; go_loud (refine CE.out.mono ?_; rintro e w8 ⟨rfl, GR8, m8, g8, o8⟩; have z4 := m8.cells.2.2.2.2.1; have M9 := Lib.hid m8; have G8 := Lib.hid g8; have O8 := Lib.hid o8; clear m8 g8 o8))
      refine bodyPost_ret (v := .tuple #[.int .i64 (gone1 P tx).now, .int .i64 0]) (by simp [results, Tryz.results32, go_sem, (gone2_now P tx (.slice A nh d)), (end_now (gone2 P tx (.slice A nh d)) tx)]) rfl ⟨rfl, .slice A nh d, fun g hg => (BL.out g hg).1, GR8, M9.out, ?_, ?_⟩
      · intro k hk
        have h1 := O6.out.size
        have h2 := B2.out.size
        have h3 := O7.out.size
        rcases G8.out k hk with h | h
        · rcases G7.out k h with h | h
          · exact .inl h
          · exact .inr (by omega)
        · exact .inr (by omega)
      · refine (Out.of_below B2.out _).then (O7.out.trans O8.out fun k hk e => ?_) |>.mono fun k _ h => h
        rcases e with e | e | e | e
        · exact .inl (by simp [e])
        · exact .inl (by simp [e])
        · exact .inl (by simp [e])
        · rcases G7.out k e with h | h
          · exact .inr h
          · have h1 := O6.out.size
            omega
    | false =>
      have i0 : nh = 0 := by have : ¬ 0 < nh := (by simpa using h1); omega
      subst i0
      have i1 : ¬ (0 : Int) < ((0 : Nat) : Int) := by simp
      have HI1 := Lib.hid i1
      clear h1 h2 HKQ hke hfu2
      go_enter Tryz.func32, Tryz.ntmps32
      go_upto_region 10 with (first
      | (go_at_call 48; go_loud (refine CR.out.mono ?_; rintro e w1 ⟨rfl, hw⟩; replace hw := hw.symm; subst hw))
      | (go_at_call 77; go_loud (refine CH.out.mono ?_; rintro e w2 ⟨v, rfl, o2, b2⟩; have M2 := Lib.hid (HM.out.below I b2); have B2 := Lib.hid b2; obtain ⟨c6, c8, c10⟩ := KC.out _ M2.out; have qF := QF.out _ M2.out; have o2k := o2; obtain ⟨A, d, rfl, -, -, -, -⟩ := o2.form; have O2 := Lib.hid o2k; clear o2 o2k b2))
      | (at_len; (refine wp_lenN KI HNA.out (by rfl) (.tmp 29) (by rfl) (by rfl) M2.out.act Tryz.underlying86 ?_))
      | (go_at_call 45; go_loud (refine (CT.out _ M2.out).mono ?_; rintro e w3 ⟨v3, rfl, o3, b3⟩; obtain ⟨A3, d3, rfl, sb3, hn3, hm3, ha3⟩ := o3.form; have B3 := Lib.hid b3; have M3 := Lib.hid (M2.out.below I b3); obtain ⟨c6, c8, c10⟩ := KC.out _ M3.out; have qF := QF.out _ M3.out; have CC := Lib.hid (CN.out _ A3 d3 (by rw [show seN.s = 1 from rfl, Nat.one_mul] at sb3; exact sb3)); clear o3 b3 sb3 hn3 hm3 ha3))
      | (go_at_call 78; go_loud (refine CC.out.mono ?_; rintro e w4 ⟨rfl, b4⟩; have B4 := Lib.hid (below_next B3.out b4); have M4 := Lib.hid (M3.out.below I b4); obtain ⟨c6, c8, c10⟩ := KC.out _ M4.out; have qF := QF.out _ M4.out; clear b4))
      | (go_at_call 79; go_loud (refine (CB.out _).mono ?_; rintro e w5 ⟨rfl, b5⟩; have B5 := Lib.hid (show Below w2.heap.size w2 w5 by first | exact below_next B4.out b5 | exact b5); clear b5)))
      have M5 := Lib.hid (M2.out.below I B5.out)
      have MD := Lib.hid (M5.out.below I (Below.refl w5.heap.size w5).drew)
      have qN := QN.out _ MD.out
      obtain ⟨k0, k1, k2, k3, k4, k5, k6, k7, k8, k9, k10⟩ := M5.out.cells
      rw [HNW.out] at k4
      have KP := Lib.hid (fun u => (kp_of_so (u := u) HLK.out HHL.out HNH.out O2.out))
      have BL := Lib.hid O2.out.bl
      go_region
      obtain ⟨w6, hV⟩ : ∃ V, w5.drew = V := ⟨_, rfl⟩
      have M6 := Lib.hid (show Mem10 M w6 b ab kb fb lm lr rr GR c P by rw [← hV]; exact MD.out)
      have O6 := Lib.hid (show Out (BlG b ab kb fb lr GR) w2 w6 by rw [← hV]; exact (Out.of_below B5.out _).drew)
      have HV := Lib.hid hV
      clear hV
      go_upto_region 19 with fail
      try rw [HV.out]
      clear k0 k1 k2 k3 k4 k5 k6 k7 k8 k9 k10
      have PE := Lib.hid (show P = gone1 P tx by unfold gone1; rw [HNH.out, if_neg (by have := HI1.out; omega)])
      have M7 := Lib.hid (show Mem10 M w6 b ab kb fb lm lr rr GR c (gone1 P tx) by rw [← PE.out]; exact M6.out)
      have GK := Lib.hid (gone1_kep P tx)
      obtain ⟨-, -, -, -, y4, y5, y6, y7, y8, y9, y10⟩ := M7.out.cells
      rw [GK.out.2.1] at y5
      have CF := Lib.hid (wxForget I M7.out HX.out)
      go_upto_region 20 with (go_at_call 81; go_loud (refine CF.out.mono ?_; rintro e w7 ⟨rfl, GR7, m7, g7, o7⟩; have M8 := Lib.hid (show Mem10 M w7 b ab kb fb lm lr rr GR7 c (gone2 P tx (.slice A 0 d)) by rw [show gone2 P tx (.slice A 0 d) = forgetG (gone1 P tx) tx by unfold gone2; rw [if_neg (by rw [HKE.out]; simp)]]; exact m7); have G7 := Lib.hid g7; have O7 := Lib.hid (O6.out.then (o7.mono fun k _ e => e.elim (fun e => .inl (by simp [e])) fun e => .inr e)); clear m7 g7 o7))
      have CE := Lib.hid (wxEnd I M8.out (gone2_ok HC.out HNN.out HAA.out HFU.out (.slice A 0 d)) HX.out)
      go_wp2_with (go_at_call 82; go_loud (refine CE.out.mono ?_; rintro e w8 ⟨rfl, GR8, m8, g8, o8⟩; have z4 := m8.cells.2.2.2.2.1; have M9 := Lib.hid m8; have G8 := Lib.hid g8; have O8 := Lib.hid o8; clear m8 g8 o8))
      refine bodyPost_ret (v := .tuple #[.int .i64 (gone1 P tx).now, .int .i64 0]) (by simp [results, Tryz.results32, go_sem, (gone2_now P tx (.slice A 0 d)), (end_now (gone2 P tx (.slice A 0 d)) tx)]) rfl ⟨rfl, .slice A 0 d, fun g hg => (BL.out g hg).1, GR8, M9.out, ?_, ?_⟩
      · intro k hk
        have h1 := O6.out.size
        have h2 := B2.out.size
        have h3 := O7.out.size
        rcases G8.out k hk with h | h
        · rcases G7.out k h with h | h
          · exact .inl h
          · exact .inr (by omega)
        · exact .inr (by omega)
      · refine (Out.of_below B2.out _).then (O7.out.trans O8.out fun k hk e => ?_) |>.mono fun k _ h => h
        rcases e with e | e | e | e
        · exact .inl (by simp [e])
        · exact .inl (by simp [e])
        · exact .inl (by simp [e])
        · rcases G7.out k e with h | h
          · exact .inr h
          · have h1 := O6.out.size
            omega
  | true =>
    have i2 : (1 : Int) < (na : Int) := by have : 1 < na := (by simpa using h2); omega
    cases h1 : decide (0 < nh) with
    | true =>
      have i1 : (0 : Int) < (nh : Int) := by have : 0 < nh := (by simpa using h1); omega
      have HI1 := Lib.hid i1
      have hke : keepsG P tx = true := by rw [HKQ, h2, h1]; rfl
      have i9 := hfu2 hke
      have HKE := Lib.hid hke
      clear h1 h2 HKQ hke hfu2
      go_enter Tryz.func32, Tryz.ntmps32
      go_upto_region 10 with (first
      | (go_at_call 48; go_loud (refine CR.out.mono ?_; rintro e w1 ⟨rfl, hw⟩; replace hw := hw.symm; subst hw))
      | (go_at_call 77; go_loud (refine CH.out.mono ?_; rintro e w2 ⟨v, rfl, o2, b2⟩; have M2 := Lib.hid (HM.out.below I b2); have B2 := Lib.hid b2; obtain ⟨c6, c8, c10⟩ := KC.out _ M2.out; have qF := QF.out _ M2.out; have o2k := o2; obtain ⟨A, d, rfl, -, -, -, -⟩ := o2.form; have O2 := Lib.hid o2k; clear o2 o2k b2))
      | (at_len; (refine wp_lenN KI HNA.out (by rfl) (.tmp 29) (by rfl) (by rfl) M2.out.act Tryz.underlying86 ?_))
      | (go_at_call 45; go_loud (refine (CT.out _ M2.out).mono ?_; rintro e w3 ⟨v3, rfl, o3, b3⟩; obtain ⟨A3, d3, rfl, sb3, hn3, hm3, ha3⟩ := o3.form; have B3 := Lib.hid b3; have M3 := Lib.hid (M2.out.below I b3); obtain ⟨c6, c8, c10⟩ := KC.out _ M3.out; have qF := QF.out _ M3.out; have CC := Lib.hid (CN.out _ A3 d3 (by rw [show seN.s = 1 from rfl, Nat.one_mul] at sb3; exact sb3)); clear o3 b3 sb3 hn3 hm3 ha3))
      | (go_at_call 78; go_loud (refine CC.out.mono ?_; rintro e w4 ⟨rfl, b4⟩; have B4 := Lib.hid (below_next B3.out b4); have M4 := Lib.hid (M3.out.below I b4); obtain ⟨c6, c8, c10⟩ := KC.out _ M4.out; have qF := QF.out _ M4.out; clear b4))
      | (go_at_call 79; go_loud (refine (CB.out _).mono ?_; rintro e w5 ⟨rfl, b5⟩; have B5 := Lib.hid (show Below w2.heap.size w2 w5 by first | exact below_next B4.out b5 | exact b5); clear b5)))
      have M5 := Lib.hid (M2.out.below I B5.out)
      have MD := Lib.hid (M5.out.below I (Below.refl w5.heap.size w5).drew)
      have qN := QN.out _ MD.out
      obtain ⟨k0, k1, k2, k3, k4, k5, k6, k7, k8, k9, k10⟩ := M5.out.cells
      rw [HNW.out] at k4
      have KP := Lib.hid (fun u => (kp_of_so (u := u) HLK.out HHL.out HNH.out O2.out))
      have BL := Lib.hid O2.out.bl
      go_region
      have fz : w5.frozen? ⟨b, 4, none⟩ = false := frozen_of_row _ _ _ _ _ M5.out.blk
      obtain ⟨V, hV⟩ : ∃ V, (w5.setCell ⟨b, 4, none⟩ (.int .i64 (nw + 1))).drew = V := ⟨_, rfl⟩
      have mv : Mem10 M V b ab kb fb lm lr rr GR c { P with now := nw + 1 } := by rw [← hV]; exact (M5.out.putNow I (nw + 1)).below I (Below.refl _ _).drew
      have OV := Lib.hid (show Out (BlG b ab kb fb lr GR) w2 V by rw [← hV]; exact ((Out.of_below B5.out _).then (Out.setCell (F := BlG b ab kb fb lr GR) (Out.refl _ w5) (.inl (.inl (by simp))) _)).drew)
      have MV := Lib.hid mv
      obtain ⟨-, -, -, -, -, v5, v6, v7, v8, v9, v10⟩ := mv.cells
      have CRL := Lib.hid (wkRelease mv.lok tx)
      obtain ⟨q, hq⟩ : ∃ q : Int, ((({ P with now := nw + 1 } : Pg).H.length : Int) - ((releaseP ({ P with now := nw + 1 } : Pg).H tx).length : Int)) = q := ⟨_, rfl⟩
      rw [hq] at CRL
      have HV := Lib.hid hV
      clear mv hV hq
      go_upto_region 16 with fail
      rw [HV.out]
      clear fz k0 k1 k2 k3 k4 k5 k6 k7 k8 k9 k10
      go_upto_region 18 with (go_at_call 80; go_loud (refine CRL.out.mono ?_; rintro e w6 ⟨rfl, l6, o6⟩; have M6 := Lib.hid (MV.out.setLok I o6 l6); have O6 := Lib.hid (OV.out.then (o6.mono fun k _ e => .inl (by simp [show k = lr from e]))); clear l6 o6))
      have PE := Lib.hid (show ({ P with now := nw + 1, H := releaseP P.H tx } : Pg) = gone1 P tx by unfold gone1; rw [HNH.out, if_pos (by have := HI1.out; omega), HNW.out])
      have M7 := Lib.hid (show Mem10 M w6 b ab kb fb lm lr rr GR c (gone1 P tx) by rw [← PE.out]; exact M6.out)
      have GK := Lib.hid (gone1_kep P tx)
      obtain ⟨-, -, -, -, y4, y5, y6, y7, y8, y9, y10⟩ := M7.out.cells
      rw [GK.out.2.1] at y5
      obtain ⟨bg, hbg⟩ : ∃ x, P.begun = x := ⟨_, rfl⟩
      rw [hbg] at y5
      have HBE := Lib.hid hbg
      clear hbg
      have MU := Lib.hid (show Mem10 M w6.drew b ab kb fb lm lr rr GR c (gone1 P tx) from M7.out.below I (Below.refl _ _).drew)
      have OU := Lib.hid (show Out (BlG b ab kb fb lr GR) w2 w6.drew from O6.out.drew)
      go_still_tail 11, (by kernel_rfl)
      go_upto_region 20 with (at_mapUpdate; go_loud (refine wp_putM KI (by rfl) (.tmp 100) (.tmp 101) (.tmp 107) (by rfl) (by rfl) MU.out.kep Tryz.underlying87 tx HX.out (by rfl) (by rw [show (kepM (gone1 P tx).kep).length = (gone1 P tx).kep.length from enc_len _ _, GK.out.1, HNK.out]; have := HKL.out; omega) ?_; intro w7 m7 g7 s7; have MK := Lib.hid m7; have G7 := Lib.hid g7; clear m7 g7 s7))
      have o7 : Out (fun k => k = kb) w6.drew w7 := (Out.refl _ w6.drew).grown G7.out fun k e => .inl (Option.some.inj e).symm
      have kr := KP.out bg (by rw [← HBE.out]; exact HBGR.out)
      have mk : MapM KI w7 kb (kepM (putA (gone1 P tx).kep tx ⟨.slice A nh d, heldP P.H tx, bg⟩)) := by
        have := MK.out
        unfold kepM at this ⊢
        rw [← enc_put pastV]
        exact this
      have O7 := Lib.hid (show Out (BlG b ab kb fb lr GR) w2 w7 from OU.out.then (o7.mono fun k _ e => .inl (by simp [show k = kb from e])))
      have HR := HM.out.wideOut I B2.out kr (fun g hg => (BL.out g hg).1) O7.out
      have m8 := MU.out.setKep I o7 mk (fun p hp => by
        obtain ⟨p1, p2⟩ := p
        rcases mem_putA.1 hp with ⟨h1, -⟩ | ⟨-, h1⟩
        · exact .inl h1
        · rw [show p2 = _ from h1]; exact .inr HR)
      have e8 : ({ gone1 P tx with kep := putA (gone1 P tx).kep tx ⟨.slice A nh d, heldP P.H tx, bg⟩ } : Pg) = gone2 P tx (.slice A nh d) := by unfold gone2; rw [if_pos HKE.out, HBE.out, GK.out.1]
      rw [e8] at m8
      have M8 := Lib.hid m8
      have CE := Lib.hid (wxEnd I m8 (gone2_ok HC.out HNN.out HAA.out HFU.out (.slice A nh d)) HX.out)
      clear o7 kr mk HR m8 e8
      go_wp2_with (go_at_call 82; go_loud (refine CE.out.mono ?_; rintro e w8 ⟨rfl, GR8, m8, g8, o8⟩; have z4 := m8.cells.2.2.2.2.1; have M9 := Lib.hid m8; have G8 := Lib.hid g8; have O8 := Lib.hid o8; clear m8 g8 o8))
      refine bodyPost_ret (v := .tuple #[.int .i64 (gone1 P tx).now, .int .i64 0]) (by simp [results, Tryz.results32, go_sem, (gone2_now P tx (.slice A nh d)), (end_now (gone2 P tx (.slice A nh d)) tx)]) rfl ⟨rfl, .slice A nh d, fun g hg => (BL.out g hg).1, GR8, M9.out, ?_, ?_⟩
      · intro k hk
        rcases G8.out k hk with h | h
        · exact .inl h
        · have h1 := O7.out.size
          have h2 := B2.out.size
          exact .inr (by omega)
      · refine (Out.of_below B2.out _).then (O7.out.trans O8.out fun k hk e => ?_) |>.mono fun k _ h => h
        rcases e with e | e | e | e
        · exact .inl (by simp [e])
        · exact .inl (by simp [e])
        · exact .inl (by simp [e])
        · exact .inr e
    | false =>
      have i0 : nh = 0 := by have : ¬ 0 < nh := (by simpa using h1); omega
      subst i0
      have i1 : ¬ (0 : Int) < ((0 : Nat) : Int) := by simp
      have HI1 := Lib.hid i1
      cases qt with
      | false =>
        have hke : keepsG P tx = false := by rw [HKQ, h2, h1]; rfl
        have HKE := Lib.hid hke
        clear h1 h2 HKQ hke hfu2
        go_enter Tryz.func32, Tryz.ntmps32
        go_upto_region 10 with (first
      | (go_at_call 48; go_loud (refine CR.out.mono ?_; rintro e w1 ⟨rfl, hw⟩; replace hw := hw.symm; subst hw))
      | (go_at_call 77; go_loud (refine CH.out.mono ?_; rintro e w2 ⟨v, rfl, o2, b2⟩; have M2 := Lib.hid (HM.out.below I b2); have B2 := Lib.hid b2; obtain ⟨c6, c8, c10⟩ := KC.out _ M2.out; have qF := QF.out _ M2.out; have o2k := o2; obtain ⟨A, d, rfl, -, -, -, -⟩ := o2.form; have O2 := Lib.hid o2k; clear o2 o2k b2))
      | (at_len; (refine wp_lenN KI HNA.out (by rfl) (.tmp 29) (by rfl) (by rfl) M2.out.act Tryz.underlying86 ?_))
      | (go_at_call 45; go_loud (refine (CT.out _ M2.out).mono ?_; rintro e w3 ⟨v3, rfl, o3, b3⟩; obtain ⟨A3, d3, rfl, sb3, hn3, hm3, ha3⟩ := o3.form; have B3 := Lib.hid b3; have M3 := Lib.hid (M2.out.below I b3); obtain ⟨c6, c8, c10⟩ := KC.out _ M3.out; have qF := QF.out _ M3.out; have CC := Lib.hid (CN.out _ A3 d3 (by rw [show seN.s = 1 from rfl, Nat.one_mul] at sb3; exact sb3)); clear o3 b3 sb3 hn3 hm3 ha3))
      | (go_at_call 78; go_loud (refine CC.out.mono ?_; rintro e w4 ⟨rfl, b4⟩; have B4 := Lib.hid (below_next B3.out b4); have M4 := Lib.hid (M3.out.below I b4); obtain ⟨c6, c8, c10⟩ := KC.out _ M4.out; have qF := QF.out _ M4.out; clear b4))
      | (go_at_call 79; go_loud (refine (CB.out _).mono ?_; rintro e w5 ⟨rfl, b5⟩; have B5 := Lib.hid (show Below w2.heap.size w2 w5 by first | exact below_next B4.out b5 | exact b5); clear b5)))
        have M5 := Lib.hid (M2.out.below I B5.out)
        have MD := Lib.hid (M5.out.below I (Below.refl w5.heap.size w5).drew)
        have qN := QN.out _ MD.out
        obtain ⟨k0, k1, k2, k3, k4, k5, k6, k7, k8, k9, k10⟩ := M5.out.cells
        rw [HNW.out] at k4
        have KP := Lib.hid (fun u => (kp_of_so (u := u) HLK.out HHL.out HNH.out O2.out))
        have BL := Lib.hid O2.out.bl
        go_region
        obtain ⟨w6, hV⟩ : ∃ V, w5.drew = V := ⟨_, rfl⟩
        have M6 := Lib.hid (show Mem10 M w6 b ab kb fb lm lr rr GR c P by rw [← hV]; exact MD.out)
        have O6 := Lib.hid (show Out (BlG b ab kb fb lr GR) w2 w6 by rw [← hV]; exact (Out.of_below B5.out _).drew)
        have HV := Lib.hid hV
        clear hV
        go_upto_region 19 with fail
        try rw [HV.out]
        clear k0 k1 k2 k3 k4 k5 k6 k7 k8 k9 k10
        have PE := Lib.hid (show P = gone1 P tx by unfold gone1; rw [HNH.out, if_neg (by have := HI1.out; omega)])
        have M7 := Lib.hid (show Mem10 M w6 b ab kb fb lm lr rr GR c (gone1 P tx) by rw [← PE.out]; exact M6.out)
        have GK := Lib.hid (gone1_kep P tx)
        obtain ⟨-, -, -, -, y4, y5, y6, y7, y8, y9, y10⟩ := M7.out.cells
        rw [GK.out.2.1] at y5
        have CF := Lib.hid (wxForget I M7.out HX.out)
        go_upto_region 20 with (go_at_call 81; go_loud (refine CF.out.mono ?_; rintro e w7 ⟨rfl, GR7, m7, g7, o7⟩; have M8 := Lib.hid (show Mem10 M w7 b ab kb fb lm lr rr GR7 c (gone2 P tx (.slice A 0 d)) by rw [show gone2 P tx (.slice A 0 d) = forgetG (gone1 P tx) tx by unfold gone2; rw [if_neg (by rw [HKE.out]; simp)]]; exact m7); have G7 := Lib.hid g7; have O7 := Lib.hid (O6.out.then (o7.mono fun k _ e => e.elim (fun e => .inl (by simp [e])) fun e => .inr e)); clear m7 g7 o7))
        have CE := Lib.hid (wxEnd I M8.out (gone2_ok HC.out HNN.out HAA.out HFU.out (.slice A 0 d)) HX.out)
        go_wp2_with (go_at_call 82; go_loud (refine CE.out.mono ?_; rintro e w8 ⟨rfl, GR8, m8, g8, o8⟩; have z4 := m8.cells.2.2.2.2.1; have M9 := Lib.hid m8; have G8 := Lib.hid g8; have O8 := Lib.hid o8; clear m8 g8 o8))
        refine bodyPost_ret (v := .tuple #[.int .i64 (gone1 P tx).now, .int .i64 0]) (by simp [results, Tryz.results32, go_sem, (gone2_now P tx (.slice A 0 d)), (end_now (gone2 P tx (.slice A 0 d)) tx)]) rfl ⟨rfl, .slice A 0 d, fun g hg => (BL.out g hg).1, GR8, M9.out, ?_, ?_⟩
        · intro k hk
          have h1 := O6.out.size
          have h2 := B2.out.size
          have h3 := O7.out.size
          rcases G8.out k hk with h | h
          · rcases G7.out k h with h | h
            · exact .inl h
            · exact .inr (by omega)
          · exact .inr (by omega)
        · refine (Out.of_below B2.out _).then (O7.out.trans O8.out fun k hk e => ?_) |>.mono fun k _ h => h
          rcases e with e | e | e | e
          · exact .inl (by simp [e])
          · exact .inl (by simp [e])
          · exact .inl (by simp [e])
          · rcases G7.out k e with h | h
            · exact .inr h
            · have h1 := O6.out.size
              omega
      | true =>
        have hke : keepsG P tx = true := by rw [HKQ, h2, h1]; rfl
        have i9 := hfu2 hke
        have HKE := Lib.hid hke
        clear h1 h2 HKQ hke hfu2
        go_enter Tryz.func32, Tryz.ntmps32
        go_upto_region 10 with (first
      | (go_at_call 48; go_loud (refine CR.out.mono ?_; rintro e w1 ⟨rfl, hw⟩; replace hw := hw.symm; subst hw))
      | (go_at_call 77; go_loud (refine CH.out.mono ?_; rintro e w2 ⟨v, rfl, o2, b2⟩; have M2 := Lib.hid (HM.out.below I b2); have B2 := Lib.hid b2; obtain ⟨c6, c8, c10⟩ := KC.out _ M2.out; have qF := QF.out _ M2.out; have o2k := o2; obtain ⟨A, d, rfl, -, -, -, -⟩ := o2.form; have O2 := Lib.hid o2k; clear o2 o2k b2))
      | (at_len; (refine wp_lenN KI HNA.out (by rfl) (.tmp 29) (by rfl) (by rfl) M2.out.act Tryz.underlying86 ?_))
      | (go_at_call 45; go_loud (refine (CT.out _ M2.out).mono ?_; rintro e w3 ⟨v3, rfl, o3, b3⟩; obtain ⟨A3, d3, rfl, sb3, hn3, hm3, ha3⟩ := o3.form; have B3 := Lib.hid b3; have M3 := Lib.hid (M2.out.below I b3); obtain ⟨c6, c8, c10⟩ := KC.out _ M3.out; have qF := QF.out _ M3.out; have CC := Lib.hid (CN.out _ A3 d3 (by rw [show seN.s = 1 from rfl, Nat.one_mul] at sb3; exact sb3)); clear o3 b3 sb3 hn3 hm3 ha3))
      | (go_at_call 78; go_loud (refine CC.out.mono ?_; rintro e w4 ⟨rfl, b4⟩; have B4 := Lib.hid (below_next B3.out b4); have M4 := Lib.hid (M3.out.below I b4); obtain ⟨c6, c8, c10⟩ := KC.out _ M4.out; have qF := QF.out _ M4.out; clear b4))
      | (go_at_call 79; go_loud (refine (CB.out _).mono ?_; rintro e w5 ⟨rfl, b5⟩; have B5 := Lib.hid (show Below w2.heap.size w2 w5 by first | exact below_next B4.out b5 | exact b5); clear b5)))
        have M5 := Lib.hid (M2.out.below I B5.out)
        have MD := Lib.hid (M5.out.below I (Below.refl w5.heap.size w5).drew)
        have qN := QN.out _ MD.out
        obtain ⟨k0, k1, k2, k3, k4, k5, k6, k7, k8, k9, k10⟩ := M5.out.cells
        rw [HNW.out] at k4
        have KP := Lib.hid (fun u => (kp_of_so (u := u) HLK.out HHL.out HNH.out O2.out))
        have BL := Lib.hid O2.out.bl
        go_region
        obtain ⟨w6, hV⟩ : ∃ V, w5.drew = V := ⟨_, rfl⟩
        have M6 := Lib.hid (show Mem10 M w6 b ab kb fb lm lr rr GR c P by rw [← hV]; exact MD.out)
        have O6 := Lib.hid (show Out (BlG b ab kb fb lr GR) w2 w6 by rw [← hV]; exact (Out.of_below B5.out _).drew)
        have HV := Lib.hid hV
        clear hV
        go_upto_region 18 with fail
        try rw [HV.out]
        clear k0 k1 k2 k3 k4 k5 k6 k7 k8 k9 k10
        have PE := Lib.hid (show P = gone1 P tx by unfold gone1; rw [HNH.out, if_neg (by have := HI1.out; omega)])
        have M7 := Lib.hid (show Mem10 M w6 b ab kb fb lm lr rr GR c (gone1 P tx) by rw [← PE.out]; exact M6.out)
        have GK := Lib.hid (gone1_kep P tx)
        obtain ⟨-, -, -, -, y4, y5, y6, y7, y8, y9, y10⟩ := M7.out.cells
        rw [GK.out.2.1] at y5
        obtain ⟨bg, hbg⟩ : ∃ x, P.begun = x := ⟨_, rfl⟩
        rw [hbg] at y5
        have HBE := Lib.hid hbg
        clear hbg
        have MU := Lib.hid (show Mem10 M w6.drew b ab kb fb lm lr rr GR c (gone1 P tx) from M7.out.below I (Below.refl _ _).drew)
        have OU := Lib.hid (show Out (BlG b ab kb fb lr GR) w2 w6.drew from O6.out.drew)
        go_still_tail 11, (by kernel_rfl)
        go_upto_region 20 with (at_mapUpdate; go_loud (refine wp_putM KI (by rfl) (.tmp 100) (.tmp 101) (.tmp 107) (by rfl) (by rfl) MU.out.kep Tryz.underlying87 tx HX.out (by rfl) (by rw [show (kepM (gone1 P tx).kep).length = (gone1 P tx).kep.length from enc_len _ _, GK.out.1, HNK.out]; have := HKL.out; omega) ?_; intro w7 m7 g7 s7; have MK := Lib.hid m7; have G7 := Lib.hid g7; clear m7 g7 s7))
        have o7 : Out (fun k => k = kb) w6.drew w7 := (Out.refl _ w6.drew).grown G7.out fun k e => .inl (Option.some.inj e).symm
        have kr := KP.out bg (by rw [← HBE.out]; exact HBGR.out)
        have mk : MapM KI w7 kb (kepM (putA (gone1 P tx).kep tx ⟨.slice A 0 d, heldP P.H tx, bg⟩)) := by
          have := MK.out
          unfold kepM at this ⊢
          rw [← enc_put pastV]
          exact this
        have O7 := Lib.hid (show Out (BlG b ab kb fb lr GR) w2 w7 from OU.out.then (o7.mono fun k _ e => .inl (by simp [show k = kb from e])))
        have HR := HM.out.wideOut I B2.out kr (fun g hg => (BL.out g hg).1) O7.out
        have m8 := MU.out.setKep I o7 mk (fun p hp => by
          obtain ⟨p1, p2⟩ := p
          rcases mem_putA.1 hp with ⟨h1, -⟩ | ⟨-, h1⟩
          · exact .inl h1
          · rw [show p2 = _ from h1]; exact .inr HR)
        have e8 : ({ gone1 P tx with kep := putA (gone1 P tx).kep tx ⟨.slice A 0 d, heldP P.H tx, bg⟩ } : Pg) = gone2 P tx (.slice A 0 d) := by unfold gone2; rw [if_pos HKE.out, HBE.out, GK.out.1]
        rw [e8] at m8
        have M8 := Lib.hid m8
        have CE := Lib.hid (wxEnd I m8 (gone2_ok HC.out HNN.out HAA.out HFU.out (.slice A 0 d)) HX.out)
        clear o7 kr mk HR m8 e8
        go_wp2_with (go_at_call 82; go_loud (refine CE.out.mono ?_; rintro e w8 ⟨rfl, GR8, m8, g8, o8⟩; have z4 := m8.cells.2.2.2.2.1; have M9 := Lib.hid m8; have G8 := Lib.hid g8; have O8 := Lib.hid o8; clear m8 g8 o8))
        refine bodyPost_ret (v := .tuple #[.int .i64 (gone1 P tx).now, .int .i64 0]) (by simp [results, Tryz.results32, go_sem, (gone2_now P tx (.slice A 0 d)), (end_now (gone2 P tx (.slice A 0 d)) tx)]) rfl ⟨rfl, .slice A 0 d, fun g hg => (BL.out g hg).1, GR8, M9.out, ?_, ?_⟩
        · intro k hk
          rcases G8.out k hk with h | h
          · exact .inl h
          · have h1 := O7.out.size
            have h2 := B2.out.size
            exact .inr (by omega)
        · refine (Out.of_below B2.out _).then (O7.out.trans O8.out fun k hk e => ?_) |>.mono fun k _ h => h
          rcases e with e | e | e | e
          · exact .inl (by simp [e])
          · exact .inl (by simp [e])
          · exact .inl (by simp [e])
          · exact .inr e
end
end Go.Proofs.YtknppiebncdjmaaGreat
