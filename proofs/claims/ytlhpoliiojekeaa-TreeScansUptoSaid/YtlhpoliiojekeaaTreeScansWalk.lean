import Derived.Test.YtlhpoliiojekeaaKAS
import Derived.Test.YtlhpoliiojekeaaLive
import Derived.Laws.EntriesVeiled
/- TreeScans: a scan tells the tree as it was when it was asked for. -/
namespace Go.Proofs.Ytlhpoliiojekeaa
set_option maxRecDepth 100000
open Go.RowKit Go.Shelf

attribute [local go_sem] Oper.semAt_some

/-- What the loop over the operations keeps. -/
structure LR (W0 : World) (ord gn n p6 p7 T : Nat) (Ds : List Nat) (j : Nat) (wr : World) : Prop where
  hj : j ≤ n
  r6 : R1 wr p6 (.bool false) 4
  on : ∃ B m d P, On wr p7 0 T ord B m d P ∧ P.length ≤ gn ∧ ∀ p ∈ P, p.1.size ≤ 1048576 + j
  gr : Gw W0 wr
  nd : Ds.Nodup
  ds : ∀ D ∈ Ds, p6 ≤ D ∧ wr.heap[D]? = some (.deferred (some []))
def tmL (ord gn gc n c p6 p7 T m d : Nat) (G A B : Option Addr) (j : Nat) (us : Nat → Value) : Array Value := #[.int .i64 (ord : Nat), .slice G gn gc, .slice A n c, undef, undef, undef, .pointer (some ⟨p6, 0, none⟩), .pointer (some ⟨p7, 0, none⟩), undef, us 9, us 10, us 11, us 12, us 13, us 14, us 15, us 16, .int .i64 (ord : Nat), .bool (decide ((ord : Int) < 3)), .bool (decide ((ord : Int) < 3)), .int .i64 (ord : Nat), .bool (decide (64 < (ord : Int))), .bool (decide ((ord : Int) < 3) || decide (64 < (ord : Int))), undef, .int .i64 (ord : Nat), .slice G gn gc, .agg #[.pointer (some ⟨T, 0, none⟩), .slice B m d], .pointer (some ⟨p7, 0, none⟩), .pointer (some ⟨T, 0, none⟩), .bool false, .bool false, .bool true, .bool false, .bool false, .slice A n c, .int .i64 (n : Nat), .int .i64 (j : Nat), us 37, us 38, us 39, us 40, us 41, us 42, us 43, us 44, us 45, us 46, us 47, us 48, us 49, us 50, us 51, us 52, us 53, us 54, us 55, us 56, us 57, us 58, us 59, us 60, us 61, us 62, us 63, us 64, us 65, us 66, us 67, us 68, us 69, us 70, us 71, us 72, us 73, us 74, us 75, us 76, us 77, us 78, us 79, us 80, us 81, us 82, us 83, us 84, us 85, us 86, us 87, us 88, us 89, us 90, us 91, us 92, us 93, us 94, us 95, us 96, us 97, us 98, us 99, us 100, us 101, us 102, us 103, us 104, us 105, us 106, us 107, us 108, us 109, us 110, us 111, us 112, us 113, us 114, us 115, us 116, us 117, us 118, us 119, us 120]
def LI (W0 : World) (ord gn gc n c p6 p7 T m d : Nat) (G A B : Option Addr) (a' : Act) (wr : World) : Prop := ∃ (Ds : List Nat) (j : Nat) (us : Nat → Value), a' = { tmps := tmL ord gn gc n c p6 p7 T m d G A B j us, defers := Ds.map markF } ∧ LR W0 ord gn n p6 p7 T Ds j wr
theorem LI.mk' {W0 : World} {ord gn gc n c p6 p7 T m d : Nat} {G A B : Option Addr} {a' : Act} {wr : World} (Ds : List Nat) (j : Nat) (h : a' = { tmps := tmL ord gn gc n c p6 p7 T m d G A B j (fun k => a'.tmps.getD k undef), defers := Ds.map markF }) (r : LR W0 ord gn n p6 p7 T Ds j wr) : LI W0 ord gn gc n c p6 p7 T m d G A B a' wr := ⟨Ds, j, _, h, r⟩

theorem others_turn {A X : World} (h : KeepsOthers A X) {l : Nat} (hl : A.heap.size ≤ l) (o' : Obj) : KeepsOthers A (X.putObj l o') :=
  ⟨by have := h.size; have := (grownBy_putObj' X l o').size; omega, fun k o hk hc => (World.putObj_heap_other (by have := (Array.getElem?_eq_some_iff.1 hk).1; omega)).trans (h.same k o hk hc)⟩
theorem marks_end {w : World} {p6 s : Nat} {F : Fence} {n : Nat} {P : Program} {fn : Func} {tmps : Array Value} (hw : w.heap.size ≤ s) (hres : ∀ Y : World, R1 Y p6 (.bool true) 4 → Gw w Y → LeavesInM F n P fn tmps (fun e w' => e = .returned (.bool true) ∧ Gw w w') [] FrameMode.returning Y)
    (Ds : List Nat) (X : World) (hn : Ds.Nodup) (hd : ∀ D ∈ Ds, s ≤ D ∧ X.heap[D]? = some (.deferred (some []))) (r : R1 X p6 (.bool true) 4) (g : Gw w X) :
    LeavesInM F n P fn tmps (fun e w' => e = .returned (.bool true) ∧ Gw w w') (Ds.map markF) FrameMode.returning X :=
  leaves_marks (fun Y => Gw w Y ∧ R1 Y p6 (.bool true) 4) s (fun Y D h hD ho => ⟨below_turn (o := .deferred (some [])) (b := 0) h.1 (Nat.le_refl _) (by omega) _, h.2.turn _ ho rfl⟩) (fun Y h => hres Y h.2 h.1) Ds X hn hd ⟨g, r⟩

set_option maxHeartbeats 16000000 in
theorem walk_TreeScans (a : Int) (G : Option Addr) (gn gc : Nat) (ks : List ByteArray) (A : Option Addr) (n c : Nat) (os : List OpT) (w : World) (ha : -9223372036854775808 ≤ a ∧ a ≤ 9223372036854775807) (hg : SA w G gn ks) (hkb : ∀ k ∈ ks, k.size ≤ 1048576) (hgnc : gn ≤ gc) (hgc : gc ≤ 1048576) (h : RT w A n os) (hnc : n ≤ c) (hc : c ≤ 1048576) :
    Calls Try.prog 5 #[.int .i64 a, .slice G gn gc, .slice A n c] w fun e w' => e = .returned (.bool true) ∧ Below w.heap.size w w' := by
  have hn : n ≤ 1048576 := Nat.le_trans hnc hc
  have hgn : gn ≤ 1048576 := Nat.le_trans hgnc hgc
  clear hnc hc hgnc hgc
  have LV := Lib.hid wlive
  refine (callsIn_wide (n := 10)).1 ?_
  refine callsIn_of_wp_marks Try.func5 rfl trivial ?_ rfl
  simp only [Try.ntmps5, List.size_toArray, List.length_cons, List.length_nil, Nat.reduceAdd, Nat.reduceSub, Array.replicate_succ, Array.replicate_zero, List.push_toArray, List.append_toArray, List.nil_append, List.cons_append]
  obtain ⟨W0, hW0⟩ : ∃ W0, w.alloc (.cells #[.bool false] 4) = W0 := ⟨_, rfl⟩
  have G0 := Lib.hid (show Gw w W0 by rw [← hW0]; exact (Gw.refl _).alloc _)
  have Q6 := Lib.hid (show R1 W0 w.heap.size (.bool false) 4 by rw [← hW0]; exact heap_alloc_new _ _)
  by_cases hbad : a < 3 ∨ 64 < a
  · have TT := Lib.hid (show ∀ Y, Gw W0 Y → R1 (Y.setCell ⟨w.heap.size, 0, none⟩ (.bool true)) w.heap.size (.bool true) 4 ∧ Gw w (Y.setCell ⟨w.heap.size, 0, none⟩ (.bool true)) from fun Y hY => ⟨(Q6.out.gw hY).set _, Xt.below (G0.out.trans hY) (Xt.set (T := w.heap.size) (Gw.refl _) 0 _) (Nat.le_refl _)⟩)
    clear h hn hg hgn hkb
    rcases hbad with hb | hb
    · gi_wp2_with (refine ⟨trivial, ?_⟩; (gi_at_call 10; go_loud (refine (callsIn_wide.2 (LV.out _)).mono ?_; rintro e w1 ⟨rfl, g1⟩; have G1 := Lib.hid (show Gw W0 w1 from g1); have c6 := (Q6.out.gw G1.out).c; have f6 := (Q6.out.gw G1.out).f)))
      exact marks_end (Nat.le_refl _) (fun Y hY gY => by have hc5 := hY.c; exact ⟨.bool true, by simp [results, Try.f5, go_sem, hc5], rfl, gY⟩) [] _ List.nodup_nil (fun D h => by cases h) (TT.out _ G1.out).1 (TT.out _ G1.out).2
    · have hb3 : (3 : Int) ≤ a := by omega
      gi_wp2_with (refine ⟨trivial, ?_⟩; (gi_at_call 10; go_loud (refine (callsIn_wide.2 (LV.out _)).mono ?_; rintro e w1 ⟨rfl, g1⟩; have G1 := Lib.hid (show Gw W0 w1 from g1); have c6 := (Q6.out.gw G1.out).c; have f6 := (Q6.out.gw G1.out).f)))
      exact marks_end (Nat.le_refl _) (fun Y hY gY => by have hc5 := hY.c; exact ⟨.bool true, by simp [results, Try.f5, go_sem, hc5], rfl, gY⟩) [] _ List.nodup_nil (fun D h => by cases h) (TT.out _ G1.out).1 (TT.out _ G1.out).2
  obtain ⟨ord, rfl⟩ : ∃ ord : Nat, a = (ord : Int) := ⟨a.toNat, by omega⟩
  have CF := Lib.hid (wfilled (c := gc) (hg.below G0.out) hgn ord (by omega) (by omega))
  have HKB := Lib.hid hkb
  have HKS := Lib.hid hg.1
  have HRT := Lib.hid (h.below G0.out)
  have HL := Lib.hid h.len
  have HN := Lib.hid hn
  have HGN := Lib.hid hgn
  have nb : (n : Int) ≤ 1048576 := by omega
  have h3' : (3 : Int) ≤ (ord : Int) := by omega
  have h64' : (ord : Int) ≤ 64 := by omega
  clear h hn hg hgn hkb hbad ha
  gi_wp2_with (refine ⟨trivial, ?_⟩; first
    | (gi_at_call 13; go_loud (refine (callsIn_wide.2 CF.out).mono ?_; rintro e w1 ⟨T, B, m, d, rfl, t1, p1, md, b1, l1⟩; have T1H := Lib.hid t1; have P1 := Lib.hid p1; have L1 := Lib.hid l1; have MD := Lib.hid md; have G1 := Lib.hid (show Gw W0 w1 from b1); clear t1 p1 b1 l1 md CF))
    | (gi_at_call 10; go_loud (refine (callsIn_wide.2 (LV.out _)).mono ?_; rintro e w3 ⟨rfl, b3⟩; have B3 := Lib.hid b3; clear b3)))
  have R7 := heap_alloc_new w1 (.cells #[.pointer (some ⟨T, 0, none⟩), .slice B m d] 27)
  obtain ⟨p7, hp7⟩ : ∃ p7, w1.heap.size = p7 := ⟨_, rfl⟩
  obtain ⟨p6, hp6⟩ : ∃ p6, w.heap.size = p6 := ⟨_, rfl⟩
  have hs0 : W0.heap.size = w.heap.size + 1 := by rw [← hW0]; simp
  have hs1 := Below.size G1.out
  have hT := T1H.out.lt
  have hL1 := L1.out
  have gU : Gw w1 (w1.alloc (.cells #[.pointer (some ⟨T, 0, none⟩), .slice B m d] 27)) := (Gw.refl _).alloc _
  have g3 := gU.trans B3.out
  rw [hp7] at R7
  have r73 := rowgw R7 B3.out
  have ON := Lib.hid (show On w3 p7 0 T ord B m d (fillN ks gn) from ⟨by rw [cell_of_row _ _ _ _ _ _ r73]; rfl, by rw [cell_of_row _ _ _ _ _ _ r73]; rfl, by simp [World.frozen?, r73], ⟨_, _, _, r73, by decide, by decide, by decide⟩, T1H.out.below g3, P1.out.gw g3, MD.out, by omega⟩)
  have R6 := Lib.hid (show R1 w3 p6 (.bool false) 4 by rw [← hp6]; exact Q6.out.gw (G1.out.trans g3))
  have GG := Lib.hid (show Gw W0 w3 from G1.out.trans g3)
  have HD := Lib.hid (show p6 < p7 ∧ p6 < T ∧ p7 ≠ T ∧ p7 < w3.heap.size ∧ T < w3.heap.size ∧ w.heap.size ≤ p6 ∧ W0.heap.size ≤ p7 ∧ W0.heap.size ≤ T from ⟨by omega, by omega, by omega, ON.out.fo.lt, ON.out.tr.lt, by omega, by omega, by omega⟩)
  have FL := Lib.hid (show (fillN ks gn).length ≤ gn ∧ ∀ p ∈ fillN ks gn, p.1.size ≤ 1048576 from ⟨fillN_len ks gn, fun p hp => by
    have := (fillN_keys ks p.1 gn).1 ⟨p.2, hp⟩
    exact HKB.out _ (List.mem_of_mem_take this)⟩)
  rw [hp7, hp6]
  have GW0 := Lib.hid (show ∀ X, Gw W0 X → Gw w X from fun X hX => G0.out.trans hX)
  clear R7 hs0 hs1 hT hL1 gU g3 r73 B3 G1 T1H P1 L1 MD Q6 G0 hW0 HKB HKS hp7 hp6
  refine wpIn_loop (LI W0 ord gn gc n c p6 p7 T m d G A B) (fun a' _ => n - (intOf (a'.tmps.getD 36 undef)).toNat) ?_ ?_
  · exact LI.mk' [] 0 rfl ⟨Nat.zero_le _, R6.out, ⟨B, m, d, _, ON.out, FL.out.1, fun p hp => FL.out.2 p hp⟩, GG.out, List.nodup_nil, fun D h => by cases h⟩
  clear ON R6 GG FL
  rintro _ wr ⟨Ds, j, us, rfl, hj, r6, ⟨B', m', d', P, on, hpl, hps⟩, gr, hnd, hds⟩
  unfold tmL
  by_cases hlt : j < n
  · obtain ⟨x, hx⟩ : ∃ x, os[j]? = some x := ⟨_, List.getElem?_eq_getElem (by have := HL.out; omega)⟩
    obtain ⟨b, o, rfl, q0, q1, q2, q3, q4, q5, q6⟩ := (HRT.out.below gr).at_ hx
    have hxi := HRT.out.is x (List.mem_of_getElem? hx)
    obtain ⟨kind, oth, k, k2, v, ii, bey⟩ := x
    dsimp only at q0 q1 q2 q3 q4 q5 q6
    have i1 : (j : Int) < (n : Int) := by omega
    have jb : (j : Int) ≤ 1048576 := by omega
    have HLT := Lib.hid hlt
    have HRI := Lib.hid hxi.ri
    obtain ⟨Y, hY⟩ : ∃ Y, wr.alloc (.cells #[.int .i64 kind, .bool oth, .string k, .string k2, .int .i64 v, .int .i64 ii, .bool bey] 33) = Y := ⟨_, rfl⟩
    have rY := heap_alloc_new wr (.cells #[.int .i64 kind, .bool oth, .string k, .string k2, .int .i64 v, .int .i64 ii, .bool bey] 33)
    rw [hY] at rY
    have gY : Gw wr Y := by rw [← hY]; exact (Gw.refl _).alloc _
    have KP := Lib.hid (show ∀ X, Gw Y X → R1 X p6 (.bool false) 4 ∧ On X p7 0 T ord B' m' d' P ∧ X.heap[wr.heap.size]? = some (.cells #[.int .i64 kind, .bool oth, .string k, .string k2, .int .i64 v, .int .i64 ii, .bool bey] 33 (0, 0)) ∧ Gw W0 X ∧ KeepsOthers wr X from fun X hX => ⟨r6.gw (gY.trans hX), on.gw (gY.trans hX), rowgw rY hX, gr.trans (gY.trans hX), others_of_below (gY.trans hX)⟩)
    have y2 : Y.cell? ⟨wr.heap.size, 2, none⟩ = some (.string k) := by rw [cell_of_row _ _ _ _ _ _ rY]; rfl
    have y3 : Y.cell? ⟨wr.heap.size, 3, none⟩ = some (.string k2) := by rw [cell_of_row _ _ _ _ _ _ rY]; rfl
    have KY := Lib.hid (show ∀ X, Gw Y X → X.cell? ⟨wr.heap.size, 2, none⟩ = some (.string k) ∧ X.cell? ⟨wr.heap.size, 3, none⟩ = some (.string k2) from fun X hX => ⟨keep_below y2 hX, keep_below y3 hX⟩)
    have ON := Lib.hid (on.gw gY)
    have u0 := ON.out.c0
    have u1 := ON.out.c1
    have HPL := Lib.hid hpl
    have HPS := Lib.hid hps
    have HLE := Lib.hid (show p6 < wr.heap.size ∧ p7 < wr.heap.size ∧ T < wr.heap.size ∧ wr.heap.size < Y.heap.size from ⟨r6.lt, on.fo.lt, on.tr.lt, (Array.getElem?_eq_some_iff.1 rY).1⟩)
    have HGR := Lib.hid gr
    have HND := Lib.hid hnd
    have HDS := Lib.hid hds
    have CT := Lib.hid (wscanT ON.out.tr k k2)
    have CR := Lib.hid fun X (hX : Gw Y X) => wrefScan (c := d') (ON.out.pb.gw hX) (by have := ON.out.pb.1; have := HPL.out; have := HGN.out; omega) k k2
    have HML := Lib.hid ON.out.pb.1
    clear rY gY on hpl hps gr hnd hds hj hlt hx hxi r6
    have KT := Lib.hid (show ∀ b4 b5 b7 w2 V, w2.alloc (.cells #[.func (.func 38) #[] #[.pointer (some ⟨b7, 0, none⟩), .pointer (some ⟨b4, 0, none⟩), .pointer (some ⟨b5, 0, none⟩)]] 39) = V → Gw Y w2 → Gw Y V ∧ R1 V w2.heap.size (.func (.func 38) #[] #[.pointer (some ⟨b7, 0, none⟩), .pointer (some ⟨b4, 0, none⟩), .pointer (some ⟨b5, 0, none⟩)]) 39 ∧ Gw w2 V from fun b4 b5 b7 w2 V hV g => by
      have g2 : Gw w2 V := by rw [← hV]; exact (Gw.refl _).alloc _
      exact ⟨g.trans g2, by rw [← hV]; exact heap_alloc_new _ _, g2⟩)
    gi_wp2_with (refine ⟨trivial, ?_⟩; first
      | (gi_at_call 14; go_loud (refine (callsIn_wide.2 CT.out).mono ?_; rintro e w2 ⟨b4, b5, b7, rfl, sc, g2⟩; obtain ⟨V2, hV2⟩ : ∃ V, w2.alloc (.cells #[.func (.func 38) #[] #[.pointer (some ⟨b7, 0, none⟩), .pointer (some ⟨b4, 0, none⟩), .pointer (some ⟨b5, 0, none⟩)]] 39) = V := ⟨_, rfl⟩; have KV := Lib.hid (KT.out b4 b5 b7 w2 V2 hV2 g2); have SC2 := Lib.hid (show Gw Y w2 from g2); have SCA := Lib.hid (sc.kn KV.out.2.2.keepN); have s2 := (KY.out _ KV.out.1).1; have s3 := (KY.out _ KV.out.1).2; clear sc g2 CT))
      | (gi_at_call 15; go_loud (refine (callsIn_wide.2 (CR.out _ KV.out.1)).mono ?_; rintro e w3 ⟨v1, rfl, o1, g1⟩; obtain ⟨Bw, cw, rfl, p1, -, -⟩ := o1.form; have G3 := Lib.hid g1; have P3 := Lib.hid p1; obtain ⟨V3, hV3⟩ : ∃ V, w3.alloc (.cells #[.slice Bw (scanP P k k2).length cw] 25) = V := ⟨_, rfl⟩; obtain ⟨V4, hV4⟩ : ∃ V, V3.alloc (.cells #[.int .i64 0] 3) = V := ⟨_, rfl⟩; have R13 := Lib.hid (show R1 V4 V3.heap.size (.int .i64 0) 3 by rw [← hV4]; exact heap_alloc_new _ _); have c13 := R13.out.c; have f13 := R13.out.f; obtain ⟨V5, hV5⟩ : ∃ V, V4.setCell ⟨V3.heap.size, 0, none⟩ (.int .i64 0) = V := ⟨_, rfl⟩; have G34 := Lib.hid (show Gw V3 V4 by rw [← hV4]; exact (Gw.refl _).alloc _); have R13' := Lib.hid (show R1 V5 V3.heap.size (.int .i64 0) 3 by rw [← hV5]; exact R13.out.set _); have G35 := Lib.hid (show Gw V3 V5 by rw [← hV5]; exact Xt.below G34.out (Xt.set (T := V3.heap.size) (Gw.refl _) 0 _) (Nat.le_refl _)); have G13 := Lib.hid (show Gw w3 V3 by rw [← hV3]; exact (Gw.refl _).alloc _); have R12 := Lib.hid (show R1 V5 w3.heap.size (.slice Bw (scanP P k k2).length cw) 25 from R1.gw (by rw [← hV3]; exact heap_alloc_new _ _) G35.out); have G4 := Lib.hid (show Gw V2 V5 from (G3.out.trans G13.out).trans G35.out); have c11 := keep_below KV.out.2.1.c G4.out; clear o1 p1 g1 CR s2 s3)))
    have SDD := Lib.hid (show SD W0 p6 p7 wr.heap.size w2.heap.size w3.heap.size V3.heap.size T by
      have h1 := HLE.out
      have h2 := HD.out
      have h3 := Below.size KV.out.1
      have h4 := Below.size KV.out.2.2
      have h5 := KV.out.2.1.lt
      have h6 := Below.size G3.out
      have h7 := R12.out.lt
      have h8 := Below.size G13.out
      have h9 : w3.heap.size < V3.heap.size := by rw [← hV3]; simp
      have h10 := KV.out.2.1.lt
      have h11 := Below.size SC2.out
      exact ⟨by omega, by omega, by omega, by omega⟩)
    obtain ⟨nS, hnS⟩ : ∃ nS, (scanP P k k2).length = nS := ⟨_, rfl⟩
    have SC0 := Lib.hid (show SC W0 p6 p7 wr.heap.size w2.heap.size w3.heap.size V3.heap.size T ord b4 b5 b7 #[.int .i64 kind, .bool oth, .string k, .string k2, .int .i64 v, .int .i64 ii, .bool bey] (.func (.func 38) #[] #[.pointer (some ⟨b7, 0, none⟩), .pointer (some ⟨b4, 0, none⟩), .pointer (some ⟨b5, 0, none⟩)]) Bw nS cw P k k2 0 P V5 from ⟨(KP.out _ (KV.out.1.trans G4.out)).1, ⟨_, _, _, (KP.out _ (KV.out.1.trans G4.out)).2.1⟩, (KP.out _ (KV.out.1.trans G4.out)).2.2.1, KV.out.2.1.gw G4.out, by rw [← hnS]; exact R12.out, R13'.out, by rw [← hnS]; exact P3.out.gw (G13.out.trans G35.out), SCA.out.kn G4.out.keepN, (KP.out _ (KV.out.1.trans G4.out)).2.2.2.1⟩)
    have PU0 := Lib.hid (Pu.start ON.out.tr.rises HPL.out HPS.out k k2)
    have KW := Lib.hid (KP.out _ (KV.out.1.trans G4.out)).2.2.2.2
    have HSC := Lib.hid (hands_scan 9 b4 b5 b7 ord P k k2 V5 SC0.out.sc)
    have HSR := Lib.hid (scanP_rises ON.out.tr.rises k k2)
    have HSB := Lib.hid (show ∀ x ∈ scanP P k k2, x.1.size ≤ 1048576 + j from fun x hx => HPS.out x (List.mem_filter.1 hx).1)
    obtain ⟨p13, hp13⟩ : ∃ p, V3.heap.size = p := ⟨_, rfl⟩
    obtain ⟨p12, hp12⟩ : ∃ p, w3.heap.size = p := ⟨_, rfl⟩
    obtain ⟨p11, hp11⟩ : ∃ p, w2.heap.size = p := ⟨_, rfl⟩
    obtain ⟨p9, hp9⟩ : ∃ p, wr.heap.size = p := ⟨_, rfl⟩
    rw [hp13, hp12, hp11, hp9] at SDD SC0
    rw [hp13, hp12, hp11, hp9, hnS]
    have HWV := Lib.hid (show W0.heap.size ≤ V5.heap.size from Below.size SC0.out.gw)
    clear SCA KV G3 P3 R13 c13 f13 G34 R13' G35 G13 R12 G4 c11 hV5 hV4 hV3 KP KY KT u0 u1 y2 y3 q0 q1 q2 q3 q4 q5 q6 ON HLE hp13 hp12 hp11 hp9
    refine wp_handsL rfl (by decide) (gf := 38) (lb := #[.pointer (some ⟨b7, 0, none⟩), .pointer (some ⟨b4, 0, none⟩), .pointer (some ⟨b5, 0, none⟩)]) rfl trivial (enters_of Try.func38 (by kernel_rfl) rfl)
      HSC.out (fun h k => h.trans k) (fun A l o o' _ ho hc => KeepN.turn A l o o' ho hc) (fun _ => rfl)
      (fun pre X => ∃ P', SC W0 p6 p7 p9 p11 p12 p13 T ord b4 b5 b7 #[.int .i64 kind, .bool oth, .string k, .string k2, .int .i64 v, .int .i64 ii, .bool bey] (.func (.func 38) #[] #[.pointer (some ⟨b7, 0, none⟩), .pointer (some ⟨b4, 0, none⟩), .pointer (some ⟨b5, 0, none⟩)]) Bw nS cw P k k2 pre.length P' X ∧ Pu (scanP P k k2) gn (1048576 + j) pre.length P' ∧ KeepsOthers V5 X)
      (fun c pre X => c = .exit 2 ∧ (pre.length : Int) = ii ∧ ∃ P', SC W0 p6 p7 p9 p11 p12 p13 T ord b4 b5 b7 #[.int .i64 kind, .bool oth, .string k, .string k2, .int .i64 v, .int .i64 ii, .bool bey] (.func (.func 38) #[] #[.pointer (some ⟨b7, 0, none⟩), .pointer (some ⟨b4, 0, none⟩), .pointer (some ⟨b5, 0, none⟩)]) Bw nS cw P k k2 pre.length P' X ∧ Pu (scanP P k k2) gn (1048576 + j) pre.length P' ∧ KeepsOthers V5 X)
      (fun _ A C h hb => by obtain ⟨P', h1, h2, h3⟩ := h; exact ⟨P', h1.gwE hb, h2, h3.trans (others_of_below hb)⟩)
      (fun _ A l o o' h hl ho hc => by obtain ⟨P', h1, h2, h3⟩ := h; exact ⟨P', h1.turn o' (Nat.le_trans HWV.out hl) ho hc, h2, others_turn h3 hl o'⟩)
      (fun c _ A C h hb => by obtain ⟨e1, e2, P', h1, h2, h3⟩ := h; exact ⟨e1, e2, P', h1.gwE hb, h2, h3.trans (others_of_below hb)⟩)
      (fun c _ A l o o' h hl ho hc => by obtain ⟨e1, e2, P', h1, h2, h3⟩ := h; exact ⟨e1, e2, P', h1.turn o' (Nat.le_trans HWV.out hl) ho hc, h2, others_turn h3 hl o'⟩)
      (fun _ _ A l o o' h _ _ _ => h) ⟨P, SC0.out, PU0.out, KeepsOthers.refl _⟩
      ?act ?assign ?body ?done ?stop
    case assign =>
      intro l x X K hK
      unfold encP
      gi_wp2
      exact hK
    case body =>
      rintro l pre ⟨kk, z⟩ X hX hlX ⟨rl, hrl⟩ ⟨P', sc, pu, ko⟩ hpre
      obtain ⟨q, hq⟩ : ∃ q, pre.length = q := ⟨_, rfl⟩
      have hx : (scanP P k k2)[q]? = some (kk, z) := by
        obtain ⟨t, ht⟩ := hpre
        rw [← ht, ← hq]
        simp
      have hqn : q < nS := by have := (List.getElem?_eq_some_iff.1 hx).1; omega
      have hln : (pre ++ [(kk, z)]).length = q + 1 := by simp [hq]
      rw [hq] at sc pu
      obtain ⟨bb, oo, hB, e0, e1⟩ := sc.pb.num hx
      obtain ⟨Bw', hBw⟩ : ∃ Bw', Bw = Bw' := ⟨_, rfl⟩
      have HBW := Lib.hid hBw
      rw [hBw] at sc
      dsimp only at e0 e1
      have c12 := sc.r12.c
      rw [← hBw, hB] at c12
      have c13 := sc.r13.c
      have f13 := sc.r13.f
      have hsl := scanP_len P k k2
      have hp1 := HPL.out
      have hg1 := HGN.out
      have i2 : ¬ (nS : Int) ≤ (q : Int) := by omega
      have i3 : (q : Int) < (nS : Int) := by omega
      have qb : (q : Int) ≤ 1048576 := by omega
      have i4 : IntKind.i64.wrap ((q : Int) + 1) = ((q + 1 : Nat) : Int) := by rw [IntKind.wrap_i64]; omega
      have i5 : wrap64 ((q : Int) + 1) = ((q + 1 : Nat) : Int) := by unfold wrap64; omega
      have hks := HSB.out _ (List.mem_of_getElem? hx)
      dsimp only at hks
      have j1 := HN.out
      have j2 := HLT.out
      have hcat : ¬ 9223372036854775807 < kk.size + 1 := by omega
      obtain ⟨st1, kn1⟩ := sc.step SDD.out (q + 1)
      have ST1 := Lib.hid st1
      have KN1 := Lib.hid kn1
      have KO1 := Lib.hid (KeepsOthers.setCell X ⟨p13, 0, none⟩ (.int .i64 ((q + 1 : Nat) : Int)))
      have PST := Lib.hid (pu.step HSR.out hx (kk ++ ⟨#[43]⟩) (by rw [ByteArray.size_append]; have : (⟨#[43]⟩ : ByteArray).size = 1 := rfl; omega) (longer_ne _ _ (by decide)) v)
      have KO := Lib.hid ko
      have HRL := Lib.hid hrl
      obtain ⟨X1, hX1⟩ : ∃ X1, X.setCell ⟨p13, 0, none⟩ (.int .i64 ((q + 1 : Nat) : Int)) = X1 := ⟨_, rfl⟩
      rw [hX1] at ST1 KN1 KO1
      obtain ⟨q1, hq1⟩ : ∃ q1, q + 1 = q1 := ⟨_, rfl⟩
      rw [hq1] at ST1 PST i4 i5 hX1 hln
      obtain ⟨B1, m1, d1, on1⟩ := ST1.out.on
      have CC1 := Lib.hid (wchanges on1 (by have := pu.len; omega) ⟨0, false, kk ++ ⟨#[43]⟩, ⟨#[]⟩, v, 0, false⟩)
      unfold OpT.val at CC1
      dsimp only at CC1
      rw [show chP ⟨0, false, kk ++ ⟨#[43]⟩, ⟨#[]⟩, v, 0, false⟩ P' = putP P' (kk ++ ⟨#[43]⟩) v from if_pos rfl] at CC1
      have d94 : X1.cell? ⟨p9, 4, none⟩ = some (.int .i64 v) := by rw [cell_of_row _ _ _ _ _ _ ST1.out.r9]; rfl
      have HLN := Lib.hid hln
      have HQN := Lib.hid hqn
      have HII := HRI.out
      clear st1 kn1 pu ko hrl sc on1 hq hqn hln hpre hX hlX hsl hp1 hg1 hks j1 j2 hx hBw hq1
      by_cases hm : (q1 : Int) = ii
      · subst hm
        gi_wp2_with (refine ⟨trivial, ?_⟩; first
          | (gi_at_call 11; (refine (CallsIn.inRound l (callsIn_wide.2 CC1.out)).mono ?_; rintro e X2 ⟨rfl, hc⟩; obtain ⟨s2, kn2, ko2⟩ := ST1.out.change SDD.out hc; have S2 := Lib.hid s2; have KN2 := Lib.hid (KN1.out.trans kn2); have KO2 := Lib.hid (KO1.out.trans ko2); obtain ⟨Bx, mx, dx, onx⟩ := s2.on; have CC2 := Lib.hid (wchanges onx (by have := PST.out.1; have := HGN.out; omega) ⟨1, false, kk, ⟨#[]⟩, 0, 0, false⟩); unfold OpT.val at CC2; dsimp only at CC2; rw [show chP ⟨1, false, kk, ⟨#[]⟩, 0, 0, false⟩ (putP P' (kk ++ ⟨#[43]⟩) v) = delP (putP P' (kk ++ ⟨#[43]⟩) v) kk from if_neg (show ¬ ((1 : Int) = 0) by decide)] at CC2; clear hc s2 kn2 ko2 onx CC1))
          | (gi_at_call 11; go_loud (refine (CallsIn.inRound l (callsIn_wide.2 CC2.out)).mono ?_; rintro e X3 ⟨rfl, hc⟩; obtain ⟨s3, kn3, ko3⟩ := S2.out.change SDD.out hc; have S3 := Lib.hid s3; have KN3 := Lib.hid (KN2.out.trans kn3); have KO3 := Lib.hid (KO2.out.trans ko3); have t13 := s3.r13.c; have t95 : X3.cell? ⟨p9, 5, none⟩ = some (.int .i64 (q1 : Int)) := (by rw [cell_of_row _ _ _ _ _ _ s3.r9]; rfl);  clear hc s3 kn3 ko3 CC2)))
        refine ⟨KO3.out, rfl, by rw [HLN.out], delP (putP P' (kk ++ ⟨#[43]⟩) v) kk, ?_, ?_, KO.out.trans KO3.out⟩
        · rw [HLN.out, HBW.out]; exact S3.out
        · rw [HLN.out]; exact PST.out.2
      · gi_wp2_with (refine ⟨trivial, ?_⟩; first
          | (gi_at_call 11; (refine (CallsIn.inRound l (callsIn_wide.2 CC1.out)).mono ?_; rintro e X2 ⟨rfl, hc⟩; obtain ⟨s2, kn2, ko2⟩ := ST1.out.change SDD.out hc; have S2 := Lib.hid s2; have KN2 := Lib.hid (KN1.out.trans kn2); have KO2 := Lib.hid (KO1.out.trans ko2); obtain ⟨Bx, mx, dx, onx⟩ := s2.on; have CC2 := Lib.hid (wchanges onx (by have := PST.out.1; have := HGN.out; omega) ⟨1, false, kk, ⟨#[]⟩, 0, 0, false⟩); unfold OpT.val at CC2; dsimp only at CC2; rw [show chP ⟨1, false, kk, ⟨#[]⟩, 0, 0, false⟩ (putP P' (kk ++ ⟨#[43]⟩) v) = delP (putP P' (kk ++ ⟨#[43]⟩) v) kk from if_neg (show ¬ ((1 : Int) = 0) by decide)] at CC2; clear hc s2 kn2 ko2 onx CC1))
          | (gi_at_call 11; go_loud (refine (CallsIn.inRound l (callsIn_wide.2 CC2.out)).mono ?_; rintro e X3 ⟨rfl, hc⟩; obtain ⟨s3, kn3, ko3⟩ := S2.out.change SDD.out hc; have S3 := Lib.hid s3; have KN3 := Lib.hid (KN2.out.trans kn3); have KO3 := Lib.hid (KO2.out.trans ko3); have t13 := s3.r13.c; have t95 : X3.cell? ⟨p9, 5, none⟩ = some (.int .i64 ii) := (by rw [cell_of_row _ _ _ _ _ _ s3.r9]; rfl); obtain ⟨X4, hX4⟩ : ∃ V, X3.alloc (.cells #[.int .i64 0] 3) = V := ⟨_, rfl⟩; have R16 := Lib.hid (show R1 X4 X3.heap.size (.int .i64 0) 3 by rw [← hX4]; exact heap_alloc_new _ _); have c16 := R16.out.c; have f16 := R16.out.f; have G4 := Lib.hid (show Gw X3 X4 by rw [← hX4]; exact (Gw.refl _).alloc _); obtain ⟨X5, hX5⟩ : ∃ V, X4.setCell ⟨X3.heap.size, 0, none⟩ (.int .i64 0) = V := ⟨_, rfl⟩; have G5 := Lib.hid (show Gw X3 X5 by rw [← hX5]; exact Xt.below G4.out (Xt.set (T := X3.heap.size) (Gw.refl _) 0 _) (Nat.le_refl _)); have R16' := Lib.hid (show R1 X5 X3.heap.size (.int .i64 0) 3 by rw [← hX5]; exact R16.out.set _); have S5 := Lib.hid (S3.out.gwE G5.out); have c11 := S5.out.r11.c; clear hc s3 kn3 ko3 CC2)))
        obtain ⟨P2, hP2⟩ : ∃ P2, delP (putP P' (kk ++ ⟨#[43]⟩) v) kk = P2 := ⟨_, rfl⟩
        have HU := Lib.hid (show p6 ≠ X3.heap.size ∧ p7 ≠ X3.heap.size ∧ p9 ≠ X3.heap.size ∧ p11 ≠ X3.heap.size ∧ p12 ≠ X3.heap.size ∧ p13 ≠ X3.heap.size ∧ T ≠ X3.heap.size ∧ W0.heap.size ≤ X3.heap.size by
          have a1 := S3.out.r6.lt
          obtain ⟨B9, m9, d9, on9⟩ := S3.out.on
          have a2 := on9.fo.lt
          have a3 := on9.tr.lt
          have a4 := (Array.getElem?_eq_some_iff.1 S3.out.r9).1
          have a5 := S3.out.r11.lt
          have a6 := S3.out.r12.lt
          have a7 := S3.out.r13.lt
          have a8 := Below.size S3.out.gw
          exact ⟨by omega, by omega, by omega, by omega, by omega, by omega, by omega, by omega⟩)
        have KO5 := Lib.hid (KO3.out.trans (others_of_below G5.out))
        have KN5 := Lib.hid (KN3.out.trans G5.out.keepN)
        obtain ⟨p16, hp16⟩ : ∃ p, X3.heap.size = p := ⟨_, rfl⟩
        rw [hp16] at R16' HU
        rw [hp16]
        rw [hP2] at S5 PST
        have HW5 := Lib.hid (show W0.heap.size ≤ X5.heap.size from Below.size S5.out.gw)
        have HSC2 := Lib.hid (hands_scan 7 b4 b5 b7 ord P k k2 X5 S5.out.sc)
        clear hp16 hP2 R16 c16 f16 G4 G5 hX5 c11 S2 S3 KO1 KO2 KO3 KN1 KN2 KN3 ST1 d94 t13 t95 hX4
        refine wp_handsN (l₀ := l) (r₀ := rl) rfl (KO5.out.same _ _ HRL.out rfl) (by decide) (gf := 38) (lb := #[.pointer (some ⟨b7, 0, none⟩), .pointer (some ⟨b4, 0, none⟩), .pointer (some ⟨b5, 0, none⟩)]) rfl trivial (enters_of Try.func38 (by kernel_rfl) rfl)
          HSC2.out (fun h k => h.trans k) (fun A l o o' _ ho hc => KeepN.turn A l o o' ho hc) (fun _ => rfl)
          (fun pre2 Z => SC W0 p6 p7 p9 p11 p12 p13 T ord b4 b5 b7 #[.int .i64 kind, .bool oth, .string k, .string k2, .int .i64 v, .int .i64 ii, .bool bey] (.func (.func 38) #[] #[.pointer (some ⟨b7, 0, none⟩), .pointer (some ⟨b4, 0, none⟩), .pointer (some ⟨b5, 0, none⟩)]) Bw' nS cw P k k2 q1 P2 Z ∧ R1 Z p16 (.int .i64 (pre2.length : Nat)) 3 ∧ KeepsOthers X5 Z ∧ KeepN X5 Z)
          (fun _ _ _ => False)
          (fun _ A C h hb => ⟨h.1.gwE hb, h.2.1.gw hb, h.2.2.1.trans (others_of_below hb), h.2.2.2.trans (Gw.keepN hb)⟩)
          (fun _ A l o o' h hl ho hc => ⟨h.1.turn o' (Nat.le_trans HW5.out hl) ho hc, h.2.1.turn o' ho hc, others_turn h.2.2.1 hl o', h.2.2.2.trans (KeepN.turn A l o o' ho hc)⟩)
          (fun _ _ _ _ h _ => h) (fun _ _ _ _ _ _ h _ _ _ => h)
          (fun _ _ A l o o' h _ _ _ => h) ⟨S5.out, R16'.out, KeepsOthers.refl _, KeepN.refl _⟩
          ?act2 ?assign2 ?body2 ?done2 ?stop2
        case assign2 =>
          intro l2 x2 X K hK
          unfold encP
          gi_wp2
          exact hK
        case body2 =>
          rintro l2 pre2 ⟨k3, z3⟩ Z hZ ⟨s2, r16, ko2, kn2⟩ hpre2
          obtain ⟨q2, hq2⟩ : ∃ q, pre2.length = q := ⟨_, rfl⟩
          have hln2 : (pre2 ++ [(k3, z3)]).length = q2 + 1 := by simp [hq2]
          have hle := hpre2.length_le
          rw [hln2] at hle
          rw [hq2] at r16
          have hsl := scanP_len P k k2
          have hp1 := HPL.out
          have hg1 := HGN.out
          have c16 := r16.c
          have f16 := r16.f
          have i4 : IntKind.i64.wrap ((q2 : Int) + 1) = ((q2 + 1 : Nat) : Int) := by rw [IntKind.wrap_i64]; omega
          have i5 : wrap64 ((q2 : Int) + 1) = ((q2 + 1 : Nat) : Int) := by unfold wrap64; omega
          have fo := r16.fo (by decide) (by decide) (by decide)
          have xs : Xt p16 Z (Z.setCell ⟨p16, 0, none⟩ (.int .i64 ((q2 + 1 : Nat) : Int))) := Xt.set (Gw.refl _) 0 _
          have END := Lib.hid (show SC W0 p6 p7 p9 p11 p12 p13 T ord b4 b5 b7 #[.int .i64 kind, .bool oth, .string k, .string k2, .int .i64 v, .int .i64 ii, .bool bey] (.func (.func 38) #[] #[.pointer (some ⟨b7, 0, none⟩), .pointer (some ⟨b4, 0, none⟩), .pointer (some ⟨b5, 0, none⟩)]) Bw' nS cw P k k2 q1 P2 (Z.setCell ⟨p16, 0, none⟩ (.int .i64 ((q2 + 1 : Nat) : Int))) ∧ R1 (Z.setCell ⟨p16, 0, none⟩ (.int .i64 ((q2 + 1 : Nat) : Int))) p16 (.int .i64 ((q2 + 1 : Nat) : Int)) 3 ∧ KeepN Z (Z.setCell ⟨p16, 0, none⟩ (.int .i64 ((q2 + 1 : Nat) : Int))) ∧ KeepsOthers Z (Z.setCell ⟨p16, 0, none⟩ (.int .i64 ((q2 + 1 : Nat) : Int))) from ⟨s2.xt xs fo ⟨HU.out.1, HU.out.2.1, HU.out.2.2.1, HU.out.2.2.2.1, HU.out.2.2.2.2.1, HU.out.2.2.2.2.2.1, HU.out.2.2.2.2.2.2.1⟩ HU.out.2.2.2.2.2.2.2, r16.set _, xs.keepN fo, KeepsOthers.setCell _ _ _⟩)
          have HKO := Lib.hid ko2
          have HKN := Lib.hid kn2
          have HLN2 := Lib.hid hln2
          obtain ⟨q3, hq3⟩ : ∃ q, q2 + 1 = q := ⟨_, rfl⟩
          rw [hq3] at i4 i5 END HLN2
          clear hq2 hln2 hle hpre2 hZ s2 r16 ko2 kn2 xs fo hsl hp1 hg1 hq3
          gi_wp2
          refine ⟨END.out.2.2.2, END.out.2.2.1, END.out.1, ?_, HKO.out.trans END.out.2.2.2, HKN.out.trans END.out.2.2.1⟩
          rw [HLN2.out]
          exact END.out.2.1
        case done2 =>
          rintro xs Z rfl ⟨s2, r16, ko2, kn2⟩
          rw [hnS] at r16
          have c16 := r16.c
          have c12' := s2.r12.c
          have S9 := Lib.hid s2
          have K9 := Lib.hid ko2
          have N9 := Lib.hid kn2
          clear s2 r16 ko2 kn2
          gi_wp2
          refine ⟨KO5.out.trans K9.out, KN5.out.trans N9.out, P2, ?_, ?_, (KO.out.trans KO5.out).trans K9.out⟩
          · rw [HLN.out, HBW.out]; exact S9.out
          · rw [HLN.out]; exact PST.out.2
        case stop2 =>
          rintro c pre2 Z - h
          exact h.elim
    case done =>
      rintro D xs X hD rfl ⟨P', sc, pu, ko⟩ hK
      rw [hnS] at sc pu
      have c12 := sc.r12.c
      have c13 := sc.r13.c
      have t95 : X.cell? ⟨p9, 5, none⟩ = some (.int .i64 ii) := by rw [cell_of_row _ _ _ _ _ _ sc.r9]; rfl
      obtain ⟨B9, m9, d9, on9⟩ := sc.on
      have CA := Lib.hid (wasksF on9 (by have := pu.len; have := HGN.out; omega) false ⟨#[]⟩ ⟨#[]⟩ 0 0 false)
      have FIN := Lib.hid (show ∀ X9, Gw X X9 → LR W0 ord gn n p6 p7 T (D :: Ds) (j + 1) X9 from fun X9 g => ⟨HLT.out, sc.r6.gw g, ⟨_, _, _, _, on9.gw g, pu.len, fun p hp => pu.big p hp⟩, sc.gw.trans g, List.nodup_cons.2 ⟨fun hm => by have h1 := (Array.getElem?_eq_some_iff.1 (HDS.out D hm).2).1; have h2 := KW.out.size; omega, HND.out⟩, fun E hE => by
        rcases List.mem_cons.1 hE with rfl | hE
        · exact ⟨by have := SC0.out.r6.lt; omega, rowgw hK g⟩
        · exact ⟨(HDS.out E hE).1, rowgw (ko.same _ _ (KW.out.same _ _ (HDS.out E hE).2 rfl) rfl) g⟩⟩)
      clear sc pu ko hK on9 hD
      gi_wp2_with (refine ⟨trivial, ?_⟩; (gi_at_call 12; go_loud (refine (callsIn_wide.2 CA.out).mono ?_; rintro e X9 ⟨rfl, g9⟩; have R9 := Lib.hid (FIN.out X9 g9); clear g9 CA)))
      refine ⟨LI.mk' (D :: Ds) (j + 1) rfl R9.out, ?_⟩
      have hlt := HLT.out
      simp [tmL, intOf]
      omega
    case stop =>
      rintro D c pre X hD - ⟨rfl, hii, P', sc, pu, ko⟩ hK
      obtain ⟨q, hq⟩ : ∃ q, pre.length = q := ⟨_, rfl⟩
      rw [hq] at sc pu hii
      subst hii
      have c12 := sc.r12.c
      have c13 := sc.r13.c
      have t95 : X.cell? ⟨p9, 5, none⟩ = some (.int .i64 (q : Int)) := by rw [cell_of_row _ _ _ _ _ _ sc.r9]; rfl
      obtain ⟨B9, m9, d9, on9⟩ := sc.on
      have CA := Lib.hid (wasksF on9 (by have := pu.len; have := HGN.out; omega) false ⟨#[]⟩ ⟨#[]⟩ 0 0 false)
      have FIN := Lib.hid (show ∀ X9, Gw X X9 → LR W0 ord gn n p6 p7 T (D :: Ds) (j + 1) X9 from fun X9 g => ⟨HLT.out, sc.r6.gw g, ⟨_, _, _, _, on9.gw g, pu.len, fun p hp => pu.big p hp⟩, sc.gw.trans g, List.nodup_cons.2 ⟨fun hm => by have h1 := (Array.getElem?_eq_some_iff.1 (HDS.out D hm).2).1; have h2 := KW.out.size; omega, HND.out⟩, fun E hE => by
        rcases List.mem_cons.1 hE with rfl | hE
        · exact ⟨by have := SC0.out.r6.lt; omega, rowgw hK g⟩
        · exact ⟨(HDS.out E hE).1, rowgw (ko.same _ _ (KW.out.same _ _ (HDS.out E hE).2 rfl) rfl) g⟩⟩)
      clear sc pu ko hK on9 hD
      by_cases hqn : q = nS
      · subst hqn
        gi_wp2_with (refine ⟨trivial, ?_⟩; (gi_at_call 12; go_loud (refine (callsIn_wide.2 CA.out).mono ?_; rintro e X9 ⟨rfl, g9⟩; have R9 := Lib.hid (FIN.out X9 g9); clear g9 CA)))
        refine ⟨LI.mk' (D :: Ds) (j + 1) rfl R9.out, ?_⟩
        have hlt := HLT.out
        simp [tmL, intOf]
        omega
      · have hqi : ¬ (q : Int) = (nS : Int) := by omega
        gi_wp2_with (refine ⟨trivial, ?_⟩; (gi_at_call 12; go_loud (refine (callsIn_wide.2 CA.out).mono ?_; rintro e X9 ⟨rfl, g9⟩; have R9 := Lib.hid (FIN.out X9 g9); clear g9 CA)))
        refine ⟨LI.mk' (D :: Ds) (j + 1) rfl R9.out, ?_⟩
        have hlt := HLT.out
        simp [tmL, intOf]
        omega
  · obtain rfl : j = n := by omega
    have i1 : ¬ (j : Int) < (j : Int) := by omega
    have c6 := r6.c
    have f6 := r6.f
    have END := Lib.hid (show R1 (wr.setCell ⟨p6, 0, none⟩ (.bool true)) p6 (.bool true) 4 ∧ Gw w (wr.setCell ⟨p6, 0, none⟩ (.bool true)) ∧ ∀ D ∈ Ds, p6 ≤ D ∧ (wr.setCell ⟨p6, 0, none⟩ (.bool true)).heap[D]? = some (.deferred (some [])) from ⟨r6.set _, Xt.below (GW0.out _ gr) (Xt.set (T := p6) (Gw.refl _) 0 _) HD.out.2.2.2.2.2.1, fun D hD => ⟨(hds D hD).1, (Below.heap_setCell _ _ _ _ (by show D ≠ p6; intro e; subst e; have := (hds D hD).2; unfold R1 at r6; rw [r6] at this; cases this)).trans (hds D hD).2⟩⟩)
    have HND := Lib.hid hnd
    clear on hpl hps gr hnd hds hj hlt r6
    gi_wp2
    exact marks_end HD.out.2.2.2.2.2.1 (fun Y hY gY => by have hc5 := hY.c; exact ⟨.bool true, by simp [results, Try.f5, go_sem, hc5], rfl, gY⟩) Ds _ HND.out END.out.2.2 END.out.1 END.out.2.1
end Go.Proofs.Ytlhpoliiojekeaa
