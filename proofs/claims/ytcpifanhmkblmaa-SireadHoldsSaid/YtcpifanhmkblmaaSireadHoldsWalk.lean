/- The walk of SireadHolds: what covers a note holds each of its keys. -/
import Derived.Test.YtcpifanhmkblmaaSiPlay
import Derived.Test.YtcpifanhmkblmaaJAR
namespace Go.Proofs.Ytcpifanhmkblmaa
set_option maxRecDepth 100000
set_option maxRecDepth 100000
open Go.RowKit

theorem note_one (a : Rd) : noteP 1 [] 1 a = if mayP a = true then (0, [(1, a)]) else (1, []) := by
  cases h : mayP a with
  | true => rw [if_pos rfl]; exact note_first (by omega) (by omega) h
  | false => unfold noteP; simp [h]
theorem tx_one (a : Rd) (t k : ByteArray) : txP [((1 : Int), a)] (fun n => hasP n.2 t k) = if hasP a t k = true then [1] else [] := by
  refine (tx_unique ?_ fun y => ?_).symm
  · split <;> simp
  · by_cases h : hasP a t k = true
    · rw [if_pos h]
      simp only [List.mem_singleton]
      constructor
      · rintro rfl; exact ⟨(1, a), rfl, h, rfl⟩
      · rintro ⟨n, rfl, -, rfl⟩; rfl
    · rw [if_neg h]
      simp only [List.mem_singleton, List.not_mem_nil, false_iff]
      rintro ⟨n, rfl, h2, -⟩
      exact h h2
/-- The boxes of two notes. -/
structure BoxR (W : World) (p q : Nat) (a b : Rd) : Prop where
  a : W.heap[p]? = some (.cells #[.string a.tb, .int .i64 a.kd, .string a.lo, .string a.hi] 31 (0, 0))
  b : W.heap[q]? = some (.cells #[.string b.tb, .int .i64 b.kd, .string b.lo, .string b.hi] 31 (0, 0))
theorem BoxR.out {F : Nat → Prop} {W W' : World} {p q : Nat} {a b : Rd} (h : BoxR W p q a b) (g : Out F W W') (hp : ¬ F p) (hq : ¬ F q) : BoxR W' p q a b :=
  ⟨(g.block p (Array.getElem?_eq_some_iff.1 h.a).1 hp).trans h.a, (g.block q (Array.getElem?_eq_some_iff.1 h.b).1 hq).trans h.b⟩
theorem BoxR.below {W W' : World} {p q : Nat} {a b : Rd} (h : BoxR W p q a b) (g : Below W.heap.size W W') : BoxR W' p q a b :=
  ⟨(g.block p (Array.getElem?_eq_some_iff.1 h.a).1).trans h.a, (g.block q (Array.getElem?_eq_some_iff.1 h.b).1).trans h.b⟩
theorem BoxR.cells {W : World} {p q : Nat} {a b : Rd} (h : BoxR W p q a b) : W.cell? ⟨p, 0, none⟩ = some (.string a.tb) ∧ W.cell? ⟨p, 1, none⟩ = some (.int .i64 a.kd) ∧ W.cell? ⟨p, 2, none⟩ = some (.string a.lo) ∧ W.cell? ⟨p, 3, none⟩ = some (.string a.hi) ∧ W.cell? ⟨q, 0, none⟩ = some (.string b.tb) ∧ W.cell? ⟨q, 1, none⟩ = some (.int .i64 b.kd) ∧ W.cell? ⟨q, 2, none⟩ = some (.string b.lo) ∧ W.cell? ⟨q, 3, none⟩ = some (.string b.hi) :=
  ⟨cell_of_row _ _ 0 _ _ _ h.a, cell_of_row _ _ 1 _ _ _ h.a, cell_of_row _ _ 2 _ _ _ h.a, cell_of_row _ _ 3 _ _ _ h.a, cell_of_row _ _ 0 _ _ _ h.b, cell_of_row _ _ 1 _ _ _ h.b, cell_of_row _ _ 2 _ _ _ h.b, cell_of_row _ _ 3 _ _ _ h.b⟩
/-- Two books apart from each other, behind the boxes. -/
structure Duo (w W : World) (p q : Nat) (a b : Rd) (Gr Gs : Nat → Prop) (r s : Nat) (La Lb : List Nt) : Prop where
  box : BoxR W p q a b
  mr : M9 W Gr r 1 La
  ms : M9 W Gs s 1 Lb
  gr : ∀ k, Gr k → w.heap.size + 2 ≤ k
  gs : ∀ k, Gs k → w.heap.size + 2 ≤ k ∧ ¬ Gr k
  bel : Below w.heap.size w W
theorem Duo.below {w W W' : World} {p q : Nat} {a b : Rd} {Gr Gs : Nat → Prop} {r s : Nat} {La Lb : List Nt} (h : Duo w W p q a b Gr Gs r s La Lb) (g : Below W.heap.size W W') : Duo w W' p q a b Gr Gs r s La Lb :=
  ⟨h.box.below g, api9.below h.mr g, api9.below h.ms g, h.gr, h.gs, below_next h.bel g⟩
theorem Duo.first {w W W' : World} {p q : Nat} {a b : Rd} {Gr Gs G' : Nat → Prop} {r s : Nat} {La Lb L' : List Nt} (h : Duo w W p q a b Gr Gs r s La Lb) (hp : p < w.heap.size + 2) (hq : q < w.heap.size + 2) (m : M9 W' G' r 1 L') (hG : ∀ k, G' k → Gr k ∨ W.heap.size ≤ k) (o : Out Gr W W') (hz : w.heap.size + 2 ≤ W.heap.size) : Duo w W' p q a b G' Gs r s L' Lb :=
  ⟨h.box.out o (fun hg => by have := h.gr _ hg; omega) (fun hg => by have := h.gr _ hg; omega), m, api9.stays h.ms (o.mono fun k _ hk hs => (h.gs k hs).2 hk),
    fun k hk => by
      rcases hG k hk with h1 | h1
      · exact h.gr k h1
      · omega,
    fun k hk => ⟨(h.gs k hk).1, fun hg => by
      rcases hG k hg with h1 | h1
      · exact (h.gs k hk).2 h1
      · have := api9.lt h.ms k hk; omega⟩,
    h.bel.trans (o.below h.bel.size fun i hi hg => by have := h.gr i hg; omega)⟩
theorem Duo.second {w W W' : World} {p q : Nat} {a b : Rd} {Gr Gs G' : Nat → Prop} {r s : Nat} {La Lb L' : List Nt} (h : Duo w W p q a b Gr Gs r s La Lb) (hp : p < w.heap.size + 2) (hq : q < w.heap.size + 2) (m : M9 W' G' s 1 L') (hG : ∀ k, G' k → Gs k ∨ W.heap.size ≤ k) (o : Out Gs W W') (hz : w.heap.size + 2 ≤ W.heap.size) : Duo w W' p q a b Gr G' r s La L' :=
  ⟨h.box.out o (fun hg => by have := (h.gs _ hg).1; omega) (fun hg => by have := (h.gs _ hg).1; omega), api9.stays h.mr (o.mono fun k _ hk hs => (h.gs k hk).2 hs), m, h.gr,
    fun k hk => by
      rcases hG k hk with h1 | h1
      · exact h.gs k h1
      · exact ⟨by omega, fun hg => by have := api9.lt h.mr k hg; omega⟩,
    h.bel.trans (o.below h.bel.size fun i hi hg => by have := (h.gs i hg).1; omega)⟩

set_option maxHeartbeats 16000000 in
theorem walk_SireadHolds (a b : Rd) (key : ByteArray) (w : World) (ha : RdIs a) (hb : RdIs b) (hk : key.size ≤ 140737488351232) :
    Calls Try.prog 5 #[.agg #[.string a.tb, .int .i64 a.kd, .string a.lo, .string a.hi], .agg #[.string b.tb, .int .i64 b.kd, .string b.lo, .string b.hi], .string key] w fun e w' => e = .returned (.bool true) ∧ Below w.heap.size w w' := by
  obtain ⟨W1, hW1⟩ : ∃ W, w.alloc (.cells #[.string a.tb, .int .i64 a.kd, .string a.lo, .string a.hi] 31) = W := ⟨_, rfl⟩
  obtain ⟨W, hW⟩ : ∃ W, W1.alloc (.cells #[.string b.tb, .int .i64 b.kd, .string b.lo, .string b.hi] 31) = W := ⟨_, rfl⟩
  have HW1 := Lib.hid hW1
  have HW := Lib.hid hW
  have b1 : Below w.heap.size w W1 := by rw [← hW1]; exact below_alloc9 _ _
  have b2 : Below W1.heap.size W1 W := by rw [← hW]; exact below_alloc9 _ _
  have HB := Lib.hid (below_next b1 b2)
  have hz1 : W1.heap.size = w.heap.size + 1 := by rw [← hW1]; simp
  have hz2 : W.heap.size = w.heap.size + 2 := by rw [← hW]; simp [hz1]
  have q1 := rd_box w a
  rw [hW1] at q1
  have q1 := (b2.block _ (by omega)).trans q1
  have q2 := rd_box W1 b
  rw [hW, hz1] at q2
  obtain ⟨p, hp⟩ : ∃ p, w.heap.size = p := ⟨_, rfl⟩
  obtain ⟨q, hq⟩ : ∃ q, p + 1 = q := ⟨_, rfl⟩
  have HX := Lib.hid (show BoxR W p q a b by rw [← hq, ← hp]; exact ⟨q1, q2⟩)
  have HPQ := Lib.hid (show p < w.heap.size + 2 ∧ q < w.heap.size + 2 by omega)
  have HZ := Lib.hid hz2
  have CW := Lib.hid (fun W => api9.new W 1 (by omega) (by omega))
  have CL := Lib.hid (fun W => wlive9 api9 W)
  have CA := Lib.hid (fun W G r (h : M9 W G r 1 []) => api9.note h 1 a (by decide) ⟨ha.lo, ha.tb⟩)
  have CB := Lib.hid (fun W G r (h : M9 W G r 1 []) => api9.note h 1 b (by decide) ⟨hb.lo, hb.tb⟩)
  have CP := Lib.hid (fun W => api9.covers W a b ha.lo hb.lo)
  have CQ := Lib.hid (fun W => wrCovers W a b (by have := ha.lo; omega) (by have := hb.lo; omega))
  have RA := Lib.hid (fun W G r L (h : M9 W G r 1 L) => api9.readers h a.tb key ha.tb hk)
  have RB := Lib.hid (fun W G r L (h : M9 W G r 1 L) => api9.readers h b.tb key hb.tb hk)
  simp only [note_one] at CA CB
  unfold rdV at CA CB CP CQ
  have HP := Lib.hid hp
  have HQ := Lib.hid hq
  have TB := Lib.hid (fun (h : coversP a b = true) => covers_table h)
  have HH := Lib.hid (fun (h : coversP a b = true) (hb : hasP b b.tb key = true) => (show hasP a a.tb key = true by
    have := covers_has h hb
    rw [← covers_table h] at this; exact this))
  have CV := Lib.hid (fun (h : coversP a b = true) => (show mayP a = true ∧ mayP b = true by
    unfold coversP at h
    simp only [Bool.and_eq_true] at h
    exact h.1.1.1))
  clear hW1 hW b1 b2 hz1 hz2 q1 q2 hp hq ha hb hk
  go_enter Try.func5, Try.ntmps5
  go_upto_region 1 with fail
  rw [HW1.out, HW.out, HP.out, HQ.out]
  go_upto_region 2 with (go_at_call 20; go_loud (refine (CW.out _).mono ?_; rintro e w1 ⟨r, Gr, rfl, m1, g1, b1⟩; have M1 := Lib.hid m1; have G1 := Lib.hid g1; have B1 := Lib.hid b1; clear m1 g1 b1))
  go_upto_region 3 with (go_at_call 20; go_loud (refine (CW.out _).mono ?_; rintro e w2 ⟨s, Gs, rfl, m2, g2, b2⟩; have D2 := Lib.hid (show Duo w w2 p q a b Gr Gs r s [] [] from ⟨(HX.out.below B1.out).below b2, api9.below M1.out b2, m2, fun k hk => by have := G1.out k hk; have := HZ.out; omega, fun k hk => by have h1 := g2 k hk; have h2 := B1.out.size; have h3 := HZ.out; exact ⟨by omega, fun hg => by have := api9.lt M1.out k hg; omega⟩, below_next (below_next HB.out B1.out) b2⟩); have Z2 := Lib.hid (show w.heap.size + 2 ≤ w2.heap.size by have := HZ.out; have := B1.out.size; have := b2.size; omega); clear m2 g2 b2))
  clear M1 G1 B1 HX HW1 HW HB HZ CW
  go_upto_region 5 with (go_at_call 11; go_loud (refine (CL.out _).mono ?_; rintro e w3 ⟨rfl, b3⟩; have D3 := Lib.hid (D2.out.below b3); have Z3 := Lib.hid (show w.heap.size + 2 ≤ w3.heap.size by have := Z2.out; have := b3.size; omega); clear b3))
  clear D2 Z2 CL
  have S0 := D3.out.box.cells
  obtain ⟨za, La, hza⟩ : ∃ z L, (if mayP a = true then ((0 : Int), [((1 : Int), a)]) else (1, [])) = (z, L) := ⟨_, _, rfl⟩
  obtain ⟨zb, Lb, hzb⟩ : ∃ z L, (if mayP b = true then ((0 : Int), [((1 : Int), b)]) else (1, [])) = (z, L) := ⟨_, _, rfl⟩
  rw [hza] at CA
  rw [hzb] at CB
  dsimp only at CA CB
  have HZA := Lib.hid hza
  have HZB := Lib.hid hzb
  clear hza hzb
  go_region_held3 (fun w' => w'.cell? ⟨p, 0, none⟩ = some (.string a.tb) ∧ w'.cell? ⟨p, 1, none⟩ = some (.int .i64 a.kd) ∧ w'.cell? ⟨p, 2, none⟩ = some (.string a.lo) ∧ w'.cell? ⟨p, 3, none⟩ = some (.string a.hi) ∧ w'.cell? ⟨q, 0, none⟩ = some (.string b.tb) ∧ w'.cell? ⟨q, 1, none⟩ = some (.int .i64 b.kd) ∧ w'.cell? ⟨q, 2, none⟩ = some (.string b.lo) ∧ w'.cell? ⟨q, 3, none⟩ = some (.string b.hi))
    (first | exact S0 | exact SA | exact SB)
    (first
      | (go_at_call 12; go_loud (refine (CB.out _ _ _ D5.out.ms).mono ?_; rintro e w6 ⟨rfl, G6, t6, g6, o6⟩; have D6 := Lib.hid (D5.out.second HPQ.out.1 HPQ.out.2 t6 g6 o6 Z5.out); have SB := D6.out.box.cells; clear t6 g6 o6))
      | (go_at_call 12; go_loud (refine (CA.out _ _ _ (D3.out.below (Below.refl w3.heap.size w3).drew).mr).mono ?_; rintro e w5 ⟨rfl, G5, t5, g5, o5⟩; have D5 := Lib.hid ((D3.out.below (Below.refl w3.heap.size w3).drew).first HPQ.out.1 HPQ.out.2 t5 g5 o5 (Nat.le_trans Z3.out (Below.refl w3.heap.size w3).drew.size)); have Z5 := Lib.hid (show w.heap.size + 2 ≤ w5.heap.size from Nat.le_trans (Nat.le_trans Z3.out (Below.refl w3.heap.size w3).drew.size) o5.size); have SA := D5.out.box.cells; clear t5 g5 o5)))
  all_goals
    obtain ⟨x0, x1, x2, x3, x4, x5, x6, x7⟩ := D6.out.box.cells
    have HBE := Lib.hid D6.out.bel
    clear S0 SA SB D3 D5 CA CB
    have hza := HZA.out
    have hzb := HZB.out
    clear HZA HZB
    by_cases ma : mayP a = true
    · rw [if_pos ma] at hza
      simp only [Prod.mk.injEq] at hza
      obtain ⟨rfl, rfl⟩ := hza
      by_cases mb : mayP b = true
      · rw [if_pos mb] at hzb
        simp only [Prod.mk.injEq] at hzb
        obtain ⟨rfl, rfl⟩ := hzb
        by_cases hz : coversP a b = true
        · have htb := TB.out hz
          rw [hz] at CP
          have RS := Lib.hid (fun W (g : Below w6.heap.size w6 W) => RB.out W _ _ _ (D6.out.below g).ms)
          have HR := Lib.hid (fun (hb : hasP b b.tb key = true) => HH.out hz hb)
          rw [tx_one] at RS
          clear CQ TB HH CV RB hz ma mb
          rw [← htb] at x4 RS HR
          by_cases hb : hasP b a.tb key = true
          · rw [if_pos hb] at RS
            have RR := Lib.hid (fun W (g : Below w6.heap.size w6 W) => RA.out W _ _ _ (D6.out.below g).mr)
            rw [tx_one, if_pos (HR.out hb)] at RR
            clear RA HR hb htb
            go_wp2_with (first
              | (go_at_call 18; go_loud (refine (CP.out _).mono ?_; rintro e w7 ⟨rfl, b7⟩; have B7 := Lib.hid b7; have D7 := Lib.hid (D6.out.below b7); replace x0 := keep_below x0 b7; replace x1 := keep_below x1 b7; replace x2 := keep_below x2 b7; replace x3 := keep_below x3 b7; replace x4 := keep_below x4 b7; replace x5 := keep_below x5 b7; replace x6 := keep_below x6 b7; replace x7 := keep_below x7 b7; clear b7))
              | (go_at_call 21; go_loud (refine (RR.out _ B8.out).mono ?_; rintro e w9 ⟨v9, rfl, o9, b9⟩; obtain ⟨A9, c9, hv9, -⟩ := o9.num rfl; replace hv9 : v9 = .slice A9 1 c9 := hv9; subst hv9; have B9 := Lib.hid (below_next B8.out b9); clear o9 b9))
              | (go_at_call 21; go_loud (refine (RS.out _ B7.out).mono ?_; rintro e w8 ⟨v8, rfl, o8, b8⟩; obtain ⟨A8, c8, hv8, -⟩ := o8.num rfl; replace hv8 : v8 = .slice A8 1 c8 := hv8; subst hv8; have B8 := Lib.hid (below_next B7.out b8); replace x0 := keep_below x0 b8; replace x1 := keep_below x1 b8; replace x2 := keep_below x2 b8; replace x3 := keep_below x3 b8; replace x4 := keep_below x4 b8; replace x5 := keep_below x5 b8; replace x6 := keep_below x6 b8; replace x7 := keep_below x7 b8; clear o8 b8)))
            go_ret
            exact ⟨by simp, below_next HBE.out B9.out⟩
          · rw [if_neg hb] at RS
            clear RA HR hb htb
            go_wp2_with (first
              | (go_at_call 18; go_loud (refine (CP.out _).mono ?_; rintro e w7 ⟨rfl, b7⟩; have B7 := Lib.hid b7; have D7 := Lib.hid (D6.out.below b7); replace x0 := keep_below x0 b7; replace x1 := keep_below x1 b7; replace x2 := keep_below x2 b7; replace x3 := keep_below x3 b7; replace x4 := keep_below x4 b7; replace x5 := keep_below x5 b7; replace x6 := keep_below x6 b7; replace x7 := keep_below x7 b7; clear b7))
              | (go_at_call 21; go_loud (refine (RS.out _ B7.out).mono ?_; rintro e w8 ⟨v8, rfl, o8, b8⟩; obtain ⟨A8, c8, hv8, -⟩ := o8.num rfl; replace hv8 : v8 = .slice A8 0 c8 := hv8; subst hv8; have B8 := Lib.hid (below_next B7.out b8); clear o8 b8)))
            go_ret
            exact ⟨by simp, below_next HBE.out B8.out⟩
        · have hz' : coversP a b = false := by simpa using hz
          rw [hz'] at CP CQ
          clear TB HH CV RA RB hz hz' ma mb
          go_wp2_with (first
            | (go_at_call 18; go_loud (refine (CP.out _).mono ?_; rintro e w7 ⟨rfl, b7⟩; have B7 := Lib.hid b7; replace x0 := keep_below x0 b7; replace x1 := keep_below x1 b7; replace x2 := keep_below x2 b7; replace x3 := keep_below x3 b7; replace x4 := keep_below x4 b7; replace x5 := keep_below x5 b7; replace x6 := keep_below x6 b7; replace x7 := keep_below x7 b7; clear b7))
            | (go_at_call 19; go_loud (refine (CQ.out _).mono ?_; rintro e w8 ⟨rfl, b8⟩; have B8 := Lib.hid (below_next B7.out b8); clear b8)))
          go_ret
          exact ⟨rfl, below_next HBE.out B8.out⟩
      · rw [if_neg mb] at hzb
        simp only [Prod.mk.injEq] at hzb
        obtain ⟨rfl, rfl⟩ := hzb
        clear TB HH CV RA RB CP CQ ma mb
        go_wp2
        go_ret
        exact ⟨rfl, HBE.out⟩
    · rw [if_neg ma] at hza
      simp only [Prod.mk.injEq] at hza
      obtain ⟨rfl, rfl⟩ := hza
      clear TB HH CV RA RB CP CQ ma
      go_wp2
      go_ret
      exact ⟨rfl, HBE.out⟩
end Go.Proofs.Ytcpifanhmkblmaa
