/- The walk of LockOwn: what is told is nobody's else. -/
import Derived.Test.YtghnafknbgmagaaLkLaw
namespace Go.Proofs.Ytghnafknbgmagaa
set_option maxRecDepth 100000
set_option maxRecDepth 100000
open Go.RowKit Go.Maps Go.ChangeMaps Go.MapKept

theorem RM.new8 (w : World) (most : Int) : RM (w.alloc (.cells #[.bool true, .int .i64 most, .slice none 0 0] 29)) w.heap.size most [] :=
  ⟨none, 0, heap_alloc_new _ _, SB.empty _ _, Nat.le_refl _, by simp [maxLen], by simp⟩
theorem SO.addr8 {E : SEl} {base n c : Nat} {w : World} {A : Option Addr} {xs : List Value} (h : SO E base w (.slice A n c) n xs) (hn : 0 < n) : ∃ g, A = some ⟨g, 0, none⟩ ∧ base ≤ g := by
  rcases h.own.2 with ⟨hv, -⟩ | ⟨g, cap, cur, hv, hb, -⟩
  · simp only [Value.slice.injEq] at hv; omega
  · simp only [Value.slice.injEq] at hv; exact ⟨g, hv.1, hb⟩
theorem SO.set8 {E : SEl} {base n c g : Nat} {w : World} {xs : List Value} (h : SO E base w (.slice (some ⟨g, 0, none⟩) n c) n xs) (j : Nat) {u : Value} (hu : u.oneCell' = true) : SO E base (w.setCell ⟨g, j, none⟩ u) (.slice (some ⟨g, 0, none⟩) n c) n (xs.set j u) :=
  ⟨(h.own.stored j u).1, by rw [List.length_set]; exact h.len, fun x hx => by
    rcases List.mem_or_eq_of_mem_set hx with hx | rfl
    · exact h.one x hx
    · exact hu⟩
def Strs (xs : List Value) : Prop := ∀ x, x ∈ xs → ∃ s, x = .string s
theorem Strs.set {xs : List Value} (h : Strs xs) (j : Nat) (s : ByteArray) : Strs (xs.set j (.string s)) := by
  intro x hx
  rcases List.mem_or_eq_of_mem_set hx with hx | rfl
  · exact h x hx
  · exact ⟨s, rfl⟩
theorem strs_cells (ls : List Lk) : Strs (cellsL ls) := by
  intro x hx
  simp only [cellsL, List.mem_flatMap] at hx
  obtain ⟨p, -, hx⟩ := hx
  simp at hx
  rcases hx with rfl | rfl <;> exact ⟨_, rfl⟩
def Ints8 (xs : List Value) : Prop := ∀ x, x ∈ xs → ∃ z, x = .int .i64 z
theorem Ints8.set {xs : List Value} (h : Ints8 xs) (j : Nat) (z : Int) : Ints8 (xs.set j (.int .i64 z)) := by
  intro x hx
  rcases List.mem_or_eq_of_mem_set hx with hx | rfl
  · exact h x hx
  · exact ⟨z, rfl⟩
theorem ints_numC (zs : List Int) : Ints8 (numC zs) := by
  intro x hx
  simp only [numC, List.mem_map] at hx
  obtain ⟨z, -, rfl⟩ := hx
  exact ⟨z, rfl⟩
theorem Strs.at_ {xs : List Value} (h : Strs xs) {j : Nat} (hj : j < xs.length) : ∃ s, xs[j]? = some (.string s) := by
  obtain ⟨s, hs⟩ := h xs[j] (List.getElem_mem _)
  exact ⟨s, by rw [List.getElem?_eq_getElem hj, hs]⟩
theorem Ints8.at_ {xs : List Value} (h : Ints8 xs) {j : Nat} (hj : j < xs.length) : ∃ z, xs[j]? = some (.int .i64 z) := by
  obtain ⟨s, hs⟩ := h xs[j] (List.getElem_mem _)
  exact ⟨s, by rw [List.getElem?_eq_getElem hj, hs]⟩

set_option maxHeartbeats 16000000 in
theorem walk_LockOwn (A1 : Option Addr) (n1 c1 : Nat) (z1 : List OpK) (tx : Int) (w : World) (h1 : RK w A1 n1 z1) (hn1 : n1 ≤ c1) (hc1 : c1 ≤ maxLen) (_ha1 : -9223372036854775808 ≤ tx ∧ tx ≤ 9223372036854775807) :
    Calls Try.prog 6 #[.slice A1 n1 c1, .int .i64 tx] w fun e w' => e = .returned (.bool true) ∧ Below w.heap.size w w' := by
  clear _ha1
  have CB := Lib.hid (fun W => wbegun8 W)
  have CN := Lib.hid (fun W => wkNew (w := W) (most := 64) (by omega))
  have CR := Lib.hid (fun W => wrNew W 64)
  rw [show newP 64 = _ from if_neg (by omega)] at CR
  have H1 := Lib.hid h1
  have HC := Lib.hid (show n1 ≤ 9223372036854775807 by simp only [maxLen] at hc1; omega)
  clear h1
  go_enter Try.func6, Try.ntmps6
  go_upto_region 5 with (first
    | (go_at_call 10; go_loud (refine (CB.out _).mono ?_; rintro e w0 ⟨rfl, b0⟩; have B0 := Lib.hid b0; clear b0))
    | (go_at_call 8; go_loud (refine (CN.out _).mono ?_; rintro e w1 ⟨rfl, m1, b1⟩; have M1 := Lib.hid m1; have B1 := Lib.hid b1; clear m1 b1))
    | (go_at_call 9; go_loud (refine (CR.out _).mono ?_; rintro e w2 ⟨rfl, b2⟩; have B2 := Lib.hid b2; clear b2)))
  obtain ⟨r, hr⟩ : ∃ r, w0.heap.size = r := ⟨_, rfl⟩
  obtain ⟨m, hm⟩ : ∃ m, r + 1 = m := ⟨_, rfl⟩
  obtain ⟨b, hb⟩ : ∃ b, w2.heap.size = b := ⟨_, rfl⟩
  obtain ⟨W3, hW3⟩ : ∃ W, w2.alloc (.cells #[.bool true, .int .i64 64, .slice none 0 0] 29) = W := ⟨_, rfl⟩
  rw [hr, hm] at M1
  have L3 := Lib.hid (show Law8 w W3 m r b 64 [] by
    have hr2 := RM.new8 w2 64
    have h2 : Below w1.heap.size w1 W3 := by rw [← hW3]; exact B2.out.alloc B2.out.size _
    rw [hW3, hb] at hr2
    have h3 := B1.out.size
    have h4 := B2.out.size
    have h5 := B0.out.size
    exact ⟨⟨M1.out.below h2, hr2⟩, below_next (below_next B0.out B1.out) h2, by omega, by omega, by omega⟩)
  rw [hW3, hr, hm, hb]
  clear hm hb hr hW3 M1 B0 B1 B2 CN CR CB
  go_upto_region 8 with fail
  go_loopw [30] (fun i wr => ∃ (j : Nat) (hs : List Hd), i = .int .i64 (j : Nat) ∧ j ≤ n1 ∧ Law8 w wr m r b 64 hs) (fun i _ => n1 - (intOf i).toNat)
  case atStart => exact ⟨0, [], rfl, Nat.zero_le _, L3.out⟩
  case round =>
    rename World => wr
    clear L3
    obtain ⟨j, hs, rfl, hj, hL⟩ := hrel
    by_cases hlt : j < n1
    · obtain ⟨x, hx⟩ : ∃ x, z1[j]? = some x := ⟨_, List.getElem?_eq_getElem (by have := H1.out.len; omega)⟩
      have HO := Lib.hid (H1.out.is x (List.mem_of_getElem? hx))
      obtain ⟨ab, ao, rfl, q0, q1, q2, q3, q4, q5, q6⟩ := (H1.out.below hL.bel).at_ hx
      have CS := Lib.hid (fun W (L : Law8 w W m r b 64 hs) => wstep8 L.two x HO.out)
      obtain ⟨kind, tx', snap, last, ⟨tb, ky⟩, hi⟩ := x
      dsimp only at q0 q1 q2 q3 q4 q5 q6 CS
      have i1 : (j : Int) < (n1 : Int) := by omega
      have jb : (j : Int) < 9223372036854775807 := by have := HC.out; omega
      have HLT := Lib.hid hlt
      obtain ⟨Y, hY⟩ : ∃ Y, wr.alloc (.cells #[.int .i64 kind, .int .i64 tx', .int .i64 snap, .int .i64 last, .string tb, .string ky, .string hi] 36) = Y := ⟨_, rfl⟩
      have HY := Lib.hid hY
      have rY := heap_alloc_new wr (.cells #[.int .i64 kind, .int .i64 tx', .int .i64 snap, .int .i64 last, .string tb, .string ky, .string hi] 36)
      rw [hY] at rY
      have gY : Below wr.heap.size wr Y := by rw [← hY]; exact (Below.refl _ _).alloc (Nat.le_refl _) _
      have y0 : Y.cell? ⟨wr.heap.size, 0, none⟩ = some (.int .i64 kind) := cell_of_row _ _ 0 _ _ _ rY
      have y1 : Y.cell? ⟨wr.heap.size, 1, none⟩ = some (.int .i64 tx') := cell_of_row _ _ 1 _ _ _ rY
      have y2 : Y.cell? ⟨wr.heap.size, 2, none⟩ = some (.int .i64 snap) := cell_of_row _ _ 2 _ _ _ rY
      have y3 : Y.cell? ⟨wr.heap.size, 3, none⟩ = some (.int .i64 last) := cell_of_row _ _ 3 _ _ _ rY
      have y4 : Y.cell? ⟨wr.heap.size, 4, none⟩ = some (.string tb) := cell_of_row _ _ 4 _ _ _ rY
      have y5 : Y.cell? ⟨wr.heap.size, 5, none⟩ = some (.string ky) := cell_of_row _ _ 5 _ _ _ rY
      have y6 : Y.cell? ⟨wr.heap.size, 6, none⟩ = some (.string hi) := cell_of_row _ _ 6 _ _ _ rY
      have LY := Lib.hid (hL.below gY)
      clear hx hL rY gY hlt hY
      go_upto_region 10 with fail
      rw [HY.out]
      clear q0 q1 q2 q3 q4 q5 q6
      by_cases hk0 : kind = 0
      · subst hk0
        go_wp2_with (go_at_call 14; go_loud (refine (CS.out _ LY.out).mono ?_; rintro e w8 ⟨rfl, t8, o8⟩; have L8 := Lib.hid (LY.out.step t8 o8); clear t8 o8))
        go_roundw
        case rel => exact ⟨j + 1, _, by go_num, HLT.out, L8.out⟩
        case measure => have := HLT.out; simp [intOf]; omega
      · have hk0' : (kind == 0) = false := by simpa using hk0
        clear hk0
        go_wp2
        go_roundw
        case rel => exact ⟨j + 1, _, by go_num, HLT.out, LY.out⟩
        case measure => have := HLT.out; simp [intOf]; omega
    · obtain rfl : j = n1 := by omega
      have i1 : ¬ (j : Int) < (j : Int) := by omega
      have L9 := Lib.hid hL
      have HN := Lib.hid (show hs.length ≤ 4000000 by have := hL.two.mg.len; have := hL.two.mg.m2; omega)
      have CH := Lib.hid (fun W (L : Law8 w W m r b 64 hs) => wkHeld L.two.mg tx)
      have CH2 := Lib.hid (fun W (L : Law8 w W m r b 64 hs) => wrHeld L.two.rm HN.out tx)
      have CW := Lib.hid (fun W (L : Law8 w W m r b 64 hs) => wkHolders L.two.mg ⟨#[116]⟩ ⟨#[]⟩ ⟨#[]⟩)
      have CW2 := Lib.hid (fun W (L : Law8 w W m r b 64 hs) => wrHolders L.two.rm HN.out ⟨#[116]⟩ ⟨#[]⟩ ⟨#[]⟩)
      have LA := Lib.hid (heldR_len hs tx)
      have LB := Lib.hid (whoR_len hs ⟨#[116]⟩ ⟨#[]⟩ ⟨#[]⟩)
      obtain ⟨qa, hqa⟩ : ∃ q, heldP hs tx = q := ⟨_, rfl⟩
      obtain ⟨qb, hqb⟩ : ∃ q, riseP (whoP hs ⟨#[116]⟩ ⟨#[]⟩ ⟨#[]⟩) = q := ⟨_, rfl⟩
      rw [hqa] at CH CH2 LA
      rw [hqb] at CW CW2 LB
      obtain ⟨na, hna⟩ : ∃ n, qa.length = n := ⟨_, rfl⟩
      obtain ⟨nb, hnb⟩ : ∃ n, qb.length = n := ⟨_, rfl⟩
      have NA := Lib.hid hna
      have NB := Lib.hid hnb
      have NAB := Lib.hid (show na ≤ 4000000 ∧ nb ≤ 4000000 by have := LA.out; have := LB.out; have := HN.out; omega)
      rw [hna] at CH CH2
      rw [hnb] at CW CW2
      clear hL hlt hj hqa hqb hna hnb LA LB
      go_upto_region 14 with fail
      go_loopw [44] (fun i wr => ∃ (k : Nat), i = .int .i64 (k : Nat) ∧ k ≤ 2 ∧ Law8 w wr m r b 64 hs) (fun i _ => 2 - (intOf i).toNat)
      case atStart => exact ⟨0, rfl, Nat.zero_le _, L9.out⟩
      case round =>
        rename World => wx
        clear L9 i1
        obtain ⟨k, rfl, hk, hL⟩ := hrel
        by_cases hk2 : k < 2
        · have i2 : (k : Int) < 2 := by omega
          have HK := Lib.hid hk2
          have HL := Lib.hid hL
          clear hL hk2 hk
          go_upto_region 19 with (first
            | (go_at_call 17; go_loud (refine (CH.out _ HL.out).mono ?_; rintro e w5 ⟨v5, rfl, o5, g5⟩; obtain ⟨A5, c5, rfl, s5, -⟩ := o5.form; have S5 := Lib.hid s5; have O5 := Lib.hid o5; have G5 := Lib.hid g5; have L5 := Lib.hid (HL.out.below g5); clear o5 g5 s5))
            | (go_at_call 19; go_loud (refine (CH2.out _ L5.out).mono ?_; rintro e w6 ⟨v6, rfl, o6, g6⟩; obtain ⟨A6, c6, rfl, s6, -⟩ := o6.form; have S6 := Lib.hid s6; have G6 := Lib.hid g6; clear o6 g6 s6))
            | (go_at_call 18; go_loud (have CC := wsameLocks (c1 := c5) (c2 := c6) (by rw [NA.out]; exact S5.out.gw G6.out) (by rw [NA.out]; exact S6.out) (by have := NAB.out; have := NA.out; omega); rw [NA.out] at CC; refine CC.mono ?_; rintro e w7 ⟨rfl, g7⟩; have G7 := Lib.hid (below_next G6.out g7); have O7 := Lib.hid (O5.out.below (below_next G6.out g7)); have B7 := Lib.hid (below_next G5.out (below_next G6.out g7)); clear g7 CC)))
          clear S5 S6 O5 G5 G6 L5 G7
          have wxs := Lib.hid (rfl : wx.heap.size = wx.heap.size)
          go_loopw [56] (fun i wr => ∃ (q : Nat) (xs : List Value), i = .int .i64 (q : Nat) ∧ q ≤ na ∧ SO seL wx.heap.size wr (.slice A5 na c5) na xs ∧ Strs xs ∧ Below wx.heap.size wx wr) (fun i _ => na - (intOf i).toNat)
          case atStart => exact ⟨0, _, rfl, Nat.zero_le _, O7.out, strs_cells _, B7.out⟩
          case round =>
            rename World => wy
            clear O7 B7
            obtain ⟨q, xs, rfl, hq, hO, hX, hB⟩ := hrel
            by_cases hlt : q < na
            · obtain ⟨g, rfl, hg⟩ := hO.addr8 (by omega)
              have hxl : xs.length = 2 * na := hO.len
              obtain ⟨s0, hs0⟩ := hX.at_ (j := q * 2) (by omega)
              obtain ⟨s1, hs1⟩ := hX.at_ (j := q * 2 + 1) (by omega)
              have d0 : wy.cell? ⟨g, q * 2, none⟩ = some (.string s0) := (hO.own.cellAt (q * 2) (by show q * 2 < na * 2; omega)).trans hs0
              have d1 : wy.cell? ⟨g, q * 2 + 1, none⟩ = some (.string s1) := (hO.own.cellAt (q * 2 + 1) (by show q * 2 + 1 < na * 2; omega)).trans hs1
              have f0 : wy.frozen? ⟨g, q * 2, none⟩ = false := hO.own.frozenAt _
              have f1 : wy.frozen? ⟨g, q * 2 + 1, none⟩ = false := hO.own.frozenAt _
              have HLT := Lib.hid hlt
              have HX := Lib.hid hX
              have HO := Lib.hid hO
              have HB := Lib.hid hB
              have HG := Lib.hid hg
              have i3 : (q : Int) < (na : Int) := by omega
              have qb' : (q : Int) ≤ 4000000 := by have := NAB.out; omega
              clear hX hO hB hg hlt hq hxl hs0 hs1
              go_wp2
              go_roundw
              case rel => exact ⟨q + 1, _, by go_num, HLT.out, (HO.out.set8 (q * 2) rfl).set8 (q * 2 + 1) rfl, (HX.out.set _ _).set _ _, (HB.out.setCell (p := ⟨g, q * 2, none⟩) HG.out _).setCell (p := ⟨g, q * 2 + 1, none⟩) HG.out _⟩
              case measure => have := HLT.out; simp [intOf]; omega
            · obtain rfl : q = na := by omega
              have i3 : ¬ (q : Int) < (q : Int) := by omega
              have LB := Lib.hid (HL.out.below hB)
              clear hO hX hB hlt hq
              go_upto_region 27 with (first
                | (go_at_call 20; go_loud (refine (CW.out _ LB.out).mono ?_; rintro e w5 ⟨v5, rfl, o5, g5⟩; obtain ⟨A7, c7, rfl, s5, -⟩ := o5.form; have S5 := Lib.hid (show SB w5 A7 nb (numC qb) by simpa [seN] using s5); have O5 := Lib.hid o5; have G5 := Lib.hid g5; have L5 := Lib.hid (LB.out.below g5); clear o5 g5 s5))
                | (go_at_call 22; go_loud (refine (CW2.out _ L5.out).mono ?_; rintro e w6 ⟨v6, rfl, o6, g6⟩; obtain ⟨A8, c8, rfl, s6, -⟩ := o6.form; have S6 := Lib.hid (show SB w6 A8 nb (numC qb) by simpa [seN] using s6); have G6 := Lib.hid g6; clear o6 g6 s6))
                | (go_at_call 21; go_loud (have CC := wsameNumbers (c1 := c7) (c2 := c8) (by rw [NB.out]; exact S5.out.gw G6.out) (by rw [NB.out]; exact S6.out) (by have := NAB.out; have := NB.out; omega); rw [NB.out] at CC; refine CC.mono ?_; rintro e w7 ⟨rfl, g7⟩; have G7 := Lib.hid (below_next G6.out g7); have O7 := Lib.hid (O5.out.below (below_next G6.out g7)); have B7 := Lib.hid (below_next G5.out (below_next G6.out g7)); clear g7 CC)))
              clear S5 S6 O5 G5 G6 L5 G7
              go_loopw [72] (fun i wr => ∃ (p : Nat) (xs : List Value), i = .int .i64 (p : Nat) ∧ p ≤ nb ∧ SO seN wy.heap.size wr (.slice A7 nb c7) nb xs ∧ Ints8 xs ∧ Below wy.heap.size wy wr) (fun i _ => nb - (intOf i).toNat)
              case atStart => exact ⟨0, _, rfl, Nat.zero_le _, O7.out, ints_numC _, B7.out⟩
              case round =>
                rename World => wz
                clear O7 B7
                obtain ⟨p, xs, rfl, hp, hO, hX, hB⟩ := hrel
                by_cases hlt : p < nb
                · obtain ⟨g, rfl, hg⟩ := hO.addr8 (by omega)
                  have hxl : xs.length = 1 * nb := hO.len
                  obtain ⟨s0, hs0⟩ := hX.at_ (j := p) (by omega)
                  have d0 : wz.cell? ⟨g, p, none⟩ = some (.int .i64 s0) := (hO.own.cellAt p (by show p < nb * 1; omega)).trans hs0
                  have f0 : wz.frozen? ⟨g, p, none⟩ = false := hO.own.frozenAt _
                  have HLT := Lib.hid hlt
                  have HX := Lib.hid hX
                  have HO := Lib.hid hO
                  have HB := Lib.hid hB
                  have HG := Lib.hid hg
                  have i4 : (p : Int) < (nb : Int) := by omega
                  have pb' : (p : Int) ≤ 4000000 := by have := NAB.out; omega
                  clear hX hO hB hg hlt hp hxl hs0
                  go_wp2
                  go_roundw
                  case rel => exact ⟨p + 1, _, by go_num, HLT.out, HO.out.set8 p rfl, HX.out.set _ _, HB.out.setCell (p := ⟨g, p, none⟩) HG.out _⟩
                  case measure => have := HLT.out; simp [intOf]; omega
                · obtain rfl : p = nb := by omega
                  have i4 : ¬ (p : Int) < (p : Int) := by omega
                  have LC := Lib.hid (LB.out.below hB)
                  clear hO hX hB hlt hp
                  go_wp2
                  go_roundw
                  case rel => exact ⟨k + 1, by go_num, HK.out, LC.out⟩
                  case measure => have := HK.out; simp [intOf]; omega
        · obtain rfl : k = 2 := by omega
          have HL := Lib.hid hL.bel
          clear hL hk2 hk
          go_wp2
          go_ret
          exact ⟨rfl, HL.out⟩
end Go.Proofs.Ytghnafknbgmagaa
