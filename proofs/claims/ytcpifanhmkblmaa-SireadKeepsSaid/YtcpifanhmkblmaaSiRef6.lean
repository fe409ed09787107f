/- Layer 9: the reference's put, Readers, Txns, Drop, Len. -/
import Derived.Test.YtcpifanhmkblmaaSiRef5
namespace Go.Proofs.Ytcpifanhmkblmaa
set_option maxRecDepth 100000
set_option maxRecDepth 100000
open Go.RowKit

set_option maxHeartbeats 16000000 in
theorem wrPut {w : World} {base : Nat} {v : Value} {l : List Int} (h : SO seN base w v l.length (numC l)) (hn : l.length ≤ 4000000) (hbs : base ≤ w.heap.size) (x : Int) :
    Calls Try.prog 45 #[v, .int .i64 x] w fun e w' => ∃ v', e = .returned v' ∧ SO seN base w' v' (insN l x).length (numC (insN l x)) ∧ Below w.heap.size w w' := by
  obtain ⟨A, c, rfl, hsb, hnc, hcm, hbl⟩ := h.form
  rw [show seN.s * l.length = l.length from Nat.one_mul _] at hsb
  have HO := Lib.hid h
  have HS := Lib.hid hsb
  have HN := Lib.hid hn
  have HC := Lib.hid (And.intro hnc hcm)
  have HBS := Lib.hid hbs
  obtain ⟨q, hq⟩ : ∃ q, plN l x = q := ⟨_, rfl⟩
  have HQ := Lib.hid hq
  have hql := plN_le l x
  rw [hq] at hql
  have HQL := Lib.hid hql
  clear h hsb hn hnc hcm hbl hq hql hbs
  go_enter Try.func45, Try.ntmps45
  go_upto_region 2 with fail
  go_loopw [5] (fun a' wz => ∃ a : Nat, a' = .int .i64 (a : Nat) ∧ a ≤ q ∧ wz = w) (fun a' _ => q - (intOf a').toNat)
  case atStart => exact ⟨0, rfl, Nat.zero_le _, rfl⟩
  case round =>
    obtain ⟨a, rfl, ha, hw⟩ := hrel
    subst hw
    by_cases haq : a < q
    · obtain ⟨y, hy⟩ : ∃ y, l[a]? = some y := ⟨_, List.getElem?_eq_getElem (by have := HQL.out; omega)⟩
      have i2 : y < x := plN_below l x a y (by rw [HQ.out]; exact haq) hy
      obtain ⟨g1, o1, rfl, cy⟩ := HS.out.at_ (numC_at hy)
      have i3 : (a : Int) < (l.length : Int) := by have := HQL.out; omega
      have l2 : (a : Int) ≤ 4000000 := by have := HN.out; have := HQL.out; omega
      have HAQ := Lib.hid haq
      clear hy ha haq
      go_wp2
      go_roundw
      case rel => exact ⟨a + 1, by go_num, HAQ.out, by first | trivial | rfl⟩
      case measure => have := HAQ.out; simp [intOf]; omega
    · have haq2 : a = q := by omega
      subst haq2
      rename World => wz
      obtain ⟨A2, hA2⟩ : ∃ A2, (if c = a then A else A.map (·.add (a * seN.s))) = A2 := ⟨_, rfl⟩
      have q1 : ∀ W, (Instr.slice 39 (.slice A l.length c) none (some (.int .i64 (a : Int))) none).run Try.prog W = .ok (.slice A a c) W := fun W => run_uptoE seN_ok W A l.length c a (by have := HQL.out; have := HC.out.1; omega)
      have q2 : ∀ W, (Instr.slice 39 (.slice A l.length c) (some (.int .i64 (a : Int))) none none).run Try.prog W = .ok (.slice A2 (l.length - a) (c - a)) W := fun W => by rw [← hA2]; exact run_fromE seN_ok W A l.length c a HQL.out HC.out.1
      have P1 := Lib.hid (show ∀ W, Below wz.heap.size wz W → SB W A (seN.s * a) (numC (l.take a)) from fun W hW => by
        have h1 := (HS.out.gw hW).take HQL.out
        rw [show seN.s * a = a from Nat.one_mul _, show numC (l.take a) = (numC l).take a by simp [numC]]
        exact h1)
      have P2 := Lib.hid (show ∀ W, Below wz.heap.size wz W → SB W A2 (seN.s * (l.length - a)) (numC (l.drop a)) from fun W hW => by
        have h0 : SB W A (seN.s * l.length) (numC l) := by rw [show seN.s * l.length = l.length from Nat.one_mul _]; exact HS.out.gw hW
        have h1 := h0.cut HQL.out HC.out.1
        rw [hA2, show seN.s * a = a from Nat.one_mul _] at h1
        rw [show numC (l.drop a) = (numC l).drop a by simp [numC]]
        exact h1)
      have L1 := Lib.hid (show (l.take a).length = a by rw [List.length_take]; have := HQL.out; omega)
      have HA2 := Lib.hid (show a ≤ 4000000 by have := HN.out; have := HQL.out; omega)
      clear hA2
      by_cases hqo : a < l.length
      · obtain ⟨y, hy⟩ : ∃ y, l[a]? = some y := ⟨_, List.getElem?_eq_getElem hqo⟩
        have i2 : ¬ y < x := plN_at l x y (by rw [HQ.out]; exact hy)
        obtain ⟨g1, o1, rfl, cy⟩ := HS.out.at_ (numC_at hy)
        have i3 : (a : Int) < (l.length : Int) := by omega
        have l2 : (a : Int) ≤ 4000000 := by have := HA2.out; omega
        have HY := Lib.hid hy
        clear hy ha haq hqo
        by_cases he : y = x
        · subst he
          have HIN := Lib.hid (show insN l y = l by unfold insN; rw [HQ.out, if_pos HY.out])
          go_wp2
          go_ret
          exact ⟨_, rfl, by rw [HIN.out]; exact HO.out, Below.refl _ _⟩
        · have he' : (y == x) = false := by simpa using he
          have HIN := Lib.hid (show insN l x = l.take a ++ [x] ++ l.drop a by unfold insN; rw [HQ.out, if_neg (by rw [HY.out]; simpa using he)])
          go_upto_region 8 with (at_builtin; go_loud (refine so_append seN_ok (by rfl) (.tmp 34) (.tmp 37) (by rfl) _ (by rfl) (SO.nil seN wz.heap.size _) _ a c (numC (l.take a)) (by rfl) (P1.out _ (Below.refl _ _)) (by have := HA2.out; omega) (by simp) ?_; intro v3 w3 o3 b3; have O3 := Lib.hid o3; have B3 := Lib.hid b3; clear o3 b3))
          go_upto_region 9 with (at_builtin; go_loud (refine so_append seN_ok (by rfl) (.tmp 39) (.tmp 41) (by rfl) _ (by rfl) (O3.out.alloc _) (some ⟨w3.heap.size, 0, none⟩) 1 1 (numC [x]) (by rfl) (sb_num w3 x) (by have := HA2.out; simp; omega) (by have := B3.out.size; simp; omega) ?_; intro v4 w4 o4 b4; have O4 := Lib.hid o4; have B4 := Lib.hid ((B3.out.alloc B3.out.size _).trans b4); clear o4 b4))
          go_wp2_with (at_builtin; go_loud (refine so_append seN_ok (by rfl) (.tmp 43) (.tmp 46) (by rfl) _ (by rfl) O4.out A2 (l.length - a) (c - a) (numC (l.drop a)) (by rfl) (P2.out _ B4.out) (by have := HA2.out; have := HN.out; omega) B4.out.size ?_; intro v5 w5 o5 b5; have O5 := Lib.hid o5; have B5 := Lib.hid (B4.out.trans b5); clear o5 b5))
          go_ret
          exact ⟨_, rfl, by rw [HIN.out]; exact O5.out.base HBS.out (by simp [numC]) (by simp [L1.out]; try omega), B5.out⟩
      · have i3 : ¬ (a : Int) < (l.length : Int) := by omega
        have HIN := Lib.hid (show insN l x = l.take a ++ [x] ++ l.drop a by unfold insN; rw [HQ.out, if_neg (by rw [List.getElem?_eq_none (by omega)]; simp)])
        clear ha haq hqo
        go_upto_region 8 with (at_builtin; go_loud (refine so_append seN_ok (by rfl) (.tmp 34) (.tmp 37) (by rfl) _ (by rfl) (SO.nil seN wz.heap.size _) _ a c (numC (l.take a)) (by rfl) (P1.out _ (Below.refl _ _)) (by have := HA2.out; omega) (by simp) ?_; intro v3 w3 o3 b3; have O3 := Lib.hid o3; have B3 := Lib.hid b3; clear o3 b3))
        go_upto_region 9 with (at_builtin; go_loud (refine so_append seN_ok (by rfl) (.tmp 39) (.tmp 41) (by rfl) _ (by rfl) (O3.out.alloc _) (some ⟨w3.heap.size, 0, none⟩) 1 1 (numC [x]) (by rfl) (sb_num w3 x) (by have := HA2.out; simp; omega) (by have := B3.out.size; simp; omega) ?_; intro v4 w4 o4 b4; have O4 := Lib.hid o4; have B4 := Lib.hid ((B3.out.alloc B3.out.size _).trans b4); clear o4 b4))
        go_wp2_with (at_builtin; go_loud (refine so_append seN_ok (by rfl) (.tmp 43) (.tmp 46) (by rfl) _ (by rfl) O4.out A2 (l.length - a) (c - a) (numC (l.drop a)) (by rfl) (P2.out _ B4.out) (by have := HA2.out; have := HN.out; omega) B4.out.size ?_; intro v5 w5 o5 b5; have O5 := Lib.hid o5; have B5 := Lib.hid (B4.out.trans b5); clear o5 b5))
        go_ret
        exact ⟨_, rfl, by rw [HIN.out]; exact O5.out.base HBS.out (by simp [numC]) (by simp [L1.out]; try omega), B5.out⟩

/-- The transactions of some notes, rising, each once. -/
def txP (L : List Nt) (f : Nt → Bool) : List Int := riseP ((L.filter f).map (·.1))
theorem txP_take {L : List Nt} {f : Nt → Bool} {j : Nat} {p : Nt} (hp : L[j]? = some p) : txP (L.take (j + 1)) f = if f p = true then insN (txP (L.take j) f) p.1 else txP (L.take j) f := by
  unfold txP riseP
  rw [filter_take hp, List.map_append, List.foldl_append]
  by_cases h : f p = true <;> simp [h]
theorem txP_len (L : List Nt) (f : Nt → Bool) (j : Nat) : (txP (L.take j) f).length ≤ L.length := by
  unfold txP
  have h1 := rise_len (((L.take j).filter f).map (·.1)) ((((L.take j).filter f).map (·.1))).length
  rw [List.take_length, List.length_map] at h1
  have h2 := filter_take_le L f j
  omega
set_option maxHeartbeats 16000000 in
theorem wrTxns {F : Nat → Prop} {w : World} {b most : Nat} {L : List Nt} (h : RN F w b most L) (hn : L.length ≤ 3000000) :
    Calls Try.prog 17 #[.pointer (some ⟨b, 0, none⟩)] w fun e w' => ∃ v, e = .returned v ∧ SO seN w.heap.size w' v (txP L fun _ => true).length (numC (txP L fun _ => true)) ∧ Below w.heap.size w w' := by
  have HR := Lib.hid h
  have HN := Lib.hid hn
  clear h hn
  go_enter Try.func17, Try.ntmps17
  go_upto_region 3 with fail
  go_loopw [3, 4] (fun lv i' wr => ∃ j : Nat, i' = .int .i64 (j : Nat) ∧ j ≤ L.length ∧ SO seN w.heap.size wr lv (txP (L.take j) fun _ => true).length (numC (txP (L.take j) fun _ => true)) ∧ Below w.heap.size w wr) (fun _ i' _ => L.length - (intOf i').toNat)
  case atStart => exact ⟨0, rfl, Nat.zero_le _, SO.nil _ _ _, Below.refl _ _⟩
  case round =>
    rename World => wr
    obtain ⟨j, rfl, hj, ho, hb⟩ := hrel
    have LE := txP_len L (fun _ => true) j
    obtain ⟨A, c, hbk, hsb, -⟩ := (HR.out.gw hb).ex
    have c2 : wr.cell? ⟨b, 1, none⟩ = some (.slice A L.length c) := cell_of_row _ _ 1 _ _ _ hbk
    by_cases hlt : j < L.length
    · obtain ⟨p, hp⟩ : ∃ p, L[j]? = some p := ⟨_, List.getElem?_eq_getElem hlt⟩
      have HT := txP_take (f := fun _ => true) hp
      rw [if_pos rfl] at HT
      have HT := Lib.hid HT
      obtain ⟨g, o, rfl, c0, -⟩ := hsb.note hp
      have CP := Lib.hid (wrPut ho (by have := HN.out; omega) hb.size p.1)
      have i1 : (j : Int) < (L.length : Int) := by omega
      have l1 : (j : Int) ≤ 4000000 := by have := HN.out; omega
      have HLT := Lib.hid hlt
      have HB := Lib.hid hb
      clear hp LE hj hlt ho hb hsb hbk
      go_wp2_with (go_at_call 45; go_loud (refine CP.out.mono ?_; rintro e w4 ⟨v4, rfl, o4, g4⟩; have O4 := Lib.hid o4; have G4 := Lib.hid (below_next HB.out g4); clear o4 g4))
      go_roundw
      case rel => exact ⟨j + 1, by go_num, HLT.out, by rw [HT.out]; exact O4.out, G4.out⟩
      case measure => have := HLT.out; simp [intOf]; omega
    · obtain rfl : j = L.length := by omega
      have i1 : ¬ (L.length : Int) < (L.length : Int) := by omega
      rw [List.take_length] at ho
      have HO := Lib.hid ho
      have HB := Lib.hid hb
      clear ho hb hsb hbk LE hlt hj
      go_wp2
      go_ret
      exact ⟨_, rfl, HO.out, HB.out⟩
set_option maxHeartbeats 16000000 in
theorem wrReaders {F : Nat → Prop} {w : World} {b most : Nat} {L : List Nt} (h : RN F w b most L) (hn : L.length ≤ 3000000) (t k : ByteArray) :
    Calls Try.prog 41 #[.pointer (some ⟨b, 0, none⟩), .string t, .string k] w fun e w' => ∃ v, e = .returned v ∧ SO seN w.heap.size w' v (txP L fun n => hasP n.2 t k).length (numC (txP L fun n => hasP n.2 t k)) ∧ Below w.heap.size w w' := by
  have HR := Lib.hid h
  have HN := Lib.hid hn
  clear h hn
  go_enter Try.func41, Try.ntmps41
  go_upto_region 3 with fail
  go_loopw [7, 8] (fun lv i' wr => ∃ j : Nat, i' = .int .i64 (j : Nat) ∧ j ≤ L.length ∧ SO seN w.heap.size wr lv (txP (L.take j) fun n => hasP n.2 t k).length (numC (txP (L.take j) fun n => hasP n.2 t k)) ∧ Below w.heap.size w wr) (fun _ i' _ => L.length - (intOf i').toNat)
  case atStart => exact ⟨0, rfl, Nat.zero_le _, SO.nil _ _ _, Below.refl _ _⟩
  case round =>
    rename World => wr
    obtain ⟨j, rfl, hj, ho, hb⟩ := hrel
    have LE := Lib.hid (txP_len L (fun n => hasP n.2 t k) j)
    obtain ⟨A, c, hbk, hsb, -⟩ := (HR.out.gw hb).ex
    have c2 : wr.cell? ⟨b, 1, none⟩ = some (.slice A L.length c) := cell_of_row _ _ 1 _ _ _ hbk
    by_cases hlt : j < L.length
    · obtain ⟨p, hp⟩ : ∃ p, L[j]? = some p := ⟨_, List.getElem?_eq_getElem hlt⟩
      have HT := txP_take (f := fun n => hasP n.2 t k) hp
      obtain ⟨g, o, rfl, c0, c1, c3, c4, c5⟩ := hsb.note hp
      obtain ⟨pt, px⟩ := p
      dsimp only at c0 c1 c3 c4 c5 HT
      have CH := Lib.hid (wrHas wr px t k)
      obtain ⟨hh, hhh⟩ : ∃ hh, hasP px t k = hh := ⟨_, rfl⟩
      rw [hhh] at CH HT
      unfold rdV at CH
      have i1 : (j : Int) < (L.length : Int) := by omega
      have l1 : (j : Int) ≤ 4000000 := by have := HN.out; omega
      have HLT := Lib.hid hlt
      have HB := Lib.hid hb
      have HO := Lib.hid ho
      have CP := Lib.hid (fun W (g : Below wr.heap.size wr W) => wrPut (HO.out.below g) (by have := HN.out; have := LE.out; omega) (Nat.le_trans HB.out.size g.size) pt)
      clear hp hj hlt ho hb hsb hbk hhh
      cases hh
      · rw [if_neg (by simp)] at HT
        have HT := Lib.hid HT
        go_wp2_with (go_at_call 60; go_loud (refine CH.out.mono ?_; rintro e w4 ⟨rfl, g4⟩; have G4 := Lib.hid g4; clear g4))
        go_roundw
        case rel => exact ⟨j + 1, by go_num, HLT.out, by rw [HT.out]; exact HO.out.below G4.out, below_next HB.out G4.out⟩
        case measure => have := HLT.out; simp [intOf]; omega
      · rw [if_pos rfl] at HT
        have HT := Lib.hid HT
        go_wp2_with (first
          | (go_at_call 60; go_loud (refine CH.out.mono ?_; rintro e w4 ⟨rfl, g4⟩; have G4 := Lib.hid g4; replace c0 := keep_below c0 g4; replace c2 := keep_below c2 g4; clear g4))
          | (go_at_call 45; go_loud (refine (CP.out _ G4.out).mono ?_; rintro e w5 ⟨v5, rfl, o5, g5⟩; have O5 := Lib.hid o5; have G5 := Lib.hid (below_next (below_next HB.out G4.out) g5); clear o5 g5)))
        go_roundw
        case rel => exact ⟨j + 1, by go_num, HLT.out, by rw [HT.out]; exact O5.out, G5.out⟩
        case measure => have := HLT.out; simp [intOf]; omega
    · obtain rfl : j = L.length := by omega
      have i1 : ¬ (L.length : Int) < (L.length : Int) := by omega
      rw [List.take_length] at ho
      have HO := Lib.hid ho
      have HB := Lib.hid hb
      clear ho hb hsb hbk hlt hj
      go_wp2
      go_ret
      exact ⟨_, rfl, HO.out, HB.out⟩
theorem wrLen {F : Nat → Prop} {w : World} {b most : Nat} {L : List Nt} (h : RN F w b most L) : Calls Try.prog 44 #[.pointer (some ⟨b, 0, none⟩)] w fun e w' => e = .returned (.int .i64 (L.length : Nat)) ∧ w' = w := by
  obtain ⟨A, c, hbk, -⟩ := h.ex
  have c2 : w.cell? ⟨b, 1, none⟩ = some (.slice A L.length c) := cell_of_row _ _ 1 _ _ _ hbk
  clear h hbk
  go_enter Try.func44, Try.ntmps44
  go_wp2
  go_ret
  exact ⟨rfl, rfl⟩
set_option maxHeartbeats 16000000 in
theorem wrDrop {F : Nat → Prop} {w : World} {b most : Nat} {L : List Nt} (h : RN F w b most L) (hn : L.length ≤ 3000000) (hF : ∀ k, w.heap.size ≤ k → F k) (t : Int) :
    Calls Try.prog 15 #[.pointer (some ⟨b, 0, none⟩), .int .i64 t] w fun e w' => e = .returned (.int .i64 (if t < 1 then 1 else 0)) ∧ RN F w' b most (if t < 1 then L else dropP L t) ∧ Out (fun k => k = b) w w' := by
  have HR := Lib.hid h
  have HN := Lib.hid hn
  have HF := Lib.hid hF
  clear hF
  by_cases ht : t < 1
  · rw [if_pos ht, if_pos ht]
    clear h hn
    go_enter Try.func15, Try.ntmps15
    go_wp2
    go_ret
    exact ⟨rfl, HR.out, Out.refl _ _⟩
  rw [if_neg ht, if_neg ht]
  clear h hn
  go_enter Try.func15, Try.ntmps15
  go_upto_region 5 with fail
  go_loopw [5, 6] (fun lv i' wr => ∃ j : Nat, i' = .int .i64 (j : Nat) ∧ j ≤ L.length ∧ SO seT w.heap.size wr lv (dropP (L.take j) t).length (cellsT (dropP (L.take j) t)) ∧ Below w.heap.size w wr) (fun _ i' _ => L.length - (intOf i').toNat)
  case atStart => exact ⟨0, rfl, Nat.zero_le _, SO.nil _ _ _, Below.refl _ _⟩
  case round =>
    rename World => wr
    obtain ⟨j, rfl, hj, ho, hb⟩ := hrel
    have LE := Lib.hid (filter_take_le L (fun n => !decide (n.1 = t)) j)
    obtain ⟨A, c, hbk, hsb, -⟩ := (HR.out.gw hb).ex
    have c2 : wr.cell? ⟨b, 1, none⟩ = some (.slice A L.length c) := cell_of_row _ _ 1 _ _ _ hbk
    have fz : wr.frozen? ⟨b, 1, none⟩ = false := frozen_of_row _ _ _ _ _ hbk
    have HBK := Lib.hid hbk
    have HO := Lib.hid ho
    have HB := Lib.hid hb
    by_cases hlt : j < L.length
    · obtain ⟨p, hp⟩ : ∃ p, L[j]? = some p := ⟨_, List.getElem?_eq_getElem hlt⟩
      have HT := filter_take (f := fun n => !decide (n.1 = t)) hp
      obtain ⟨g, o, rfl, c0, c1, c3, c4, c5⟩ := hsb.note hp
      obtain ⟨pt, px⟩ := p
      dsimp only at c0 c1 c3 c4 c5 HT
      have i1 : (j : Int) < (L.length : Int) := by omega
      have l1 : (j : Int) ≤ 4000000 := by have := HN.out; omega
      have HLT := Lib.hid hlt
      clear hp hj hlt ho hb hsb hbk
      by_cases hpt : pt = t
      · subst hpt
        rw [if_neg (by simp), List.append_nil] at HT
        have HT := Lib.hid HT
        go_wp2
        go_roundw
        case rel => exact ⟨j + 1, by go_num, HLT.out, by unfold dropP; rw [HT.out]; exact HO.out, HB.out⟩
        case measure => have := HLT.out; simp [intOf]; omega
      · have hpt' : (pt == t) = false := by simpa using hpt
        rw [if_pos (by simp [hpt])] at HT
        have HT := Lib.hid HT
        go_wp2_with (at_builtin; go_loud (refine so_append seT_ok (by rfl) (.tmp 28) (.tmp 36) (by rfl) _ (by rfl) (HO.out.alloc _) (some ⟨wr.heap.size, 0, none⟩) 1 1 (cellsT [(pt, px)]) (by rfl) (sb_note wr (pt, px)) (by have := LE.out; have := HN.out; unfold dropP; omega) (by have := HB.out.size; simp; omega) ?_; intro v3 w6 o6 b6; have O6 := Lib.hid o6; have B6 := Lib.hid ((HB.out.alloc HB.out.size _).trans b6); clear o6 b6))
        go_roundw
        case rel => exact ⟨j + 1, by go_num, HLT.out, by unfold dropP; rw [HT.out]; exact O6.out.base (Nat.le_refl _) (by rw [cellsT_app]; rfl) (by simp [dropP]), B6.out⟩
        case measure => have := HLT.out; simp [intOf]; omega
    · obtain rfl : j = L.length := by omega
      have i1 : ¬ (L.length : Int) < (L.length : Int) := by omega
      rw [List.take_length] at ho
      have HO := Lib.hid ho
      obtain ⟨A2, d2, rfl, -⟩ := ho.form
      clear ho hb hsb hbk hlt hj
      go_wp2
      go_ret
      have hset := RN.set HBK.out HO.out HR.out.lt HF.out
      exact ⟨rfl, hset.1, (Out.of_below HB.out _).then hset.2⟩
end Go.Proofs.Ytcpifanhmkblmaa
