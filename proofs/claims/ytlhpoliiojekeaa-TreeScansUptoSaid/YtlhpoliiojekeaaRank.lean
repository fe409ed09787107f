/- rank: how many keys below a node are below a key. -/
import Derived.Test.YtlhpoliiojekeaaGet
namespace Go.Proofs.Ytlhpoliiojekeaa
set_option maxRecDepth 100000
open Go.RowKit

theorem kidsP_snoc (kids : List Kid) (j : Nat) (x : Kid) (hx : kids[j]? = some x) : (kidsP (kids.take (j + 1))).length = (kidsP (kids.take j)).length + x.ps.length := by
  unfold kidsP
  rw [List.take_add_one, hx, Option.toList_some, List.flatMap_append, List.length_append]
  simp
theorem kidsP_take_le (kids : List Kid) (j : Nat) : (kidsP (kids.take j)).length ≤ (kidsP kids).length := by
  have : kidsP kids = kidsP (kids.take j) ++ kidsP (kids.drop j) := by
    unfold kidsP
    rw [← List.flatMap_append, List.take_append_drop]
  rw [this, List.length_append]; omega
/-- The kind's number of keys, as an interface's method. -/
theorem wcount {ord : Nat} {w : World} {d : Nat} {v : Value} {ps : List Pr} {m : Nat} (h : NodeAt ord w d v ps m) :
    (∃ g, v = lp g ∧ Calls Try.prog 95 #[.pointer (some ⟨g, 0, none⟩)] w fun e w' => e = .returned (.int .i64 (ps.length : Nat)) ∧ w' = w)
    ∨ (∃ g, v = ip g ∧ Calls Try.prog 96 #[.pointer (some ⟨g, 0, none⟩)] w fun e w' => e = .returned (.int .i64 (ps.length : Nat)) ∧ w' = w) := by
  rcases d with _ | d
  · obtain ⟨g, rfl, h, -⟩ := h
    exact .inl ⟨g, rfl, wcountL h⟩
  · obtain ⟨g, ks, kids, rfl, -, h, -⟩ := h
    exact .inr ⟨g, rfl, wcountI h⟩

set_option maxHeartbeats 4000000 in
theorem wrank (ord : Nat) (ho : ord ≤ 1000) (k : ByteArray) : ∀ (d : Nat) (w : World) (v : Value) (ps : List Pr) (m : Nat), NodeAt ord w d v ps m → Rises (keys ps) → m ≤ 1000 → ps.length ≤ 1152921504606846976 →
    Calls Try.prog 50 #[v, .string k] w fun e w' => e = .returned (.int .i64 (rk (keys ps) k : Nat)) ∧ ∃ j, w' = w.drewN j := by
  intro d
  induction d with
  | zero =>
    intro w v ps m h hr hm hp
    obtain ⟨g, rfl, ⟨A, c, B, e, h0, h1, h2, h3, h4⟩, rfl⟩ := h
    have c0 : w.cell? ⟨g, 0, none⟩ = some (.slice A ps.length c) := by rw [cell_of_row _ _ _ _ _ _ h0]; rfl
    rw [keysV_eq] at h1
    have CB := Lib.hid (wbin w A ps.length c (keys ps) k h1 hr (by omega))
    have t1 := ta_ll
    unfold lp
    clear h0 h1 h3 hr
    go_enter Try.func50, Try.ntmps50
    go_wp2_with (go_at_call 52; refine CB.out.mono ?_; rintro e w1 ⟨rfl, rfl⟩)
    go_ret
    exact ⟨rfl, ⟨0, rfl⟩⟩
  | succ d ih =>
    intro w v ps m h hr hm hp
    obtain ⟨g, ks, kids, rfl, rfl, hC, hF⟩ := h
    obtain ⟨x, hx⟩ := hC.kid k
    have hps : ps = kidsP (kids.take (pl ks k)) ++ (x.ps ++ kidsP (kids.drop (pl ks k + 1))) := hC.all.trans (kidsP_cut kids _ x hx)
    have hg : rk (keys ps) k = (kidsP (kids.take (pl ks k))).length + rk (keys x.ps) k := by
      conv => lhs; rw [hps]
      exact rk_mid (hC.front k) (hC.back k)
    have hxm := List.mem_of_getElem? hx
    have hxl : x.ps.length ≤ ps.length := by rw [hps]; simp; omega
    have CG := Lib.hid (ih w x.v x.ps x.m (hC.is x hxm) (rises_mid (by rw [← hps]; exact hr)) ((hF x hxm).le ho) (by omega))
    have CP := Lib.hid (wplace hC (by have := hC.num; omega) k)
    obtain ⟨ad, e, c1, c2, he⟩ := hC.cell_kid hx
    have i1 : pl ks k < kids.length := (List.getElem?_eq_some_iff.1 hx).1
    have HC := Lib.hid hC
    have hal : (kidsP kids).length ≤ 1152921504606846976 := by rw [← hC.all]; exact hp
    have hrl : rk (keys x.ps) k ≤ x.ps.length := by have := rk_le (keys x.ps) k; rw [keys_len] at this; exact this
    have hsum : (kidsP (kids.take (pl ks k))).length + rk (keys x.ps) k ≤ 1152921504606846976 := by rw [← hg]; have := rk_le (keys ps) k; rw [keys_len] at this; omega
    obtain ⟨i, hi⟩ : ∃ i, pl ks k = i := ⟨_, rfl⟩
    rw [hi] at CP c2 i1 hg hsum
    obtain ⟨q, hq⟩ : ∃ q, rk (keys x.ps) k = q := ⟨_, rfl⟩
    rw [hq] at CG hg hsum
    have i2 : (i : Int) < (kids.length : Int) := by omega
    have HG := Lib.hid hg
    have HAL := Lib.hid hal
    have t1 := ta_il
    have t2 := ta_ii
    have q1 : ∀ W, (Instr.slice 90 (.slice (some ad) kids.length e) none (some (.int .i64 (i : Int))) none).run Try.prog W = .ok (.slice (some ad) i e) W := fun W => run_upto elN okN W (some ad) kids.length e i (by omega)
    have hcells : ∀ (j : Nat) (y : Kid), kids[j]? = some y → w.cell? (ad.add j) = some y.v := by
      intro j y hy
      obtain ⟨ad', e', c1', c2', -⟩ := hC.cell_kid hy
      rw [c1] at c1'
      simp only [Option.some.injEq, Value.slice.injEq] at c1'
      rw [c1'.1]; exact c2'
    have HCE := Lib.hid hcells
    unfold ip
    clear hps hg hx hxm hC hF hr hi ih hal hrl hq hxl hcells
    go_enter Try.func50, Try.ntmps50
    go_upto_region 11 with (go_at_call 53; refine CP.out.mono ?_; rintro e w1 ⟨rfl, hw⟩; replace hw := hw.symm; subst hw)
    go_loopw [10, 40] (fun s i' wr => ∃ j : Nat, i' = .int .i64 (j : Nat) ∧ s = .int .i64 ((kidsP (kids.take j)).length : Nat) ∧ j ≤ i ∧ wr = w) (fun _ i' _ => i - (intOf i').toNat)
    case atStart => exact ⟨0, rfl, rfl, Nat.zero_le _, by first | rfl | trivial⟩
    case round =>
      obtain ⟨j, rfl, rfl, hj, rfl⟩ := hrel
      by_cases hlt : j < i
      · obtain ⟨y, hy⟩ : ∃ y, kids[j]? = some y := ⟨_, List.getElem?_eq_getElem (by omega)⟩
        have c3 := HCE.out j y hy
        have HN := Lib.hid (kidsP_snoc kids j y hy)
        have hle := kidsP_take_le kids (j + 1)
        obtain ⟨u, hu⟩ : ∃ u, (kidsP (kids.take j)).length = u := ⟨_, rfl⟩
        rw [hu] at HN ⊢
        have hub : (u : Int) + (y.ps.length : Int) ≤ 1152921504606846976 := by have := HN.out; have := HAL.out; omega
        have hji : (j : Int) < (i : Int) := by omega
        have HJ := Lib.hid hlt
        rcases wcount (HC.out.is y (List.mem_of_getElem? hy)) with ⟨g', hv, hc⟩ | ⟨g', hv, hc⟩
        · rw [hv] at c3
          have CC := Lib.hid hc
          unfold lp at c3
          clear hy hlt hle hu hv hc
          go_wp2_with (go_at_call 95; refine CC.out.mono ?_; rintro e w1 ⟨rfl, rfl⟩)
          go_roundw
          case rel => exact ⟨j + 1, by go_num, by rw [HN.out]; go_num, HJ.out, by first | rfl | trivial⟩
          case measure => have := HJ.out; simp [intOf]; omega
        · rw [hv] at c3
          have CC := Lib.hid hc
          unfold ip at c3
          clear hy hlt hle hu hv hc
          go_wp2_with (go_at_call 96; refine CC.out.mono ?_; rintro e w1 ⟨rfl, rfl⟩)
          go_roundw
          case rel => exact ⟨j + 1, by go_num, by rw [HN.out]; go_num, HJ.out, by first | rfl | trivial⟩
          case measure => have := HJ.out; simp [intOf]; omega
      · obtain rfl : j = i := by omega
        clear hlt hj
        go_wp2_with (go_at_call 50; refine CG.out.mono ?_; rintro e w1 ⟨rfl, jj, rfl⟩)
        go_ret
        exact ⟨by rw [HG.out]; go_num, ⟨_, rfl⟩⟩
end Go.Proofs.Ytlhpoliiojekeaa
