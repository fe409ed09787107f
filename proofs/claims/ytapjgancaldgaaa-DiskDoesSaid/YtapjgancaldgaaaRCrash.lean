/- The reference's Crash. -/
import Derived.Test.YtapjgancaldgaaaRSync
namespace Go.Proofs.Ytapjgancaldgaaa
set_option maxRecDepth 100000
open Go.RowKit

set_option maxHeartbeats 2000000 in
theorem rcrash {F : Nat → Prop} {w : World} {p : Nat} {S : St} (h : RD F w p S) (A : Option Addr) (n c : Nat) (ks : List Int) (hks : RI w A n ks) (hA : Far F A n) (hm : S.pend.length < 2199023255552) (hn2 : n ≤ 140737488355328) :
    Calls Try.prog 29 #[.pointer (some ⟨p, 0, none⟩), .slice A n c] w (RCodes F w p (crashS S ks) (crashE S ks)) := by
  obtain ⟨vs, gd, cd, gt, ct, vw, h⟩ := h
  have hlen := hks.len
  have c0 := h.cell 0
  have c5 := h.cell 5
  obtain ⟨Ap, capp, rfl⟩ := h.wait.form
  unfold crashS crashE
  by_cases hl : S.pend.length < ks.length
  · rw [if_pos hl, if_pos hl]
    have HE := Lib.hid (rcodes (c := 1) h (Out.refl F w))
    have hl2 : (S.pend.length : Int) < (n : Int) := by omega
    clear h hl hks hlen
    go_enter Try.func29, Try.ntmps29
    go_wp2
    go_ret
    exact HE.out
  · rw [if_neg hl, if_neg hl]
    have hl2 : ¬ (S.pend.length : Int) < (n : Int) := by omega
    have hl3 : decide (S.pend.length < n) = false := by simp; omega
    have hl4 : decide ((S.pend.length : Int) < (n : Int)) = false := by simp; omega
    have H0 := Lib.hid h
    have HL := Lib.hid hlen
    clear h hl hlen
    by_cases hall : ∀ z ∈ ks, keepOk z
    · rw [if_pos hall, if_pos hall]
      have HALL := Lib.hid hall
      clear hall
      go_enter Try.func29, Try.ntmps29
      go_wp2
      go_loopw [5] (fun i wr => ∃ k : Nat, i = .int .i64 (k : Nat) ∧ k ≤ n ∧ w = wr) (fun i _ => n - (intOf i).toNat)
      case atStart => exact ⟨0, rfl, Nat.zero_le _, rfl⟩
      case round =>
        obtain ⟨k, rfl, hk, rfl⟩ := hrel
        by_cases hlt : k < n
        · obtain ⟨b, o, rfl, hcell⟩ := hks.cell (by omega)
          have ck := hcell k hlt
          have hki : (k : Int) < (n : Int) := by omega
          obtain ⟨z, hz⟩ : ∃ z, ks.getD k 0 = z := ⟨_, rfl⟩
          have hzm : z ∈ ks := by
            have hkl : k < ks.length := by rw [HL.out]; exact hlt
            rw [← hz, List.getD_eq_getElem?_getD, List.getElem?_eq_getElem hkl]
            exact List.getElem_mem hkl
          rw [hz] at ck
          have hzk := HALL.out z hzm
          have z1 : ¬ z < 0 := by unfold keepOk at hzk; omega
          have z2 : ¬ 2 < z := by unfold keepOk at hzk; omega
          have z3 : decide (z < 0) = false := by simp; omega
          have z4 : decide (2 < z) = false := by simp; omega
          clear hz hcell hzm hzk
          go_wp2
          go_roundw
          case rel => exact ⟨k + 1, by go_num, hlt, by first | rfl | trivial⟩
          case measure => simp [intOf]; omega
        · obtain rfl : k = n := by omega
          have HSH := Lib.hid (show layAll S.last (S.pend.take k) ks = layAll S.last S.pend ks by rw [← HL.out]; exact layAll_short _ _ _)
          have HKT := Lib.hid (show ks.take k = ks from List.take_of_length_le (by rw [HL.out]; exact Nat.le_refl _))
          have HPL := Lib.hid (show k ≤ S.pend.length by omega)
          go_wp2
          go_loopw [6] (fun i wr => ∃ (j : Nat) (vs' : List Value), i = .int .i64 (j : Nat) ∧ j ≤ k ∧ Rf (Gr F w) wr p { S with last := layAll S.last (S.pend.take j) (ks.take j) } vs' gd cd gt ct (.slice Ap S.pend.length capp) ∧ Out F w wr) (fun i _ => k - (intOf i).toNat)
          case atStart => exact ⟨0, vs, rfl, Nat.zero_le _, H0.out.mono (fun _ _ hf => .inl hf), Out.refl _ _⟩
          case round =>
            obtain ⟨j, vs', rfl, hj, hR, hO⟩ := hrel
            have d5 := hR.cell 5
            by_cases hjt : j < k
            · obtain ⟨b, o, rfl, hcell⟩ := hks.cell (by omega)
              have hjp : j < S.pend.length := Nat.lt_of_lt_of_le hjt HPL.out
              obtain ⟨x, hx⟩ : ∃ x, S.pend[j]? = some x := ⟨_, List.getElem?_eq_getElem hjp⟩
              obtain ⟨g, cap, hgv, hgl, hgF, -, -, -, hrow⟩ := hR.wait.row (by show S.pend ≠ []; intro e; rw [e] at hjp; simp at hjp)
              injection hgv with hg1 hg2 hg3
              subst hg1
              subst hg3
              obtain ⟨bx, cb, p1, p2, hcb, rb, lb, fb, m1, m2, m3⟩ := hrow j x hx
              have hxb := hR.wf.pb x (List.mem_of_getElem? hx)
              have hxp := hR.wf.pp x (List.mem_of_getElem? hx)
              obtain ⟨z, hz⟩ : ∃ z, ks[j]? = some z := ⟨_, List.getElem?_eq_getElem (by rw [HL.out]; exact hjt)⟩
              have hzk := HALL.out z (List.mem_of_getElem? hz)
              have hbF : ¬ F b := hA ⟨b, o, none⟩ rfl (by omega)
              have hbl : b < w.heap.size := World.block_lt_of_cell? w _ (hcell 0 (by omega))
              have cj : wr.cell? ⟨b, o + j, none⟩ = some (.int .i64 z) := by
                rw [hO.cell (hcell j hjt) hbF, List.getD_eq_getElem?_getD, hz]; rfl
              have HL2 := Lib.hid (show settleL (layAll S.last (S.pend.take j) (ks.take j)) x z = layAll S.last (S.pend.take (j + 1)) (ks.take (j + 1)) by
                rw [List.take_add_one, List.take_add_one, hx, hz]
                exact (layAll_snoc _ _ _ _ _ (by simp [HL.out]; omega)).symm)
              have HR := Lib.hid (show wr.rangeAt g (j * 2) [.int .i64 (x.p : Int), .slice (some ⟨bx, 0, none⟩) 64 cb] from fun i v hv => by
                rcases i with _ | _ | i
                · simp at hv; subst hv; exact p1
                · simp at hv; subst hv; exact p2
                · simp at hv)
              have HI := Lib.hid (show (Try.prog.info? 114).map (·.size) = some [Value.int .i64 (x.p : Int), .slice (some ⟨bx, 0, none⟩) 64 cb].length by rfl)
              have HO := Lib.hid hO
              have HSZ := Lib.hid hO.size
              have hji : (j : Int) < (k : Int) := by omega
              have hjpi : (j : Int) < (S.pend.length : Int) := by omega
              have HN := Lib.hid (show ¬ Gr F w b from fun hf => by rcases hf with h1 | h1; exact hbF h1; omega)
              rcases hzk with rfl | rfl | rfl
              · have HR2 := Lib.hid hR
                clear hR hO hx hrow p1 p2 rb hz hcell
                go_wp2
                go_roundw
                case rel =>
                  refine ⟨j + 1, vs', by go_num, hjt, ?_, HO.out⟩
                  rw [← HL2.out]
                  exact HR2.out
                case measure => simp [intOf]; omega
              · have LY := Lib.hid (rlay hR x hxp hxb bx cb rb m3)
                clear hR hO hx hrow p1 p2 rb hz hcell
                go_wp2_with (first
                  | (with_reducible refine wpList_load_mid rfl 114 (.tmp 55) rfl g (j * 2) rfl [.int .i64 (x.p : Int), .slice (some ⟨bx, 0, none⟩) 64 cb] _ HR.out Try.underlying114 rfl HI.out ?_)
                  | (go_at_call 71; refine LY.out.mono ?_; rintro e w3 ⟨rfl, ⟨vs3, h3⟩, o3⟩; have H3 := Lib.hid h3; have O3 := Lib.hid o3; have cj3 := o3.cell cj HN.out; clear h3 o3))
                go_roundw
                case rel =>
                  have h3 := H3.out
                  refine ⟨j + 1, vs3, by go_num, hjt, ?_, out_gr HO.out O3.out⟩
                  rw [← HL2.out]
                  exact h3.mono (fun _ _ hf => gr_gr HSZ.out hf)
                case measure => simp [intOf]; omega
              · have TE := Lib.hid (rtear hR x.p hxp)
                clear hR hO hx hrow p2 rb hz hcell
                go_wp2_with (go_at_call 68; refine TE.out.mono ?_; rintro e w3 ⟨rfl, ⟨vs3, h3⟩, o3⟩; have H3 := Lib.hid h3; have O3 := Lib.hid o3; clear h3 o3)
                go_roundw
                case rel =>
                  have h3 := H3.out
                  refine ⟨j + 1, vs3, by go_num, hjt, ?_, out_gr HO.out O3.out⟩
                  rw [← HL2.out]
                  exact h3.mono (fun _ _ hf => gr_gr HSZ.out hf)
                case measure => simp [intOf]; omega
            · obtain rfl : j = k := by omega
              rw [HKT.out, HSH.out] at hR
              have f5 := hR.frozen 5
              have f2 := hR.frozen 2
              have f1 := hR.frozen 1
              have d2 := hR.cell 2
              have d1 := hR.cell 1
              have HZ := Lib.hid ((hR.setNone.setPlan (-1) (by omega)).setOff false)
              have HO := Lib.hid (((hO.setCell (p := ⟨p, 5, none⟩) (by rcases hR.fp with h1 | h1; exact .inl h1; exact .inr h1) (.slice none 0 0)).setCell (p := ⟨p, 2, none⟩) (by rcases hR.fp with h1 | h1; exact .inl h1; exact .inr h1) (.int .i64 (-1))).setCell (p := ⟨p, 1, none⟩) (by rcases hR.fp with h1 | h1; exact .inl h1; exact .inr h1) (.bool false))
              clear hR hO
              go_wp2
              go_ret
              exact ⟨rfl, ⟨_, _, _, _, _, _, HZ.out⟩, HO.out⟩
    · rw [if_neg hall, if_neg hall]
      have HE := Lib.hid (rcodes (c := 1) H0.out (Out.refl F w))
      have HALL := Lib.hid hall
      clear hall
      go_enter Try.func29, Try.ntmps29
      go_wp2
      go_loopw [5] (fun i wr => ∃ k : Nat, i = .int .i64 (k : Nat) ∧ k ≤ n ∧ w = wr ∧ ∀ j, j < k → keepOk (ks.getD j 0)) (fun i _ => n - (intOf i).toNat)
      case atStart => exact ⟨0, rfl, Nat.zero_le _, rfl, fun j hj => by omega⟩
      case round =>
        obtain ⟨k, rfl, hk, rfl, hok⟩ := hrel
        by_cases hlt : k < n
        · obtain ⟨b, o, rfl, hcell⟩ := hks.cell (by omega)
          have ck := hcell k hlt
          have hki : (k : Int) < (n : Int) := by omega
          obtain ⟨z, hz⟩ : ∃ z, ks.getD k 0 = z := ⟨_, rfl⟩
          rw [hz] at ck
          have HO := Lib.hid hok
          have HZ := Lib.hid hz
          clear hok hz hcell
          by_cases hzk : keepOk z
          · have HZK := Lib.hid hzk
            have z1 : ¬ z < 0 := by unfold keepOk at hzk; omega
            have z2 : ¬ 2 < z := by unfold keepOk at hzk; omega
            have z3 : decide (z < 0) = false := by simp; omega
            have z4 : decide (2 < z) = false := by simp; omega
            clear hzk
            go_wp2
            go_roundw
            case rel => exact ⟨k + 1, by go_num, hlt, by first | rfl | trivial, fun j hj => by
              rcases Nat.lt_or_ge j k with h1 | h1
              · exact HO.out j h1
              · rw [show j = k by omega, HZ.out]; exact HZK.out⟩
            case measure => simp [intOf]; omega
          · rcases Int.lt_or_le z 0 with hz0 | hz0
            · have z3 : decide (z < 0) = true := by simp; omega
              clear hzk
              go_wp2
              go_ret
              exact HE.out
            · have z3 : decide (z < 0) = false := by simp; omega
              have hz2 : 2 < z := by
                rcases Int.lt_or_le 2 z with h | h
                · exact h
                · exact absurd (show keepOk z by unfold keepOk; omega) hzk
              have z4 : decide (2 < z) = true := by simp; omega
              clear hzk
              go_wp2
              go_ret
              exact HE.out
        · obtain rfl : k = n := by omega
          exact absurd (fun z hz => by
            obtain ⟨j, hj⟩ := List.getElem?_of_mem hz
            have hjl : j < ks.length := (List.getElem?_eq_some_iff.1 hj).1
            have := hok j (by rw [HL.out] at hjl; exact hjl)
            rw [List.getD_eq_getElem?_getD, hj] at this
            exact this) HALL.out
end Go.Proofs.Ytapjgancaldgaaa
