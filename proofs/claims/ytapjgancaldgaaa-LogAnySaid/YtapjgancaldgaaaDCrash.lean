/- The call of Crash. -/
import Derived.Test.YtapjgancaldgaaaDNone
import Derived.Test.YtapjgancaldgaaaDOpen
namespace Go.Proofs.Ytapjgancaldgaaa
set_option maxRecDepth 100000
open Go.RowKit

def keepOk (z : Int) : Prop := z = 0 ∨ z = 1 ∨ z = 2
instance (z : Int) : Decidable (keepOk z) := by unfold keepOk; infer_instance
def crashS (S : St) (ks : List Int) : St :=
  if S.pend.length < ks.length then S else if ∀ z ∈ ks, keepOk z then { S with last := layAll S.last S.pend ks, pend := [], off := false, plan := -1 } else S
def crashE (S : St) (ks : List Int) : Int := if S.pend.length < ks.length then 1 else if ∀ z ∈ ks, keepOk z then 0 else 1
theorem layAll_short : ∀ (ks : List Int) (xs : List Wr) (l : List Cn), layAll l (xs.take ks.length) ks = layAll l xs ks
  | [], xs, l => by cases xs <;> rfl
  | k :: ks, [], l => rfl
  | k :: ks, x :: xs, l => by
    show layAll (settleL l x k) (xs.take ks.length) ks = layAll (settleL l x k) xs ks
    exact layAll_short ks xs _

set_option maxHeartbeats 2000000 in
theorem dcrash {F : Nat → Prop} {w : World} {d : Nat} {S : St} (h : PD F w d S) (A : Option Addr) (n c : Nat) (ks : List Int) (hks : RI w A n ks) (hA : Far F A n) (hm : S.pend.length < 2199023255552) (hn2 : n ≤ 140737488355328) :
    Calls Try.prog 28 #[.pointer (some ⟨d, 0, none⟩), .slice A n c] w (Codes F w d (crashS S ks) (crashE S ks)) := by
  obtain ⟨nw, vl, vp, vn, h, hn⟩ := h
  have md := dmade h
  have hlen := hks.len
  have c1 := h.c1
  obtain ⟨Ap, capp, rfl, hAp⟩ := h.pgen
  unfold crashS crashE
  by_cases hl : S.pend.length < ks.length
  · rw [if_pos hl, if_pos hl]
    have HE := Lib.hid (codes (c := 1) h hn (Out.refl F w))
    have hl2 : (S.pend.length : Int) < (n : Int) := by omega
    clear h hn hl hks hlen
    go_enter Try.func28, Try.ntmps28
    go_wp2_with (go_at_call 49; refine md.mono ?_; rintro e w' ⟨rfl, rfl⟩)
    go_ret
    exact HE.out
  · rw [if_neg hl, if_neg hl]
    have hl2 : ¬ (S.pend.length : Int) < (n : Int) := by omega
    have hl3 : decide (S.pend.length < n) = false := by simp; omega
    have hl4 : decide ((S.pend.length : Int) < (n : Int)) = false := by simp; omega
    have H0 := Lib.hid h
    have HN := Lib.hid hn
    have HL := Lib.hid hlen
    clear h hn hl hlen
    by_cases hall : ∀ z ∈ ks, keepOk z
    · rw [if_pos hall, if_pos hall]
      have HALL := Lib.hid hall
      clear hall
      go_enter Try.func28, Try.ntmps28
      go_wp2_with (go_at_call 49; refine md.mono ?_; rintro e w' ⟨rfl, rfl⟩)
      clear md
      go_loopw [6, 22] (fun _ i wr => ∃ k : Nat, i = .int .i64 (k : Nat) ∧ k ≤ n ∧ w = wr ∧ ∀ j, j < k → keepOk (ks.getD j 0)) (fun _ i _ => n - (intOf i).toNat)
      case atStart => exact ⟨0, rfl, Nat.zero_le _, rfl, fun j hj => by omega⟩
      case round =>
        obtain ⟨k, rfl, hk, rfl, hok⟩ := hrel
        by_cases hlt : k < n
        · obtain ⟨b, o, rfl, hcell⟩ := hks.cell (by omega)
          have ck := hcell k hlt
          have hki : (k : Int) < (n : Int) := by omega
          obtain ⟨z, hz⟩ : ∃ z, ks.getD k 0 = z := ⟨_, rfl⟩
          have hzm : z ∈ ks := by
            have hkl : k < ks.length := by rw [HL.out]; exact hlt
            rw [← hz, List.getD_eq_getElem?_getD, List.getElem?_eq_getElem hkl]
            exact List.getElem_mem hkl
          rw [hz] at ck
          have HO := Lib.hid hok
          have HZ := Lib.hid hz
          clear hok hz hcell
          have hzk := HALL.out z hzm
          clear hzm
          have HZK := Lib.hid hzk
          rcases hzk with rfl | rfl | rfl
          all_goals
            go_wp2
            go_roundw
            case rel => exact ⟨k + 1, by go_num, hlt, by first | rfl | trivial, fun j hj => by
              rcases Nat.lt_or_ge j k with h1 | h1
              · exact HO.out j h1
              · rw [show j = k by omega, HZ.out]; exact HZK.out⟩
            case measure => simp [intOf]; omega
        · obtain rfl : k = n := by omega
          have HSH := Lib.hid (show layAll S.last (S.pend.take k) ks = layAll S.last S.pend ks by rw [← HL.out]; exact layAll_short _ _ _)
          have HKT := Lib.hid (show ks.take k = ks from List.take_of_length_le (by rw [HL.out]; exact Nat.le_refl _))
          have HPL := Lib.hid (show k ≤ S.pend.length by omega)
          clear hok
          go_wp2
          go_loopw [7, 8, 39] (fun _ _ i wr => ∃ j : Nat, i = .int .i64 (j : Nat) ∧ j ≤ k ∧ Dv F wr d { S with last := layAll S.last (S.pend.take j) (ks.take j) } nw vl (.slice Ap S.pend.length capp) vn ∧ Out F w wr) (fun _ _ i _ => k - (intOf i).toNat)
          case atStart => exact ⟨0, rfl, Nat.zero_le _, H0.out, Out.refl _ _⟩
          case round =>
            obtain ⟨j, rfl, hj, hd, ho⟩ := hrel
            by_cases hjt : j < k
            · obtain ⟨b, o, rfl, hcell⟩ := hks.cell (by omega)
              have hjp : j < S.pend.length := Nat.lt_of_lt_of_le hjt HPL.out
              obtain ⟨g, rfl⟩ := hAp (by omega)
              obtain ⟨x, hx⟩ : ∃ x, S.pend[j]? = some x := ⟨_, List.getElem?_eq_getElem hjp⟩
              obtain ⟨z, hz⟩ : ∃ z, ks[j]? = some z := ⟨_, List.getElem?_eq_getElem (by rw [HL.out]; exact hjt)⟩
              have hzk := HALL.out z (List.mem_of_getElem? hz)
              have hxm : x ∈ S.pend := List.mem_of_getElem? hx
              have hxb := hd.wf.pb x hxm
              have hxp := hd.wf.pp x hxm
              have cj : wr.cell? ⟨b, o + j, none⟩ = some (.int .i64 z) := by
                have := ho.cell (hcell j hjt) (hA ⟨b, o, none⟩ rfl (by omega))
                rw [this, List.getD_eq_getElem?_getD, hz]; rfl
              have c1w := hd.c1
              have HR := Lib.hid (hd.pendAt (x := x) hx)
              have HI := Lib.hid (show (Try.prog.info? 100).map (·.size) = some x.cells.length by rw [Wr.len hxb]; rfl)
              have se := dsettle hd x hxb hxp z hzk
              have HLA := Lib.hid (show settleL (layAll S.last (S.pend.take j) (ks.take j)) x z = layAll S.last (S.pend.take (j + 1)) (ks.take (j + 1)) by
                rw [List.take_add_one, List.take_add_one, hx, hz]
                exact (layAll_snoc _ _ _ _ _ (by simp [HL.out]; omega)).symm)
              have O2 := Lib.hid ho
              have hji : (j : Int) < (k : Int) := by omega
              have hji2 : (j : Int) < (S.pend.length : Int) := by omega
              clear hd ho hxm hxp hx hcell hz hzk
              go_wp2_with (first
                | (with_reducible refine wpList_load_mid rfl 100 (.tmp 50) rfl g (j * 65) rfl x.cells _ HR.out Try.underlying100 rfl HI.out ?_)
                | (go_at_call 56; refine se.mono ?_; rintro e w3 ⟨rfl, h3, o3⟩; have H3 := Lib.hid h3; have O3 := Lib.hid o3; clear h3 o3))
              go_roundw
              case rel =>
                have h3 := H3.out
                rw [HLA.out] at h3
                exact ⟨j + 1, by go_num, hjt, h3, O2.out.then O3.out⟩
              case measure => simp [intOf]; omega
            · obtain rfl : j = k := by omega
              rw [HKT.out, HSH.out] at hd
              have fg := dforget hd (by show S.pend.length ≤ _; omega)
              have HN2 := Lib.hid (nwok_none (S' := { S with last := layAll S.last S.pend ks, pend := [], off := false, plan := -1 }) HN.out (layAll_len _ _ _) rfl)
              have O2 := Lib.hid ho
              clear hd ho
              go_wp2_with (go_at_call 57; refine fg.mono ?_; rintro e w4 ⟨rfl, h4, o4⟩; have c3 := h4.c3; have f3 := h4.frozen 3; have c4 := h4.c4; have f4 := h4.frozen 4; have H4 := Lib.hid ((h4.setOff false).setPlan (-1) (by omega)); have O4 := Lib.hid (((O2.out.then o4).setCell (p := ⟨d, 3, none⟩) (.inl h4.fd) (.bool false)).setCell (p := ⟨d, 4, none⟩) (.inl h4.fd) (.int .i64 (-1))); clear h4 o4)
              go_ret
              exact codes H4.out HN2.out O4.out
    · rw [if_neg hall, if_neg hall]
      have HE := Lib.hid (codes (c := 1) H0.out HN.out (Out.refl F w))
      have HALL := Lib.hid hall
      clear hall
      go_enter Try.func28, Try.ntmps28
      go_wp2_with (go_at_call 49; refine md.mono ?_; rintro e w' ⟨rfl, rfl⟩)
      clear md
      go_loopw [6, 22] (fun _ i wr => ∃ k : Nat, i = .int .i64 (k : Nat) ∧ k ≤ n ∧ w = wr ∧ ∀ j, j < k → keepOk (ks.getD j 0)) (fun _ i _ => n - (intOf i).toNat)
      case atStart => exact ⟨0, rfl, Nat.zero_le _, rfl, fun j hj => by omega⟩
      case round =>
        obtain ⟨k, rfl, hk, rfl, hok⟩ := hrel
        by_cases hlt : k < n
        · obtain ⟨b, o, rfl, hcell⟩ := hks.cell (by omega)
          have ck := hcell k hlt
          have hki : (k : Int) < (n : Int) := by omega
          obtain ⟨z, hz⟩ : ∃ z, ks.getD k 0 = z := ⟨_, rfl⟩
          have hzm : z ∈ ks := by
            have hkl : k < ks.length := by rw [HL.out]; exact hlt
            rw [← hz, List.getD_eq_getElem?_getD, List.getElem?_eq_getElem hkl]
            exact List.getElem_mem hkl
          rw [hz] at ck
          have HO := Lib.hid hok
          have HZ := Lib.hid hz
          clear hok hz hcell
          clear hzm
          by_cases hzk : keepOk z
          · have HZK := Lib.hid hzk
            rcases hzk with rfl | rfl | rfl
            all_goals
              go_wp2
              go_roundw
              case rel => exact ⟨k + 1, by go_num, hlt, by first | rfl | trivial, fun j hj => by
                rcases Nat.lt_or_ge j k with h1 | h1
                · exact HO.out j h1
                · rw [show j = k by omega, HZ.out]; exact HZK.out⟩
              case measure => simp [intOf]; omega
          · have z0 : (z != 0) = true := by simp; rintro rfl; exact hzk (.inl rfl)
            have z1 : (z != 1) = true := by simp; rintro rfl; exact hzk (.inr (.inl rfl))
            have z2 : (z != 2) = true := by simp; rintro rfl; exact hzk (.inr (.inr rfl))
            clear hzk
            go_wp2
            go_ret
            exact HE.out
        · obtain rfl : k = n := by omega
          exact absurd (fun z hz => by
            obtain ⟨j, hj⟩ := List.getElem?_of_mem hz
            have hjl : j < ks.length := (List.getElem?_eq_some_iff.1 hj).1
            have := hok j (by rw [HL.out] at hjl; exact hjl)
            rw [List.getD_eq_getElem?_getD, hj] at this
            exact this) HALL.out
end Go.Proofs.Ytapjgancaldgaaa
