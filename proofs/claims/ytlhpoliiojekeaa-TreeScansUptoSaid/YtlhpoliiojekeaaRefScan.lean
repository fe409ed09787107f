/- The reference's Scan. -/
import Derived.Test.YtlhpoliiojekeaaRefPut
import Derived.Test.YtlhpoliiojekeaaRef5
import Derived.Laws.Cover1
import Derived.WalkLawsBesides
namespace Go.Proofs.Ytlhpoliiojekeaa
set_option maxRecDepth 100000
open Go.RowKit

/-- The pairs from one key on, below another. -/
def scanP (ps : List Pr) (lo hi : ByteArray) : List Pr := ps.filter fun p => !kl p.1 lo && kl p.1 hi
theorem scanP_succ {ps : List Pr} {j : Nat} {p : Pr} (hp : ps[j]? = some p) (lo hi : ByteArray) : scanP (ps.take (j + 1)) lo hi = scanP (ps.take j) lo hi ++ if (!kl p.1 lo && kl p.1 hi) = true then [p] else [] := by
  unfold scanP
  rw [List.take_add_one, hp, List.filter_append]
  simp only [Option.toList, List.filter_cons, List.filter_nil]
theorem scanP_len (ps : List Pr) (lo hi : ByteArray) : (scanP ps lo hi).length ≤ ps.length := List.length_filter_le ..

set_option maxHeartbeats 4000000 in
theorem wrefScan {w : World} {A : Option Addr} {n c : Nat} {ps : List Pr} (hr : PB w A n ps) (hn : n ≤ 4000000) (lo hi : ByteArray) :
    Calls Try.prog 15 #[.slice A n c, .string lo, .string hi] w fun e w' => ∃ v, e = .returned v ∧ PO w.heap.size w' v (scanP ps lo hi) ∧ Gw w w' := by
  have HR := Lib.hid hr
  have HL := Lib.hid hr.1
  have HN := Lib.hid hn
  clear hr
  go_enter Try.func15, Try.ntmps15
  go_upto_region 3 with fail
  go_loopw [7, 8] (fun v i' wr => ∃ j : Nat, i' = .int .i64 (j : Nat) ∧ j ≤ n ∧ PO w.heap.size wr v (scanP (ps.take j) lo hi) ∧ Gw w wr) (fun _ i' _ => n - (intOf i').toNat)
  case atStart => exact ⟨0, rfl, Nat.zero_le _, PO.nil _ _, Gw.refl _⟩
  case round =>
    rename World => wr
    obtain ⟨j, rfl, hj, hO, hG⟩ := hrel
    by_cases hlt : j < n
    · obtain ⟨⟨k, z⟩, hp⟩ : ∃ p, ps[j]? = some p := ⟨_, List.getElem?_eq_getElem (by have := HL.out; omega)⟩
      obtain ⟨b, o, rfl, c0, c1⟩ := (HR.out.gw hG).num hp
      have i1 : (j : Int) < (n : Int) := by omega
      have lb : (j : Int) ≤ 4000000 := by omega
      have HLT := Lib.hid hlt
      have HS := Lib.hid (scanP_succ hp lo hi)
      have HB := Lib.hid (show (scanP (ps.take j) lo hi).length ≤ 4000000 by
        have := scanP_len (ps.take j) lo hi
        rw [List.length_take] at this
        omega)
      have HO := Lib.hid hO
      have HG := Lib.hid hG
      clear hj hlt hp hO hG hn
      dsimp only at c0 c1
      cases h1 : kl k lo
      · cases h2 : kl k hi
        · have HE := Lib.hid (show scanP (ps.take (j + 1)) lo hi = scanP (ps.take j) lo hi by rw [HS.out]; simp [h1, h2])
          unfold kl at h1 h2
          go_wp2
          go_roundw
          case rel => exact ⟨j + 1, by go_num, by have := HLT.out; omega, by rw [HE.out]; exact HO.out, HG.out⟩
          case measure => have := HLT.out; simp [intOf]; omega
        · have HE := Lib.hid (show scanP (ps.take (j + 1)) lo hi = scanP (ps.take j) lo hi ++ [(k, z)] by rw [HS.out]; simp [h1, h2])
          unfold kl at h1 h2
          go_wp2_with (at_builtin; go_loud (refine po_append (by rfl) (.tmp 31) (.tmp 36) (by rfl) w.heap.size _ (scanP (ps.take j) lo hi) (by rfl) (World.ownsRow.alloc HO.out _) (some ⟨wr.heap.size, 0, none⟩) 1 1 [(k, z)] (by rfl) (PB.bl (Bl.here (by decide) rfl)) (by have := HB.out; omega) ((HG.out.alloc _).size) ?_; intro v4 w4 o4 b4; have O4 := Lib.hid o4; have B4 := Lib.hid (show Gw w w4 from Below.trans (HG.out.alloc _) b4); clear o4 b4))
          go_roundw
          case rel => exact ⟨j + 1, by go_num, by have := HLT.out; omega, by rw [HE.out]; exact O4.out, B4.out⟩
          case measure => have := HLT.out; simp [intOf]; omega
      · have HE := Lib.hid (show scanP (ps.take (j + 1)) lo hi = scanP (ps.take j) lo hi by rw [HS.out]; simp [h1])
        unfold kl at h1
        go_wp2
        go_roundw
        case rel => exact ⟨j + 1, by go_num, by have := HLT.out; omega, by rw [HE.out]; exact HO.out, HG.out⟩
        case measure => have := HLT.out; simp [intOf]; omega
    · have i1 : ¬ (j : Int) < (n : Int) := by omega
      have HE := Lib.hid (show ps.take j = ps by rw [List.take_of_length_le]; have := HL.out; omega)
      have HO := Lib.hid hO
      have HG := Lib.hid hG
      clear hj hlt hO hG
      go_wp2
      go_ret
      exact ⟨_, rfl, by have := HO.out; rw [HE.out] at this; exact this, HG.out⟩
end Go.Proofs.Ytlhpoliiojekeaa
