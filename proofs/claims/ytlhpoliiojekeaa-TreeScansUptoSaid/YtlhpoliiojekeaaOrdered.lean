/- Lists of nodes in memory; ordered. -/
import Derived.Test.YtlhpoliiojekeaaTNode
namespace Go.Proofs.Ytlhpoliiojekeaa
set_option maxRecDepth 100000
open Go.RowKit

/-- The list of nodes that a slice leads to. -/
def NL (w : World) (A : Option Addr) (n : Nat) (L : List TN) : Prop := L.length = n ∧ (0 < n → ∃ b o, A = some ⟨b, o, none⟩ ∧ ∀ (j : Nat) t, L[j]? = some t → ∃ K ck B cb, w.cell? ⟨b, o + j * 3, none⟩ = some (.bool t.leaf) ∧
  w.cell? ⟨b, o + j * 3 + 1, none⟩ = some (.slice K t.ks.length ck) ∧ w.cell? ⟨b, o + j * 3 + 2, none⟩ = some (.slice B t.kids.length cb) ∧ VB w K t.ks.length (t.ks.map Value.string) ∧ IA w B t.kids.length t.kids)
theorem NL.gw {w w' : World} {A : Option Addr} {n : Nat} {L : List TN} (h : NL w A n L) (g : Gw w w') : NL w' A n L :=
  ⟨h.1, fun hn => by
    obtain ⟨b, o, e, hc⟩ := h.2 hn
    refine ⟨b, o, e, fun j t ht => ?_⟩
    obtain ⟨K, ck, B, cb, h0, h1, h2, h3, h4⟩ := hc j t ht
    exact ⟨K, ck, B, cb, keep_below h0 g, keep_below h1 g, keep_below h2 g, h3.gw g, h4.gw g⟩⟩
theorem NL.at_ {w : World} {A : Option Addr} {n j : Nat} {L : List TN} {t : TN} (h : NL w A n L) (ht : L[j]? = some t) : ∃ b o K ck B cb, A = some ⟨b, o, none⟩ ∧ w.cell? ⟨b, o + j * 3, none⟩ = some (.bool t.leaf) ∧
    w.cell? ⟨b, o + j * 3 + 1, none⟩ = some (.slice K t.ks.length ck) ∧ w.cell? ⟨b, o + j * 3 + 2, none⟩ = some (.slice B t.kids.length cb) ∧ VB w K t.ks.length (t.ks.map Value.string) ∧ IA w B t.kids.length t.kids := by
  have hlt := (List.getElem?_eq_some_iff.1 ht).1
  obtain ⟨b, o, e, hc⟩ := h.2 (by have := h.1; omega)
  obtain ⟨K, ck, B, cb, hh⟩ := hc j t ht
  exact ⟨b, o, K, ck, B, cb, e, hh⟩
/-- The number that comes ahead of node i's kids. -/
def off (L : List TN) (i : Nat) : Nat := 1 + ((L.take i).map fun t => t.kids.length).sum
theorem off_zero (L : List TN) : off L 0 = 1 := by simp [off]
theorem off_succ {L : List TN} {i : Nat} {t : TN} (h : L[i]? = some t) : off L (i + 1) = off L i + t.kids.length := by
  simp only [off]
  rw [List.take_add_one, h, Option.toList_some, List.map_append, List.sum_append]
  simp; omega
/-- Each node but the first one is a kid just once, in the order of the list. -/
structure Ordered (L : List TN) : Prop where
  kids : ∀ i t, L[i]? = some t → t.kids = List.range' (off L i) t.kids.length
  past : ∀ i t, L[i]? = some t → t.kids ≠ [] → i < off L i
  all : off L L.length = L.length
theorem off_mono (L : List TN) : ∀ (i j : Nat), i ≤ j → off L i ≤ off L j := by
  intro i j h
  induction j with
  | zero => rw [show i = 0 by omega]; exact Nat.le_refl _
  | succ j ih =>
    rcases Nat.eq_or_lt_of_le h with e | e
    · rw [e]; exact Nat.le_refl _
    · have h1 := ih (by omega)
      cases hj : L[j]? with
      | none =>
        have : L.take (j + 1) = L.take j := by rw [List.take_of_length_le (by rw [List.getElem?_eq_none_iff] at hj; omega), List.take_of_length_le (by rw [List.getElem?_eq_none_iff] at hj; omega)]
        unfold off at h1 ⊢
        rw [this]; exact h1
      | some t => rw [off_succ hj]; omega

set_option maxHeartbeats 8000000 in
theorem wordered {w : World} {A : Option Addr} {n c : Nat} {L : List TN} (h : NL w A n L) (hn : n ≤ 4000000) (hO : Ordered L) :
    Calls Try.prog 47 #[.slice A n c] w fun e w' => e = .returned (.bool true) ∧ w' = w := by
  have H := Lib.hid h
  have HL := Lib.hid h.1
  have HO := Lib.hid hO
  clear h hO
  go_enter Try.func47, Try.ntmps47
  go_upto_region 3 with fail
  go_loopw [3, 4] (fun nx i' wr => ∃ i : Nat, i' = .int .i64 (i : Nat) ∧ nx = .int .i64 (off L i : Nat) ∧ i ≤ n ∧ wr = w) (fun _ i' _ => n - (intOf i').toNat)
  case atStart => exact ⟨0, rfl, by rw [off_zero]; rfl, Nat.zero_le _, by first | rfl | trivial⟩
  case round =>
    obtain ⟨i, rfl, rfl, hi, rfl⟩ := hrel
    by_cases hlt : i < n
    · obtain ⟨t, ht⟩ : ∃ t, L[i]? = some t := ⟨_, List.getElem?_eq_getElem (by have := HL.out; omega)⟩
      obtain ⟨b, o, K, ck, B, cb, rfl, c0, c1, c2, -, hI⟩ := H.out.at_ ht
      have hk := HO.out.kids i t ht
      have hpast := HO.out.past i t ht
      have hsucc := off_succ ht
      have hmono := off_mono L (i + 1) L.length (by have := HL.out; omega)
      have hall := HO.out.all
      have hll := HL.out
      have HIA := Lib.hid hI
      obtain ⟨m, hm⟩ : ∃ m, t.kids.length = m := ⟨_, rfl⟩
      obtain ⟨p, hp⟩ : ∃ p, off L i = p := ⟨_, rfl⟩
      rw [hm] at c2 hk hsucc HIA
      rw [hp] at hk hpast hsucc ⊢
      have HK := Lib.hid hk
      have HS := Lib.hid hsucc
      have HP : Hid (0 < m → i < p) := Lib.hid fun h0 => hpast (fun e => by rw [e] at hm; simp at hm; omega)
      have hpm : p + m ≤ n := by omega
      have i1 : (i : Int) < (n : Int) := by omega
      have HLT := Lib.hid hlt
      clear ht hk hpast hsucc hmono hall hll hI hp hm hi hlt
      go_upto_region 6 with fail
      go_loopw [3, 5] (fun nx k' wi => ∃ k : Nat, k' = .int .i64 (k : Nat) ∧ nx = .int .i64 ((p : Int) + (k : Int)) ∧ k ≤ m ∧ wi = wr) (fun _ k' _ => m - (intOf k').toNat)
      case atStart => exact ⟨0, rfl, by simp, Nat.zero_le _, by first | rfl | trivial⟩
      case round =>
        obtain ⟨k, rfl, rfl, hk, rfl⟩ := hrel
        by_cases hkm : k < m
        · have hz : (List.range' p m)[k]? = some (p + k) := by rw [List.getElem?_range' (by omega)]; simp
          rw [← HK.out] at hz
          obtain ⟨adB, hB, cz⟩ := HIA.out.2 (by omega)
          subst hB
          have c3 := cz k _ hz
          have ez : ((p + k : Nat) : Int) = (p : Int) + (k : Int) := by omega
          rw [ez] at c3
          have hpi := HP.out (by omega)
          have j1 : (k : Int) < (m : Int) := by omega
          have j2 : ¬ (p : Int) + (k : Int) ≤ (i : Int) := by omega
          have j3 : ¬ (n : Int) ≤ (p : Int) + (k : Int) := by omega
          have j4 : (((p : Int) + (k : Int)) != ((p : Int) + (k : Int))) = false := by simp
          have jb : (p : Int) + (k : Int) ≤ 4000000 := by omega
          have kb : (k : Int) ≤ 4000000 := by omega
          have HKM := Lib.hid hkm
          clear hz cz hkm hk hpi ez
          go_wp2
          go_roundw
          case rel => exact ⟨k + 1, by go_num, by first | (congr 1; omega) | go_num | (rw [show ((k + 1 : Nat) : Int) = (k : Int) + 1 by omega, ← Int.add_assoc]), HKM.out, by first | rfl | trivial⟩
          case measure => have := HKM.out; simp [intOf]; omega
        · obtain rfl : k = m := by omega
          have j1 : ¬ (k : Int) < (k : Int) := by omega
          have ib : (i : Int) ≤ 4000000 := by omega
          clear hkm hk
          go_wp2
          go_roundw
          case rel => exact ⟨i + 1, by go_num, by rw [HS.out]; first | rfl | go_num, HLT.out, by first | rfl | trivial⟩
          case measure => have := HLT.out; simp [intOf]; omega
    · obtain rfl : i = n := by omega
      have hll := HL.out
      have he := HO.out.all
      rw [hll] at he
      have HE := Lib.hid he
      have i1 : ¬ (i : Int) < (i : Int) := by omega
      rw [he]
      clear hlt hi hll he
      go_wp2
      go_ret
      exact ⟨by simp, rfl⟩
end Go.Proofs.Ytlhpoliiojekeaa
