/- Nodes as they are told, in memory; the reference's looks at one of them. -/
import Derived.Test.YtlhpoliiojekeaaRef5B
import Derived.Test.YtlhpoliiojekeaaFilled
import Derived.Laws.Cover1
namespace Go.Proofs.Ytlhpoliiojekeaa
set_option maxRecDepth 100000
open Go.RowKit

/-- A node as it is told. -/
structure TN where
  leaf : Bool
  ks : List ByteArray
  kids : List Nat
/-- Numbers that a slice in memory leads to. -/
def IA (w : World) (A : Option Addr) (n : Nat) (zs : List Nat) : Prop := zs.length = n ∧ (0 < n → ∃ ad, A = some ad ∧ ∀ (j : Nat) z, zs[j]? = some z → w.cell? (ad.add j) = some (.int .i64 (z : Int)))
theorem IA.gw {w w' : World} {A : Option Addr} {n : Nat} {zs : List Nat} (h : IA w A n zs) (hb : Gw w w') : IA w' A n zs :=
  ⟨h.1, fun hn => by
    obtain ⟨ad, e, hc⟩ := h.2 hn
    exact ⟨ad, e, fun j k hk => keep_below (hc j k hk) hb⟩⟩
theorem SA.gw {w w' : World} {A : Option Addr} {n : Nat} {ks : List ByteArray} (h : SA w A n ks) (hb : Gw w w') : SA w' A n ks := h.below hb
/-- The value of a node. -/
def TNv (w : World) (v : Value) (t : TN) : Prop := ∃ A c B d, v = .agg #[.bool t.leaf, .slice A t.ks.length c, .slice B t.kids.length d] ∧ SA w A t.ks.length t.ks ∧ IA w B t.kids.length t.kids
theorem TNv.gw {w w' : World} {v : Value} {t : TN} (h : TNv w v t) (hb : Gw w w') : TNv w' v t := by
  obtain ⟨A, c, B, d, rfl, h1, h2⟩ := h
  exact ⟨A, c, B, d, rfl, h1.gw hb, h2.gw hb⟩
/-- A key lies between. -/
def inB (low high : ByteArray) (bl ov : Bool) (k : ByteArray) : Bool := (!bl || !kl k low) && (!ov || kl k high)

set_option maxHeartbeats 2000000 in
theorem wholds (w : World) (low high k : ByteArray) (bl ov : Bool) : Calls Try.prog 62 #[.agg #[.string low, .string high, .bool bl, .bool ov], .string k] w fun e w' => e = .returned (.bool (inB low high bl ov k)) ∧ Gw w w' := by
  have ha := heap_alloc_new w (.cells #[.string low, .string high, .bool bl, .bool ov] 98)
  obtain ⟨W, hW⟩ : ∃ W, w.alloc (.cells #[.string low, .string high, .bool bl, .bool ov] 98) = W := ⟨_, rfl⟩
  rw [hW] at ha
  have c0 : W.cell? ⟨w.heap.size, 0, none⟩ = some (.string low) := by rw [cell_of_row _ _ _ _ _ _ ha]; rfl
  have c1 : W.cell? ⟨w.heap.size, 1, none⟩ = some (.string high) := by rw [cell_of_row _ _ _ _ _ _ ha]; rfl
  have c2 : W.cell? ⟨w.heap.size, 2, none⟩ = some (.bool bl) := by rw [cell_of_row _ _ _ _ _ _ ha]; rfl
  have c3 : W.cell? ⟨w.heap.size, 3, none⟩ = some (.bool ov) := by rw [cell_of_row _ _ _ _ _ _ ha]; rfl
  have HG := Lib.hid (show Gw w W by rw [← hW]; exact (Gw.refl _).alloc _)
  clear ha
  cases bl <;> cases ov
  · go_enter Try.func62, Try.ntmps62
    go_wp2
    go_ret
    exact ⟨by simp [inB], HG.out⟩
  · cases h2 : kl k high <;>
    · have HH := Lib.hid h2
      unfold kl at h2
      go_enter Try.func62, Try.ntmps62
      go_wp2
      go_ret
      exact ⟨by simp [inB, HH.out], HG.out⟩
  · cases h1 : kl k low <;>
    · have HH := Lib.hid h1
      unfold kl at h1
      go_enter Try.func62, Try.ntmps62
      go_wp2
      go_ret
      exact ⟨by simp [inB, HH.out], HG.out⟩
  · cases h1 : kl k low <;> cases h2 : kl k high <;>
    · have HH := Lib.hid h1
      have HH2 := Lib.hid h2
      unfold kl at h1 h2
      go_enter Try.func62, Try.ntmps62
      go_wp2
      go_ret
      exact ⟨by simp [inB, HH.out, HH2.out], HG.out⟩

/-- What is found of a tree: its struct in block F. -/
structure FmAt (w : World) (F : Nat) (nv : Value) (ord depth : Nat) (kv : Value) (nx : Int) (good : Bool) : Prop where
  row : w.heap[F]? = some (.cells #[nv, .int .i64 (ord : Nat), .int .i64 (depth : Nat), kv, .int .i64 nx, .bool good] 95 (0, 0))

set_option maxHeartbeats 4000000 in
theorem wfilledL {w : World} {F ord depth : Nat} {nv kv : Value} {nx : Int} {good root : Bool} (h : FmAt w F nv ord depth kv nx good) (h3 : 3 ≤ ord) (h64 : ord ≤ 64) (A B : Option Addr) (n c d : Nat) (h1 : n ≤ ord - 1) (h2 : root = true ∨ (ord - 1 + 1) / 2 ≤ n) :
    Calls Try.prog 61 #[.pointer (some ⟨F, 0, none⟩), .agg #[.bool true, .slice A n c, .slice B 0 d], .bool root] w fun e w' => e = .returned (.bool true) ∧ Gw w w' := by
  have ha := heap_alloc_new w (.cells #[.bool true, .slice A n c, .slice B 0 d] 62)
  obtain ⟨W, hW⟩ : ∃ W, w.alloc (.cells #[.bool true, .slice A n c, .slice B 0 d] 62) = W := ⟨_, rfl⟩
  rw [hW] at ha
  have HG := Lib.hid (show Gw w W by rw [← hW]; exact (Gw.refl _).alloc _)
  have c0 : W.cell? ⟨w.heap.size, 0, none⟩ = some (.bool true) := by rw [cell_of_row _ _ _ _ _ _ ha]; rfl
  have c1 : W.cell? ⟨w.heap.size, 1, none⟩ = some (.slice A n c) := by rw [cell_of_row _ _ _ _ _ _ ha]; rfl
  have c2 : W.cell? ⟨w.heap.size, 2, none⟩ = some (.slice B 0 d) := by rw [cell_of_row _ _ _ _ _ _ ha]; rfl
  have d1 : W.cell? ⟨F, 1, none⟩ = some (.int .i64 (ord : Nat)) := keep_below (by rw [cell_of_row _ _ _ _ _ _ h.row]; rfl) HG.out
  obtain ⟨o1, ho1⟩ : ∃ o1, ord - 1 = o1 := ⟨_, rfl⟩
  rw [ho1] at h1 h2
  have e1 : IntKind.i64.wrap ((ord : Int) - 1) = (o1 : Int) := by rw [IntKind.wrap_i64]; omega
  have CH := Lib.hid fun X => whalf X o1 (by omega)
  obtain ⟨q, hq⟩ : ∃ q, (o1 + 1) / 2 = q := ⟨_, rfl⟩
  rw [hq] at h2 CH
  have i1 : (n : Int) ≤ (o1 : Int) := by omega
  clear ha h ho1 hq
  cases root
  · have i2 : (q : Int) ≤ (n : Int) := by
      rcases h2 with h2 | h2
      · cases h2
      · omega
    clear h2
    go_enter Try.func61, Try.ntmps61
    go_wp2
    go_quiet ((go_at_call 51; exact Calls.quiet_of_same (CH.out _)))
    go_wp2
    go_ret
    exact ⟨by simp, HG.out.drewN _⟩
  · clear h2
    go_enter Try.func61, Try.ntmps61
    go_wp2
    go_quiet ((go_at_call 51; exact Calls.quiet_of_same (CH.out _)))
    go_wp2
    go_ret
    exact ⟨by simp, HG.out.drewN _⟩

set_option maxHeartbeats 8000000 in
theorem wfilledI {w : World} {F ord depth : Nat} {nv kv : Value} {nx : Int} {good root : Bool} (h : FmAt w F nv ord depth kv nx good) (h3 : 3 ≤ ord) (h64 : ord ≤ 64) (A B : Option Addr) (n c m d : Nat) (hm : m = n + 1) (h1 : m ≤ ord) (h2 : (if root then 2 else (ord + 1) / 2) ≤ m) :
    Calls Try.prog 61 #[.pointer (some ⟨F, 0, none⟩), .agg #[.bool false, .slice A n c, .slice B m d], .bool root] w fun e w' => e = .returned (.bool true) ∧ Gw w w' := by
  have ha := heap_alloc_new w (.cells #[.bool false, .slice A n c, .slice B m d] 62)
  obtain ⟨W, hW⟩ : ∃ W, w.alloc (.cells #[.bool false, .slice A n c, .slice B m d] 62) = W := ⟨_, rfl⟩
  rw [hW] at ha
  have HG := Lib.hid (show Gw w W by rw [← hW]; exact (Gw.refl _).alloc _)
  have c0 : W.cell? ⟨w.heap.size, 0, none⟩ = some (.bool false) := by rw [cell_of_row _ _ _ _ _ _ ha]; rfl
  have c1 : W.cell? ⟨w.heap.size, 1, none⟩ = some (.slice A n c) := by rw [cell_of_row _ _ _ _ _ _ ha]; rfl
  have c2 : W.cell? ⟨w.heap.size, 2, none⟩ = some (.slice B m d) := by rw [cell_of_row _ _ _ _ _ _ ha]; rfl
  have d1 : W.cell? ⟨F, 1, none⟩ = some (.int .i64 (ord : Nat)) := keep_below (by rw [cell_of_row _ _ _ _ _ _ h.row]; rfl) HG.out
  have CH := Lib.hid fun X => whalf X ord (by omega)
  obtain ⟨q, hq⟩ : ∃ q, (ord + 1) / 2 = q := ⟨_, rfl⟩
  rw [hq] at h2 CH
  have e1 : IntKind.i64.wrap ((n : Int) + 1) = (m : Int) := by rw [IntKind.wrap_i64]; omega
  have i1 : (m : Int) ≤ (ord : Int) := by omega
  clear ha h hq hm
  cases root
  · have i2 : (q : Int) ≤ (m : Int) := by simp at h2; omega
    clear h2
    go_enter Try.func61, Try.ntmps61
    go_wp2_with (go_at_call 51; refine (CH.out _).mono ?_; rintro e w1 ⟨rfl, hw⟩; replace hw := hw.symm; subst hw)
    go_quiet (fail)
    go_wp2
    go_ret
    exact ⟨by simp, HG.out.drewN _⟩
  · have i2 : (2 : Int) ≤ (m : Int) := by simp at h2; omega
    clear h2
    go_enter Try.func61, Try.ntmps61
    go_wp2_with (go_at_call 51; refine (CH.out _).mono ?_; rintro e w1 ⟨rfl, hw⟩; replace hw := hw.symm; subst hw)
    go_quiet (fail)
    go_wp2
    go_ret
    exact ⟨by simp, HG.out.drewN _⟩
end Go.Proofs.Ytlhpoliiojekeaa
