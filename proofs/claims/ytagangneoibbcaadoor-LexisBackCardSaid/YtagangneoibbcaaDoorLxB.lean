/- Layer 12: a reader in memory; look, hexDigit, signSize, found, wrong. -/
import Derived.Test.YtagangneoibbcaaDoorLxA
set_option linter.unusedVariables false
namespace Go.Proofs.YtagangneoibbcaaDoor
set_option maxRecDepth 100000
set_option maxRecDepth 100000
open Go.RowKit

def rdC (s : ByteArray) (i : Nat) (x : Tk) (f p : Int) : Array Value := #[.string s, .int .i64 (i : Nat), .int .i64 x.k, .string x.t, .int .i64 x.vk, .int .i64 x.vi, .bool false, .string x.vb, .complex .f64 0 0, .int .i64 (x.a : Nat), .int .i64 f, .int .i64 p]
/-- Block g is a reader. -/
def Rd (w : World) (g : Nat) (s : ByteArray) (i : Nat) (x : Tk) (f p : Int) : Prop := w.heap[g]? = some (.cells (rdC s i x f p) 50 (0, 0))
section
variable {w w' : World} {g i : Nat} {s : ByteArray} {x : Tk} {f p : Int}
theorem Rd.lt (h : Rd w g s i x f p) : g < w.heap.size := (Array.getElem?_eq_some_iff.1 h).1
theorem Rd.cell (h : Rd w g s i x f p) (o : Nat) : w.cell? ⟨g, o, none⟩ = (rdC s i x f p)[o]? := cell_of_row _ _ _ _ _ _ h
theorem Rd.frozen (h : Rd w g s i x f p) (o : Nat) : w.frozen? ⟨g, o, none⟩ = false := by unfold Rd at h; simp [World.frozen?, h]
theorem Rd.keep (h : Rd w g s i x f p) (hb : w'.heap[g]? = w.heap[g]?) : Rd w' g s i x f p := hb.trans h
theorem Rd.below (h : Rd w g s i x f p) (hb : Below w.heap.size w w') : Rd w' g s i x f p := h.keep (hb.block g h.lt)
theorem Rd.drewN (h : Rd w g s i x f p) (n : Nat) : Rd (w.drewN n) g s i x f p := h
theorem Rd.set_at (h : Rd w g s i x f p) (j : Nat) : Rd (w.setCell ⟨g, 1, none⟩ (.int .i64 (j : Nat))) g s j x f p := by
  unfold Rd at h ⊢
  simp [World.setCell, Array.getElem?_modify, h, rdC]
theorem Rd.set_place (h : Rd w g s i x f p) (q : Int) : Rd (w.setCell ⟨g, 11, none⟩ (.int .i64 q)) g s i x f q := by
  unfold Rd at h ⊢
  simp [World.setCell, Array.getElem?_modify, h, rdC]
theorem Rd.set_fault (h : Rd w g s i x f p) (q : Int) : Rd (w.setCell ⟨g, 10, none⟩ (.int .i64 q)) g s i x q p := by
  unfold Rd at h ⊢
  simp [World.setCell, Array.getElem?_modify, h, rdC]
theorem Rd.there (h : Rd w g s i x f p) : w.there g 2 8 := fun j hj => ⟨by
  rw [h.cell]; unfold rdC
  rw [Array.getElem?_eq_getElem (by simp; omega)]; rfl, h.frozen _⟩
theorem Rd.set_tok (h : Rd w g s i x f p) (y : Tk) : Rd (w.setCells g 2 y.cells) g s i y f p := by
  unfold Rd at h ⊢
  simp [World.setCells, Tk.cells, World.setCell, Array.getElem?_modify, h, rdC]
end

section
variable {w : World} {g i : Nat} {s : ByteArray} {x : Tk} {f p : Int}
set_option maxHeartbeats 2000000 in
theorem wLook (h : Rd w g s i x f p) (hi : i ≤ s.size) (hs : s.size ≤ 65536) :
    Calls Tryd.prog 38 #[.pointer (some ⟨g, 0, none⟩)] w fun e w' => e = .returned (.int .i32 (chP (strB s) i)) ∧ ∃ n, w' = w.drewN n := by
  have c0 : w.cell? ⟨g, 0, none⟩ = some (.string s) := h.cell 0
  have c1 : w.cell? ⟨g, 1, none⟩ = some (.int .i64 (i : Nat)) := h.cell 1
  by_cases hlt : i < s.size
  · have hc := chP_at s i hlt
    rw [hc]
    have hb := (s[i]).toNat_lt
    have i1 : ((i : Int) == (s.size : Int)) = false := by simp; omega
    clear hc h
    go_enter Tryd.func38, Tryd.ntmps38
    go_wp2
    go_quiet (fail)
    go_wp2
    go_quiet (fail)
    go_wp2
    go_ret
    exact ⟨rfl, _, World.drewN_drewN ..⟩
  · obtain rfl : i = s.size := by omega
    rw [chP_end _ _ (by rw [strB_len]; exact Nat.le_refl _)]
    have i1 : ((s.size : Int) == (s.size : Int)) = true := by simp
    clear h
    go_enter Tryd.func38, Tryd.ntmps38
    go_wp2
    go_quiet (fail)
    go_wp2
    go_ret
    exact ⟨rfl, _, rfl⟩
end
set_option maxHeartbeats 2000000 in
theorem wHex (c : Int) (w : World) (hc : -1 ≤ c ∧ c ≤ 255) :
    Calls Tryd.prog 60 #[.int .i32 c] w fun e w' => e = .returned (.tuple #[.int .u8 (if hexB c then hexV c else 0), .bool (hexB c)]) ∧ w = w' := by
  have D := Lib.hid fun W => wDigit c W
  obtain ⟨q, hq⟩ : ∃ q, (if hexB c then hexV c else 0) = q := ⟨_, rfl⟩
  obtain ⟨b, hb⟩ : ∃ b, hexB c = b := ⟨_, rfl⟩
  have HQ := Lib.hid hq
  have HB := Lib.hid hb
  rw [hq, hb]
  clear hq hb
  by_cases h1 : digB c = true
  · have h2 : 48 ≤ c ∧ c ≤ 57 := by unfold digB at h1; simpa using h1
    rw [h1] at D
    have E1 := Lib.hid (show q = c - 48 by rw [← HQ.out]; unfold hexB hexV; rw [h1]; simp)
    have E2 := Lib.hid (show b = true by rw [← HB.out]; unfold hexB; rw [h1]; simp)
    clear h1
    obtain ⟨h2, h3⟩ := h2
    go_enter Tryd.func60, Tryd.ntmps60
    go_wp2_with (go_at_call 43; refine (D.out _).mono ?_; rintro e w1 ⟨rfl, rfl⟩)
    go_ret2
    exact ⟨by rw [E1.out, E2.out]; rfl, rfl⟩
  · have h1 : digB c = false := by simpa using h1
    rw [h1] at D
    have hn : ¬ (48 ≤ c ∧ c ≤ 57) := by unfold digB at h1; simpa using h1
    by_cases h2 : 97 ≤ c
    · by_cases h3 : c ≤ 102
      · have E1 := Lib.hid (show q = c - 87 by rw [← HQ.out]; unfold hexB hexV; rw [h1]; simp [h2, h3])
        have E2 := Lib.hid (show b = true by rw [← HB.out]; unfold hexB; rw [h1]; simp [h2, h3])
        clear h1 hn
        go_enter Tryd.func60, Tryd.ntmps60
        go_wp2_with (go_at_call 43; refine (D.out _).mono ?_; rintro e w1 ⟨rfl, rfl⟩)
        go_ret2
        exact ⟨by rw [E1.out, E2.out, show c - 87 = c - 97 + 10 by omega]; rfl, rfl⟩
      · have E1 := Lib.hid (show q = 0 by rw [← HQ.out]; unfold hexB; rw [h1]; simp [h3])
        have E2 := Lib.hid (show b = false by rw [← HB.out]; unfold hexB; rw [h1]; simp [h3])
        clear h1 hn
        go_enter Tryd.func60, Tryd.ntmps60
        go_wp2_with (go_at_call 43; refine (D.out _).mono ?_; rintro e w1 ⟨rfl, rfl⟩)
        go_ret2
        exact ⟨by rw [E1.out, E2.out]; rfl, rfl⟩
    · have E1 := Lib.hid (show q = 0 by rw [← HQ.out]; unfold hexB; rw [h1]; simp [h2])
      have E2 := Lib.hid (show b = false by rw [← HB.out]; unfold hexB; rw [h1]; simp [h2])
      clear h1 hn
      go_enter Tryd.func60, Tryd.ntmps60
      go_wp2_with (go_at_call 43; refine (D.out _).mono ?_; rintro e w1 ⟨rfl, rfl⟩)
      go_ret2
      exact ⟨by rw [E1.out, E2.out]; rfl, rfl⟩
section
variable {w : World} {g i : Nat} {s : ByteArray} {x : Tk} {f p : Int}
set_option maxHeartbeats 2000000 in
theorem wWrong (h : Rd w g s i x f p) (q e0 : Int) :
    Calls Tryd.prog 46 #[.pointer (some ⟨g, 0, none⟩), .int .i64 q, .int .i64 e0] w fun e w' => e = .returned (.bool false) ∧ Rd w' g s i x e0 q ∧ Out (fun k => k = g) w w' := by
  have c10 : w.cell? ⟨g, 10, none⟩ = some (.int .i64 f) := h.cell 10
  have c11 : w.cell? ⟨g, 11, none⟩ = some (.int .i64 p) := h.cell 11
  have f10 := h.frozen 10
  have f11 := h.frozen 11
  have R := Lib.hid ((h.set_place q).set_fault e0)
  have O := Lib.hid (((Out.refl (fun k => k = g) w).setCell (p := ⟨g, 11, none⟩) (.inl rfl) (.int .i64 q)).setCell (p := ⟨g, 10, none⟩) (.inl rfl) (.int .i64 e0))
  clear h
  go_enter Tryd.func46, Tryd.ntmps46
  go_wp2
  go_ret
  exact ⟨rfl, R.out, O.out⟩
set_option maxHeartbeats 4000000 in
theorem wFound (h : Rd w g s i x f p) (y : Tk) :
    Calls Tryd.prog 61 #[.pointer (some ⟨g, 0, none⟩), .agg #[.int .i64 y.k, .string y.t, .int .i64 y.vk, .int .i64 y.vi, .bool false, .string y.vb, .complex .f64 0 0, .int .i64 (y.a : Nat)]] w fun e w' => e = .returned (.bool true) ∧ Rd w' g s i y f p ∧ Out (fun k => k = g) w w' := by
  have hG := h.lt
  obtain ⟨X, hX⟩ : ∃ X, w.alloc (.cells #[.int .i64 y.k, .string y.t, .int .i64 y.vk, .int .i64 y.vi, .bool false, .string y.vb, .complex .f64 0 0, .int .i64 (y.a : Nat)] 36) = X := ⟨_, rfl⟩
  have BX : Below w.heap.size w X := hX ▸ (Below.refl _ _).alloc (Nat.le_refl _) _
  have R := h.below BX
  have qX : X.heap[w.heap.size]? = some (.cells #[.int .i64 y.k, .string y.t, .int .i64 y.vk, .int .i64 y.vi, .bool false, .string y.vb, .complex .f64 0 0, .int .i64 (y.a : Nat)] 36 (0, 0)) := hX ▸ heap_alloc_new w _
  have RR := Lib.hid (R.set_tok y)
  have O := Lib.hid ((Out.of_below BX (fun k => k = g)).setCells (g := g) (.inl rfl) 2 y.cells)
  have HT := Lib.hid (R.there)
  have HRow := Lib.hid (show X.rangeAt w.heap.size 0 y.cells from fun j v hj => by
    rw [Nat.zero_add, cell_of_row _ _ _ _ _ _ qX, ← hj]; simp [Tk.cells])
  unfold Tk.cells at HRow RR O
  have HI := Lib.hid (show (Tryd.prog.info? 36).map (·.size) = some [Value.int .i64 y.k, .string y.t, .int .i64 y.vk, .int .i64 y.vi, .bool false, .string y.vb, .complex .f64 0 0, .int .i64 (y.a : Nat)].length by rfl)
  have HI2 := Lib.hid (show (Tryd.prog.info? 36).map (·.size) = some (#[Value.int .i64 y.k, .string y.t, .int .i64 y.vk, .int .i64 y.vi, .bool false, .string y.vb, .complex .f64 0 0, .int .i64 (y.a : Nat)] : Array Value).size by rfl)
  have HO := Lib.hid (show ((#[Value.int .i64 y.k, .string y.t, .int .i64 y.vk, .int .i64 y.vi, .bool false, .string y.vb, .complex .f64 0 0, .int .i64 (y.a : Nat)] : Array Value).all (·.oneCell') = true) by simp [Value.oneCell'])
  have HT := Lib.hid (show X.there g 2 (#[Value.int .i64 y.k, .string y.t, .int .i64 y.vk, .int .i64 y.vi, .bool false, .string y.vb, .complex .f64 0 0, .int .i64 (y.a : Nat)] : Array Value).size from HT.out)
  have HX := Lib.hid hX
  clear R h hX qX BX
  go_enter Tryd.func61, Tryd.ntmps61
  go_upto_region 1 with fail
  rw [HX.out]
  go_wp2_with (first
    | (with_reducible refine wpList_load_mid rfl 36 (.tmp 3) rfl w.heap.size 0 rfl [Value.int .i64 y.k, .string y.t, .int .i64 y.vk, .int .i64 y.vi, .bool false, .string y.vb, .complex .f64 0 0, .int .i64 (y.a : Nat)] _ HRow.out Tryd.underlying36 rfl HI.out ?_)
    | (with_reducible refine wpList_store_mid rfl 36 (.tmp 8) (.tmp 6) rfl g 2 #[Value.int .i64 y.k, .string y.t, .int .i64 y.vk, .int .i64 y.vi, .bool false, .string y.vb, .complex .f64 0 0, .int .i64 (y.a : Nat)] rfl rfl HT.out HI2.out HO.out ?_))
  go_ret
  exact ⟨rfl, RR.out, O.out⟩
end
end Go.Proofs.YtagangneoibbcaaDoor
