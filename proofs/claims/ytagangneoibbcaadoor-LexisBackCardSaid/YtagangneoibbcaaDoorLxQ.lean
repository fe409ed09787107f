/- Layer 12: quoted: what stands between quotes. -/
import Derived.Test.YtagangneoibbcaaDoorLxC
import Derived.Test.YtagangneoibbcaaDoorLxJ
set_option linter.unusedVariables false
namespace Go.Proofs.YtagangneoibbcaaDoor
set_option maxRecDepth 100000
set_option maxRecDepth 100000
open Go.RowKit

theorem rb_one1 (w : World) (z : Int) (h : 0 ≤ z ∧ z ≤ 255) : RB (w.alloc (.cells #[.int .u8 z] 5)) (some ⟨w.heap.size, 0, none⟩) 1 [z] := by
  have := RB.new w (zs := [z]) (e := 5) (fr := (0, 0)) (by simpa using h)
  simpa using this
theorem Rd.inc {w : World} {g j : Nat} {s : ByteArray} {x : Tk} {f p : Int} (h : Rd w g s j x f p) : Rd (w.setCell ⟨g, 1, none⟩ (.int .i64 ((j : Int) + 1))) g s (j + 1) x f p := by
  have := h.set_at (j + 1)
  rwa [show ((j + 1 : Nat) : Int) = (j : Int) + 1 by omega] at this
/-- A reader's place. -/
def posW (w : World) (g : Nat) : Nat := match w.cell? ⟨g, 1, none⟩ with | some (.int _ z) => z.toNat | _ => 0
theorem Rd.pos {w : World} {g j : Nat} {s : ByteArray} {x : Tk} {f p : Int} (h : Rd w g s j x f p) : posW w g = j := by
  unfold posW
  have : w.cell? ⟨g, 1, none⟩ = some (.int .i64 (j : Nat)) := h.cell 1
  rw [this]
  simp
theorem Out.drewN {F : Nat → Prop} {a b : World} (h : Out F a b) (n : Nat) : Out F a (b.drewN n) := h.then ⟨rfl, rfl, rfl, Nat.le_refl _, fun _ _ _ => rfl⟩

/-- What quoted leaves. -/
def QuotedIs (L : List Int) (i g : Nat) (s : ByteArray) (x : Tk) (f p : Int) (w : World) (e : Ending) (w' : World) : Prop :=
  Out (fun k => k = g) w w' ∧ Rd w' g s (i + 1 + (qtP (L.drop (i + 1))).2) x f p ∧
  match (qtP (L.drop (i + 1))).1 with
  | none => e = .returned (.tuple #[.slice none 0 0, .bool false])
  | some b => ∃ v, e = .returned (.tuple #[v, .bool true]) ∧ OB w.heap.size w' v b
theorem QuotedIs.no {L : List Int} {i g : Nat} {s : ByteArray} {x : Tk} {f p : Int} {w w' : World} {n : Nat} (h : qtP (L.drop (i + 1)) = (none, n)) (o : Out (fun k => k = g) w w') (r : Rd w' g s (i + 1 + n) x f p) : QuotedIs L i g s x f p w (.returned (.tuple #[.slice none 0 0, .bool false])) w' := by
  unfold QuotedIs
  rw [h]
  exact ⟨o, r, rfl⟩
theorem QuotedIs.yes {L : List Int} {i g : Nat} {s : ByteArray} {x : Tk} {f p : Int} {w w' : World} {n : Nat} {b : List Int} {v : Value} (h : qtP (L.drop (i + 1)) = (some b, n)) (o : Out (fun k => k = g) w w') (r : Rd w' g s (i + 1 + n) x f p) (ob : OB w.heap.size w' v b) : QuotedIs L i g s x f p w (.returned (.tuple #[v, .bool true])) w' := by
  unfold QuotedIs
  rw [h]
  exact ⟨o, r, v, rfl, ob⟩
def fq (g : Nat) (v : Value) (u : Nat → Value) : Act := { tmps := #[.pointer (some ⟨g, 0, none⟩), u 1, u 2, u 3, v, u 5, u 6, u 7, u 8, u 9, u 10, u 11, u 12, u 13, u 14, u 15, u 16, u 17, u 18, u 19, u 20, u 21, u 22, u 23, u 24, u 25, u 26, u 27, u 28, u 29, u 30, u 31, u 32, u 33, u 34, u 35, u 36, u 37, u 38, u 39, u 40, u 41, u 42, u 43, u 44, u 45, u 46, u 47, u 48, u 49, u 50, u 51, u 52, u 53, u 54, u 55, u 56, u 57, u 58, u 59, u 60, u 61, u 62, u 63, u 64, u 65, u 66, u 67, u 68, u 69, u 70, u 71, u 72, u 73, u 74, u 75, u 76, u 77, u 78, u 79, u 80, u 81, u 82, u 83, u 84, u 85, u 86, u 87, u 88, u 89, u 90, u 91, u 92, u 93, u 94, u 95, u 96, u 97, u 98, u 99, u 100, u 101, u 102, u 103, u 104, u 105, u 106], defers := [] }
/-- How far it has come: label 0 behind a byte that is done with, 1 behind a stroke, 2 behind a stroke and an x. -/
def PhQ (L : List Int) (i l : Nat) (zs : List Int) (j : Nat) : Prop :=
  (l = 0 ∧ ∃ k, j = i + k ∧ zs.length ≤ k ∧ qtP (L.drop (i + 1)) = upQ zs k (qtP (L.drop (j + 1)))) ∨
  (l = 1 ∧ ∃ k, j = i + k + 1 ∧ zs.length ≤ k ∧ qtP (L.drop (i + 1)) = upQ zs k (qtP (92 :: L.drop (j + 1)))) ∨
  (l = 2 ∧ ∃ k, j = i + k + 2 ∧ zs.length ≤ k ∧ qtP (L.drop (i + 1)) = upQ zs k (qtP (92 :: 120 :: L.drop (j + 1))))
def JQ (L : List Int) (i g : Nat) (s : ByteArray) (x : Tk) (f p : Int) (w : World) (l : Nat) (a : Act) (W : World) : Prop :=
  ∃ (zs : List Int) (j : Nat) (v : Value) (u : Nat → Value), a = fq g v u ∧ Rd W g s j x f p ∧ OB w.heap.size W v zs ∧ Out (fun k => k = g) w W ∧ j < s.size ∧ PhQ L i l zs j
theorem JQ.mk' {L : List Int} {i g : Nat} {s : ByteArray} {x : Tk} {f p : Int} {w : World} {l : Nat} {a : Act} {W : World} (zs : List Int) (j : Nat) (v : Value) (h : a = fq g v (fun k => a.tmps.getD k undef)) (r : Rd W g s j x f p) (ob : OB w.heap.size W v zs) (o : Out (fun k => k = g) w W) (hj : j < s.size) (ph : PhQ L i l zs j) : JQ L i g s x f p w l a W := ⟨zs, j, v, _, h, r, ob, o, hj, ph⟩
theorem JQ.lt {L : List Int} {i g : Nat} {s : ByteArray} {x : Tk} {f p : Int} {w : World} {l : Nat} {a : Act} {W : World} (h : JQ L i g s x f p w l a W) : l < 3 := by
  obtain ⟨_, _, _, _, -, -, -, -, -, ph⟩ := h
  rcases ph with ⟨h, -⟩ | ⟨h, -⟩ | ⟨h, -⟩ <;> omega

theorem OB.out {base g : Nat} {W W' : World} {v : Value} {zs : List Int} (h : OB base W v zs) (o : Out (fun k => k = g) W W') (hg : g < base) : OB base W' v zs :=
  ⟨own_stays h.own fun k hk => o.block k (h.lt k hk).2 (by have := (h.lt k hk).1; omega), h.byte⟩
theorem Out.thenB {g base : Nat} {w a b : World} (h : Out (fun k => k = g) w a) (hb : Below base a b) (hB : w.heap.size ≤ base) : Out (fun k => k = g) w b :=
  h.trans (F' := fun k => base ≤ k) ⟨hb.os, hb.tape, hb.output, hb.size, fun i _ hn => hb.block i (by omega)⟩ (fun i hi h' => absurd h' (by omega))
theorem Rd.belowB {w w' : World} {g i base : Nat} {s : ByteArray} {x : Tk} {f p : Int} (h : Rd w g s i x f p) (hb : Below base w w') (hg : g < base) : Rd w' g s i x f p := h.keep (hb.block g hg)
theorem setCell_out {w : World} {g o : Nat} (u : Value) : Out (fun k => k = g) w (w.setCell ⟨g, o, none⟩ u) := Out.setCell (p := ⟨g, o, none⟩) (Out.refl (fun k => k = g) w) (.inl rfl) u
end Go.Proofs.YtagangneoibbcaaDoor
