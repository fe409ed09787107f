/- Layer 12: Tokens. -/
import Derived.Test.YtagangneoibbcaaDoorLyT
set_option linter.unusedVariables false
namespace Go.Proofs.YtagangneoibbcaaDoor
set_option maxRecDepth 100000
set_option maxRecDepth 100000
open Go.RowKit

/-- What Tokens leaves. -/
def TokensIs (s : ByteArray) (w : World) (e : Ending) (w' : World) : Prop :=
  Below w.heap.size w w' ∧
  if 65536 < s.size then e = .returned (.tuple #[.slice none 0 0, .int .i64 65536, .int .i64 3])
  else if (toksP (strB s)).2.2 = 0 then ∃ v, e = .returned (.tuple #[v, .int .i64 0, .int .i64 0]) ∧ TL w.heap.size w' v (toksP (strB s)).1
  else e = .returned (.tuple #[.slice none 0 0, .int .i64 ((toksP (strB s)).2.1 : Nat), .int .i64 (toksP (strB s)).2.2])
theorem EndIs.yes_ {g : Nat} {s : ByteArray} {x : Tk} {f p : Int} {w w' : World} {o : One} {b j : Nat} {e : Ending} (h : EndIs g s x f p w o b j e w') (h0 : o.e = 0) : e = .returned (.bool true) ∧ Rd w' g s (b + o.n) o.tk f p ∧ Out (fun k => k = g) w w' := by
  unfold EndIs at h
  rw [if_pos h0] at h
  exact ⟨h.2.1, h.2.2, h.1⟩
theorem EndIs.no_ {g : Nat} {s : ByteArray} {x : Tk} {f p : Int} {w w' : World} {o : One} {b j : Nat} {e : Ending} (h : EndIs g s x f p w o b j e w') (h0 : ¬ o.e = 0) : e = .returned (.bool false) ∧ (∃ i, Rd w' g s i x o.e (j : Nat)) ∧ Out (fun k => k = g) w w' := by
  unfold EndIs at h
  rw [if_neg h0] at h
  exact ⟨h.2.1, h.2.2, h.1⟩
theorem ErrAt.belowB {base : Nat} {w w' : World} (h : ErrAt w) (hb : Below base w w') (hl : 3 < base) : ErrAt w' := by
  obtain ⟨te, pe, h⟩ := h
  exact ⟨te, pe, (hb.cell (p := ⟨3, 0, none⟩) hl).trans h⟩
theorem TL.mono_ {base base' : Nat} {w : World} {v : Value} {l : List Tk} (h : TL base w v l) (hb : base' ≤ base) : TL base' w v l := SO.base h hb rfl rfl
section
variable {L : List Int} {i g : Nat} {s : ByteArray} {x : Tk} {f p : Int} {w w' : World} {e : Ending}
theorem NextIs.end_ (h : NextIs L i g s x f p w e w') (he : i + skipN false (L.drop i) = L.length) : Out (fun k => k = g) w w' ∧ e = .returned (.bool false) ∧ Rd w' g s L.length x f p := by
  unfold NextIs at h
  rw [if_pos he] at h
  exact h
theorem NextIs.one_ (h : NextIs L i g s x f p w e w') (he : ¬ i + skipN false (L.drop i) = L.length) : EndIs g s x f p w (oneP (i + skipN false (L.drop i)) (L.drop (i + skipN false (L.drop i)))) (i + skipN false (L.drop i)) (i + skipN false (L.drop i) + (oneP (i + skipN false (L.drop i)) (L.drop (i + skipN false (L.drop i)))).n) e w' := by
  unfold NextIs at h
  rw [if_neg he] at h
  exact h
end
end Go.Proofs.YtagangneoibbcaaDoor
