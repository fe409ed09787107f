/- A range over a scan of a tree that no call made. -/
import Derived.Test.YteniblkfiaohmaaCelM
import Derived.Test.YteniblkfiaohmaaTNone
namespace Go.Proofs.Yteniblkfiaohmaa
set_option maxRecDepth 100000
open Go.RowKit

theorem wscan1 (F : Fence) (hF : F = Fence.wide) (n l : Nat) (W : World) : CallsIn F n Try.prog 39 (#[.func (.yield l) #[] #[]] ++ #[]) W fun e w' => e = .returned (.tuple #[]) ∧ w' = W := by
  subst hF
  refine callsIn_wide.2 ?_
  simp only [Array.append_empty]
  go_enter Try.func39, Try.ntmps39
  go_wp2
  go_end0
  exact ⟨rfl, rfl⟩

theorem wp_range_none {n : Nat} {g : Operand} {ps : Array Tmp} {body : Code} {Q : Exit → Act → World → Prop} {a : Act} {V : World} (hn : 1 ≤ n) (hg : a.eval g = .func (.func 39) #[] #[]) (hps : ps.size = 2)
    (hdone : ∀ D W, V.heap.size ≤ D → Gw V W → W.heap[D]? = some (.deferred (some [])) → Q .normal { a with defers := { target := .collected D, args := #[] } :: a.defers } W) :
    (Code.rangeFunc g ps Code.skip body).wpIn Fence.wide n Try.prog Q a V := by
  refine wp_hands (α := Unit) (encs := fun _ => #[.string ⟨#[]⟩, .int .i64 0]) (ok := fun _ _ _ => False) (keep := fun _ _ => True) (all := fun xs => xs = []) (part := fun _ => False) rfl hn hg trivial (enters_of Try.func39 (by kernel_rfl) rfl)
    (fun l J Jx W hW hJ hJx hY h0 => (wscan1 _ rfl _ l W).mono fun e w' ⟨h1, h2⟩ => ⟨⟨_, h1⟩, .inl ⟨[], rfl, by rw [h2]; exact h0⟩⟩)
    (fun _ _ => trivial) (fun _ _ _ _ _ _ _ => trivial) (fun _ => by rw [hps]; rfl) (fun _ X => Gw V X) (fun _ _ X => False) (fun s A B h hb => Gw.trans h hb) (fun s A l o o' h hl ho hc => below_turn (o := o) (b := 0) h (Nat.le_refl _) hl _) (fun _ _ A B h _ => h.elim) (fun _ _ A l o o' h _ _ _ => h.elim)
    (fun _ _ A l o o' h _ _ _ => h.elim) (Gw.refl _) (fun x => { tmps := (ps.zip #[.string ⟨#[]⟩, .int .i64 0]).foldl (fun t (p, v) => t.setIfInBounds p v) a.tmps, defers := [] }) ?_ (fun l pre x W _ _ h => h.elim)
    (fun D xs W h1 _ h3 h4 => hdone D W h1 h3 h4) (fun _ _ _ _ _ h _ _ => h.elim)
  intro l x W K hK
  have hz : (ps.zip (#[.string ⟨#[]⟩, .int .i64 0] : Array Value)).size = 2 := by simp [hps]
  first
    | exact wpIn_skip hK
    | exact wpIn_skip.2 hK
    | (gi_wp2; rw [hz] at hK; exact hK)
    | (gi_wp2; simpa [hz] using hK)
end Go.Proofs.Yteniblkfiaohmaa
