/- A log's mark, as plain numbers. -/
import Derived.Test.YtapjgancaldgaaaDSt
namespace Go.Proofs.Ytapjgancaldgaaa
structure Mk where
  turn : Nat
  area : Nat
  since : Nat
def Mk.no : Mk := ⟨0, 0, 0⟩
def Mk.next (m : Mk) : Nat := (m.turn + 1) % 3
def Mk.newer (m o : Mk) : Bool := decide (0 < m.since) && (!decide (0 < o.since) || decide (m.turn = o.next))
end Go.Proofs.Ytapjgancaldgaaa
