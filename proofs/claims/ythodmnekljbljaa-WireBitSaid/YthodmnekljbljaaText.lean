/- The calls of wire.Text and of the reference's Text. -/
import Derived.Test.YthodmnekljbljaaUint
namespace Go.Proofs.Ythodmnekljbljaa
open Go.RowKit

def textB (s : ByteArray) : List Int := uintB s.size ++ strB s

set_option maxHeartbeats 400000 in
theorem wtext (s : ByteArray) (w : World) (hs : s.size ≤ 140737488351232) :
    Calls Try.prog 26 #[.string s] w (Makes w (textB s)) := by
  have hl := uintB_len s.size (by omega)
  go_enter Try.func26, Try.ntmps26
  go_wp2_with fail
  refine (wuint _ _ (by omega)).mono ?_
  rintro e w1 ⟨v, rfl, hown, hb⟩
  go_wp2_with (at_builtin; refine ob_append_str rfl (.tmp 6) (.tmp 7) rfl w.heap.size _ _ rfl hown s rfl (by omega) hb.size ?_; intro v' w2 hown' hb2 hg2)
  go_ret
  exact ⟨v', rfl, hown', hb.trans hb2⟩

set_option maxHeartbeats 400000 in
theorem rtext (s : ByteArray) (w : World) (hs : s.size ≤ 140737488351232) :
    Calls Try.prog 27 #[.string s] w (Makes w (textB s)) := by
  have hl := uintB_len s.size (by omega)
  go_enter Try.func27, Try.ntmps27
  go_wp2_with fail
  refine (ruint _ _ (by omega)).mono ?_
  rintro e w1 ⟨v, rfl, hown, hb⟩
  go_wp2_with (at_builtin; refine ob_append_str rfl (.tmp 6) (.tmp 7) rfl w.heap.size _ _ rfl hown s rfl (by omega) hb.size ?_; intro v' w2 hown' hb2 hg2)
  go_ret
  exact ⟨v', rfl, hown', hb.trans hb2⟩
end Go.Proofs.Ythodmnekljbljaa
