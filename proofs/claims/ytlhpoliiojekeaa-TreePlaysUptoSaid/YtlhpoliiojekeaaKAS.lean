import Derived.Test.YtlhpoliiojekeaaAsks
import Derived.Test.YtlhpoliiojekeaaKSC
import Derived.Test.YtlhpoliiojekeaaRef5B
import Derived.Test.YtlhpoliiojekeaaOpenO
import Derived.Test.YtlhpoliiojekeaaLive
import Derived.Test.YtlhpoliiojekeaaTreeFormsWalk
/- asks, whatever the kind. -/
namespace Go.Proofs.Ytlhpoliiojekeaa
set_option maxRecDepth 100000
open Go.RowKit

set_option maxHeartbeats 16000000 in
theorem wasksG {w : World} {u f T ord m e : Nat} {B : Option Addr} {ps : List Pr} (hO : On w u f T ord B m e ps) (hp : ps.length ≤ 1048576) (o1 : Bool) (k k2 : ByteArray) (z : Int) (i : Int) (bey : Bool) :
    Calls Try.prog 12 #[.pointer (some ⟨u, f, none⟩), .agg #[.int .i64 2, .bool o1, .string k, .string k2, .int .i64 z, .int .i64 i, .bool bey], .int .i64 (ord : Nat)] w fun e w' => e = .returned (.bool true) ∧ Gw w w' := by
  obtain ⟨W, hW⟩ : ∃ W, w.alloc (.cells #[.int .i64 2, .bool o1, .string k, .string k2, .int .i64 z, .int .i64 i, .bool bey] 33) = W := ⟨_, rfl⟩
  have ha := heap_alloc_new w (.cells #[.int .i64 2, .bool o1, .string k, .string k2, .int .i64 z, .int .i64 i, .bool bey] 33)
  rw [hW] at ha
  have hG := Lib.hid (show Gw w W by rw [← hW]; exact (Gw.refl _).alloc _)
  have c0 : W.cell? ⟨w.heap.size, 0, none⟩ = some (.int .i64 2) := by rw [cell_of_row _ _ _ _ _ _ ha]; rfl
  have c2 : W.cell? ⟨w.heap.size, 2, none⟩ = some (.string k) := by rw [cell_of_row _ _ _ _ _ _ ha]; rfl
  have c3 : W.cell? ⟨w.heap.size, 3, none⟩ = some (.string k2) := by rw [cell_of_row _ _ _ _ _ _ ha]; rfl
  have c5 : W.cell? ⟨w.heap.size, 5, none⟩ = some (.int .i64 i) := by rw [cell_of_row _ _ _ _ _ _ ha]; rfl
  have c6 : W.cell? ⟨w.heap.size, 6, none⟩ = some (.bool bey) := by rw [cell_of_row _ _ _ _ _ _ ha]; rfl
  have hOW := hO.gw hG.out
  have u0 := hOW.c0
  have u1 := hOW.c1
  have hml : ps.length = m := hOW.pb.1
  have HN := Lib.hid fun n => hOW.gw ((Gw.refl W).drewN n)
  have CT := Lib.hid fun n => wgetT (HN.out n).tr k
  have CR := Lib.hid fun X (hX : Gw W X) (n : Nat) => wrefGet (c := e) (hOW.gw (hX.drewN n)).pb (by omega) k
  obtain ⟨v, hv⟩ : ∃ v, (getP ps k).1 = v := ⟨_, rfl⟩
  obtain ⟨b, hb⟩ : ∃ b, (getP ps k).2 = b := ⟨_, rfl⟩
  rw [hv, hb] at CT CR
  clear ha hO hp hOW hv hb hml
  go_enter Try.func12, Try.ntmps12
  go_upto_region 3 with fail
  clear hW
  go_quiet ((go_at_call 28; exact Calls.quiet_of (CT.out _)))
  go_upto_region 4 with fail
  obtain ⟨X, hX⟩ : ∃ X, W.drewN nq = X := ⟨_, rfl⟩
  have GX := Lib.hid (show Gw W X by rw [← hX]; exact (Gw.refl W).drewN _)
  rw [hX]
  have CRX := Lib.hid fun n => CR.out X GX.out n
  have y0 := keep_below u0 GX.out
  have y1 := keep_below u1 GX.out
  have y2 := keep_below c2 GX.out
  have y5 := keep_below c5 GX.out
  have y6 := keep_below c6 GX.out
  clear hX u0 u1 c0 c2 c3 c5 c6 CR CT
  go_quiet ((go_at_call 16; exact Calls.quiet_of (CRX.out _)))
  go_wp2
  go_ret
  exact ⟨by simp, hG.out.trans (GX.out.drewN _)⟩

set_option maxHeartbeats 16000000 in
theorem wasksX {w : World} {u f T ord m e : Nat} {B : Option Addr} {ps : List Pr} (hO : On w u f T ord B m e ps) (hp : ps.length ≤ 1048576) (o1 : Bool) (k k2 : ByteArray) (z : Int) (i : Int) (bey : Bool) :
    Calls Try.prog 12 #[.pointer (some ⟨u, f, none⟩), .agg #[.int .i64 3, .bool o1, .string k, .string k2, .int .i64 z, .int .i64 i, .bool bey], .int .i64 (ord : Nat)] w fun e w' => e = .returned (.bool true) ∧ Gw w w' := by
  obtain ⟨W, hW⟩ : ∃ W, w.alloc (.cells #[.int .i64 3, .bool o1, .string k, .string k2, .int .i64 z, .int .i64 i, .bool bey] 33) = W := ⟨_, rfl⟩
  have ha := heap_alloc_new w (.cells #[.int .i64 3, .bool o1, .string k, .string k2, .int .i64 z, .int .i64 i, .bool bey] 33)
  rw [hW] at ha
  have hG := Lib.hid (show Gw w W by rw [← hW]; exact (Gw.refl _).alloc _)
  have c0 : W.cell? ⟨w.heap.size, 0, none⟩ = some (.int .i64 3) := by rw [cell_of_row _ _ _ _ _ _ ha]; rfl
  have c2 : W.cell? ⟨w.heap.size, 2, none⟩ = some (.string k) := by rw [cell_of_row _ _ _ _ _ _ ha]; rfl
  have c3 : W.cell? ⟨w.heap.size, 3, none⟩ = some (.string k2) := by rw [cell_of_row _ _ _ _ _ _ ha]; rfl
  have c5 : W.cell? ⟨w.heap.size, 5, none⟩ = some (.int .i64 i) := by rw [cell_of_row _ _ _ _ _ _ ha]; rfl
  have c6 : W.cell? ⟨w.heap.size, 6, none⟩ = some (.bool bey) := by rw [cell_of_row _ _ _ _ _ _ ha]; rfl
  have hOW := hO.gw hG.out
  have u0 := hOW.c0
  have u1 := hOW.c1
  have hml : ps.length = m := hOW.pb.1
  have HN := Lib.hid fun n => hOW.gw ((Gw.refl W).drewN n)
  have CT := Lib.hid fun n => wnextT (HN.out n).tr (by omega) k bey
  have CR := Lib.hid fun X (hX : Gw W X) (n : Nat) => wrefNext (c := e) (hOW.gw (hX.drewN n)).pb (by omega) k bey
  obtain ⟨r, hr⟩ : ∃ r, (rk (keys ps) k + if bey && has (keys ps) k then 1 else 0 : Nat) = r := ⟨_, rfl⟩
  rw [hr] at CT CR
  obtain ⟨v, hv⟩ : ∃ v, atV ps (r : Int) = v := ⟨_, rfl⟩
  obtain ⟨x, y, t, rfl⟩ : ∃ a b c, v = .tuple #[.string a, .int .i64 b, .bool c] := by
    rw [← hv]
    cases hh : ps[r]? with
    | none => exact ⟨_, _, _, atV_none hh⟩
    | some p => exact ⟨_, _, _, atV_some (k := p.1) (z := p.2) hh⟩
  rw [hv] at CT CR
  clear ha hO hp hOW hv hr hml
  go_enter Try.func12, Try.ntmps12
  go_upto_region 7 with fail
  clear hW
  go_quiet ((go_at_call 29; exact Calls.quiet_of (CT.out _)))
  go_upto_region 8 with fail
  obtain ⟨X, hX⟩ : ∃ X, W.drewN nq = X := ⟨_, rfl⟩
  have GX := Lib.hid (show Gw W X by rw [← hX]; exact (Gw.refl W).drewN _)
  rw [hX]
  have CRX := Lib.hid fun n => CR.out X GX.out n
  have y0 := keep_below u0 GX.out
  have y1 := keep_below u1 GX.out
  have y2 := keep_below c2 GX.out
  have y5 := keep_below c5 GX.out
  have y6 := keep_below c6 GX.out
  clear hX u0 u1 c0 c2 c3 c5 c6 CR CT
  go_quiet ((go_at_call 30; exact Calls.quiet_of (CRX.out _)))
  go_wp2
  go_ret
  exact ⟨by simp, hG.out.trans (GX.out.drewN _)⟩

set_option maxHeartbeats 16000000 in
theorem wasksS {w : World} {u f T ord m e : Nat} {B : Option Addr} {ps : List Pr} (hO : On w u f T ord B m e ps) (hp : ps.length ≤ 1048576) (o1 : Bool) (k k2 : ByteArray) (z : Int) (i : Int) (bey : Bool) (hi : -9223372036854775808 ≤ i ∧ i ≤ 9223372036854775807) :
    Calls Try.prog 12 #[.pointer (some ⟨u, f, none⟩), .agg #[.int .i64 4, .bool o1, .string k, .string k2, .int .i64 z, .int .i64 i, .bool bey], .int .i64 (ord : Nat)] w fun e w' => e = .returned (.bool true) ∧ Gw w w' := by
  obtain ⟨W, hW⟩ : ∃ W, w.alloc (.cells #[.int .i64 4, .bool o1, .string k, .string k2, .int .i64 z, .int .i64 i, .bool bey] 33) = W := ⟨_, rfl⟩
  have ha := heap_alloc_new w (.cells #[.int .i64 4, .bool o1, .string k, .string k2, .int .i64 z, .int .i64 i, .bool bey] 33)
  rw [hW] at ha
  have hG := Lib.hid (show Gw w W by rw [← hW]; exact (Gw.refl _).alloc _)
  have c0 : W.cell? ⟨w.heap.size, 0, none⟩ = some (.int .i64 4) := by rw [cell_of_row _ _ _ _ _ _ ha]; rfl
  have c2 : W.cell? ⟨w.heap.size, 2, none⟩ = some (.string k) := by rw [cell_of_row _ _ _ _ _ _ ha]; rfl
  have c3 : W.cell? ⟨w.heap.size, 3, none⟩ = some (.string k2) := by rw [cell_of_row _ _ _ _ _ _ ha]; rfl
  have c5 : W.cell? ⟨w.heap.size, 5, none⟩ = some (.int .i64 i) := by rw [cell_of_row _ _ _ _ _ _ ha]; rfl
  have c6 : W.cell? ⟨w.heap.size, 6, none⟩ = some (.bool bey) := by rw [cell_of_row _ _ _ _ _ _ ha]; rfl
  have hOW := hO.gw hG.out
  have u0 := hOW.c0
  have u1 := hOW.c1
  have hml : ps.length = m := hOW.pb.1
  have HN := Lib.hid fun n => hOW.gw ((Gw.refl W).drewN n)
  have CG := Lib.hid fun X (hX : Gw W X) => wgoes (d := e) (hOW.gw hX).tr (hOW.gw hX).pb hp k k2 i hi
  have KS := Lib.hid (show ∀ X, Gw W X → X.cell? ⟨u, f, none⟩ = some (.pointer (some ⟨T, 0, none⟩)) ∧ X.cell? ⟨u, f + 1, none⟩ = some (.slice B m e) ∧ X.cell? ⟨w.heap.size, 2, none⟩ = some (.string k) ∧ X.cell? ⟨w.heap.size, 3, none⟩ = some (.string k2) ∧ X.cell? ⟨w.heap.size, 5, none⟩ = some (.int .i64 i) from fun X hX => ⟨keep_below u0 hX, keep_below u1 hX, keep_below c2 hX, keep_below c3 hX, keep_below c5 hX⟩)
  clear ha hO hp hOW hml hi u0 u1 c2 c3 c5 c6
  go_enter Try.func12, Try.ntmps12
  go_upto_region 11 with fail
  clear hW
  have hS0 := KS.out _ (Gw.refl W)
  go_region_held3 (fun w' => w'.cell? ⟨u, f, none⟩ = some (.pointer (some ⟨T, 0, none⟩)) ∧ w'.cell? ⟨u, f + 1, none⟩ = some (.slice B m e) ∧ w'.cell? ⟨w.heap.size, 2, none⟩ = some (.string k) ∧ w'.cell? ⟨w.heap.size, 3, none⟩ = some (.string k2) ∧ w'.cell? ⟨w.heap.size, 5, none⟩ = some (.int .i64 i)) (first | exact hS0 | exact KS.out _ B3.out)
    ((go_at_call 31; go_loud (refine (CG.out _ ((Gw.refl W).drew)).mono ?_; rintro e w3 ⟨rfl, g3⟩; have B3 := Lib.hid (show Gw W w3 from ((Gw.refl W).drew).trans g3); clear g3 CG)))
  go_wp2
  go_ret
  exact ⟨rfl, hG.out.trans B3.out⟩

set_option maxHeartbeats 16000000 in
theorem wasksR {w : World} {u f T ord m e : Nat} {B : Option Addr} {ps : List Pr} (hO : On w u f T ord B m e ps) (hp : ps.length ≤ 1048576) (o1 : Bool) (k k2 : ByteArray) (z : Int) (i : Int) (bey : Bool) :
    Calls Try.prog 12 #[.pointer (some ⟨u, f, none⟩), .agg #[.int .i64 5, .bool o1, .string k, .string k2, .int .i64 z, .int .i64 i, .bool bey], .int .i64 (ord : Nat)] w fun e w' => e = .returned (.bool true) ∧ Gw w w' := by
  obtain ⟨W, hW⟩ : ∃ W, w.alloc (.cells #[.int .i64 5, .bool o1, .string k, .string k2, .int .i64 z, .int .i64 i, .bool bey] 33) = W := ⟨_, rfl⟩
  have ha := heap_alloc_new w (.cells #[.int .i64 5, .bool o1, .string k, .string k2, .int .i64 z, .int .i64 i, .bool bey] 33)
  rw [hW] at ha
  have hG := Lib.hid (show Gw w W by rw [← hW]; exact (Gw.refl _).alloc _)
  have c0 : W.cell? ⟨w.heap.size, 0, none⟩ = some (.int .i64 5) := by rw [cell_of_row _ _ _ _ _ _ ha]; rfl
  have c2 : W.cell? ⟨w.heap.size, 2, none⟩ = some (.string k) := by rw [cell_of_row _ _ _ _ _ _ ha]; rfl
  have c3 : W.cell? ⟨w.heap.size, 3, none⟩ = some (.string k2) := by rw [cell_of_row _ _ _ _ _ _ ha]; rfl
  have c5 : W.cell? ⟨w.heap.size, 5, none⟩ = some (.int .i64 i) := by rw [cell_of_row _ _ _ _ _ _ ha]; rfl
  have c6 : W.cell? ⟨w.heap.size, 6, none⟩ = some (.bool bey) := by rw [cell_of_row _ _ _ _ _ _ ha]; rfl
  have hOW := hO.gw hG.out
  have u0 := hOW.c0
  have u1 := hOW.c1
  have hml : ps.length = m := hOW.pb.1
  have HN := Lib.hid fun n => hOW.gw ((Gw.refl W).drewN n)
  have CT := Lib.hid fun n => wrankT (HN.out n).tr (by omega) k
  have CR := Lib.hid fun n => wrefRank (c := e) (HN.out n).pb (by omega) k
  obtain ⟨r, hr⟩ : ∃ r, rk (keys ps) k = r := ⟨_, rfl⟩
  rw [hr] at CT CR
  clear ha hO hp hOW hr hml
  go_enter Try.func12, Try.ntmps12
  go_upto_region 13 with fail
  clear hW
  go_quiet ((first | (go_at_call 32; (try simp only [World.drewN_drewN]); exact Calls.quiet_of (CT.out _)) | (go_at_call 33; (try simp only [World.drewN_drewN]); exact Calls.quiet_of_same (CR.out _))))
  go_wp2
  go_ret
  exact ⟨by simp, hG.out.trans ((Gw.refl W).drewN _)⟩

set_option maxHeartbeats 16000000 in
theorem wasksA {w : World} {u f T ord m e : Nat} {B : Option Addr} {ps : List Pr} (hO : On w u f T ord B m e ps) (hp : ps.length ≤ 1048576) (o1 : Bool) (k k2 : ByteArray) (z : Int) (i : Int) (bey : Bool) :
    Calls Try.prog 12 #[.pointer (some ⟨u, f, none⟩), .agg #[.int .i64 6, .bool o1, .string k, .string k2, .int .i64 z, .int .i64 i, .bool bey], .int .i64 (ord : Nat)] w fun e w' => e = .returned (.bool true) ∧ Gw w w' := by
  obtain ⟨W, hW⟩ : ∃ W, w.alloc (.cells #[.int .i64 6, .bool o1, .string k, .string k2, .int .i64 z, .int .i64 i, .bool bey] 33) = W := ⟨_, rfl⟩
  have ha := heap_alloc_new w (.cells #[.int .i64 6, .bool o1, .string k, .string k2, .int .i64 z, .int .i64 i, .bool bey] 33)
  rw [hW] at ha
  have hG := Lib.hid (show Gw w W by rw [← hW]; exact (Gw.refl _).alloc _)
  have c0 : W.cell? ⟨w.heap.size, 0, none⟩ = some (.int .i64 6) := by rw [cell_of_row _ _ _ _ _ _ ha]; rfl
  have c2 : W.cell? ⟨w.heap.size, 2, none⟩ = some (.string k) := by rw [cell_of_row _ _ _ _ _ _ ha]; rfl
  have c3 : W.cell? ⟨w.heap.size, 3, none⟩ = some (.string k2) := by rw [cell_of_row _ _ _ _ _ _ ha]; rfl
  have c5 : W.cell? ⟨w.heap.size, 5, none⟩ = some (.int .i64 i) := by rw [cell_of_row _ _ _ _ _ _ ha]; rfl
  have c6 : W.cell? ⟨w.heap.size, 6, none⟩ = some (.bool bey) := by rw [cell_of_row _ _ _ _ _ _ ha]; rfl
  have hOW := hO.gw hG.out
  have u0 := hOW.c0
  have u1 := hOW.c1
  have hml : ps.length = m := hOW.pb.1
  have HN := Lib.hid fun n => hOW.gw ((Gw.refl W).drewN n)
  have CT := Lib.hid fun n => watT (HN.out n).tr (by omega) i
  have CR := Lib.hid fun X (hX : Gw W X) (n : Nat) => wrefAt (c := e) (hOW.gw (hX.drewN n)).pb (by omega) i
  obtain ⟨v, hv⟩ : ∃ v, atV ps i = v := ⟨_, rfl⟩
  obtain ⟨x, y, t, rfl⟩ : ∃ a b c, v = .tuple #[.string a, .int .i64 b, .bool c] := by
    rw [← hv]
    unfold atV
    repeat' split
    all_goals exact ⟨_, _, _, rfl⟩
  rw [hv] at CT CR
  clear ha hO hp hOW hv hml
  go_enter Try.func12, Try.ntmps12
  go_upto_region 15 with fail
  clear hW
  go_quiet ((go_at_call 20; exact Calls.quiet_of (CT.out _)))
  go_upto_region 16 with fail
  obtain ⟨X, hX⟩ : ∃ X, W.drewN nq = X := ⟨_, rfl⟩
  have GX := Lib.hid (show Gw W X by rw [← hX]; exact (Gw.refl W).drewN _)
  rw [hX]
  have CRX := Lib.hid fun n => CR.out X GX.out n
  have y0 := keep_below u0 GX.out
  have y1 := keep_below u1 GX.out
  have y2 := keep_below c2 GX.out
  have y5 := keep_below c5 GX.out
  have y6 := keep_below c6 GX.out
  clear hX u0 u1 c0 c2 c3 c5 c6 CR CT
  go_quiet ((go_at_call 34; exact Calls.quiet_of (CRX.out _)))
  go_wp2
  go_ret
  exact ⟨by simp, hG.out.trans (GX.out.drewN _)⟩

set_option maxHeartbeats 16000000 in
theorem wasksL {w : World} {u f T ord m e : Nat} {B : Option Addr} {ps : List Pr} (hO : On w u f T ord B m e ps) (hp : ps.length ≤ 1048576) (kd : Int) (o1 : Bool) (k k2 : ByteArray) (z : Int) (i : Int) (bey : Bool) (h2 : kd ≠ 2) (h3 : kd ≠ 3) (h4 : kd ≠ 4) (h5 : kd ≠ 5) (h6 : kd ≠ 6) (h8 : kd ≠ 8) :
    Calls Try.prog 12 #[.pointer (some ⟨u, f, none⟩), .agg #[.int .i64 kd, .bool o1, .string k, .string k2, .int .i64 z, .int .i64 i, .bool bey], .int .i64 (ord : Nat)] w fun e w' => e = .returned (.bool true) ∧ Gw w w' := by
  obtain ⟨W, hW⟩ : ∃ W, w.alloc (.cells #[.int .i64 kd, .bool o1, .string k, .string k2, .int .i64 z, .int .i64 i, .bool bey] 33) = W := ⟨_, rfl⟩
  have ha := heap_alloc_new w (.cells #[.int .i64 kd, .bool o1, .string k, .string k2, .int .i64 z, .int .i64 i, .bool bey] 33)
  rw [hW] at ha
  have hG := Lib.hid (show Gw w W by rw [← hW]; exact (Gw.refl _).alloc _)
  have c0 : W.cell? ⟨w.heap.size, 0, none⟩ = some (.int .i64 kd) := by rw [cell_of_row _ _ _ _ _ _ ha]; rfl
  have c2 : W.cell? ⟨w.heap.size, 2, none⟩ = some (.string k) := by rw [cell_of_row _ _ _ _ _ _ ha]; rfl
  have c3 : W.cell? ⟨w.heap.size, 3, none⟩ = some (.string k2) := by rw [cell_of_row _ _ _ _ _ _ ha]; rfl
  have c5 : W.cell? ⟨w.heap.size, 5, none⟩ = some (.int .i64 i) := by rw [cell_of_row _ _ _ _ _ _ ha]; rfl
  have c6 : W.cell? ⟨w.heap.size, 6, none⟩ = some (.bool bey) := by rw [cell_of_row _ _ _ _ _ _ ha]; rfl
  have hOW := hO.gw hG.out
  have u0 := hOW.c0
  have u1 := hOW.c1
  have hml : ps.length = m := hOW.pb.1
  have HN := Lib.hid fun n => hOW.gw ((Gw.refl W).drewN n)
  have CT := Lib.hid fun n => wlen (HN.out n).tr
  rw [hml] at CT
  clear ha hO hp hOW hml
  go_enter Try.func12, Try.ntmps12
  go_upto_region 21 with fail
  clear hW
  go_quiet ((go_at_call 21; exact Calls.quiet_of_same (CT.out _)))
  go_wp2
  go_ret
  exact ⟨by simp, hG.out.trans ((Gw.refl W).drewN _)⟩

/-- asks, whatever the kind. -/
theorem wasks {w : World} {u f T ord m e : Nat} {B : Option Addr} {ps : List Pr} (hO : On w u f T ord B m e ps) (hp : ps.length ≤ 1048576) (o : OpT) (ho : OpTIs o) :
    Calls Try.prog 12 #[.pointer (some ⟨u, f, none⟩), o.val, .int .i64 (ord : Nat)] w fun e w' => e = .returned (.bool true) ∧ Gw w w' := by
  obtain ⟨kd, o1, k, k2, z, i, bey⟩ := o
  unfold OpT.val
  dsimp only
  by_cases h2 : kd = 2
  · subst h2; exact wasksG hO hp o1 k k2 z i bey
  by_cases h3 : kd = 3
  · subst h3; exact wasksX hO hp o1 k k2 z i bey
  by_cases h4 : kd = 4
  · subst h4; exact wasksS hO hp o1 k k2 z i bey ho.ri
  by_cases h5 : kd = 5
  · subst h5; exact wasksR hO hp o1 k k2 z i bey
  by_cases h6 : kd = 6
  · subst h6; exact wasksA hO hp o1 k k2 z i bey
  by_cases h8 : kd = 8
  · subst h8; exact wasksF hO hp o1 k k2 z i bey
  exact wasksL hO hp kd o1 k k2 z i bey h2 h3 h4 h5 h6 h8
end Go.Proofs.Ytlhpoliiojekeaa

/- Two trees beside each other: what a change of the one leaves of the other. -/
namespace Go.Proofs.Ytlhpoliiojekeaa
set_option maxRecDepth 100000
open Go.RowKit

theorem TreeAt.kn {w w' : World} {T ord : Nat} {ps : List Pr} (h : TreeAt w T ord ps) (k : KeepN w w') (hT : w'.heap[T]? = w.heap[T]?) : TreeAt w' T ord ps := by
  obtain ⟨v, d, m, h1, h2, h3⟩ := h
  exact ⟨v, d, m, ⟨hT.trans h1.row⟩, h2.kn k, h3⟩
/-- Both trees: the one that is at hand lies at fa, the other one at fb. -/
structure Two (w wr : World) (u fa fb Ta Tb ord : Nat) (Ba Bb : Option Addr) (ma mb da db : Nat) (P Q : List Pr) (j : Nat) : Prop where
  a : On wr u fa Ta ord Ba ma da P
  b : On wr u fb Tb ord Bb mb db Q
  ne : Ta ≠ Tb
  la : w.heap.size ≤ Ta
  lb : w.heap.size ≤ Tb
  lu : w.heap.size ≤ u
  pa : P.length ≤ j
  pb : Q.length ≤ j
  gw : Gw w wr
  za : wr.frozen? ⟨u, fa, none⟩ = false
  zb : wr.frozen? ⟨u, fb, none⟩ = false
section
variable {w wr w' : World} {u fa fb Ta Tb ord : Nat} {Ba Bb : Option Addr} {ma mb da db : Nat} {P Q : List Pr} {j : Nat}
theorem Two.gwE (h : Two w wr u fa fb Ta Tb ord Ba Bb ma mb da db P Q j) (g : Gw wr w') : Two w w' u fa fb Ta Tb ord Ba Bb ma mb da db P Q j := ⟨h.a.gw g, h.b.gw g, h.ne, h.la, h.lb, h.lu, h.pa, h.pb, h.gw.trans g, (fz_below g h.a.c0).trans h.za, (fz_below g h.b.c0).trans h.zb⟩
theorem Two.swap (h : Two w wr u fa fb Ta Tb ord Ba Bb ma mb da db P Q j) : Two w wr u fb fa Tb Ta ord Bb Ba mb ma db da Q P j := ⟨h.b, h.a, h.ne.symm, h.lb, h.la, h.lu, h.pb, h.pa, h.gw, h.zb, h.za⟩
theorem Two.more (h : Two w wr u fa fb Ta Tb ord Ba Bb ma mb da db P Q j) {j' : Nat} (hj : j ≤ j') : Two w wr u fa fb Ta Tb ord Ba Bb ma mb da db P Q j' := ⟨h.a, h.b, h.ne, h.la, h.lb, h.lu, Nat.le_trans h.pa hj, Nat.le_trans h.pb hj, h.gw, h.za, h.zb⟩
/-- Behind a change of the one. -/
theorem Two.change (h : Two w wr u fa fb Ta Tb ord Ba Bb ma mb da db P Q j) (hf : fb ≠ fa + 1 ∧ fb + 1 ≠ fa + 1) {R : List Pr} (hR : R.length ≤ j + 1) (hc : ChIs u fa Ta ord R wr w') : ∃ B m d, Two w w' u fa fb Ta Tb ord B Bb m mb d db R Q (j + 1) := by
  obtain ⟨B, m, d, o, x, cb⟩ := hc
  have kn := x.keepN h.a.tr.fo h.a.fo
  have hTb := x.block Tb h.b.tr.lt h.ne.symm h.b.ne.symm
  exact ⟨B, m, d, o, ⟨(cb.1 fb hf.1).trans h.b.c0, (cb.1 (fb + 1) hf.2).trans h.b.c1, (cb.2 _).trans h.b.fz, o.fo, h.b.tr.kn kn hTb, ⟨h.b.pb.1, kn.vb h.b.pb.2⟩, h.b.md, h.b.ne⟩, h.ne, h.la, h.lb, h.lu, hR, by have := h.pb; omega, X2.below h.gw x h.la h.lu, (cb.2 _).trans h.za, (cb.2 _).trans h.zb⟩
/-- Behind a clone: the other one is as the one. -/
theorem Two.clone (h : Two w wr u fa fb Ta Tb ord Ba Bb ma mb da db P Q j) (hf : fb ≠ fa ∧ fb ≠ fa + 1 ∧ fb + 1 ≠ fa) {X : World} {T' : Nat} (g : Gw wr X) (t : TreeAt X T' ord P) (hl : wr.heap.size ≤ T') :
    let Y := (X.setCell ⟨u, fb, none⟩ (.pointer (some ⟨T', 0, none⟩))).setCell ⟨u, fb + 1, none⟩ (.slice Ba ma da)
    Two w Y u fa fb Ta T' ord Ba Ba ma ma da da P P j ∧ (Y.cell? ⟨u, fa, none⟩ = some (.pointer (some ⟨Ta, 0, none⟩)) ∧ Y.cell? ⟨u, fa + 1, none⟩ = some (.slice Ba ma da)) ∧
      ((X.setCell ⟨u, fb, none⟩ (.pointer (some ⟨T', 0, none⟩))).cell? ⟨u, fa, none⟩ = some (.pointer (some ⟨Ta, 0, none⟩)) ∧ (X.setCell ⟨u, fb, none⟩ (.pointer (some ⟨T', 0, none⟩))).cell? ⟨u, fa + 1, none⟩ = some (.slice Ba ma da)) ∧
      ((X.setCell ⟨u, fb, none⟩ (.pointer (some ⟨T', 0, none⟩))).cell? ⟨u, fb + 1, none⟩ = some (.slice Bb mb db) ∧ (X.setCell ⟨u, fb, none⟩ (.pointer (some ⟨T', 0, none⟩))).frozen? ⟨u, fb + 1, none⟩ = false) := by
  have o := h.a.gw g
  have ob := h.b.gw g
  have hTal := h.a.tr.lt
  have hul := h.a.fo.lt
  have hsz := Below.size g
  have hTl := t.lt
  have x1 : Xt u X (X.setCell ⟨u, fb, none⟩ (.pointer (some ⟨T', 0, none⟩))) := Xt.set (Gw.refl _) fb _
  have x2 : Xt u (X.setCell ⟨u, fb, none⟩ (.pointer (some ⟨T', 0, none⟩))) ((X.setCell ⟨u, fb, none⟩ (.pointer (some ⟨T', 0, none⟩))).setCell ⟨u, fb + 1, none⟩ (.slice Ba ma da)) := Xt.set (Gw.refl _) (fb + 1) _
  have x := x1.trans x2
  have b1 : Cb u fb X _ := Cb.set X (.pointer (some ⟨T', 0, none⟩))
  have b2 : Cb u (fb + 1) _ _ := Cb.set (X.setCell ⟨u, fb, none⟩ (.pointer (some ⟨T', 0, none⟩))) (.slice Ba ma da)
  have fo' := (o.fo.set fb (.pointer (some ⟨T', 0, none⟩))).set (fb + 1) (.slice Ba ma da)
  have a1 : (X.setCell ⟨u, fb, none⟩ (.pointer (some ⟨T', 0, none⟩))).cell? ⟨u, fa, none⟩ = some (.pointer (some ⟨Ta, 0, none⟩)) := by rw [b1.1 fa (by omega)]; exact o.c0
  have a2 : (X.setCell ⟨u, fb, none⟩ (.pointer (some ⟨T', 0, none⟩))).cell? ⟨u, fa + 1, none⟩ = some (.slice Ba ma da) := by rw [b1.1 (fa + 1) (by omega)]; exact o.c1
  have a3 : (X.setCell ⟨u, fb, none⟩ (.pointer (some ⟨T', 0, none⟩))).cell? ⟨u, fb + 1, none⟩ = some (.slice Bb mb db) := by rw [b1.1 (fb + 1) (by omega)]; exact ob.c1
  have a4 : (X.setCell ⟨u, fb, none⟩ (.pointer (some ⟨T', 0, none⟩))).frozen? ⟨u, fb + 1, none⟩ = false := by rw [b1.2]; exact ob.fz
  have a5 : (X.setCell ⟨u, fb, none⟩ (.pointer (some ⟨T', 0, none⟩))).cell? ⟨u, fb, none⟩ = some (.pointer (some ⟨T', 0, none⟩)) := World.cell?_setCell_same _ _ _ ob.c0
  have z1 := (b2.1 fa (by omega)).trans a1
  have z2 := (b2.1 (fa + 1) (by omega)).trans a2
  refine ⟨⟨⟨z1, z2, by rw [b2.2, b1.2]; exact o.fz, fo', o.tr.xt x o.fo h.a.ne.symm, x.pb o.fo o.pb, h.a.md, h.a.ne⟩, ⟨(b2.1 fb (by omega)).trans a5, World.cell?_setCell_same _ _ _ a3, by rw [b2.2]; exact a4, fo', t.xt x o.fo (by omega), x.pb o.fo o.pb, h.a.md, by omega⟩, by omega, h.la, by have := Below.size h.gw; omega, h.lu, h.pa, h.pa, Xt.below (h.gw.trans g) x h.lu, by rw [b2.2, b1.2]; exact (fz_below g h.a.c0).trans h.za, by rw [b2.2, b1.2]; exact (fz_below g h.b.c0).trans h.zb⟩, ⟨z1, z2⟩, ⟨a1, a2⟩, ⟨a3, a4⟩⟩
end
end Go.Proofs.Ytlhpoliiojekeaa

/- TreePlays: two trees, step by step. -/
namespace Go.Proofs.Ytlhpoliiojekeaa
set_option maxRecDepth 100000
open Go.RowKit

set_option maxHeartbeats 32000000 in
theorem wplays (a : Int) (A : Option Addr) (n c : Nat) (os : List OpT) (w : World) (ha : -9223372036854775808 ≤ a ∧ a ≤ 9223372036854775807) (h : RT w A n os) (hn : n ≤ 1048576) :
    Calls Try.prog 8 #[.int .i64 a, .slice A n c] w fun e w' => e = .returned (.bool true) ∧ Below w.heap.size w w' := by
  have LV := Lib.hid wlive
  by_cases hbad : a < 3 ∨ 64 < a
  · have CB := Lib.hid (wbegunBad w a hbad)
    clear h hn hbad
    go_enter Try.func8, Try.ntmps8
    go_upto_region 2 with (go_at_call 9; go_loud (refine CB.out.mono ?_; rintro e w1 ⟨rfl, b1⟩; have B1 := Lib.hid b1; clear b1))
    generalize hU : World.alloc w1 _ = U
    have BU := Lib.hid (show Gw w U by rw [← hU]; exact B1.out.alloc _)
    clear hU
    go_wp2_with (go_at_call 10; go_loud (refine (LV.out _).mono ?_; rintro e w3 ⟨rfl, b3⟩; have B3 := Lib.hid (BU.out.trans b3); clear b3))
    go_ret
    exact ⟨rfl, B3.out⟩
  obtain ⟨ord, rfl⟩ : ∃ ord : Nat, a = (ord : Int) := ⟨a.toNat, by omega⟩
  have CB := Lib.hid (wbegun w ord (by omega) (by omega))
  have HRT := Lib.hid h
  have HL := Lib.hid h.len
  have HN := Lib.hid hn
  have nb : (n : Int) ≤ 1048576 := by omega
  clear h hn hbad ha
  go_enter Try.func8, Try.ntmps8
  go_upto_region 2 with (go_at_call 9; go_loud (refine CB.out.mono ?_; rintro e w1 ⟨T0, T1, rfl, t0, t1, l0, l01, b1⟩; have B1 := Lib.hid (show Gw w w1 from b1); have T0H := Lib.hid t0; have T1H := Lib.hid t1; have L0 := Lib.hid l0; have L01 := Lib.hid l01; clear t0 t1 l0 l01 b1 CB))
  generalize hU : World.alloc w1 _ = U
  have rU : U.heap[w1.heap.size]? = some (.cells #[.pointer (some ⟨T0, 0, none⟩), .slice none 0 0, .pointer (some ⟨T1, 0, none⟩), .slice none 0 0] 28 (0, 0)) := by rw [← hU]; exact heap_alloc_new _ _
  have gU : Gw w1 U := by rw [← hU]; exact (Gw.refl _).alloc _
  have ON0 := Lib.hid (show Two w U w1.heap.size 0 2 T0 T1 ord none none 0 0 0 0 [] [] 0 from ⟨(On.start T0H.out T1H.out gU rU).1, (On.start T0H.out T1H.out gU rU).2, by have := L01.out; omega, L0.out, by have := L01.out; have := L0.out; omega, Below.size B1.out, Nat.le_refl _, Nat.le_refl _, B1.out.trans gU, (bx_cells rU).2.2.2.2 0, (bx_cells rU).2.2.2.2 2⟩)
  obtain ⟨u5, hu5⟩ : ∃ u5, w1.heap.size = u5 := ⟨_, rfl⟩
  rw [hu5] at ON0 ⊢
  clear hU rU gU hu5 T0H T1H B1 L0 L01
  go_upto_region 7 with (go_at_call 10; go_loud (refine (LV.out _).mono ?_; rintro e w3 ⟨rfl, b3⟩; have O3 := Lib.hid (ON0.out.gwE b3); clear b3))
  go_loopw [28] (fun j' wr => ∃ (j Ta Tb ma mb da db : Nat) (Ba Bb : Option Addr) (P Q : List Pr), j' = .int .i64 (j : Nat) ∧ j ≤ n ∧ Two w wr u5 0 2 Ta Tb ord Ba Bb ma mb da db P Q j) (fun j' _ => n - (intOf j').toNat)
  case atStart => exact ⟨0, T0, T1, 0, 0, 0, 0, none, none, [], [], rfl, Nat.zero_le _, O3.out⟩
  case round =>
    rename World => wr
    clear ON0 O3
    obtain ⟨j, Ta, Tb, ma, mb, da, db, Ba, Bb, P, Q, rfl, hj, hO⟩ := hrel
    by_cases hlt : j < n
    · obtain ⟨x, hx⟩ : ∃ x, os[j]? = some x := ⟨_, List.getElem?_eq_getElem (by have := HL.out; omega)⟩
      obtain ⟨b, o, rfl, q0, q1, q2, q3, q4, q5, q6⟩ := (HRT.out.below hO.gw).at_ hx
      have hxi := HRT.out.is x (List.mem_of_getElem? hx)
      obtain ⟨kind, oth, k, k2, v, ii, bey⟩ := x
      dsimp only at q0 q1 q2 q3 q4 q5 q6
      have i1 : (j : Int) < (n : Int) := by omega
      have jb : (j : Int) ≤ 1048576 := by omega
      have HLT := Lib.hid hlt
      obtain ⟨Y, hY⟩ : ∃ Y, wr.alloc (.cells #[.int .i64 kind, .bool oth, .string k, .string k2, .int .i64 v, .int .i64 ii, .bool bey] 33) = Y := ⟨_, rfl⟩
      have rY := heap_alloc_new wr (.cells #[.int .i64 kind, .bool oth, .string k, .string k2, .int .i64 v, .int .i64 ii, .bool bey] 33)
      rw [hY] at rY
      have gY : Gw wr Y := by rw [← hY]; exact (Gw.refl _).alloc _
      have hTl := hO.a.tr.lt
      have hTl2 := hO.b.tr.lt
      have hul := hO.a.fo.lt
      have HY := Lib.hid rY
      have HYN := Lib.hid (show wr.heap.size ≠ Ta ∧ wr.heap.size ≠ Tb ∧ wr.heap.size ≠ u5 by omega)
      have YC := Lib.hid (show ∀ X : World, X.heap[wr.heap.size]? = Y.heap[wr.heap.size]? → X.cell? ⟨wr.heap.size, 0, none⟩ = some (.int .i64 kind) ∧ X.cell? ⟨wr.heap.size, 1, none⟩ = some (.bool oth) ∧ X.cell? ⟨wr.heap.size, 2, none⟩ = some (.string k) ∧ X.cell? ⟨wr.heap.size, 3, none⟩ = some (.string k2) ∧ X.cell? ⟨wr.heap.size, 4, none⟩ = some (.int .i64 v) ∧ X.cell? ⟨wr.heap.size, 5, none⟩ = some (.int .i64 ii) ∧ X.cell? ⟨wr.heap.size, 6, none⟩ = some (.bool bey) from fun (X : World) hX => by
        have r := hX.trans HY.out
        exact ⟨by rw [cell_of_row _ _ _ _ _ _ r]; rfl, by rw [cell_of_row _ _ _ _ _ _ r]; rfl, by rw [cell_of_row _ _ _ _ _ _ r]; rfl, by rw [cell_of_row _ _ _ _ _ _ r]; rfl, by rw [cell_of_row _ _ _ _ _ _ r]; rfl, by rw [cell_of_row _ _ _ _ _ _ r]; rfl, by rw [cell_of_row _ _ _ _ _ _ r]; rfl⟩)
      obtain ⟨y0, y1, y2, y3, y4, y5, y6⟩ := YC.out Y rfl
      have HOY := Lib.hid (hO.gwE gY)
      have YL := Lib.hid (show wr.heap.size < Y.heap.size from (Array.getElem?_eq_some_iff.1 rY).1)
      clear rY gY hx hlt hj hO hTl hTl2 hul
      have HXI := Lib.hid hxi
      clear hxi
      cases oth
      · by_cases k0 : kind = 0
        · subst k0
          have CC := Lib.hid (wchanges (HOY.out.gwE ((Gw.refl Y).drew)).a (by have := HOY.out.pa; have := HN.out; have := HLT.out; omega) ⟨0, false, k, k2, v, ii, bey⟩)
          unfold OpT.val at CC
          have hcl := chP_len ⟨0, false, k, k2, v, ii, bey⟩ P
          obtain ⟨R, hR⟩ : ∃ R, chP ⟨0, false, k, k2, v, ii, bey⟩ P = R := ⟨_, rfl⟩
          rw [hR] at CC hcl
          have HCL := Lib.hid hcl
          clear hR hcl
          dsimp only at CC
          go_upto_region 16 with fail
          have hS0 := YC.out Y rfl
          go_region_held3 (fun w' => w'.cell? ⟨wr.heap.size, 0, none⟩ = some (.int .i64 0) ∧ w'.cell? ⟨wr.heap.size, 1, none⟩ = some (.bool false) ∧ w'.cell? ⟨wr.heap.size, 2, none⟩ = some (.string k) ∧ w'.cell? ⟨wr.heap.size, 3, none⟩ = some (.string k2) ∧ w'.cell? ⟨wr.heap.size, 4, none⟩ = some (.int .i64 v) ∧ w'.cell? ⟨wr.heap.size, 5, none⟩ = some (.int .i64 ii) ∧ w'.cell? ⟨wr.heap.size, 6, none⟩ = some (.bool bey)) (first | exact hS0 | exact YC.out _ X6.out)
            ((go_at_call 11; go_loud (refine CC.out.mono ?_; rintro e w6 ⟨rfl, hc⟩; have X6 := Lib.hid (show w6.heap[wr.heap.size]? = Y.heap[wr.heap.size]? from by obtain ⟨-, -, -, -, hx, -⟩ := hc; exact hx.block wr.heap.size YL.out HYN.out.1 HYN.out.2.2); obtain ⟨B6, m6, d6, o6⟩ := (HOY.out.gwE ((Gw.refl Y).drew)).change ⟨by decide, by decide⟩ (show R.length ≤ j + 1 by have := HOY.out.pa; have := HCL.out; omega) hc; have O6 := Lib.hid o6; clear hc o6 CC)))
          clear hS0 y0 y1 y2 y3 y4 y5 y6
          go_wp2
          go_roundw
          case rel => exact ⟨j + 1, Ta, Tb, m6, mb, d6, db, B6, Bb, R, Q, by go_num, HLT.out, O6.out⟩
          case measure => have := HLT.out; simp [intOf]; omega
        by_cases k1 : kind = 1
        · subst k1
          have CC := Lib.hid (wchanges (HOY.out.gwE ((Gw.refl Y).drew)).a (by have := HOY.out.pa; have := HN.out; have := HLT.out; omega) ⟨1, false, k, k2, v, ii, bey⟩)
          unfold OpT.val at CC
          have hcl := chP_len ⟨1, false, k, k2, v, ii, bey⟩ P
          obtain ⟨R, hR⟩ : ∃ R, chP ⟨1, false, k, k2, v, ii, bey⟩ P = R := ⟨_, rfl⟩
          rw [hR] at CC hcl
          have HCL := Lib.hid hcl
          clear hR hcl
          dsimp only at CC
          go_upto_region 16 with fail
          have hS0 := YC.out Y rfl
          go_region_held3 (fun w' => w'.cell? ⟨wr.heap.size, 0, none⟩ = some (.int .i64 1) ∧ w'.cell? ⟨wr.heap.size, 1, none⟩ = some (.bool false) ∧ w'.cell? ⟨wr.heap.size, 2, none⟩ = some (.string k) ∧ w'.cell? ⟨wr.heap.size, 3, none⟩ = some (.string k2) ∧ w'.cell? ⟨wr.heap.size, 4, none⟩ = some (.int .i64 v) ∧ w'.cell? ⟨wr.heap.size, 5, none⟩ = some (.int .i64 ii) ∧ w'.cell? ⟨wr.heap.size, 6, none⟩ = some (.bool bey)) (first | exact hS0 | exact YC.out _ X6.out)
            ((go_at_call 11; go_loud (refine CC.out.mono ?_; rintro e w6 ⟨rfl, hc⟩; have X6 := Lib.hid (show w6.heap[wr.heap.size]? = Y.heap[wr.heap.size]? from by obtain ⟨-, -, -, -, hx, -⟩ := hc; exact hx.block wr.heap.size YL.out HYN.out.1 HYN.out.2.2); obtain ⟨B6, m6, d6, o6⟩ := (HOY.out.gwE ((Gw.refl Y).drew)).change ⟨by decide, by decide⟩ (show R.length ≤ j + 1 by have := HOY.out.pa; have := HCL.out; omega) hc; have O6 := Lib.hid o6; clear hc o6 CC)))
          clear hS0 y0 y1 y2 y3 y4 y5 y6
          go_wp2
          go_roundw
          case rel => exact ⟨j + 1, Ta, Tb, m6, mb, d6, db, B6, Bb, R, Q, by go_num, HLT.out, O6.out⟩
          case measure => have := HLT.out; simp [intOf]; omega
        by_cases k9 : kind = 9
        · subst k9
          have CC := Lib.hid (wcloneT (HOY.out.gwE ((Gw.refl Y).drew)).a.tr)
          have u0 : Y.cell? ⟨u5, 0, none⟩ = some (.pointer (some ⟨Ta, 0, none⟩)) := HOY.out.a.c0
          have u1 : Y.cell? ⟨u5, 1, none⟩ = some (.slice Ba ma da) := HOY.out.a.c1
          have v0 : Y.cell? ⟨u5, 2, none⟩ = some (.pointer (some ⟨Tb, 0, none⟩)) := HOY.out.b.c0
          have v1 : Y.cell? ⟨u5, 3, none⟩ = some (.slice Bb mb db) := HOY.out.b.c1
          go_upto_region 18 with fail
          have hS0 := And.intro u0 u1
          go_region_held3 (fun w' => w'.cell? ⟨u5, 0, none⟩ = some (.pointer (some ⟨Ta, 0, none⟩)) ∧ w'.cell? ⟨u5, 1, none⟩ = some (.slice Ba ma da)) (first | exact hS0 | exact ⟨keep_below u0 G6.out, keep_below u1 G6.out⟩ | exact C7.out.2.2.1 | exact C7.out.2.1)
            ((go_at_call 24; go_loud (refine CC.out.mono ?_; rintro e w6 ⟨T', rfl, t6, l6, g6⟩; have G6 := Lib.hid (show Gw Y w6 from ((Gw.refl Y).drew).trans g6); have C7 := Lib.hid (HOY.out.clone (by decide) G6.out t6 l6); have s0 : w6.cell? ⟨u5, 2, none⟩ = some (.pointer (some ⟨Tb, 0, none⟩)) := keep_below v0 G6.out; have s1 : w6.frozen? ⟨u5, 2, none⟩ = false := (fz_below G6.out v0).trans HOY.out.zb; have s2 : (w6.setCell ⟨u5, 2, none⟩ (.pointer (some ⟨T', 0, none⟩))).cell? ⟨u5, 3, none⟩ = some (.slice Bb mb db) := C7.out.2.2.2.1; have s3 : (w6.setCell ⟨u5, 2, none⟩ (.pointer (some ⟨T', 0, none⟩))).frozen? ⟨u5, 3, none⟩ = false := C7.out.2.2.2.2; clear t6 l6 g6 CC)))
          generalize hZ : World.setCell (World.setCell w6 _ _) _ _ = Z
          have c8 := C7.out.1
          rw [hZ] at c8
          have C8 := Lib.hid c8
          have z0 := C8.out.b.c0
          clear hZ c8 C7 u0 u1 v0 v1 s0 s1 s2 s3 hS0 y0 y1 y2 y3 y4 y5 y6
          go_wp2
          go_roundw
          case rel => exact ⟨j + 1, Ta, T', ma, ma, da, da, Ba, Ba, P, P, by go_num, HLT.out, C8.out.more (Nat.le_succ _)⟩
          case measure => have := HLT.out; simp [intOf]; omega
        have CA := Lib.hid (wasks (HOY.out.gwE ((Gw.refl Y).drew)).a (by have := HOY.out.pa; have := HN.out; have := HLT.out; omega) ⟨kind, false, k, k2, v, ii, bey⟩ HXI.out)
        unfold OpT.val at CA
        dsimp only at CA
        go_upto_region 13 with fail
        have hS0 := YC.out Y rfl
        go_region_held3 (fun w' => w'.cell? ⟨wr.heap.size, 0, none⟩ = some (.int .i64 kind) ∧ w'.cell? ⟨wr.heap.size, 1, none⟩ = some (.bool false) ∧ w'.cell? ⟨wr.heap.size, 2, none⟩ = some (.string k) ∧ w'.cell? ⟨wr.heap.size, 3, none⟩ = some (.string k2) ∧ w'.cell? ⟨wr.heap.size, 4, none⟩ = some (.int .i64 v) ∧ w'.cell? ⟨wr.heap.size, 5, none⟩ = some (.int .i64 ii) ∧ w'.cell? ⟨wr.heap.size, 6, none⟩ = some (.bool bey)) (first | exact hS0 | exact YC.out _ X6.out)
          ((go_at_call 12; go_loud (refine CA.out.mono ?_; rintro e w6 ⟨rfl, hc⟩; have O6 := Lib.hid ((HOY.out.gwE ((Gw.refl Y).drew)).gwE hc); have X6 := Lib.hid (show w6.heap[wr.heap.size]? = Y.heap[wr.heap.size]? from Below.block hc wr.heap.size YL.out); clear hc CA)))
        clear hS0 y0 y1 y2 y3 y4 y5 y6
        go_wp2
        go_roundw
        case rel => exact ⟨j + 1, Ta, Tb, ma, mb, da, db, Ba, Bb, P, Q, by go_num, HLT.out, O6.out.more (Nat.le_succ _)⟩
        case measure => have := HLT.out; simp [intOf]; omega
      · by_cases k0 : kind = 0
        · subst k0
          have CC := Lib.hid (wchanges (HOY.out.swap.gwE ((Gw.refl Y).drew)).a (by have := HOY.out.swap.pa; have := HN.out; have := HLT.out; omega) ⟨0, true, k, k2, v, ii, bey⟩)
          unfold OpT.val at CC
          have hcl := chP_len ⟨0, true, k, k2, v, ii, bey⟩ Q
          obtain ⟨R, hR⟩ : ∃ R, chP ⟨0, true, k, k2, v, ii, bey⟩ Q = R := ⟨_, rfl⟩
          rw [hR] at CC hcl
          have HCL := Lib.hid hcl
          clear hR hcl
          dsimp only at CC
          go_upto_region 16 with fail
          have hS0 := YC.out Y rfl
          go_region_held3 (fun w' => w'.cell? ⟨wr.heap.size, 0, none⟩ = some (.int .i64 0) ∧ w'.cell? ⟨wr.heap.size, 1, none⟩ = some (.bool true) ∧ w'.cell? ⟨wr.heap.size, 2, none⟩ = some (.string k) ∧ w'.cell? ⟨wr.heap.size, 3, none⟩ = some (.string k2) ∧ w'.cell? ⟨wr.heap.size, 4, none⟩ = some (.int .i64 v) ∧ w'.cell? ⟨wr.heap.size, 5, none⟩ = some (.int .i64 ii) ∧ w'.cell? ⟨wr.heap.size, 6, none⟩ = some (.bool bey)) (first | exact hS0 | exact YC.out _ X6.out)
            ((go_at_call 11; go_loud (refine CC.out.mono ?_; rintro e w6 ⟨rfl, hc⟩; have X6 := Lib.hid (show w6.heap[wr.heap.size]? = Y.heap[wr.heap.size]? from by obtain ⟨-, -, -, -, hx, -⟩ := hc; exact hx.block wr.heap.size YL.out HYN.out.2.1 HYN.out.2.2); obtain ⟨B6, m6, d6, o6⟩ := (HOY.out.swap.gwE ((Gw.refl Y).drew)).change ⟨by decide, by decide⟩ (show R.length ≤ j + 1 by have := HOY.out.swap.pa; have := HCL.out; omega) hc; have O6 := Lib.hid o6; clear hc o6 CC)))
          clear hS0 y0 y1 y2 y3 y4 y5 y6
          go_wp2
          go_roundw
          case rel => exact ⟨j + 1, Ta, Tb, ma, m6, da, d6, Ba, B6, P, R, by go_num, HLT.out, O6.out.swap⟩
          case measure => have := HLT.out; simp [intOf]; omega
        by_cases k1 : kind = 1
        · subst k1
          have CC := Lib.hid (wchanges (HOY.out.swap.gwE ((Gw.refl Y).drew)).a (by have := HOY.out.swap.pa; have := HN.out; have := HLT.out; omega) ⟨1, true, k, k2, v, ii, bey⟩)
          unfold OpT.val at CC
          have hcl := chP_len ⟨1, true, k, k2, v, ii, bey⟩ Q
          obtain ⟨R, hR⟩ : ∃ R, chP ⟨1, true, k, k2, v, ii, bey⟩ Q = R := ⟨_, rfl⟩
          rw [hR] at CC hcl
          have HCL := Lib.hid hcl
          clear hR hcl
          dsimp only at CC
          go_upto_region 16 with fail
          have hS0 := YC.out Y rfl
          go_region_held3 (fun w' => w'.cell? ⟨wr.heap.size, 0, none⟩ = some (.int .i64 1) ∧ w'.cell? ⟨wr.heap.size, 1, none⟩ = some (.bool true) ∧ w'.cell? ⟨wr.heap.size, 2, none⟩ = some (.string k) ∧ w'.cell? ⟨wr.heap.size, 3, none⟩ = some (.string k2) ∧ w'.cell? ⟨wr.heap.size, 4, none⟩ = some (.int .i64 v) ∧ w'.cell? ⟨wr.heap.size, 5, none⟩ = some (.int .i64 ii) ∧ w'.cell? ⟨wr.heap.size, 6, none⟩ = some (.bool bey)) (first | exact hS0 | exact YC.out _ X6.out)
            ((go_at_call 11; go_loud (refine CC.out.mono ?_; rintro e w6 ⟨rfl, hc⟩; have X6 := Lib.hid (show w6.heap[wr.heap.size]? = Y.heap[wr.heap.size]? from by obtain ⟨-, -, -, -, hx, -⟩ := hc; exact hx.block wr.heap.size YL.out HYN.out.2.1 HYN.out.2.2); obtain ⟨B6, m6, d6, o6⟩ := (HOY.out.swap.gwE ((Gw.refl Y).drew)).change ⟨by decide, by decide⟩ (show R.length ≤ j + 1 by have := HOY.out.swap.pa; have := HCL.out; omega) hc; have O6 := Lib.hid o6; clear hc o6 CC)))
          clear hS0 y0 y1 y2 y3 y4 y5 y6
          go_wp2
          go_roundw
          case rel => exact ⟨j + 1, Ta, Tb, ma, m6, da, d6, Ba, B6, P, R, by go_num, HLT.out, O6.out.swap⟩
          case measure => have := HLT.out; simp [intOf]; omega
        by_cases k9 : kind = 9
        · subst k9
          have CC := Lib.hid (wcloneT (HOY.out.swap.gwE ((Gw.refl Y).drew)).a.tr)
          have u0 : Y.cell? ⟨u5, 2, none⟩ = some (.pointer (some ⟨Tb, 0, none⟩)) := HOY.out.swap.a.c0
          have u1 : Y.cell? ⟨u5, 3, none⟩ = some (.slice Bb mb db) := HOY.out.swap.a.c1
          have v0 : Y.cell? ⟨u5, 0, none⟩ = some (.pointer (some ⟨Ta, 0, none⟩)) := HOY.out.swap.b.c0
          have v1 : Y.cell? ⟨u5, 1, none⟩ = some (.slice Ba ma da) := HOY.out.swap.b.c1
          go_upto_region 18 with fail
          have hS0 := And.intro u0 u1
          go_region_held3 (fun w' => w'.cell? ⟨u5, 2, none⟩ = some (.pointer (some ⟨Tb, 0, none⟩)) ∧ w'.cell? ⟨u5, 3, none⟩ = some (.slice Bb mb db)) (first | exact hS0 | exact ⟨keep_below u0 G6.out, keep_below u1 G6.out⟩ | exact C7.out.2.2.1 | exact C7.out.2.1)
            ((go_at_call 24; go_loud (refine CC.out.mono ?_; rintro e w6 ⟨T', rfl, t6, l6, g6⟩; have G6 := Lib.hid (show Gw Y w6 from ((Gw.refl Y).drew).trans g6); have C7 := Lib.hid (HOY.out.swap.clone (by decide) G6.out t6 l6); have s0 : w6.cell? ⟨u5, 0, none⟩ = some (.pointer (some ⟨Ta, 0, none⟩)) := keep_below v0 G6.out; have s1 : w6.frozen? ⟨u5, 0, none⟩ = false := (fz_below G6.out v0).trans HOY.out.swap.zb; have s2 : (w6.setCell ⟨u5, 0, none⟩ (.pointer (some ⟨T', 0, none⟩))).cell? ⟨u5, 1, none⟩ = some (.slice Ba ma da) := C7.out.2.2.2.1; have s3 : (w6.setCell ⟨u5, 0, none⟩ (.pointer (some ⟨T', 0, none⟩))).frozen? ⟨u5, 1, none⟩ = false := C7.out.2.2.2.2; clear t6 l6 g6 CC)))
          generalize hZ : World.setCell (World.setCell w6 _ _) _ _ = Z
          have c8 := C7.out.1
          rw [hZ] at c8
          have C8 := Lib.hid c8
          have z0 := C8.out.b.c0
          clear hZ c8 C7 u0 u1 v0 v1 s0 s1 s2 s3 hS0 y0 y1 y2 y3 y4 y5 y6
          go_wp2
          go_roundw
          case rel => exact ⟨j + 1, T', Tb, mb, mb, db, db, Bb, Bb, Q, Q, by go_num, HLT.out, C8.out.swap.more (Nat.le_succ _)⟩
          case measure => have := HLT.out; simp [intOf]; omega
        have CA := Lib.hid (wasks (HOY.out.swap.gwE ((Gw.refl Y).drew)).a (by have := HOY.out.swap.pa; have := HN.out; have := HLT.out; omega) ⟨kind, true, k, k2, v, ii, bey⟩ HXI.out)
        unfold OpT.val at CA
        dsimp only at CA
        go_upto_region 13 with fail
        have hS0 := YC.out Y rfl
        go_region_held3 (fun w' => w'.cell? ⟨wr.heap.size, 0, none⟩ = some (.int .i64 kind) ∧ w'.cell? ⟨wr.heap.size, 1, none⟩ = some (.bool true) ∧ w'.cell? ⟨wr.heap.size, 2, none⟩ = some (.string k) ∧ w'.cell? ⟨wr.heap.size, 3, none⟩ = some (.string k2) ∧ w'.cell? ⟨wr.heap.size, 4, none⟩ = some (.int .i64 v) ∧ w'.cell? ⟨wr.heap.size, 5, none⟩ = some (.int .i64 ii) ∧ w'.cell? ⟨wr.heap.size, 6, none⟩ = some (.bool bey)) (first | exact hS0 | exact YC.out _ X6.out)
          ((go_at_call 12; go_loud (refine CA.out.mono ?_; rintro e w6 ⟨rfl, hc⟩; have O6 := Lib.hid ((HOY.out.gwE ((Gw.refl Y).drew)).gwE hc); have X6 := Lib.hid (show w6.heap[wr.heap.size]? = Y.heap[wr.heap.size]? from Below.block hc wr.heap.size YL.out); clear hc CA)))
        clear hS0 y0 y1 y2 y3 y4 y5 y6
        go_wp2
        go_roundw
        case rel => exact ⟨j + 1, Ta, Tb, ma, mb, da, db, Ba, Bb, P, Q, by go_num, HLT.out, O6.out.more (Nat.le_succ _)⟩
        case measure => have := HLT.out; simp [intOf]; omega
    · obtain rfl : j = n := by omega
      have i1 : ¬ (j : Int) < (j : Int) := by omega
      have HO := Lib.hid hO
      have CA := Lib.hid (wasksF hO.a (by have := hO.pa; have := HN.out; omega) false ⟨#[]⟩ ⟨#[]⟩ 0 0 false)
      have CB2 := Lib.hid fun X (hX : Gw wr X) => wasksF (hO.b.gw hX) (by have := hO.pb; have := HN.out; omega) false ⟨#[]⟩ ⟨#[]⟩ 0 0 false
      have CL := Lib.hid fun X (hX : Gw wr X) => wasksL (hO.a.gw hX) (by have := hO.pa; have := HN.out; omega) 7 false ⟨#[]⟩ ⟨#[]⟩ 0 0 false (by decide) (by decide) (by decide) (by decide) (by decide) (by decide)
      clear hO hlt hj
      go_wp2_with (first
        | (go_at_call 12; (refine CA.out.mono ?_; rintro e w6 ⟨rfl, g6⟩; have G6 := Lib.hid (show Gw wr w6 from g6); clear g6 CA))
        | (go_at_call 12; (refine (CB2.out _ G6.out).mono ?_; rintro e w7 ⟨rfl, g7⟩; have G7 := Lib.hid (G6.out.trans g7); clear g7 CB2))
        | (go_at_call 12; (refine (CL.out _ G7.out).mono ?_; rintro e w8 ⟨rfl, g8⟩; have G8 := Lib.hid (G7.out.trans g8); clear g8 CL)))
      go_ret
      exact ⟨rfl, HO.out.gw.trans G8.out⟩
end Go.Proofs.Ytlhpoliiojekeaa

/- TreePlays: each step answers as the list of the pairs does. -/
namespace Go.Proofs.Ytlhpoliiojekeaa
set_option maxRecDepth 100000
open Go.RowKit

theorem walk_TreePlays (a : Int) (A : Option Addr) (n c : Nat) (os : List OpT) (w : World) (ha : -9223372036854775808 ≤ a ∧ a ≤ 9223372036854775807) (h : RT w A n os) (hnc : n ≤ c) (hc : c ≤ 1048576) :
    Calls Try.prog 3 #[.int .i64 a, .slice A n c] w fun e w' => e = .returned (.bool true) ∧ Below w.heap.size w w' := by
  have CP := Lib.hid (wplays a A n c os w ha h (Nat.le_trans hnc hc))
  clear h hnc hc
  go_enter Try.func3, Try.ntmps3
  go_wp2_with (go_at_call 8; go_loud (refine CP.out.mono ?_; rintro e w3 ⟨rfl, b3⟩; have B3 := Lib.hid b3; clear b3))
  go_ret
  exact ⟨rfl, B3.out⟩
end Go.Proofs.Ytlhpoliiojekeaa
