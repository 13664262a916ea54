/-
  Chapter 11's laws, their own text walked, over the contracts of what they call: packets of a generation.
  Chapter 11's laws, their own text walked, over the contracts of what they call: packets encoded and decoded.
-/
import Derived.Test.YtkhfkccbnhjmjaaDoorPM
import Derived.Test.YtkhfkccbnhjmjaaDoorPA
import Derived.Test.YtkhfkccbnhjmjaaDoorPH
import Derived.Deep.RegionHeld3
namespace Go.Proofs.YtkhfkccbnhjmjaaDoor.LawPkt
open Go.ChangeShapes Go.WideShapes Go.ChangeAt Go.RowKit
open Go.Proofs.YtkhfkccbnhjmjaaDoor.Drawn Go.Proofs.YtkhfkccbnhjmjaaDoor.Field Go.Proofs.YtkhfkccbnhjmjaaDoor.Kit Go.Proofs.YtkhfkccbnhjmjaaDoor.Seq Go.Proofs.YtkhfkccbnhjmjaaDoor.Help Go.Proofs.YtkhfkccbnhjmjaaDoor.Draw Go.Proofs.YtkhfkccbnhjmjaaDoor.DrawInt Go.Proofs.YtkhfkccbnhjmjaaDoor.DrawPkt Go.Proofs.YtkhfkccbnhjmjaaDoor.FieldW Go.Proofs.YtkhfkccbnhjmjaaDoor.Vec Go.Proofs.YtkhfkccbnhjmjaaDoor.Mat Go.Proofs.YtkhfkccbnhjmjaaDoor.MatW Go.Proofs.YtkhfkccbnhjmjaaDoor.Shape Go.Proofs.YtkhfkccbnhjmjaaDoor.Gen Go.Proofs.YtkhfkccbnhjmjaaDoor.GenW Go.Proofs.YtkhfkccbnhjmjaaDoor.Deep Go.Proofs.YtkhfkccbnhjmjaaDoor.Pkt Go.Proofs.YtkhfkccbnhjmjaaDoor.PktW

theorem bytes_at {w : World} {v : Value} {ad : Option Addr} {n cap : Nat} (h : IntsAt .u8 w v ad n cap) : BytesAt w v ad n cap :=
  ⟨h.val, Nat.le_trans h.len h.cap, fun j hj => by
    obtain ⟨a, x, e, f, hx⟩ := h.cells j hj
    obtain ⟨h0, h1⟩ := fits_u8.1 f
    exact ⟨a, x, e, h0, h1, hx⟩⟩
end Go.Proofs.YtkhfkccbnhjmjaaDoor.LawPkt
namespace Go.Proofs.YtkhfkccbnhjmjaaDoor.LawPkt
open Go.ChangeShapes Go.WideShapes Go.ChangeAt Go.RowKit
open Go.Proofs.YtkhfkccbnhjmjaaDoor.Drawn Go.Proofs.YtkhfkccbnhjmjaaDoor.Field Go.Proofs.YtkhfkccbnhjmjaaDoor.Kit Go.Proofs.YtkhfkccbnhjmjaaDoor.Seq Go.Proofs.YtkhfkccbnhjmjaaDoor.Help Go.Proofs.YtkhfkccbnhjmjaaDoor.Draw Go.Proofs.YtkhfkccbnhjmjaaDoor.DrawInt Go.Proofs.YtkhfkccbnhjmjaaDoor.DrawPkt Go.Proofs.YtkhfkccbnhjmjaaDoor.FieldW Go.Proofs.YtkhfkccbnhjmjaaDoor.Vec Go.Proofs.YtkhfkccbnhjmjaaDoor.Mat Go.Proofs.YtkhfkccbnhjmjaaDoor.MatW Go.Proofs.YtkhfkccbnhjmjaaDoor.Shape Go.Proofs.YtkhfkccbnhjmjaaDoor.Gen Go.Proofs.YtkhfkccbnhjmjaaDoor.GenW Go.Proofs.YtkhfkccbnhjmjaaDoor.Deep Go.Proofs.YtkhfkccbnhjmjaaDoor.Pkt Go.Proofs.YtkhfkccbnhjmjaaDoor.PktW

set_option maxRecDepth 100000 in
theorem samePkt (w : World) {l h l2 h2 : Nat} {v v2 : Value} {p : P3} (s : CodedPacketI w l h v p) (s2 : CodedPacketI w l2 h2 v2 p) (hs : Short3 p) :
    Calls Tryd.prog 22 #[v, v2] w (fun e w' => e = .returned (.bool true) ∧ Below w.heap.size w w') := by
  obtain ⟨x, C, Q⟩ := p
  obtain ⟨ad1, n1, cap1, ad2, n2, cap2, rfl, hw, t1, t2⟩ := pkt_open s
  obtain ⟨ad3, n3, cap3, ad4, n4, cap4, rfl, hw2, t3, t4⟩ := pkt_open s2
  have hl1 : n1 ≤ 200 := by rw [← t1.len]; exact hs.1
  have hl2 : n2 ≤ 200 := by rw [← t2.len]; exact hs.2
  have hb := (below_box w (.cells #[.int .i64 x, .slice ad1 n1 cap1, .slice ad2 n2 cap2] 31)).alloc (by simp) (.cells #[.int .i64 x, .slice ad3 n3 cap3, .slice ad4 n4 cap4] 31)
  have hz : ((w.alloc (.cells #[.int .i64 x, .slice ad1 n1 cap1, .slice ad2 n2 cap2] 31)).alloc (.cells #[.int .i64 x, .slice ad3 n3 cap3, .slice ad4 n4 cap4] 31)).heap.size = w.heap.size + 1 + 1 := by simp
  have kA := (Bx.new w [.int .i64 x, .slice ad1 n1 cap1, .slice ad2 n2 cap2] 31).alloc (.cells #[.int .i64 x, .slice ad3 n3 cap3, .slice ad4 n4 cap4] 31)
  have kB := Bx.new (w.alloc (.cells #[.int .i64 x, .slice ad1 n1 cap1, .slice ad2 n2 cap2] 31)) [.int .i64 x, .slice ad3 n3 cap3, .slice ad4 n4 cap4] 31
  rw [World.size_alloc] at kB
  have H1 := Lib.hid (fun (w' : World) (q : Below w.heap.size w w') => Same.sameInts w' (t1.below q (.inr (Nat.le_refl _))) (t3.below q (.inr (Nat.le_refl _))) (by omega) rfl)
  have H2 := Lib.hid (fun (w' : World) (q : Below w.heap.size w w') => Same.sameInts w' (t2.below q (.inr (Nat.le_refl _))) (t4.below q (.inr (Nat.le_refl _))) (by omega) rfl)
  have ca0 := kA.cell (i := 0) rfl
  have ca1 := kA.cell (i := 1) rfl
  have ca2 := kA.cell (i := 2) rfl
  have cb0 := kB.cell (i := 0) rfl
  have cb1 := kB.cell (i := 1) rfl
  have cb2 := kB.cell (i := 2) rfl
  have HB := Lib.hid hb
  clear s s2 t1 t2 t3 t4 hb kA kB hs
  go_enter Tryd.func22, Tryd.ntmps22
  go_wp2_with fail
  go_at_call 17
  generalize (w.alloc (.cells #[.int .i64 x, .slice ad1 n1 cap1, .slice ad2 n2 cap2] 31)).alloc (.cells #[.int .i64 x, .slice ad3 n3 cap3, .slice ad4 n4 cap4] 31) = D at *
  refine (H1.out D HB.out).mono ?_
  rintro e w1 ⟨rfl, b1⟩
  have hD1 := Lib.hid (HB.out.trans (b1.mono (by omega)))
  have da2 := (b1.cell (World.block_lt_of_cell? _ _ ca2)).trans ca2
  have db2 := (b1.cell (World.block_lt_of_cell? _ _ cb2)).trans cb2
  have hz1' := b1.size
  clear b1
  go_wp2_with fail
  go_at_call 17
  refine (H2.out w1 hD1.out).mono ?_
  rintro e w2 ⟨rfl, b2⟩
  have hD2 := Lib.hid (hD1.out.trans (b2.mono (by omega)))
  clear b2
  go_wp2
  go_ret
  exact ⟨rfl, hD2.out⟩
end Go.Proofs.YtkhfkccbnhjmjaaDoor.LawPkt
