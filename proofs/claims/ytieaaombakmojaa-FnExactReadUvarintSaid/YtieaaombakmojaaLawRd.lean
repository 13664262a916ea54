/-
  Exact laws walked, over the contracts of what they call.
-/
import Derived.Test.YtieaaombakmojaaHelp
import Derived.Test.YtieaaombakmojaaRdW
namespace Go.Proofs.Ytieaaombakmojaa.LawRd
open Go.ChangeShapes Go.WideShapes Go.ChangeAt Go.RowKit
open Go.Proofs.Ytieaaombakmojaa.Seq Go.Proofs.Ytieaaombakmojaa.Help

set_option maxRecDepth 100000 in
theorem exactReadUvarint (w : World) (vB : Value) (adB : Option Addr) (nB capB : Nat) (iaB : Kit.IntsAt .u8 w vB adB nB capB) (aOffset : Int) (wfOffset : (Lit.int .i64 aOffset).wf = true) :
    Calls Try.prog 6 #[vB, .int .i64 aOffset] w fun e w' => e = .returned (.bool true) ∧ Below w.heap.size w w' := by
  obtain ⟨xsB, rfl, sB⟩ := of_ints iaB
  clear iaB
  obtain ⟨loOffset, hiOffset⟩ := fits_i64.1 wfOffset
  clear wfOffset
  rcases Nat.lt_or_ge 1048576 nB with bigB | bigB
  · go_enter Try.func6, Try.ntmps6
    go_wp2
    go_ret
    exact ⟨rfl, Below.refl _ _⟩
  have cS := fun (w' : World) (lB hB : Nat) (adB : Option Addr) (nB capB : Nat) (sB : Sl w' lB hB .u8 adB nB capB xsB) (hnB : nB ≤ 1048576) => (fun w' s h => RdW.spec_read w' s h) w' sB (by omega) aOffset loOffset hiOffset
  have cI := fun (w' : World) (lB hB : Nat) (adB : Option Addr) (nB capB : Nat) (sB : Sl w' lB hB .u8 adB nB capB xsB) (hnB : nB ≤ 1048576) => (fun w' s h => RdW.impl_read w' s h) w' sB (by omega) aOffset loOffset hiOffset
  generalize hR : Rd.rdv xsB aOffset = R at cS cI
  clear hR
  obtain ⟨R0, R1, R2⟩ := R
  try dsimp only [Three] at cS cI
  have HS := Lib.hid cS
  have HI := Lib.hid cI
  clear cS cI
  have frm := Below.refl w.heap.size w
  go_enter Try.func6, Try.ntmps6
  go_wp2_with fail
  go_at_call 28
  refine (toB _ sB (by omega)).mono ?_
  rintro e w1 ⟨ad1, n1, cap1, rfl, r1, bl⟩
  have z1 := bl.size
  replace sB := sB.below bl (by omega)
  replace frm := frm.trans (bl.mono (by omega))
  clear bl
  have q1 : n1 ≤ 1048576 := by have h1 := r1.len; have h2 := sB.len; omega
  go_wp2_with fail
  go_at_call 19
  refine (HS.out _ _ _ _ _ _ r1.sl (by omega)).mono ?_
  rintro e w2 ⟨rfl, bl⟩
  have z2 := bl.size
  replace sB := sB.below bl (by omega)
  replace frm := frm.trans (bl.mono (by omega))
  clear bl
  clear r1
  go_wp2_with fail
  go_at_call 28
  refine (toB _ sB (by omega)).mono ?_
  rintro e w3 ⟨ad3, n3, cap3, rfl, r3, bl⟩
  have z3 := bl.size
  replace sB := sB.below bl (by omega)
  replace frm := frm.trans (bl.mono (by omega))
  clear bl
  have q3 : n3 ≤ 1048576 := by have h1 := r3.len; have h2 := sB.len; omega
  go_wp2_with fail
  go_at_call 16
  refine (HI.out _ _ _ _ _ _ r3.sl (by omega)).mono ?_
  rintro e w4 ⟨rfl, bl⟩
  have z4 := bl.size
  replace sB := sB.below bl (by omega)
  replace r3 := r3.below bl (by omega)
  replace frm := frm.trans (bl.mono (by omega))
  clear bl
  go_wp2_with fail
  go_at_call 28
  refine (toB _ sB (by omega)).mono ?_
  rintro e w5 ⟨ad5, n5, cap5, rfl, r5, bl⟩
  have z5 := bl.size
  replace r3 := r3.below bl (by omega)
  replace frm := frm.trans (bl.mono (by omega))
  clear bl
  have q5 : n5 ≤ 1048576 := by have h1 := r5.len; have h2 := sB.len; omega
  go_wp2_with fail
  go_at_call 29
  refine (eqB _ r3.sl r5.sl (by omega) rfl).mono ?_
  rintro e w6 ⟨rfl, bl⟩
  have z6 := bl.size
  replace frm := frm.trans (bl.mono (by omega))
  clear bl
  clear r3
  clear r5
  go_wp2
  go_ret
  exact ⟨rfl, frm⟩

end Go.Proofs.Ytieaaombakmojaa.LawRd
