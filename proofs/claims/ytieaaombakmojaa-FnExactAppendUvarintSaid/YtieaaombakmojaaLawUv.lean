/-
  Exact laws walked, over the contracts of what they call.
-/
import Derived.Test.YtieaaombakmojaaHelp
import Derived.Test.YtieaaombakmojaaUvW
namespace Go.Proofs.Ytieaaombakmojaa.LawUv
open Go.ChangeShapes Go.WideShapes Go.ChangeAt Go.RowKit
open Go.Proofs.Ytieaaombakmojaa.Seq Go.Proofs.Ytieaaombakmojaa.Help

set_option maxRecDepth 100000 in
theorem exactAppendUvarint (w : World) (vB : Value) (adB : Option Addr) (nB capB : Nat) (iaB : Kit.IntsAt .u8 w vB adB nB capB) (aN : Int) (wfN : (Lit.int .i64 aN).wf = true) :
    Calls Try.prog 5 #[vB, .int .i64 aN] w fun e w' => e = .returned (.bool true) ∧ Below w.heap.size w w' := by
  obtain ⟨xsB, rfl, sB⟩ := of_ints iaB
  clear iaB
  obtain ⟨loN, hiN⟩ := fits_i64.1 wfN
  clear wfN
  rcases Nat.lt_or_ge 1048576 nB with bigB | bigB
  · go_enter Try.func5, Try.ntmps5
    go_wp2
    go_ret
    exact ⟨rfl, Below.refl _ _⟩
  have cS := fun (w' : World) (lB hB : Nat) (adB : Option Addr) (nB capB : Nat) (sB : Sl w' lB hB .u8 adB nB capB xsB) (hnB : nB ≤ 1048576) => UvW.spec_app w' sB (by omega) aN
  have cI := fun (w' : World) (lB hB : Nat) (adB : Option Addr) (nB capB : Nat) (sB : Sl w' lB hB .u8 adB nB capB xsB) (hnB : nB ≤ 1048576) => UvW.impl_app w' sB (by omega) aN
  have hlen : (Uv.app xsB aN).length ≤ 17592186044416 := by have := Uv.app_len xsB aN; have := sB.len; omega
  generalize hR : Uv.app xsB aN = R at cS cI hlen
  clear hR
  have HS := Lib.hid cS
  have HI := Lib.hid cI
  clear cS cI
  have frm := Below.refl w.heap.size w
  go_enter Try.func5, Try.ntmps5
  go_wp2_with fail
  go_at_call 28
  refine (toB _ sB (by omega)).mono ?_
  rintro e w1 ⟨ad1, n1, cap1, rfl, r1, bl⟩
  have z1 := bl.size
  replace sB := sB.below bl (by omega)
  replace frm := frm.trans (bl.mono (by omega))
  clear bl
  have q1 : n1 ≤ 1048576 := by have h1 := r1.len; have h2 := sB.len; omega
  go_wp2_with fail
  go_at_call 27
  refine (HS.out _ _ _ _ _ _ r1.sl (by omega)).mono ?_
  rintro e w2 ⟨ad2, n2, cap2, rfl, r2, bl⟩
  have z2 := bl.size
  replace sB := sB.below bl (by omega)
  replace frm := frm.trans (bl.mono (by omega))
  clear bl
  have q2 : n2 ≤ 17592186044416 := by have h1 := r2.len; omega
  clear r1
  go_wp2_with fail
  go_at_call 28
  refine (toB _ sB (by omega)).mono ?_
  rintro e w3 ⟨ad3, n3, cap3, rfl, r3, bl⟩
  have z3 := bl.size
  replace sB := sB.below bl (by omega)
  replace r2 := r2.below bl (by omega)
  replace frm := frm.trans (bl.mono (by omega))
  clear bl
  have q3 : n3 ≤ 1048576 := by have h1 := r3.len; have h2 := sB.len; omega
  go_wp2_with fail
  go_at_call 15
  refine (HI.out _ _ _ _ _ _ r3.sl (by omega)).mono ?_
  rintro e w4 ⟨ad4, n4, cap4, rfl, r4, bl⟩
  have z4 := bl.size
  replace sB := sB.below bl (by omega)
  replace r2 := r2.below bl (by omega)
  replace r3 := r3.below bl (by omega)
  replace frm := frm.trans (bl.mono (by omega))
  clear bl
  have q4 : n4 ≤ 17592186044416 := by have h1 := r4.len; omega
  go_wp2_with fail
  go_at_call 29
  refine (eqB _ r4.sl r2.sl (by omega) rfl).mono ?_
  rintro e w5 ⟨rfl, bl⟩
  have z5 := bl.size
  replace sB := sB.below bl (by omega)
  replace r2 := r2.below bl (by omega)
  replace r3 := r3.below bl (by omega)
  replace r4 := r4.below bl (by omega)
  replace frm := frm.trans (bl.mono (by omega))
  clear bl
  go_wp2_with fail
  go_at_call 28
  refine (toB _ sB (by omega)).mono ?_
  rintro e w6 ⟨ad6, n6, cap6, rfl, r6, bl⟩
  have z6 := bl.size
  replace sB := sB.below bl (by omega)
  replace r2 := r2.below bl (by omega)
  replace r3 := r3.below bl (by omega)
  replace r4 := r4.below bl (by omega)
  replace frm := frm.trans (bl.mono (by omega))
  clear bl
  have q6 : n6 ≤ 1048576 := by have h1 := r6.len; have h2 := sB.len; omega
  go_wp2_with fail
  go_at_call 29
  refine (eqB _ r3.sl r6.sl (by omega) rfl).mono ?_
  rintro e w7 ⟨rfl, bl⟩
  have z7 := bl.size
  replace sB := sB.below bl (by omega)
  replace r2 := r2.below bl (by omega)
  replace r3 := r3.below bl (by omega)
  replace r4 := r4.below bl (by omega)
  replace frm := frm.trans (bl.mono (by omega))
  clear bl
  clear r6
  go_wp2_with fail
  go_at_call 30
  refine (markB _ r3 (by omega) 1 (by omega) (by omega)).mono ?_
  rintro e w9 ⟨rfl, new, mv⟩
  have z9 := mv.size
  replace sB := sB.mv mv (by omega)
  replace r2 := r2.mv mv (by omega)
  replace r4 := r4.mv mv (by omega)
  replace frm := frm.trans (mv.below (by omega) (by omega))
  clear new mv
  clear r3
  go_wp2_with fail
  go_at_call 29
  refine (eqB _ r4.sl r2.sl (by omega) rfl).mono ?_
  rintro e w10 ⟨rfl, bl⟩
  have z10 := bl.size
  replace sB := sB.below bl (by omega)
  replace r2 := r2.below bl (by omega)
  replace r4 := r4.below bl (by omega)
  replace frm := frm.trans (bl.mono (by omega))
  clear bl
  go_wp2_with fail
  go_at_call 30
  refine (markB _ r4 (by omega) 1 (by omega) (by omega)).mono ?_
  rintro e w12 ⟨rfl, new, mv⟩
  have z12 := mv.size
  replace sB := sB.mv mv (by omega)
  replace r2 := r2.mv mv (by omega)
  replace frm := frm.trans (mv.below (by omega) (by omega))
  have r4m := new
  clear new mv
  go_wp2_with fail
  go_at_call 31
  refine (heldB _ 1 r4m.sl (by omega) (by omega) (by omega)).mono ?_
  rintro e w14 ⟨rfl, bl⟩
  have z14 := bl.size
  replace sB := sB.below bl (by omega)
  replace r2 := r2.below bl (by omega)
  replace r4m := r4m.below bl (by omega)
  replace frm := frm.trans (bl.mono (by omega))
  clear bl
  go_wp2_with fail
  go_at_call 28
  refine (toB _ sB (by omega)).mono ?_
  rintro e w15 ⟨ad15, n15, cap15, rfl, r15, bl⟩
  have z15 := bl.size
  replace r2 := r2.below bl (by omega)
  replace r4m := r4m.below bl (by omega)
  replace frm := frm.trans (bl.mono (by omega))
  clear bl
  have q15 : n15 ≤ 1048576 := by have h1 := r15.len; have h2 := sB.len; omega
  go_wp2_with fail
  go_at_call 15
  refine (HI.out _ _ _ _ _ _ r15.sl (by omega)).mono ?_
  rintro e w16 ⟨ad16, n16, cap16, rfl, r16, bl⟩
  have z16 := bl.size
  replace r2 := r2.below bl (by omega)
  replace r4m := r4m.below bl (by omega)
  replace frm := frm.trans (bl.mono (by omega))
  clear bl
  have q16 : n16 ≤ 17592186044416 := by have h1 := r16.len; omega
  clear r15
  go_wp2_with fail
  go_at_call 29
  refine (eqB _ r16.sl r2.sl (by omega) rfl).mono ?_
  rintro e w17 ⟨rfl, bl⟩
  have z17 := bl.size
  replace r4m := r4m.below bl (by omega)
  replace frm := frm.trans (bl.mono (by omega))
  clear bl
  clear r2
  clear r16
  go_wp2_with fail
  go_at_call 31
  refine (heldB _ 1 r4m.sl (by omega) (by omega) (by omega)).mono ?_
  rintro e w19 ⟨rfl, bl⟩
  have z19 := bl.size
  replace frm := frm.trans (bl.mono (by omega))
  clear bl
  clear r4m
  go_wp2
  go_ret
  exact ⟨rfl, frm⟩

end Go.Proofs.Ytieaaombakmojaa.LawUv
