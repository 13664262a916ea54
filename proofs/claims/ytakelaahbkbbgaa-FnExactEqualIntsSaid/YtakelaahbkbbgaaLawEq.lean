/-
  Exact laws walked, over the contracts of what they call.
-/
import Derived.Test.YtakelaahbkbbgaaHelp
import Derived.Test.YtakelaahbkbbgaaEq
namespace Go.Proofs.Ytakelaahbkbbgaa.LawEq
open Go.ChangeShapes Go.WideShapes Go.ChangeAt Go.RowKit
open Go.Proofs.Ytakelaahbkbbgaa.Seq Go.Proofs.Ytakelaahbkbbgaa.Help


set_option maxRecDepth 100000 in
theorem exactEqualInts (w : World) (vA : Value) (adA : Option Addr) (nA capA : Nat) (iaA : Kit.IntsAt .i64 w vA adA nA capA) (vB : Value) (adB : Option Addr) (nB capB : Nat) (iaB : Kit.IntsAt .i64 w vB adB nB capB) :
    Calls Try.prog 12 #[vA, vB] w fun e w' => e = .returned (.bool true) ∧ Below w.heap.size w w' := by
  obtain ⟨xsA, rfl, sA⟩ := of_ints iaA
  clear iaA
  obtain ⟨xsB, rfl, sB⟩ := of_ints iaB
  clear iaB
  rcases Nat.lt_or_ge 1048576 nA with bigA | bigA
  · go_enter Try.func12, Try.ntmps12
    go_wp2
    go_ret
    exact ⟨rfl, Below.refl _ _⟩
  rcases Nat.lt_or_ge 1048576 nB with bigB | bigB
  · go_enter Try.func12, Try.ntmps12
    go_wp2
    go_ret
    exact ⟨rfl, Below.refl _ _⟩
  have cS := fun (w' : World) (lA hA : Nat) (adA : Option Addr) (nA capA : Nat) (sA : Sl w' lA hA .i64 adA nA capA xsA) (hnA : nA ≤ 1048576) (lB hB : Nat) (adB : Option Addr) (nB capB : Nat) (sB : Sl w' lB hB .i64 adB nB capB xsB) (hnB : nB ≤ 1048576) => (fun w' s h s2 _ => Eq.spec_eqI w' s s2 h) w' sA (by omega) sB (by omega)
  have cI := fun (w' : World) (lA hA : Nat) (adA : Option Addr) (nA capA : Nat) (sA : Sl w' lA hA .i64 adA nA capA xsA) (hnA : nA ≤ 1048576) (lB hB : Nat) (adB : Option Addr) (nB capB : Nat) (sB : Sl w' lB hB .i64 adB nB capB xsB) (hnB : nB ≤ 1048576) => (fun w' s h s2 _ => Eq.impl_eqI w' s s2 h) w' sA (by omega) sB (by omega)
  generalize hR : Eq.same xsA xsB = R at cS cI
  clear hR
  have HS := Lib.hid cS
  have HI := Lib.hid cI
  clear cS cI
  have frm := Below.refl w.heap.size w
  go_enter Try.func12, Try.ntmps12
  go_wp2_with fail
  go_at_call 27
  refine (toI _ sA (by omega)).mono ?_
  rintro e w1 ⟨ad1, n1, cap1, rfl, r1, bl⟩
  have z1 := bl.size
  replace sA := sA.below bl (by omega)
  replace sB := sB.below bl (by omega)
  replace frm := frm.trans (bl.mono (by omega))
  clear bl
  have q1 : n1 ≤ 1048576 := by have h1 := r1.len; have h2 := sA.len; omega
  go_wp2_with fail
  go_at_call 27
  refine (toI _ sB (by omega)).mono ?_
  rintro e w2 ⟨ad2, n2, cap2, rfl, r2, bl⟩
  have z2 := bl.size
  replace sA := sA.below bl (by omega)
  replace sB := sB.below bl (by omega)
  replace r1 := r1.below bl (by omega)
  replace frm := frm.trans (bl.mono (by omega))
  clear bl
  have q2 : n2 ≤ 1048576 := by have h1 := r2.len; have h2 := sB.len; omega
  go_wp2_with fail
  go_at_call 42
  refine (HS.out _ _ _ _ _ _ r1.sl (by omega)  _ _ _ _ _ r2.sl (by omega)).mono ?_
  rintro e w3 ⟨rfl, bl⟩
  have z3 := bl.size
  replace sA := sA.below bl (by omega)
  replace sB := sB.below bl (by omega)
  replace frm := frm.trans (bl.mono (by omega))
  clear bl
  clear r1
  clear r2
  go_wp2_with fail
  go_at_call 27
  refine (toI _ sA (by omega)).mono ?_
  rintro e w4 ⟨ad4, n4, cap4, rfl, r4, bl⟩
  have z4 := bl.size
  replace sA := sA.below bl (by omega)
  replace sB := sB.below bl (by omega)
  replace frm := frm.trans (bl.mono (by omega))
  clear bl
  have q4 : n4 ≤ 1048576 := by have h1 := r4.len; have h2 := sA.len; omega
  go_wp2_with fail
  go_at_call 27
  refine (toI _ sB (by omega)).mono ?_
  rintro e w5 ⟨ad5, n5, cap5, rfl, r5, bl⟩
  have z5 := bl.size
  replace sA := sA.below bl (by omega)
  replace sB := sB.below bl (by omega)
  replace r4 := r4.below bl (by omega)
  replace frm := frm.trans (bl.mono (by omega))
  clear bl
  have q5 : n5 ≤ 1048576 := by have h1 := r5.len; have h2 := sB.len; omega
  go_wp2_with fail
  go_at_call 43
  refine (HI.out _ _ _ _ _ _ r4.sl (by omega)  _ _ _ _ _ r5.sl (by omega)).mono ?_
  rintro e w6 ⟨rfl, bl⟩
  have z6 := bl.size
  replace sA := sA.below bl (by omega)
  replace sB := sB.below bl (by omega)
  replace r4 := r4.below bl (by omega)
  replace r5 := r5.below bl (by omega)
  replace frm := frm.trans (bl.mono (by omega))
  clear bl
  go_wp2_with fail
  go_at_call 27
  refine (toI _ sA (by omega)).mono ?_
  rintro e w7 ⟨ad7, n7, cap7, rfl, r7, bl⟩
  have z7 := bl.size
  replace sB := sB.below bl (by omega)
  replace r4 := r4.below bl (by omega)
  replace r5 := r5.below bl (by omega)
  replace frm := frm.trans (bl.mono (by omega))
  clear bl
  have q7 : n7 ≤ 1048576 := by have h1 := r7.len; have h2 := sA.len; omega
  go_wp2_with fail
  go_at_call 28
  refine (eqI _ r4.sl r7.sl (by omega) rfl).mono ?_
  rintro e w8 ⟨rfl, bl⟩
  have z8 := bl.size
  replace sB := sB.below bl (by omega)
  replace r5 := r5.below bl (by omega)
  replace frm := frm.trans (bl.mono (by omega))
  clear bl
  clear r4
  clear r7
  go_wp2_with fail
  go_at_call 27
  refine (toI _ sB (by omega)).mono ?_
  rintro e w9 ⟨ad9, n9, cap9, rfl, r9, bl⟩
  have z9 := bl.size
  replace r5 := r5.below bl (by omega)
  replace frm := frm.trans (bl.mono (by omega))
  clear bl
  have q9 : n9 ≤ 1048576 := by have h1 := r9.len; have h2 := sB.len; omega
  go_wp2_with fail
  go_at_call 28
  refine (eqI _ r5.sl r9.sl (by omega) rfl).mono ?_
  rintro e w10 ⟨rfl, bl⟩
  have z10 := bl.size
  replace frm := frm.trans (bl.mono (by omega))
  clear bl
  clear r5
  clear r9
  go_wp2
  go_ret
  exact ⟨rfl, frm⟩

end Go.Proofs.Ytakelaahbkbbgaa.LawEq
