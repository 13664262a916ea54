/-
  Exact laws walked, over the contracts of what they call.
-/
import Derived.Test.YtecijpfcnhbkcaaHelp2
import Derived.Test.YtecijpfcnhbkcaaVecOps
import Derived.Test.YtecijpfcnhbkcaaVecI
import Derived.Test.YtecijpfcnhbkcaaComb
import Derived.Test.YtecijpfcnhbkcaaEqV
namespace Go.Proofs.Ytecijpfcnhbkcaa.LawVecEx
open Go.ChangeShapes Go.WideShapes Go.ChangeAt Go.RowKit
open Go.Proofs.Ytecijpfcnhbkcaa.Seq Go.Proofs.Ytecijpfcnhbkcaa.Help

set_option maxRecDepth 100000 in
theorem exactIsValidVector (w : World) (vV : Value) (adV : Option Addr) (nV capV : Nat) (iaV : Kit.IntsAt .i64 w vV adV nV capV) :
    Calls Try.prog 5 #[vV] w fun e w' => e = .returned (.bool true) ∧ Below w.heap.size w w' := by
  obtain ⟨xsV, rfl, sV⟩ := of_ints iaV
  clear iaV
  rcases Nat.lt_or_ge 1048576 nV with bigV | bigV
  · go_enter Try.func5, Try.ntmps5
    go_wp2
    go_ret
    exact ⟨rfl, Below.refl _ _⟩
  have frm := Below.refl w.heap.size w
  have cS := fun (w' : World) (lV hV : Nat) (adV : Option Addr) (nV capV : Nat) (sV : Sl w' lV hV .i64 adV nV capV xsV) (hnV : nV ≤ 1048576) => (fun w' s _ => (VecW.spec_isVec w' s).mono FieldW.isB_below) w' sV (by omega)
  have cI := fun (w' : World) (lV hV : Nat) (adV : Option Addr) (nV capV : Nat) (sV : Sl w' lV hV .i64 adV nV capV xsV) (hnV : nV ≤ 1048576) => VecI.isVec w' sV (by omega)
  generalize hR : Vec.isVec xsV = R at cS cI
  clear hR
  have HS := Lib.hid cS
  have HI := Lib.hid cI
  clear cS cI
  go_enter Try.func5, Try.ntmps5
  go_wp2_with fail
  go_at_call 35
  refine (toI _ sV (by omega)).mono ?_
  rintro e w1 ⟨ad1, n1, cap1, rfl, r1, bl⟩
  have z1 := bl.size
  replace sV := sV.below bl (by omega)
  replace frm := frm.trans (bl.mono (by omega))
  clear bl
  have q1 : n1 ≤ 1048576 := by have h1 := r1.len; have h2 := sV.len; omega
  go_wp2_with fail
  go_at_call 17
  refine (HS.out _ _ _ _ _ _ r1.sl (by omega)).mono ?_
  rintro e w2 ⟨rfl, bl⟩
  have z2 := bl.size
  replace sV := sV.below bl (by omega)
  replace frm := frm.trans (bl.mono (by omega))
  clear bl
  clear r1
  go_wp2_with fail
  go_at_call 35
  refine (toI _ sV (by omega)).mono ?_
  rintro e w3 ⟨ad3, n3, cap3, rfl, r3, bl⟩
  have z3 := bl.size
  replace sV := sV.below bl (by omega)
  replace frm := frm.trans (bl.mono (by omega))
  clear bl
  have q3 : n3 ≤ 1048576 := by have h1 := r3.len; have h2 := sV.len; omega
  go_wp2_with fail
  go_at_call 20
  refine (HI.out _ _ _ _ _ _ r3.sl (by omega)).mono ?_
  rintro e w4 ⟨rfl, bl⟩
  have z4 := bl.size
  replace sV := sV.below bl (by omega)
  replace r3 := r3.below bl (by omega)
  replace frm := frm.trans (bl.mono (by omega))
  clear bl
  go_wp2_with fail
  go_at_call 35
  refine (toI _ sV (by omega)).mono ?_
  rintro e w5 ⟨ad5, n5, cap5, rfl, r5, bl⟩
  have z5 := bl.size
  replace r3 := r3.below bl (by omega)
  replace frm := frm.trans (bl.mono (by omega))
  clear bl
  have q5 : n5 ≤ 1048576 := by have h1 := r5.len; have h2 := sV.len; omega
  go_wp2_with fail
  go_at_call 36
  refine (eqI _ r3.sl r5.sl (by omega) rfl).mono ?_
  rintro e w6 ⟨rfl, bl⟩
  have z6 := bl.size
  replace frm := frm.trans (bl.mono (by omega))
  clear bl
  clear r3
  clear r5
  go_wp2
  go_ret
  exact ⟨rfl, frm⟩

set_option maxRecDepth 100000 in
theorem exactAddVectors (w : World) (vA : Value) (adA : Option Addr) (nA capA : Nat) (iaA : Kit.IntsAt .i64 w vA adA nA capA) (vB : Value) (adB : Option Addr) (nB capB : Nat) (iaB : Kit.IntsAt .i64 w vB adB nB capB) :
    Calls Try.prog 6 #[vA, vB] w fun e w' => e = .returned (.bool true) ∧ Below w.heap.size w w' := by
  obtain ⟨xsA, rfl, sA⟩ := of_ints iaA
  clear iaA
  obtain ⟨xsB, rfl, sB⟩ := of_ints iaB
  clear iaB
  rcases Nat.lt_or_ge 1048576 nA with bigA | bigA
  · go_enter Try.func6, Try.ntmps6
    go_wp2
    go_ret
    exact ⟨rfl, Below.refl _ _⟩
  rcases Nat.lt_or_ge 1048576 nB with bigB | bigB
  · go_enter Try.func6, Try.ntmps6
    go_wp2
    go_ret
    exact ⟨rfl, Below.refl _ _⟩
  have frm := Below.refl w.heap.size w
  have cS := fun (w' : World) (lA hA : Nat) (adA : Option Addr) (nA capA : Nat) (sA : Sl w' lA hA .i64 adA nA capA xsA) (hnA : nA ≤ 1048576) (lB hB : Nat) (adB : Option Addr) (nB capB : Nat) (sB : Sl w' lB hB .i64 adB nB capB xsB) (hnB : nB ≤ 1048576) => (fun w' s _ s2 _ => VecW.spec_addv w' s s2) w' sA (by omega) sB (by omega)
  have cI := fun (w' : World) (lA hA : Nat) (adA : Option Addr) (nA capA : Nat) (sA : Sl w' lA hA .i64 adA nA capA xsA) (hnA : nA ≤ 1048576) (lB hB : Nat) (adB : Option Addr) (nB capB : Nat) (sB : Sl w' lB hB .i64 adB nB capB xsB) (hnB : nB ≤ 1048576) => VecI.addv w' sA (by omega) sB (by omega)
  have hlen : (Vec.addScaled xsA xsB 1).length ≤ 17592186044416 := by have := Vec.addScaled_le xsA xsB 1; have := sA.len; omega
  generalize hR : Vec.addScaled xsA xsB 1 = R at cS cI hlen
  clear hR
  have HS := Lib.hid cS
  have HI := Lib.hid cI
  clear cS cI
  go_enter Try.func6, Try.ntmps6
  go_wp2_with fail
  go_at_call 35
  refine (toI _ sA (by omega)).mono ?_
  rintro e w1 ⟨ad1, n1, cap1, rfl, r1, bl⟩
  have z1 := bl.size
  replace sA := sA.below bl (by omega)
  replace sB := sB.below bl (by omega)
  replace frm := frm.trans (bl.mono (by omega))
  clear bl
  have q1 : n1 ≤ 1048576 := by have h1 := r1.len; have h2 := sA.len; omega
  go_wp2_with fail
  go_at_call 35
  refine (toI _ sB (by omega)).mono ?_
  rintro e w2 ⟨ad2, n2, cap2, rfl, r2, bl⟩
  have z2 := bl.size
  replace sA := sA.below bl (by omega)
  replace sB := sB.below bl (by omega)
  replace r1 := r1.below bl (by omega)
  replace frm := frm.trans (bl.mono (by omega))
  clear bl
  have q2 : n2 ≤ 1048576 := by have h1 := r2.len; have h2 := sB.len; omega
  go_wp2_with fail
  go_at_call 33
  refine (HS.out _ _ _ _ _ _ r1.sl (by omega)  _ _ _ _ _ r2.sl (by omega)).mono ?_
  rintro e w3 ⟨ad3, n3, cap3, rfl, r3, bl⟩
  have z3 := bl.size
  replace sA := sA.below bl (by omega)
  replace sB := sB.below bl (by omega)
  replace frm := frm.trans (bl.mono (by omega))
  clear bl
  have q3 : n3 ≤ 17592186044416 := by have h1 := r3.len; omega
  clear r1
  clear r2
  go_wp2_with fail
  go_at_call 35
  refine (toI _ sA (by omega)).mono ?_
  rintro e w4 ⟨ad4, n4, cap4, rfl, r4, bl⟩
  have z4 := bl.size
  replace sA := sA.below bl (by omega)
  replace sB := sB.below bl (by omega)
  replace r3 := r3.below bl (by omega)
  replace frm := frm.trans (bl.mono (by omega))
  clear bl
  have q4 : n4 ≤ 1048576 := by have h1 := r4.len; have h2 := sA.len; omega
  go_wp2_with fail
  go_at_call 35
  refine (toI _ sB (by omega)).mono ?_
  rintro e w5 ⟨ad5, n5, cap5, rfl, r5, bl⟩
  have z5 := bl.size
  replace sA := sA.below bl (by omega)
  replace sB := sB.below bl (by omega)
  replace r3 := r3.below bl (by omega)
  replace r4 := r4.below bl (by omega)
  replace frm := frm.trans (bl.mono (by omega))
  clear bl
  have q5 : n5 ≤ 1048576 := by have h1 := r5.len; have h2 := sB.len; omega
  go_wp2_with fail
  go_at_call 22
  refine (HI.out _ _ _ _ _ _ r4.sl (by omega)  _ _ _ _ _ r5.sl (by omega)).mono ?_
  rintro e w6 ⟨ad6, n6, cap6, rfl, r6, bl⟩
  have z6 := bl.size
  replace sA := sA.below bl (by omega)
  replace sB := sB.below bl (by omega)
  replace r3 := r3.below bl (by omega)
  replace r4 := r4.below bl (by omega)
  replace r5 := r5.below bl (by omega)
  replace frm := frm.trans (bl.mono (by omega))
  clear bl
  have q6 : n6 ≤ 17592186044416 := by have h1 := r6.len; omega
  go_wp2_with fail
  go_at_call 36
  refine (eqI _ r6.sl r3.sl (by omega) rfl).mono ?_
  rintro e w7 ⟨rfl, bl⟩
  have z7 := bl.size
  replace sA := sA.below bl (by omega)
  replace sB := sB.below bl (by omega)
  replace r3 := r3.below bl (by omega)
  replace r4 := r4.below bl (by omega)
  replace r5 := r5.below bl (by omega)
  replace r6 := r6.below bl (by omega)
  replace frm := frm.trans (bl.mono (by omega))
  clear bl
  go_wp2_with fail
  go_at_call 35
  refine (toI _ sA (by omega)).mono ?_
  rintro e w8 ⟨ad8, n8, cap8, rfl, r8, bl⟩
  have z8 := bl.size
  replace sA := sA.below bl (by omega)
  replace sB := sB.below bl (by omega)
  replace r3 := r3.below bl (by omega)
  replace r4 := r4.below bl (by omega)
  replace r5 := r5.below bl (by omega)
  replace r6 := r6.below bl (by omega)
  replace frm := frm.trans (bl.mono (by omega))
  clear bl
  have q8 : n8 ≤ 1048576 := by have h1 := r8.len; have h2 := sA.len; omega
  go_wp2_with fail
  go_at_call 36
  refine (eqI _ r4.sl r8.sl (by omega) rfl).mono ?_
  rintro e w9 ⟨rfl, bl⟩
  have z9 := bl.size
  replace sA := sA.below bl (by omega)
  replace sB := sB.below bl (by omega)
  replace r3 := r3.below bl (by omega)
  replace r4 := r4.below bl (by omega)
  replace r5 := r5.below bl (by omega)
  replace r6 := r6.below bl (by omega)
  replace frm := frm.trans (bl.mono (by omega))
  clear bl
  clear r8
  go_wp2_with fail
  go_at_call 35
  refine (toI _ sB (by omega)).mono ?_
  rintro e w10 ⟨ad10, n10, cap10, rfl, r10, bl⟩
  have z10 := bl.size
  replace sA := sA.below bl (by omega)
  replace sB := sB.below bl (by omega)
  replace r3 := r3.below bl (by omega)
  replace r4 := r4.below bl (by omega)
  replace r5 := r5.below bl (by omega)
  replace r6 := r6.below bl (by omega)
  replace frm := frm.trans (bl.mono (by omega))
  clear bl
  have q10 : n10 ≤ 1048576 := by have h1 := r10.len; have h2 := sB.len; omega
  go_wp2_with fail
  go_at_call 36
  refine (eqI _ r5.sl r10.sl (by omega) rfl).mono ?_
  rintro e w11 ⟨rfl, bl⟩
  have z11 := bl.size
  replace sA := sA.below bl (by omega)
  replace sB := sB.below bl (by omega)
  replace r3 := r3.below bl (by omega)
  replace r4 := r4.below bl (by omega)
  replace r5 := r5.below bl (by omega)
  replace r6 := r6.below bl (by omega)
  replace frm := frm.trans (bl.mono (by omega))
  clear bl
  clear r10
  go_wp2_with fail
  go_at_call 37
  refine (markI _ r4 (by omega) 1 (by omega) (by omega)).mono ?_
  rintro e w13 ⟨rfl, new, mv⟩
  have z13 := mv.size
  replace sA := sA.mv mv (by omega)
  replace sB := sB.mv mv (by omega)
  replace r3 := r3.mv mv (by omega)
  replace r5 := r5.mv mv (by omega)
  replace r6 := r6.mv mv (by omega)
  replace frm := frm.trans (mv.below (by omega) (by omega))
  clear new mv
  clear r4
  go_wp2_with fail
  go_at_call 37
  refine (markI _ r5 (by omega) (1 + (n4 : Int)) (by omega) (by omega)).mono ?_
  rintro e w14 ⟨rfl, new, mv⟩
  have z14 := mv.size
  replace sA := sA.mv mv (by omega)
  replace sB := sB.mv mv (by omega)
  replace r3 := r3.mv mv (by omega)
  replace r6 := r6.mv mv (by omega)
  replace frm := frm.trans (mv.below (by omega) (by omega))
  clear new mv
  clear r5
  go_wp2_with fail
  go_at_call 36
  refine (eqI _ r6.sl r3.sl (by omega) rfl).mono ?_
  rintro e w15 ⟨rfl, bl⟩
  have z15 := bl.size
  replace sA := sA.below bl (by omega)
  replace sB := sB.below bl (by omega)
  replace r3 := r3.below bl (by omega)
  replace r6 := r6.below bl (by omega)
  replace frm := frm.trans (bl.mono (by omega))
  clear bl
  go_wp2_with fail
  go_at_call 37
  refine (markI _ r6 (by omega) 1 (by omega) (by omega)).mono ?_
  rintro e w17 ⟨rfl, new, mv⟩
  have z17 := mv.size
  replace sA := sA.mv mv (by omega)
  replace sB := sB.mv mv (by omega)
  replace r3 := r3.mv mv (by omega)
  replace frm := frm.trans (mv.below (by omega) (by omega))
  have r6m := new
  clear new mv
  go_wp2_with fail
  go_at_call 38
  refine (heldI _ 1 r6m.sl (by omega) (by omega) (by omega)).mono ?_
  rintro e w19 ⟨rfl, bl⟩
  have z19 := bl.size
  replace sA := sA.below bl (by omega)
  replace sB := sB.below bl (by omega)
  replace r3 := r3.below bl (by omega)
  replace r6m := r6m.below bl (by omega)
  replace frm := frm.trans (bl.mono (by omega))
  clear bl
  go_wp2_with fail
  go_at_call 35
  refine (toI _ sA (by omega)).mono ?_
  rintro e w20 ⟨ad20, n20, cap20, rfl, r20, bl⟩
  have z20 := bl.size
  replace sB := sB.below bl (by omega)
  replace r3 := r3.below bl (by omega)
  replace r6m := r6m.below bl (by omega)
  replace frm := frm.trans (bl.mono (by omega))
  clear bl
  have q20 : n20 ≤ 1048576 := by have h1 := r20.len; have h2 := sA.len; omega
  go_wp2_with fail
  go_at_call 35
  refine (toI _ sB (by omega)).mono ?_
  rintro e w21 ⟨ad21, n21, cap21, rfl, r21, bl⟩
  have z21 := bl.size
  replace r3 := r3.below bl (by omega)
  replace r6m := r6m.below bl (by omega)
  replace r20 := r20.below bl (by omega)
  replace frm := frm.trans (bl.mono (by omega))
  clear bl
  have q21 : n21 ≤ 1048576 := by have h1 := r21.len; have h2 := sB.len; omega
  go_wp2_with fail
  go_at_call 22
  refine (HI.out _ _ _ _ _ _ r20.sl (by omega)  _ _ _ _ _ r21.sl (by omega)).mono ?_
  rintro e w22 ⟨ad22, n22, cap22, rfl, r22, bl⟩
  have z22 := bl.size
  replace r3 := r3.below bl (by omega)
  replace r6m := r6m.below bl (by omega)
  replace frm := frm.trans (bl.mono (by omega))
  clear bl
  have q22 : n22 ≤ 17592186044416 := by have h1 := r22.len; omega
  clear r20
  clear r21
  go_wp2_with fail
  go_at_call 36
  refine (eqI _ r22.sl r3.sl (by omega) rfl).mono ?_
  rintro e w23 ⟨rfl, bl⟩
  have z23 := bl.size
  replace r6m := r6m.below bl (by omega)
  replace frm := frm.trans (bl.mono (by omega))
  clear bl
  clear r3
  clear r22
  go_wp2_with fail
  go_at_call 38
  refine (heldI _ 1 r6m.sl (by omega) (by omega) (by omega)).mono ?_
  rintro e w25 ⟨rfl, bl⟩
  have z25 := bl.size
  replace frm := frm.trans (bl.mono (by omega))
  clear bl
  clear r6m
  go_wp2
  go_ret
  exact ⟨rfl, frm⟩

set_option maxRecDepth 100000 in
theorem exactScaleVector (w : World) (vV : Value) (adV : Option Addr) (nV capV : Nat) (iaV : Kit.IntsAt .i64 w vV adV nV capV) (aK : Int) (wfK : (Lit.int .i64 aK).wf = true) :
    Calls Try.prog 7 #[vV, .int .i64 aK] w fun e w' => e = .returned (.bool true) ∧ Below w.heap.size w w' := by
  obtain ⟨xsV, rfl, sV⟩ := of_ints iaV
  clear iaV
  obtain ⟨loK, hiK⟩ := fits_i64.1 wfK
  clear wfK
  rcases Nat.lt_or_ge 1048576 nV with bigV | bigV
  · go_enter Try.func7, Try.ntmps7
    go_wp2
    go_ret
    exact ⟨rfl, Below.refl _ _⟩
  have frm := Below.refl w.heap.size w
  have cS := fun (w' : World) (lV hV : Nat) (adV : Option Addr) (nV capV : Nat) (sV : Sl w' lV hV .i64 adV nV capV xsV) (hnV : nV ≤ 1048576) => (fun w' s _ k => VecW.spec_scale w' s k) w' sV (by omega) aK
  have cI := fun (w' : World) (lV hV : Nat) (adV : Option Addr) (nV capV : Nat) (sV : Sl w' lV hV .i64 adV nV capV xsV) (hnV : nV ≤ 1048576) => VecI.scale w' sV (by omega) aK loK hiK
  have hlen : (Vec.scale xsV aK).length ≤ 17592186044416 := by have := Vec.scale_le xsV aK; have := sV.len; omega
  generalize hR : Vec.scale xsV aK = R at cS cI hlen
  clear hR
  have HS := Lib.hid cS
  have HI := Lib.hid cI
  clear cS cI
  go_enter Try.func7, Try.ntmps7
  go_wp2_with fail
  go_at_call 35
  refine (toI _ sV (by omega)).mono ?_
  rintro e w1 ⟨ad1, n1, cap1, rfl, r1, bl⟩
  have z1 := bl.size
  replace sV := sV.below bl (by omega)
  replace frm := frm.trans (bl.mono (by omega))
  clear bl
  have q1 : n1 ≤ 1048576 := by have h1 := r1.len; have h2 := sV.len; omega
  go_wp2_with fail
  go_at_call 34
  refine (HS.out _ _ _ _ _ _ r1.sl (by omega)).mono ?_
  rintro e w2 ⟨ad2, n2, cap2, rfl, r2, bl⟩
  have z2 := bl.size
  replace sV := sV.below bl (by omega)
  replace frm := frm.trans (bl.mono (by omega))
  clear bl
  have q2 : n2 ≤ 17592186044416 := by have h1 := r2.len; omega
  clear r1
  go_wp2_with fail
  go_at_call 35
  refine (toI _ sV (by omega)).mono ?_
  rintro e w3 ⟨ad3, n3, cap3, rfl, r3, bl⟩
  have z3 := bl.size
  replace sV := sV.below bl (by omega)
  replace r2 := r2.below bl (by omega)
  replace frm := frm.trans (bl.mono (by omega))
  clear bl
  have q3 : n3 ≤ 1048576 := by have h1 := r3.len; have h2 := sV.len; omega
  go_wp2_with fail
  go_at_call 23
  refine (HI.out _ _ _ _ _ _ r3.sl (by omega)).mono ?_
  rintro e w4 ⟨ad4, n4, cap4, rfl, r4, bl⟩
  have z4 := bl.size
  replace sV := sV.below bl (by omega)
  replace r2 := r2.below bl (by omega)
  replace r3 := r3.below bl (by omega)
  replace frm := frm.trans (bl.mono (by omega))
  clear bl
  have q4 : n4 ≤ 17592186044416 := by have h1 := r4.len; omega
  go_wp2_with fail
  go_at_call 36
  refine (eqI _ r4.sl r2.sl (by omega) rfl).mono ?_
  rintro e w5 ⟨rfl, bl⟩
  have z5 := bl.size
  replace sV := sV.below bl (by omega)
  replace r2 := r2.below bl (by omega)
  replace r3 := r3.below bl (by omega)
  replace r4 := r4.below bl (by omega)
  replace frm := frm.trans (bl.mono (by omega))
  clear bl
  go_wp2_with fail
  go_at_call 35
  refine (toI _ sV (by omega)).mono ?_
  rintro e w6 ⟨ad6, n6, cap6, rfl, r6, bl⟩
  have z6 := bl.size
  replace sV := sV.below bl (by omega)
  replace r2 := r2.below bl (by omega)
  replace r3 := r3.below bl (by omega)
  replace r4 := r4.below bl (by omega)
  replace frm := frm.trans (bl.mono (by omega))
  clear bl
  have q6 : n6 ≤ 1048576 := by have h1 := r6.len; have h2 := sV.len; omega
  go_wp2_with fail
  go_at_call 36
  refine (eqI _ r3.sl r6.sl (by omega) rfl).mono ?_
  rintro e w7 ⟨rfl, bl⟩
  have z7 := bl.size
  replace sV := sV.below bl (by omega)
  replace r2 := r2.below bl (by omega)
  replace r3 := r3.below bl (by omega)
  replace r4 := r4.below bl (by omega)
  replace frm := frm.trans (bl.mono (by omega))
  clear bl
  clear r6
  go_wp2_with fail
  go_at_call 37
  refine (markI _ r3 (by omega) 1 (by omega) (by omega)).mono ?_
  rintro e w9 ⟨rfl, new, mv⟩
  have z9 := mv.size
  replace sV := sV.mv mv (by omega)
  replace r2 := r2.mv mv (by omega)
  replace r4 := r4.mv mv (by omega)
  replace frm := frm.trans (mv.below (by omega) (by omega))
  clear new mv
  clear r3
  go_wp2_with fail
  go_at_call 36
  refine (eqI _ r4.sl r2.sl (by omega) rfl).mono ?_
  rintro e w10 ⟨rfl, bl⟩
  have z10 := bl.size
  replace sV := sV.below bl (by omega)
  replace r2 := r2.below bl (by omega)
  replace r4 := r4.below bl (by omega)
  replace frm := frm.trans (bl.mono (by omega))
  clear bl
  go_wp2_with fail
  go_at_call 37
  refine (markI _ r4 (by omega) 1 (by omega) (by omega)).mono ?_
  rintro e w12 ⟨rfl, new, mv⟩
  have z12 := mv.size
  replace sV := sV.mv mv (by omega)
  replace r2 := r2.mv mv (by omega)
  replace frm := frm.trans (mv.below (by omega) (by omega))
  have r4m := new
  clear new mv
  go_wp2_with fail
  go_at_call 38
  refine (heldI _ 1 r4m.sl (by omega) (by omega) (by omega)).mono ?_
  rintro e w14 ⟨rfl, bl⟩
  have z14 := bl.size
  replace sV := sV.below bl (by omega)
  replace r2 := r2.below bl (by omega)
  replace r4m := r4m.below bl (by omega)
  replace frm := frm.trans (bl.mono (by omega))
  clear bl
  go_wp2_with fail
  go_at_call 35
  refine (toI _ sV (by omega)).mono ?_
  rintro e w15 ⟨ad15, n15, cap15, rfl, r15, bl⟩
  have z15 := bl.size
  replace r2 := r2.below bl (by omega)
  replace r4m := r4m.below bl (by omega)
  replace frm := frm.trans (bl.mono (by omega))
  clear bl
  have q15 : n15 ≤ 1048576 := by have h1 := r15.len; have h2 := sV.len; omega
  go_wp2_with fail
  go_at_call 23
  refine (HI.out _ _ _ _ _ _ r15.sl (by omega)).mono ?_
  rintro e w16 ⟨ad16, n16, cap16, rfl, r16, bl⟩
  have z16 := bl.size
  replace r2 := r2.below bl (by omega)
  replace r4m := r4m.below bl (by omega)
  replace frm := frm.trans (bl.mono (by omega))
  clear bl
  have q16 : n16 ≤ 17592186044416 := by have h1 := r16.len; omega
  clear r15
  go_wp2_with fail
  go_at_call 36
  refine (eqI _ r16.sl r2.sl (by omega) rfl).mono ?_
  rintro e w17 ⟨rfl, bl⟩
  have z17 := bl.size
  replace r4m := r4m.below bl (by omega)
  replace frm := frm.trans (bl.mono (by omega))
  clear bl
  clear r2
  clear r16
  go_wp2_with fail
  go_at_call 38
  refine (heldI _ 1 r4m.sl (by omega) (by omega) (by omega)).mono ?_
  rintro e w19 ⟨rfl, bl⟩
  have z19 := bl.size
  replace frm := frm.trans (bl.mono (by omega))
  clear bl
  clear r4m
  go_wp2
  go_ret
  exact ⟨rfl, frm⟩

set_option maxRecDepth 100000 in
theorem exactAddScaled (w : World) (vA : Value) (adA : Option Addr) (nA capA : Nat) (iaA : Kit.IntsAt .i64 w vA adA nA capA) (vB : Value) (adB : Option Addr) (nB capB : Nat) (iaB : Kit.IntsAt .i64 w vB adB nB capB) (aK : Int) (wfK : (Lit.int .i64 aK).wf = true) :
    Calls Try.prog 8 #[vA, vB, .int .i64 aK] w fun e w' => e = .returned (.bool true) ∧ Below w.heap.size w w' := by
  obtain ⟨xsA, rfl, sA⟩ := of_ints iaA
  clear iaA
  obtain ⟨xsB, rfl, sB⟩ := of_ints iaB
  clear iaB
  obtain ⟨loK, hiK⟩ := fits_i64.1 wfK
  clear wfK
  rcases Nat.lt_or_ge 1048576 nA with bigA | bigA
  · go_enter Try.func8, Try.ntmps8
    go_wp2
    go_ret
    exact ⟨rfl, Below.refl _ _⟩
  rcases Nat.lt_or_ge 1048576 nB with bigB | bigB
  · go_enter Try.func8, Try.ntmps8
    go_wp2
    go_ret
    exact ⟨rfl, Below.refl _ _⟩
  have frm := Below.refl w.heap.size w
  have cS := fun (w' : World) (lA hA : Nat) (adA : Option Addr) (nA capA : Nat) (sA : Sl w' lA hA .i64 adA nA capA xsA) (hnA : nA ≤ 1048576) (lB hB : Nat) (adB : Option Addr) (nB capB : Nat) (sB : Sl w' lB hB .i64 adB nB capB xsB) (hnB : nB ≤ 1048576) => (fun w' s _ s2 _ k => VecW.spec_adds w' s s2 k) w' sA (by omega) sB (by omega) aK
  have cI := fun (w' : World) (lA hA : Nat) (adA : Option Addr) (nA capA : Nat) (sA : Sl w' lA hA .i64 adA nA capA xsA) (hnA : nA ≤ 1048576) (lB hB : Nat) (adB : Option Addr) (nB capB : Nat) (sB : Sl w' lB hB .i64 adB nB capB xsB) (hnB : nB ≤ 1048576) => VecI.adds w' sA (by omega) sB (by omega) aK
  have hlen : (Vec.addScaled xsA xsB aK).length ≤ 17592186044416 := by have := Vec.addScaled_le xsA xsB aK; have := sA.len; omega
  generalize hR : Vec.addScaled xsA xsB aK = R at cS cI hlen
  clear hR
  have HS := Lib.hid cS
  have HI := Lib.hid cI
  clear cS cI
  go_enter Try.func8, Try.ntmps8
  go_wp2_with fail
  go_at_call 35
  refine (toI _ sA (by omega)).mono ?_
  rintro e w1 ⟨ad1, n1, cap1, rfl, r1, bl⟩
  have z1 := bl.size
  replace sA := sA.below bl (by omega)
  replace sB := sB.below bl (by omega)
  replace frm := frm.trans (bl.mono (by omega))
  clear bl
  have q1 : n1 ≤ 1048576 := by have h1 := r1.len; have h2 := sA.len; omega
  go_wp2_with fail
  go_at_call 35
  refine (toI _ sB (by omega)).mono ?_
  rintro e w2 ⟨ad2, n2, cap2, rfl, r2, bl⟩
  have z2 := bl.size
  replace sA := sA.below bl (by omega)
  replace sB := sB.below bl (by omega)
  replace r1 := r1.below bl (by omega)
  replace frm := frm.trans (bl.mono (by omega))
  clear bl
  have q2 : n2 ≤ 1048576 := by have h1 := r2.len; have h2 := sB.len; omega
  go_wp2_with fail
  go_at_call 39
  refine (HS.out _ _ _ _ _ _ r1.sl (by omega)  _ _ _ _ _ r2.sl (by omega)).mono ?_
  rintro e w3 ⟨ad3, n3, cap3, rfl, r3, bl⟩
  have z3 := bl.size
  replace sA := sA.below bl (by omega)
  replace sB := sB.below bl (by omega)
  replace frm := frm.trans (bl.mono (by omega))
  clear bl
  have q3 : n3 ≤ 17592186044416 := by have h1 := r3.len; omega
  clear r1
  clear r2
  go_wp2_with fail
  go_at_call 35
  refine (toI _ sA (by omega)).mono ?_
  rintro e w4 ⟨ad4, n4, cap4, rfl, r4, bl⟩
  have z4 := bl.size
  replace sA := sA.below bl (by omega)
  replace sB := sB.below bl (by omega)
  replace r3 := r3.below bl (by omega)
  replace frm := frm.trans (bl.mono (by omega))
  clear bl
  have q4 : n4 ≤ 1048576 := by have h1 := r4.len; have h2 := sA.len; omega
  go_wp2_with fail
  go_at_call 35
  refine (toI _ sB (by omega)).mono ?_
  rintro e w5 ⟨ad5, n5, cap5, rfl, r5, bl⟩
  have z5 := bl.size
  replace sA := sA.below bl (by omega)
  replace sB := sB.below bl (by omega)
  replace r3 := r3.below bl (by omega)
  replace r4 := r4.below bl (by omega)
  replace frm := frm.trans (bl.mono (by omega))
  clear bl
  have q5 : n5 ≤ 1048576 := by have h1 := r5.len; have h2 := sB.len; omega
  go_wp2_with fail
  go_at_call 16
  refine (HI.out _ _ _ _ _ _ r4.sl (by omega)  _ _ _ _ _ r5.sl (by omega)).mono ?_
  rintro e w6 ⟨ad6, n6, cap6, rfl, r6, bl⟩
  have z6 := bl.size
  replace sA := sA.below bl (by omega)
  replace sB := sB.below bl (by omega)
  replace r3 := r3.below bl (by omega)
  replace r4 := r4.below bl (by omega)
  replace r5 := r5.below bl (by omega)
  replace frm := frm.trans (bl.mono (by omega))
  clear bl
  have q6 : n6 ≤ 17592186044416 := by have h1 := r6.len; omega
  go_wp2_with fail
  go_at_call 36
  refine (eqI _ r6.sl r3.sl (by omega) rfl).mono ?_
  rintro e w7 ⟨rfl, bl⟩
  have z7 := bl.size
  replace sA := sA.below bl (by omega)
  replace sB := sB.below bl (by omega)
  replace r3 := r3.below bl (by omega)
  replace r4 := r4.below bl (by omega)
  replace r5 := r5.below bl (by omega)
  replace r6 := r6.below bl (by omega)
  replace frm := frm.trans (bl.mono (by omega))
  clear bl
  go_wp2_with fail
  go_at_call 35
  refine (toI _ sA (by omega)).mono ?_
  rintro e w8 ⟨ad8, n8, cap8, rfl, r8, bl⟩
  have z8 := bl.size
  replace sA := sA.below bl (by omega)
  replace sB := sB.below bl (by omega)
  replace r3 := r3.below bl (by omega)
  replace r4 := r4.below bl (by omega)
  replace r5 := r5.below bl (by omega)
  replace r6 := r6.below bl (by omega)
  replace frm := frm.trans (bl.mono (by omega))
  clear bl
  have q8 : n8 ≤ 1048576 := by have h1 := r8.len; have h2 := sA.len; omega
  go_wp2_with fail
  go_at_call 36
  refine (eqI _ r4.sl r8.sl (by omega) rfl).mono ?_
  rintro e w9 ⟨rfl, bl⟩
  have z9 := bl.size
  replace sA := sA.below bl (by omega)
  replace sB := sB.below bl (by omega)
  replace r3 := r3.below bl (by omega)
  replace r4 := r4.below bl (by omega)
  replace r5 := r5.below bl (by omega)
  replace r6 := r6.below bl (by omega)
  replace frm := frm.trans (bl.mono (by omega))
  clear bl
  clear r8
  go_wp2_with fail
  go_at_call 35
  refine (toI _ sB (by omega)).mono ?_
  rintro e w10 ⟨ad10, n10, cap10, rfl, r10, bl⟩
  have z10 := bl.size
  replace sA := sA.below bl (by omega)
  replace sB := sB.below bl (by omega)
  replace r3 := r3.below bl (by omega)
  replace r4 := r4.below bl (by omega)
  replace r5 := r5.below bl (by omega)
  replace r6 := r6.below bl (by omega)
  replace frm := frm.trans (bl.mono (by omega))
  clear bl
  have q10 : n10 ≤ 1048576 := by have h1 := r10.len; have h2 := sB.len; omega
  go_wp2_with fail
  go_at_call 36
  refine (eqI _ r5.sl r10.sl (by omega) rfl).mono ?_
  rintro e w11 ⟨rfl, bl⟩
  have z11 := bl.size
  replace sA := sA.below bl (by omega)
  replace sB := sB.below bl (by omega)
  replace r3 := r3.below bl (by omega)
  replace r4 := r4.below bl (by omega)
  replace r5 := r5.below bl (by omega)
  replace r6 := r6.below bl (by omega)
  replace frm := frm.trans (bl.mono (by omega))
  clear bl
  clear r10
  go_wp2_with fail
  go_at_call 37
  refine (markI _ r4 (by omega) 1 (by omega) (by omega)).mono ?_
  rintro e w13 ⟨rfl, new, mv⟩
  have z13 := mv.size
  replace sA := sA.mv mv (by omega)
  replace sB := sB.mv mv (by omega)
  replace r3 := r3.mv mv (by omega)
  replace r5 := r5.mv mv (by omega)
  replace r6 := r6.mv mv (by omega)
  replace frm := frm.trans (mv.below (by omega) (by omega))
  clear new mv
  clear r4
  go_wp2_with fail
  go_at_call 37
  refine (markI _ r5 (by omega) (1 + (n4 : Int)) (by omega) (by omega)).mono ?_
  rintro e w14 ⟨rfl, new, mv⟩
  have z14 := mv.size
  replace sA := sA.mv mv (by omega)
  replace sB := sB.mv mv (by omega)
  replace r3 := r3.mv mv (by omega)
  replace r6 := r6.mv mv (by omega)
  replace frm := frm.trans (mv.below (by omega) (by omega))
  clear new mv
  clear r5
  go_wp2_with fail
  go_at_call 36
  refine (eqI _ r6.sl r3.sl (by omega) rfl).mono ?_
  rintro e w15 ⟨rfl, bl⟩
  have z15 := bl.size
  replace sA := sA.below bl (by omega)
  replace sB := sB.below bl (by omega)
  replace r3 := r3.below bl (by omega)
  replace r6 := r6.below bl (by omega)
  replace frm := frm.trans (bl.mono (by omega))
  clear bl
  go_wp2_with fail
  go_at_call 37
  refine (markI _ r6 (by omega) 1 (by omega) (by omega)).mono ?_
  rintro e w17 ⟨rfl, new, mv⟩
  have z17 := mv.size
  replace sA := sA.mv mv (by omega)
  replace sB := sB.mv mv (by omega)
  replace r3 := r3.mv mv (by omega)
  replace frm := frm.trans (mv.below (by omega) (by omega))
  have r6m := new
  clear new mv
  go_wp2_with fail
  go_at_call 38
  refine (heldI _ 1 r6m.sl (by omega) (by omega) (by omega)).mono ?_
  rintro e w19 ⟨rfl, bl⟩
  have z19 := bl.size
  replace sA := sA.below bl (by omega)
  replace sB := sB.below bl (by omega)
  replace r3 := r3.below bl (by omega)
  replace r6m := r6m.below bl (by omega)
  replace frm := frm.trans (bl.mono (by omega))
  clear bl
  go_wp2_with fail
  go_at_call 35
  refine (toI _ sA (by omega)).mono ?_
  rintro e w20 ⟨ad20, n20, cap20, rfl, r20, bl⟩
  have z20 := bl.size
  replace sB := sB.below bl (by omega)
  replace r3 := r3.below bl (by omega)
  replace r6m := r6m.below bl (by omega)
  replace frm := frm.trans (bl.mono (by omega))
  clear bl
  have q20 : n20 ≤ 1048576 := by have h1 := r20.len; have h2 := sA.len; omega
  go_wp2_with fail
  go_at_call 35
  refine (toI _ sB (by omega)).mono ?_
  rintro e w21 ⟨ad21, n21, cap21, rfl, r21, bl⟩
  have z21 := bl.size
  replace r3 := r3.below bl (by omega)
  replace r6m := r6m.below bl (by omega)
  replace r20 := r20.below bl (by omega)
  replace frm := frm.trans (bl.mono (by omega))
  clear bl
  have q21 : n21 ≤ 1048576 := by have h1 := r21.len; have h2 := sB.len; omega
  go_wp2_with fail
  go_at_call 16
  refine (HI.out _ _ _ _ _ _ r20.sl (by omega)  _ _ _ _ _ r21.sl (by omega)).mono ?_
  rintro e w22 ⟨ad22, n22, cap22, rfl, r22, bl⟩
  have z22 := bl.size
  replace r3 := r3.below bl (by omega)
  replace r6m := r6m.below bl (by omega)
  replace frm := frm.trans (bl.mono (by omega))
  clear bl
  have q22 : n22 ≤ 17592186044416 := by have h1 := r22.len; omega
  clear r20
  clear r21
  go_wp2_with fail
  go_at_call 36
  refine (eqI _ r22.sl r3.sl (by omega) rfl).mono ?_
  rintro e w23 ⟨rfl, bl⟩
  have z23 := bl.size
  replace r6m := r6m.below bl (by omega)
  replace frm := frm.trans (bl.mono (by omega))
  clear bl
  clear r3
  clear r22
  go_wp2_with fail
  go_at_call 38
  refine (heldI _ 1 r6m.sl (by omega) (by omega) (by omega)).mono ?_
  rintro e w25 ⟨rfl, bl⟩
  have z25 := bl.size
  replace frm := frm.trans (bl.mono (by omega))
  clear bl
  clear r6m
  go_wp2
  go_ret
  exact ⟨rfl, frm⟩

set_option maxRecDepth 100000 in
theorem exactDotProduct (w : World) (vA : Value) (adA : Option Addr) (nA capA : Nat) (iaA : Kit.IntsAt .i64 w vA adA nA capA) (vB : Value) (adB : Option Addr) (nB capB : Nat) (iaB : Kit.IntsAt .i64 w vB adB nB capB) :
    Calls Try.prog 9 #[vA, vB] w fun e w' => e = .returned (.bool true) ∧ Below w.heap.size w w' := by
  obtain ⟨xsA, rfl, sA⟩ := of_ints iaA
  clear iaA
  obtain ⟨xsB, rfl, sB⟩ := of_ints iaB
  clear iaB
  rcases Nat.lt_or_ge 1048576 nA with bigA | bigA
  · go_enter Try.func9, Try.ntmps9
    go_wp2
    go_ret
    exact ⟨rfl, Below.refl _ _⟩
  rcases Nat.lt_or_ge 1048576 nB with bigB | bigB
  · go_enter Try.func9, Try.ntmps9
    go_wp2
    go_ret
    exact ⟨rfl, Below.refl _ _⟩
  have frm := Below.refl w.heap.size w
  have cS := fun (w' : World) (lA hA : Nat) (adA : Option Addr) (nA capA : Nat) (sA : Sl w' lA hA .i64 adA nA capA xsA) (hnA : nA ≤ 1048576) (lB hB : Nat) (adB : Option Addr) (nB capB : Nat) (sB : Sl w' lB hB .i64 adB nB capB xsB) (hnB : nB ≤ 1048576) => (fun w' s _ s2 _ => (VecW.spec_dot w' s s2).mono VecOps.quiet_below) w' sA (by omega) sB (by omega)
  have cI := fun (w' : World) (lA hA : Nat) (adA : Option Addr) (nA capA : Nat) (sA : Sl w' lA hA .i64 adA nA capA xsA) (hnA : nA ≤ 1048576) (lB hB : Nat) (adB : Option Addr) (nB capB : Nat) (sB : Sl w' lB hB .i64 adB nB capB xsB) (hnB : nB ≤ 1048576) => VecI.dot w' sA (by omega) sB (by omega)
  generalize hR : Vec.dot xsA xsB = R at cS cI
  clear hR
  have HS := Lib.hid cS
  have HI := Lib.hid cI
  clear cS cI
  go_enter Try.func9, Try.ntmps9
  go_wp2_with fail
  go_at_call 35
  refine (toI _ sA (by omega)).mono ?_
  rintro e w1 ⟨ad1, n1, cap1, rfl, r1, bl⟩
  have z1 := bl.size
  replace sA := sA.below bl (by omega)
  replace sB := sB.below bl (by omega)
  replace frm := frm.trans (bl.mono (by omega))
  clear bl
  have q1 : n1 ≤ 1048576 := by have h1 := r1.len; have h2 := sA.len; omega
  go_wp2_with fail
  go_at_call 35
  refine (toI _ sB (by omega)).mono ?_
  rintro e w2 ⟨ad2, n2, cap2, rfl, r2, bl⟩
  have z2 := bl.size
  replace sA := sA.below bl (by omega)
  replace sB := sB.below bl (by omega)
  replace r1 := r1.below bl (by omega)
  replace frm := frm.trans (bl.mono (by omega))
  clear bl
  have q2 : n2 ≤ 1048576 := by have h1 := r2.len; have h2 := sB.len; omega
  go_wp2_with fail
  go_at_call 40
  refine (HS.out _ _ _ _ _ _ r1.sl (by omega)  _ _ _ _ _ r2.sl (by omega)).mono ?_
  rintro e w3 ⟨rfl, bl⟩
  have z3 := bl.size
  replace sA := sA.below bl (by omega)
  replace sB := sB.below bl (by omega)
  replace frm := frm.trans (bl.mono (by omega))
  clear bl
  clear r1
  clear r2
  go_wp2_with fail
  go_at_call 35
  refine (toI _ sA (by omega)).mono ?_
  rintro e w4 ⟨ad4, n4, cap4, rfl, r4, bl⟩
  have z4 := bl.size
  replace sA := sA.below bl (by omega)
  replace sB := sB.below bl (by omega)
  replace frm := frm.trans (bl.mono (by omega))
  clear bl
  have q4 : n4 ≤ 1048576 := by have h1 := r4.len; have h2 := sA.len; omega
  go_wp2_with fail
  go_at_call 35
  refine (toI _ sB (by omega)).mono ?_
  rintro e w5 ⟨ad5, n5, cap5, rfl, r5, bl⟩
  have z5 := bl.size
  replace sA := sA.below bl (by omega)
  replace sB := sB.below bl (by omega)
  replace r4 := r4.below bl (by omega)
  replace frm := frm.trans (bl.mono (by omega))
  clear bl
  have q5 : n5 ≤ 1048576 := by have h1 := r5.len; have h2 := sB.len; omega
  go_wp2_with fail
  go_at_call 25
  refine (HI.out _ _ _ _ _ _ r4.sl (by omega)  _ _ _ _ _ r5.sl (by omega)).mono ?_
  rintro e w6 ⟨rfl, bl⟩
  have z6 := bl.size
  replace sA := sA.below bl (by omega)
  replace sB := sB.below bl (by omega)
  replace r4 := r4.below bl (by omega)
  replace r5 := r5.below bl (by omega)
  replace frm := frm.trans (bl.mono (by omega))
  clear bl
  go_wp2_with fail
  go_at_call 35
  refine (toI _ sA (by omega)).mono ?_
  rintro e w7 ⟨ad7, n7, cap7, rfl, r7, bl⟩
  have z7 := bl.size
  replace sB := sB.below bl (by omega)
  replace r4 := r4.below bl (by omega)
  replace r5 := r5.below bl (by omega)
  replace frm := frm.trans (bl.mono (by omega))
  clear bl
  have q7 : n7 ≤ 1048576 := by have h1 := r7.len; have h2 := sA.len; omega
  go_wp2_with fail
  go_at_call 36
  refine (eqI _ r4.sl r7.sl (by omega) rfl).mono ?_
  rintro e w8 ⟨rfl, bl⟩
  have z8 := bl.size
  replace sB := sB.below bl (by omega)
  replace r5 := r5.below bl (by omega)
  replace frm := frm.trans (bl.mono (by omega))
  clear bl
  clear r4
  clear r7
  go_wp2_with fail
  go_at_call 35
  refine (toI _ sB (by omega)).mono ?_
  rintro e w9 ⟨ad9, n9, cap9, rfl, r9, bl⟩
  have z9 := bl.size
  replace r5 := r5.below bl (by omega)
  replace frm := frm.trans (bl.mono (by omega))
  clear bl
  have q9 : n9 ≤ 1048576 := by have h1 := r9.len; have h2 := sB.len; omega
  go_wp2_with fail
  go_at_call 36
  refine (eqI _ r5.sl r9.sl (by omega) rfl).mono ?_
  rintro e w10 ⟨rfl, bl⟩
  have z10 := bl.size
  replace frm := frm.trans (bl.mono (by omega))
  clear bl
  clear r5
  clear r9
  go_wp2
  go_ret
  exact ⟨rfl, frm⟩

set_option maxRecDepth 100000 in
theorem exactLeadingIndex (w : World) (vV : Value) (adV : Option Addr) (nV capV : Nat) (iaV : Kit.IntsAt .i64 w vV adV nV capV) :
    Calls Try.prog 10 #[vV] w fun e w' => e = .returned (.bool true) ∧ Below w.heap.size w w' := by
  obtain ⟨xsV, rfl, sV⟩ := of_ints iaV
  clear iaV
  rcases Nat.lt_or_ge 1048576 nV with bigV | bigV
  · go_enter Try.func10, Try.ntmps10
    go_wp2
    go_ret
    exact ⟨rfl, Below.refl _ _⟩
  have frm := Below.refl w.heap.size w
  have cS := fun (w' : World) (lV hV : Nat) (adV : Option Addr) (nV capV : Nat) (sV : Sl w' lV hV .i64 adV nV capV xsV) (hnV : nV ≤ 1048576) => (fun w' s _ => (VecW.spec_lead w' s).mono FieldW.is_below) w' sV (by omega)
  have cI := fun (w' : World) (lV hV : Nat) (adV : Option Addr) (nV capV : Nat) (sV : Sl w' lV hV .i64 adV nV capV xsV) (hnV : nV ≤ 1048576) => VecI.lead w' sV (by omega)
  generalize hR : Vec.lead xsV = R at cS cI
  clear hR
  have HS := Lib.hid cS
  have HI := Lib.hid cI
  clear cS cI
  go_enter Try.func10, Try.ntmps10
  go_wp2_with fail
  go_at_call 35
  refine (toI _ sV (by omega)).mono ?_
  rintro e w1 ⟨ad1, n1, cap1, rfl, r1, bl⟩
  have z1 := bl.size
  replace sV := sV.below bl (by omega)
  replace frm := frm.trans (bl.mono (by omega))
  clear bl
  have q1 : n1 ≤ 1048576 := by have h1 := r1.len; have h2 := sV.len; omega
  go_wp2_with fail
  go_at_call 41
  refine (HS.out _ _ _ _ _ _ r1.sl (by omega)).mono ?_
  rintro e w2 ⟨rfl, bl⟩
  have z2 := bl.size
  replace sV := sV.below bl (by omega)
  replace frm := frm.trans (bl.mono (by omega))
  clear bl
  clear r1
  go_wp2_with fail
  go_at_call 35
  refine (toI _ sV (by omega)).mono ?_
  rintro e w3 ⟨ad3, n3, cap3, rfl, r3, bl⟩
  have z3 := bl.size
  replace sV := sV.below bl (by omega)
  replace frm := frm.trans (bl.mono (by omega))
  clear bl
  have q3 : n3 ≤ 1048576 := by have h1 := r3.len; have h2 := sV.len; omega
  go_wp2_with fail
  go_at_call 28
  refine (HI.out _ _ _ _ _ _ r3.sl (by omega)).mono ?_
  rintro e w4 ⟨rfl, bl⟩
  have z4 := bl.size
  replace sV := sV.below bl (by omega)
  replace r3 := r3.below bl (by omega)
  replace frm := frm.trans (bl.mono (by omega))
  clear bl
  go_wp2_with fail
  go_at_call 35
  refine (toI _ sV (by omega)).mono ?_
  rintro e w5 ⟨ad5, n5, cap5, rfl, r5, bl⟩
  have z5 := bl.size
  replace r3 := r3.below bl (by omega)
  replace frm := frm.trans (bl.mono (by omega))
  clear bl
  have q5 : n5 ≤ 1048576 := by have h1 := r5.len; have h2 := sV.len; omega
  go_wp2_with fail
  go_at_call 36
  refine (eqI _ r3.sl r5.sl (by omega) rfl).mono ?_
  rintro e w6 ⟨rfl, bl⟩
  have z6 := bl.size
  replace frm := frm.trans (bl.mono (by omega))
  clear bl
  clear r3
  clear r5
  go_wp2
  go_ret
  exact ⟨rfl, frm⟩

set_option maxRecDepth 100000 in
theorem exactUnitVector (w : World) (aWidth : Int) (wfWidth : (Lit.int .i64 aWidth).wf = true) (aIndex : Int) (wfIndex : (Lit.int .i64 aIndex).wf = true) :
    Calls Try.prog 11 #[.int .i64 aWidth, .int .i64 aIndex] w fun e w' => e = .returned (.bool true) ∧ Below w.heap.size w w' := by
  obtain ⟨loWidth, hiWidth⟩ := fits_i64.1 wfWidth
  clear wfWidth
  obtain ⟨loIndex, hiIndex⟩ := fits_i64.1 wfIndex
  clear wfIndex
  have frm := Below.refl w.heap.size w
  have cS := fun (w' : World) => (fun w' n h0 h1 i g0 g1 => VecW.spec_unit w' n i h0 h1 g0 g1) w' aWidth loWidth hiWidth aIndex loIndex hiIndex
  have cI := fun (w' : World) => (fun w' n h0 h1 i g0 g1 => VecI.unit w' n i h0 h1 g0 g1) w' aWidth loWidth hiWidth aIndex loIndex hiIndex
  have hlen : (Vec.unit aWidth aIndex).length ≤ 17592186044416 := by have := Vec.units_le aWidth aIndex; omega
  generalize hR : Vec.unit aWidth aIndex = R at cS cI hlen
  clear hR
  have HS := Lib.hid cS
  have HI := Lib.hid cI
  clear cS cI
  go_enter Try.func11, Try.ntmps11
  go_wp2_with fail
  go_at_call 42
  refine (HS.out _).mono ?_
  rintro e w1 ⟨ad1, n1, cap1, rfl, r1, bl⟩
  have z1 := bl.size
  replace frm := frm.trans (bl.mono (by omega))
  clear bl
  have q1 : n1 ≤ 17592186044416 := by have h1 := r1.len; omega
  go_wp2_with fail
  go_at_call 32
  refine (HI.out _).mono ?_
  rintro e w2 ⟨ad2, n2, cap2, rfl, r2, bl⟩
  have z2 := bl.size
  replace r1 := r1.below bl (by omega)
  replace frm := frm.trans (bl.mono (by omega))
  clear bl
  have q2 : n2 ≤ 17592186044416 := by have h1 := r2.len; omega
  go_wp2_with fail
  go_at_call 36
  refine (eqI _ r2.sl r1.sl (by omega) rfl).mono ?_
  rintro e w3 ⟨rfl, bl⟩
  have z3 := bl.size
  replace r1 := r1.below bl (by omega)
  replace r2 := r2.below bl (by omega)
  replace frm := frm.trans (bl.mono (by omega))
  clear bl
  go_wp2_with fail
  go_at_call 37
  refine (markI _ r2 (by omega) 1 (by omega) (by omega)).mono ?_
  rintro e w5 ⟨rfl, new, mv⟩
  have z5 := mv.size
  replace r1 := r1.mv mv (by omega)
  replace frm := frm.trans (mv.below (by omega) (by omega))
  have r2m := new
  clear new mv
  go_wp2_with fail
  go_at_call 38
  refine (heldI _ 1 r2m.sl (by omega) (by omega) (by omega)).mono ?_
  rintro e w7 ⟨rfl, bl⟩
  have z7 := bl.size
  replace r1 := r1.below bl (by omega)
  replace r2m := r2m.below bl (by omega)
  replace frm := frm.trans (bl.mono (by omega))
  clear bl
  go_wp2_with fail
  go_at_call 32
  refine (HI.out _).mono ?_
  rintro e w8 ⟨ad8, n8, cap8, rfl, r8, bl⟩
  have z8 := bl.size
  replace r1 := r1.below bl (by omega)
  replace r2m := r2m.below bl (by omega)
  replace frm := frm.trans (bl.mono (by omega))
  clear bl
  have q8 : n8 ≤ 17592186044416 := by have h1 := r8.len; omega
  go_wp2_with fail
  go_at_call 36
  refine (eqI _ r8.sl r1.sl (by omega) rfl).mono ?_
  rintro e w9 ⟨rfl, bl⟩
  have z9 := bl.size
  replace r2m := r2m.below bl (by omega)
  replace frm := frm.trans (bl.mono (by omega))
  clear bl
  clear r1
  clear r8
  go_wp2_with fail
  go_at_call 38
  refine (heldI _ 1 r2m.sl (by omega) (by omega) (by omega)).mono ?_
  rintro e w11 ⟨rfl, bl⟩
  have z11 := bl.size
  replace frm := frm.trans (bl.mono (by omega))
  clear bl
  clear r2m
  go_wp2
  go_ret
  exact ⟨rfl, frm⟩

set_option maxRecDepth 100000 in
set_option maxHeartbeats 1600000 in
theorem exactCombine (w : World) (vVectors : Value) (adVectors : Option Addr) (nVectors capVectors : Nat) (iaVectors : RowsAt .i64 w vVectors adVectors nVectors capVectors) (vCoefficients : Value) (adCoefficients : Option Addr) (nCoefficients capCoefficients : Nat) (iaCoefficients : Kit.IntsAt .i64 w vCoefficients adCoefficients nCoefficients capCoefficients) :
    Calls Try.prog 12 #[vVectors, vCoefficients] w fun e w' => e = .returned (.bool true) ∧ Below w.heap.size w w' := by
  obtain ⟨xsVectors, rfl, sVectors⟩ := of_rows iaVectors
  clear iaVectors
  obtain ⟨xsCoefficients, rfl, sCoefficients⟩ := of_ints iaCoefficients
  clear iaCoefficients
  rcases Nat.lt_or_ge 1048576 nCoefficients with bigCoefficients | bigCoefficients
  · go_enter Try.func12, Try.ntmps12
    go_wp2
    go_ret
    exact ⟨rfl, Below.refl _ _⟩
  have frm := Below.refl w.heap.size w
  go_enter Try.func12, Try.ntmps12
  go_wp2_with fail
  go_at_call 43
  refine (szSS_small w sVectors 1048576 (by omega) (by omega)).mono ?_
  rintro e w' ⟨leftVectors, rfl, leVectors, riVectors, smVectors, rfl⟩
  by_cases hlVectors : 0 ≤ leftVectors
  case neg =>
    clear smVectors
    go_wp2
    go_ret
    exact ⟨rfl, Below.refl _ _⟩
  replace smVectors := smVectors hlVectors
  have ssVectors := smVectors.sum
  have snVectors := smVectors.len
  rw [sVectors.len] at snVectors
  have hrowVectors := Lib.hid smVectors.rows
  have cS := fun (w' : World) (lVectors hVectors : Nat) (adVectors : Option Addr) (nVectors capVectors : Nat) (sVectors : Sls w' lVectors hVectors adVectors nVectors capVectors xsVectors) (hnVectors : nVectors ≤ 1048576) (hrVectors : ∀ xs ∈ xsVectors, xs.length ≤ 17592186044416) (lCoefficients hCoefficients : Nat) (adCoefficients : Option Addr) (nCoefficients capCoefficients : Nat) (sCoefficients : Sl w' lCoefficients hCoefficients .i64 adCoefficients nCoefficients capCoefficients xsCoefficients) (hnCoefficients : nCoefficients ≤ 1048576) => (fun w' s _ hr s2 _ => CombW.spec_comb w' s s2 hr) w' sVectors (by omega) hrVectors sCoefficients (by omega)
  have cI := fun (w' : World) (lVectors hVectors : Nat) (adVectors : Option Addr) (nVectors capVectors : Nat) (sVectors : Sls w' lVectors hVectors adVectors nVectors capVectors xsVectors) (hnVectors : nVectors ≤ 1048576) (hrVectors : ∀ xs ∈ xsVectors, xs.length ≤ 17592186044416) (lCoefficients hCoefficients : Nat) (adCoefficients : Option Addr) (nCoefficients capCoefficients : Nat) (sCoefficients : Sl w' lCoefficients hCoefficients .i64 adCoefficients nCoefficients capCoefficients xsCoefficients) (hnCoefficients : nCoefficients ≤ 1048576) => VecI.comb w' sVectors (by omega) hrVectors sCoefficients (by omega)
  have hlen : (Vec.combine xsVectors xsCoefficients).length ≤ 17592186044416 := by have := Vec.combine_le40 xsVectors xsCoefficients; omega
  generalize hR : Vec.combine xsVectors xsCoefficients = R at cS cI hlen
  clear hR
  have HS := Lib.hid cS
  have HI := Lib.hid cI
  clear cS cI
  go_wp2_with fail
  go_at_call 44
  refine (toSS _ sVectors (by omega) hrowVectors.out).mono ?_
  rintro e w1 ⟨ad1, n1, cap1, us1, rfl, r1, bl⟩
  have z1 := bl.size
  replace sVectors := sVectors.below bl (by omega)
  replace sCoefficients := sCoefficients.below bl (by omega)
  replace frm := frm.trans (bl.mono (by omega))
  clear bl
  have q1 : n1 ≤ 1048576 := by have h1 := r1.len; have h2 := sVectors.len; omega
  go_wp2_with fail
  go_at_call 35
  refine (toI _ sCoefficients (by omega)).mono ?_
  rintro e w2 ⟨ad2, n2, cap2, rfl, r2, bl⟩
  have z2 := bl.size
  replace sVectors := sVectors.below bl (by omega)
  replace sCoefficients := sCoefficients.below bl (by omega)
  replace r1 := r1.below bl (by omega)
  replace frm := frm.trans (bl.mono (by omega))
  clear bl
  have q2 : n2 ≤ 1048576 := by have h1 := r2.len; have h2 := sCoefficients.len; omega
  go_wp2_with fail
  go_at_call 31
  refine (HS.out _ _ _ _ _ _ r1.sls (by omega) hrowVectors.out  _ _ _ _ _ r2.sl (by omega)).mono ?_
  rintro e w3 ⟨ad3, n3, cap3, rfl, r3, bl⟩
  have z3 := bl.size
  replace sVectors := sVectors.below bl (by omega)
  replace sCoefficients := sCoefficients.below bl (by omega)
  replace frm := frm.trans (bl.mono (by omega))
  clear bl
  have q3 : n3 ≤ 17592186044416 := by have h1 := r3.len; omega
  clear r1
  clear r2
  go_wp2_with fail
  go_at_call 44
  refine (toSS _ sVectors (by omega) hrowVectors.out).mono ?_
  rintro e w4 ⟨ad4, n4, cap4, us4, rfl, r4, bl⟩
  have z4 := bl.size
  replace sVectors := sVectors.below bl (by omega)
  replace sCoefficients := sCoefficients.below bl (by omega)
  replace r3 := r3.below bl (by omega)
  replace frm := frm.trans (bl.mono (by omega))
  clear bl
  have q4 : n4 ≤ 1048576 := by have h1 := r4.len; have h2 := sVectors.len; omega
  go_wp2_with fail
  go_at_call 35
  refine (toI _ sCoefficients (by omega)).mono ?_
  rintro e w5 ⟨ad5, n5, cap5, rfl, r5, bl⟩
  have z5 := bl.size
  replace sVectors := sVectors.below bl (by omega)
  replace sCoefficients := sCoefficients.below bl (by omega)
  replace r3 := r3.below bl (by omega)
  replace r4 := r4.below bl (by omega)
  replace frm := frm.trans (bl.mono (by omega))
  clear bl
  have q5 : n5 ≤ 1048576 := by have h1 := r5.len; have h2 := sCoefficients.len; omega
  go_wp2_with fail
  go_at_call 30
  refine (HI.out _ _ _ _ _ _ r4.sls (by omega) hrowVectors.out  _ _ _ _ _ r5.sl (by omega)).mono ?_
  rintro e w6 ⟨ad6, n6, cap6, rfl, r6, bl⟩
  have z6 := bl.size
  replace sVectors := sVectors.below bl (by omega)
  replace sCoefficients := sCoefficients.below bl (by omega)
  replace r3 := r3.below bl (by omega)
  replace r4 := r4.below bl (by omega)
  replace r5 := r5.below bl (by omega)
  replace frm := frm.trans (bl.mono (by omega))
  clear bl
  have q6 : n6 ≤ 17592186044416 := by have h1 := r6.len; omega
  go_wp2_with fail
  go_at_call 36
  refine (eqI _ r6.sl r3.sl (by omega) rfl).mono ?_
  rintro e w7 ⟨rfl, bl⟩
  have z7 := bl.size
  replace sVectors := sVectors.below bl (by omega)
  replace sCoefficients := sCoefficients.below bl (by omega)
  replace r3 := r3.below bl (by omega)
  replace r4 := r4.below bl (by omega)
  replace r5 := r5.below bl (by omega)
  replace r6 := r6.below bl (by omega)
  replace frm := frm.trans (bl.mono (by omega))
  clear bl
  go_wp2_with fail
  go_at_call 44
  refine (toSS _ sVectors (by omega) hrowVectors.out).mono ?_
  rintro e w8 ⟨ad8, n8, cap8, us8, rfl, r8, bl⟩
  have z8 := bl.size
  replace sVectors := sVectors.below bl (by omega)
  replace sCoefficients := sCoefficients.below bl (by omega)
  replace r3 := r3.below bl (by omega)
  replace r4 := r4.below bl (by omega)
  replace r5 := r5.below bl (by omega)
  replace r6 := r6.below bl (by omega)
  replace frm := frm.trans (bl.mono (by omega))
  clear bl
  have q8 : n8 ≤ 1048576 := by have h1 := r8.len; have h2 := sVectors.len; omega
  go_wp2_with fail
  go_at_call 45
  refine (eqSS _ r4.sls r8.sls (by omega) hrowVectors.out rfl).mono ?_
  rintro e w9 ⟨rfl, bl⟩
  have z9 := bl.size
  replace sVectors := sVectors.below bl (by omega)
  replace sCoefficients := sCoefficients.below bl (by omega)
  replace r3 := r3.below bl (by omega)
  replace r4 := r4.below bl (by omega)
  replace r5 := r5.below bl (by omega)
  replace r6 := r6.below bl (by omega)
  replace frm := frm.trans (bl.mono (by omega))
  clear bl
  clear r8
  go_wp2_with fail
  go_at_call 35
  refine (toI _ sCoefficients (by omega)).mono ?_
  rintro e w10 ⟨ad10, n10, cap10, rfl, r10, bl⟩
  have z10 := bl.size
  replace sVectors := sVectors.below bl (by omega)
  replace sCoefficients := sCoefficients.below bl (by omega)
  replace r3 := r3.below bl (by omega)
  replace r4 := r4.below bl (by omega)
  replace r5 := r5.below bl (by omega)
  replace r6 := r6.below bl (by omega)
  replace frm := frm.trans (bl.mono (by omega))
  clear bl
  have q10 : n10 ≤ 1048576 := by have h1 := r10.len; have h2 := sCoefficients.len; omega
  go_wp2_with fail
  go_at_call 36
  refine (eqI _ r5.sl r10.sl (by omega) rfl).mono ?_
  rintro e w11 ⟨rfl, bl⟩
  have z11 := bl.size
  replace sVectors := sVectors.below bl (by omega)
  replace sCoefficients := sCoefficients.below bl (by omega)
  replace r3 := r3.below bl (by omega)
  replace r4 := r4.below bl (by omega)
  replace r5 := r5.below bl (by omega)
  replace r6 := r6.below bl (by omega)
  replace frm := frm.trans (bl.mono (by omega))
  clear bl
  clear r10
  go_wp2_with fail
  go_at_call 46
  refine (markSS _ r4 (by omega) (by omega) 1 (by omega) (by omega)).mono ?_
  rintro e w13 ⟨rfl, new, mv⟩
  have z13 := mv.size
  replace sVectors := sVectors.mv mv (by omega)
  replace sCoefficients := sCoefficients.mv mv (by omega)
  replace r3 := r3.mv mv (by omega)
  replace r5 := r5.mv mv (by omega)
  replace r6 := r6.mv mv (by omega)
  replace frm := frm.trans (mv.below (by omega) (by omega))
  clear new mv
  clear r4
  go_wp2_with fail
  go_at_call 37
  refine (markI _ r5 (by omega) (1 + (sumLen xsVectors : Int)) (by omega) (by omega)).mono ?_
  rintro e w14 ⟨rfl, new, mv⟩
  have z14 := mv.size
  replace sVectors := sVectors.mv mv (by omega)
  replace sCoefficients := sCoefficients.mv mv (by omega)
  replace r3 := r3.mv mv (by omega)
  replace r6 := r6.mv mv (by omega)
  replace frm := frm.trans (mv.below (by omega) (by omega))
  clear new mv
  clear r5
  go_wp2_with fail
  go_at_call 36
  refine (eqI _ r6.sl r3.sl (by omega) rfl).mono ?_
  rintro e w15 ⟨rfl, bl⟩
  have z15 := bl.size
  replace sVectors := sVectors.below bl (by omega)
  replace sCoefficients := sCoefficients.below bl (by omega)
  replace r3 := r3.below bl (by omega)
  replace r6 := r6.below bl (by omega)
  replace frm := frm.trans (bl.mono (by omega))
  clear bl
  go_wp2_with fail
  go_at_call 37
  refine (markI _ r6 (by omega) 1 (by omega) (by omega)).mono ?_
  rintro e w17 ⟨rfl, new, mv⟩
  have z17 := mv.size
  replace sVectors := sVectors.mv mv (by omega)
  replace sCoefficients := sCoefficients.mv mv (by omega)
  replace r3 := r3.mv mv (by omega)
  replace frm := frm.trans (mv.below (by omega) (by omega))
  have r6m := new
  clear new mv
  go_wp2_with fail
  go_at_call 38
  refine (heldI _ 1 r6m.sl (by omega) (by omega) (by omega)).mono ?_
  rintro e w19 ⟨rfl, bl⟩
  have z19 := bl.size
  replace sVectors := sVectors.below bl (by omega)
  replace sCoefficients := sCoefficients.below bl (by omega)
  replace r3 := r3.below bl (by omega)
  replace r6m := r6m.below bl (by omega)
  replace frm := frm.trans (bl.mono (by omega))
  clear bl
  go_wp2_with fail
  go_at_call 44
  refine (toSS _ sVectors (by omega) hrowVectors.out).mono ?_
  rintro e w20 ⟨ad20, n20, cap20, us20, rfl, r20, bl⟩
  have z20 := bl.size
  replace sCoefficients := sCoefficients.below bl (by omega)
  replace r3 := r3.below bl (by omega)
  replace r6m := r6m.below bl (by omega)
  replace frm := frm.trans (bl.mono (by omega))
  clear bl
  have q20 : n20 ≤ 1048576 := by have h1 := r20.len; have h2 := sVectors.len; omega
  go_wp2_with fail
  go_at_call 35
  refine (toI _ sCoefficients (by omega)).mono ?_
  rintro e w21 ⟨ad21, n21, cap21, rfl, r21, bl⟩
  have z21 := bl.size
  replace r3 := r3.below bl (by omega)
  replace r6m := r6m.below bl (by omega)
  replace r20 := r20.below bl (by omega)
  replace frm := frm.trans (bl.mono (by omega))
  clear bl
  have q21 : n21 ≤ 1048576 := by have h1 := r21.len; have h2 := sCoefficients.len; omega
  go_wp2_with fail
  go_at_call 30
  refine (HI.out _ _ _ _ _ _ r20.sls (by omega) hrowVectors.out  _ _ _ _ _ r21.sl (by omega)).mono ?_
  rintro e w22 ⟨ad22, n22, cap22, rfl, r22, bl⟩
  have z22 := bl.size
  replace r3 := r3.below bl (by omega)
  replace r6m := r6m.below bl (by omega)
  replace frm := frm.trans (bl.mono (by omega))
  clear bl
  have q22 : n22 ≤ 17592186044416 := by have h1 := r22.len; omega
  clear r20
  clear r21
  go_wp2_with fail
  go_at_call 36
  refine (eqI _ r22.sl r3.sl (by omega) rfl).mono ?_
  rintro e w23 ⟨rfl, bl⟩
  have z23 := bl.size
  replace r6m := r6m.below bl (by omega)
  replace frm := frm.trans (bl.mono (by omega))
  clear bl
  clear r3
  clear r22
  go_wp2_with fail
  go_at_call 38
  refine (heldI _ 1 r6m.sl (by omega) (by omega) (by omega)).mono ?_
  rintro e w25 ⟨rfl, bl⟩
  have z25 := bl.size
  replace frm := frm.trans (bl.mono (by omega))
  clear bl
  clear r6m
  go_wp2
  go_ret
  exact ⟨rfl, frm⟩

set_option maxRecDepth 100000 in
theorem exactEqualVectors (w : World) (vA : Value) (adA : Option Addr) (nA capA : Nat) (iaA : Kit.IntsAt .i64 w vA adA nA capA) (vB : Value) (adB : Option Addr) (nB capB : Nat) (iaB : Kit.IntsAt .i64 w vB adB nB capB) :
    Calls Try.prog 13 #[vA, vB] w fun e w' => e = .returned (.bool true) ∧ Below w.heap.size w w' := by
  obtain ⟨xsA, rfl, sA⟩ := of_ints iaA
  clear iaA
  obtain ⟨xsB, rfl, sB⟩ := of_ints iaB
  clear iaB
  rcases Nat.lt_or_ge 1048576 nA with bigA | bigA
  · go_enter Try.func13, Try.ntmps13
    go_wp2
    go_ret
    exact ⟨rfl, Below.refl _ _⟩
  rcases Nat.lt_or_ge 1048576 nB with bigB | bigB
  · go_enter Try.func13, Try.ntmps13
    go_wp2
    go_ret
    exact ⟨rfl, Below.refl _ _⟩
  have frm := Below.refl w.heap.size w
  have cS := fun (w' : World) (lA hA : Nat) (adA : Option Addr) (nA capA : Nat) (sA : Sl w' lA hA .i64 adA nA capA xsA) (hnA : nA ≤ 1048576) (lB hB : Nat) (adB : Option Addr) (nB capB : Nat) (sB : Sl w' lB hB .i64 adB nB capB xsB) (hnB : nB ≤ 1048576) => (fun w' s h s2 _ => EqV.spec_eqV w' s s2 h) w' sA (by omega) sB (by omega)
  have cI := fun (w' : World) (lA hA : Nat) (adA : Option Addr) (nA capA : Nat) (sA : Sl w' lA hA .i64 adA nA capA xsA) (hnA : nA ≤ 1048576) (lB hB : Nat) (adB : Option Addr) (nB capB : Nat) (sB : Sl w' lB hB .i64 adB nB capB xsB) (hnB : nB ≤ 1048576) => VecI.eqV w' sA (by omega) sB (by omega)
  generalize hR : Eq.same xsA xsB = R at cS cI
  clear hR
  have HS := Lib.hid cS
  have HI := Lib.hid cI
  clear cS cI
  go_enter Try.func13, Try.ntmps13
  go_wp2_with fail
  go_at_call 35
  refine (toI _ sA (by omega)).mono ?_
  rintro e w1 ⟨ad1, n1, cap1, rfl, r1, bl⟩
  have z1 := bl.size
  replace sA := sA.below bl (by omega)
  replace sB := sB.below bl (by omega)
  replace frm := frm.trans (bl.mono (by omega))
  clear bl
  have q1 : n1 ≤ 1048576 := by have h1 := r1.len; have h2 := sA.len; omega
  go_wp2_with fail
  go_at_call 35
  refine (toI _ sB (by omega)).mono ?_
  rintro e w2 ⟨ad2, n2, cap2, rfl, r2, bl⟩
  have z2 := bl.size
  replace sA := sA.below bl (by omega)
  replace sB := sB.below bl (by omega)
  replace r1 := r1.below bl (by omega)
  replace frm := frm.trans (bl.mono (by omega))
  clear bl
  have q2 : n2 ≤ 1048576 := by have h1 := r2.len; have h2 := sB.len; omega
  go_wp2_with fail
  go_at_call 47
  refine (HS.out _ _ _ _ _ _ r1.sl (by omega)  _ _ _ _ _ r2.sl (by omega)).mono ?_
  rintro e w3 ⟨rfl, bl⟩
  have z3 := bl.size
  replace sA := sA.below bl (by omega)
  replace sB := sB.below bl (by omega)
  replace frm := frm.trans (bl.mono (by omega))
  clear bl
  clear r1
  clear r2
  go_wp2_with fail
  go_at_call 35
  refine (toI _ sA (by omega)).mono ?_
  rintro e w4 ⟨ad4, n4, cap4, rfl, r4, bl⟩
  have z4 := bl.size
  replace sA := sA.below bl (by omega)
  replace sB := sB.below bl (by omega)
  replace frm := frm.trans (bl.mono (by omega))
  clear bl
  have q4 : n4 ≤ 1048576 := by have h1 := r4.len; have h2 := sA.len; omega
  go_wp2_with fail
  go_at_call 35
  refine (toI _ sB (by omega)).mono ?_
  rintro e w5 ⟨ad5, n5, cap5, rfl, r5, bl⟩
  have z5 := bl.size
  replace sA := sA.below bl (by omega)
  replace sB := sB.below bl (by omega)
  replace r4 := r4.below bl (by omega)
  replace frm := frm.trans (bl.mono (by omega))
  clear bl
  have q5 : n5 ≤ 1048576 := by have h1 := r5.len; have h2 := sB.len; omega
  go_wp2_with fail
  go_at_call 48
  refine (HI.out _ _ _ _ _ _ r4.sl (by omega)  _ _ _ _ _ r5.sl (by omega)).mono ?_
  rintro e w6 ⟨rfl, bl⟩
  have z6 := bl.size
  replace sA := sA.below bl (by omega)
  replace sB := sB.below bl (by omega)
  replace r4 := r4.below bl (by omega)
  replace r5 := r5.below bl (by omega)
  replace frm := frm.trans (bl.mono (by omega))
  clear bl
  go_wp2_with fail
  go_at_call 35
  refine (toI _ sA (by omega)).mono ?_
  rintro e w7 ⟨ad7, n7, cap7, rfl, r7, bl⟩
  have z7 := bl.size
  replace sB := sB.below bl (by omega)
  replace r4 := r4.below bl (by omega)
  replace r5 := r5.below bl (by omega)
  replace frm := frm.trans (bl.mono (by omega))
  clear bl
  have q7 : n7 ≤ 1048576 := by have h1 := r7.len; have h2 := sA.len; omega
  go_wp2_with fail
  go_at_call 36
  refine (eqI _ r4.sl r7.sl (by omega) rfl).mono ?_
  rintro e w8 ⟨rfl, bl⟩
  have z8 := bl.size
  replace sB := sB.below bl (by omega)
  replace r5 := r5.below bl (by omega)
  replace frm := frm.trans (bl.mono (by omega))
  clear bl
  clear r4
  clear r7
  go_wp2_with fail
  go_at_call 35
  refine (toI _ sB (by omega)).mono ?_
  rintro e w9 ⟨ad9, n9, cap9, rfl, r9, bl⟩
  have z9 := bl.size
  replace r5 := r5.below bl (by omega)
  replace frm := frm.trans (bl.mono (by omega))
  clear bl
  have q9 : n9 ≤ 1048576 := by have h1 := r9.len; have h2 := sB.len; omega
  go_wp2_with fail
  go_at_call 36
  refine (eqI _ r5.sl r9.sl (by omega) rfl).mono ?_
  rintro e w10 ⟨rfl, bl⟩
  have z10 := bl.size
  replace frm := frm.trans (bl.mono (by omega))
  clear bl
  clear r5
  clear r9
  go_wp2
  go_ret
  exact ⟨rfl, frm⟩

end Go.Proofs.Ytecijpfcnhbkcaa.LawVecEx
